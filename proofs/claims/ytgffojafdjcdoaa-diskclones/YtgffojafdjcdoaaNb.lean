/- Disks that no call gave: nil, or a plain Disk. -/
import Derived.Test.YtgffojafdjcdoaaLn
import Derived.BigQuiet
import Derived.Laws.ResultCell
import Derived.Lib.QuietBelow
import Derived.Maps.AppendAt
namespace Go.Proofs.Ytgffojafdjcdoaa.Nb
open Go.ChangeShapes Go.WideShapes Go.ChangeAt Go.RowKit
open Go.Sort
open Go.Proofs.Ytgffojafdjcdoaa.By
open Go.Proofs.Ytgffojafdjcdoaa.Ln
set_option linter.unusedVariables false

/-- A disk that is none: nil, or one that New did not give. -/
def Non (w : World) (p : Option Addr) : Prop := ∀ g, p = some g → g.block < w.heap.size ∧ g = ⟨g.block, 0, none⟩ ∧ w.heap[g.block]? = some (.cells #[.map none, .int .i64 0, .int .i64 0, .int .i64 0, .int .i64 0] 50 (0, 0))
theorem Non.later {w w' : World} {p : Option Addr} (h : Non w p) (b : Below w.heap.size w w') : Non w' p := by
  intro g hg
  obtain ⟨h1, h2, h3⟩ := h g hg
  exact ⟨by have := b.size; omega, h2, (b.block _ h1).trans h3⟩
set_option maxRecDepth 10000 in
theorem isnone_non (p : Option Addr) (w : World) (H : Non w p) : Calls Try.prog 47 #[.pointer p] w fun e w' => e = .returned (.bool true) ∧ w' = w := by
  cases p with
  | none =>
    go_enter Try.func47, Try.ntmps47
    go_wp2
    go_ret
    exact ⟨rfl, rfl⟩
  | some g =>
    obtain ⟨h1, h2, h3⟩ := H g rfl
    obtain ⟨gb, go, gp⟩ := g
    simp at h2
    obtain ⟨rfl, rfl⟩ := h2
    have c0 : w.cell? ⟨gb, 0, none⟩ = some (.map none) := cell_of_row w gb 0 _ 50 (0, 0) h3
    have hE : Sem.run Try.prog (binOp .eql 46 (.map none) (.map none)) w = .ok (.bool true) w := by kernel_rfl
    clear h3 h1 H
    go_enter Try.func47, Try.ntmps47
    go_wp2
    go_ret
    exact ⟨rfl, rfl⟩
set_option maxRecDepth 10000 in
theorem find_non (p : Option Addr) (s : ByteArray) (w : World) (H : Non w p) : Calls Try.prog 51 #[.pointer p, .string s] w fun e w' => e = .returned (.tuple #[.agg #[.slice none 0 0, .int .i64 0], .int .i64 1]) ∧ Below w.heap.size w w' := by
  have bb := box_below w (.cells #[.slice none 0 0, .int .i64 0] 83)
  have HN := hid (H.later bb)
  have BB := hid bb
  clear H bb
  go_enter Try.func51, Try.ntmps51
  go_wp2_with fail
  refine (isnone_non p _ HN.out).mono ?_
  rintro e w' ⟨rfl, rfl⟩
  go_wp2_with fail
  (try simp only [Exit.inBlock, Exit.then])
  refine bodyPost_ret (v := .tuple #[.agg #[.slice none 0 0, .int .i64 0], .int .i64 1]) (by rw [results_cell_tmp rfl]; go_simp) rfl ?_
  exact ⟨rfl, BB.out⟩
theorem setquota_non (p : Option Addr) (n : Int) (w : World) (H : Non w p) : Calls Try.prog 34 #[.pointer p, .int .i64 n] w fun e w' => e = .returned (.int .i64 1) ∧ w' = w := by
  have HN := hid H
  clear H
  go_enter Try.func34, Try.ntmps34
  go_wp2_with fail
  refine (isnone_non p w HN.out).mono ?_
  rintro e w' ⟨rfl, rfl⟩
  go_wp2_with fail
  go_ret
  exact ⟨rfl, rfl⟩
theorem refuse_non (p : Option Addr) (a n : Int) (w : World) (H : Non w p) : Calls Try.prog 26 #[.pointer p, .int .i64 a, .int .i64 n] w fun e w' => e = .returned (.int .i64 1) ∧ w' = w := by
  have HN := hid H
  clear H
  go_enter Try.func26, Try.ntmps26
  go_wp2_with fail
  refine (isnone_non p w HN.out).mono ?_
  rintro e w' ⟨rfl, rfl⟩
  go_wp2_with fail
  go_ret
  exact ⟨rfl, rfl⟩
theorem crash_non (p : Option Addr) (v : Value) (w : World) (H : Non w p) : Calls Try.prog 24 #[.pointer p, v] w fun e w' => e = .returned (.int .i64 1) ∧ w' = w := by
  have HN := hid H
  clear H
  go_enter Try.func24, Try.ntmps24
  go_wp2_with fail
  refine (isnone_non p w HN.out).mono ?_
  rintro e w' ⟨rfl, rfl⟩
  go_wp2_with fail
  go_ret
  exact ⟨rfl, rfl⟩
theorem list_non (p : Option Addr) (w : World) (H : Non w p) : Calls Try.prog 20 #[.pointer p] w fun e w' => e = .returned (.slice none 0 0) ∧ w' = w := by
  have HN := hid H
  clear H
  go_enter Try.func20, Try.ntmps20
  go_wp2_with fail
  refine (isnone_non p w HN.out).mono ?_
  rintro e w' ⟨rfl, rfl⟩
  go_wp2_with fail
  go_ret
  exact ⟨rfl, rfl⟩
theorem used_non (p : Option Addr) (w : World) (H : Non w p) : Calls Try.prog 21 #[.pointer p] w fun e w' => e = .returned (.int .i64 0) ∧ w' = w := by
  have HN := hid H
  clear H
  go_enter Try.func21, Try.ntmps21
  go_wp2_with fail
  refine (isnone_non p w HN.out).mono ?_
  rintro e w' ⟨rfl, rfl⟩
  go_wp2_with fail
  go_ret
  exact ⟨rfl, rfl⟩
theorem quota_non (p : Option Addr) (w : World) (H : Non w p) : Calls Try.prog 22 #[.pointer p] w fun e w' => e = .returned (.int .i64 0) ∧ w' = w := by
  have HN := hid H
  clear H
  go_enter Try.func22, Try.ntmps22
  go_wp2_with fail
  refine (isnone_non p w HN.out).mono ?_
  rintro e w' ⟨rfl, rfl⟩
  go_wp2_with fail
  go_ret
  exact ⟨rfl, rfl⟩
theorem refused_non (p : Option Addr) (w : World) (H : Non w p) : Calls Try.prog 23 #[.pointer p] w fun e w' => e = .returned (.int .i64 0) ∧ w' = w := by
  have HN := hid H
  clear H
  go_enter Try.func23, Try.ntmps23
  go_wp2_with fail
  refine (isnone_non p w HN.out).mono ?_
  rintro e w' ⟨rfl, rfl⟩
  go_wp2_with fail
  go_ret
  exact ⟨rfl, rfl⟩
theorem clone_non (p : Option Addr) (w : World) (H : Non w p) : Calls Try.prog 14 #[.pointer p] w fun e w' => e = .returned (.pointer none) ∧ w' = w := by
  have HN := hid H
  clear H
  go_enter Try.func14, Try.ntmps14
  go_wp2_with fail
  refine (isnone_non p w HN.out).mono ?_
  rintro e w' ⟨rfl, rfl⟩
  go_wp2_with fail
  go_ret
  exact ⟨rfl, rfl⟩
set_option maxRecDepth 10000 in
theorem create_non (p : Option Addr) (s : ByteArray) (w : World) (H : Non w p) : Calls Try.prog 27 #[.pointer p, .string s] w fun e w' => e = .returned (.int .i64 1) ∧ Below w.heap.size w w' := by
  have HF := hid (find_non p s w H)
  clear H
  go_enter Try.func27, Try.ntmps27
  go_wp2_with fail
  refine HF.out.mono ?_
  rintro e w' ⟨rfl, b⟩
  have bb : Hid (Below w.heap.size w (w'.alloc (.cells #[.slice none 0 0, .int .i64 0] 83))) := b.alloc b.size _
  clear b
  go_wp2_with fail
  go_ret
  exact ⟨rfl, bb.out⟩
set_option maxRecDepth 10000 in
theorem append_non (p : Option Addr) (s : ByteArray) (v : Value) (w : World) (H : Non w p) : Calls Try.prog 28 #[.pointer p, .string s, v] w fun e w' => e = .returned (.int .i64 1) ∧ Below w.heap.size w w' := by
  have HF := hid (find_non p s w H)
  clear H
  go_enter Try.func28, Try.ntmps28
  go_wp2_with fail
  refine HF.out.mono ?_
  rintro e w' ⟨rfl, b⟩
  have bb : Hid (Below w.heap.size w (w'.alloc (.cells #[.slice none 0 0, .int .i64 0] 83))) := b.alloc b.size _
  clear b
  go_wp2_with fail
  go_ret
  exact ⟨rfl, bb.out⟩
set_option maxRecDepth 10000 in
theorem sync_non (p : Option Addr) (s : ByteArray) (w : World) (H : Non w p) : Calls Try.prog 31 #[.pointer p, .string s] w fun e w' => e = .returned (.int .i64 1) ∧ Below w.heap.size w w' := by
  have HF := hid (find_non p s w H)
  clear H
  go_enter Try.func31, Try.ntmps31
  go_wp2_with fail
  refine HF.out.mono ?_
  rintro e w' ⟨rfl, b⟩
  have bb : Hid (Below w.heap.size w (w'.alloc (.cells #[.slice none 0 0, .int .i64 0] 83))) := b.alloc b.size _
  clear b
  go_wp2_with fail
  go_ret
  exact ⟨rfl, bb.out⟩
set_option maxRecDepth 10000 in
theorem rename_non (p : Option Addr) (s : ByteArray) (s2 : ByteArray) (w : World) (H : Non w p) : Calls Try.prog 32 #[.pointer p, .string s, .string s2] w fun e w' => e = .returned (.int .i64 1) ∧ Below w.heap.size w w' := by
  have HF := hid (find_non p s w H)
  clear H
  go_enter Try.func32, Try.ntmps32
  go_wp2_with fail
  refine HF.out.mono ?_
  rintro e w' ⟨rfl, b⟩
  have bb : Hid (Below w.heap.size w (w'.alloc (.cells #[.slice none 0 0, .int .i64 0] 83))) := b.alloc b.size _
  clear b
  go_wp2_with fail
  go_ret
  exact ⟨rfl, bb.out⟩
set_option maxRecDepth 10000 in
theorem remove_non (p : Option Addr) (s : ByteArray) (w : World) (H : Non w p) : Calls Try.prog 33 #[.pointer p, .string s] w fun e w' => e = .returned (.int .i64 1) ∧ Below w.heap.size w w' := by
  have HF := hid (find_non p s w H)
  clear H
  go_enter Try.func33, Try.ntmps33
  go_wp2_with fail
  refine HF.out.mono ?_
  rintro e w' ⟨rfl, b⟩
  have bb : Hid (Below w.heap.size w (w'.alloc (.cells #[.slice none 0 0, .int .i64 0] 83))) := b.alloc b.size _
  clear b
  go_wp2_with fail
  go_ret
  exact ⟨rfl, bb.out⟩
set_option maxRecDepth 10000 in
theorem read_non (p : Option Addr) (s : ByteArray) (a n : Int) (w : World) (H : Non w p) : Calls Try.prog 18 #[.pointer p, .string s, .int .i64 a, .int .i64 n] w fun e w' => e = .returned (.tuple #[.slice none 0 0, .int .i64 1]) ∧ Below w.heap.size w w' := by
  have HF := hid (find_non p s w H)
  clear H
  go_enter Try.func18, Try.ntmps18
  go_wp2_with fail
  refine HF.out.mono ?_
  rintro e w' ⟨rfl, b⟩
  have bb : Hid (Below w.heap.size w (w'.alloc (.cells #[.slice none 0 0, .int .i64 0] 83))) := b.alloc b.size _
  clear b
  go_wp2_with fail
  go_ret2
  exact ⟨rfl, bb.out⟩
set_option maxRecDepth 10000 in
theorem size_non (p : Option Addr) (s : ByteArray) (w : World) (H : Non w p) : Calls Try.prog 19 #[.pointer p, .string s] w fun e w' => e = .returned (.tuple #[.int .i64 0, .int .i64 0, .int .i64 1]) ∧ Below w.heap.size w w' := by
  have HF := hid (find_non p s w H)
  clear H
  go_enter Try.func19, Try.ntmps19
  go_wp2_with fail
  refine HF.out.mono ?_
  rintro e w' ⟨rfl, b⟩
  have bb : Hid (Below w.heap.size w (w'.alloc (.cells #[.slice none 0 0, .int .i64 0] 83))) := b.alloc b.size _
  clear b
  go_wp2_with fail
  go_quiet (fail)
  go_wp2_with fail
  go_ret3
  exact ⟨rfl, below_drewN bb.out _⟩
theorem same_nil (w : World) : Calls Try.prog 16 #[.pointer none, .pointer none] w fun e w' => e = .returned (.bool true) ∧ w' = w := by
  have HN : Hid (Non w none) := fun g h => nomatch h
  go_enter Try.func16, Try.ntmps16
  go_wp2_with fail
  refine (isnone_non none w HN.out).mono ?_
  rintro e w' ⟨rfl, rfl⟩
  go_wp2_with fail
  go_ret
  exact ⟨rfl, rfl⟩
end Go.Proofs.Ytgffojafdjcdoaa.Nb

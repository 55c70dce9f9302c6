/- Memtables, cursors and queues that are none: nil ones and plain ones. -/
import Derived.Test.YtefihoohdaegeaaQv
import Derived.Test.YtefihoohdaegeaaCr
namespace Go.Proofs.Ytefihoohdaegeaa.Nn
open Go.ChangeShapes Go.WideShapes Go.ChangeAt Go.RowKit Go.Shelf
open Go.Proofs.Ytefihoohdaegeaa.Lx (hid)
open Go.Proofs.Ytefihoohdaegeaa.Mm (box_below)
open Go.Proofs.Ytefihoohdaegeaa.Tr (new_at cell_of size_alloc blk_lt)
set_option linter.unusedVariables false
set_option linter.unusedSimpArgs false

/-- A memtable that is none. -/
def NoT (w : World) (p : Option Addr) : Prop := p = none ∨ ∃ g, p = some ⟨g, 0, none⟩ ∧ w.heap[g]? = some (.cells #[.int .i64 0, .bool false, .pointer none, .pointer none, .map none, .int .i64 0, .int .u64 0, .int .u64 0] 80)
theorem NoT.later {w w' : World} {p : Option Addr} (h : NoT w p) (b : Below w.heap.size w w') : NoT w' p := by
  rcases h with h | ⟨g, e, h⟩
  · exact .inl h
  · exact .inr ⟨g, e, (b.block g (blk_lt h)).trans h⟩
/-- A cursor that is none. -/
def NoC (w : World) (p : Option Addr) : Prop := p = none ∨ ∃ g, p = some ⟨g, 0, none⟩ ∧ w.heap[g]? = some (.cells #[.pointer none, .int .i64 0] 88)
theorem NoC.later {w w' : World} {p : Option Addr} (h : NoC w p) (b : Below w.heap.size w w') : NoC w' p := by
  rcases h with h | ⟨g, e, h⟩
  · exact .inl h
  · exact .inr ⟨g, e, (b.block g (blk_lt h)).trans h⟩
/-- A queue that is none. -/
def NoQ (w : World) (p : Option Addr) : Prop := p = none ∨ ∃ g, p = some ⟨g, 0, none⟩ ∧ w.heap[g]? = some (.cells #[.pointer none, .slice none 0 0] 91)
theorem NoQ.later {w w' : World} {p : Option Addr} (h : NoQ w p) (b : Below w.heap.size w w') : NoQ w' p := by
  rcases h with h | ⟨g, e, h⟩
  · exact .inl h
  · exact .inr ⟨g, e, (b.block g (blk_lt h)).trans h⟩
theorem tnone_any (p : Option Addr) (w : World) (H : NoT w p) : Calls Try.prog 57 #[.pointer p] w fun e w' => e = .returned (.bool true) ∧ w' = w := by
  rcases H with rfl | ⟨g, rfl, H⟩
  · go_enter Try.func57, Try.ntmps57
    go_wp2
    go_ret
    exact ⟨rfl, rfl⟩
  · have c2 := cell_of H 2 (.pointer none) rfl
    clear H
    go_enter Try.func57, Try.ntmps57
    go_wp2
    go_ret
    exact ⟨rfl, rfl⟩
theorem cnone_any (p : Option Addr) (w : World) (H : NoC w p) : Calls Try.prog 59 #[.pointer p] w fun e w' => e = .returned (.bool true) ∧ w' = w := by
  rcases H with rfl | ⟨g, rfl, H⟩
  · go_enter Try.func59, Try.ntmps59
    go_wp2
    go_ret
    exact ⟨rfl, rfl⟩
  · have c2 := cell_of H 0 (.pointer none) rfl
    clear H
    go_enter Try.func59, Try.ntmps59
    go_wp2
    go_ret
    exact ⟨rfl, rfl⟩
theorem qnone_any (p : Option Addr) (w : World) (H : NoQ w p) : Calls Try.prog 61 #[.pointer p] w fun e w' => e = .returned (.bool true) ∧ w' = w := by
  rcases H with rfl | ⟨g, rfl, H⟩
  · go_enter Try.func61, Try.ntmps61
    go_wp2
    go_ret
    exact ⟨rfl, rfl⟩
  · have c2 := cell_of H 0 (.pointer none) rfl
    have HN := hid (tnone_any none w (.inl rfl))
    clear H
    go_enter Try.func61, Try.ntmps61
    go_wp2_with fail
    refine HN.out.mono ?_
    rintro e w1 ⟨rfl, rfl⟩
    go_wp2_with fail
    go_ret
    exact ⟨rfl, rfl⟩
theorem tlog (p : Option Addr) (w : World) (H : NoT w p) : Calls Try.prog 29 #[.pointer p] w fun e w' => e = .returned (.int .i64 0) ∧ w' = w := by
  have HN := hid (tnone_any p w H)
  clear H
  go_enter Try.func29, Try.ntmps29
  go_wp2_with fail
  refine HN.out.mono ?_
  rintro e w1 ⟨rfl, rfl⟩
  go_wp2_with fail
  go_ret
  exact ⟨rfl, rfl⟩
theorem tlen (p : Option Addr) (w : World) (H : NoT w p) : Calls Try.prog 30 #[.pointer p] w fun e w' => e = .returned (.int .i64 0) ∧ w' = w := by
  have HN := hid (tnone_any p w H)
  clear H
  go_enter Try.func30, Try.ntmps30
  go_wp2_with fail
  refine HN.out.mono ?_
  rintro e w1 ⟨rfl, rfl⟩
  go_wp2_with fail
  go_ret
  exact ⟨rfl, rfl⟩
theorem tsize (p : Option Addr) (w : World) (H : NoT w p) : Calls Try.prog 31 #[.pointer p] w fun e w' => e = .returned (.int .i64 0) ∧ w' = w := by
  have HN := hid (tnone_any p w H)
  clear H
  go_enter Try.func31, Try.ntmps31
  go_wp2_with fail
  refine HN.out.mono ?_
  rintro e w1 ⟨rfl, rfl⟩
  go_wp2_with fail
  go_ret
  exact ⟨rfl, rfl⟩
theorem ttombs (p : Option Addr) (w : World) (H : NoT w p) : Calls Try.prog 28 #[.pointer p] w fun e w' => e = .returned (.slice none 0 0) ∧ w' = w := by
  have HN := hid (tnone_any p w H)
  clear H
  go_enter Try.func28, Try.ntmps28
  go_wp2_with fail
  refine HN.out.mono ?_
  rintro e w1 ⟨rfl, rfl⟩
  go_wp2_with fail
  go_ret
  exact ⟨rfl, rfl⟩
theorem tcursor (p : Option Addr) (w : World) (H : NoT w p) : Calls Try.prog 15 #[.pointer p] w fun e w' => e = .returned (.pointer none) ∧ w' = w := by
  have HN := hid (tnone_any p w H)
  clear H
  go_enter Try.func15, Try.ntmps15
  go_wp2_with fail
  refine HN.out.mono ?_
  rintro e w1 ⟨rfl, rfl⟩
  go_wp2_with fail
  go_ret
  exact ⟨rfl, rfl⟩
theorem qactive (p : Option Addr) (w : World) (H : NoQ w p) : Calls Try.prog 22 #[.pointer p] w fun e w' => e = .returned (.pointer none) ∧ w' = w := by
  have HN := hid (qnone_any p w H)
  clear H
  go_enter Try.func22, Try.ntmps22
  go_wp2_with fail
  refine HN.out.mono ?_
  rintro e w1 ⟨rfl, rfl⟩
  go_wp2_with fail
  go_ret
  exact ⟨rfl, rfl⟩
theorem qfreeze (p : Option Addr) (log : Int) (w : World) (H : NoQ w p) : Calls Try.prog 39 #[.pointer p, .int .i64 log] w fun e w' => e = .returned (.int .i64 1) ∧ w' = w := by
  have HN := hid (qnone_any p w H)
  clear H
  go_enter Try.func39, Try.ntmps39
  go_wp2_with fail
  refine HN.out.mono ?_
  rintro e w1 ⟨rfl, rfl⟩
  go_wp2_with fail
  go_ret
  exact ⟨rfl, rfl⟩
theorem qdrop (p : Option Addr) (w : World) (H : NoQ w p) : Calls Try.prog 40 #[.pointer p] w fun e w' => e = .returned (.int .i64 1) ∧ w' = w := by
  have HN := hid (qnone_any p w H)
  clear H
  go_enter Try.func40, Try.ntmps40
  go_wp2_with fail
  refine HN.out.mono ?_
  rintro e w1 ⟨rfl, rfl⟩
  go_wp2_with fail
  go_ret
  exact ⟨rfl, rfl⟩
theorem qfrozen (p : Option Addr) (w : World) (H : NoQ w p) : Calls Try.prog 41 #[.pointer p] w fun e w' => e = .returned (.int .i64 0) ∧ w' = w := by
  have HN := hid (qnone_any p w H)
  clear H
  go_enter Try.func41, Try.ntmps41
  go_wp2_with fail
  refine HN.out.mono ?_
  rintro e w1 ⟨rfl, rfl⟩
  go_wp2_with fail
  go_ret
  exact ⟨rfl, rfl⟩
theorem qtables (p : Option Addr) (w : World) (H : NoQ w p) : Calls Try.prog 42 #[.pointer p] w fun e w' => e = .returned (.slice none 0 0) ∧ w' = w := by
  have HN := hid (qnone_any p w H)
  clear H
  go_enter Try.func42, Try.ntmps42
  go_wp2_with fail
  refine HN.out.mono ?_
  rintro e w1 ⟨rfl, rfl⟩
  go_wp2_with fail
  go_ret
  exact ⟨rfl, rfl⟩
theorem tspan (p : Option Addr) (w : World) (H : NoT w p) : Calls Try.prog 26 #[.pointer p] w fun e w' => e = .returned (.tuple #[.int .u64 0, .int .u64 0]) ∧ w' = w := by
  have HN := hid (tnone_any p w H)
  clear H
  go_enter Try.func26, Try.ntmps26
  go_wp2_with fail
  refine HN.out.mono ?_
  rintro e w1 ⟨rfl, rfl⟩
  go_wp2_with fail
  refine bodyPost_ret (v := .tuple #[.int .u64 0, .int .u64 0]) (by simp [results, Try.results26, go_sem]) rfl ⟨rfl, rfl⟩
theorem cfirst (p : Option Addr) (w : World) (H : NoC w p) : Calls Try.prog 32 #[.pointer p] w fun e w' => e = .returned (.bool false) ∧ w' = w := by
  have HN := hid (cnone_any p w H)
  clear H
  go_enter Try.func32, Try.ntmps32
  go_wp2_with fail
  refine HN.out.mono ?_
  rintro e w1 ⟨rfl, rfl⟩
  go_wp2_with fail
  go_ret
  exact ⟨rfl, rfl⟩
theorem clast (p : Option Addr) (w : World) (H : NoC w p) : Calls Try.prog 33 #[.pointer p] w fun e w' => e = .returned (.bool false) ∧ w' = w := by
  have HN := hid (cnone_any p w H)
  clear H
  go_enter Try.func33, Try.ntmps33
  go_wp2_with fail
  refine HN.out.mono ?_
  rintro e w1 ⟨rfl, rfl⟩
  go_wp2_with fail
  go_ret
  exact ⟨rfl, rfl⟩
theorem qoldest (p : Option Addr) (w : World) (H : NoQ w p) : Calls Try.prog 38 #[.pointer p] w fun e w' => e = .returned (.tuple #[.pointer none, .bool false]) ∧ w' = w := by
  have HN := hid (qfrozen p w H)
  clear H
  go_enter Try.func38, Try.ntmps38
  go_wp2_with fail
  refine HN.out.mono ?_
  rintro e w1 ⟨rfl, rfl⟩
  go_wp2_with fail
  refine bodyPost_ret (v := .tuple #[.pointer none, .bool false]) (by simp [results, Try.results38, go_sem]) rfl ⟨rfl, rfl⟩
theorem tentries (p : Option Addr) (w : World) (H : NoT w p) : Calls Try.prog 27 #[.pointer p] w fun e w' => e = .returned (.slice none 0 0) ∧ Below w.heap.size w w' := by
  have b0 := box_below w (.cells #[.pointer p] 23)
  have HN := hid (tnone_any p _ (H.later b0))
  replace b0 := hid b0
  clear H
  go_enter Try.func27, Try.ntmps27
  go_wp2_with fail
  refine HN.out.mono ?_
  rintro e w1 ⟨rfl, rfl⟩
  go_wp2_with fail
  go_ret
  exact ⟨rfl, b0.out⟩
end Go.Proofs.Ytefihoohdaegeaa.Nn

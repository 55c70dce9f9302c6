/- Nil disks of both kinds; a disk and the document's as a pair. -/
import Derived.Test.YtgffojafdjcdoaaQn
import Derived.Test.YtgffojafdjcdoaaQo
import Derived.Test.YtgffojafdjcdoaaSn
import Derived.Test.YtgffojafdjcdoaaDm
namespace Go.Proofs.Ytgffojafdjcdoaa.Qp
open Go.ChangeShapes Go.WideShapes Go.ChangeAt Go.RowKit Go.Maps
open Go.Sort (grow)
open Go.Proofs.Ytgffojafdjcdoaa.By
open Go.Proofs.Ytgffojafdjcdoaa.Ac
open Go.Proofs.Ytgffojafdjcdoaa.Dk
open Go.Proofs.Ytgffojafdjcdoaa.Nb (Non isnone_non)
open Go.Proofs.Ytgffojafdjcdoaa.Pd
open Go.Proofs.Ytgffojafdjcdoaa.Qa
open Go.Proofs.Ytgffojafdjcdoaa.Qb
open Go.Proofs.Ytgffojafdjcdoaa.Qd (Tk)
open Go.Proofs.Ytgffojafdjcdoaa.Ql (stepR step_rel done_any)
set_option linter.unusedVariables false
set_option linter.unusedSimpArgs false
theorem non_nil (w : World) : Non w none := fun g h => nomatch h
set_option maxRecDepth 100000 in
theorem same_half {base g b : Nat} {P : Nat → Prop} {S : St} (w : World) (H : Disk w base g b P S) : Calls Try.prog 16 #[.pointer (some ⟨g, 0, none⟩), .pointer none] w fun e w' => e = .returned (.bool false) ∧ w' = w := by
  have H1 := hid (Df.isnone_any w H)
  have H2 := hid (isnone_non none w (non_nil w))
  have hE : Sem.run Try.prog (binOp .eql 23 (.pointer (some ⟨g, 0, none⟩)) (.pointer none)) w = .ok (.bool false) w := rfl
  clear H
  go_enter Try.func16, Try.ntmps16
  go_wp2_with fail
  refine H1.out.mono ?_
  rintro e w1 ⟨rfl, hw⟩
  replace hw := hw.symm
  subst hw
  go_wp2_with fail
  refine H2.out.mono ?_
  rintro e w1 ⟨rfl, hw⟩
  replace hw := hw.symm
  subst hw
  go_wp2_with fail
  go_ret
  exact ⟨rfl, rfl⟩
set_option maxRecDepth 100000 in
theorem create_nil (u : Value) (w : World) : Calls Try.prog 35 #[.pointer none, u] w fun e w' => e = .returned (.int .i64 1) ∧ w' = w := by
  go_enter Try.func35, Try.ntmps35
  go_wp2_with fail
  go_ret
  exact ⟨rfl, rfl⟩
set_option maxRecDepth 100000 in
theorem append_nil (u u2 : Value) (w : World) : Calls Try.prog 36 #[.pointer none, u, u2] w fun e w' => e = .returned (.int .i64 1) ∧ w' = w := by
  go_enter Try.func36, Try.ntmps36
  go_wp2_with fail
  go_ret
  exact ⟨rfl, rfl⟩
set_option maxRecDepth 100000 in
theorem sync_nil (u : Value) (w : World) : Calls Try.prog 37 #[.pointer none, u] w fun e w' => e = .returned (.int .i64 1) ∧ w' = w := by
  go_enter Try.func37, Try.ntmps37
  go_wp2_with fail
  go_ret
  exact ⟨rfl, rfl⟩
set_option maxRecDepth 100000 in
theorem rename_nil (u u2 : Value) (w : World) : Calls Try.prog 38 #[.pointer none, u, u2] w fun e w' => e = .returned (.int .i64 1) ∧ w' = w := by
  go_enter Try.func38, Try.ntmps38
  go_wp2_with fail
  go_ret
  exact ⟨rfl, rfl⟩
set_option maxRecDepth 100000 in
theorem remove_nil (u : Value) (w : World) : Calls Try.prog 39 #[.pointer none, u] w fun e w' => e = .returned (.int .i64 1) ∧ w' = w := by
  go_enter Try.func39, Try.ntmps39
  go_wp2_with fail
  go_ret
  exact ⟨rfl, rfl⟩
set_option maxRecDepth 100000 in
theorem quota_nil (u : Value) (w : World) : Calls Try.prog 40 #[.pointer none, u] w fun e w' => e = .returned (.int .i64 1) ∧ w' = w := by
  go_enter Try.func40, Try.ntmps40
  go_wp2_with fail
  go_ret
  exact ⟨rfl, rfl⟩
set_option maxRecDepth 100000 in
theorem refuse_nil (u u2 : Value) (w : World) : Calls Try.prog 41 #[.pointer none, u, u2] w fun e w' => e = .returned (.int .i64 1) ∧ w' = w := by
  go_enter Try.func41, Try.ntmps41
  go_wp2_with fail
  go_ret
  exact ⟨rfl, rfl⟩
set_option maxRecDepth 100000 in
theorem crash_nil (u : Value) (w : World) : Calls Try.prog 42 #[.pointer none, u] w fun e w' => e = .returned (.int .i64 1) ∧ w' = w := by
  go_enter Try.func42, Try.ntmps42
  go_wp2_with fail
  go_ret
  exact ⟨rfl, rfl⟩
set_option maxRecDepth 100000 in
theorem rclone_nil (w : World) : Calls Try.prog 15 #[.pointer none] w fun e w' => e = .returned (.pointer none) ∧ w' = w := by
  go_enter Try.func15, Try.ntmps15
  go_wp2_with fail
  go_ret
  exact ⟨rfl, rfl⟩
set_option maxRecDepth 100000 in
theorem rsame_nil (w : World) : Calls Try.prog 17 #[.pointer none, .pointer none] w fun e w' => e = .returned (.bool true) ∧ w' = w := by
  go_enter Try.func17, Try.ntmps17
  go_wp2_with fail
  go_ret
  exact ⟨rfl, rfl⟩
set_option maxRecDepth 100000 in
set_option maxHeartbeats 2000000 in
theorem done_nil0 (x : A) (w : World) (hx : x.ok w) (hk : x.kind = 0) : Calls Try.prog 12 #[.pointer none, .agg #[.int .i64 x.kind, .string x.name, .string x.to, .slice x.ba x.bl x.bc, .int .i64 x.at_, .int .i64 x.n, .slice x.ka x.kl x.kc]] w fun e w' => e = .returned (.int .i64 1) ∧ Below w.heap.size w w' := by
  obtain ⟨W0, hW0⟩ : ∃ W0, W0 = w.alloc (.cells x.cells 35) := ⟨_, rfl⟩
  have bb : Below w.heap.size w W0 := by rw [hW0]; exact box_below _ _
  have BX : Bx W0 w.heap.size x := by rw [hW0]; exact new_at _ _
  have BB := hid bb
  have HX := hid (hx.later bb)
  have eW : w.alloc (.cells #[.int .i64 x.kind, .string x.name, .string x.to, .slice x.ba x.bl x.bc, .int .i64 x.at_, .int .i64 x.n, .slice x.ka x.kl x.kc] 35) = W0 := by rw [hW0]; rfl
  have c0 : W0.cell? ⟨w.heap.size, 0, none⟩ = some (.int .i64 x.kind) := BX.cell 0
  have c1 : W0.cell? ⟨w.heap.size, 1, none⟩ = some (.string x.name) := BX.cell 1
  have c2 : W0.cell? ⟨w.heap.size, 2, none⟩ = some (.string x.to) := BX.cell 2
  have c3 : W0.cell? ⟨w.heap.size, 3, none⟩ = some (.slice x.ba x.bl x.bc) := BX.cell 3
  have c4 : W0.cell? ⟨w.heap.size, 4, none⟩ = some (.int .i64 x.at_) := BX.cell 4
  have c5 : W0.cell? ⟨w.heap.size, 5, none⟩ = some (.int .i64 x.n) := BX.cell 5
  have c6 : W0.cell? ⟨w.heap.size, 6, none⟩ = some (.slice x.ka x.kl x.kc) := BX.cell 6
  clear hW0 BX bb hx
  rw [hk] at c0 eW
  rw [hk]
  go_enter Try.func12, Try.ntmps12
  go_wp2_with fail
  refine (create_nil _ W0).mono ?_
  rintro e w1 ⟨rfl, hw⟩
  replace hw := hw.symm
  subst hw
  go_wp2_with fail
  go_ret
  exact ⟨rfl, BB.out⟩
set_option maxRecDepth 100000 in
set_option maxHeartbeats 2000000 in
theorem done_nil1 (x : A) (w : World) (hx : x.ok w) (hk : x.kind = 1) : Calls Try.prog 12 #[.pointer none, .agg #[.int .i64 x.kind, .string x.name, .string x.to, .slice x.ba x.bl x.bc, .int .i64 x.at_, .int .i64 x.n, .slice x.ka x.kl x.kc]] w fun e w' => e = .returned (.int .i64 1) ∧ Below w.heap.size w w' := by
  obtain ⟨W0, hW0⟩ : ∃ W0, W0 = w.alloc (.cells x.cells 35) := ⟨_, rfl⟩
  have bb : Below w.heap.size w W0 := by rw [hW0]; exact box_below _ _
  have BX : Bx W0 w.heap.size x := by rw [hW0]; exact new_at _ _
  have BB := hid bb
  have HX := hid (hx.later bb)
  have eW : w.alloc (.cells #[.int .i64 x.kind, .string x.name, .string x.to, .slice x.ba x.bl x.bc, .int .i64 x.at_, .int .i64 x.n, .slice x.ka x.kl x.kc] 35) = W0 := by rw [hW0]; rfl
  have c0 : W0.cell? ⟨w.heap.size, 0, none⟩ = some (.int .i64 x.kind) := BX.cell 0
  have c1 : W0.cell? ⟨w.heap.size, 1, none⟩ = some (.string x.name) := BX.cell 1
  have c2 : W0.cell? ⟨w.heap.size, 2, none⟩ = some (.string x.to) := BX.cell 2
  have c3 : W0.cell? ⟨w.heap.size, 3, none⟩ = some (.slice x.ba x.bl x.bc) := BX.cell 3
  have c4 : W0.cell? ⟨w.heap.size, 4, none⟩ = some (.int .i64 x.at_) := BX.cell 4
  have c5 : W0.cell? ⟨w.heap.size, 5, none⟩ = some (.int .i64 x.n) := BX.cell 5
  have c6 : W0.cell? ⟨w.heap.size, 6, none⟩ = some (.slice x.ka x.kl x.kc) := BX.cell 6
  clear hW0 BX bb hx
  have hcv : Sem.run Try.prog (convert 32 9 (.slice x.ba x.bl x.bc)) W0 = .ok (.string (str x.zs)) W0 := Bytes.conv HX.out.bytes
  rw [hk] at c0 eW
  rw [hk]
  go_enter Try.func12, Try.ntmps12
  go_wp2_with fail
  refine (append_nil _ _ W0).mono ?_
  rintro e w1 ⟨rfl, hw⟩
  replace hw := hw.symm
  subst hw
  go_wp2_with fail
  go_ret
  exact ⟨rfl, BB.out⟩
set_option maxRecDepth 100000 in
set_option maxHeartbeats 2000000 in
theorem done_nil2 (x : A) (w : World) (hx : x.ok w) (hk : x.kind = 2) : Calls Try.prog 12 #[.pointer none, .agg #[.int .i64 x.kind, .string x.name, .string x.to, .slice x.ba x.bl x.bc, .int .i64 x.at_, .int .i64 x.n, .slice x.ka x.kl x.kc]] w fun e w' => e = .returned (.int .i64 1) ∧ Below w.heap.size w w' := by
  obtain ⟨W0, hW0⟩ : ∃ W0, W0 = w.alloc (.cells x.cells 35) := ⟨_, rfl⟩
  have bb : Below w.heap.size w W0 := by rw [hW0]; exact box_below _ _
  have BX : Bx W0 w.heap.size x := by rw [hW0]; exact new_at _ _
  have BB := hid bb
  have HX := hid (hx.later bb)
  have eW : w.alloc (.cells #[.int .i64 x.kind, .string x.name, .string x.to, .slice x.ba x.bl x.bc, .int .i64 x.at_, .int .i64 x.n, .slice x.ka x.kl x.kc] 35) = W0 := by rw [hW0]; rfl
  have c0 : W0.cell? ⟨w.heap.size, 0, none⟩ = some (.int .i64 x.kind) := BX.cell 0
  have c1 : W0.cell? ⟨w.heap.size, 1, none⟩ = some (.string x.name) := BX.cell 1
  have c2 : W0.cell? ⟨w.heap.size, 2, none⟩ = some (.string x.to) := BX.cell 2
  have c3 : W0.cell? ⟨w.heap.size, 3, none⟩ = some (.slice x.ba x.bl x.bc) := BX.cell 3
  have c4 : W0.cell? ⟨w.heap.size, 4, none⟩ = some (.int .i64 x.at_) := BX.cell 4
  have c5 : W0.cell? ⟨w.heap.size, 5, none⟩ = some (.int .i64 x.n) := BX.cell 5
  have c6 : W0.cell? ⟨w.heap.size, 6, none⟩ = some (.slice x.ka x.kl x.kc) := BX.cell 6
  clear hW0 BX bb hx
  rw [hk] at c0 eW
  rw [hk]
  go_enter Try.func12, Try.ntmps12
  go_wp2_with fail
  refine (sync_nil _ W0).mono ?_
  rintro e w1 ⟨rfl, hw⟩
  replace hw := hw.symm
  subst hw
  go_wp2_with fail
  go_ret
  exact ⟨rfl, BB.out⟩
set_option maxRecDepth 100000 in
set_option maxHeartbeats 2000000 in
theorem done_nil3 (x : A) (w : World) (hx : x.ok w) (hk : x.kind = 3) : Calls Try.prog 12 #[.pointer none, .agg #[.int .i64 x.kind, .string x.name, .string x.to, .slice x.ba x.bl x.bc, .int .i64 x.at_, .int .i64 x.n, .slice x.ka x.kl x.kc]] w fun e w' => e = .returned (.int .i64 1) ∧ Below w.heap.size w w' := by
  obtain ⟨W0, hW0⟩ : ∃ W0, W0 = w.alloc (.cells x.cells 35) := ⟨_, rfl⟩
  have bb : Below w.heap.size w W0 := by rw [hW0]; exact box_below _ _
  have BX : Bx W0 w.heap.size x := by rw [hW0]; exact new_at _ _
  have BB := hid bb
  have HX := hid (hx.later bb)
  have eW : w.alloc (.cells #[.int .i64 x.kind, .string x.name, .string x.to, .slice x.ba x.bl x.bc, .int .i64 x.at_, .int .i64 x.n, .slice x.ka x.kl x.kc] 35) = W0 := by rw [hW0]; rfl
  have c0 : W0.cell? ⟨w.heap.size, 0, none⟩ = some (.int .i64 x.kind) := BX.cell 0
  have c1 : W0.cell? ⟨w.heap.size, 1, none⟩ = some (.string x.name) := BX.cell 1
  have c2 : W0.cell? ⟨w.heap.size, 2, none⟩ = some (.string x.to) := BX.cell 2
  have c3 : W0.cell? ⟨w.heap.size, 3, none⟩ = some (.slice x.ba x.bl x.bc) := BX.cell 3
  have c4 : W0.cell? ⟨w.heap.size, 4, none⟩ = some (.int .i64 x.at_) := BX.cell 4
  have c5 : W0.cell? ⟨w.heap.size, 5, none⟩ = some (.int .i64 x.n) := BX.cell 5
  have c6 : W0.cell? ⟨w.heap.size, 6, none⟩ = some (.slice x.ka x.kl x.kc) := BX.cell 6
  clear hW0 BX bb hx
  rw [hk] at c0 eW
  rw [hk]
  go_enter Try.func12, Try.ntmps12
  go_wp2_with fail
  refine (rename_nil _ _ W0).mono ?_
  rintro e w1 ⟨rfl, hw⟩
  replace hw := hw.symm
  subst hw
  go_wp2_with fail
  go_ret
  exact ⟨rfl, BB.out⟩
set_option maxRecDepth 100000 in
set_option maxHeartbeats 2000000 in
theorem done_nil4 (x : A) (w : World) (hx : x.ok w) (hk : x.kind = 4) : Calls Try.prog 12 #[.pointer none, .agg #[.int .i64 x.kind, .string x.name, .string x.to, .slice x.ba x.bl x.bc, .int .i64 x.at_, .int .i64 x.n, .slice x.ka x.kl x.kc]] w fun e w' => e = .returned (.int .i64 1) ∧ Below w.heap.size w w' := by
  obtain ⟨W0, hW0⟩ : ∃ W0, W0 = w.alloc (.cells x.cells 35) := ⟨_, rfl⟩
  have bb : Below w.heap.size w W0 := by rw [hW0]; exact box_below _ _
  have BX : Bx W0 w.heap.size x := by rw [hW0]; exact new_at _ _
  have BB := hid bb
  have HX := hid (hx.later bb)
  have eW : w.alloc (.cells #[.int .i64 x.kind, .string x.name, .string x.to, .slice x.ba x.bl x.bc, .int .i64 x.at_, .int .i64 x.n, .slice x.ka x.kl x.kc] 35) = W0 := by rw [hW0]; rfl
  have c0 : W0.cell? ⟨w.heap.size, 0, none⟩ = some (.int .i64 x.kind) := BX.cell 0
  have c1 : W0.cell? ⟨w.heap.size, 1, none⟩ = some (.string x.name) := BX.cell 1
  have c2 : W0.cell? ⟨w.heap.size, 2, none⟩ = some (.string x.to) := BX.cell 2
  have c3 : W0.cell? ⟨w.heap.size, 3, none⟩ = some (.slice x.ba x.bl x.bc) := BX.cell 3
  have c4 : W0.cell? ⟨w.heap.size, 4, none⟩ = some (.int .i64 x.at_) := BX.cell 4
  have c5 : W0.cell? ⟨w.heap.size, 5, none⟩ = some (.int .i64 x.n) := BX.cell 5
  have c6 : W0.cell? ⟨w.heap.size, 6, none⟩ = some (.slice x.ka x.kl x.kc) := BX.cell 6
  clear hW0 BX bb hx
  rw [hk] at c0 eW
  rw [hk]
  go_enter Try.func12, Try.ntmps12
  go_wp2_with fail
  refine (remove_nil _ W0).mono ?_
  rintro e w1 ⟨rfl, hw⟩
  replace hw := hw.symm
  subst hw
  go_wp2_with fail
  go_ret
  exact ⟨rfl, BB.out⟩
set_option maxRecDepth 100000 in
set_option maxHeartbeats 2000000 in
theorem done_nil5 (x : A) (w : World) (hx : x.ok w) (hk : x.kind = 5) : Calls Try.prog 12 #[.pointer none, .agg #[.int .i64 x.kind, .string x.name, .string x.to, .slice x.ba x.bl x.bc, .int .i64 x.at_, .int .i64 x.n, .slice x.ka x.kl x.kc]] w fun e w' => e = .returned (.int .i64 1) ∧ Below w.heap.size w w' := by
  obtain ⟨W0, hW0⟩ : ∃ W0, W0 = w.alloc (.cells x.cells 35) := ⟨_, rfl⟩
  have bb : Below w.heap.size w W0 := by rw [hW0]; exact box_below _ _
  have BX : Bx W0 w.heap.size x := by rw [hW0]; exact new_at _ _
  have BB := hid bb
  have HX := hid (hx.later bb)
  have eW : w.alloc (.cells #[.int .i64 x.kind, .string x.name, .string x.to, .slice x.ba x.bl x.bc, .int .i64 x.at_, .int .i64 x.n, .slice x.ka x.kl x.kc] 35) = W0 := by rw [hW0]; rfl
  have c0 : W0.cell? ⟨w.heap.size, 0, none⟩ = some (.int .i64 x.kind) := BX.cell 0
  have c1 : W0.cell? ⟨w.heap.size, 1, none⟩ = some (.string x.name) := BX.cell 1
  have c2 : W0.cell? ⟨w.heap.size, 2, none⟩ = some (.string x.to) := BX.cell 2
  have c3 : W0.cell? ⟨w.heap.size, 3, none⟩ = some (.slice x.ba x.bl x.bc) := BX.cell 3
  have c4 : W0.cell? ⟨w.heap.size, 4, none⟩ = some (.int .i64 x.at_) := BX.cell 4
  have c5 : W0.cell? ⟨w.heap.size, 5, none⟩ = some (.int .i64 x.n) := BX.cell 5
  have c6 : W0.cell? ⟨w.heap.size, 6, none⟩ = some (.slice x.ka x.kl x.kc) := BX.cell 6
  clear hW0 BX bb hx
  rw [hk] at c0 eW
  rw [hk]
  go_enter Try.func12, Try.ntmps12
  go_wp2_with fail
  refine (quota_nil _ W0).mono ?_
  rintro e w1 ⟨rfl, hw⟩
  replace hw := hw.symm
  subst hw
  go_wp2_with fail
  go_ret
  exact ⟨rfl, BB.out⟩
set_option maxRecDepth 100000 in
set_option maxHeartbeats 2000000 in
theorem done_nil6 (x : A) (w : World) (hx : x.ok w) (hk : x.kind = 6) : Calls Try.prog 12 #[.pointer none, .agg #[.int .i64 x.kind, .string x.name, .string x.to, .slice x.ba x.bl x.bc, .int .i64 x.at_, .int .i64 x.n, .slice x.ka x.kl x.kc]] w fun e w' => e = .returned (.int .i64 1) ∧ Below w.heap.size w w' := by
  obtain ⟨W0, hW0⟩ : ∃ W0, W0 = w.alloc (.cells x.cells 35) := ⟨_, rfl⟩
  have bb : Below w.heap.size w W0 := by rw [hW0]; exact box_below _ _
  have BX : Bx W0 w.heap.size x := by rw [hW0]; exact new_at _ _
  have BB := hid bb
  have HX := hid (hx.later bb)
  have eW : w.alloc (.cells #[.int .i64 x.kind, .string x.name, .string x.to, .slice x.ba x.bl x.bc, .int .i64 x.at_, .int .i64 x.n, .slice x.ka x.kl x.kc] 35) = W0 := by rw [hW0]; rfl
  have c0 : W0.cell? ⟨w.heap.size, 0, none⟩ = some (.int .i64 x.kind) := BX.cell 0
  have c1 : W0.cell? ⟨w.heap.size, 1, none⟩ = some (.string x.name) := BX.cell 1
  have c2 : W0.cell? ⟨w.heap.size, 2, none⟩ = some (.string x.to) := BX.cell 2
  have c3 : W0.cell? ⟨w.heap.size, 3, none⟩ = some (.slice x.ba x.bl x.bc) := BX.cell 3
  have c4 : W0.cell? ⟨w.heap.size, 4, none⟩ = some (.int .i64 x.at_) := BX.cell 4
  have c5 : W0.cell? ⟨w.heap.size, 5, none⟩ = some (.int .i64 x.n) := BX.cell 5
  have c6 : W0.cell? ⟨w.heap.size, 6, none⟩ = some (.slice x.ka x.kl x.kc) := BX.cell 6
  clear hW0 BX bb hx
  rw [hk] at c0 eW
  rw [hk]
  go_enter Try.func12, Try.ntmps12
  go_wp2_with fail
  refine (refuse_nil _ _ W0).mono ?_
  rintro e w1 ⟨rfl, hw⟩
  replace hw := hw.symm
  subst hw
  go_wp2_with fail
  go_ret
  exact ⟨rfl, BB.out⟩
set_option maxRecDepth 100000 in
set_option maxHeartbeats 2000000 in
theorem done_nil7 (x : A) (w : World) (hx : x.ok w) (hk : x.kind = 7) : Calls Try.prog 12 #[.pointer none, .agg #[.int .i64 x.kind, .string x.name, .string x.to, .slice x.ba x.bl x.bc, .int .i64 x.at_, .int .i64 x.n, .slice x.ka x.kl x.kc]] w fun e w' => e = .returned (.int .i64 1) ∧ Below w.heap.size w w' := by
  obtain ⟨W0, hW0⟩ : ∃ W0, W0 = w.alloc (.cells x.cells 35) := ⟨_, rfl⟩
  have bb : Below w.heap.size w W0 := by rw [hW0]; exact box_below _ _
  have BX : Bx W0 w.heap.size x := by rw [hW0]; exact new_at _ _
  have BB := hid bb
  have HX := hid (hx.later bb)
  have eW : w.alloc (.cells #[.int .i64 x.kind, .string x.name, .string x.to, .slice x.ba x.bl x.bc, .int .i64 x.at_, .int .i64 x.n, .slice x.ka x.kl x.kc] 35) = W0 := by rw [hW0]; rfl
  have c0 : W0.cell? ⟨w.heap.size, 0, none⟩ = some (.int .i64 x.kind) := BX.cell 0
  have c1 : W0.cell? ⟨w.heap.size, 1, none⟩ = some (.string x.name) := BX.cell 1
  have c2 : W0.cell? ⟨w.heap.size, 2, none⟩ = some (.string x.to) := BX.cell 2
  have c3 : W0.cell? ⟨w.heap.size, 3, none⟩ = some (.slice x.ba x.bl x.bc) := BX.cell 3
  have c4 : W0.cell? ⟨w.heap.size, 4, none⟩ = some (.int .i64 x.at_) := BX.cell 4
  have c5 : W0.cell? ⟨w.heap.size, 5, none⟩ = some (.int .i64 x.n) := BX.cell 5
  have c6 : W0.cell? ⟨w.heap.size, 6, none⟩ = some (.slice x.ka x.kl x.kc) := BX.cell 6
  clear hW0 BX bb hx
  rw [hk] at c0 eW
  rw [hk]
  go_enter Try.func12, Try.ntmps12
  go_wp2_with fail
  refine (crash_nil _ W0).mono ?_
  rintro e w1 ⟨rfl, hw⟩
  replace hw := hw.symm
  subst hw
  go_wp2_with fail
  go_ret
  exact ⟨rfl, BB.out⟩
set_option maxRecDepth 100000 in
set_option maxHeartbeats 2000000 in
theorem done_nilo (x : A) (w : World) (hx : x.ok w) (hk : x.kind < 0 ∨ 7 < x.kind) : Calls Try.prog 12 #[.pointer none, .agg #[.int .i64 x.kind, .string x.name, .string x.to, .slice x.ba x.bl x.bc, .int .i64 x.at_, .int .i64 x.n, .slice x.ka x.kl x.kc]] w fun e w' => e = .returned (.int .i64 0) ∧ Below w.heap.size w w' := by
  obtain ⟨W0, hW0⟩ : ∃ W0, W0 = w.alloc (.cells x.cells 35) := ⟨_, rfl⟩
  have bb : Below w.heap.size w W0 := by rw [hW0]; exact box_below _ _
  have BX : Bx W0 w.heap.size x := by rw [hW0]; exact new_at _ _
  have BB := hid bb
  have HX := hid (hx.later bb)
  have eW : w.alloc (.cells #[.int .i64 x.kind, .string x.name, .string x.to, .slice x.ba x.bl x.bc, .int .i64 x.at_, .int .i64 x.n, .slice x.ka x.kl x.kc] 35) = W0 := by rw [hW0]; rfl
  have c0 : W0.cell? ⟨w.heap.size, 0, none⟩ = some (.int .i64 x.kind) := BX.cell 0
  have c1 : W0.cell? ⟨w.heap.size, 1, none⟩ = some (.string x.name) := BX.cell 1
  have c2 : W0.cell? ⟨w.heap.size, 2, none⟩ = some (.string x.to) := BX.cell 2
  have c3 : W0.cell? ⟨w.heap.size, 3, none⟩ = some (.slice x.ba x.bl x.bc) := BX.cell 3
  have c4 : W0.cell? ⟨w.heap.size, 4, none⟩ = some (.int .i64 x.at_) := BX.cell 4
  have c5 : W0.cell? ⟨w.heap.size, 5, none⟩ = some (.int .i64 x.n) := BX.cell 5
  have c6 : W0.cell? ⟨w.heap.size, 6, none⟩ = some (.slice x.ka x.kl x.kc) := BX.cell 6
  clear hW0 BX bb hx
  have e0 : (x.kind == 0) = false := by simp; omega
  have e1 : (x.kind == 1) = false := by simp; omega
  have e2 : (x.kind == 2) = false := by simp; omega
  have e3 : (x.kind == 3) = false := by simp; omega
  have e4 : (x.kind == 4) = false := by simp; omega
  have e5 : (x.kind == 5) = false := by simp; omega
  have e6 : (x.kind == 6) = false := by simp; omega
  have e7 : (x.kind == 7) = false := by simp; omega
  replace hk := hid hk
  go_enter Try.func12, Try.ntmps12
  go_wp2_with fail
  go_ret
  exact ⟨rfl, BB.out⟩
set_option maxRecDepth 100000 in
set_option maxHeartbeats 2000000 in
theorem does_nilo (x : A) (w : World) (hx : x.ok w) (hk : x.kind < 0 ∨ 7 < x.kind) : Calls Try.prog 11 #[.pointer none, .agg #[.int .i64 x.kind, .string x.name, .string x.to, .slice x.ba x.bl x.bc, .int .i64 x.at_, .int .i64 x.n, .slice x.ka x.kl x.kc]] w fun e w' => e = .returned (.int .i64 0) ∧ Below w.heap.size w w' := by
  obtain ⟨W0, hW0⟩ : ∃ W0, W0 = w.alloc (.cells x.cells 35) := ⟨_, rfl⟩
  have bb : Below w.heap.size w W0 := by rw [hW0]; exact box_below _ _
  have BX : Bx W0 w.heap.size x := by rw [hW0]; exact new_at _ _
  have BB := hid bb
  have HX := hid (hx.later bb)
  have eW : w.alloc (.cells #[.int .i64 x.kind, .string x.name, .string x.to, .slice x.ba x.bl x.bc, .int .i64 x.at_, .int .i64 x.n, .slice x.ka x.kl x.kc] 35) = W0 := by rw [hW0]; rfl
  have c0 : W0.cell? ⟨w.heap.size, 0, none⟩ = some (.int .i64 x.kind) := BX.cell 0
  have c1 : W0.cell? ⟨w.heap.size, 1, none⟩ = some (.string x.name) := BX.cell 1
  have c2 : W0.cell? ⟨w.heap.size, 2, none⟩ = some (.string x.to) := BX.cell 2
  have c3 : W0.cell? ⟨w.heap.size, 3, none⟩ = some (.slice x.ba x.bl x.bc) := BX.cell 3
  have c4 : W0.cell? ⟨w.heap.size, 4, none⟩ = some (.int .i64 x.at_) := BX.cell 4
  have c5 : W0.cell? ⟨w.heap.size, 5, none⟩ = some (.int .i64 x.n) := BX.cell 5
  have c6 : W0.cell? ⟨w.heap.size, 6, none⟩ = some (.slice x.ka x.kl x.kc) := BX.cell 6
  clear hW0 BX bb hx
  have e0 : (x.kind == 0) = false := by simp; omega
  have e1 : (x.kind == 1) = false := by simp; omega
  have e2 : (x.kind == 2) = false := by simp; omega
  have e3 : (x.kind == 3) = false := by simp; omega
  have e4 : (x.kind == 4) = false := by simp; omega
  have e5 : (x.kind == 5) = false := by simp; omega
  have e6 : (x.kind == 6) = false := by simp; omega
  have e7 : (x.kind == 7) = false := by simp; omega
  replace hk := hid hk
  go_enter Try.func11, Try.ntmps11
  go_wp2_with fail
  go_ret
  exact ⟨rfl, BB.out⟩
def cdn (x : A) : Int := if x.kind < 0 ∨ 7 < x.kind then 0 else 1
theorem done_nil (x : A) (w : World) (hx : x.ok w) : Calls Try.prog 12 #[.pointer none, x.val] w fun e w' => e = .returned (.int .i64 (cdn x)) ∧ Below w.heap.size w w' := by
  unfold cdn
  by_cases h : x.kind < 0 ∨ 7 < x.kind
  · rw [if_pos h]; exact done_nilo x w hx h
  · rw [if_neg h]
    have : x.kind = 0 ∨ x.kind = 1 ∨ x.kind = 2 ∨ x.kind = 3 ∨ x.kind = 4 ∨ x.kind = 5 ∨ x.kind = 6 ∨ x.kind = 7 := by omega
    rcases this with h | h | h | h | h | h | h | h
    · exact done_nil0 x w hx h
    · exact done_nil1 x w hx h
    · exact done_nil2 x w hx h
    · exact done_nil3 x w hx h
    · exact done_nil4 x w hx h
    · exact done_nil5 x w hx h
    · exact done_nil6 x w hx h
    · exact done_nil7 x w hx h
theorem does_nil (x : A) (w : World) (hx : x.ok w) : Calls Try.prog 11 #[.pointer none, x.val] w fun e w' => e = .returned (.int .i64 (cdn x)) ∧ Below w.heap.size w w' := by
  unfold cdn
  by_cases h : x.kind < 0 ∨ 7 < x.kind
  · rw [if_pos h]; exact does_nilo x w hx h
  · rw [if_neg h]; exact Dn.does_non none x w (non_nil w) hx (by omega) (by omega)
/-- A disk and the document's, of the same files; all of their memory in U. -/
def Pair (w : World) (n0 bd br g b g2 : Nat) (S : St) (R : RS) (U : Nat → Prop) : Prop := ∃ P P2 v2, Disk w bd g b P S ∧ RDk w br g2 v2 P2 R ∧ Rel S R ∧ (∀ j, P j → ¬ P2 j) ∧ (∀ j, P j → U j) ∧ (∀ j, P2 j → U j) ∧ n0 ≤ bd ∧ n0 ≤ br ∧ bd ≤ w.heap.size ∧ br ≤ w.heap.size
theorem Pair.kept {w w' : World} {n0 bd br g b g2 : Nat} {S : St} {R : RS} {U : Nat → Prop} (h : Pair w n0 bd br g b g2 S R U) (hb : ∀ j, j < w.heap.size → U j → w'.heap[j]? = w.heap[j]?) (hs : w.heap.size ≤ w'.heap.size) : Pair w' n0 bd br g b g2 S R U := by
  obtain ⟨P, P2, v2, D, Q, rel, dis, u1, u2, l1, l2, l3, l4⟩ := h
  refine ⟨P, P2, v2, D.kept ⟨hs, fun j hj _ => hb j (D.low j hj).2 (u1 j hj)⟩ (fun _ h => h) (fun j hj => ⟨(D.low j hj).1, Nat.lt_of_lt_of_le (D.low j hj).2 hs⟩), Q.kept (fun j hj => hb j (Q.low j hj).2 (u2 j hj)) hs, rel, dis, u1, u2, l1, l2, by omega, by omega⟩
theorem Pair.later {w w' : World} {n0 bd br g b g2 : Nat} {S : St} {R : RS} {U : Nat → Prop} (h : Pair w n0 bd br g b g2 S R U) (b1 : Below w.heap.size w w') : Pair w' n0 bd br g b g2 S R U := h.kept (fun j hj _ => b1.block j hj) b1.size
/-- Behind an act that both have done. -/
theorem Pair.step {w w1 w2 : World} {n0 bd br g b g2 : Nat} {S : St} {R : RS} {U P P2 : Nat → Prop} {v2 : Value} {x : A} {c : Int} (D : Disk w bd g b P S) (Q : RDk w br g2 v2 P2 R) (rel : Rel S R) (dis : ∀ j, P j → ¬ P2 j) (u1 : ∀ j, P j → U j) (u2 : ∀ j, P2 j → U j) (l1 : n0 ≤ bd) (l2 : n0 ≤ br) (l3 : bd ≤ w.heap.size) (l4 : br ≤ w.heap.size) (hz : ∀ y ∈ x.zs, 0 ≤ y ∧ y ≤ 255)
    (q1 : Qk.Stq x w w1 bd g b P S c) (q2 : Tk w1 w2 br g2 P2 (stepR x R).1) : c = (stepR x R).2 ∧ ∃ S' U', Pair w2 n0 bd br g b g2 S' (stepR x R).1 U' ∧ S'.rf ≤ S.rf + 1 ∧ Fr U w w2 ∧ (∀ j, U' j → U j ∨ w.heap.size ≤ j) ∧ (∀ j, U' j → j < w2.heap.size) := by
  obtain ⟨S', P', D', F', hrf, hPP, sl, hst⟩ := q1
  obtain ⟨v', P2', D2, F2, hP2⟩ := q2
  obtain ⟨e1, e2⟩ := step_rel rel D.ok (Dh.nodup D) x hz sl
  rw [← hst] at e1 e2
  have lo2 : ∀ j, P2 j → j < w.heap.size := fun j hj => (Q.low j hj).2
  have dis' : ∀ j, P' j → ¬ P2' j := fun j h1 h2 => by
    have a1 := (D'.low j h1).2
    rcases hP2 j h2 with h3 | h3
    · rcases hPP j h1 with h4 | h4
      · exact dis j h4 h3
      · have := lo2 j h3; omega
    · omega
  have dis2 : ∀ j, P' j → ¬ P2 j := fun j h1 h3 => by
    rcases hPP j h1 with h4 | h4
    · exact dis j h4 h3
    · have := lo2 j h3; omega
  refine ⟨e1, S', fun j => P' j ∨ P2' j, ⟨P', P2', v', ?_, D2, e2, dis', fun j h => .inl h, fun j h => .inr h, l1, l2, ?_, ?_⟩, hrf, ?_, ?_, ?_⟩
  · exact D'.kept ⟨F2.size, fun j hj _ => F2.block j (D'.low j hj).2 (dis2 j hj)⟩ (fun _ h => h) (fun j hj => ⟨(D'.low j hj).1, Nat.lt_of_lt_of_le (D'.low j hj).2 F2.size⟩)
  · have := F'.size; have := F2.size; omega
  · have := F'.size; have := F2.size; omega
  · exact ⟨F2.os.trans F'.os, F2.tape.trans F'.tape, F2.output.trans F'.output, Nat.le_trans F'.size F2.size, fun j hj hu => (F2.block j (Nat.lt_of_lt_of_le hj F'.size) (fun h => hu (u2 j h))).trans (F'.block j hj (fun h => hu (u1 j h)))⟩
  · intro j hj
    rcases hj with h | h
    · rcases hPP j h with h | h
      · exact .inl (u1 j h)
      · exact .inr h
    · rcases hP2 j h with h | h
      · exact .inl (u2 j h)
      · exact .inr (Nat.le_trans F'.size h)
  · intro j hj
    rcases hj with h | h
    · exact Nat.lt_of_lt_of_le (D'.low j h).2 F2.size
    · exact (D2.low j h).2
end Go.Proofs.Ytgffojafdjcdoaa.Qp

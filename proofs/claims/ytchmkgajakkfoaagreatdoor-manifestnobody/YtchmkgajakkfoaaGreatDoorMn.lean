/- Manifests and disks that no call gave, and a new disk without files: what their calls answer. -/
import Derived.Test.YtchmkgajakkfoaaGreatDoorGr
import Derived.BigQuiet
namespace Go.Proofs.YtchmkgajakkfoaaGreatDoor.Mn
open Go.ChangeShapes Go.WideShapes Go.ChangeAt Go.RowKit
open Go.Proofs.YtchmkgajakkfoaaGreatDoor.Gr
set_option linter.unusedVariables false
set_option linter.unusedSimpArgs false

/-! ### A nil disk -/
theorem disknone_any (w : World) : Calls Tryz.prog 65 #[.pointer none] w fun e w' => e = .returned (.bool true) ∧ w' = w := by
  go_enter Tryz.func65, Tryz.ntmps65
  go_wp2_with fail
  go_ret
  simp
set_option maxHeartbeats 400000 in
theorem find_any (s : ByteArray) (w : World) : Calls Tryz.prog 68 #[.pointer none, .string s] w fun e w' => e = .returned (.tuple #[.agg #[.slice none 0 0, .int .i64 0], .int .i64 1]) ∧ Below w.heap.size w w' := by
  obtain ⟨g, hg⟩ : ∃ g, g = w.heap.size := ⟨_, rfl⟩
  obtain ⟨W1, hW1⟩ : ∃ W, W = w.alloc (.cells #[.slice none 0 0, .int .i64 0] 157) := ⟨_, rfl⟩
  have k1 : W1.heap[g]? = some (.cells #[.slice none 0 0, .int .i64 0] 157) := by rw [hW1, hg]; exact new_at _ _
  have b1 : Below w.heap.size w W1 := by rw [hW1]; exact box_below _ _
  have q0 := cell_of k1 0 _ rfl
  have q1 := cell_of k1 1 _ rfl
  have z0 := fz_of k1 0
  have z1 := fz_of k1 1
  have k2 := set_of (set_of k1 0 (.slice none 0 0)) 1 (.int .i64 0)
  have b2 : Below w.heap.size w ((W1.setCell ⟨g, 0, none⟩ (.slice none 0 0)).setCell ⟨g, 1, none⟩ (.int .i64 0)) := (b1.setCell (p := ⟨g, 0, none⟩) (Nat.le_of_eq hg.symm) _).setCell (p := ⟨g, 1, none⟩) (Nat.le_of_eq hg.symm) _
  have c1 := hid (disknone_any W1)
  obtain ⟨WB, hWB⟩ : ∃ W, W = (W1.setCell ⟨g, 0, none⟩ (.slice none 0 0)).setCell ⟨g, 1, none⟩ (.int .i64 0) := ⟨_, rfl⟩
  rw [← hWB] at k2 b2
  have x0 := cell_of k2 0 _ rfl
  have x1 := cell_of k2 1 _ rfl
  replace hWB := hid hWB
  replace b2 := hid b2
  replace hW1 := hid hW1
  replace hg := hid hg
  clear k1 k2 b1
  go_enter Tryz.func68, Tryz.ntmps68
  go_wp2_with (first | (go_at_call 65; rw [← hW1.out, ← hg.out]; refine c1.out.mono ?_; rintro e w1 ⟨rfl, hw1⟩; subst hw1))
  rw [← hWB.out]
  clear q0 q1 z0 z1
  exact bodyPost_ret (v := .tuple #[.agg #[.slice none 0 0, .int .i64 0], .int .i64 1]) (by simp [results, Tryz.results68, go_sem, x0, x1]) rfl ⟨rfl, b2.out⟩
set_option maxHeartbeats 400000 in
theorem size_any (s : ByteArray) (w : World) : Calls Tryz.prog 48 #[.pointer none, .string s] w fun e w' => e = .returned (.tuple #[.int .i64 0, .int .i64 0, .int .i64 1]) ∧ Below w.heap.size w w' := by
  have c1 := hid (find_any s w)
  go_enter Tryz.func48, Tryz.ntmps48
  go_wp2_with fail
  refine c1.out.mono ?_
  rintro e w1 ⟨rfl, b1⟩
  obtain ⟨W1, hW1⟩ : ∃ W, W = w1.alloc (.cells #[.slice none 0 0, .int .i64 0] 157) := ⟨_, rfl⟩
  obtain ⟨g, hg⟩ : ∃ g, g = w1.heap.size := ⟨_, rfl⟩
  have k1 : W1.heap[g]? = some (.cells #[.slice none 0 0, .int .i64 0] 157) := by rw [hW1, hg]; exact new_at _ _
  have b2 : Below w1.heap.size w1 W1 := by rw [hW1]; exact box_below _ _
  have q0 := cell_of k1 0 _ rfl
  have q1 := cell_of k1 1 _ rfl
  replace b2 := hid (Below.up b1 b2)
  replace hW1 := hid hW1
  replace hg := hid hg
  clear b1 k1 c1
  go_wp2_with fail
  rw [← hW1.out, ← hg.out]
  go_quiet (fail)
  go_wp2_with fail
  refine bodyPost_ret (v := .tuple #[.int .i64 0, .int .i64 0, .int .i64 1]) (by simp [results, Tryz.results48, go_sem]) rfl ⟨rfl, Below.up b2.out (drewN_below _ _)⟩
theorem nodisk_any (w : World) : Calls Tryz.prog 51 #[.pointer none] w fun e w' => e = .returned (.bool true) ∧ Below w.heap.size w w' := by
  have c1 := hid (size_any ⟨#[]⟩ w)
  go_enter Tryz.func51, Tryz.ntmps51
  go_wp2_with (first | (go_at_call 48; refine c1.out.mono ?_; rintro e w1 ⟨rfl, b1⟩; replace b1 := hid b1))
  go_ret
  exact ⟨rfl, b1.out⟩
/-! ### Errors -/
def nilE : Value := .iface 40 (.int .i64 1)
theorem ta0 (w : World) : Sem.run Tryz.prog (Instr.typeAssert (.iface 40 (.int .i64 1)) 104 168 true) w = .ok (.tuple #[.agg #[.int .i64 0], .bool false]) w := by kernel_rfl
theorem ta1 (w : World) : Sem.run Tryz.prog (Instr.typeAssert (.iface 40 (.int .i64 1)) 104 171 true) w = .ok (.tuple #[.agg #[.int .i64 0], .bool false]) w := by kernel_rfl
theorem ta2 (w : World) : Sem.run Tryz.prog (Instr.typeAssert (.iface 40 (.int .i64 1)) 104 172 true) w = .ok (.tuple #[.agg #[.int .i64 0], .bool false]) w := by kernel_rfl
theorem ta3 (w : World) : Sem.run Tryz.prog (Instr.typeAssert (.iface 40 (.int .i64 1)) 104 40 true) w = .ok (.tuple #[.int .i64 1, .bool true]) w := by kernel_rfl
set_option maxRecDepth 20000 in
theorem told_any (w : World) : Calls Tryz.prog 36 #[nilE] w fun e w' => e = .returned (.int .i64 1) ∧ w' = w := by
  unfold nilE
  have t0 := ta0 w
  have t1 := ta1 w
  have t2 := ta2 w
  have t3 := ta3 w
  go_enter Tryz.func36, Tryz.ntmps36
  go_wp2_with fail
  go_ret
  simp
end Go.Proofs.YtchmkgajakkfoaaGreatDoor.Mn

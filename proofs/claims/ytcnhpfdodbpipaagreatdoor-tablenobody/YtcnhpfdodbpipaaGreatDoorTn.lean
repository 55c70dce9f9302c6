/- Builders and tables that no call gave: nil ones and plain ones. -/
import Derived.Test.YtcnhpfdodbpipaaGreatDoorUb
namespace Go.Proofs.YtcnhpfdodbpipaaGreatDoor.Tn
open Go.ChangeShapes Go.WideShapes Go.ChangeAt Go.RowKit
open Go.Proofs.YtcnhpfdodbpipaaGreatDoor.Ub
set_option linter.unusedVariables false
set_option linter.unusedSimpArgs false

abbrev zF : Array Value := #[.int .i64 0, .int .i64 0, .string ⟨#[]⟩, .string ⟨#[]⟩, .int .u64 0, .int .u64 0]
abbrev zE : Array Value := #[.string ⟨#[]⟩, .int .u64 0, .int .i64 0, .string ⟨#[]⟩]
/-- A builder that is none. -/
def NoB (w : World) (p : Option Addr) : Prop := p = none ∨ ∃ g, p = some ⟨g, 0, none⟩ ∧ w.heap[g]? = some (.cells #[.pointer none, .slice none 0 0, .int .i64 0, .int .i64 0, .string ⟨#[]⟩, .string ⟨#[]⟩, .int .u64 0, .int .u64 0, .int .i64 0, .int .i64 0] 87)
set_option maxHeartbeats 4000000 in
set_option maxRecDepth 100000 in
theorem NoB.later {w w' : World} {p : Option Addr} (h : NoB w p) (b : Below w.heap.size w w') : NoB w' p := by
  rcases h with h | ⟨g, e, h⟩
  · exact .inl h
  · exact .inr ⟨g, e, (b.block g (blk_lt h)).trans h⟩
/-- A table that is none. -/
def NoT (w : World) (p : Option Addr) : Prop := p = none ∨ ∃ g, p = some ⟨g, 0, none⟩ ∧ w.heap[g]? = some (.cells #[.bool false, .slice none 0 0, .slice none 0 0, .slice none 0 0, .slice none 0 0, .slice none 0 0] 92)
set_option maxHeartbeats 4000000 in
set_option maxRecDepth 100000 in
theorem NoT.later {w w' : World} {p : Option Addr} (h : NoT w p) (b : Below w.heap.size w w') : NoT w' p := by
  rcases h with h | ⟨g, e, h⟩
  · exact .inl h
  · exact .inr ⟨g, e, (b.block g (blk_lt h)).trans h⟩
set_option maxHeartbeats 4000000 in
set_option maxRecDepth 100000 in
theorem bnone (p : Option Addr) (w : World) (H : NoB w p) : Calls Tryz.prog 42 #[.pointer p] w fun e w' => e = .returned (.bool true) ∧ w' = w := by
  rcases H with rfl | ⟨g, rfl, H⟩
  · go_enter Tryz.func42, Tryz.ntmps42
    go_wp2
    go_ret
    exact ⟨rfl, rfl⟩
  · have c0 := cell_of H 0 (.pointer none) rfl
    have c1 := cell_of H 1 (.slice none 0 0) rfl
    have hE : Sem.run Tryz.prog (binOp .eql 42 (.slice none 0 0) (.slice none 0 0)) w = .ok (.bool true) w := by kernel_rfl
    clear H
    go_enter Tryz.func42, Tryz.ntmps42
    go_wp2
    go_ret
    exact ⟨rfl, rfl⟩
set_option maxHeartbeats 4000000 in
set_option maxRecDepth 100000 in
theorem tnone (p : Option Addr) (w : World) (H : NoT w p) : Calls Tryz.prog 79 #[.pointer p] w fun e w' => e = .returned (.bool true) ∧ w' = w := by
  rcases H with rfl | ⟨g, rfl, H⟩
  · go_enter Tryz.func79, Tryz.ntmps79
    go_wp2
    go_ret
    exact ⟨rfl, rfl⟩
  · have c0 := cell_of H 0 (.bool false) rfl
    clear H
    go_enter Tryz.func79, Tryz.ntmps79
    go_wp2
    go_ret
    exact ⟨rfl, rfl⟩
set_option maxHeartbeats 4000000 in
set_option maxRecDepth 100000 in
theorem blen (p : Option Addr) (w : World) (H : NoB w p) : Calls Tryz.prog 12 #[.pointer p] w fun e w' => e = .returned (.tuple #[.int .i64 0, .int .i64 0]) ∧ w' = w := by
  have HN := hid (bnone p w H)
  clear H
  go_enter Tryz.func12, Tryz.ntmps12
  go_wp2_with fail
  refine HN.out.mono ?_
  rintro e w1 ⟨rfl, rfl⟩
  go_wp2_with fail
  exact bodyPost_ret (v := .tuple #[.int .i64 0, .int .i64 0]) (by simp [results, Tryz.results12, go_sem]) rfl ⟨rfl, rfl⟩
set_option maxHeartbeats 4000000 in
set_option maxRecDepth 100000 in
theorem badd (p : Option Addr) (c0 c1 c2 c3 : Value) (w : World) (H : NoB w p) : Calls Tryz.prog 19 #[.pointer p, .agg #[c0, c1, c2, c3]] w fun e w' => e = .returned (.int .i64 1) ∧ Below w.heap.size w w' := by
  have b0 := box_below w (.cells #[c0, c1, c2, c3] 37)
  have HN := hid (bnone p _ (H.later b0))
  replace b0 := hid b0
  clear H
  go_enter Tryz.func19, Tryz.ntmps19
  go_wp2_with fail
  refine HN.out.mono ?_
  rintro e w1 ⟨rfl, rfl⟩
  go_wp2_with fail
  go_ret
  exact ⟨rfl, b0.out⟩
set_option maxHeartbeats 4000000 in
set_option maxRecDepth 100000 in
theorem baddtomb (p : Option Addr) (c0 c1 c2 : Value) (w : World) (H : NoB w p) : Calls Tryz.prog 17 #[.pointer p, .agg #[c0, c1, c2]] w fun e w' => e = .returned (.int .i64 1) ∧ Below w.heap.size w w' := by
  have b0 := box_below w (.cells #[c0, c1, c2] 39)
  have HN := hid (bnone p _ (H.later b0))
  replace b0 := hid b0
  clear H
  go_enter Tryz.func17, Tryz.ntmps17
  go_wp2_with fail
  refine HN.out.mono ?_
  rintro e w1 ⟨rfl, rfl⟩
  go_wp2_with fail
  go_ret
  exact ⟨rfl, b0.out⟩
set_option maxHeartbeats 4000000 in
set_option maxRecDepth 100000 in
theorem bfinish (p : Option Addr) (w : World) (H : NoB w p) : Calls Tryz.prog 13 #[.pointer p] w fun e w' => e = .returned (.tuple #[.slice none 0 0, .agg zF, .int .i64 1]) ∧ Below w.heap.size w w' := by
  obtain ⟨W0, hW0⟩ : ∃ W, W = w.alloc (.cells zF 44) := ⟨_, rfl⟩
  obtain ⟨g0, hg0⟩ : ∃ g, g = w.heap.size := ⟨_, rfl⟩
  have b0 : Below w.heap.size w W0 := by rw [hW0]; exact box_below _ _
  have k0 : W0.heap[g0]? = some (.cells zF 44) := by rw [hW0, hg0]; exact new_at _ _
  have HN := hid (bnone p W0 (H.later b0))
  have q0 := cell_of k0 0 (.int .i64 0) rfl
  have q1 := cell_of k0 1 (.int .i64 0) rfl
  have q2 := cell_of k0 2 (.string ⟨#[]⟩) rfl
  have q3 := cell_of k0 3 (.string ⟨#[]⟩) rfl
  have q4 := cell_of k0 4 (.int .u64 0) rfl
  have q5 := cell_of k0 5 (.int .u64 0) rfl
  have f0 := fz_of k0
  replace b0 := hid b0
  replace hW0 := hid hW0
  replace hg0 := hid hg0
  clear H k0
  go_enter Tryz.func13, Tryz.ntmps13
  go_wp2_with fail
  rw [← hW0.out]
  try rw [← hg0.out]
  refine HN.out.mono ?_
  rintro e w1 ⟨rfl, rfl⟩
  go_wp2_with fail
  exact bodyPost_ret (v := .tuple #[.slice none 0 0, .agg zF, .int .i64 1]) (by simp [results, Tryz.results13, go_sem, q0, q1, q2, q3, q4, q5]) rfl ⟨rfl, ((((((b0.out.setCell (Nat.le_of_eq hg0.out.symm) _).setCell (Nat.le_of_eq hg0.out.symm) _).setCell (Nat.le_of_eq hg0.out.symm) _).setCell (Nat.le_of_eq hg0.out.symm) _).setCell (Nat.le_of_eq hg0.out.symm) _).setCell (Nat.le_of_eq hg0.out.symm) _)⟩
set_option maxHeartbeats 4000000 in
set_option maxRecDepth 100000 in
theorem tblocks (p : Option Addr) (w : World) (H : NoT w p) : Calls Tryz.prog 24 #[.pointer p] w fun e w' => e = .returned (.int .i64 0) ∧ w' = w := by
  have HN := hid (tnone p w H)
  clear H
  go_enter Tryz.func24, Tryz.ntmps24
  go_wp2_with fail
  refine HN.out.mono ?_
  rintro e w1 ⟨rfl, rfl⟩
  go_wp2_with fail
  go_ret
  exact ⟨rfl, rfl⟩
set_option maxHeartbeats 4000000 in
set_option maxRecDepth 100000 in
theorem ttombs (p : Option Addr) (w : World) (H : NoT w p) : Calls Tryz.prog 23 #[.pointer p] w fun e w' => e = .returned (.slice none 0 0) ∧ w' = w := by
  have HN := hid (tnone p w H)
  clear H
  go_enter Tryz.func23, Tryz.ntmps23
  go_wp2_with fail
  refine HN.out.mono ?_
  rintro e w1 ⟨rfl, rfl⟩
  go_wp2_with fail
  go_ret
  exact ⟨rfl, rfl⟩
set_option maxHeartbeats 4000000 in
set_option maxRecDepth 100000 in
theorem tlook (p : Option Addr) (v : Value) (w : World) (H : NoT w p) : Calls Tryz.prog 81 #[.pointer p, v] w fun e w' => e = .returned (.tuple #[.slice none 0 0, .int .i64 1]) ∧ w' = w := by
  have HN := hid (tnone p w H)
  clear H
  go_enter Tryz.func81, Tryz.ntmps81
  go_wp2_with fail
  refine HN.out.mono ?_
  rintro e w1 ⟨rfl, rfl⟩
  go_wp2_with fail
  exact bodyPost_ret (v := .tuple #[.slice none 0 0, .int .i64 1]) (by simp [results, Tryz.results81, go_sem]) rfl ⟨rfl, rfl⟩
set_option maxHeartbeats 4000000 in
set_option maxRecDepth 100000 in
theorem clone_nil (w : World) : Calls Tryz.prog 45 #[.slice none 0 0] w fun e w' => e = .returned (.slice none 0 0) ∧ w' = w := by
  have hE : Sem.run Tryz.prog (binOp .eql 42 (.slice none 0 0) (.slice none 0 0)) w = .ok (.bool true) w := by kernel_rfl
  go_enter Tryz.func45, Tryz.ntmps45
  go_wp2_with fail
  go_ret
  exact ⟨rfl, rfl⟩
set_option maxHeartbeats 4000000 in
set_option maxRecDepth 100000 in
theorem tblock (p : Option Addr) (v : Value) (w : World) (H : NoT w p) : Calls Tryz.prog 26 #[.pointer p, v] w fun e w' => e = .returned (.tuple #[.slice none 0 0, .int .i64 1]) ∧ w' = w := by
  have HN := hid (tlook p v w H)
  clear H
  go_enter Tryz.func26, Tryz.ntmps26
  go_wp2_with fail
  refine HN.out.mono ?_
  rintro e w1 ⟨rfl, rfl⟩
  go_wp2_with fail
  refine (clone_nil _).mono ?_
  rintro e w1 ⟨rfl, rfl⟩
  go_wp2_with fail
  exact bodyPost_ret (v := .tuple #[.slice none 0 0, .int .i64 1]) (by simp [results, Tryz.results26, go_sem]) rfl ⟨rfl, rfl⟩
set_option maxHeartbeats 4000000 in
set_option maxRecDepth 100000 in
theorem tfind (p : Option Addr) (c0 c1 c2 : Value) (w : World) (H : NoT w p) : Calls Tryz.prog 29 #[.pointer p, .agg #[c0, c1, c2]] w fun e w' => e = .returned (.int .i64 0) ∧ Below w.heap.size w w' := by
  have b0 := box_below w (.cells #[c0, c1, c2] 76)
  have HN := hid (tnone p _ (H.later b0))
  replace b0 := hid b0
  clear H
  go_enter Tryz.func29, Tryz.ntmps29
  go_wp2_with fail
  refine HN.out.mono ?_
  rintro e w1 ⟨rfl, rfl⟩
  go_wp2_with fail
  go_ret
  exact ⟨rfl, b0.out⟩
set_option maxHeartbeats 4000000 in
set_option maxRecDepth 100000 in
theorem tmay (p : Option Addr) (v : Value) (w : World) (H : NoT w p) : Calls Tryz.prog 32 #[.pointer p, v] w fun e w' => e = .returned (.bool false) ∧ w' = w := by
  have HN := hid (tnone p w H)
  clear H
  go_enter Tryz.func32, Tryz.ntmps32
  go_wp2_with fail
  refine HN.out.mono ?_
  rintro e w1 ⟨rfl, rfl⟩
  go_wp2_with fail
  go_ret
  exact ⟨rfl, rfl⟩
set_option maxHeartbeats 4000000 in
set_option maxRecDepth 100000 in
theorem tget (p : Option Addr) (v0 v1 : Value) (w : World) (H : NoT w p) : Calls Tryz.prog 34 #[.pointer p, v0, v1] w fun e w' => e = .returned (.tuple #[.agg zE, .bool false, .int .i64 1]) ∧ Below w.heap.size w w' := by
  obtain ⟨W0, hW0⟩ : ∃ W, W = w.alloc (.cells zE 37) := ⟨_, rfl⟩
  obtain ⟨g0, hg0⟩ : ∃ g, g = w.heap.size := ⟨_, rfl⟩
  have b0 : Below w.heap.size w W0 := by rw [hW0]; exact box_below _ _
  have k0 : W0.heap[g0]? = some (.cells zE 37) := by rw [hW0, hg0]; exact new_at _ _
  have HN := hid (tnone p W0 (H.later b0))
  have q0 := cell_of k0 0 (.string ⟨#[]⟩) rfl
  have q1 := cell_of k0 1 (.int .u64 0) rfl
  have q2 := cell_of k0 2 (.int .i64 0) rfl
  have q3 := cell_of k0 3 (.string ⟨#[]⟩) rfl
  have f0 := fz_of k0
  replace b0 := hid b0
  replace hW0 := hid hW0
  replace hg0 := hid hg0
  clear H k0
  go_enter Tryz.func34, Tryz.ntmps34
  go_wp2_with fail
  rw [← hW0.out]
  try rw [← hg0.out]
  refine HN.out.mono ?_
  rintro e w1 ⟨rfl, rfl⟩
  go_wp2_with fail
  exact bodyPost_ret (v := .tuple #[.agg zE, .bool false, .int .i64 1]) (by simp [results, Tryz.results34, go_sem, q0, q1, q2, q3]) rfl ⟨rfl, ((((b0.out.setCell (Nat.le_of_eq hg0.out.symm) _).setCell (Nat.le_of_eq hg0.out.symm) _).setCell (Nat.le_of_eq hg0.out.symm) _).setCell (Nat.le_of_eq hg0.out.symm) _)⟩
end Go.Proofs.YtcnhpfdodbpipaaGreatDoor.Tn

/- ManifestNobody walked. -/
import Derived.Test.YtchmkgajakkfoaaGreatDoorMd
namespace Go.Proofs.YtchmkgajakkfoaaGreatDoor.Mw
open Go.ChangeShapes Go.WideShapes Go.ChangeAt Go.RowKit Go.Maps
open Go.Proofs.YtchmkgajakkfoaaGreatDoor.Gr
open Go.Proofs.YtchmkgajakkfoaaGreatDoor.Mn
open Go.Proofs.YtchmkgajakkfoaaGreatDoor.Md
set_option linter.unusedVariables false
set_option linter.unusedSimpArgs false

/-- A manifest that no call gave. -/
def Non (w : World) (p : Value) : Prop := p = .pointer none ∨ ∃ g, p = .pointer (some ⟨g, 0, none⟩) ∧ w.cell? ⟨g, 0, none⟩ = some (.int .i64 0)
theorem Non.later {w w' : World} {p : Value} (h : Non w p) (b : Below w.heap.size w w') : Non w' p := by
  rcases h with h | ⟨g, h1, h2⟩
  · exact .inl h
  · exact .inr ⟨g, h1, (b.cell (block_lt_of_cell h2)).trans h2⟩
abbrev Z5 : Array Value := #[.slice none 0 0, .int .i64 0, .int .i64 0, .int .u64 0, .int .i64 0]
def ZS : Value := .agg #[.slice none 0 0, .int .i64 0, .int .i64 0, .int .u64 0, .int .i64 0]
theorem isnone_non {w : World} {p : Value} (h : Non w p) : Calls Tryz.prog 50 #[p] w fun e w' => e = .returned (.bool true) ∧ w' = w := by
  rcases h with rfl | ⟨g, rfl, h0⟩
  · go_enter Tryz.func50, Tryz.ntmps50
    go_wp2_with fail
    go_ret
    exact ⟨rfl, rfl⟩
  · go_enter Tryz.func50, Tryz.ntmps50
    go_wp2_with fail
    go_ret
    exact ⟨rfl, rfl⟩
theorem size_non {w : World} {p : Value} (h : Non w p) : Calls Tryz.prog 16 #[p] w fun e w' => e = .returned (.tuple #[.int .i64 0, .int .i64 0]) ∧ w' = w := by
  have c1 := hid (isnone_non h)
  clear h
  go_enter Tryz.func16, Tryz.ntmps16
  go_wp2_with (first | (go_at_call 50; refine c1.out.mono ?_; rintro e w1 ⟨rfl, hw1⟩; subst hw1))
  exact bodyPost_ret (v := .tuple #[.int .i64 0, .int .i64 0]) (by simp [results, Tryz.results16, go_sem]) rfl ⟨rfl, rfl⟩
def five (W : World) (g : Nat) : World := ((((W.setCell ⟨g, 0, none⟩ (.slice none 0 0)).setCell ⟨g, 1, none⟩ (.int .i64 0)).setCell ⟨g, 2, none⟩ (.int .i64 0)).setCell ⟨g, 3, none⟩ (.int .u64 0)).setCell ⟨g, 4, none⟩ (.int .i64 0)
theorem five_blk {W : World} {g : Nat} {t : TypeId} (h : W.heap[g]? = some (.cells Z5 t)) : (five W g).heap[g]? = some (.cells Z5 t) :=
  (set_of (set_of (set_of (set_of (set_of h 0 _) 1 _) 2 _) 3 _) 4 _).trans rfl
theorem five_below {n g : Nat} {w W : World} (h : Below n w W) (hg : n ≤ g) : Below n w (five W g) :=
  ((((h.setCell (p := ⟨g, 0, none⟩) hg _).setCell (p := ⟨g, 1, none⟩) hg _).setCell (p := ⟨g, 2, none⟩) hg _).setCell (p := ⟨g, 3, none⟩) hg _).setCell (p := ⟨g, 4, none⟩) hg _
set_option maxHeartbeats 400000 in
theorem state_non {w : World} {p : Value} (h : Non w p) : Calls Tryz.prog 17 #[p] w fun e w' => e = .returned ZS ∧ Below w.heap.size w w' := by
  obtain ⟨g, hg⟩ : ∃ g, g = w.heap.size := ⟨_, rfl⟩
  obtain ⟨W1, hW1⟩ : ∃ W, W = w.alloc (.cells Z5 37) := ⟨_, rfl⟩
  have k1 : W1.heap[g]? = some (.cells Z5 37) := by rw [hW1, hg]; exact new_at _ _
  have b1 : Below w.heap.size w W1 := by rw [hW1]; exact box_below _ _
  have q0 := cell_of k1 0 _ rfl
  have q1 := cell_of k1 1 _ rfl
  have q2 := cell_of k1 2 _ rfl
  have q3 := cell_of k1 3 _ rfl
  have q4 := cell_of k1 4 _ rfl
  have z0 := fz_of k1 0
  have z1 := fz_of k1 1
  have z2 := fz_of k1 2
  have z3 := fz_of k1 3
  have z4 := fz_of k1 4
  have c1 := hid (isnone_non (h.later b1))
  have k2 := five_blk k1
  have b2 := hid (five_below b1 (Nat.le_of_eq hg.symm))
  obtain ⟨WB, hWB⟩ : ∃ W, W = five W1 g := ⟨_, rfl⟩
  rw [← hWB] at k2 b2
  have x0 := cell_of k2 0 _ rfl
  have x1 := cell_of k2 1 _ rfl
  have x2 := cell_of k2 2 _ rfl
  have x3 := cell_of k2 3 _ rfl
  have x4 := cell_of k2 4 _ rfl
  unfold five at hWB
  replace hWB := hid hWB
  replace hW1 := hid hW1
  replace hg := hid hg
  clear k1 k2 b1 h
  go_enter Tryz.func17, Tryz.ntmps17
  go_wp2_with (first | (go_at_call 50; rw [← hW1.out, ← hg.out]; refine c1.out.mono ?_; rintro e w1 ⟨rfl, hw1⟩; subst hw1))
  rw [← hWB.out]
  clear q0 q1 q2 q3 q4 z0 z1 z2 z3 z4
  exact bodyPost_ret (v := ZS) (by simp [results, Tryz.results17, go_sem, x0, x1, x2, x3, x4, ZS]) rfl ⟨rfl, b2.out⟩
theorem append_non {w : World} {p : Value} (h : Non w p) (d c0 c1 c2 c3 c4 : Value) : Calls Tryz.prog 14 #[p, d, .agg #[c0, c1, c2, c3, c4]] w fun e w' => e = .returned (.int .i64 1) ∧ Below w.heap.size w w' := by
  obtain ⟨W1, hW1⟩ : ∃ W, W = w.alloc (.cells #[c0, c1, c2, c3, c4] 51) := ⟨_, rfl⟩
  have b1 : Below w.heap.size w W1 := by rw [hW1]; exact box_below _ _
  have k1 := hid (isnone_non (h.later b1))
  replace hW1 := hid hW1
  replace b1 := hid b1
  clear h
  go_enter Tryz.func14, Tryz.ntmps14
  go_wp2_with (first | (go_at_call 50; rw [← hW1.out]; refine k1.out.mono ?_; rintro e w1 ⟨rfl, hw1⟩; subst hw1))
  go_ret
  exact ⟨rfl, b1.out⟩
/-! ### No disk -/
theorem begin_in (b : Int) (w : World) : Calls Tryz.prog 35 #[.pointer none, .int .i64 b, ZS] w fun e w' => e = .returned (.tuple #[.pointer none, nilE]) ∧ Below w.heap.size w w' := by
  unfold ZS nilE
  obtain ⟨W1, hW1⟩ : ∃ W, W = w.alloc (.cells Z5 37) := ⟨_, rfl⟩
  have b1 : Below w.heap.size w W1 := by rw [hW1]; exact box_below _ _
  have k1 := hid (nodisk_any W1)
  replace hW1 := hid hW1
  replace b1 := hid b1
  go_enter Tryz.func35, Tryz.ntmps35
  go_wp2_with (first | (go_at_call 51; rw [← hW1.out]; refine k1.out.mono ?_; rintro e w1 ⟨rfl, b2⟩; replace b2 := hid b2))
  exact bodyPost_ret (v := .tuple #[.pointer none, .iface 40 (.int .i64 1)]) (by simp [results, Tryz.results35, go_sem]) rfl ⟨rfl, Below.up b1.out b2.out⟩
theorem begin_nil (b : Int) (w : World) : Calls Tryz.prog 10 #[.pointer none, .int .i64 b, ZS] w fun e w' => e = .returned (.tuple #[.pointer none, .int .i64 1]) ∧ Below w.heap.size w w' := by
  obtain ⟨g, hg⟩ : ∃ g, g = w.heap.size := ⟨_, rfl⟩
  obtain ⟨W1, hW1⟩ : ∃ W, W = w.alloc (.cells Z5 37) := ⟨_, rfl⟩
  have k1 : W1.heap[g]? = some (.cells Z5 37) := by rw [hW1, hg]; exact new_at _ _
  have b1 : Below w.heap.size w W1 := by rw [hW1]; exact box_below _ _
  have q0 := cell_of k1 0 _ rfl
  have q1 := cell_of k1 1 _ rfl
  have q2 := cell_of k1 2 _ rfl
  have q3 := cell_of k1 3 _ rfl
  have q4 := cell_of k1 4 _ rfl
  have c1 := hid (begin_in b W1)
  have c2 := hid told_any
  rw [hW1, hg] at q0 q1 q2 q3 q4
  replace hW1 := hid hW1
  replace hg := hid hg
  replace b1 := hid b1
  unfold ZS at *
  clear k1
  go_enter Tryz.func10, Tryz.ntmps10
  go_wp2_with (first | (go_at_call 35; rw [← hW1.out]; refine c1.out.mono ?_; rintro e w1 ⟨rfl, b2⟩; replace b2 := hid b2; clear q0 q1 q2 q3 q4) | (go_at_call 36; refine (c2.out _).mono ?_; rintro e w2 ⟨rfl, hw2⟩; subst hw2))
  exact bodyPost_ret (v := .tuple #[.pointer none, .int .i64 1]) (by simp [results, Tryz.results10, go_sem]) rfl ⟨rfl, Below.up b1.out b2.out⟩
theorem current_in (w : World) : Calls Tryz.prog 58 #[.pointer none] w fun e w' => e = .returned (.tuple #[.int .i64 0, nilE]) ∧ Below w.heap.size w w' := by
  unfold nilE
  have k1 := hid (nodisk_any w)
  go_enter Tryz.func58, Tryz.ntmps58
  go_wp2_with (first | (go_at_call 51; refine k1.out.mono ?_; rintro e w1 ⟨rfl, b2⟩; replace b2 := hid b2))
  exact bodyPost_ret (v := .tuple #[.int .i64 0, .iface 40 (.int .i64 1)]) (by simp [results, Tryz.results58, go_sem]) rfl ⟨rfl, b2.out⟩
theorem current_nil (w : World) : Calls Tryz.prog 19 #[.pointer none] w fun e w' => e = .returned (.tuple #[.int .i64 0, .int .i64 1]) ∧ Below w.heap.size w w' := by
  have c1 := hid (current_in w)
  have c2 := hid told_any
  go_enter Tryz.func19, Tryz.ntmps19
  go_wp2_with (first | (go_at_call 58; refine c1.out.mono ?_; rintro e w1 ⟨rfl, b2⟩; replace b2 := hid b2) | (go_at_call 36; refine (c2.out _).mono ?_; rintro e w2 ⟨rfl, hw2⟩; subst hw2))
  exact bodyPost_ret (v := .tuple #[.int .i64 0, .int .i64 1]) (by simp [results, Tryz.results19, go_sem]) rfl ⟨rfl, b2.out⟩
end Go.Proofs.YtchmkgajakkfoaaGreatDoor.Mw

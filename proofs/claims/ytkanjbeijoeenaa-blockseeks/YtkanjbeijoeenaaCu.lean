/- A cursor over a block: where it stands; First, Last, Next, Prev, Len, Here. -/
import Derived.Test.YtkanjbeijoeenaaMb
namespace Go.Proofs.Ytkanjbeijoeenaa.Cu
open Go.ChangeShapes Go.WideShapes Go.ChangeAt Go.RowKit
open Go.Sort (grow)
open Go.Proofs.Ytkanjbeijoeenaa.Mb
set_option linter.unusedVariables false
set_option linter.unusedSimpArgs false

/-- A cursor's block: its entries, where it stands. -/
def Cb (w : World) (gc : Nat) (a : Option Addr) (n cap : Nat) (i : Int) : Prop := w.heap[gc]? = some (.cells #[.slice a n cap, .int .i64 i] 55)
theorem Cb.c0 {w : World} {gc : Nat} {a : Option Addr} {n cap : Nat} {i : Int} (h : Cb w gc a n cap i) : w.cell? ⟨gc, 0, none⟩ = some (.slice a n cap) := cell_of h 0 _ rfl
theorem Cb.c1 {w : World} {gc : Nat} {a : Option Addr} {n cap : Nat} {i : Int} (h : Cb w gc a n cap i) : w.cell? ⟨gc, 1, none⟩ = some (.int .i64 i) := cell_of h 1 _ rfl
theorem Cb.lt {w : World} {gc : Nat} {a : Option Addr} {n cap : Nat} {i : Int} (h : Cb w gc a n cap i) : gc < w.heap.size := blk_lt h
theorem Cb.later {w w' : World} {gc : Nat} {a : Option Addr} {n cap : Nat} {i : Int} (h : Cb w gc a n cap i) (b : Below w.heap.size w w') : Cb w' gc a n cap i := (b.block gc h.lt).trans h
theorem Cb.set {w : World} {gc : Nat} {a : Option Addr} {n cap : Nat} {i : Int} (h : Cb w gc a n cap i) (j : Int) : Cb (w.setCell ⟨gc, 1, none⟩ (.int .i64 j)) gc a n cap j := by
  unfold Cb at h ⊢
  rw [set_of h]
  rfl
/-- It stands at an entry. -/
def at1 (n : Nat) (i : Int) : Bool := decide (1 ≤ i ∧ i ≤ (n : Int))
theorem isAtOne_any (gc : Nat) (a : Option Addr) (n cap : Nat) (i : Int) (w : World) (H : Cb w gc a n cap i) : Calls Try.prog 47 #[.pointer (some ⟨gc, 0, none⟩)] w fun e w' => e = .returned (.bool (at1 n i)) ∧ Below w.heap.size w w' := by
  have c0 := H.c0
  have c1 := H.c1
  clear H
  by_cases h1 : 1 ≤ i
  · have e : at1 n i = decide (i ≤ (n : Int)) := by unfold at1; simp [h1]
    rw [e]
    clear e
    go_enter Try.func47, Try.ntmps47
    go_wp2_with fail
    go_quiet (fail)
    go_wp2_with fail
    go_ret
    exact ⟨rfl, drewN_below _ _⟩
  · have e : at1 n i = false := by unfold at1; simp [h1]
    rw [e]
    have e1 : decide (1 ≤ i) = false := decide_eq_false h1
    have e2 : decide (i ≥ 1) = false := decide_eq_false h1
    go_enter Try.func47, Try.ntmps47
    go_wp2_with fail
    go_quiet (fail)
    go_wp2_with fail
    go_ret
    exact ⟨rfl, drewN_below _ _⟩
/-- What a move leaves: the cursor's place alone has turned. -/
def Moved (gc : Nat) (a : Option Addr) (n cap : Nat) (i : Int) (w w' : World) : Prop := Cb w' gc a n cap i ∧ Fp (fun j => j = gc) w w'
theorem stand_any (gc : Nat) (a : Option Addr) (n cap : Nat) (i j : Int) (w : World) (H : Cb w gc a n cap i) : Calls Try.prog 48 #[.pointer (some ⟨gc, 0, none⟩), .int .i64 j] w fun e w' => e = .returned (.bool (at1 n j)) ∧ Moved gc a n cap j w w' := by
  have f1 : w.frozen? ⟨gc, 1, none⟩ = false := fz_of H 1
  have c1 := H.c1
  obtain ⟨W, hW⟩ : ∃ W, W = w.setCell ⟨gc, 1, none⟩ (.int .i64 j) := ⟨_, rfl⟩
  have HA := hid (isAtOne_any gc a n cap j W (by rw [hW]; exact H.set j))
  have HC : Hid (Cb W gc a n cap j) := by rw [hW]; exact H.set j
  have HF : Hid (Fp (fun k => k = gc) w W) := by show Fp _ _ _; rw [hW]; exact Fp.set (P := fun k => k = gc) (Fp.refl _ w) (.inl rfl) 1 _
  replace hW := hid hW
  clear H
  go_enter Try.func48, Try.ntmps48
  go_wp2_with fail
  rw [← hW.out]
  refine HA.out.mono ?_
  rintro e w1 ⟨rfl, b1⟩
  have K1 : Hid (Moved gc a n cap j w w1) := ⟨HC.out.later b1, HF.out.below b1⟩
  clear b1
  go_wp2_with fail
  go_ret
  exact ⟨rfl, K1.out⟩
theorem len_any (gc : Nat) (a : Option Addr) (n cap : Nat) (i : Int) (w : World) (H : Cb w gc a n cap i) : Calls Try.prog 20 #[.pointer (some ⟨gc, 0, none⟩)] w fun e w' => e = .returned (.int .i64 n) ∧ w' = w := by
  have c0 := H.c0
  clear H
  go_enter Try.func20, Try.ntmps20
  go_wp2
  go_ret
  exact ⟨rfl, rfl⟩
theorem first_any (gc : Nat) (a : Option Addr) (n cap : Nat) (i : Int) (w : World) (H : Cb w gc a n cap i) : Calls Try.prog 23 #[.pointer (some ⟨gc, 0, none⟩)] w fun e w' => e = .returned (.bool (at1 n 1)) ∧ Moved gc a n cap 1 w w' := by
  have HS := hid (stand_any gc a n cap i 1 w H)
  clear H
  go_enter Try.func23, Try.ntmps23
  go_wp2_with fail
  refine HS.out.mono ?_
  rintro e w1 ⟨rfl, m1⟩
  replace m1 := hid m1
  go_wp2_with fail
  go_ret
  exact ⟨rfl, m1.out⟩
theorem last_any (gc : Nat) (a : Option Addr) (n cap : Nat) (i : Int) (w : World) (H : Cb w gc a n cap i) : Calls Try.prog 24 #[.pointer (some ⟨gc, 0, none⟩)] w fun e w' => e = .returned (.bool (at1 n n)) ∧ Moved gc a n cap n w w' := by
  have HS := hid (stand_any gc a n cap i n w H)
  have c0 := H.c0
  clear H
  go_enter Try.func24, Try.ntmps24
  go_wp2_with fail
  refine HS.out.mono ?_
  rintro e w1 ⟨rfl, m1⟩
  replace m1 := hid m1
  go_wp2_with fail
  go_ret
  exact ⟨rfl, m1.out⟩
theorem prev_any (gc : Nat) (a : Option Addr) (n cap : Nat) (i : Int) (w : World) (H : Cb w gc a n cap i) (hi : 0 ≤ i) (hi2 : i ≤ 1000000000000) : Calls Try.prog 27 #[.pointer (some ⟨gc, 0, none⟩)] w fun e w' => e = .returned (.bool (at1 n (max i 1 - 1))) ∧ Moved gc a n cap (max i 1 - 1) w w' := by
  obtain ⟨j, hj⟩ : ∃ j, j = max i 1 - 1 := ⟨_, rfl⟩
  rw [← hj]
  have HS := hid (stand_any gc a n cap i j w H)
  have c1 := H.c1
  clear H
  replace hj := hid hj
  go_enter Try.func27, Try.ntmps27
  go_wp2_with fail
  rw [← hj.out]
  refine HS.out.mono ?_
  rintro e w1 ⟨rfl, m1⟩
  replace m1 := hid m1
  go_wp2_with fail
  go_ret
  exact ⟨rfl, m1.out⟩
set_option maxRecDepth 100000 in
theorem next_any (gc : Nat) (a : Option Addr) (n cap : Nat) (i : Int) (w : World) (H : Cb w gc a n cap i) (hi : 0 ≤ i) (hi2 : i ≤ 1000000000000) : Calls Try.prog 26 #[.pointer (some ⟨gc, 0, none⟩)] w fun e w' => e = .returned (.bool (at1 n (min i n + 1))) ∧ Moved gc a n cap (min i n + 1) w w' := by
  obtain ⟨j, hj⟩ : ∃ j, j = min i n + 1 := ⟨_, rfl⟩
  rw [← hj]
  obtain ⟨D, hD⟩ : ∃ D, D = World.drew w := ⟨_, rfl⟩
  have bD : Below w.heap.size w D := by rw [hD]; exact drew_below w
  have HS := hid (stand_any gc a n cap i j D (H.later bD))
  have HB := hid bD
  have c1 := (H.later bD).c1
  have c0 := (H.later bD).c0
  have hwr : IntKind.i64.wrap (min i (n : Int) + 1) = j := by rw [hj, IntKind.wrap_i64]; omega
  replace hD := hid hD
  replace hj := hid hj
  clear H bD
  go_enter Try.func26, Try.ntmps26
  go_wp2_with fail
  refine region_tail 15 (by kernel_rfl) (by kernel_rfl) ?_
  rw [← hD.out]
  simp only [List.take_succ_cons, List.take_zero, List.drop_succ_cons, List.drop_zero]
  repeat still_step
  refine wpStill_nil ?_
  go_wp2_with fail
  refine HS.out.mono ?_
  rintro e w1 ⟨rfl, m1⟩
  have K1 : Hid (Moved gc a n cap j w w1) := ⟨m1.1, (Fp.of HB.out).trans (m1.2.wide fun k _ hk => .inl hk)⟩
  clear m1
  go_wp2_with fail
  go_ret
  exact ⟨rfl, K1.out⟩
/-- Here where the cursor stands at no entry. -/
theorem here_no (gc : Nat) (a : Option Addr) (n cap : Nat) (i : Int) (w : World) (H : Cb w gc a n cap i) (h : at1 n i = false) : Calls Try.prog 22 #[.pointer (some ⟨gc, 0, none⟩)] w fun e w' => e = .returned (.tuple #[.agg #[.string ⟨#[]⟩, .int .u64 0, .int .i64 0], .string ⟨#[]⟩, .bool false]) ∧ Below w.heap.size w w' := by
  obtain ⟨W0, hW0⟩ : ∃ W, W = w.alloc (.cells #[.string ⟨#[]⟩, .int .u64 0, .int .i64 0] 36) := ⟨_, rfl⟩
  have B0 : Below w.heap.size w W0 := by rw [hW0]; exact box_below _ _
  obtain ⟨gr, hgr⟩ : ∃ n, n = w.heap.size := ⟨_, rfl⟩
  have kR : W0.heap[gr]? = some (.cells #[.string ⟨#[]⟩, .int .u64 0, .int .i64 0] 36) := by rw [hW0, hgr]; exact new_at _ _
  have HA := isAtOne_any gc a n cap i W0 (H.later B0)
  rw [h] at HA
  replace HA := hid HA
  replace hW0 := hid hW0
  replace hgr := hid hgr
  replace B0 := hid B0
  replace kR := hid kR
  clear H h
  go_enter Try.func22, Try.ntmps22
  go_wp2_with fail
  rw [← hW0.out, ← hgr.out]
  refine HA.out.mono ?_
  rintro e w1 ⟨rfl, b1⟩
  have k1 : w1.heap[gr]? = some (.cells #[.string ⟨#[]⟩, .int .u64 0, .int .i64 0] 36) := (b1.block gr (blk_lt kR.out)).trans kR.out
  have q0 := cell_of k1 0 _ rfl
  have q1 := cell_of k1 1 _ rfl
  have q2 := cell_of k1 2 _ rfl
  have z0 := fz_of k1 0
  have z1 := fz_of k1 1
  have z2 := fz_of k1 2
  have HB1 : Hid (Below w.heap.size w w1) := B0.out.trans (b1.mono B0.out.size)
  have HG : Hid (∀ W, Below w.heap.size w W → ∀ i v, Below w.heap.size w (W.setCell ⟨gr, i, none⟩ v)) := fun W hW i v => hW.setCell (by show w.heap.size ≤ gr; rw [hgr.out]; exact Nat.le_refl _) v
  clear b1
  replace k1 := hid k1
  go_wp2_with fail
  generalize hWF : ((w1.setCell ⟨gr, 0, none⟩ (.string ⟨#[]⟩)).setCell ⟨gr, 1, none⟩ (.int .u64 0)).setCell ⟨gr, 2, none⟩ (.int .i64 0) = WF at *
  have k4 : WF.heap[gr]? = some (.cells #[.string ⟨#[]⟩, .int .u64 0, .int .i64 0] 36) := by rw [← hWF]; exact set_of (set_of (set_of k1.out 0 _) 1 _) 2 _
  have q0 := cell_of k4 0 _ rfl
  have q1 := cell_of k4 1 _ rfl
  have q2 := cell_of k4 2 _ rfl
  have BF : Hid (Below w.heap.size w WF) := by rw [← hWF]; exact HG.out _ (HG.out _ (HG.out _ HB1.out _ _) _ _) _ _
  exact bodyPost_ret (v := .tuple #[.agg #[.string ⟨#[]⟩, .int .u64 0, .int .i64 0], .string ⟨#[]⟩, .bool false]) (by simp [results, Try.results22, go_sem, q0, q1, q2]) rfl ⟨rfl, BF.out⟩
theorem here_nil (w : World) : Calls Try.prog 22 #[.pointer none] w fun e w' => e = .returned (.tuple #[.agg #[.string ⟨#[]⟩, .int .u64 0, .int .i64 0], .string ⟨#[]⟩, .bool false]) ∧ Below w.heap.size w w' := by
  go_enter Try.func22, Try.ntmps22
  go_wp2_with fail
  have k4 := new_at w (.cells #[.string ⟨#[]⟩, .int .u64 0, .int .i64 0] 36)
  have q0 := cell_of k4 0 _ rfl
  have q1 := cell_of k4 1 _ rfl
  have q2 := cell_of k4 2 _ rfl
  exact bodyPost_ret (v := .tuple #[.agg #[.string ⟨#[]⟩, .int .u64 0, .int .i64 0], .string ⟨#[]⟩, .bool false]) (by simp [results, Try.results22, go_sem, q0, q1, q2]) rfl ⟨rfl, box_below _ _⟩
set_option maxHeartbeats 1000000 in
set_option maxRecDepth 100000 in
/-- Here where the cursor stands at an entry. -/
theorem here_yes (gc b o n cap k : Nat) (x : E) (w : World) (H : Cb w gc (some ⟨b, o, none⟩) n cap ((k : Int) + 1)) (hk : k < n) (hn : n ≤ 1000000000000) (hc : n ≤ cap) (HX : At4 w b (o + k * 4) x) : Calls Try.prog 22 #[.pointer (some ⟨gc, 0, none⟩)] w fun e w' => e = .returned (.tuple #[.agg #[.string x.k, .int .u64 x.s, .int .i64 x.c], .string x.v, .bool true]) ∧ Below w.heap.size w w' := by
  obtain ⟨W0, hW0⟩ : ∃ W, W = w.alloc (.cells #[.string ⟨#[]⟩, .int .u64 0, .int .i64 0] 36) := ⟨_, rfl⟩
  have B0 : Below w.heap.size w W0 := by rw [hW0]; exact box_below _ _
  obtain ⟨gr, hgr⟩ : ∃ n, n = w.heap.size := ⟨_, rfl⟩
  have kR : W0.heap[gr]? = some (.cells #[.string ⟨#[]⟩, .int .u64 0, .int .i64 0] 36) := by rw [hW0, hgr]; exact new_at _ _
  have HA := isAtOne_any gc (some ⟨b, o, none⟩) n cap ((k : Int) + 1) W0 (H.later B0)
  have h1 : at1 n ((k : Int) + 1) = true := by unfold at1; exact decide_eq_true (by omega)
  rw [h1] at HA
  replace HA := hid HA
  replace hW0 := hid hW0
  replace hgr := hid hgr
  replace H := hid H
  replace HX := hid HX
  replace B0 := hid B0
  replace kR := hid kR
  clear h1
  obtain ⟨xk, xs, xc, xv⟩ := x
  dsimp only at HX ⊢
  go_enter Try.func22, Try.ntmps22
  go_wp2_with fail
  rw [← hW0.out, ← hgr.out]
  refine HA.out.mono ?_
  rintro e w1 ⟨rfl, b1⟩
  have HB1 : Below w.heap.size w w1 := B0.out.trans (b1.mono B0.out.size)
  have kR1 : Hid (w1.heap[gr]? = some (.cells #[.string ⟨#[]⟩, .int .u64 0, .int .i64 0] 36)) := (b1.block gr (blk_lt kR.out)).trans kR.out
  have HF : Hid (∀ W, Below w1.heap.size w1 W → W.cell? ⟨gc, 0, none⟩ = some (.slice (some ⟨b, o, none⟩) n cap) ∧ W.cell? ⟨gc, 1, none⟩ = some (.int .i64 ((k : Int) + 1)) ∧ W.cell? ⟨b, o + k * 4, none⟩ = some (.string xk) ∧ W.cell? ⟨b, o + k * 4 + 1, none⟩ = some (.int .u64 xs) ∧ W.cell? ⟨b, o + k * 4 + 2, none⟩ = some (.int .i64 xc) ∧ W.cell? ⟨b, o + k * 4 + 3, none⟩ = some (.string xv)) := by
    intro W hW
    have BW := HB1.trans (hW.mono HB1.size)
    obtain ⟨x0, x1, x2, x3⟩ := HX.out.later BW
    exact ⟨(H.out.later BW).c0, (H.out.later BW).c1, x0, x1, x2, x3⟩
  have hwr : IntKind.i64.wrap (k : Int) = (k : Int) := by rw [IntKind.wrap_i64]; omega
  have BW1 := hid HB1
  have HG : Hid (∀ W, Below w.heap.size w W → ∀ i v, Below w.heap.size w (W.setCell ⟨gr, i, none⟩ v)) := fun W hW i v => hW.setCell (by show w.heap.size ≤ gr; rw [hgr.out]; exact Nat.le_refl _) v
  clear b1 HB1
  go_wp2_with fail
  refine wp_region_held_drew (S := fun W => Below w1.heap.size w1 W) (by kernel_rfl) ((Below.refl _ _).drew) (fun hS => ?_)
  generalize World.drew w1 = D at *
  refine wpAnyH_take (i := 0) (v := ?v1) rfl (by kernel_rfl) (by kernel_rfl) (by kernel_rfl) (fun _ _ _ h => h) (Or.inl ⟨by rfl, ?h1⟩) hS ?_
  case h1 => (intro W hW; go_simp; try (with_reducible rfl))
  go_simp
  refine wpAnyH_take (i := 1) (v := ?v2) rfl (by kernel_rfl) (by kernel_rfl) (by kernel_rfl) (fun _ _ _ h => h) (Or.inl ⟨by rfl, ?h2⟩) hS ?_
  case h2 => (intro W hW; go_simp; try (with_reducible rfl))
  go_simp
  refine wpAnyH_take (i := 2) (v := ?v3) rfl (by kernel_rfl) (by kernel_rfl) (by kernel_rfl) (fun _ _ _ h => h) (Or.inl ⟨by rfl, ?h3⟩) hS ?_
  case h3 => (intro W hW; go_simp; try (with_reducible rfl))
  go_simp
  refine wpAnyH_take (i := 3) (v := ?v4) rfl (by kernel_rfl) (by kernel_rfl) (by kernel_rfl) (fun _ _ _ h => h) (Or.inl ⟨by rfl, ?h4⟩) hS ?_
  case h4 => (intro W hW; obtain ⟨c0, c1, x0, x1, x2, x3⟩ := HF.out W hW; go_simp; try (with_reducible rfl))
  go_simp
  refine wpAnyH_take (i := 4) (v := ?v5) rfl (by kernel_rfl) (by kernel_rfl) (by kernel_rfl) (fun _ _ _ h => h) (Or.inl ⟨by rfl, ?h5⟩) hS ?_
  case h5 => (intro W hW; go_simp; try (with_reducible rfl))
  go_simp
  refine wpAnyH_take (i := 5) (v := ?v6) rfl (by kernel_rfl) (by kernel_rfl) (by kernel_rfl) (fun _ _ _ h => h) (Or.inl ⟨by rfl, ?h6⟩) hS ?_
  case h6 => (intro W hW; go_simp; try (with_reducible rfl))
  go_simp
  refine wpAnyH_take (i := 6) (v := ?v7) rfl (by kernel_rfl) (by kernel_rfl) (by kernel_rfl) (fun _ _ _ h => h) (Or.inl ⟨by rfl, ?h7⟩) hS ?_
  case h7 => (intro W hW; go_simp; try (with_reducible rfl))
  go_simp
  refine wpAnyH_take (i := 7) (v := ?v8) rfl (by kernel_rfl) (by kernel_rfl) (by kernel_rfl) (fun _ _ _ h => h) (Or.inl ⟨by rfl, ?h8⟩) hS ?_
  case h8 => (intro W hW; obtain ⟨c0, c1, x0, x1, x2, x3⟩ := HF.out W hW; go_simp; try (with_reducible rfl))
  go_simp
  refine wpAnyH_take (i := 8) (v := ?v9) rfl (by kernel_rfl) (by kernel_rfl) (by kernel_rfl) (fun _ _ _ h => h) (Or.inl ⟨by rfl, ?h9⟩) hS ?_
  case h9 => (intro W hW; go_simp; try (with_reducible rfl))
  go_simp
  refine wpAnyH_take (i := 9) (v := ?v10) rfl (by kernel_rfl) (by kernel_rfl) (by kernel_rfl) (fun _ _ _ h => h) (Or.inl ⟨by rfl, ?h10⟩) hS ?_
  case h10 => (intro W hW; go_simp; try (with_reducible rfl))
  go_simp
  refine wpAnyH_take (i := 10) (v := ?v11) rfl (by kernel_rfl) (by kernel_rfl) (by kernel_rfl) (fun _ _ _ h => h) (Or.inl ⟨by rfl, ?h11⟩) hS ?_
  case h11 => (intro W hW; obtain ⟨c0, c1, x0, x1, x2, x3⟩ := HF.out W hW; go_simp; try (with_reducible rfl))
  go_simp
  refine wpAnyH_ready (rs := [11]) (by kernel_rfl) (by simp) ?_
  refine AllReadyH.cons rfl (fun K hK => ?_) ?_
  · go_simp
    have h12 : (D.alloc (.cells #[.string ⟨#[]⟩, .int .u64 0, .int .i64 0, .string ⟨#[]⟩] 85)).heap[D.heap.size]? = some (.cells #[.string ⟨#[]⟩, .int .u64 0, .int .i64 0, .string ⟨#[]⟩] 85) := new_at _ _
    have hb12 : w1.heap.size ≤ D.heap.size := hS.size
    refine hK.out _ _ (hS.alloc hS.size _) (fun hS => ?_)
    clear hK K
    generalize D.alloc (.cells #[.string ⟨#[]⟩, .int .u64 0, .int .i64 0, .string ⟨#[]⟩] 85) = z16 at *
    generalize D.heap.size = gx at *
    replace hb12 := hid hb12
    refine wpAnyH_ready (rs := [12]) (by kernel_rfl) (by simp) ?_
    refine AllReadyH.cons rfl (fun K hK => ?_) ?_
    · have q0 := cell_of h12 0 (.string ⟨#[]⟩) rfl
      have q1 := cell_of h12 1 (.int .u64 0) rfl
      have q2 := cell_of h12 2 (.int .i64 0) rfl
      have q3 := cell_of h12 3 (.string ⟨#[]⟩) rfl
      have f0 := fz_of h12 0
      have f1 := fz_of h12 1
      have f2 := fz_of h12 2
      have f3 := fz_of h12 3
      have k12 := set_of (set_of (set_of (set_of h12 0 (.string xk)) 1 (.int .u64 xs)) 2 (.int .i64 xc)) 3 (.string xv)
      have hSF : Below w1.heap.size w1 ((((z16.setCell ⟨gx, 0, none⟩ (.string xk)).setCell ⟨gx, 1, none⟩ (.int .u64 xs)).setCell ⟨gx, 2, none⟩ (.int .i64 xc)).setCell ⟨gx, 3, none⟩ (.string xv)) := (((hS.setCell (p := ⟨gx, 0, none⟩) hb12.out _).setCell (p := ⟨gx, 1, none⟩) hb12.out _).setCell (p := ⟨gx, 2, none⟩) hb12.out _).setCell (p := ⟨gx, 3, none⟩) hb12.out _
      replace k12 := hid k12
      go_simp
      refine hK.out _ _ hSF (fun hS => ?_)
      clear hK K
      generalize (((z16.setCell ⟨gx, 0, none⟩ (.string xk)).setCell ⟨gx, 1, none⟩ (.int .u64 xs)).setCell ⟨gx, 2, none⟩ (.int .i64 xc)).setCell ⟨gx, 3, none⟩ (.string xv) = zf at *
      clear h12 q0 q1 q2 q3 f0 f1 f2 f3 hSF
      refine wpAnyH_done (by kernel_rfl) ?_ _
      have K12 : Hid (zf.heap[gx]? = some (.cells #[.string xk, .int .u64 xs, .int .i64 xc, .string xv] 85)) := k12
      obtain ⟨D2, hD2⟩ : ∃ D2, D2 = World.drew zf := ⟨_, rfl⟩
      have B2 : Hid (Below w.heap.size w D2) := by show Below _ _ _; rw [hD2]; exact (BW1.out.trans (hS.mono BW1.out.size)).drew
      have KR2 : Hid (D2.heap[gr]? = some (.cells #[.string ⟨#[]⟩, .int .u64 0, .int .i64 0] 36)) := by show _ = _; rw [hD2]; exact (hS.block gr (blk_lt kR1.out)).trans kR1.out
      have hne : gx ≠ gr := by have := blk_lt kR1.out; have := hb12.out; omega
      have HS4 : Hid (∀ W : World, At4 W gx 0 ⟨xk, xs, xc, xv⟩ → At4 (((W.setCell ⟨gr, 0, none⟩ (.string xk)).setCell ⟨gr, 1, none⟩ (.int .u64 xs)).setCell ⟨gr, 2, none⟩ (.int .i64 xc)) gx 0 ⟨xk, xs, xc, xv⟩) := by
        intro W h
        have he : (((W.setCell ⟨gr, 0, none⟩ (.string xk)).setCell ⟨gr, 1, none⟩ (.int .u64 xs)).setCell ⟨gr, 2, none⟩ (.int .i64 xc)).heap[gx]? = W.heap[gx]? := by rw [set_ne _ _ _ _ _ hne, set_ne _ _ _ _ _ hne, set_ne _ _ _ _ _ hne]
        unfold At4 World.cell? at h ⊢
        rw [he]; exact h
      have HX2 : At4 D2 gx 0 ⟨xk, xs, xc, xv⟩ := by
        have e : D2.heap[gx]? = some (.cells #[.string xk, .int .u64 xs, .int .i64 xc, .string xv] 85) := by rw [hD2]; exact K12.out
        exact ⟨cell_of e 0 _ rfl, cell_of e 1 _ rfl, cell_of e 2 _ rfl, cell_of e 3 _ rfl⟩
      replace hD2 := hid hD2
      replace HX2 := hid HX2
      clear hS k12 K12 hne
      go_wp2_with fail
      refine wp_region_held_drew (S := fun W => At4 W gx 0 ⟨xk, xs, xc, xv⟩) (by kernel_rfl) (by rw [← hD2.out]; exact HX2.out) (fun hS => ?_)
      rw [← hD2.out] at hS ⊢
      refine wpAnyH_take (i := 0) (v := ?v12) rfl (by kernel_rfl) (by kernel_rfl) (by kernel_rfl) (fun _ _ _ h => h) (Or.inl ⟨by rfl, ?h12⟩) hS ?_
      case h12 => (intro W hW; go_simp; try (with_reducible rfl))
      go_simp
      refine wpAnyH_take (i := 1) (v := ?v13) rfl (by kernel_rfl) (by kernel_rfl) (by kernel_rfl) (fun _ _ _ h => h) (Or.inl ⟨by rfl, ?h13⟩) hS ?_
      case h13 => (intro W hW; obtain ⟨x0, x1, x2, x3⟩ := hW; dsimp only at x0 x1 x2 x3; go_simp; try (with_reducible rfl))
      go_simp
      refine wpAnyH_take (i := 2) (v := ?v14) rfl (by kernel_rfl) (by kernel_rfl) (by kernel_rfl) (fun _ _ _ h => h) (Or.inl ⟨by rfl, ?h14⟩) hS ?_
      case h14 => (intro W hW; go_simp; try (with_reducible rfl))
      go_simp
      refine wpAnyH_take (i := 3) (v := ?v15) rfl (by kernel_rfl) (by kernel_rfl) (by kernel_rfl) (fun _ _ _ h => h) (Or.inl ⟨by rfl, ?h15⟩) hS ?_
      case h15 => (intro W hW; obtain ⟨x0, x1, x2, x3⟩ := hW; dsimp only at x0 x1 x2 x3; go_simp; try (with_reducible rfl))
      go_simp
      refine wpAnyH_ready (rs := [4]) (by kernel_rfl) (by simp) ?_
      refine AllReadyH.cons rfl (fun K hK => ?_) ?_
      · have k2 : D2.heap[gr]? = some (.cells #[.string ⟨#[]⟩, .int .u64 0, .int .i64 0] 36) := KR2.out
        have q0 := cell_of k2 0 _ rfl
        have q1 := cell_of k2 1 _ rfl
        have q2 := cell_of k2 2 _ rfl
        have f0 := fz_of k2 0
        have f1 := fz_of k2 1
        have f2 := fz_of k2 2
        have k4 := set_of (set_of (set_of k2 0 (.string xk)) 1 (.int .u64 xs)) 2 (.int .i64 xc)
        have B4 : Below w.heap.size w (((D2.setCell ⟨gr, 0, none⟩ (.string xk)).setCell ⟨gr, 1, none⟩ (.int .u64 xs)).setCell ⟨gr, 2, none⟩ (.int .i64 xc)) := HG.out _ (HG.out _ (HG.out _ B2.out _ _) _ _) _ _
        have S4 : At4 (((D2.setCell ⟨gr, 0, none⟩ (.string xk)).setCell ⟨gr, 1, none⟩ (.int .u64 xs)).setCell ⟨gr, 2, none⟩ (.int .i64 xc)) gx 0 ⟨xk, xs, xc, xv⟩ := HS4.out _ hS
        replace k4 := hid k4
        replace B4 := hid B4
        go_simp
        refine hK.out _ _ S4 (fun hS => ?_)
        clear hK K
        generalize ((D2.setCell ⟨gr, 0, none⟩ (.string xk)).setCell ⟨gr, 1, none⟩ (.int .u64 xs)).setCell ⟨gr, 2, none⟩ (.int .i64 xc) = WF at *
        clear k2 q0 q1 q2 f0 f1 f2 S4
        refine wpAnyH_take (i := 5) (v := ?v16) rfl (by kernel_rfl) (by kernel_rfl) (by kernel_rfl) (fun _ _ _ h => h) (Or.inl ⟨by rfl, ?h16⟩) hS ?_
        case h16 => (intro W hW; go_simp; try (with_reducible rfl))
        go_simp
        refine wpAnyH_take (i := 6) (v := ?v17) rfl (by kernel_rfl) (by kernel_rfl) (by kernel_rfl) (fun _ _ _ h => h) (Or.inl ⟨by rfl, ?h17⟩) hS ?_
        case h17 => (intro W hW; go_simp; try (with_reducible rfl))
        go_simp
        refine wpAnyH_done (by kernel_rfl) ?_ _
        go_wp2_with fail
        have q0 := cell_of k4.out 0 (.string xk) rfl
        have q1 := cell_of k4.out 1 (.int .u64 xs) rfl
        have q2 := cell_of k4.out 2 (.int .i64 xc) rfl
        exact bodyPost_ret (v := .tuple #[.agg #[.string xk, .int .u64 xs, .int .i64 xc], .string xv, .bool true]) (by simp [results, Try.results22, go_sem, q0, q1, q2]) rfl ⟨rfl, B4.out⟩
      exact AllReadyH.nil
    exact AllReadyH.nil
  exact AllReadyH.nil
end Go.Proofs.Ytkanjbeijoeenaa.Cu

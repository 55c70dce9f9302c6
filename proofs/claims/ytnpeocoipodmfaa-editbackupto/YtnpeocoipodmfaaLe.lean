/- An edit in memory of its own; a place of a file that comes; what the later one says. -/
import Derived.Test.YtnpeocoipodmfaaSs
namespace Go.Proofs.Ytnpeocoipodmfaa.Le
open Go.ChangeShapes Go.WideShapes Go.ChangeAt Go.RowKit
open Go.Proofs.Ytnpeocoipodmfaa.Gr
open Go.Proofs.Ytnpeocoipodmfaa.Ev
open Go.Proofs.Ytnpeocoipodmfaa.Ss
set_option linter.unusedVariables false
set_option linter.unusedSimpArgs false

theorem wpList_append_run {P : Program} {w w' : World} {ops : Array Oper} {rest : List Oper} {o : Oper} {a : Act} {Q : Exit → Act → World → Prop} (hg : o.guard = none) (s x : Operand) (t tx : TypeId) (hop : o.op = Op.call { callee := Callee.builtin Builtin.append, args := #[s, x], argTypes := #[t, tx] })
    (u v v' : Value) (hs : a.eval s = u) (hx : a.eval x = v) (hrun : (Builtin.append_ #[t, tx] o.type #[u, v]).run P w = .ok v' w') (hK : wpList P ops Q rest (a.put o.dst v') w') : wpList P ops Q (o :: rest) a w := by
  refine wpList_plain hg fun K' hK' => ?_
  unfold Oper.wp
  simp [execOp, hop, resolve, invoke, builtin, hs, hx, hrun, Result.andThen]
  exact hK' _ _ hK
/-- Five cells of a block are written, all of them. -/
theorem put5 {W : World} {g : Nat} {t : TypeId} {b0 b1 b2 b3 b4 : Value} (h : W.heap[g]? = some (.cells #[b0, b1, b2, b3, b4] t)) (a0 a1 a2 a3 a4 : Value) : (((((W.setCell ⟨g, 0, none⟩ a0).setCell ⟨g, 1, none⟩ a1).setCell ⟨g, 2, none⟩ a2).setCell ⟨g, 3, none⟩ a3).setCell ⟨g, 4, none⟩ a4).heap[g]? = some (.cells #[a0, a1, a2, a3, a4] t) ∧ Fp (· = g) W (((((W.setCell ⟨g, 0, none⟩ a0).setCell ⟨g, 1, none⟩ a1).setCell ⟨g, 2, none⟩ a2).setCell ⟨g, 3, none⟩ a3).setCell ⟨g, 4, none⟩ a4) := by
  have h0 : (W.setCell ⟨g, 0, none⟩ a0).heap[g]? = some (.cells #[a0, b1, b2, b3, b4] t) := (set_of h 0 _).trans rfl
  have h1 : ((W.setCell ⟨g, 0, none⟩ a0).setCell ⟨g, 1, none⟩ a1).heap[g]? = some (.cells #[a0, a1, b2, b3, b4] t) := (set_of h0 1 _).trans rfl
  have h2 : (((W.setCell ⟨g, 0, none⟩ a0).setCell ⟨g, 1, none⟩ a1).setCell ⟨g, 2, none⟩ a2).heap[g]? = some (.cells #[a0, a1, a2, b3, b4] t) := (set_of h1 2 _).trans rfl
  have h3 : ((((W.setCell ⟨g, 0, none⟩ a0).setCell ⟨g, 1, none⟩ a1).setCell ⟨g, 2, none⟩ a2).setCell ⟨g, 3, none⟩ a3).heap[g]? = some (.cells #[a0, a1, a2, a3, b4] t) := (set_of h2 3 _).trans rfl
  exact ⟨(set_of h3 4 _).trans rfl, (((((Fp.refl (fun j => j = g) W).set (g := g) (.inl rfl) 0 a0).set (g := g) (.inl rfl) 1 a1).set (g := g) (.inl rfl) 2 a2).set (g := g) (.inl rfl) 3 a3).set (g := g) (.inl rfl) 4 a4⟩
theorem grown_blk {w w' : World} {row : Option Nat} {g : Nat} {o : Obj} (h : w.heap[g]? = some o) (b : w.grownBy w' row) (hr : ∀ j, row = some j → j ≠ g) : w'.heap[g]? = some o := (b.block g (blk_lt h) (fun e => (hr g e.symm) rfl)).trans h
theorem below_blk {w w' : World} {g : Nat} {o : Obj} (h : w.heap[g]? = some o) (b : Below w.heap.size w w') : w'.heap[g]? = some o := (b.block g (blk_lt h)).trans h
set_option maxHeartbeats 2000000 in
theorem lent_any (v : Value) (x : Ed) (w : World) (H : EV w v x) :
    Calls Try.prog 8 #[v] w fun e w' => ∃ v', e = .returned v' ∧ EO w' w.heap.size v' x ∧ Below w.heap.size w w' := by
  obtain ⟨hok, a, c, a', c', rfl, A1, A2⟩ := H
  have gk1 := A1.ok
  have gk2 := A2.ok
  obtain ⟨xl, xn, xq, xg, xc⟩ := x
  unfold ev
  dsimp only at A1 A2 gk1 gk2 ⊢
  have hng : xg.length ≤ 1099511627776 := hok.2.2.2.1
  have hnc : xc.length ≤ 1099511627776 := hok.2.2.2.2
  obtain ⟨W, g1, g2, hW, hg1, hg2, k1, k2, bW⟩ := boxes2 w #[.int .i64 xl, .int .i64 xn, .int .u64 xq, .slice a xg.length c, .slice a' xc.length c'] #[.int .i64 0, .int .i64 0, .int .u64 0, .slice none 0 0, .slice none 0 0] 26 26
  have hs : W.heap.size = g2 + 1 := by rw [hW, size_alloc, size_alloc, hg2, hg1]
  obtain ⟨g3, hg3⟩ : ∃ g3, g3 = g2 + 1 := ⟨_, rfl⟩
  rw [← hg3] at hs
  -- the first row
  obtain ⟨W1, hW1⟩ : ∃ W1, W1 = W.alloc (.cells #[] 57) := ⟨_, rfl⟩
  have b1 : Below W.heap.size W W1 := by rw [hW1]; exact box_below _ _
  have o1 : ePl.Own W1 W.heap.size (.slice (some ⟨W.heap.size, 0, none⟩) 0 0) [] := by rw [hW1]; exact El.Own.made ePl W
  obtain ⟨v4, W2, r2, o2, w2, q2⟩ := El.app ePl W1 W.heap.size _ [] o1 a xg.length c xg (A1.later (Below.up bW b1)) (by show (0 + xg.length) * 16 ≤ _; omega) (by show 0 + xg.length ≤ _; omega) b1.size
  rw [List.nil_append] at o2
  have j1 := grown_blk (below_blk k1 b1) w2 (by intro j hj; cases hj; show W.heap.size ≠ g1; omega)
  have j2 := grown_blk (below_blk k2 b1) w2 (by intro j hj; cases hj; show W.heap.size ≠ g2; omega)
  have B2 : Below W.heap.size W W2 := ((Fp.of (P := fun _ => False) b1).grown w2 (by intro j hj; cases hj; right; exact Nat.le_refl _)).base (Nat.le_refl _) (fun _ h => h.elim)
  obtain ⟨va, vc, rfl⟩ := row_block o2
  -- the variable's first list
  obtain ⟨W3, hW3⟩ : ∃ W3, W3 = W2.setCell ⟨g1, 3, none⟩ (.slice va xg.length vc) := ⟨_, rfl⟩
  have m1 : W3.heap[g1]? = some (.cells #[.int .i64 xl, .int .i64 xn, .int .u64 xq, .slice va xg.length vc, .slice a' xc.length c'] 26) := by rw [hW3]; exact (set_of j1 3 _).trans rfl
  have m2 : W3.heap[g2]? = some (.cells #[.int .i64 0, .int .i64 0, .int .u64 0, .slice none 0 0, .slice none 0 0] 26) := by rw [hW3]; exact (set_ne W2 g1 g2 3 _ (by omega)).trans j2
  have F3 : Fp (· = g1) W2 W3 := by rw [hW3]; exact (Fp.refl (fun j => j = g1) _).set (g := g1) (.inl rfl) 3 _
  have o3 : ePl.Own W3 W.heap.size (.slice va xg.length vc) xg := own_blocks o2 (fun j hj => F3.block j (own_lt o2 j hj).2 (fun e => by have := (own_lt o2 j hj).1; omega))
  have s3 : W3.heap.size = W2.heap.size := by rw [hW3]; simp
  have B3 : Below w.heap.size w W3 := by rw [hW3]; exact (Below.up bW B2).setCell (p := ⟨g1, 3, none⟩) (by show w.heap.size ≤ g1; omega) _
  -- the second row
  obtain ⟨W4, hW4⟩ : ∃ W4, W4 = W3.alloc (.cells #[] 60) := ⟨_, rfl⟩
  have b4 : Below W3.heap.size W3 W4 := by rw [hW4]; exact box_below _ _
  have o4 : eAd.Own W4 W3.heap.size (.slice (some ⟨W3.heap.size, 0, none⟩) 0 0) [] := by rw [hW4]; exact El.Own.made eAd W3
  obtain ⟨v5, W5, r5, o5, w5, q5⟩ := El.app eAd W4 W3.heap.size _ [] o4 a' xc.length c' xc (A2.later (Below.up B3 b4)) (by show (0 + xc.length) * 72 ≤ _; omega) (by show 0 + xc.length ≤ _; omega) b4.size
  rw [List.nil_append] at o5
  have hlt1 : g1 < W3.heap.size := blk_lt m1
  have hlt2 : g2 < W3.heap.size := blk_lt m2
  have n1 := grown_blk (below_blk m1 b4) w5 (by intro j hj; cases hj; show W3.heap.size ≠ g1; omega)
  have n2 := grown_blk (below_blk m2 b4) w5 (by intro j hj; cases hj; show W3.heap.size ≠ g2; omega)
  have B5 : Below W3.heap.size W3 W5 := ((Fp.of (P := fun _ => False) b4).grown w5 (by intro j hj; cases hj; right; exact Nat.le_refl _)).base (Nat.le_refl _) (fun _ h => h.elim)
  obtain ⟨va', vc', rfl⟩ := row_block o5
  have o5' : ePl.Own W5 W.heap.size (.slice va xg.length vc) xg := o3.later B5
  -- what is told
  obtain ⟨W6, hW6⟩ : ∃ W6, W6 = W5.setCell ⟨g1, 4, none⟩ (.slice va' xc.length vc') := ⟨_, rfl⟩
  have p2 : W6.heap[g2]? = some (.cells #[.int .i64 0, .int .i64 0, .int .u64 0, .slice none 0 0, .slice none 0 0] 26) := by rw [hW6]; exact (set_ne W5 g1 g2 4 _ (by omega)).trans n2
  have F6 : Fp (· = g1) W5 W6 := by rw [hW6]; exact (Fp.refl (fun j => j = g1) _).set (g := g1) (.inl rfl) 4 _
  have P5 := put5 p2 (.int .i64 xl) (.int .i64 xn) (.int .u64 xq) (.slice va xg.length vc) (.slice va' xc.length vc')
  obtain ⟨W7, hW7⟩ : ∃ W7, W7 = (((((W6.setCell ⟨g2, 0, none⟩ (.int .i64 xl)).setCell ⟨g2, 1, none⟩ (.int .i64 xn)).setCell ⟨g2, 2, none⟩ (.int .u64 xq)).setCell ⟨g2, 3, none⟩ (.slice va xg.length vc)).setCell ⟨g2, 4, none⟩ (.slice va' xc.length vc')) := ⟨_, rfl⟩
  rw [← hW7] at P5
  have FF : Fp (fun j => j = g1 ∨ j = g2) W5 W7 := (F6.wide (fun j _ h => .inl h)).tr (P5.2.wide (fun j _ h => .inl (.inr h)))
  have hlt5 : W3.heap.size ≤ W5.heap.size := B5.size
  have O1 : ePl.Own W7 W.heap.size (.slice va xg.length vc) xg := own_blocks o5' (fun j hj => FF.block j (own_lt o5' j hj).2 (fun e => by have := (own_lt o5' j hj).1; omega))
  have O2 : eAd.Own W7 W.heap.size (.slice va' xc.length vc') xc := own_base (own_blocks o5 (fun j hj => FF.block j (own_lt o5 j hj).2 (fun e => by have := (own_lt o5 j hj).1; omega))) (fun j hj => by have := (own_lt o5 j hj).1; have := B2.size; omega)
  have B7 : Below w.heap.size w W7 := ((Fp.of (P := fun j => w.heap.size ≤ j) (Below.up B3 B5)).tr (FF.wide (fun j _ h => by left; show w.heap.size ≤ j; omega))).base (Nat.le_refl _) (fun _ h => h)
  have hsw : w.heap.size ≤ W.heap.size := bW.size
  have EOf : Hid (EO W7 w.heap.size (ev ⟨xl, xn, xq, xg, xc⟩ va vc va' vc') ⟨xl, xn, xq, xg, xc⟩) := ⟨hok, gk1, gk2, va, vc, va', vc', rfl, own_base O1 (fun j hj => by have := (own_lt O1 j hj).1; omega), own_base O2 (fun j hj => by have := (own_lt O2 j hj).1; omega)⟩
  replace B7 := hid B7
  have PQ := hid P5.1
  have c03 := cell_of j1 3 _ rfl
  have f03 := fz_of j1 3
  have c04 := cell_of j1 4 _ rfl
  have d0 := cell_of n1 0 _ rfl
  have d1 := cell_of n1 1 _ rfl
  have d2 := cell_of n1 2 _ rfl
  have d3 := cell_of n1 3 _ rfl
  have d4 := cell_of n1 4 _ rfl
  have fd4 := fz_of n1 4
  have e0 := cell_of n2 0 _ rfl
  have e1 := cell_of n2 1 _ rfl
  have e2 := cell_of n2 2 _ rfl
  have e3 := cell_of n2 3 _ rfl
  have e4 := cell_of n2 4 _ rfl
  have fe0 := fz_of n2 0
  have fe1 := fz_of n2 1
  have fe2 := fz_of n2 2
  have fe3 := fz_of n2 3
  have fe4 := fz_of n2 4
  have l1 : g1 < W2.heap.size := blk_lt j1
  have ne12 : g1 ≠ g2 := by omega
  have ne21 : g2 ≠ g1 := by omega
  rw [hW1, hs] at r2
  rw [hW4, hW3] at r5
  rw [show (W2.setCell ⟨g1, 3, none⟩ (.slice va xg.length vc)).heap.size = W2.heap.size by simp] at r5
  rw [hW7, hW6] at PQ B7 EOf
  rw [hs] at *
  replace r2 := hid r2
  replace r5 := hid r5
  replace hW := hid hW
  replace hg1 := hid hg1
  replace hg2 := hid hg2
  replace hg3 := hid hg3
  clear hok gk1 gk2 A1 A2 hng hnc k1 k2 bW hs hW1 b1 o1 o2 w2 q2 j1 j2 B2 hW3 m1 m2 F3 o3 s3 B3 hW4 b4 o4 o5 w5 q5 hlt1 hlt2 n1 n2 B5 o5' hW6 p2 F6 P5 hW7 FF hlt5 O1 O2 hsw
  unfold ev at EOf
  dsimp only at EOf
  generalize xg.length = ng at *
  generalize xc.length = nc at *
  go_enter Try.func8, Try.ntmps8
  go_wp2_with (first | (at_builtin; rw [← hW.out, ← hg1.out, ← hg2.out, ← hg3.out]; refine wpList_append_run rfl (.tmp 3) (.tmp 5) 23 23 rfl (.slice (some ⟨g3, 0, none⟩) 0 0) (.slice a ng c) (.slice va ng vc) rfl rfl r2.out ?_) | (at_builtin; refine wpList_append_run rfl (.tmp 8) (.tmp 10) 24 24 rfl (.slice (some ⟨W2.heap.size, 0, none⟩) 0 0) (.slice a' nc c') (.slice va' nc vc') rfl rfl r5.out ?_))
  have KG := PQ.out
  have BG := B7.out
  have EG := EOf.out
  generalize ((((((W5.setCell ⟨g1, 4, none⟩ (.slice va' nc vc')).setCell ⟨g2, 0, none⟩ (.int .i64 xl)).setCell ⟨g2, 1, none⟩ (.int .i64 xn)).setCell ⟨g2, 2, none⟩ (.int .u64 xq)).setCell ⟨g2, 3, none⟩ (.slice va ng vc)).setCell ⟨g2, 4, none⟩ (.slice va' nc vc')) = WG at *
  have q0 := cell_of KG 0 _ rfl
  have q1 := cell_of KG 1 _ rfl
  have q2 := cell_of KG 2 _ rfl
  have q3 := cell_of KG 3 _ rfl
  have q4 := cell_of KG 4 _ rfl
  exact bodyPost_ret (v := .agg #[.int .i64 xl, .int .i64 xn, .int .u64 xq, .slice va ng vc, .slice va' nc vc']) (by simp [results, Try.results8, go_sem, q0, q1, q2, q3, q4]) rfl ⟨_, rfl, EG, BG⟩
end Go.Proofs.Ytnpeocoipodmfaa.Le

/- The Builder: made, filled. -/
import Derived.Test.YtmceanfgcehfeabWk
import Derived.Test.YtmceanfgcehfeabOc
import Derived.Test.YtmceanfgcehfeabJo
import Derived.Lib.QuietBelow
import Derived.BigQuiet
import Derived.Maps.AppendAt
namespace Go.Proofs.Ytmceanfgcehfeab.Bu
open Go.ChangeShapes Go.WideShapes Go.ChangeAt Go.RowKit
open Go.Sort
open Go.Proofs.Ytmceanfgcehfeab.By
open Go.Proofs.Ytmceanfgcehfeab.Ob
open Go.Proofs.Ytmceanfgcehfeab.En
open Go.Proofs.Ytmceanfgcehfeab.De (row_ops may_ok)
set_option linter.unusedVariables false

theorem wp_append_run {P : Program} {w w' : World} {o : Oper} {a : Act} {K : Act → World → Prop} {Q : Exit → Act → World → Prop} (s x : Operand) (t tx : TypeId) (hop : o.op = Op.call { callee := Callee.builtin Builtin.append, args := #[s, x], argTypes := #[t, tx] })
    (u v v' : Value) (hs : a.eval s = u) (hx : a.eval x = v) (hrun : (Builtin.append_ #[t, tx] o.type #[u, v]).run P w = .ok v' w') (hK : K (a.put o.dst v') w') : o.wp P a w K Q := by
  unfold Oper.wp
  simp [execOp, hop, resolve, invoke, builtin, hs, hx, hrun, Result.andThen]
  exact hK
/-- A Builder's own block. -/
def Bld (W : World) (g : Nat) (v : Value) (z : Nat) : Prop := W.heap[g]? = some (.cells #[.bool true, v, .int .i64 z] 40 (0, 0))
theorem Bld.lt {W : World} {g : Nat} {v : Value} {z : Nat} (h : Bld W g v z) : g < W.heap.size := (Array.getElem?_eq_some_iff.1 h).1
theorem Bld.cell {W : World} {g : Nat} {v : Value} {z : Nat} (h : Bld W g v z) (i : Nat) : W.cell? ⟨g, i, none⟩ = (#[.bool true, v, .int .i64 z] : Array Value)[i]? := cell_of_row W g i _ 40 (0, 0) h
theorem Bld.fz {W : World} {g : Nat} {v : Value} {z : Nat} (h : Bld W g v z) (o : Nat) : W.frozen? ⟨g, o, none⟩ = false := by
  simp [World.frozen?, show W.heap[g]? = _ from h]
theorem Bld.later {W W' : World} {g : Nat} {v : Value} {z : Nat} (h : Bld W g v z) (b : Below W.heap.size W W') : Bld W' g v z := (b.block g h.lt).trans h
theorem Bld.apart {W : World} {g : Nat} {v : Value} {z : Nat} {base n : Nat} {u : Value} {xs : List Value} (h : Bld W g v z) (o : W.ownsRow base 60 3 u n xs) : some g ≠ u.ownBlock := by
  intro e
  rcases o.2 with ⟨rfl, _⟩ | ⟨g', cap', cur, rfl, hb, hg, hr⟩
  · simp [Value.ownBlock] at e
  · simp [Value.ownBlock] at e
    subst e
    unfold Bld at h
    rw [hg] at h
    simp at h
theorem Bld.grown {W W' : World} {g : Nat} {v : Value} {z : Nat} {row : Option Nat} (h : Bld W g v z) (k : W.grownBy W' row) (hne : some g ≠ row) : Bld W' g v z := (k.block g h.lt hne).trans h
theorem Bld.set1 {W : World} {g : Nat} {v : Value} {z : Nat} (h : Bld W g v z) (u : Value) : Bld (W.setCell ⟨g, 1, none⟩ u) g u z := by
  unfold Bld at h ⊢
  simp [World.setCell, Array.getElem?_modify, h]
theorem Bld.set2 {W : World} {g : Nat} {v : Value} {z : Nat} (h : Bld W g v z) (y : Nat) : Bld (W.setCell ⟨g, 2, none⟩ (.int .i64 y)) g v y := by
  unfold Bld at h ⊢
  simp [World.setCell, Array.getElem?_modify, h]
/-- A Builder that holds operations; its memory lies from base on. -/
def Bs (W : World) (base g : Nat) (P : Nat → Prop) (xs : List O) : Prop := ∃ v, Bld W g v (bsz xs) ∧ W.ownsRow base 60 3 v xs.length (ocs xs) ∧ base ≤ g ∧ (∀ j, v.ownBlock = some j → ¬ P j)
/-- The block p, if one is named, stays as it is. -/
def Kept (w w' : World) (P : Nat → Prop) : Prop := w.heap.size ≤ w'.heap.size ∧ ∀ j, P j → j < w.heap.size ∧ w'.heap[j]? = w.heap[j]?
theorem Kept.refl {w : World} {P : Nat → Prop} (hp : ∀ j, P j → j < w.heap.size) : Kept w w P := ⟨Nat.le_refl _, fun j e => ⟨hp j e, rfl⟩⟩
theorem Kept.below {w W W' : World} {P : Nat → Prop} (h : Kept w W P) (b : Below W.heap.size W W') : Kept w W' P :=
  ⟨Nat.le_trans h.1 b.size, fun j e => ⟨(h.2 j e).1, (b.block j (Nat.lt_of_lt_of_le (h.2 j e).1 h.1)).trans (h.2 j e).2⟩⟩
theorem Kept.grown {w W W' : World} {P : Nat → Prop} {row : Option Nat} (h : Kept w W P) (k : W.grownBy W' row) (hne : ∀ j, row = some j → ¬ P j) : Kept w W' P :=
  ⟨Nat.le_trans h.1 k.size, fun j e => ⟨(h.2 j e).1, (k.block j (Nat.lt_of_lt_of_le (h.2 j e).1 h.1) (fun e2 => hne j e2.symm e)).trans (h.2 j e).2⟩⟩
theorem Kept.set {w W : World} {P : Nat → Prop} {g : Nat} (h : Kept w W P) (hg : ¬ P g) (i : Nat) (y : Value) : Kept w (W.setCell ⟨g, i, none⟩ y) P :=
  ⟨by simpa using h.1, fun j e => ⟨(h.2 j e).1, (Below.heap_setCell W _ _ j (fun e2 => hg (by rw [show g = j from e2.symm]; exact e))).trans (h.2 j e).2⟩⟩
theorem Kept.trans {w W W' : World} {P : Nat → Prop} (h : Kept w W P) (h2 : Kept W W' P) : Kept w W' P :=
  ⟨Nat.le_trans h.1 h2.1, fun j e => ⟨(h.2 j e).1, (h2.2 j e).2.trans (h.2 j e).2⟩⟩
theorem Bs.later {W W' : World} {base g : Nat} {P : Nat → Prop} {xs : List O} (h : Bs W base g P xs) (b : Below W.heap.size W W') : Bs W' base g P xs := by
  obtain ⟨v, h1, h2, h3⟩ := h
  exact ⟨v, h1.later b, h2.kept (It.grown_of_below b) (by cases hh : v.ownBlock <;> simp), h3⟩
theorem new_any (w : World) (P : Nat → Prop) : Calls Try.prog 8 #[] w fun e w' => e = .returned (.pointer (some ⟨w.heap.size, 0, none⟩)) ∧ Bs w' w.heap.size w.heap.size P [] ∧ Below w.heap.size w w' := by
  go_enter Try.func8, Try.ntmps8
  go_wp2
  go_ret
  refine ⟨rfl, ⟨.slice none 0 0, ?_, World.ownsRow_nil _ _ _ _, Nat.le_refl _, fun _ e => nomatch e⟩, box_below _ _⟩
  show (w.heap.push _)[w.heap.size]? = _
  simp [bsz, osum]
theorem isnone_any (g : Nat) (v : Value) (z : Nat) (w : World) (H : Bld w g v z) : Calls Try.prog 29 #[.pointer (some ⟨g, 0, none⟩)] w fun e w' => e = .returned (.bool false) ∧ w' = w := by
  have c0 : w.cell? ⟨g, 0, none⟩ = some (.bool true) := H.cell 0
  go_enter Try.func29, Try.ntmps29
  go_wp2
  go_ret
  exact ⟨rfl, rfl⟩
theorem opsize_below (c : Int) (k v : ByteArray) (w : World) (N : Nat) (hN : osz ⟨c, k, v⟩ = N) (hk : k.size ≤ 281474976710656) (hv : v.size ≤ 281474976710656) :
    Calls Try.prog 50 #[.agg #[.int .i64 c, .string k, .string v]] w fun e w' => e = .returned (.int .i64 N) ∧ Below w.heap.size w w' := by
  rw [← hN]; exact opsize_any c k v w hk hv
set_option maxRecDepth 100000 in
set_option maxHeartbeats 4000000 in
theorem add_ok (g : Nat) (c : Int) (k v : ByteArray) (xs : List O) (base : Nat) (P : Nat → Prop) (w : World) (H : Bs w base g P xs) (hbase : base ≤ w.heap.size) (hp : ∀ j, P j → j < w.heap.size) (hpg : ¬ P g) (hmay : may ⟨c, k, v⟩ = true) (hl : xs.length < 4096) (hz : bsz xs + osz ⟨c, k, v⟩ ≤ 1048576) :
    Calls Try.prog 36 #[.pointer (some ⟨g, 0, none⟩), .agg #[.int .i64 c, .string k, .string v]] w fun e w' => e = .returned (.int .i64 0) ∧ Bs w' base g P (xs ++ [⟨c, k, v⟩]) ∧ Below base w w' ∧ Kept w w' P := by
  obtain ⟨i0, hi, hz0, hz1, hz2⟩ := info_parts infoOp
  obtain ⟨u, B0, O0, hbg, hup⟩ := H
  obtain ⟨hk1, hk2, hv2, hc0, hc2⟩ := may_sizes hmay
  simp only at hk1 hk2 hv2 hc0 hc2
  obtain ⟨N, hN⟩ : ∃ N, osz ⟨c, k, v⟩ = N := ⟨_, rfl⟩
  have HSZ : Hid (bsz (xs ++ [⟨c, k, v⟩]) = bsz xs + N) := by show _ = _; unfold bsz; rw [osum_append]; simp [osum, hN]; omega
  rw [hN] at hz
  have HM : Hid (∀ W, Calls Try.prog 49 #[.agg #[.int .i64 c, .string k, .string v]] W fun e w' => e = .returned (.bool true) ∧ Below W.heap.size W w') := fun W => by
    have := maybe_any c k v W
    rw [hmay] at this
    exact this
  have HOS : Hid (∀ W, Calls Try.prog 50 #[.agg #[.int .i64 c, .string k, .string v]] W fun e w' => e = .returned (.int .i64 N) ∧ Below W.heap.size W w') := fun W => opsize_below c k v W N hN (by omega) (by omega)
  obtain ⟨gb, hgb⟩ : ∃ gb, gb = w.heap.size := ⟨_, rfl⟩
  obtain ⟨a', c', hu⟩ : ∃ a' c', u = .slice a' xs.length c' := by
    rcases O0.2 with ⟨e, h0⟩ | ⟨g', c', _, e, _⟩
    · rw [h0]; exact ⟨none, 0, e⟩
    · exact ⟨_, c', e⟩
  subst hu
  have HUP := hid hup
  have HP := hid hp
  have HPG := hid hpg
  clear hup hp hpg
  obtain ⟨W0, hW0⟩ : ∃ W0, W0 = w.alloc (.cells #[.int .i64 c, .string k, .string v] 60) := ⟨_, rfl⟩
  have bb := box_below w (.cells #[.int .i64 c, .string k, .string v] 60)
  rw [← hW0] at bb
  have K0 : Hid (Blk W0 gb #[.int .i64 c, .string k, .string v]) := by show Blk _ _ _; rw [hW0, hgb]; exact Blk.new _ _
  have B1 := hid (B0.later bb)
  have O1 := hid (O0.kept (It.grown_of_below bb) (by cases hh : (Value.slice a' xs.length c').ownBlock <;> simp))
  have BW : Hid (Below base w W0) := bb.mono hbase
  have KW : Hid (Kept w W0 P) := (Kept.refl HP.out).below bb
  have z0 := bb.size
  have HW0 := hid hW0
  have HGB := hid hgb
  clear hW0 hgb B0 O0 bb hmay hN
  go_enter Try.func36, Try.ntmps36
  go_wp2_with fail
  rw [← HW0.out, ← HGB.out]
  refine (isnone_any g _ _ W0 B1.out).mono ?_
  rintro e w' ⟨rfl, rfl⟩
  have q0 : w'.cell? ⟨gb, 0, none⟩ = some (.int .i64 c) := K0.out.cell 0
  have q1 : w'.cell? ⟨gb, 1, none⟩ = some (.string k) := K0.out.cell 1
  have q2 : w'.cell? ⟨gb, 2, none⟩ = some (.string v) := K0.out.cell 2
  go_wp2_with fail
  refine (HM.out w').mono ?_
  rintro e w2 ⟨rfl, b2⟩
  have K2 := hid (K0.out.later b2)
  have B2 := hid (B1.out.later b2)
  have O2 := hid (O1.out.kept (It.grown_of_below b2) (by cases hh : (Value.slice a' xs.length c').ownBlock <;> simp))
  have KW2 : Hid (Kept w w2 P) := KW.out.below b2
  have BW2 : Hid (Below base w w2) := BW.out.trans (b2.mono (by omega))
  have z2 := b2.size
  generalize hZs : bsz xs = Zs at *
  have p0 : w2.cell? ⟨gb, 0, none⟩ = some (.int .i64 c) := K2.out.cell 0
  have p1 : w2.cell? ⟨gb, 1, none⟩ = some (.string k) := K2.out.cell 1
  have p2 : w2.cell? ⟨gb, 2, none⟩ = some (.string v) := K2.out.cell 2
  have g2 : w2.cell? ⟨g, 2, none⟩ = some (.int .i64 Zs) := B2.out.cell 2
  have d1 := fun d os => cell_regrown p0 d os
  have d2 := fun d os => cell_regrown p1 d os
  have d3 := fun d os => cell_regrown p2 d os
  have d4 := fun d os => cell_regrown g2 d os
  clear q0 q1 q2 b2 K0 B1 O1 BW
  go_wp2_with fail
  refine wp_region_quiet_below (by kernel_rfl) (by kernel_rfl) ?_
  repeat (first | go_big_quiet_step (first | (go_at_call 50; exact Calls.regrown_of (HOS.out _))) | quiet_step (first | (go_at_call 50; exact Calls.regrown_of (HOS.out _))))
  refine wpQuiet_nil ?_
  intro _ hw'
  obtain ⟨⟨dq, osq⟩, hw''⟩ := hw'
  subst hw''
  have bq := below_regrown w2 dq osq
  have K3 := hid (K2.out.later bq)
  have B3 := hid (B2.out.later bq)
  have O3 := hid (O2.out.kept (It.grown_of_below bq) (by cases hh : (Value.slice a' xs.length c').ownBlock <;> simp))
  have KW3 : Hid (Kept w (grow (redrawn w2 dq) osq) P) := KW2.out.below bq
  have BW3 : Hid (Below base w (grow (redrawn w2 dq) osq)) := BW2.out.trans (bq.mono (by omega))
  have z3 := bq.size
  generalize grow (redrawn w2 dq) osq = w3 at *
  have e1 : w3.cell? ⟨g, 1, none⟩ = some (.slice a' xs.length c') := B3.out.cell 1
  have ne1 : ((xs.length : Int) == 4096) = false := by simp; omega
  have le1 : ¬ (1048576 : Int) < (Zs : Int) + (N : Int) := by omega
  clear d1 d2 d3 d4 p0 p1 p2 g2 bq K2 B2 O2 BW2
  go_wp2_with fail
  have O4 : ((w3.alloc (.cells #[.int .i64 c, .string k, .string v] 60)).drew).ownsRow base 60 3 (.slice a' xs.length c') xs.length (ocs xs) := O3.out.alloc _
  obtain ⟨v5, W5, r5, o5, g5, _, at5⟩ := run_append_own_at (P := Try.prog) ((w3.alloc (.cells #[.int .i64 c, .string k, .string v] 60)).drew) base 26 26 60 i0 (.agg #[.int .i64 0, .string ⟨#[]⟩, .string ⟨#[]⟩]) 3 40 Try.underlying26 hi hz0 hz1 hz2 rfl (by decide) _ xs.length (ocs xs) O4 ⟨w3.heap.size, 0, none⟩ 1 1 [.int .i64 c, .string k, .string v] rfl (by
    intro j u hj
    match j, hj with
    | 0, hj => simp at hj; subst hj; simp [Addr.add, go_sem]
    | 1, hj => simp at hj; subst hj; simp [Addr.add, go_sem]
    | 2, hj => simp at hj; subst hj; simp [Addr.add, go_sem]) (by intro u hu; simp at hu; rcases hu with rfl | rfl | rfl <;> rfl) (by unfold maxLen; omega) (by omega) (by simp; omega)
  have o6 : W5.ownsRow base 60 3 v5 (xs.length + 1) (ocs (xs ++ [⟨c, k, v⟩])) := by rw [ocs_append]; simpa [ocs, oc] using o5
  obtain ⟨a5, c5, hv5⟩ : ∃ a5 c5, v5 = .slice a5 (xs.length + 1) c5 := by
    rcases o6.2 with ⟨e, h0⟩ | ⟨g', c', _, e, _⟩
    · omega
    · exact ⟨_, c', e⟩
  subst hv5
  have B4 : Bld ((w3.alloc (.cells #[.int .i64 c, .string k, .string v] 60)).drew) g (.slice a' xs.length c') Zs := B3.out.later (box_below w3 (.cells #[.int .i64 c, .string k, .string v] 60)).drew
  have B5 := B4.grown g5 (B4.apart O4)
  have KW5 : Hid (Kept w W5 P) := (KW3.out.below (box_below w3 (.cells #[.int .i64 c, .string k, .string v] 60)).drew).grown g5 HUP.out
  have UP5 : Hid (∀ j, (Value.slice a5 (xs.length + 1) c5).ownBlock = some j → ¬ P j) := fun j hj => by
    rcases at5 with h | h
    · exact HUP.out j (h ▸ hj)
    · intro e
      rw [h] at hj
      have h1 := (KW3.out.2 _ e).1
      have h2 := KW3.out.1
      simp at hj
      omega
  clear at5
  have BW5 : Hid (Below base w W5) := ((BW3.out.alloc (by omega) _).drew).grown g5 (by simp; omega) (fun j hj => (World.ownsRow.lt O4 j hj).1)
  have x1 : w3.drew.cell? ⟨g, 1, none⟩ = some (.slice a' xs.length c') := e1
  have k0 : w3.cell? ⟨gb, 0, none⟩ = some (.int .i64 c) := K3.out.cell 0
  have k1 : w3.cell? ⟨gb, 1, none⟩ = some (.string k) := K3.out.cell 1
  have k2 : w3.cell? ⟨gb, 2, none⟩ = some (.string v) := K3.out.cell 2
  have x3 : ((w3.alloc (.cells #[.int .i64 c, .string k, .string v] 60)).drew).cell? ⟨g, 1, none⟩ = some (.slice a' xs.length c') := B4.cell 1
  have x4 : (w3.alloc (.cells #[.int .i64 c, .string k, .string v] 60)).cell? ⟨g, 1, none⟩ = some (.slice a' xs.length c') := x3
  have s1 : W5.cell? ⟨g, 1, none⟩ = some (.slice a' xs.length c') := B5.cell 1
  have s2 : W5.cell? ⟨g, 2, none⟩ = some (.int .i64 Zs) := B5.cell 2
  have t1 := B5.fz 1
  have t2 := B5.fz 2
  have BS : Hid (Bs ((W5.setCell ⟨g, 1, none⟩ (.slice a5 (xs.length + 1) c5)).setCell ⟨g, 2, none⟩ (.int .i64 ((Zs + N : Nat) : Int))) base g P (xs ++ [⟨c, k, v⟩])) := by
    have h1 := (B5.set1 (.slice a5 (xs.length + 1) c5)).set2 (Zs + N)
    refine ⟨.slice a5 (xs.length + 1) c5, by rw [HSZ.out]; exact h1, ?_, hbg, UP5.out⟩
    have hg1 : ∀ (V : World) (i : Nat) (y : Value), V.grownBy (V.setCell ⟨g, i, none⟩ y) (some g) := fun V i y => ⟨rfl, rfl, rfl, by simp, fun j _ hj => Below.heap_setCell V _ _ j (fun e => hj (by rw [e]))⟩
    have hne := B5.apart o6
    rw [List.length_append]
    exact (o6.kept (hg1 _ 1 _) (.inr hne.symm)).kept (hg1 _ 2 _) (.inr hne.symm)
  have KWF : Hid (Kept w ((W5.setCell ⟨g, 1, none⟩ (.slice a5 (xs.length + 1) c5)).setCell ⟨g, 2, none⟩ (.int .i64 ((Zs + N : Nat) : Int))) P) := (KW5.out.set HPG.out _ _).set HPG.out _ _
  have BWF : Hid (Below base w ((W5.setCell ⟨g, 1, none⟩ (.slice a5 (xs.length + 1) c5)).setCell ⟨g, 2, none⟩ (.int .i64 ((Zs + N : Nat) : Int)))) := (BW5.out.setCell hbg _).setCell hbg _
  clear O4 o5 g5 o6 B4 B5 K3 B3 O3 BW3 BW5
  refine wp_region_any (by kernel_rfl) ?_
  change wpAny _ _ _ _ _ _ _ (World.drew _)
  refine wpAny_take (i := 0) (v := ?v1) rfl (by kernel_rfl) (by kernel_rfl) (by kernel_rfl) (fun _ _ _ h => h) (Or.inl ⟨by rfl, ?h1⟩) ?_
  case h1 => (intro w; go_simp; try (with_reducible rfl))
  go_simp
  refine wpAny_take (i := 1) (v := ?v2) rfl (by kernel_rfl) (by kernel_rfl) (by kernel_rfl) (fun _ _ _ h => h) (Or.inl ⟨by rfl, ?h2⟩) ?_
  case h2 => (intro w; go_simp; try (with_reducible rfl))
  go_simp
  refine wpAny_take (i := 2) (v := ?v3) rfl (by kernel_rfl) (by kernel_rfl) (by kernel_rfl) (fun _ _ _ h => h) (Or.inl ⟨by rfl, ?h3⟩) ?_
  case h3 => (intro w; go_simp; try (with_reducible rfl))
  go_simp
  refine wpAny_take (i := 9) (v := ?v4) rfl (by kernel_rfl) (by kernel_rfl) (by kernel_rfl) (fun _ _ _ h => h) (Or.inl ⟨by rfl, ?h4⟩) ?_
  case h4 => (intro w; go_simp; try (with_reducible rfl))
  go_simp
  refine wpAny_take (i := 3) (v := ?v5) rfl (by kernel_rfl) (by kernel_rfl) (by kernel_rfl) (fun _ _ _ h => h) (Or.inl ⟨by rfl, ?h5⟩) ?_
  case h5 => (intro w; go_simp; try (with_reducible rfl))
  go_simp
  refine wpAny_take (i := 4) (v := ?v6) rfl (by kernel_rfl) (by kernel_rfl) (by kernel_rfl) (fun _ _ _ h => h) (Or.inl ⟨by rfl, ?h6⟩) ?_
  case h6 => (intro w; go_simp; try (with_reducible rfl))
  go_simp
  refine wpAny_ready (rs := [5, 6]) (by kernel_rfl) (by simp) ?_
  refine AllReady.cons rfl (fun K hK => ?_) ?_
  · go_simp
    refine hK _ _ ?_
    clear hK K
    refine wpAny_ready (rs := [6]) (by kernel_rfl) (by simp) ?_
    refine AllReady.cons rfl (fun K hK => ?_) ?_
    · go_simp
      refine hK _ _ ?_
      clear hK K
      refine wpAny_ready (rs := [7]) (by kernel_rfl) (by simp) ?_
      refine AllReady.cons rfl (fun K hK => ?_) ?_
      · go_simp
        refine hK _ _ ?_
        clear hK K
        refine wpAny_ready (rs := [8]) (by kernel_rfl) (by simp) ?_
        refine AllReady.cons rfl (fun K hK => ?_) ?_
        · rw [if_pos (by rfl)]
          refine wp_append_run _ _ 26 26 rfl _ _ _ (by rfl) (by rfl) r5 ?_
          refine hK _ _ ?_
          clear hK K
          go_simp
          refine wpAny_take (i := 10) (v := ?v7) rfl (by kernel_rfl) (by kernel_rfl) (by kernel_rfl) (fun _ _ _ h => h) (Or.inl ⟨by rfl, ?h7⟩) ?_
          case h7 => (intro w; go_simp; try (with_reducible rfl))
          go_simp
          refine wpAny_take (i := 11) (v := ?v8) rfl (by kernel_rfl) (by kernel_rfl) (by kernel_rfl) (fun _ _ _ h => h) (Or.inl ⟨by rfl, ?h8⟩) ?_
          case h8 => (intro w; go_simp; try (with_reducible rfl))
          go_simp
          refine wpAny_ready (rs := [12]) (by kernel_rfl) (by simp) ?_
          refine AllReady.cons rfl (fun K hK => ?_) ?_
          · go_simp
            refine hK _ _ ?_
            clear hK K
            refine wpAny_take (i := 13) (v := ?v9) rfl (by kernel_rfl) (by kernel_rfl) (by kernel_rfl) (fun _ _ _ h => h) (Or.inl ⟨by rfl, ?h9⟩) ?_
            case h9 => (intro w; go_simp; try (with_reducible rfl))
            go_simp
            refine wpAny_take (i := 14) (v := ?v10) rfl (by kernel_rfl) (by kernel_rfl) (by kernel_rfl) (fun _ _ _ h => h) (Or.inl ⟨by rfl, ?h10⟩) ?_
            case h10 => (intro w; go_simp; try (with_reducible rfl))
            go_simp
            refine wpAny_ready (rs := [15]) (by kernel_rfl) (by simp) ?_
            refine AllReady.cons rfl (fun K hK => ?_) ?_
            · go_simp
              refine hK _ _ ?_
              clear hK K
              refine wpAny_done (by kernel_rfl) ?_ _
              go_wp2_with fail
              go_ret
              exact ⟨rfl, BS.out, BWF.out, KWF.out⟩
            exact AllReady.nil
          exact AllReady.nil
        exact AllReady.nil
      exact AllReady.nil
    exact AllReady.nil
  refine AllReady.cons rfl (fun K hK => ?_) ?_
  · go_simp
    refine hK _ _ ?_
    clear hK K
    refine wpAny_ready (rs := [5, 7]) (by kernel_rfl) (by simp) ?_
    refine AllReady.cons rfl (fun K hK => ?_) ?_
    · go_simp
      refine hK _ _ ?_
      clear hK K
      refine wpAny_ready (rs := [7]) (by kernel_rfl) (by simp) ?_
      refine AllReady.cons rfl (fun K hK => ?_) ?_
      · go_simp
        refine hK _ _ ?_
        clear hK K
        refine wpAny_ready (rs := [8]) (by kernel_rfl) (by simp) ?_
        refine AllReady.cons rfl (fun K hK => ?_) ?_
        · rw [if_pos (by rfl)]
          refine wp_append_run _ _ 26 26 rfl _ _ _ (by rfl) (by rfl) r5 ?_
          refine hK _ _ ?_
          clear hK K
          go_simp
          refine wpAny_take (i := 10) (v := ?v11) rfl (by kernel_rfl) (by kernel_rfl) (by kernel_rfl) (fun _ _ _ h => h) (Or.inl ⟨by rfl, ?h11⟩) ?_
          case h11 => (intro w; go_simp; try (with_reducible rfl))
          go_simp
          refine wpAny_take (i := 11) (v := ?v12) rfl (by kernel_rfl) (by kernel_rfl) (by kernel_rfl) (fun _ _ _ h => h) (Or.inl ⟨by rfl, ?h12⟩) ?_
          case h12 => (intro w; go_simp; try (with_reducible rfl))
          go_simp
          refine wpAny_ready (rs := [12]) (by kernel_rfl) (by simp) ?_
          refine AllReady.cons rfl (fun K hK => ?_) ?_
          · go_simp
            refine hK _ _ ?_
            clear hK K
            refine wpAny_take (i := 13) (v := ?v13) rfl (by kernel_rfl) (by kernel_rfl) (by kernel_rfl) (fun _ _ _ h => h) (Or.inl ⟨by rfl, ?h13⟩) ?_
            case h13 => (intro w; go_simp; try (with_reducible rfl))
            go_simp
            refine wpAny_take (i := 14) (v := ?v14) rfl (by kernel_rfl) (by kernel_rfl) (by kernel_rfl) (fun _ _ _ h => h) (Or.inl ⟨by rfl, ?h14⟩) ?_
            case h14 => (intro w; go_simp; try (with_reducible rfl))
            go_simp
            refine wpAny_ready (rs := [15]) (by kernel_rfl) (by simp) ?_
            refine AllReady.cons rfl (fun K hK => ?_) ?_
            · go_simp
              refine hK _ _ ?_
              clear hK K
              refine wpAny_done (by kernel_rfl) ?_ _
              go_wp2_with fail
              go_ret
              exact ⟨rfl, BS.out, BWF.out, KWF.out⟩
            exact AllReady.nil
          exact AllReady.nil
        exact AllReady.nil
      exact AllReady.nil
    refine AllReady.cons rfl (fun K hK => ?_) ?_
    · go_simp
      refine hK _ _ ?_
      clear hK K
      refine wpAny_ready (rs := [5]) (by kernel_rfl) (by simp) ?_
      refine AllReady.cons rfl (fun K hK => ?_) ?_
      · go_simp
        refine hK _ _ ?_
        clear hK K
        refine wpAny_ready (rs := [8]) (by kernel_rfl) (by simp) ?_
        refine AllReady.cons rfl (fun K hK => ?_) ?_
        · rw [if_pos (by rfl)]
          refine wp_append_run _ _ 26 26 rfl _ _ _ (by rfl) (by rfl) r5 ?_
          refine hK _ _ ?_
          clear hK K
          go_simp
          refine wpAny_take (i := 10) (v := ?v15) rfl (by kernel_rfl) (by kernel_rfl) (by kernel_rfl) (fun _ _ _ h => h) (Or.inl ⟨by rfl, ?h15⟩) ?_
          case h15 => (intro w; go_simp; try (with_reducible rfl))
          go_simp
          refine wpAny_take (i := 11) (v := ?v16) rfl (by kernel_rfl) (by kernel_rfl) (by kernel_rfl) (fun _ _ _ h => h) (Or.inl ⟨by rfl, ?h16⟩) ?_
          case h16 => (intro w; go_simp; try (with_reducible rfl))
          go_simp
          refine wpAny_ready (rs := [12]) (by kernel_rfl) (by simp) ?_
          refine AllReady.cons rfl (fun K hK => ?_) ?_
          · go_simp
            refine hK _ _ ?_
            clear hK K
            refine wpAny_take (i := 13) (v := ?v17) rfl (by kernel_rfl) (by kernel_rfl) (by kernel_rfl) (fun _ _ _ h => h) (Or.inl ⟨by rfl, ?h17⟩) ?_
            case h17 => (intro w; go_simp; try (with_reducible rfl))
            go_simp
            refine wpAny_take (i := 14) (v := ?v18) rfl (by kernel_rfl) (by kernel_rfl) (by kernel_rfl) (fun _ _ _ h => h) (Or.inl ⟨by rfl, ?h18⟩) ?_
            case h18 => (intro w; go_simp; try (with_reducible rfl))
            go_simp
            refine wpAny_ready (rs := [15]) (by kernel_rfl) (by simp) ?_
            refine AllReady.cons rfl (fun K hK => ?_) ?_
            · go_simp
              refine hK _ _ ?_
              clear hK K
              refine wpAny_done (by kernel_rfl) ?_ _
              go_wp2_with fail
              go_ret
              exact ⟨rfl, BS.out, BWF.out, KWF.out⟩
            exact AllReady.nil
          exact AllReady.nil
        exact AllReady.nil
      exact AllReady.nil
    exact AllReady.nil
  exact AllReady.nil
set_option maxRecDepth 100000 in
set_option maxHeartbeats 4000000 in
theorem add_bad (g : Nat) (c : Int) (k v : ByteArray) (xs : List O) (base : Nat) (P : Nat → Prop) (w : World) (H : Bs w base g P xs) (hbase : base ≤ w.heap.size) (hp : ∀ j, P j → j < w.heap.size) (hpg : ¬ P g) (hmay : may ⟨c, k, v⟩ = false) :
    Calls Try.prog 36 #[.pointer (some ⟨g, 0, none⟩), .agg #[.int .i64 c, .string k, .string v]] w fun e w' => e = .returned (.int .i64 40) ∧ Bs w' base g P xs ∧ Below base w w' ∧ Kept w w' P := by
  obtain ⟨i0, hi, hz0, hz1, hz2⟩ := info_parts infoOp
  obtain ⟨u, B0, O0, hbg, hup⟩ := H
  have HM : Hid (∀ W, Calls Try.prog 49 #[.agg #[.int .i64 c, .string k, .string v]] W fun e w' => e = .returned (.bool false) ∧ Below W.heap.size W w') := fun W => by
    have := maybe_any c k v W
    rw [hmay] at this
    exact this
  obtain ⟨gb, hgb⟩ : ∃ gb, gb = w.heap.size := ⟨_, rfl⟩
  obtain ⟨a', c', hu⟩ : ∃ a' c', u = .slice a' xs.length c' := by
    rcases O0.2 with ⟨e, h0⟩ | ⟨g', c', _, e, _⟩
    · rw [h0]; exact ⟨none, 0, e⟩
    · exact ⟨_, c', e⟩
  subst hu
  have HUP := hid hup
  have HP := hid hp
  have HPG := hid hpg
  clear hup hp hpg
  obtain ⟨W0, hW0⟩ : ∃ W0, W0 = w.alloc (.cells #[.int .i64 c, .string k, .string v] 60) := ⟨_, rfl⟩
  have bb := box_below w (.cells #[.int .i64 c, .string k, .string v] 60)
  rw [← hW0] at bb
  have K0 : Hid (Blk W0 gb #[.int .i64 c, .string k, .string v]) := by show Blk _ _ _; rw [hW0, hgb]; exact Blk.new _ _
  have B1 := hid (B0.later bb)
  have O1 := hid (O0.kept (It.grown_of_below bb) (by cases hh : (Value.slice a' xs.length c').ownBlock <;> simp))
  have BW : Hid (Below base w W0) := bb.mono hbase
  have KW : Hid (Kept w W0 P) := (Kept.refl HP.out).below bb
  have z0 := bb.size
  have HW0 := hid hW0
  have HGB := hid hgb
  clear hW0 hgb B0 O0 bb hmay
  go_enter Try.func36, Try.ntmps36
  go_wp2_with fail
  rw [← HW0.out, ← HGB.out]
  refine (isnone_any g _ _ W0 B1.out).mono ?_
  rintro e w' ⟨rfl, rfl⟩
  have q0 : w'.cell? ⟨gb, 0, none⟩ = some (.int .i64 c) := K0.out.cell 0
  have q1 : w'.cell? ⟨gb, 1, none⟩ = some (.string k) := K0.out.cell 1
  have q2 : w'.cell? ⟨gb, 2, none⟩ = some (.string v) := K0.out.cell 2
  go_wp2_with fail
  refine (HM.out w').mono ?_
  rintro e w2 ⟨rfl, b2⟩
  have BS : Hid (Bs w2 base g P xs) := ⟨_, B1.out.later b2, O1.out.kept (It.grown_of_below b2) (by cases hh : (Value.slice a' xs.length c').ownBlock <;> simp), hbg, HUP.out⟩
  have KW2 : Hid (Kept w w2 P) := KW.out.below b2
  have BW2 : Hid (Below base w w2) := BW.out.trans (b2.mono (by omega))
  clear b2
  go_wp2_with fail
  go_ret
  exact ⟨rfl, BS.out, BW2.out, KW2.out⟩
set_option maxRecDepth 100000 in
set_option maxHeartbeats 4000000 in
theorem add_full (g : Nat) (c : Int) (k v : ByteArray) (xs : List O) (base : Nat) (P : Nat → Prop) (w : World) (H : Bs w base g P xs) (hbase : base ≤ w.heap.size) (hp : ∀ j, P j → j < w.heap.size) (hpg : ¬ P g) (hmay : may ⟨c, k, v⟩ = true) (hl : xs.length ≤ 4096) (hz0' : bsz xs ≤ 1048576) (hf : xs.length = 4096) :
    Calls Try.prog 36 #[.pointer (some ⟨g, 0, none⟩), .agg #[.int .i64 c, .string k, .string v]] w fun e w' => e = .returned (.int .i64 3) ∧ Bs w' base g P xs ∧ Below base w w' ∧ Kept w w' P := by
  obtain ⟨i0, hi, hz0, hz1, hz2⟩ := info_parts infoOp
  obtain ⟨u, B0, O0, hbg, hup⟩ := H
  obtain ⟨hk1, hk2, hv2, hc0, hc2⟩ := may_sizes hmay
  simp only at hk1 hk2 hv2 hc0 hc2
  obtain ⟨N, hN⟩ : ∃ N, osz ⟨c, k, v⟩ = N := ⟨_, rfl⟩
  have HM : Hid (∀ W, Calls Try.prog 49 #[.agg #[.int .i64 c, .string k, .string v]] W fun e w' => e = .returned (.bool true) ∧ Below W.heap.size W w') := fun W => by
    have := maybe_any c k v W
    rw [hmay] at this
    exact this
  have hosz := osz_le hmay
  rw [hN] at hosz
  have HOS : Hid (∀ W, Calls Try.prog 50 #[.agg #[.int .i64 c, .string k, .string v]] W fun e w' => e = .returned (.int .i64 N) ∧ Below W.heap.size W w') := fun W => opsize_below c k v W N hN (by omega) (by omega)
  obtain ⟨gb, hgb⟩ : ∃ gb, gb = w.heap.size := ⟨_, rfl⟩
  obtain ⟨a', c', hu⟩ : ∃ a' c', u = .slice a' xs.length c' := by
    rcases O0.2 with ⟨e, h0⟩ | ⟨g', c', _, e, _⟩
    · rw [h0]; exact ⟨none, 0, e⟩
    · exact ⟨_, c', e⟩
  subst hu
  have HUP := hid hup
  have HP := hid hp
  have HPG := hid hpg
  clear hup hp hpg
  obtain ⟨W0, hW0⟩ : ∃ W0, W0 = w.alloc (.cells #[.int .i64 c, .string k, .string v] 60) := ⟨_, rfl⟩
  have bb := box_below w (.cells #[.int .i64 c, .string k, .string v] 60)
  rw [← hW0] at bb
  have K0 : Hid (Blk W0 gb #[.int .i64 c, .string k, .string v]) := by show Blk _ _ _; rw [hW0, hgb]; exact Blk.new _ _
  have B1 := hid (B0.later bb)
  have O1 := hid (O0.kept (It.grown_of_below bb) (by cases hh : (Value.slice a' xs.length c').ownBlock <;> simp))
  have BW : Hid (Below base w W0) := bb.mono hbase
  have KW : Hid (Kept w W0 P) := (Kept.refl HP.out).below bb
  have z0 := bb.size
  have HW0 := hid hW0
  have HGB := hid hgb
  clear hW0 hgb B0 O0 bb hmay hN
  go_enter Try.func36, Try.ntmps36
  go_wp2_with fail
  rw [← HW0.out, ← HGB.out]
  refine (isnone_any g _ _ W0 B1.out).mono ?_
  rintro e w' ⟨rfl, rfl⟩
  have q0 : w'.cell? ⟨gb, 0, none⟩ = some (.int .i64 c) := K0.out.cell 0
  have q1 : w'.cell? ⟨gb, 1, none⟩ = some (.string k) := K0.out.cell 1
  have q2 : w'.cell? ⟨gb, 2, none⟩ = some (.string v) := K0.out.cell 2
  go_wp2_with fail
  refine (HM.out w').mono ?_
  rintro e w2 ⟨rfl, b2⟩
  have K2 := hid (K0.out.later b2)
  have B2 := hid (B1.out.later b2)
  have O2 := hid (O1.out.kept (It.grown_of_below b2) (by cases hh : (Value.slice a' xs.length c').ownBlock <;> simp))
  have KW2 : Hid (Kept w w2 P) := KW.out.below b2
  have BW2 : Hid (Below base w w2) := BW.out.trans (b2.mono (by omega))
  have z2 := b2.size
  generalize hZs : bsz xs = Zs at *
  have p0 : w2.cell? ⟨gb, 0, none⟩ = some (.int .i64 c) := K2.out.cell 0
  have p1 : w2.cell? ⟨gb, 1, none⟩ = some (.string k) := K2.out.cell 1
  have p2 : w2.cell? ⟨gb, 2, none⟩ = some (.string v) := K2.out.cell 2
  have g2 : w2.cell? ⟨g, 2, none⟩ = some (.int .i64 Zs) := B2.out.cell 2
  have d1 := fun d os => cell_regrown p0 d os
  have d2 := fun d os => cell_regrown p1 d os
  have d3 := fun d os => cell_regrown p2 d os
  have d4 := fun d os => cell_regrown g2 d os
  clear q0 q1 q2 b2 K0 B1 O1 BW
  go_wp2_with fail
  refine wp_region_quiet_below (by kernel_rfl) (by kernel_rfl) ?_
  repeat (first | go_big_quiet_step (first | (go_at_call 50; exact Calls.regrown_of (HOS.out _))) | quiet_step (first | (go_at_call 50; exact Calls.regrown_of (HOS.out _))))
  refine wpQuiet_nil ?_
  intro _ hw'
  obtain ⟨⟨dq, osq⟩, hw''⟩ := hw'
  subst hw''
  have bq := below_regrown w2 dq osq
  have K3 := hid (K2.out.later bq)
  have B3 := hid (B2.out.later bq)
  have O3 := hid (O2.out.kept (It.grown_of_below bq) (by cases hh : (Value.slice a' xs.length c').ownBlock <;> simp))
  have KW3 : Hid (Kept w (grow (redrawn w2 dq) osq) P) := KW2.out.below bq
  have BW3 : Hid (Below base w (grow (redrawn w2 dq) osq)) := BW2.out.trans (bq.mono (by omega))
  have z3 := bq.size
  generalize grow (redrawn w2 dq) osq = w3 at *
  have e1 : w3.cell? ⟨g, 1, none⟩ = some (.slice a' xs.length c') := B3.out.cell 1
  have ne1 : ((xs.length : Int) == 4096) = true := by simp; omega
  have BS : Hid (Bs w3 base g P xs) := ⟨_, by rw [hZs]; exact B3.out, O3.out, hbg, HUP.out⟩
  clear d1 d2 d3 d4 p0 p1 p2 g2 bq K2 B2 O2 BW2
  go_wp2_with fail
  go_ret
  exact ⟨rfl, BS.out, BW3.out, KW3.out⟩
set_option maxRecDepth 100000 in
set_option maxHeartbeats 4000000 in
theorem add_big (g : Nat) (c : Int) (k v : ByteArray) (xs : List O) (base : Nat) (P : Nat → Prop) (w : World) (H : Bs w base g P xs) (hbase : base ≤ w.heap.size) (hp : ∀ j, P j → j < w.heap.size) (hpg : ¬ P g) (hmay : may ⟨c, k, v⟩ = true) (hl : xs.length ≤ 4096) (hz0' : bsz xs ≤ 1048576) (hf : xs.length ≠ 4096) (hbig : 1048576 < bsz xs + osz ⟨c, k, v⟩) :
    Calls Try.prog 36 #[.pointer (some ⟨g, 0, none⟩), .agg #[.int .i64 c, .string k, .string v]] w fun e w' => e = .returned (.int .i64 3) ∧ Bs w' base g P xs ∧ Below base w w' ∧ Kept w w' P := by
  obtain ⟨i0, hi, hz0, hz1, hz2⟩ := info_parts infoOp
  obtain ⟨u, B0, O0, hbg, hup⟩ := H
  obtain ⟨hk1, hk2, hv2, hc0, hc2⟩ := may_sizes hmay
  simp only at hk1 hk2 hv2 hc0 hc2
  obtain ⟨N, hN⟩ : ∃ N, osz ⟨c, k, v⟩ = N := ⟨_, rfl⟩
  rw [hN] at hbig
  have HM : Hid (∀ W, Calls Try.prog 49 #[.agg #[.int .i64 c, .string k, .string v]] W fun e w' => e = .returned (.bool true) ∧ Below W.heap.size W w') := fun W => by
    have := maybe_any c k v W
    rw [hmay] at this
    exact this
  have hosz := osz_le hmay
  rw [hN] at hosz
  have HOS : Hid (∀ W, Calls Try.prog 50 #[.agg #[.int .i64 c, .string k, .string v]] W fun e w' => e = .returned (.int .i64 N) ∧ Below W.heap.size W w') := fun W => opsize_below c k v W N hN (by omega) (by omega)
  obtain ⟨gb, hgb⟩ : ∃ gb, gb = w.heap.size := ⟨_, rfl⟩
  obtain ⟨a', c', hu⟩ : ∃ a' c', u = .slice a' xs.length c' := by
    rcases O0.2 with ⟨e, h0⟩ | ⟨g', c', _, e, _⟩
    · rw [h0]; exact ⟨none, 0, e⟩
    · exact ⟨_, c', e⟩
  subst hu
  have HUP := hid hup
  have HP := hid hp
  have HPG := hid hpg
  clear hup hp hpg
  obtain ⟨W0, hW0⟩ : ∃ W0, W0 = w.alloc (.cells #[.int .i64 c, .string k, .string v] 60) := ⟨_, rfl⟩
  have bb := box_below w (.cells #[.int .i64 c, .string k, .string v] 60)
  rw [← hW0] at bb
  have K0 : Hid (Blk W0 gb #[.int .i64 c, .string k, .string v]) := by show Blk _ _ _; rw [hW0, hgb]; exact Blk.new _ _
  have B1 := hid (B0.later bb)
  have O1 := hid (O0.kept (It.grown_of_below bb) (by cases hh : (Value.slice a' xs.length c').ownBlock <;> simp))
  have BW : Hid (Below base w W0) := bb.mono hbase
  have KW : Hid (Kept w W0 P) := (Kept.refl HP.out).below bb
  have z0 := bb.size
  have HW0 := hid hW0
  have HGB := hid hgb
  clear hW0 hgb B0 O0 bb hmay hN
  go_enter Try.func36, Try.ntmps36
  go_wp2_with fail
  rw [← HW0.out, ← HGB.out]
  refine (isnone_any g _ _ W0 B1.out).mono ?_
  rintro e w' ⟨rfl, rfl⟩
  have q0 : w'.cell? ⟨gb, 0, none⟩ = some (.int .i64 c) := K0.out.cell 0
  have q1 : w'.cell? ⟨gb, 1, none⟩ = some (.string k) := K0.out.cell 1
  have q2 : w'.cell? ⟨gb, 2, none⟩ = some (.string v) := K0.out.cell 2
  go_wp2_with fail
  refine (HM.out w').mono ?_
  rintro e w2 ⟨rfl, b2⟩
  have K2 := hid (K0.out.later b2)
  have B2 := hid (B1.out.later b2)
  have O2 := hid (O1.out.kept (It.grown_of_below b2) (by cases hh : (Value.slice a' xs.length c').ownBlock <;> simp))
  have KW2 : Hid (Kept w w2 P) := KW.out.below b2
  have BW2 : Hid (Below base w w2) := BW.out.trans (b2.mono (by omega))
  have z2 := b2.size
  generalize hZs : bsz xs = Zs at *
  have p0 : w2.cell? ⟨gb, 0, none⟩ = some (.int .i64 c) := K2.out.cell 0
  have p1 : w2.cell? ⟨gb, 1, none⟩ = some (.string k) := K2.out.cell 1
  have p2 : w2.cell? ⟨gb, 2, none⟩ = some (.string v) := K2.out.cell 2
  have g2 : w2.cell? ⟨g, 2, none⟩ = some (.int .i64 Zs) := B2.out.cell 2
  have d1 := fun d os => cell_regrown p0 d os
  have d2 := fun d os => cell_regrown p1 d os
  have d3 := fun d os => cell_regrown p2 d os
  have d4 := fun d os => cell_regrown g2 d os
  clear q0 q1 q2 b2 K0 B1 O1 BW
  go_wp2_with fail
  refine wp_region_quiet_below (by kernel_rfl) (by kernel_rfl) ?_
  repeat (first | go_big_quiet_step (first | (go_at_call 50; exact Calls.regrown_of (HOS.out _))) | quiet_step (first | (go_at_call 50; exact Calls.regrown_of (HOS.out _))))
  refine wpQuiet_nil ?_
  intro _ hw'
  obtain ⟨⟨dq, osq⟩, hw''⟩ := hw'
  subst hw''
  have bq := below_regrown w2 dq osq
  have K3 := hid (K2.out.later bq)
  have B3 := hid (B2.out.later bq)
  have O3 := hid (O2.out.kept (It.grown_of_below bq) (by cases hh : (Value.slice a' xs.length c').ownBlock <;> simp))
  have KW3 : Hid (Kept w (grow (redrawn w2 dq) osq) P) := KW2.out.below bq
  have BW3 : Hid (Below base w (grow (redrawn w2 dq) osq)) := BW2.out.trans (bq.mono (by omega))
  have z3 := bq.size
  generalize grow (redrawn w2 dq) osq = w3 at *
  have e1 : w3.cell? ⟨g, 1, none⟩ = some (.slice a' xs.length c') := B3.out.cell 1
  have ne1 : ((xs.length : Int) == 4096) = false := by simp; omega
  have le1 : (1048576 : Int) < (Zs : Int) + (N : Int) := by omega
  have BS : Hid (Bs w3 base g P xs) := ⟨_, by rw [hZs]; exact B3.out, O3.out, hbg, HUP.out⟩
  clear d1 d2 d3 d4 p0 p1 p2 g2 bq K2 B2 O2 BW2
  go_wp2_with fail
  go_ret
  exact ⟨rfl, BS.out, BW3.out, KW3.out⟩
/-- What a call that adds an operation answers, and what there is behind it. -/
def bput (xs : List O) (x : O) : Int × List O := if may x = true then (if xs.length = 4096 ∨ 1048576 < bsz xs + osz x then (3, xs) else (0, xs ++ [x])) else (40, xs)
/-- What a Builder holds fits. -/
def Fits (xs : List O) : Prop := (∀ x ∈ xs, may x = true) ∧ xs.length ≤ 4096 ∧ bsz xs ≤ 1048576
theorem bput_fits {xs : List O} {x : O} (h : Fits xs) : Fits (bput xs x).2 := by
  unfold bput
  split
  · next hm =>
    split
    · exact h
    · next hn =>
      refine ⟨fun y hy => ?_, by have := h.2.1; simp; omega, ?_⟩
      · rcases List.mem_append.1 hy with hy | hy
        · exact h.1 y hy
        · simp at hy; rw [hy]; exact hm
      · unfold bsz at hn ⊢
        rw [osum_append]
        simp [osum]
        omega
  · exact h
theorem add_any (g : Nat) (c : Int) (k v : ByteArray) (xs : List O) (base : Nat) (P : Nat → Prop) (w : World) (H : Bs w base g P xs) (hbase : base ≤ w.heap.size) (hp : ∀ j, P j → j < w.heap.size) (hpg : ¬ P g) (hf : Fits xs) :
    Calls Try.prog 36 #[.pointer (some ⟨g, 0, none⟩), .agg #[.int .i64 c, .string k, .string v]] w fun e w' => e = .returned (.int .i64 (bput xs ⟨c, k, v⟩).1) ∧ Bs w' base g P (bput xs ⟨c, k, v⟩).2 ∧ Below base w w' ∧ Kept w w' P := by
  unfold bput
  by_cases hm : may ⟨c, k, v⟩ = true
  · rw [if_pos hm]
    by_cases h1 : xs.length = 4096
    · rw [if_pos (.inl h1)]
      exact add_full g c k v xs base P w H hbase hp hpg hm hf.2.1 hf.2.2 h1
    · by_cases h2 : 1048576 < bsz xs + osz ⟨c, k, v⟩
      · rw [if_pos (.inr h2)]
        exact add_big g c k v xs base P w H hbase hp hpg hm hf.2.1 hf.2.2 h1 h2
      · rw [if_neg (by omega)]
        exact add_ok g c k v xs base P w H hbase hp hpg hm (by have := hf.2.1; omega) (by omega)
  · rw [if_neg hm]
    exact add_bad g c k v xs base P w H hbase hp hpg (by simpa using hm)
end Go.Proofs.Ytmceanfgcehfeab.Bu

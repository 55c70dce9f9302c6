/- A node is linked in: the links of its levels, the row that grows. -/
import Derived.Test.YtefihoohdaegeaaTr
import Derived.Maps.AppendAt
namespace Go.Proofs.Ytefihoohdaegeaa.Li
open Go.ChangeShapes Go.WideShapes Go.ChangeAt Go.RowKit
open Go.Proofs.Ytefihoohdaegeaa.Ik
open Go.Proofs.Ytefihoohdaegeaa.Sg
open Go.Proofs.Ytefihoohdaegeaa.Cm (ik)
open Go.Proofs.Ytefihoohdaegeaa.Vl
open Go.Proofs.Ytefihoohdaegeaa.Mm
open Go.Proofs.Ytefihoohdaegeaa.Tr
set_option linter.unusedVariables false
set_option linter.unusedSimpArgs false

theorem wp_append_run {P : Program} {w w' : World} {o : Oper} {a : Act} {K : Act → World → Prop} {Q : Exit → Act → World → Prop} (s x : Operand) (t tx : TypeId) (hop : o.op = Op.call { callee := Callee.builtin Builtin.append, args := #[s, x], argTypes := #[t, tx] })
    (u v v' : Value) (hs : a.eval s = u) (hx : a.eval x = v) (hrun : (Builtin.append_ #[t, tx] o.type #[u, v]).run P w = .ok v' w') (hK : K (a.put o.dst v') w') : o.wp P a w K Q := by
  unfold Oper.wp
  simp [execOp, hop, resolve, invoke, builtin, hs, hx, hrun, Result.andThen]
  exact hK
/-- The links once the levels below j are turned. -/
def upd (tw : Nat → Nat → Nat) (T : Nat → Nat) (m j : Nat) : Nat → Nat → Nat := fun n lv => if lv < j ∧ n = T lv then m else tw n lv
def tox (tw : Nat → Nat → Nat) (T : Nat → Nat) (j : Nat) : Nat → Nat := fun lv => if lv < j then tw (T lv) lv else 0
def nodeA (k : ByteArray) (s c : Int) (v : Value) (X : Nat → Nat) : Array Value := #[.string k, .int .u64 s, .int .i64 c, v, .int .i32 (X 0 : Int), .int .i32 (X 1 : Int), .int .i32 (X 2 : Int), .int .i32 (X 3 : Int), .int .i32 (X 4 : Int), .int .i32 (X 5 : Int), .int .i32 (X 6 : Int), .int .i32 (X 7 : Int), .int .i32 (X 8 : Int), .int .i32 (X 9 : Int), .int .i32 (X 10 : Int), .int .i32 (X 11 : Int)]
theorem nodeA_get (k : ByteArray) (s c : Int) (v : Value) (X : Nat → Nat) (j : Nat) (h : j < 12) : (nodeA k s c v X)[j + 4]? = some (.int .i32 (X j : Int)) := by
  match j, h with
  | 0, _ => rfl
  | 1, _ => rfl
  | 2, _ => rfl
  | 3, _ => rfl
  | 4, _ => rfl
  | 5, _ => rfl
  | 6, _ => rfl
  | 7, _ => rfl
  | 8, _ => rfl
  | 9, _ => rfl
  | 10, _ => rfl
  | 11, _ => rfl
theorem nodeA_ext {k : ByteArray} {s c : Int} {v : Value} {f g : Nat → Nat} (h : ∀ j, j < 12 → f j = g j) : nodeA k s c v f = nodeA k s c v g := by
  unfold nodeA
  rw [h 0 (by omega), h 1 (by omega), h 2 (by omega), h 3 (by omega), h 4 (by omega), h 5 (by omega), h 6 (by omega), h 7 (by omega), h 8 (by omega), h 9 (by omega), h 10 (by omega), h 11 (by omega)]
theorem nodeA_set (k : ByteArray) (s c : Int) (v : Value) (f : Nat → Nat) (i x : Nat) (h : i < 12) : (nodeA k s c v f).setIfInBounds (4 + i) (.int .i32 (x : Int)) = nodeA k s c v (fun j => if j = i then x else f j) := by
  apply Array.ext_getElem?
  intro j
  rw [Array.getElem?_setIfInBounds]
  have hs : ∀ f, (nodeA k s c v f).size = 16 := fun _ => rfl
  by_cases h4 : j < 4
  · rw [if_neg (by omega)]
    match j, h4 with
    | 0, _ => rfl
    | 1, _ => rfl
    | 2, _ => rfl
    | 3, _ => rfl
  · obtain ⟨j', rfl⟩ : ∃ j', j = j' + 4 := ⟨j - 4, by omega⟩
    by_cases hj : j' < 12
    · by_cases e : i = j'
      · subst e
        rw [if_pos (by omega), if_pos (by rw [hs]; omega), nodeA_get _ _ _ _ _ i hj, if_pos rfl]
      · rw [if_neg (by omega), nodeA_get _ _ _ _ _ j' hj, nodeA_get _ _ _ _ _ j' hj, if_neg (fun e' => e e'.symm)]
    · rw [if_neg (by omega), Array.getElem?_eq_none (by rw [hs]; omega), Array.getElem?_eq_none (by rw [hs]; omega)]
def Nb (w : World) (g : Nat) (k : ByteArray) (s c : Int) (v : Value) (X : Nat → Nat) : Prop := w.heap[g]? = some (.cells (nodeA k s c v X) 158)
theorem Nb.later {w w' : World} {g : Nat} {k : ByteArray} {s c : Int} {v : Value} {X : Nat → Nat} (h : Nb w g k s c v X) (b : Below w.heap.size w w') : Nb w' g k s c v X := (b.block g (blk_lt h)).trans h
theorem Nb.put {W : World} {g l : Nat} {k : ByteArray} {s c : Int} {v : Value} {tw : Nat → Nat → Nat} {T : Nat → Nat} (h : Nb W g k s c v (tox tw T l)) (hl : l < 12) : Nb (W.setCell ⟨g, 4 + l, none⟩ (.int .i32 (tw (T l) l : Int))) g k s c v (tox tw T (l + 1)) := by
  unfold Nb at h ⊢
  rw [set_of h, nodeA_set _ _ _ _ _ _ _ hl]
  congr 2
  apply nodeA_ext
  intro j _
  unfold tox
  by_cases e1 : j = l
  · subst e1; simp
  · rw [if_neg e1]
    by_cases h1 : j < l
    · rw [if_pos h1, if_pos (by omega)]
    · rw [if_neg h1, if_neg (by omega)]
theorem Nb.apart {W : World} {g q i : Nat} {k : ByteArray} {s c : Int} {v u : Value} {X : Nat → Nat} (h : Nb W q k s c v X) (hk : q ≠ g) : Nb (W.setCell ⟨g, i, none⟩ u) q k s c v X := (set_ne W g q i u hk).trans h
theorem Hd.apart {W : World} {g most h b n cap q i : Nat} {u : Value} (H : Hd W g most h b n cap) (hk : g ≠ q) : Hd (W.setCell ⟨q, i, none⟩ u) g most h b n cap := (set_ne W q g i u hk).trans H
theorem Rw.apart {W : World} {b cap q i : Nat} {ns : List N} {tw : Nat → Nat → Nat} {u : Value} (H : Rw W b cap ns tw) (hk : b ≠ q) : Rw (W.setCell ⟨q, i, none⟩ u) b cap ns tw := by
  obtain ⟨cur, h, r⟩ := H
  exact ⟨cur, (set_ne W q b i u hk).trans h, r⟩
theorem Rw.congr {W : World} {b cap : Nat} {ns : List N} {tw tw' : Nat → Nat → Nat} (H : Rw W b cap ns tw) (h : ∀ i, i ≤ ns.length → ∀ j, j < 12 → tw' i j = tw i j) : Rw W b cap ns tw' := by
  obtain ⟨cur, h1, h2, h3, h4, h5⟩ := H
  refine ⟨cur, h1, h2, h3, h4, fun i hi j hj => ?_⟩
  rw [h5 i hi j hj]
  match j, hj with
  | 0, _ => rfl
  | 1, _ => rfl
  | 2, _ => rfl
  | 3, _ => rfl
  | j + 4, hj => simp only [cv]; rw [h i hi j (by omega)]
theorem Rw.put {W : World} {b cap : Nat} {ns : List N} {tw : Nat → Nat → Nat} (H : Rw W b cap ns tw) (n lv x : Nat) (hn : n ≤ ns.length) (hl : lv < 12) :
    Rw (W.setCell ⟨b, n * 16 + 4 + lv, none⟩ (.int .i32 (x : Int))) b cap ns (fun n' l' => if n' = n ∧ l' = lv then x else tw n' l') := by
  obtain ⟨cur, h1, h2, h3, h4, h5⟩ := H
  refine ⟨_, set_of h1 _ _, by simpa using h2, h3, h4, fun i hi j hj => ?_⟩
  rw [Array.getElem?_setIfInBounds]
  by_cases e : n * 16 + 4 + lv = i * 16 + j
  · have e1 : i = n := by omega
    have e2 : j = lv + 4 := by omega
    subst e1 e2
    rw [if_pos e, if_pos (by rw [h2]; have : (i + 1) * 16 ≤ cap * 16 := Nat.mul_le_mul_right _ (by omega); omega)]
    simp [cv]
  · rw [if_neg e, h5 i hi j hj]
    match j, hj with
    | 0, _ => rfl
    | 1, _ => rfl
    | 2, _ => rfl
    | 3, _ => rfl
    | j + 4, hj =>
      simp only [cv]
      rw [if_neg (by rintro ⟨rfl, rfl⟩; omega)]
theorem Rw.turn {W : World} {b cap : Nat} {ns : List N} {tw : Nat → Nat → Nat} {T : Nat → Nat} {m l : Nat} (H : Rw W b cap ns (upd tw T m l)) (hT : T l ≤ ns.length) (hl : l < 12) :
    Rw (W.setCell ⟨b, T l * 16 + 4 + l, none⟩ (.int .i32 (m : Int))) b cap ns (upd tw T m (l + 1)) := by
  refine Rw.congr (Rw.put H (T l) l m hT hl) ?_
  intro i hi j hj
  unfold upd
  by_cases e : j = l
  · subst e
    by_cases e2 : i = T j
    · simp [e2]
    · simp [e2]
  · by_cases h1 : j < l
    · simp [h1, e, show j < l + 1 by omega]
    · simp [h1, e, show ¬ j < l + 1 by omega]
theorem infoN : (Try.prog.info? 158).map (fun i => (i.zero, i.size, i.bytes)) = some (some (.agg #[.string ⟨#[]⟩, .int .u64 0, .int .i64 0, .string ⟨#[]⟩, .int .i32 0, .int .i32 0, .int .i32 0, .int .i32 0, .int .i32 0, .int .i32 0, .int .i32 0, .int .i32 0, .int .i32 0, .int .i32 0, .int .i32 0, .int .i32 0]), 16, 96) := by kernel_rfl
/-- Of what was there only two blocks may have turned. -/
structure Fr (g b : Nat) (w w' : World) : Prop where
  os : w'.os = w.os
  tape : w'.tape = w.tape
  output : w'.output = w.output
  size : w.heap.size ≤ w'.heap.size
  block : ∀ j, j < w.heap.size → j ≠ g → j ≠ b → w'.heap[j]? = w.heap[j]?
theorem Fr.refl (g b : Nat) (w : World) : Fr g b w w := ⟨rfl, rfl, rfl, Nat.le_refl _, fun _ _ _ _ => rfl⟩
theorem Fr.of {g b : Nat} {w w' : World} (h : Below w.heap.size w w') : Fr g b w w' := ⟨h.os, h.tape, h.output, h.size, fun j hj _ _ => h.block j hj⟩
theorem Fr.below {g b : Nat} {w W W' : World} (h : Fr g b w W) (k : Below W.heap.size W W') : Fr g b w W' :=
  ⟨k.os.trans h.os, k.tape.trans h.tape, k.output.trans h.output, Nat.le_trans h.size k.size, fun j hj h1 h2 => (k.block j (Nat.lt_of_lt_of_le hj h.size)).trans (h.block j hj h1 h2)⟩
theorem Fr.set {g b : Nat} {w W : World} (h : Fr g b w W) (q i : Nat) (u : Value) (hq : q = g ∨ q = b ∨ w.heap.size ≤ q) : Fr g b w (W.setCell ⟨q, i, none⟩ u) :=
  ⟨h.os, h.tape, h.output, by simpa using h.size, fun j hj h1 h2 => (set_ne W q j i u (by omega)).trans (h.block j hj h1 h2)⟩
theorem Fr.grown {g b : Nat} {w W W' : World} {row : Option Nat} (h : Fr g b w W) (k : W.grownBy W' row) (hr : ∀ j, row = some j → j = g ∨ j = b ∨ w.heap.size ≤ j) : Fr g b w W' :=
  ⟨k.os.trans h.os, k.tape.trans h.tape, k.output.trans h.output, Nat.le_trans h.size k.size, fun j hj h1 h2 => (k.block j (Nat.lt_of_lt_of_le hj h.size) (fun e => by have := hr j e.symm; omega)).trans (h.block j hj h1 h2)⟩
theorem Fr.base {g b base : Nat} {w w' : World} (h : Fr g b w w') (hg : base ≤ g) (hb : base ≤ b) (hs : base ≤ w.heap.size) : Below base w w' :=
  ⟨h.os, h.tape, h.output, h.size, fun j hj => h.block j (by omega) (by omega) (by omega)⟩
theorem drewN_below (w : World) (q : Nat) : Below w.heap.size w (w.drewN q) := by
  induction q with
  | zero => exact Below.refl _ _
  | succ q ih => rw [show w.drewN (q + 1) = (w.drewN q).drew from rfl]; exact ih.drew
/-- The row as one of the call's own, and back. -/
theorem Rw.own {w : World} {b cap base : Nat} {ns : List N} {tw : Nat → Nat → Nat} (H : Rw w b cap ns tw) (hb : base ≤ b) :
    ∃ xs, w.ownsRow base 158 16 (.slice (some ⟨b, 0, none⟩) (ns.length + 1) cap) (ns.length + 1) xs ∧ ∀ i, i ≤ ns.length → ∀ j, j < 16 → xs[i * 16 + j]? = some (cv ns tw i j) := by
  obtain ⟨cur, h1, h2, h3, h4, h5⟩ := H
  have hle : (ns.length + 1) * 16 ≤ cap * 16 := Nat.mul_le_mul_right _ h3
  refine ⟨cur.toList.take ((ns.length + 1) * 16), ⟨by rw [List.length_take, show cur.toList.length = cap * 16 from h2]; omega, .inr ⟨b, cap, cur, rfl, hb, h1, h3, h4, h2, rfl⟩⟩, ?_⟩
  intro i hi j hj
  rw [List.getElem?_take, if_pos (by omega), Array.getElem?_toList]
  exact h5 i hi j hj
theorem Rw.grown {w : World} {base : Nat} {ns : List N} {tw tw' : Nat → Nat → Nat} {x : N} {v : Value} {xs : List Value} {X : Nat → Nat} (H : w.ownsRow base 158 16 v (ns.length + 1 + 1) (xs ++ (nodeA x.k x.s x.c x.v X).toList)) (hl : xs.length = (ns.length + 1) * 16)
    (hx : ∀ i, i ≤ ns.length → ∀ j, j < 16 → xs[i * 16 + j]? = some (cv ns tw i j)) (h1 : ∀ i, i ≤ ns.length → ∀ j, j < 12 → tw' i j = tw i j) (h2 : ∀ j, j < 12 → tw' (ns.length + 1) j = X j) :
    ∃ b' cap', v = .slice (some ⟨b', 0, none⟩) (ns.length + 1 + 1) cap' ∧ base ≤ b' ∧ Rw w b' cap' (ns ++ [x]) tw' := by
  rcases H.2 with ⟨_, e⟩ | ⟨b', cap', cur, e, hb, hg, hc1, hc2, hc3, hc4⟩
  · omega
  · refine ⟨b', cap', e, hb, cur, hg, hc3, by simpa using hc1, hc2, ?_⟩
    have hcell : ∀ i, i < (ns.length + 1 + 1) * 16 → cur[i]? = (xs ++ (nodeA x.k x.s x.c x.v X).toList)[i]? := by
      intro i hi
      rw [← hc4, List.getElem?_take, if_pos hi, Array.getElem?_toList]
    intro i hi j hj
    rw [List.length_append, List.length_singleton] at hi
    rw [hcell (i * 16 + j) (by have : (i + 1) * 16 ≤ (ns.length + 1 + 1) * 16 := Nat.mul_le_mul_right _ (by omega); omega)]
    by_cases hin : i ≤ ns.length
    · rw [List.getElem?_append_left (by rw [hl]; have : (i + 1) * 16 ≤ (ns.length + 1) * 16 := Nat.mul_le_mul_right _ (by omega); omega), hx i hin j hj]
      have hnd : nd (ns ++ [x]) i = nd ns i := by
        by_cases h0 : 1 ≤ i
        · exact nd_old h0 hin
        · have : i = 0 := by omega
          subst this; rfl
      match j, hj with
      | 0, _ => simp only [cv]; rw [hnd]
      | 1, _ => simp only [cv]; rw [hnd]
      | 2, _ => simp only [cv]; rw [hnd]
      | 3, _ => simp only [cv]; rw [hnd]
      | j + 4, hj => simp only [cv]; rw [h1 i hin j (by omega)]
    · have : i = ns.length + 1 := by omega
      subst this
      rw [List.getElem?_append_right (by rw [hl]; omega), hl, show (ns.length + 1) * 16 + j - (ns.length + 1) * 16 = j by omega, Array.getElem?_toList]
      match j, hj with
      | 0, _ => simp only [cv]; rw [nd_new]; rfl
      | 1, _ => simp only [cv]; rw [nd_new]; rfl
      | 2, _ => simp only [cv]; rw [nd_new]; rfl
      | 3, _ => simp only [cv]; rw [nd_new, if_neg (by omega)]; rfl
      | j + 4, hj => rw [nodeA_get _ _ _ _ _ j (by omega)]; simp only [cv]; rw [h2 j (by omega)]
theorem Hd.set {W : World} {g most h b n cap : Nat} (H : Hd W g most h b n cap) (h' b' n' cap' : Nat) (x : Int) (hx : x = (h' : Int)) : Hd ((W.setCell ⟨g, 2, none⟩ (.slice (some ⟨b', 0, none⟩) n' cap')).setCell ⟨g, 1, none⟩ (.int .i64 x)) g most h' b' n' cap' := by
  subst hx
  unfold Hd at H ⊢
  rw [set_of (set_of H _ _)]
  rfl
theorem boxes2 (A C : Array Value) (w W0 : World) (hW0 : W0 = (w.alloc (.cells A 158)).alloc (.cells C 156)) :
    Below w.heap.size w W0 ∧ W0.heap[w.heap.size]? = some (.cells A 158) ∧ W0.heap[w.heap.size + 1]? = some (.cells C 156) := by
  obtain ⟨w1, e1⟩ : ∃ w1, w1 = w.alloc (.cells A 158) := ⟨_, rfl⟩
  rw [← e1] at hW0
  have s1 : w1.heap.size = w.heap.size + 1 := by rw [e1]; exact size_alloc _ _
  have b1 : Below w.heap.size w w1 := by rw [e1]; exact box_below _ _
  have b3 : Below w1.heap.size w1 W0 := by rw [hW0]; exact box_below _ _
  have k1 : w1.heap[w.heap.size]? = some (.cells A 158) := by rw [e1]; exact new_at _ _
  exact ⟨b1.trans (b3.mono (by omega)), (b3.block _ (by omega)).trans k1, by rw [← s1, hW0]; exact new_at _ _⟩
set_option maxHeartbeats 4000000 in
set_option maxRecDepth 100000 in
theorem link_any (base g b cap most : Nat) (ns : List N) (tw : Nat → Nat → Nat) (T : Nat → Nat) (k : ByteArray) (s c : Int) (v : Value) (h : Nat) (w : World) (H : Lst w base g b cap most ns tw) (hbase : base ≤ w.heap.size) (hv : v.oneCell' = true) (hh : 1 ≤ h ∧ h ≤ 12) (hT : ∀ l, T l ≤ ns.length) (hfull : ns.length < most) :
    Calls Try.prog 105 #[.pointer (some ⟨g, 0, none⟩), .agg (nodeA k s c v (fun _ => 0)), .int .i64 (h : Int), .agg (tow T)] w fun e w' => (∃ u, e = .returned u) ∧ Fr g b w w' ∧ ∃ b' cap', (b' = b ∨ w.heap.size ≤ b') ∧ Lst w' base g b' cap' most (ns ++ [⟨k, s, c, v, h⟩]) (fun n lv => if n = ns.length + 1 then tox tw T h lv else upd tw T (ns.length + 1) h n lv) := by
  obtain ⟨gk, hgk⟩ : ∃ gk, gk = w.heap.size := ⟨_, rfl⟩
  obtain ⟨W0, hW0⟩ : ∃ W0, W0 = (w.alloc (.cells (nodeA k s c v (fun _ => 0)) 158)).alloc (.cells (tow T) 156) := ⟨_, rfl⟩
  obtain ⟨B0, K0, T0⟩ := boxes2 _ _ w W0 hW0
  rw [← hgk] at K0 T0
  have K0 : Nb W0 gk k s c v (tox tw T 0) := by
    unfold Nb
    rw [nodeA_ext (g := fun _ => 0) (by intro j _; rfl)]; exact K0
  have T0 : Tw W0 (gk + 1) T := T0
  have R0 : Rw W0 b cap ns (upd tw T (ns.length + 1) 0) := Rw.congr (H.later B0).rw (by intro i _ j _; simp [upd])
  have D0 : Hd W0 g most (top ns) b (ns.length + 1) cap := (H.later B0).hd
  have F0 : Fr g b w W0 := Fr.of B0
  have hg1 := H.hd.lt
  have hb1 := H.rw.lt
  have hm2 := H.m2
  have hne := H.ne
  have HTL := hid hT
  have HV := hid hv
  have HW0 := hid hW0
  have hgk2 := hid hgk
  rw [← hgk] at hg1 hb1
  replace K0 := hid K0
  replace R0 := hid R0
  replace T0 := hid T0
  replace D0 := hid D0
  replace F0 := hid F0
  have HTT : Hid (∀ i, i ≤ ns.length → ∀ j, tw i j ≤ ns.length) := H.tl
  have H0 := hid H
  have c2 := D0.out.c2
  rw [hW0] at c2
  clear hW0 hgk H hT hv B0
  go_enter Try.func105, Try.ntmps105
  go_wp2_with fail
  rw [← HW0.out, ← hgk2.out]
  clear c2
  go_loopw [18] (fun jv wr => ∃ j : Nat, jv = .int .i64 (j : Int) ∧ j ≤ h ∧ Hid (Nb wr gk k s c v (tox tw T j)) ∧ Hid (Tw wr (gk + 1) T) ∧ Hid (Rw wr b cap ns (upd tw T (ns.length + 1) j)) ∧ Hid (Hd wr g most (top ns) b (ns.length + 1) cap) ∧ Hid (Fr g b w wr))
    (fun jv _ => h - (intOf jv).toNat)
  case atStart => exact ⟨0, rfl, Nat.zero_le _, K0, T0, R0, D0, F0⟩
  case round =>
    obtain ⟨j, rfl, hj, HK, HT, HR, HD, HF⟩ := hrel
    by_cases hlt : j < h
    · have i1 : (j : Int) < (h : Int) := by omega
      have d2 := HD.out.c2
      have t0 := cell_of HT.out j _ (tow_get T j (by omega))
      have hTj := HTL.out j
      have r0 : wr.cell? ⟨b, T j * 16 + 4 + j, none⟩ = some (.int .i32 (tw (T j) j : Int)) := by
        have := HR.out.cell (T j) (j + 4) hTj (by omega)
        rw [show T j * 16 + 4 + j = T j * 16 + (j + 4) by omega]
        simp only [cv, upd] at this
        rw [if_neg (by omega)] at this
        exact this
      have f0 := HR.out.fz (T j * 16 + 4 + j)
      have x0 := cell_of HK.out (4 + j) _ (by rw [Nat.add_comm]; exact nodeA_get _ _ _ _ _ j (by omega))
      have xf := fz_of HK.out (4 + j)
      have i2 : (T j : Int) < ((ns.length + 1 : Nat) : Int) := by omega
      have nb : gk ≠ b := by omega
      have hst : Hid (Rw ((wr.setCell ⟨gk, 4 + j, none⟩ (.int .i32 (tw (T j) j : Int))).setCell ⟨b, T j * 16 + 4 + j, none⟩ (.int .i32 ((ns.length + 1 : Nat) : Int))) b cap ns (upd tw T (ns.length + 1) (j + 1))) := Rw.turn (Rw.apart HR.out (by omega)) hTj (by omega)
      go_wp2_with fail
      go_quiet (fail)
      go_wp2_with fail
      have bq := drewN_below wr nq
      have hc : ((ns.length : Int) + 1) = ((ns.length + 1 : Nat) : Int) := by omega
      rw [hc]
      have hF1 := ((HF.out.below bq).set gk (4 + j) (.int .i32 (tw (T j) j : Int)) (.inr (.inr (by have := hgk2.out; omega)))).set b (T j * 16 + 4 + j) (.int .i32 ((ns.length + 1 : Nat) : Int)) (.inr (.inl rfl))
      refine ⟨⟨j + 1, by simp, by omega, Nb.apart (Nb.put (HK.out.later bq) (by omega)) (by omega), Tw.apart (Tw.apart (HT.out.later bq) (by omega)) (by omega), hst.out, Hd.apart (Hd.apart (HD.out.later bq) (by omega)) (by omega), hF1⟩, ?_⟩
      simp only [intOf]
      omega
    · have i1 : ¬ (j : Int) < (h : Int) := by omega
      have ej : j = h := by omega
      subst ej
      obtain ⟨i0, hi, hz0, hz1, hz2⟩ := info_parts infoN
      obtain ⟨xs, OX, hxs⟩ := Rw.own HR.out H0.out.bb
      have d2 := HD.out.c2
      have d1 := HD.out.c1
      obtain ⟨X, hX⟩ : ∃ X, X = tox tw T j := ⟨_, rfl⟩
      have HK1 : Hid (Nb wr gk k s c v X) := by rw [hX]; exact HK.out
      obtain ⟨W4, hW4⟩ : ∃ W4, W4 = ((wr.alloc (.cells (nodeA k s c v X) 158)).drew) := ⟨_, rfl⟩
      have hs4 : W4.heap.size = wr.heap.size + 1 := by rw [hW4]; exact size_alloc _ _
      have b4 : Below wr.heap.size wr W4 := by rw [hW4]; exact (box_below wr _).drew
      have n4 : W4.heap[wr.heap.size]? = some (.cells (nodeA k s c v X) 158) := by rw [hW4]; exact new_at _ _
      have hb0 := H0.out.bb
      have hg0 := H0.out.bg
      have hsz : w.heap.size ≤ wr.heap.size := HF.out.size
      have O4 : W4.ownsRow base 158 16 (.slice (some ⟨b, 0, none⟩) (ns.length + 1) cap) (ns.length + 1) xs := World.ownsRow.kept (row := none) OX ⟨b4.os, b4.tape, b4.output, b4.size, fun k hk _ => b4.block k hk⟩ (.inr (by simp [Value.ownBlock]))
      obtain ⟨v5, W5, r5, o5, g5, _, at5⟩ := run_append_own_at (P := Try.prog) W4 base 133 133 158 i0 _ 16 96 Try.underlying133 hi hz0 hz1 hz2 rfl (by decide) _ (ns.length + 1) xs O4 ⟨wr.heap.size, 0, none⟩ 1 1 (nodeA k s c v X).toList rfl (by
        intro q u hq
        rw [show (⟨wr.heap.size, 0, none⟩ : Addr).add q = ⟨wr.heap.size, q, none⟩ by unfold Addr.add; split <;> simp_all]
        exact cell_of n4 q u (by rw [Array.getElem?_toList] at hq; exact hq)) (by
        intro u hu
        simp only [nodeA, List.mem_cons, List.not_mem_nil, or_false] at hu
        rcases hu with rfl | rfl | rfl | rfl | rfl | rfl | rfl | rfl | rfl | rfl | rfl | rfl | rfl | rfl | rfl | rfl
        all_goals first | exact HV.out | rfl) (by unfold maxLen; omega) (by omega) (by omega)
      obtain ⟨b', cap', ev, hb', RW5⟩ := Rw.grown (x := ⟨k, s, c, v, j⟩) (tw' := fun n lv => if n = ns.length + 1 then tox tw T j lv else upd tw T (ns.length + 1) j n lv) o5 OX.1 hxs (fun i hi' q _ => if_neg (by omega)) (fun q _ => by rw [hX]; exact if_pos rfl)
      subst ev
      have hbb : b' = b ∨ wr.heap.size ≤ b' := by
        rcases at5 with h | h
        · left; simpa [Value.ownBlock] using h
        · right; rw [hs4] at h; simp [Value.ownBlock] at h; omega
      have D5 : Hd W5 g most (top ns) b (ns.length + 1) cap := (g5.block g (by have := hgk2.out; omega) (by simp [Value.ownBlock]; exact fun e => hne e)).trans (HD.out.later b4)
      have F5 : Fr g b w W5 := (HF.out.below b4).grown g5 (by intro q hq; simp [Value.ownBlock] at hq; omega)
      have d1' := D5.c1
      have d2' := D5.c2
      have d1f := D5.fz 1
      have d2f := D5.fz 2
      have hgb' : b' ≠ g := by have := hgk2.out; omega
      have RWF := hid RW5
      have DF := hid D5
      have FF := hid F5
      rw [hW4] at r5
      obtain ⟨gw, hgw⟩ : ∃ gw, gw = wr.heap.size := ⟨_, rfl⟩
      have hgw2 := hid hgw
      have HX := hid hX
      have x0 : wr.cell? ⟨gk, 0, none⟩ = some (.string k) := cell_of HK1.out 0 _ rfl
      have x1 : wr.cell? ⟨gk, 1, none⟩ = some (.int .u64 s) := cell_of HK1.out 1 _ rfl
      have x2 : wr.cell? ⟨gk, 2, none⟩ = some (.int .i64 c) := cell_of HK1.out 2 _ rfl
      have x3 : wr.cell? ⟨gk, 3, none⟩ = some (v) := cell_of HK1.out 3 _ rfl
      have x4 : wr.cell? ⟨gk, 4, none⟩ = some (.int .i32 (X 0 : Int)) := cell_of HK1.out 4 _ rfl
      have x5 : wr.cell? ⟨gk, 5, none⟩ = some (.int .i32 (X 1 : Int)) := cell_of HK1.out 5 _ rfl
      have x6 : wr.cell? ⟨gk, 6, none⟩ = some (.int .i32 (X 2 : Int)) := cell_of HK1.out 6 _ rfl
      have x7 : wr.cell? ⟨gk, 7, none⟩ = some (.int .i32 (X 3 : Int)) := cell_of HK1.out 7 _ rfl
      have x8 : wr.cell? ⟨gk, 8, none⟩ = some (.int .i32 (X 4 : Int)) := cell_of HK1.out 8 _ rfl
      have x9 : wr.cell? ⟨gk, 9, none⟩ = some (.int .i32 (X 5 : Int)) := cell_of HK1.out 9 _ rfl
      have x10 : wr.cell? ⟨gk, 10, none⟩ = some (.int .i32 (X 6 : Int)) := cell_of HK1.out 10 _ rfl
      have x11 : wr.cell? ⟨gk, 11, none⟩ = some (.int .i32 (X 7 : Int)) := cell_of HK1.out 11 _ rfl
      have x12 : wr.cell? ⟨gk, 12, none⟩ = some (.int .i32 (X 8 : Int)) := cell_of HK1.out 12 _ rfl
      have x13 : wr.cell? ⟨gk, 13, none⟩ = some (.int .i32 (X 9 : Int)) := cell_of HK1.out 13 _ rfl
      have x14 : wr.cell? ⟨gk, 14, none⟩ = some (.int .i32 (X 10 : Int)) := cell_of HK1.out 14 _ rfl
      have x15 : wr.cell? ⟨gk, 15, none⟩ = some (.int .i32 (X 11 : Int)) := cell_of HK1.out 15 _ rfl
      have e2 : (wr.alloc (.cells #[.string k, .int .u64 s, .int .i64 c, v, .int .i32 (X 0 : Int), .int .i32 (X 1 : Int), .int .i32 (X 2 : Int), .int .i32 (X 3 : Int), .int .i32 (X 4 : Int), .int .i32 (X 5 : Int), .int .i32 (X 6 : Int), .int .i32 (X 7 : Int), .int .i32 (X 8 : Int), .int .i32 (X 9 : Int), .int .i32 (X 10 : Int), .int .i32 (X 11 : Int)] 158)).cell? ⟨g, 2, none⟩ = some (.slice (some ⟨b, 0, none⟩) (ns.length + 1) cap) := by
        have := (HD.out.later b4).c2
        rw [hW4] at this
        exact this
      have HVV := HV.out
      have FIN : Hid (Fr g b w ((W5.setCell ⟨g, 2, none⟩ (.slice (some ⟨b', 0, none⟩) (ns.length + 1 + 1) cap')).setCell ⟨g, 1, none⟩ (.int .i64 (max (top ns : Int) (j : Int)))) ∧ ∃ b2 cap2, (b2 = b ∨ w.heap.size ≤ b2) ∧ Lst ((W5.setCell ⟨g, 2, none⟩ (.slice (some ⟨b', 0, none⟩) (ns.length + 1 + 1) cap')).setCell ⟨g, 1, none⟩ (.int .i64 (max (top ns : Int) (j : Int)))) base g b2 cap2 most (ns ++ [⟨k, s, c, v, j⟩]) (fun n lv => if n = ns.length + 1 then tox tw T j lv else upd tw T (ns.length + 1) j n lv)) := by
        refine ⟨(F5.set g 2 _ (.inl rfl)).set g 1 _ (.inl rfl), b', cap', by omega, ?_, Rw.apart (Rw.apart RW5 hgb') hgb', hg0, hb', fun e => hgb' e.symm, by omega, hm2, by simp; omega, ?_⟩
        · rw [List.length_append, List.length_singleton]
          exact Hd.set D5 _ _ _ _ _ (by rw [top_app]; show max (top ns : Int) (j : Int) = ((max (top ns) j : Nat) : Int); omega)
        · intro i hi q
          rw [List.length_append, List.length_singleton] at hi ⊢
          show (if i = ns.length + 1 then tox tw T j q else upd tw T (ns.length + 1) j i q) ≤ _
          split
          · unfold tox
            split
            · have := HTT.out (T q) (HTL.out q) q; omega
            · omega
          · unfold upd
            split
            · omega
            · have := HTT.out i (by omega) q; omega
      clear hX hgw D5 F5 RW5 O4 OX o5 g5 at5 n4 b4 hW4 hs4
      go_wp2_with fail
      refine wp_region_any (by kernel_rfl) ?_
      change wpAny _ _ _ _ _ _ _ (World.drew _)
      refine wpAny_take (i := 0) (v := ?v0) rfl (by kernel_rfl) (by kernel_rfl) (by kernel_rfl) (fun _ _ _ h => h) (Or.inl ⟨by rfl, ?h0⟩) ?_
      case h0 => (intro w; go_simp; try (with_reducible rfl))
      go_simp
      refine wpAny_take (i := 1) (v := ?v1) rfl (by kernel_rfl) (by kernel_rfl) (by kernel_rfl) (fun _ _ _ h => h) (Or.inl ⟨by rfl, ?h1⟩) ?_
      case h1 => (intro w; go_simp; try (with_reducible rfl))
      go_simp
      refine wpAny_take (i := 2) (v := ?v2) rfl (by kernel_rfl) (by kernel_rfl) (by kernel_rfl) (fun _ _ _ h => h) (Or.inl ⟨by rfl, ?h2⟩) ?_
      case h2 => (intro w; go_simp; try (with_reducible rfl))
      go_simp
      refine wpAny_take (i := 3) (v := ?v3) rfl (by kernel_rfl) (by kernel_rfl) (by kernel_rfl) (fun _ _ _ h => h) (Or.inl ⟨by rfl, ?h3⟩) ?_
      case h3 => (intro w; go_simp; try (with_reducible rfl))
      go_simp
      refine wpAny_ready (rs := [4, 5]) (by kernel_rfl) (by simp) ?_
      refine AllReady.cons rfl (fun K hK => ?_) ?_
      · go_simp
        refine hK _ _ ?_
        clear hK K
        refine wpAny_ready (rs := [5]) (by kernel_rfl) (by simp) ?_
        refine AllReady.cons rfl (fun K hK => ?_) ?_
        · go_simp
          refine hK _ _ ?_
          clear hK K
          refine wpAny_ready (rs := [6]) (by kernel_rfl) (by simp) ?_
          refine AllReady.cons rfl (fun K hK => ?_) ?_
          · go_simp
            refine hK _ _ ?_
            clear hK K
            refine wpAny_ready (rs := [7]) (by kernel_rfl) (by simp) ?_
            refine AllReady.cons rfl (fun K hK => ?_) AllReady.nil
            rw [if_pos (by rfl)]
            refine wp_append_run _ _ 133 133 rfl _ _ _ (by rfl) (by rfl) r5 ?_
            refine hK _ _ ?_
            clear hK K
            go_simp
            refine wpAny_take (i := 8) (v := ?v8) rfl (by kernel_rfl) (by kernel_rfl) (by kernel_rfl) (fun _ _ _ h => h) (Or.inl ⟨by rfl, ?h8⟩) ?_
            case h8 => (intro w; go_simp; try (with_reducible rfl))
            go_simp
            refine wpAny_take (i := 9) (v := ?v9) rfl (by kernel_rfl) (by kernel_rfl) (by kernel_rfl) (fun _ _ _ h => h) (Or.inl ⟨by rfl, ?h9⟩) ?_
            case h9 => (intro w; go_simp; try (with_reducible rfl))
            go_simp
            refine wpAny_ready (rs := [10]) (by kernel_rfl) (by simp) ?_
            refine AllReady.cons rfl (fun K hK => ?_) AllReady.nil
            go_simp
            refine hK _ _ ?_
            clear hK K
            refine wpAny_done (by kernel_rfl) ?_ _
            go_wp2_with fail
            go_end0
            exact ⟨⟨_, rfl⟩, FIN.out⟩
          exact AllReady.nil
        exact AllReady.nil
      refine AllReady.cons rfl (fun K hK => ?_) ?_
      · go_simp
        refine hK _ _ ?_
        clear hK K
        refine wpAny_ready (rs := [4, 6]) (by kernel_rfl) (by simp) ?_
        refine AllReady.cons rfl (fun K hK => ?_) ?_
        · go_simp
          refine hK _ _ ?_
          clear hK K
          refine wpAny_ready (rs := [6]) (by kernel_rfl) (by simp) ?_
          refine AllReady.cons rfl (fun K hK => ?_) ?_
          · go_simp
            refine hK _ _ ?_
            clear hK K
            refine wpAny_ready (rs := [7]) (by kernel_rfl) (by simp) ?_
            refine AllReady.cons rfl (fun K hK => ?_) AllReady.nil
            rw [if_pos (by rfl)]
            refine wp_append_run _ _ 133 133 rfl _ _ _ (by rfl) (by rfl) r5 ?_
            refine hK _ _ ?_
            clear hK K
            go_simp
            refine wpAny_take (i := 8) (v := ?v8) rfl (by kernel_rfl) (by kernel_rfl) (by kernel_rfl) (fun _ _ _ h => h) (Or.inl ⟨by rfl, ?h8⟩) ?_
            case h8 => (intro w; go_simp; try (with_reducible rfl))
            go_simp
            refine wpAny_take (i := 9) (v := ?v9) rfl (by kernel_rfl) (by kernel_rfl) (by kernel_rfl) (fun _ _ _ h => h) (Or.inl ⟨by rfl, ?h9⟩) ?_
            case h9 => (intro w; go_simp; try (with_reducible rfl))
            go_simp
            refine wpAny_ready (rs := [10]) (by kernel_rfl) (by simp) ?_
            refine AllReady.cons rfl (fun K hK => ?_) AllReady.nil
            go_simp
            refine hK _ _ ?_
            clear hK K
            refine wpAny_done (by kernel_rfl) ?_ _
            go_wp2_with fail
            go_end0
            exact ⟨⟨_, rfl⟩, FIN.out⟩
          exact AllReady.nil
        refine AllReady.cons rfl (fun K hK => ?_) ?_
        · go_simp
          refine hK _ _ ?_
          clear hK K
          refine wpAny_ready (rs := [4]) (by kernel_rfl) (by simp) ?_
          refine AllReady.cons rfl (fun K hK => ?_) ?_
          · go_simp
            refine hK _ _ ?_
            clear hK K
            refine wpAny_ready (rs := [7]) (by kernel_rfl) (by simp) ?_
            refine AllReady.cons rfl (fun K hK => ?_) AllReady.nil
            rw [if_pos (by rfl)]
            refine wp_append_run _ _ 133 133 rfl _ _ _ (by rfl) (by rfl) r5 ?_
            refine hK _ _ ?_
            clear hK K
            go_simp
            refine wpAny_take (i := 8) (v := ?v8) rfl (by kernel_rfl) (by kernel_rfl) (by kernel_rfl) (fun _ _ _ h => h) (Or.inl ⟨by rfl, ?h8⟩) ?_
            case h8 => (intro w; go_simp; try (with_reducible rfl))
            go_simp
            refine wpAny_take (i := 9) (v := ?v9) rfl (by kernel_rfl) (by kernel_rfl) (by kernel_rfl) (fun _ _ _ h => h) (Or.inl ⟨by rfl, ?h9⟩) ?_
            case h9 => (intro w; go_simp; try (with_reducible rfl))
            go_simp
            refine wpAny_ready (rs := [10]) (by kernel_rfl) (by simp) ?_
            refine AllReady.cons rfl (fun K hK => ?_) AllReady.nil
            go_simp
            refine hK _ _ ?_
            clear hK K
            refine wpAny_done (by kernel_rfl) ?_ _
            go_wp2_with fail
            go_end0
            exact ⟨⟨_, rfl⟩, FIN.out⟩
          exact AllReady.nil
        exact AllReady.nil
      exact AllReady.nil
end Go.Proofs.Ytefihoohdaegeaa.Li

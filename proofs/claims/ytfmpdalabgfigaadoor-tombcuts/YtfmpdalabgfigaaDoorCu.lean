/- Cut of the program. -/
import Derived.Test.YtfmpdalabgfigaaDoorRw
namespace Go.Proofs.YtfmpdalabgfigaaDoor.Cu
open Go.ChangeShapes Go.WideShapes Go.ChangeAt Go.RowKit Go.Shelf
open Go.Proofs.YtfmpdalabgfigaaDoor.Lx
open Go.Proofs.YtfmpdalabgfigaaDoor.Tm
open Go.Proofs.YtfmpdalabgfigaaDoor.Vi
open Go.Proofs.YtfmpdalabgfigaaDoor.Mm
open Go.Proofs.YtfmpdalabgfigaaDoor.Rw
set_option linter.unusedVariables false
set_option linter.unusedSimpArgs false
attribute [local go_sem] Oper.semAt_some leq_s gtr_s geq_s run_mx run_mn

/-- A tomb cut by bounds. -/
def lim (e m : ByteArray) : ByteArray := if m = ⟨#[]⟩ then e else mn e m
theorem empty_no {v : ByteArray} (h : ¬ v = ⟨#[]⟩) : v.toList.isEmpty = false := by
  cases hl : v.toList with
  | nil => exact absurd (toList_inj (by rw [hl, ByteArray.toList_eq])) h
  | cons _ _ => rfl
def ct (l m : ByteArray) (x : T) : T := ⟨mx x.b l, lim x.e m, x.s⟩
/-- Something is left. -/
def lf (x : T) : Bool := lt x.b x.e
def ctl (l m : ByteArray) (xs : List T) : List T := (xs.map (ct l m)).filter lf
/-- What Cut tells. -/
def cut (xs : List T) (l m : ByteArray) : List T := ctl l m (xs.filter vd)
theorem ctl_snoc (l m : ByteArray) (xs : List T) (x : T) : ctl l m (xs ++ [x]) = ctl l m xs ++ (if lf (ct l m x) = true then [ct l m x] else []) := by
  unfold ctl
  rw [List.map_append, List.filter_append]
  congr 1
  cases h : lf (ct l m x) <;> simp [h]
theorem ctl_len (l m : ByteArray) (xs : List T) : (ctl l m xs).length ≤ xs.length := by
  unfold ctl
  exact Nat.le_trans (List.length_filter_le _ _) (by simp)
theorem mx_size (a b : ByteArray) (h1 : a.size ≤ maxLen) (h2 : b.size ≤ maxLen) : (mx a b).size ≤ maxLen := by
  unfold mx; split <;> assumption
theorem mn_size (a b : ByteArray) (h1 : a.size ≤ maxLen) (h2 : b.size ≤ maxLen) : (mn a b).size ≤ maxLen := by
  unfold mn; split <;> assumption
theorem ct_ok {l m : ByteArray} {x : T} (h : x.ok) (hl : l.size ≤ maxLen) (hm : m.size ≤ maxLen) : (ct l m x).ok := by
  refine ⟨h.1, mx_size _ _ h.2.1 hl, ?_⟩
  show (lim x.e m).size ≤ maxLen
  unfold lim
  split
  · exact h.2.2
  · exact mn_size _ _ h.2.2 hm
theorem cut_ok {l m : ByteArray} {xs : List T} (h : ∀ x ∈ xs, x.ok) (hl : l.size ≤ maxLen) (hm : m.size ≤ maxLen) : ∀ x ∈ cut xs l m, x.ok := by
  intro x hx
  unfold cut ctl at hx
  rw [List.mem_filter, List.mem_map] at hx
  obtain ⟨⟨y, hy, rfl⟩, _⟩ := hx
  exact ct_ok (h y (List.mem_filter.1 hy).1) hl hm
/-- What the loop of Cut holds. -/
structure Cl (n0 : Nat) (l m : ByteArray) (w : World) (ys : List T) (W : World) : Prop where
  fl : Boxed W n0 9 (.string l)
  fm : Boxed W (n0 + 1) 9 (.string m)
  fo : ∃ v, Boxed W (n0 + 2) 22 v ∧ OwnT W (n0 + 4) v (ctl l m ys)
  b : Below n0 w W
  z : n0 + 4 ≤ W.heap.size
theorem Cl.kept {n0 : Nat} {l m : ByteArray} {w : World} {ys : List T} {W W' : World} {row : Option Nat} (h : Cl n0 l m w ys W) (K : W.grownBy W' row) (hr : ∀ k, row = some k → n0 + 4 ≤ k ∧ ∀ c f, W.heap[k]? ≠ some (.cells c 27 f)) : Cl n0 l m w ys W' := by
  have ne : ∀ j, j < n0 + 4 → some j ≠ row := fun j hj e => by have := (hr j e.symm).1; omega
  obtain ⟨v, o1, o2⟩ := h.fo
  exact ⟨h.fl.kept K (ne _ (by omega)), h.fm.kept K (ne _ (by omega)), ⟨v, o1.kept K (ne _ (by omega)), row_grown o2 K (fun k e c f => (hr k e).2 c f)⟩, h.b.grown K (by have := h.z; omega) (fun k e => by have := (hr k e).1; omega), Nat.le_trans h.z K.size⟩
theorem Cl.later {n0 : Nat} {l m : ByteArray} {w : World} {ys : List T} {W W' : World} (h : Cl n0 l m w ys W) (K : Below W.heap.size W W') : Cl n0 l m w ys W' := h.kept (row := none) (grown_of K) (fun _ e => by cases e)
/-- A store into a block of another kind's tomb: the loop's own variable. -/
theorem bt_set {W : World} {g i : Nat} {v : Value} {x y : T} (h : Bt W g x) (e : #[Value.string x.b, .string x.e, .int .u64 x.s].setIfInBounds i v = #[.string y.b, .string y.e, .int .u64 y.s]) : Bt (W.setCell ⟨g, i, none⟩ v) g y := by
  unfold Bt; rw [set_of h, e]
theorem Cl.var {n0 : Nat} {l m : ByteArray} {w : World} {ys : List T} {W : World} (h : Cl n0 l m w ys W) (Bo i : Nat) (v : Value) (h1 : n0 + 4 ≤ Bo) (h2 : ∀ q u, Boxed W (n0 + 2) 22 u → OwnT W (n0 + 4) u (ctl l m ys) → u.ownBlock = some q → q ≠ Bo) : Cl n0 l m w ys (W.setCell ⟨Bo, i, none⟩ v) := by
  obtain ⟨u, o1, o2⟩ := h.fo
  have K : W.grownBy (W.setCell ⟨Bo, i, none⟩ v) (some Bo) := ⟨rfl, rfl, rfl, by simp, fun q _ hne => set_ne _ _ _ _ _ (fun e => hne (by rw [e]))⟩
  refine ⟨h.fl.kept K (by simp; omega), h.fm.kept K (by simp; omega), ⟨u, o1.kept K (by simp; omega), World.ownsRow.kept o2 K (.inr ?_)⟩, h.b.grown K (by have := h.z; omega) (fun k e => by cases e; omega), by have := h.z; simp; omega⟩
  intro e
  exact h2 Bo u o1 o2 e rfl
theorem Cl.free {n0 : Nat} {l m : ByteArray} {w : World} {ys : List T} {W : World} (h : Cl n0 l m w ys W) : ∃ v, Boxed W (n0 + 2) 22 v ∧ OwnT W (n0 + 4) v (ctl l m ys) ∧ ∀ q, v.ownBlock = some q → q < W.heap.size := by
  obtain ⟨v, o1, o2⟩ := h.fo
  exact ⟨v, o1, o2, fun q e => (World.ownsRow.lt o2 q e).2⟩
/-- What the loop holds beside its own variable. -/
structure Cx (n0 : Nat) (l m : ByteArray) (w : World) (ys : List T) (Bo : Nat) (v : Value) (W : World) : Prop where
  c : Cl n0 l m w ys W
  o : Boxed W (n0 + 2) 22 v
  r : OwnT W (n0 + 4) v (ctl l m ys)
  ne : v.ownBlock ≠ some Bo
  le : n0 + 4 ≤ Bo
theorem Cx.set {n0 : Nat} {l m : ByteArray} {w : World} {ys : List T} {Bo : Nat} {v : Value} {W : World} (h : Cx n0 l m w ys Bo v W) (i : Nat) (u : Value) : Cx n0 l m w ys Bo v (W.setCell ⟨Bo, i, none⟩ u) := by
  have K : W.grownBy (W.setCell ⟨Bo, i, none⟩ u) (some Bo) := ⟨rfl, rfl, rfl, by simp, fun q _ hne => set_ne _ _ _ _ _ (fun e => hne (by rw [e]))⟩
  have o1 : Boxed (W.setCell ⟨Bo, i, none⟩ u) (n0 + 2) 22 v := h.o.kept K (by have := h.le; simp; omega)
  have o2 : OwnT (W.setCell ⟨Bo, i, none⟩ u) (n0 + 4) v (ctl l m ys) := World.ownsRow.kept h.r K (.inr h.ne)
  have hle := h.le
  have hz := h.c.z
  refine ⟨⟨h.c.fl.kept K (by simp; omega), h.c.fm.kept K (by simp; omega), ⟨v, o1, o2⟩, h.c.b.grown K (by omega) (fun k e => by cases e; omega), by simp; omega⟩, o1, o2, h.ne, h.le⟩
/-- What a round must show. -/
def Rd (n0 N : Nat) (l m : ByteArray) (w : World) (ys : List T) (x : T) (W W' : World) : Prop := KeepsFrom N W W' ∧ Below n0 W W' ∧ Cl n0 l m w (ys ++ [x]) W'
/-- A tomb more, of which nothing is left. -/
theorem Cx.skip {n0 : Nat} {l m : ByteArray} {w : World} {ys : List T} {Bo : Nat} {v : Value} {W : World} (h : Cx n0 l m w ys Bo v W) (x : T) (hx : lf (ct l m x) = false) : Cl n0 l m w (ys ++ [x]) W := by
  have e : ctl l m (ys ++ [x]) = ctl l m ys := by rw [ctl_snoc, if_neg (by rw [hx]; simp), List.append_nil]
  exact ⟨h.c.fl, h.c.fm, ⟨v, h.o, by rw [e]; exact h.r⟩, h.c.b, h.c.z⟩
theorem Cx.more {n0 : Nat} {l m : ByteArray} {w : World} {ys : List T} {Bo : Nat} {v : Value} {W : World} (h : Cx n0 l m w ys Bo v W) (x y : T) (hy : ct l m x = y) (hx : lf y = true) (hn : (ys.length + 1) * 40 ≤ 140737488355328) :
    ∃ av nv cv w1 a2 c2, v = .slice av nv cv ∧ (Builtin.append_ #[22, 22] 22 #[.slice av nv cv, .slice (some ⟨W.heap.size, 0, none⟩) 1 1]).run Tryd.prog (W.alloc (.cells #[.string y.b, .string y.e, .int .u64 y.s] 27)) = .ok (.slice a2 (nv + 1) c2) w1 ∧ Boxed w1 (n0 + 2) 22 (.slice av nv cv) ∧
      Cl n0 l m w (ys ++ [x]) (w1.setCell ⟨n0 + 2, 0, none⟩ (.slice a2 (nv + 1) c2)) ∧ KeepsOthers W (w1.setCell ⟨n0 + 2, 0, none⟩ (.slice a2 (nv + 1) c2)) ∧ Below n0 W (w1.setCell ⟨n0 + 2, 0, none⟩ (.slice a2 (nv + 1) c2)) := by
  obtain ⟨⟨fl, fm, _, fb, fz⟩, o, r, ne, le⟩ := h
  have hln := ctl_len l m ys
  obtain ⟨v2, w1, r1, o1, g1⟩ := app_tomb W (n0 + 4) v (ctl l m ys) y r (by omega) fz
  obtain ⟨av, cv, hv, _⟩ := row_shape r
  obtain ⟨a2, c2, hv2, _⟩ := row_shape o1
  rw [List.length_append] at hv2
  have ne1 : ∀ q, q < n0 + 4 → some q ≠ v.ownBlock := fun q hq e => by have := (World.ownsRow.lt r q e.symm).1; omega
  have e : ctl l m (ys ++ [x]) = ctl l m ys ++ [y] := by rw [ctl_snoc, hy, if_pos hx]
  have x1 := o.kept g1 (ne1 _ (by omega))
  have gs : w1.grownBy (w1.setCell ⟨n0 + 2, 0, none⟩ v2) (some (n0 + 2)) := ⟨rfl, rfl, rfl, by simp, fun q _ hne => set_ne _ _ _ _ _ (fun e => hne (by rw [e]))⟩
  have B : Below n0 W (w1.setCell ⟨n0 + 2, 0, none⟩ v2) := ((Below.refl n0 W).grown g1 (by omega) (fun q e => by have := (World.ownsRow.lt r q e).1; omega)).grown gs (by have := g1.size; omega) (fun q e => by cases e; omega)
  have k2 : KeepsOthers W (w1.setCell ⟨n0 + 2, 0, none⟩ v2) := (keeps_grown g1 (fun q e => by obtain ⟨c, f, h⟩ := row_blk r q e; exact ⟨c, _, f, h⟩)).trans (keeps_set x1)
  have z1 := g1.size
  have cl : Cl n0 l m w (ys ++ [x]) (w1.setCell ⟨n0 + 2, 0, none⟩ v2) := by
    refine ⟨(fl.kept g1 (ne1 _ (by omega))).kept gs (by simp), (fm.kept g1 (ne1 _ (by omega))).kept gs (by simp), ⟨v2, x1.set _, ?_⟩, fb.trans B, by simp; omega⟩
    rw [e]
    exact row_grown o1 gs (fun q e c f hh => by cases e; rw [show w1.heap[n0 + 2]? = _ from x1] at hh; simp at hh)
  subst hv hv2
  exact ⟨av, _, cv, w1, a2, c2, rfl, r1, x1, cl, k2, B⟩
set_option maxRecDepth 100000 in
set_option maxHeartbeats 4000000 in
theorem cut_in (a : Option Addr) (len cap : Nat) (xs : List T) (l m : ByteArray) (w : World) (H : Tbs w a len cap xs) (hlen : len * 40 ≤ 140737488355328) (R : List T) (hE : cut xs l m = R) :
    CallsIn Fence.wide 8 Tryd.prog 18 #[.slice a len cap, .string l, .string m] w fun e w' => ∃ v, e = .returned v ∧ OwnT w' w.heap.size v R ∧ Below w.heap.size w w' := by
  replace hE := hid hE
  refine callsIn_of_wp_marks Tryd.func18 rfl trivial ?_ rfl
  simp only [Tryd.ntmps18, List.size_toArray, List.length_cons, List.length_nil, Nat.reduceAdd, Nat.reduceSub, Array.replicate_succ, Array.replicate_zero, List.push_toArray, List.append_toArray, List.nil_append, List.cons_append]
  obtain ⟨n0, hn0⟩ : ∃ n0, n0 = w.heap.size := ⟨_, rfl⟩
  obtain ⟨W4, hW4⟩ : ∃ W, W = (((w.alloc (.cells #[.string l] 9)).alloc (.cells #[.string m] 9)).alloc (.cells #[.slice none 0 0] 22)).alloc (.cells #[.slice a len cap] 22) := ⟨_, rfl⟩
  have s5 : W4.heap.size = n0 + 4 := by rw [hW4, hn0]; simp
  have B4 : Below n0 w W4 := by rw [hW4, hn0]; exact (((box_below w _).alloc (by simp) _).alloc (by simp; omega) _).alloc (by simp; omega) _
  have hbl : Boxed W4 (n0 + 3) 22 (.slice a len cap) := by rw [hW4]; exact new_box (by simp; omega) _ _
  have hC0 : Cl n0 l m w [] W4 := by
    refine ⟨?_, ?_, ⟨.slice none 0 0, ?_, OwnT.nil _ _⟩, B4, by omega⟩
    · rw [hW4]; exact (((new_box hn0 _ _).alloc _).alloc _).alloc _
    · rw [hW4]; exact ((new_box (by simp; omega) _ _).alloc _).alloc _
    · rw [hW4]; exact (new_box (by simp; omega) _ _).alloc _
  have hS : Hid (∀ W', Below n0 w W' → Tbs W' a len cap xs) := fun W' h' => H.later (by rw [← hn0]; exact h')
  have hxl : Hid ((xs.filter vd).length ≤ len) := by show _ ≤ _; rw [← H.1]; exact List.length_filter_le _ _
  replace H := hid H
  replace hW4 := hid hW4
  replace hC0 := hid hC0
  replace hbl := hid hbl
  replace B4 := hid B4
  replace hn0 := hid hn0
  gi_wp2_with fail
  refine ⟨trivial, (callsIn_wide.2 (valids_any a len cap _)).mono ?_⟩
  rintro e w' ⟨rfl, rfl⟩
  gi_wp2_with fail
  rw [← hW4.out, ← hn0.out]
  refine range_q (F := Fence.wide) (n := 8) encs rfl (by omega) (gf := 33) (lb := #[.pointer (some ⟨n0 + 3, 0, none⟩)]) rfl trivial (enters_of Tryd.func33 (by kernel_rfl) rfl) (fun _ => rfl)
    (fun ys W => Cl n0 l m w ys W) (fun _ _ _ => False) (fun pre x => pre ++ [x] <+: xs.filter vd) (Below n0) (fun ys _ _ => ys = xs.filter vd) (fun _ => True)
    (fun s W o h => h.later (box_below W o)) (fun s W W' k h g hk hc => h.kept g (fun q e => by cases e; exact ⟨by omega, fun c f => hc _ _ _⟩)) (fun _ _ _ _ _ h => h.elim)
    (fun A B hA hb => hb.mono (by omega)) (fun h k => h.trans k)
    (fun W l o o' hl ho hc => belowK_b' (w := W4) (by omega) W l o o' hl ho)
    hC0.out ?seq
    (fun Y x a' W => ∃ Bo, Y.heap.size ≤ Bo ∧ Bt W Bo x ∧ a' = { tmps := #[.slice a len cap, .string l, .string m, undef, .pointer (some ⟨n0, 0, none⟩), .pointer (some ⟨n0 + 1, 0, none⟩), .slice none 0 0, .pointer (some ⟨n0 + 2, 0, none⟩), .pointer (some ⟨Bo, 0, none⟩), .slice a len cap, .func (.func 33) #[] #[.pointer (some ⟨n0 + 3, 0, none⟩)], .agg #[.string x.b, .string x.e, .int .u64 x.s], undef, undef, undef, undef, undef, undef, undef, undef, undef, undef, undef, undef, undef, undef, undef, undef, undef, undef, undef, undef, undef, undef], defers := [] })
    ?hAx ?assign ?body ?done ?stop
  case seq =>
    intro l J Jx W1 hB1 hY h0
    have hB1' : Below n0 w W1 := B4.out.trans (hB1.mono (by omega))
    refine (vals_in 7 (by omega) l (n0 + 3) n0 a len cap xs J Jx hY W1 (fun W' h' => hS.out W' (hB1'.trans h')) ((hB1.block _ hbl.out.lt).trans hbl.out) h0 (by have := hB1.size; omega) (by omega)).mono ?_
    rintro e W' ⟨hv, (⟨W0, h1, h2⟩ | ⟨pre, h1, h2⟩)⟩
    · exact ⟨hv, .inl ⟨_, W0, h1, h2, rfl⟩⟩
    · exact ⟨hv, .inr ⟨pre, trivial, h2⟩⟩
  case hAx =>
    rintro Y x a' W W' j ⟨Bo, h0, h1, h2⟩ hg hc
    refine ⟨Bo, h0, h1.kept hg (fun e => ?_), h2⟩
    cases e
    exact hc _ _ _ h1
  case assign =>
    intro l x W K hK
    simp only [encs]
    gi_wp2
    exact hK _ _ (box_below _ _) ⟨W.heap.size, Nat.le_refl _, new_at _ _, rfl⟩
  case body =>
    rintro lp pre x a' W0 WY W1 W2 hI h0Y h01 hfr h12 hl hlo hnc ⟨Bo, hBoY, hBo, rfl⟩
    have hpl : (pre.length + 1) * 40 ≤ 140737488355328 := by
      have h1 := hfr.length_le
      have h2 := hxl.out
      rw [List.length_append, List.length_singleton] at h1; omega
    have hC2 : ∃ v, Cx n0 l m w pre Bo v W2 := by
      have hc1 := hI.later h01
      have hc2 := hc1.kept h12 (fun j e => by cases e; exact ⟨by omega, fun c f => hnc _ _ _⟩)
      obtain ⟨v, o1, o2, o3⟩ := hI.free
      have := h0Y.size
      have := hI.z
      have hr1 : OwnT W1 (n0 + 4) v (ctl l m pre) := o2.later h01
      refine ⟨v, hc2, Boxed.kept (W := W1) ((h01.block _ o1.lt).trans o1) h12 (by simp; omega), row_grown hr1 h12 (fun k e c f => by cases e; exact hnc _ _ _), fun e => ?_, by omega⟩
      have := o3 Bo e
      omega
    obtain ⟨v, hX⟩ := hC2
    obtain ⟨xb, xe, x3⟩ := x
    have y0 := hBo.c0
    have y1 := hBo.c1
    have z0 := fz_of hBo 0
    have c0 := hX.c.fl.cell
    dsimp only at y0 y1
    have hX1 := hX.set 0 (.string (mx xb l))
    have hBo1 : Bt (W2.setCell ⟨Bo, 0, none⟩ (.string (mx xb l))) Bo ⟨mx xb l, xe, x3⟩ := bt_set hBo rfl
    have hK1 : KeepsOthers W2 (W2.setCell ⟨Bo, 0, none⟩ (.string (mx xb l))) := keeps_set hBo
    have hB1 : Below n0 W2 (W2.setCell ⟨Bo, 0, none⟩ (.string (mx xb l))) := (Below.refl n0 W2).setCell (p := ⟨Bo, 0, none⟩) (by have := hX.le; simp; omega) _
    have sz1 : (W2.setCell ⟨Bo, 0, none⟩ (.string (mx xb l))).heap.size = W2.heap.size := by simp
    have d1 := hX1.c.fm.cell
    have e0 := hBo1.c0
    have e1 := hBo1.c1
    have e2 := hBo1.c2
    have g1 := fz_of hBo1 1
    have k0 := hX1.o.cell
    dsimp only at e0 e1 e2
    replace hI := hid hI
    replace hX := hid hX
    replace hBo := hid hBo
    by_cases hm : m = ⟨#[]⟩
    · subst hm
      have hct : ct l ⟨#[]⟩ ⟨xb, xe, x3⟩ = ⟨mx xb l, xe, x3⟩ := by unfold ct lim; simp
      cases hlf : Op.bytesLess (mx xb l).toList xe.toList with
      | true =>
        obtain ⟨av, nv, cv, w1, a2, c2, rfl, r1, x1, cl, kk, bb⟩ := hX1.more ⟨xb, xe, x3⟩ _ hct hlf hpl
        have xc := x1.cell
        have xf := x1.frozen
        dsimp only at r1
        rw [sz1] at r1
        clear sz1
        replace r1 := hid r1
        replace cl := hid cl
        replace kk := hid kk
        replace bb := hid bb
        replace hX1 := hid hX1
        replace hBo1 := hid hBo1
        gi_wp2_with (first | (gi_at_builtin; refine wpListIn_append_run rfl (.tmp 29) (.tmp 31) 22 22 rfl (.slice av nv cv) (.slice (some ⟨W2.heap.size, 0, none⟩) 1 1) (.slice a2 (nv + 1) c2) rfl rfl r1.out ?_))
        exact ⟨(hK1.trans kk.out).from _, hB1.trans bb.out, cl.out⟩
      | false =>
        have cl := hid (hX1.skip ⟨xb, xe, x3⟩ (by rw [hct]; exact hlf))
        replace hX1 := hid hX1
        replace hBo1 := hid hBo1
        gi_wp2_with fail
        exact ⟨hK1.from _, hB1, cl.out⟩
    · have hct : ct l m ⟨xb, xe, x3⟩ = ⟨mx xb l, mn xe m, x3⟩ := by unfold ct lim; rw [if_neg hm]
      have hme := empty_no hm
      have hX3 := hX1.set 1 (.string (mn xe m))
      have hBo3 : Bt ((W2.setCell ⟨Bo, 0, none⟩ (.string (mx xb l))).setCell ⟨Bo, 1, none⟩ (.string (mn xe m))) Bo ⟨mx xb l, mn xe m, x3⟩ := bt_set hBo1 rfl
      have hK3 : KeepsOthers W2 ((W2.setCell ⟨Bo, 0, none⟩ (.string (mx xb l))).setCell ⟨Bo, 1, none⟩ (.string (mn xe m))) := hK1.trans (keeps_set hBo1)
      have hB3 : Below n0 W2 ((W2.setCell ⟨Bo, 0, none⟩ (.string (mx xb l))).setCell ⟨Bo, 1, none⟩ (.string (mn xe m))) := hB1.trans ((Below.refl n0 _).setCell (p := ⟨Bo, 1, none⟩) (by have := hX1.le; simp; omega) _)
      have sz3 : ((W2.setCell ⟨Bo, 0, none⟩ (.string (mx xb l))).setCell ⟨Bo, 1, none⟩ (.string (mn xe m))).heap.size = W2.heap.size := by simp
      have e3 := hBo3.c0
      have e4 := hBo3.c1
      have e5 := hBo3.c2
      have k3 := hX3.o.cell
      dsimp only at e3 e4 e5
      clear hm
      cases hlf : Op.bytesLess (mx xb l).toList (mn xe m).toList with
      | true =>
        obtain ⟨av, nv, cv, w1, a2, c2, rfl, r1, x1, cl, kk, bb⟩ := hX3.more ⟨xb, xe, x3⟩ _ hct hlf hpl
        have xc := x1.cell
        have xf := x1.frozen
        dsimp only at r1
        rw [sz3] at r1
        clear sz3
        replace r1 := hid r1
        replace cl := hid cl
        replace kk := hid kk
        replace bb := hid bb
        replace hX1 := hid hX1
        replace hBo1 := hid hBo1
        replace hX3 := hid hX3
        replace hBo3 := hid hBo3
        gi_wp2_with (first | (gi_at_builtin; refine wpListIn_append_run rfl (.tmp 29) (.tmp 31) 22 22 rfl (.slice av nv cv) (.slice (some ⟨W2.heap.size, 0, none⟩) 1 1) (.slice a2 (nv + 1) c2) rfl rfl r1.out ?_))
        exact ⟨(hK3.trans kk.out).from _, hB3.trans bb.out, cl.out⟩
      | false =>
        have cl := hid (hX3.skip ⟨xb, xe, x3⟩ (by rw [hct]; exact hlf))
        replace hX1 := hid hX1
        replace hBo1 := hid hBo1
        replace hX3 := hid hX3
        replace hBo3 := hid hBo3
        gi_wp2_with fail
        exact ⟨hK3.from _, hB3, cl.out⟩
  case done =>
    rintro D l ys W0 W W' hD hI h0W rfl hWW hl hnc hDd
    have hC := (hI.later h0W).kept hWW (fun j e => by cases e; exact ⟨by omega, fun c f => hnc _ _ _⟩)
    obtain ⟨v, o1, o2⟩ := hC.fo
    have c2 := o1.cell
    rw [show ctl _ _ _ = R from hE.out] at o2
    obtain ⟨av, cv, rfl, _⟩ := row_shape o2
    have hb3 : Below n0 w W' := hC.b
    replace o2 := hid o2
    replace hb3 := hid hb3
    replace hDd := hid hDd
    clear hC hI h0W hWW hnc
    gi_wp2_with fail
    refine ⟨by simp, .inl ⟨_, _, rfl, run_takeDeferred hDd.out, ?_⟩⟩
    refine ⟨.slice av R.length cv, ?_, _, rfl, ?_, ?_⟩
    · simp [results, Tryd.results18, go_sem]
    · exact own_base (ownsRow_putObj o2.out _ hDd.out rfl) (by rw [← hn0.out]; omega)
    · rw [← hn0.out]; exact hb3.out.trans (belowK_b' (w := W4) (by omega) _ D _ _ hD hDd.out)
  case stop =>
    rintro D c pre W hD _ hx hDd
    exact hx.elim
theorem cut_any (a : Option Addr) (len cap : Nat) (xs : List T) (l m : ByteArray) (w : World) (H : Tbs w a len cap xs) (hlen : len * 40 ≤ 140737488355328) :
    Calls Tryd.prog 18 #[.slice a len cap, .string l, .string m] w fun e w' => ∃ v, e = .returned v ∧ OwnT w' w.heap.size v (cut xs l m) ∧ Below w.heap.size w w' :=
  callsIn_wide.1 (cut_in a len cap xs l m w H hlen _ rfl)
/-- The same, told as a slice that can be read. -/
theorem cut_tbs (a : Option Addr) (len cap : Nat) (xs : List T) (l m : ByteArray) (w : World) (H : Tbs w a len cap xs) (hlen : len * 40 ≤ 140737488355328) (hl : l.size ≤ maxLen) (hm : m.size ≤ maxLen) :
    Calls Tryd.prog 18 #[.slice a len cap, .string l, .string m] w fun e w' => ∃ ac cc, e = .returned (.slice ac (cut xs l m).length cc) ∧ Tbs w' ac (cut xs l m).length cc (cut xs l m) ∧ OwnT w' w.heap.size (.slice ac (cut xs l m).length cc) (cut xs l m) ∧ Below w.heap.size w w' := by
  refine (cut_any a len cap xs l m w H hlen).mono ?_
  rintro e w' ⟨v, rfl, o, b⟩
  obtain ⟨ac, cc, rfl, ht, _⟩ := o.tbs (cut_ok H.2.2.2.1 hl hm)
  exact ⟨ac, cc, rfl, ht, o, b⟩
end Go.Proofs.YtfmpdalabgfigaaDoor.Cu

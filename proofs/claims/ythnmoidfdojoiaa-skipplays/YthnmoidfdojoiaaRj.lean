/- The document's list: Insert, when it takes one. -/
import Derived.Test.YthnmoidfdojoiaaRi
import Derived.Test.YthnmoidfdojoiaaGn
namespace Go.Proofs.Ythnmoidfdojoiaa.Rj
open Go.ChangeShapes Go.WideShapes Go.ChangeAt Go.RowKit
open Go.Sort (grow)
open Go.Proofs.Ythnmoidfdojoiaa.Ik
open Go.Proofs.Ythnmoidfdojoiaa.Sg
open Go.Proofs.Ythnmoidfdojoiaa.Cm (ik)
open Go.Proofs.Ythnmoidfdojoiaa.Vl
open Go.Proofs.Ythnmoidfdojoiaa.Mm
open Go.Proofs.Ythnmoidfdojoiaa.Tr
open Go.Proofs.Ythnmoidfdojoiaa.Li
open Go.Proofs.Ythnmoidfdojoiaa.In
open Go.Proofs.Ythnmoidfdojoiaa.Oi
open Go.Proofs.Ythnmoidfdojoiaa.Rc
open Go.Proofs.Ythnmoidfdojoiaa.Rl
open Go.Proofs.Ythnmoidfdojoiaa.Rn
open Go.Proofs.Ythnmoidfdojoiaa.Gn (row_grown)
open Go.Proofs.Ythnmoidfdojoiaa.Ri
open Go.Proofs.Ythnmoidfdojoiaa.Fi (first_eq)
set_option linter.unusedVariables false
set_option linter.unusedSimpArgs false
theorem grown_trans {w W W' : World} {row row' : Option Nat} (h : w.grownBy W row) (k : W.grownBy W' row') (hr : ∀ j, row' = some j → row = some j ∨ w.heap.size ≤ j) : w.grownBy W' row :=
  ⟨k.os.trans h.os, k.tape.trans h.tape, k.output.trans h.output, Nat.le_trans h.size k.size, fun j hj hne => (k.block j (Nat.lt_of_lt_of_le hj h.size) (fun e => by
    rcases hr j e.symm with h1 | h1
    · exact hne h1.symm
    · omega)).trans (h.block j hj hne)⟩
theorem grown_below {w W W' : World} {row : Option Nat} (h : w.grownBy W row) (k : Below W.heap.size W W') : w.grownBy W' row := grown_trans (row' := none) h (grown_of k) (fun _ e => by cases e)
theorem grown_set {W : World} {g i : Nat} (v : Value) : W.grownBy (W.setCell ⟨g, i, none⟩ v) (some g) := ⟨rfl, rfl, rfl, by simp, fun q _ hne => set_ne _ _ _ _ _ (fun e => hne (by rw [e]))⟩
theorem row_mono {w : World} {base base' e size : Nat} {v : Value} {n : Nat} {xs : List Value} (h : w.ownsRow base' e size v n xs) (hb : base ≤ base') : w.ownsRow base e size v n xs := by
  refine ⟨h.1, ?_⟩
  rcases h.2 with h1 | ⟨g, cap, cur, e, hb', r⟩
  · exact .inl h1
  · exact .inr ⟨g, cap, cur, e, Nat.le_trans hb hb', r⟩
theorem infoN : (Try.prog.info? 56).map (fun i => (i.zero, i.size, i.bytes)) = some (some (.agg #[.string ⟨#[]⟩, .int .u64 0, .int .i64 0, .string ⟨#[]⟩, .int .i64 0]), 5, 56) := by kernel_rfl
theorem rcs_app (ns : List N) (k : ByteArray) (s c : Int) (x : ByteArray) (h : Nat) : rcs (ns ++ [⟨k, s, c, .string x, h⟩]) = rcs ns ++ [.string k, .int .u64 s, .int .i64 c, .string x, .int .i64 (h : Int)] := by simp [rcs]
/-- One node put behind a row of them. -/
theorem app_node (w : World) (base : Nat) (v : Value) (ns : List N) (k : ByteArray) (s c : Int) (x : ByteArray) (h : Nat) (H : OwnN w base v ns) (hn : (ns.length + 1) * 56 ≤ 140737488355328) (hbase : base ≤ w.heap.size) :
    ∃ v' w', (Builtin.append_ #[27, 27] 27 #[v, .slice (some ⟨w.heap.size, 0, none⟩) 1 1]).run Try.prog (w.alloc (.cells #[.string k, .int .u64 s, .int .i64 c, .string x, .int .i64 (h : Int)] 56)) = .ok v' w' ∧ OwnN w' base v' (ns ++ [⟨k, s, c, .string x, h⟩]) ∧ w.grownBy w' v.ownBlock := by
  obtain ⟨i0, hi, hz0, hz1, hz2⟩ := info_parts infoN
  have b1 := box_below w (.cells #[.string k, .int .u64 s, .int .i64 c, .string x, .int .i64 (h : Int)] 56)
  have H2 := row_later H b1
  have n4 := new_at w (.cells #[.string k, .int .u64 s, .int .i64 c, .string x, .int .i64 (h : Int)] 56)
  obtain ⟨v5, W5, r5, o5, g5, _⟩ := run_append_own (P := Try.prog) (w.alloc (.cells #[.string k, .int .u64 s, .int .i64 c, .string x, .int .i64 (h : Int)] 56)) base 27 27 56 i0 _ 5 56 Try.underlying27 hi hz0 hz1 hz2 rfl (by decide) v ns.length _ H2 ⟨w.heap.size, 0, none⟩ 1 1 [.string k, .int .u64 s, .int .i64 c, .string x, .int .i64 (h : Int)] rfl (by
    intro q u hq
    rw [show (⟨w.heap.size, 0, none⟩ : Addr).add q = ⟨w.heap.size, q, none⟩ by unfold Addr.add; split <;> simp_all]
    exact cell_of n4 q u (by simpa using hq)) (by intro u hu; simp at hu; rcases hu with rfl | rfl | rfl | rfl | rfl <;> rfl) (by unfold maxLen; omega) (by omega) (by rw [size_alloc]; omega)
  refine ⟨v5, W5, r5, ?_, ?_⟩
  · unfold OwnN
    rw [List.length_append, rcs_app]
    exact o5
  · exact ⟨g5.os.trans b1.os, g5.tape.trans b1.tape, g5.output.trans b1.output, Nat.le_trans b1.size g5.size, fun k hk hne => (g5.block k (Nat.lt_of_lt_of_le hk b1.size) hne).trans (b1.block k hk)⟩
/-- Some numbers of a row put behind another: what stands behind the first of u. -/
theorem app_ints (w : World) (base : Nat) (v : Value) (xs : List Int) (u : Value) (m : Nat) (ys : List Int) (H : OwnZ w base v xs) (hu : (u = .slice none 0 0 ∧ m = 0 ∧ ys = []) ∨ ∃ a c, u = .slice (some a) m c ∧ ys.length = m ∧ ∀ j y, ys[j]? = some y → w.cell? (a.add j) = some (.int .i64 y)) (hv : v ≠ .slice none 0 0) (hn : (xs.length + m) * 8 ≤ 140737488355328) (hbase : base ≤ w.heap.size) :
    ∃ v' w', (Builtin.append_ #[28, 28] 28 #[v, u]).run Try.prog w = .ok v' w' ∧ OwnZ w' base v' (xs ++ ys) ∧ w.grownBy w' v.ownBlock ∧ v' ≠ .slice none 0 0 := by
  obtain ⟨i0, hi, hz0, hz1, hz2⟩ := info_parts infoI
  rcases hu with ⟨rfl, rfl, rfl⟩ | ⟨a, c, rfl, hl, hc⟩
  · rcases H.2 with ⟨e, _⟩ | ⟨g, cap, cur, e, hb, hg, hn', hm, hs, ht⟩
    · exact absurd e hv
    · subst e
      refine ⟨_, _, run_append_room_src (P := Try.prog) w 28 28 28 3 i0 Try.underlying28 hi g 0 _ cap _ 0 [] (Src.ofNil w Try.underlying28 0) (by omega) (by simp) (by simp), ?_, ?_, ?_⟩
      · simp only [List.append_nil, Nat.add_zero]
        exact H
      · exact ⟨rfl, rfl, rfl, Nat.le_refl _, fun _ _ _ => rfl⟩
      · simp
  · obtain ⟨v5, W5, r5, o5, g5, h5⟩ := run_append_own (P := Try.prog) w base 28 28 3 i0 (.int .i64 0) 1 8 Try.underlying28 hi hz0 hz1 hz2 rfl (by decide) v xs.length _ H a m c (ys.map fun y => .int .i64 y) (by simp [hl]) (by
      intro j u hu
      rw [List.getElem?_map] at hu
      cases hy : ys[j]? with
      | none => rw [hy] at hu; cases hu
      | some y => rw [hy] at hu; cases hu; exact hc j y hy) (by intro u hu; obtain ⟨y, _, rfl⟩ := List.mem_map.1 hu; rfl) (by unfold maxLen; omega) (by omega) hbase
    refine ⟨v5, W5, r5, ?_, g5, fun e => hv (h5.1 e).1⟩
    unfold OwnZ
    rw [List.length_append, List.map_append, hl]
    exact o5
/-- What stands while the new order is laid. -/
structure Mid (w : World) (base gk gr n8 most : Nat) (row : Option Nat) (a6 ao : Option Addr) (c6 co : Nat) (ms : List N) (ord : List Nat) (W : World) : Prop where
  r : RB W gk most a6 ao c6 co ms.length ord.length
  z : W.heap[gr]? = some (.cells #[.int .i64 0, .slice none 0 0, .slice none 0 0] 30)
  o : OwnZ W base (.slice ao ord.length co) (zi ord)
  n : OwnN W base (.slice a6 ms.length c6) ms
  f : w.grownBy W row
  s : n8 ≤ W.heap.size
  lk : gk < n8
  lr : gr < n8
  lo : ∀ j, (Value.slice ao ord.length co).ownBlock = some j → j < n8
  ln : ∀ j, (Value.slice a6 ms.length c6).ownBlock = some j → j < n8
  lw : w.heap.size ≤ n8
theorem Mid.step {w : World} {base gk gr n8 most : Nat} {row : Option Nat} {a6 ao : Option Addr} {c6 co : Nat} {ms : List N} {ord : List Nat} {W W' : World} {row' : Option Nat} (h : Mid w base gk gr n8 most row a6 ao c6 co ms ord W) (k : W.grownBy W' row') (hr : ∀ j, row' = some j → n8 ≤ j) : Mid w base gk gr n8 most row a6 ao c6 co ms ord W' :=
  have hs := h.s
  have ne : ∀ j, j < n8 → some j ≠ row' := fun j hj e => by have := hr j e.symm; omega
  have kr : ∀ {e size n : Nat} {v : Value} {xs : List Value}, W.ownsRow base e size v n xs → (∀ j, v.ownBlock = some j → j < n8) → W'.ownsRow base e size v n xs := fun {e size n v xs} ho hl => by
    by_cases hv : v.ownBlock = none
    · exact World.ownsRow.kept ho k (.inl hv)
    · refine World.ownsRow.kept ho k (.inr fun e => ?_)
      cases hb : v.ownBlock with
      | none => exact hv hb
      | some j => exact ne j (hl j hb) (hb ▸ e)
  ⟨(k.block gk (by have := h.lk; omega) (ne _ h.lk)).trans h.r, (k.block gr (by have := h.lr; omega) (ne _ h.lr)).trans h.z, kr h.o h.lo, kr h.n h.ln, grown_trans h.f k (fun j e => .inr (Nat.le_trans h.lw (hr j e))), Nat.le_trans h.s k.size, h.lk, h.lr, h.lo, h.ln, h.lw⟩
theorem zi_take (l : List Nat) (n : Nat) : zi (l.take n) = (zi l).take n := by simp [zi, List.map_take]
theorem zi_drop (l : List Nat) (n : Nat) : zi (l.drop n) = (zi l).drop n := by simp [zi, List.map_drop]
theorem ord_laid {ns : List N} {ord : List Nat} (G : Gd ns ord) (k : IK) (m : Nat) : ord.take (plc ns ord k) ++ [m] ++ ord.drop (plc ns ord k) = ordI ns ord k m := by
  have e := ord_split G k
  unfold ordI plc
  have h1 : ord.take (ord.filter (below ns k)).length = ord.filter (below ns k) := by
    conv => lhs; arg 2; rw [e]
    exact List.take_left' rfl
  have h2 : ord.drop (ord.filter (below ns k)).length = ord.filter (fun n => !below ns k n) := by
    conv => lhs; arg 2; rw [e]
    exact List.drop_left' rfl
  rw [h1, h2]
  simp
/-- The order's beginning and its rest, as slices. -/
theorem slices {W0 : World} {base : Nat} {ao : Option Addr} {co : Nat} {ord : List Nat} (P : Nat) (O : OwnZ W0 base (.slice ao ord.length co) (zi ord)) (hP : P ≤ ord.length) :
    ∃ u1 u2, (∀ W : World, (Instr.slice 28 (.slice ao ord.length co) none (some (.int .i64 (P : Int))) none).run Try.prog W = .ok u1 W) ∧ (∀ W : World, (Instr.slice 28 (.slice ao ord.length co) (some (.int .i64 (P : Int))) none none).run Try.prog W = .ok u2 W) ∧
      (∀ W : World, OwnZ W base (.slice ao ord.length co) (zi ord) → ((u1 = .slice none 0 0 ∧ P = 0 ∧ zi (ord.take P) = []) ∨ ∃ a c, u1 = .slice (some a) P c ∧ (zi (ord.take P)).length = P ∧ ∀ j y, (zi (ord.take P))[j]? = some y → W.cell? (a.add j) = some (.int .i64 y)) ∧
        ((u2 = .slice none 0 0 ∧ ord.length - P = 0 ∧ zi (ord.drop P) = []) ∨ ∃ a c, u2 = .slice (some a) (ord.length - P) c ∧ (zi (ord.drop P)).length = ord.length - P ∧ ∀ j y, (zi (ord.drop P))[j]? = some y → W.cell? (a.add j) = some (.int .i64 y))) := by
  rcases O.2 with ⟨e, h0⟩ | ⟨g, cap, cur, e, hb, hg, hn, hm, hs, ht⟩
  · simp only [Value.slice.injEq] at e
    obtain ⟨rfl, e1, rfl⟩ := e
    rw [zi_len] at h0
    have e2 : ord = [] := List.eq_nil_of_length_eq_zero h0
    subst e2
    have e3 : P = 0 := by simpa using hP
    subst e3
    refine ⟨.slice none 0 0, .slice none 0 0, fun W => ?_, fun W => ?_, fun W _ => ⟨.inl ⟨rfl, rfl, rfl⟩, .inl ⟨rfl, rfl, rfl⟩⟩⟩
    · simp [go_sem]
    · simp [go_sem]
  · simp only [Value.slice.injEq] at e
    obtain ⟨rfl, e1, rfl⟩ := e
    rw [zi_len] at hn
    have i1 : (P : Int) ≤ (ord.length : Int) := by omega
    have i2 : (P : Int) ≤ (co : Int) := by omega
    have i3 : (ord.length : Int) ≤ (co : Int) := by omega
    have i4 : ord.length ≤ co := hn
    have i5 : P ≤ co := by omega
    refine ⟨.slice (some ⟨g, 0, none⟩) P co, .slice (some ⟨g, if co = P then 0 else P, none⟩) (ord.length - P) (co - P), fun W => ?_, fun W => ?_, fun W hW => ⟨.inr ⟨⟨g, 0, none⟩, co, rfl, by rw [zi_len, List.length_take]; omega, ?_⟩, .inr ⟨⟨g, if co = P then 0 else P, none⟩, co - P, rfl, by rw [zi_len, List.length_drop], ?_⟩⟩⟩
    · simp [go_sem, i1, i2, i3, i4, i5, hP]
    · by_cases hcp : co = P
      · rw [if_pos hcp]; simp [go_sem, i1, i2, i3, i4, i5, hP, hcp]
      · rw [if_neg hcp]; simp [go_sem, i1, i2, i3, i4, i5, hP, hcp]
    · intro j y hj
      have hj2 := (List.getElem?_eq_some_iff.1 hj).1
      rw [zi_len, List.length_take] at hj2
      rw [show (⟨g, 0, none⟩ : Addr).add j = ⟨g, j, none⟩ by unfold Addr.add; split <;> simp_all, hW.cell j (by rw [zi_len]; omega)]
      rw [zi_take, List.getElem?_take_of_lt (by omega)] at hj
      rw [List.getD_eq_getElem?_getD, hj]
      rfl
    · intro j y hj
      have hj2 := (List.getElem?_eq_some_iff.1 hj).1
      rw [zi_len, List.length_drop] at hj2
      rw [if_neg (by omega)]
      rw [show (⟨g, P, none⟩ : Addr).add j = ⟨g, P + j, none⟩ by unfold Addr.add; split <;> simp_all, hW.cell (P + j) (by rw [zi_len]; omega)]
      rw [zi_drop, List.getElem?_drop] at hj
      rw [List.getD_eq_getElem?_getD, hj]
      rfl
set_option maxHeartbeats 2000000 in
set_option maxRecDepth 100000 in
theorem rins_ok (base most : Nat) (an ao : Option Addr) (cn co : Nat) (ns : List N) (ord : List Nat) (k : ByteArray) (s c : Int) (x : ByteArray) (h : Int) (w : World) (H : RL w base an ao cn co ns ord) (hl : ns.length ≤ 1048576) (hbase : base ≤ w.heap.size) (hk : k.size ≤ maxLen) (hv1 : vld k s c = true) (hh : 1 ≤ h ∧ h ≤ 12) (hth : thr ns ord (ik k s c) = false) (hfull : ns.length < most) :
    Calls Try.prog 15 #[.agg #[.int .i64 (most : Int), .slice an ns.length cn, .slice ao ord.length co], .agg #[.string k, .int .u64 s, .int .i64 c], .string x, .int .i64 h] w fun e w' => ∃ an' ao' cn' co', e = .returned (.tuple #[.agg #[.int .i64 (most : Int), .slice an' (ns.length + 1) cn', .slice ao' (ord.length + 1) co'], .int .i64 0]) ∧ RL w' base an' ao' cn' co' (ns ++ [⟨k, s, c, .string x, h.toNat⟩]) (ordI ns ord (ik k s c) (ns.length + 1)) ∧ w.grownBy w' (Value.slice an ns.length cn).ownBlock := by
  obtain ⟨gk, hgk⟩ : ∃ gk, gk = w.heap.size := ⟨_, rfl⟩
  obtain ⟨gr, hgr⟩ : ∃ gr, gr = gk + 2 := ⟨_, rfl⟩
  obtain ⟨w2, hw2⟩ : ∃ w2, w2 = (w.alloc (.cells #[.int .i64 (most : Int), .slice an ns.length cn, .slice ao ord.length co] 30)).alloc (.cells #[.string k, .int .u64 s, .int .i64 c] 36) := ⟨_, rfl⟩
  obtain ⟨B2, R2, K2⟩ := boxR _ _ w w2 hw2
  have s2 : w2.heap.size = gk + 2 := by rw [hw2, size_alloc, size_alloc, hgk]
  obtain ⟨W0, hW0⟩ : ∃ W0, W0 = w2.alloc (.cells #[.int .i64 0, .slice none 0 0, .slice none 0 0] 30) := ⟨_, rfl⟩
  have b3 : Below w2.heap.size w2 W0 := by rw [hW0]; exact box_below _ _
  have B0 := B2.trans (b3.mono B2.size)
  rw [← hgk] at R2 K2
  have R0 : RB W0 gk most an ao cn co ns.length ord.length := (b3.block _ (by omega)).trans R2
  have K0 : Bx W0 (gk + 1) k s c := (b3.block _ (by omega)).trans K2
  have Z0 : W0.heap[gr]? = some (.cells #[.int .i64 0, .slice none 0 0, .slice none 0 0] 30) := by rw [hgr, ← s2, hW0]; exact new_at _ _
  rw [hw2] at hW0
  have H0 := H.later B0
  have hol := H.G.len
  clear b3 R2 K2 s2 hw2 B2
  have HV := hid (rvalid_any k s c W0 hk)
  rw [hv1] at HV
  have k0 := K0.c0
  have k1 := K0.c1
  have k2 := K0.c2
  replace hgk := hid hgk
  replace hgr := hid hgr
  replace hW0 := hid hW0
  replace B0 := hid B0
  replace R0 := hid R0
  replace K0 := hid K0
  replace Z0 := hid Z0
  replace H0 := hid H0
  replace hol := hid hol
  clear H
  go_enter Try.func15, Try.ntmps15
  go_wp2_with fail
  rw [← hW0.out]
  rw [← hgk.out]
  rw [← hgr.out]
  go_wp2_with fail
  refine HV.out.mono ?_
  rintro e w3 ⟨rfl, b3⟩
  replace B0 := hid (B0.out.trans (b3.mono B0.out.size))
  replace R0 := hid (R0.out.later b3)
  replace K0 := hid (K0.out.later b3)
  replace H0 := hid (H0.out.later b3)
  replace Z0 : Hid (w3.heap[gr]? = some (.cells #[.int .i64 0, .slice none 0 0, .slice none 0 0] 30)) := (b3.block gr (blk_lt Z0.out)).trans Z0.out
  clear b3 HV hW0 k0 k1 k2
  have HF := rfind_any base most an ao cn co ns ord k s c w3 H0.out hl
  rw [hth, if_neg (by simp)] at HF
  replace HF := hid HF
  have e0 := R0.out.c0
  have e1 := R0.out.c1
  have e2 := R0.out.c2
  have k0 := K0.out.c0
  have k1 := K0.out.c1
  have k2 := K0.out.c2
  have i1 : ¬ h < 1 := by omega
  have i2 : ¬ 12 < h := by omega
  go_wp2_with fail
  refine HF.out.mono ?_
  rintro e w4 ⟨rfl, b3⟩
  replace B0 := hid (B0.out.trans (b3.mono B0.out.size))
  replace R0 := hid (R0.out.later b3)
  replace K0 := hid (K0.out.later b3)
  replace H0 := hid (H0.out.later b3)
  replace Z0 : Hid (w4.heap[gr]? = some (.cells #[.int .i64 0, .slice none 0 0, .slice none 0 0] 30)) := (b3.block gr (blk_lt Z0.out)).trans Z0.out
  clear b3 HF e0 e1 e2 k0 k1 k2
  have hf1 : ¬ (most : Int) ≤ (ns.length : Int) := by omega
  have hf2 : ¬ most ≤ ns.length := by omega
  have e0 := R0.out.c0
  have e1 := R0.out.c1
  have e2 := R0.out.c2
  have k0 := K0.out.c0
  have k1 := K0.out.c1
  have k2 := K0.out.c2
  have HP := hid (place_any base most an ao cn co ns ord k s c w4 H0.out hl)
  have hpl := plc_le ns ord (ik k s c)
  obtain ⟨P, hP⟩ : ∃ P, P = plc ns ord (ik k s c) := ⟨_, rfl⟩
  rw [← hP] at HP hpl
  replace hP := hid hP
  go_wp2_with fail
  refine HP.out.mono ?_
  rintro e w5 ⟨rfl, b3⟩
  replace B0 := hid (B0.out.trans (b3.mono B0.out.size))
  replace R0 := hid (R0.out.later b3)
  replace K0 := hid (K0.out.later b3)
  replace H0 := hid (H0.out.later b3)
  replace Z0 : Hid (w5.heap[gr]? = some (.cells #[.int .i64 0, .slice none 0 0, .slice none 0 0] 30)) := (b3.block gr (blk_lt Z0.out)).trans Z0.out
  clear b3 HP e0 e1 e2 k0 k1 k2
  have e1 := R0.out.c1
  have k0 := K0.out.c0
  have k1 := K0.out.c1
  have k2 := K0.out.c2
  obtain ⟨hN, rfl⟩ : ∃ hN : Nat, h = hN := ⟨h.toNat, by omega⟩
  obtain ⟨v6, W6, r6, o6, g6⟩ := app_node w5 base _ ns k s c x hN H0.out.n (by omega) (Nat.le_trans hbase B0.out.size)
  obtain ⟨a6, c6, hv6, _⟩ := row_shape o6
  rw [show (ns ++ [(⟨k, s, c, .string x, hN⟩ : N)]).length = ns.length + 1 by simp] at hv6
  subst hv6
  have hng : ∀ j, (Value.slice an ns.length cn).ownBlock = some j → ∃ c t f, w5.heap[j]? = some (.cells c t f) ∧ t ≠ 30 ∧ t ≠ 3 := fun j hj => by
    obtain ⟨c', f', h3⟩ := row_blk H0.out.n j hj
    exact ⟨c', _, f', h3, by decide, by decide⟩
  have R6 : RB W6 gk most an ao cn co ns.length ord.length := (g6.block gk (blk_lt R0.out) (fun e => by obtain ⟨c', t', f', h3, h4, _⟩ := hng gk e.symm; rw [show w5.heap[gk]? = _ from R0.out] at h3; simp at h3; exact h4 h3.2.1.symm)).trans R0.out
  have Z6 : W6.heap[gr]? = some (.cells #[.int .i64 0, .slice none 0 0, .slice none 0 0] 30) := (g6.block gr (blk_lt Z0.out) (fun e => by obtain ⟨c', t', f', h3, h4, _⟩ := hng gr e.symm; rw [Z0.out] at h3; simp at h3; exact h4 h3.2.1.symm)).trans Z0.out
  have O6 : OwnZ W6 base (.slice ao ord.length co) (zi ord) := row_grown H0.out.o g6 (fun q e c f hh => by obtain ⟨c', t', f', h3, _, h5⟩ := hng q e; rw [h3] at hh; simp at hh; exact h5 hh.2.1)
  have F6 : w.grownBy W6 (Value.slice an ns.length cn).ownBlock := grown_trans (grown_below ⟨rfl, rfl, rfl, Nat.le_refl _, fun _ _ _ => rfl⟩ B0.out) g6 (fun j e => .inl e)
  have x1 := R6.c1
  have f1 := fz_of R6 1
  replace r6 := hid r6
  replace o6 := hid o6
  replace g6 := hid g6
  replace R6 := hid R6
  replace Z6 := hid Z6
  replace O6 := hid O6
  replace F6 := hid F6
  obtain ⟨W7, hW7⟩ : ∃ W7, W7 = W6.setCell ⟨gk, 1, none⟩ (.slice a6 (ns.length + 1) c6) := ⟨_, rfl⟩
  obtain ⟨n8, hn8⟩ : ∃ n8, n8 = W7.heap.size := ⟨_, rfl⟩
  obtain ⟨W8, hW8⟩ : ∃ W8, W8 = W7.alloc (.cells #[] 3) := ⟨_, rfl⟩
  have hs7 : W7.heap.size = W6.heap.size := by rw [hW7]; simp
  obtain ⟨ms, hms⟩ : ∃ ms, ms = ns ++ [(⟨k, s, c, .string x, hN⟩ : N)] := ⟨_, rfl⟩
  have hml : ms.length = ns.length + 1 := by rw [hms]; simp
  have hgw : ∀ j, (Value.slice an ns.length cn).ownBlock = some j → j ≠ gk := fun j e1 e2 => by
    obtain ⟨c', t', f', h3, h4, _⟩ := hng j e1
    rw [e2, show w5.heap[gk]? = _ from R0.out] at h3; simp at h3; exact h4 h3.2.1.symm
  have M7 : Mid w base gk gr n8 most (Value.slice an ns.length cn).ownBlock a6 ao c6 co ms ord W7 := by
    have gs : W6.grownBy W7 (some gk) := by rw [hW7]; exact grown_set _
    refine ⟨?_, ?_, ?_, ?_, ?_, by omega, ?_, ?_, ?_, ?_, ?_⟩
    · rw [hml, hW7]; unfold RB; rw [set_of R6.out]; rfl
    · rw [hW7]; exact (set_ne _ _ _ _ _ (by rw [hgr.out]; omega)).trans Z6.out
    · exact row_grown O6.out gs (fun q e c f hh => by cases e; rw [show W6.heap[gk]? = _ from R6.out] at hh; simp at hh)
    · exact row_grown (show W6.ownsRow base _ 5 (.slice a6 ms.length c6) ms.length (rcs ms) from (by rw [hml, hms]; exact o6.out : OwnN W6 base (.slice a6 ms.length c6) ms)) gs (fun q e c f hh => by cases e; rw [show W6.heap[gk]? = _ from R6.out] at hh; simp at hh)
    · exact grown_trans F6.out gs (fun j e => .inr (by cases e; rw [hgk.out]; omega))
    · have := blk_lt R6.out; omega
    · have := blk_lt Z6.out; omega
    · intro j e; have := (World.ownsRow.lt O6.out j e).2; omega
    · intro j e
      rw [hml] at e
      have := (World.ownsRow.lt o6.out j e).2; omega
    · have := F6.out.size; omega
  have M8 : Mid w base gk gr n8 most (Value.slice an ns.length cn).ownBlock a6 ao c6 co ms ord W8 := M7.step (row' := none) (by rw [hW8]; exact grown_of (box_below _ _)) (fun _ e => by cases e)
  have E8 : OwnZ W8 n8 (.slice (some ⟨n8, 0, none⟩) 0 0) [] := by rw [hW8, hn8]; exact World.ownsRow_made W7 #[] 0 (Nat.le_refl _) (by decide) rfl
  have hG := H0.out.G
  have hP2 := hP.out
  obtain ⟨u1, u2, su1, su2, hu⟩ := slices P O6.out hpl
  have hol2 := hol.out
  obtain ⟨v9, W9, r9, o9, g9, nn9⟩ := app_ints W8 n8 _ [] u1 P (zi (ord.take P)) E8 (hu W8 M8.o).1 (by simp) (by simp; omega) M8.s
  have M9 := M8.step g9 (fun j e => by cases e; exact Nat.le_refl _)
  have q9 : ∀ j, v9.ownBlock = some j → n8 ≤ j := fun j e => (World.ownsRow.lt o9 j e).1
  have l9 : ([] ++ zi (ord.take P)).length = P := by rw [List.nil_append, zi_len, List.length_take]; omega
  obtain ⟨v10, W10, r10, o10, g10⟩ := app_int W9 n8 v9 _ ((ns.length + 1 : Nat) : Int) o9 (by rw [l9]; omega) M9.s
  have M10 := M9.step g10 q9
  have q10 : ∀ j, v10.ownBlock = some j → n8 ≤ j := fun j e => (World.ownsRow.lt o10 j e).1
  have nn10 : v10 ≠ .slice none 0 0 := fun e => by
    have h1 := o10.1
    rcases o10.2 with ⟨_, h2⟩ | ⟨g, cap, cur, e2, _⟩
    · simp at h2
    · rw [e] at e2; simp at e2
  have l10 : ([] ++ zi (ord.take P) ++ [((ns.length + 1 : Nat) : Int)]).length = P + 1 := by rw [List.length_append, l9]; rfl
  obtain ⟨v11, W11, r11, o11, g11, nn11⟩ := app_ints W10 n8 v10 _ u2 (ord.length - P) (zi (ord.drop P)) o10 (hu W10 M10.o).2 nn10 (by rw [l10]; omega) M10.s
  have M11 := M10.step g11 q10
  have eo : [] ++ zi (ord.take P) ++ [((ns.length + 1 : Nat) : Int)] ++ zi (ord.drop P) = zi (ordI ns ord (ik k s c) (ns.length + 1)) := by
    rw [← ord_laid hG, ← hP2]
    simp [zi]
  have el : (ordI ns ord (ik k s c) (ns.length + 1)).length = ord.length + 1 := by rw [← ord_laid hG, ← hP2]; simp; omega
  rw [eo] at o11
  obtain ⟨a11, c11, hv11, _⟩ := row_shape o11
  rw [zi_len, el] at hv11
  subst hv11
  have GI : Gd ms (ordI ns ord (ik k s c) (ns.length + 1)) := by
    rw [hms]
    exact hG.ins (⟨k, s, c, .string x, hN⟩ : N) ⟨by show 1 ≤ hN; omega, by show hN ≤ 12; omega⟩ (no_there hG _ hth)
  obtain ⟨W12, hW12⟩ : ∃ W12, W12 = W11.setCell ⟨gk, 2, none⟩ (.slice a11 (ord.length + 1) c11) := ⟨_, rfl⟩
  have gs12 : W11.grownBy W12 (some gk) := by rw [hW12]; exact grown_set _
  have R11 : RB W11 gk most a6 ao c6 co (ns.length + 1) ord.length := hml ▸ M11.r
  have R12 : RB W12 gk most a6 a11 c6 c11 (ns.length + 1) (ord.length + 1) := by rw [hW12]; unfold RB; rw [set_of R11]; rfl
  have Z12 : W12.heap[gr]? = some (.cells #[.int .i64 0, .slice none 0 0, .slice none 0 0] 30) := by rw [hW12]; exact (set_ne _ _ _ _ _ (by rw [hgr.out]; omega)).trans M11.z
  have hgk11 : ∀ c f, W11.heap[gk]? ≠ some (.cells c 3 f) ∧ W11.heap[gk]? ≠ some (.cells c 56 f) := fun c f => by
    rw [show W11.heap[gk]? = _ from R11]; exact ⟨by simp, by simp⟩
  have N12 : OwnN W12 base (.slice a6 ms.length c6) ms := row_grown M11.n gs12 (fun q e c f => by cases e; exact (hgk11 c f).2)
  have O12 : OwnZ W12 base (.slice a11 (ord.length + 1) c11) (zi (ordI ns ord (ik k s c) (ns.length + 1))) := row_mono (row_grown o11 gs12 (fun q e c f => by cases e; exact (hgk11 c f).1)) (by have := M11.lw; omega)
  have F12 : w.grownBy W12 (Value.slice an ns.length cn).ownBlock := grown_trans M11.f gs12 (fun j e => .inr (by cases e; rw [hgk.out]; omega))
  obtain ⟨WF, hWF⟩ : ∃ WF, WF = ((W12.setCell ⟨gr, 0, none⟩ (.int .i64 (most : Int))).setCell ⟨gr, 1, none⟩ (.slice a6 (ns.length + 1) c6)).setCell ⟨gr, 2, none⟩ (.slice a11 (ord.length + 1) c11) := ⟨_, rfl⟩
  have KF : WF.heap[gr]? = some (.cells #[.int .i64 (most : Int), .slice a6 (ns.length + 1) c6, .slice a11 (ord.length + 1) c11] 30) := by rw [hWF]; exact set3 _ _ _ Z12
  have gsF : W12.grownBy WF (some gr) := by rw [hWF]; exact grown_trans (grown_trans (grown_set _) (grown_set _) (fun _ e => .inl e)) (grown_set _) (fun _ e => .inl e)
  have hgrF : ∀ c f, W12.heap[gr]? ≠ some (.cells c 3 f) ∧ W12.heap[gr]? ≠ some (.cells c 56 f) := fun c f => by
    rw [Z12]; exact ⟨by simp, by simp⟩
  have NF : OwnN WF base (.slice a6 ms.length c6) ms := row_grown N12 gsF (fun q e c f => by cases e; exact (hgrF c f).2)
  have OF : OwnZ WF base (.slice a11 (ord.length + 1) c11) (zi (ordI ns ord (ik k s c) (ns.length + 1))) := row_grown O12 gsF (fun q e c f => by cases e; exact (hgrF c f).1)
  have FF : w.grownBy WF (Value.slice an ns.length cn).ownBlock := grown_trans F12 gsF (fun j e => .inr (by cases e; rw [hgr.out, hgk.out]; omega))
  have END : Hid (∀ WE, Below WF.heap.size WF WE → RL WE base a6 a11 c6 c11 (ns ++ [⟨k, s, c, .string x, ((hN : Int)).toNat⟩]) (ordI ns ord (ik k s c) (ns.length + 1)) ∧ w.grownBy WE (Value.slice an ns.length cn).ownBlock) := fun WE hb => by
    refine ⟨RL.later ⟨?_, ?_, ?_⟩ hb, grown_below FF hb⟩
    · rw [Int.toNat_natCast, ← hms]; exact NF
    · rw [el]; exact OF
    · rw [Int.toNat_natCast, ← hms]; exact GI
  have y2 := M8.r.c2
  have p1 := (hml ▸ M9.r : RB W9 gk most a6 ao c6 co (ns.length + 1) ord.length).c1
  have p2 := (hml ▸ M10.r : RB W10 gk most a6 ao c6 co (ns.length + 1) ord.length).c2
  have p3 := R11.c2
  have p4 := fz_of R11 2
  have t0 := R12.c0
  have t1 := R12.c1
  have t2 := R12.c2
  have f5 := fz_of Z12 0
  have f6 := fz_of Z12 1
  have f7 := fz_of Z12 2
  have z0 := cell_of Z12 0 (.int .i64 0) rfl
  have z1 := cell_of Z12 1 (.slice none 0 0) rfl
  have z2 := cell_of Z12 2 (.slice none 0 0) rfl
  obtain ⟨mL, hmL⟩ : ∃ mL, mL = ns.length + 1 := ⟨_, rfl⟩
  rw [← hmL] at hW7 hWF r6 r10 p1 t1 KF
  have y1 := R6.out.c2
  have hn9 : n8 = W6.heap.size := by omega
  rw [hW8, hW7] at y2 r9
  rw [hn9] at r9
  rw [hW12] at t0 t1 t2 f5 f6 f7 z0 z1 z2 hWF
  have xx0 := cell_of KF 0 (.int .i64 (most : Int)) rfl
  have xx1 := cell_of KF 1 (.slice a6 mL c6) rfl
  have xx2 := cell_of KF 2 (.slice a11 (ord.length + 1) c11) rfl
  replace r9 := hid r9
  replace r10 := hid r10
  replace r11 := hid r11
  replace hWF := hid hWF
  replace hmL := hid hmL
  replace hn8 := hid hn8
  replace hn9 := hid hn9
  have hmL2 : mL ≤ 1048577 := by have := hmL.out; omega
  clear gsF hgrF NF OF FF F12 O12 N12 hgk11 Z12 R12 R11 gs12 GI el eo o11 g11 nn11 M11 l10 nn10 q10 M10 o10 g10 l9 q9 M9 o9 g9 nn9 hol2 hu hP2 hG E8 M8 M7 hgw hml hms hng F6 O6 Z6 R6 g6 o6 hs7 hW8 hW7 KF hW12 Z0 H0 K0 R0 B0 hth hfull


  go_wp2_with (first | (at_builtin; refine wpList_append_run rfl _ _ _ _ rfl _ _ _ rfl rfl r6.out ?_) | (at_builtin; refine wpList_append_run rfl _ _ _ _ rfl _ _ _ rfl rfl r9.out ?_) | (at_builtin; refine wpList_append_run rfl _ _ _ _ rfl _ _ _ rfl rfl r10.out ?_) | (at_builtin; refine wpList_append_run rfl _ _ _ _ rfl _ _ _ rfl rfl r11.out ?_))
  rw [← hWF.out]
  refine bodyPost_ret (v := .tuple #[.agg #[.int .i64 (most : Int), .slice a6 mL c6, .slice a11 (ord.length + 1) c11], .int .i64 0]) (by simp [results, Try.results15, go_sem, xx0, xx1, xx2]) rfl ⟨a6, a11, c6, c11, by rw [hmL.out], END.out _ ?_⟩
  first | exact Below.refl _ _ | exact (Below.refl _ _).drew
end Go.Proofs.Ythnmoidfdojoiaa.Rj

/- takeEntry where an entry's bytes stand. -/
import Derived.Test.YtkanjbeijoeenaaRh
namespace Go.Proofs.Ytkanjbeijoeenaa.Te
open Go.ChangeShapes Go.WideShapes Go.ChangeAt Go.RowKit
open Go.Sort (grow)
open Go.Proofs.Ytkanjbeijoeenaa.By
open Go.Proofs.Ytkanjbeijoeenaa.Bl
open Go.Proofs.Ytkanjbeijoeenaa.Bm
open Go.Proofs.Ytkanjbeijoeenaa.Rg
open Go.Proofs.Ytkanjbeijoeenaa.En (vld decB dv decode_yes enc_dec tx_str)
open Go.Proofs.Ytkanjbeijoeenaa.Mr (str_tx)
open Go.Proofs.Ytkanjbeijoeenaa.Ik
open Go.Proofs.Ytkanjbeijoeenaa.Cm (ik)
open Go.Proofs.Ytkanjbeijoeenaa.Mb (hid box_below blk_lt new_at size_alloc cell_of fz_of set_of set_ne Fp own_blocks own_lt E ze At4 Ents OwnE OwnE.ents drew_below drewN_below region_tail compare_below app_entry)
set_option linter.unusedVariables false
set_option linter.unusedSimpArgs false

theorem wp_append_run {P : Program} {w w' : World} {o : Oper} {a : Act} {K : Act → World → Prop} {Q : Exit → Act → World → Prop} (s x : Operand) (t tx : TypeId) (hop : o.op = Op.call { callee := Callee.builtin Builtin.append, args := #[s, x], argTypes := #[t, tx] })
    (u v v' : Value) (hs : a.eval s = u) (hx : a.eval x = v) (hrun : (Builtin.append_ #[t, tx] o.type #[u, v]).run P w = .ok v' w') (hK : K (a.put o.dst v') w') : o.wp P a w K Q := by
  unfold Oper.wp
  simp [execOp, hop, resolve, invoke, builtin, hs, hx, hrun, Result.andThen]
  exact hK
theorem own_take {w : World} {base : Nat} {a : Option Addr} {n c : Nat} {xs : List Int} (h : OwnB w base (.slice a n c) xs) (m : Nat) (hm : m ≤ n) : OwnB w base (.slice a m c) (xs.take m) ∧ (Value.slice a m c).ownBlock = (Value.slice a n c).ownBlock := by
  have hl : xs.length = n := by
    rcases h.2 with ⟨e, h0⟩ | ⟨g, c', cur, e, _⟩
    · cases e; exact h0
    · cases e; rfl
  rcases h.2 with ⟨e, h0⟩ | ⟨g, c', cur, e, _⟩
  · cases e
    have : xs = [] := List.eq_nil_of_length_eq_zero h0
    subst this
    obtain rfl : m = 0 := by omega
    exact ⟨h, rfl⟩
  · cases e
    obtain ⟨ys, hf, hy, hn⟩ := full (show w.ownsRow base 5 1 (.slice (some ⟨g, 0, none⟩) xs.length c) xs.length (xs.map (Value.int .u8)) from h)
    have := cut hf (n := m) (by omega)
    refine ⟨?_, rfl⟩
    unfold OwnB
    rw [List.length_take, Nat.min_eq_left (by omega), List.map_take, ← hy, List.take_take, Nat.min_eq_left hm]
    exact this
/-- The key's row was written, and the cell was set. -/
theorem set_key {w w' : World} {base g : Nat} {b : Value} {at' : Nat} {pl vk vn v' : Value} {key key' : List Int} {es : List E} (h : Rg w base g b at' pl vk vn key es) (k : w.grownBy w' vk.ownBlock) (ho : OwnB w' base v' key') : Rg (w'.setCell ⟨g, 3, none⟩ v') base g b at' pl v' vn key' es ∧ Below base w (w'.setCell ⟨g, 3, none⟩ v') ∧ w'.cell? ⟨g, 3, none⟩ = some vk ∧ w'.frozen? ⟨g, 3, none⟩ = false := by
  have hb := h.base
  have e : w'.heap[g]? = w.heap[g]? := k.block g (blk_lt h.blk) (fun e => h.apart.1 e.symm)
  have h1 : Rg w' base g b at' pl v' vn key' es → True := fun _ => trivial
  have hne : v'.ownBlock ≠ some g := by
    intro e'
    obtain ⟨c, hc⟩ := row_type ho e'
    rw [e, h.blk] at hc; simp at hc
  refine ⟨⟨set_of (e.trans h.blk) 3 v', own_blocks ho (fun j hj => set_ne _ _ _ _ _ (fun e2 => hne (by rw [← e2]; exact hj))), own_blocks h.on (fun j hj => (set_ne _ _ _ _ _ (fun e2 => h.apart.2.1 (by rw [← e2]; exact hj))).trans (k.block j (own_lt h.on j hj).2 (fun e2 => h.apart.2.2 j e2.symm hj))), h.hb⟩, ?_, cell_of (e.trans h.blk) 3 _ rfl, fz_of (e.trans h.blk) 3⟩
  exact ((Below.refl base w).grown k hb (fun j hj => (own_lt h.ok j hj).1)).setCell h.hb v'
/-- The entries' row was written, and the cell was set. -/
theorem set_ents {w w' : World} {base g : Nat} {b : Value} {at' : Nat} {pl vk vn v' : Value} {key : List Int} {es es' : List E} (h : Rg w base g b at' pl vk vn key es) (k : w.grownBy w' vn.ownBlock) (ho : OwnE 85 w' base v' es') : Rg (w'.setCell ⟨g, 4, none⟩ v') base g b at' pl vk v' key es' ∧ Below base w (w'.setCell ⟨g, 4, none⟩ v') ∧ w'.cell? ⟨g, 4, none⟩ = some vn ∧ w'.frozen? ⟨g, 4, none⟩ = false := by
  have hb := h.base
  have e : w'.heap[g]? = w.heap[g]? := k.block g (blk_lt h.blk) (fun e => h.apart.2.1 e.symm)
  have hne : v'.ownBlock ≠ some g := by
    intro e'
    obtain ⟨c, hc⟩ := row_type ho e'
    rw [e, h.blk] at hc; simp at hc
  refine ⟨⟨set_of (e.trans h.blk) 4 v', own_blocks h.ok (fun j hj => (set_ne _ _ _ _ _ (fun e2 => h.apart.1 (by rw [← e2]; exact hj))).trans (k.block j (own_lt h.ok j hj).2 (fun e2 => h.apart.2.2 j hj e2.symm))), own_blocks ho (fun j hj => set_ne _ _ _ _ _ (fun e2 => hne (by rw [← e2]; exact hj))), h.hb⟩, ?_, cell_of (e.trans h.blk) 4 _ rfl, fz_of (e.trans h.blk) 4⟩
  exact ((Below.refl base w).grown k hb (fun j hj => (own_lt h.on j hj).1)).setCell h.hb v'
theorem cut_bytes {W : World} {bb bo n c : Nat} {zs : List Int} (H : Bytes W (some ⟨bb, bo, none⟩) n c zs) (p m bo' : Nat) (hp : p + m ≤ n) (hbo : 0 < m → bo' = bo + p) : ∀ i, i < m → W.cell? (Addr.add ⟨bb, bo', none⟩ i) = some (.int .u8 (((zs.drop p).take m).getD i 0)) := by
  intro i hi
  have h1 := H.2.2.2.2 _ rfl (p + i) (by omega)
  rw [addr_add] at h1 ⊢
  rw [hbo (by omega), show bo + p + i = bo + (p + i) by omega, h1]
  simp [List.getD_eq_getElem?_getD, hi]
set_option maxRecDepth 100000 in
set_option maxHeartbeats 8000000 in
theorem entry_ok {w : World} {base g : Nat} {bb bo bn bc at' : Nat} {pl vk vn : Value} {key : List Int} {es : List E} {zs : List Int} (PP : Value → Prop) (isR : Bool) (x : E) (sh : Nat) (A rest : List Int)
    (H : Rg w base g (.slice (some ⟨bb, bo, none⟩) bn bc) at' pl vk vn key es) (HZ : ∀ W, Below base w W → Bytes W (some ⟨bb, bo, none⟩) bn bc zs)
    (HTP : Calls Try.prog 80 #[.pointer (some ⟨g, 0, none⟩)] w fun e w' => e = .returned (.bool isR) ∧ (∃ pl', PP pl' ∧ Rg w' base g (.slice (some ⟨bb, bo, none⟩) bn bc) at' pl' vk vn key es) ∧ Below base w w')
    (hzs : zs = A ++ (eb sh (kbs x) x.v ++ rest)) (hA : at' = A.length) (hbc : bn < bc) (hbn : bn ≤ 1000000000) (hbc2 : bc ≤ 9223372036854775807) (hok : ∀ y ∈ es, y.ok) (hes : es.length ≤ 100000000)
    (hR1 : isR = true ∨ 0 < es.length) (hR2 : isR = true → sh = 0) (hm : may x = true) (hxs : 0 ≤ x.s) (hsh : sh ≤ key.length) (hkt : key.take sh = (kbs x).take sh) (hshn : sh ≤ (kbs x).length) (hkl : key.length ≤ 1032)
    (hbh : ∀ y, es.getLast? = some y → cmp y.ik x.ik < 0) :
    Calls Try.prog 65 #[.pointer (some ⟨g, 0, none⟩)] w fun e w' => (∃ u, e = .returned u) ∧ (∃ pl' vk' vn', PP pl' ∧ Rg w' base g (.slice (some ⟨bb, bo, none⟩) bn bc) (at' + (eb sh (kbs x) x.v).length) pl' vk' vn' (kbs x) (es ++ [x])) ∧ Below base w w' := by
  obtain ⟨hvl, hvs⟩ := may_vld hm
  have hks := Kd.size_true (En.vld_true hvl).1
  obtain ⟨d1, d2, d3, d4⟩ := enc_dec hxs hvl
  have hkz : (kbs x).length = x.k.size + 8 := kbs_len x
  obtain ⟨kz, hkzd⟩ : ∃ kz, kz = kbs x := ⟨_, rfl⟩
  have hkb : ∀ y ∈ kz, 0 ≤ y ∧ y ≤ 255 := by rw [hkzd]; exact kbs_bytes x
  have hd1 : decB kz = true := by rw [hkzd]; exact d1
  have hd2 : str (kz.take (kz.length - 8)) = x.k := by rw [hkzd, hkz]; exact d2
  have hd3 : dv kz / 256 = x.s := by rw [hkzd]; exact d3
  have hd4 : dv kz % 256 = x.c := by rw [hkzd]; exact d4
  rw [← hkzd] at hzs hkt hshn hkz ⊢
  clear d1 d2 d3 d4 hkzd
  obtain ⟨m, hmd⟩ : ∃ m, m = kz.length - sh := ⟨_, rfl⟩
  obtain ⟨vs, hvsd⟩ : ∃ vs, vs = x.v.size := ⟨_, rfl⟩
  obtain ⟨a1, ha1⟩ : ∃ a1, a1 = at' + (Vb.vb (sh : Int)).length := ⟨_, rfl⟩
  obtain ⟨a2, ha2⟩ : ∃ a2, a2 = a1 + (Vb.vb (m : Int)).length := ⟨_, rfl⟩
  obtain ⟨a3, ha3⟩ : ∃ a3, a3 = a2 + (Vb.vb (vs : Int)).length := ⟨_, rfl⟩
  have hebd : eb sh kz x.v = Vb.vb (sh : Int) ++ (Vb.vb (m : Int) ++ (Vb.vb (vs : Int) ++ (kz.drop sh ++ tx x.v))) := by
    unfold eb
    rw [← hmd, ← hvsd]
    simp only [List.append_assoc]
  have hebl : (eb sh kz x.v).length = (Vb.vb (sh : Int)).length + (Vb.vb (m : Int)).length + (Vb.vb (vs : Int)).length + m + vs := by
    rw [hebd]
    simp only [List.length_append, List.length_drop, tx_len]
    omega
  have hzl : zs.length = bn := (HZ w (Below.refl _ _)).1
  have hzl2 : zs.length = at' + (eb sh kz x.v).length + rest.length := by
    rw [hzs, hA]
    simp only [List.length_append]
    omega
  have hal1 := Vb.vb_le (sh : Int)
  have hal2 := Vb.vb_le (m : Int)
  have hal3 := Vb.vb_le (vs : Int)
  have v1 : Vb.vread zs (at' : Int) = ((sh : Int), (a1 : Int), 0) := by
    rw [hzs, hebd, hA, List.append_assoc, ha1, hA]
    exact Vb.vread_back A _ (sh : Int) (by omega)
  have v2 : Vb.vread zs (a1 : Int) = ((m : Int), (a2 : Int), 0) := by
    have := Vb.vread_back (A ++ Vb.vb (sh : Int)) ((Vb.vb (vs : Int) ++ (kz.drop sh ++ tx x.v)) ++ rest) (m : Int) (by omega)
    rw [List.length_append, ← hA, ← ha1, ← ha2] at this
    rw [← this, hzs, hebd]
    simp only [List.append_assoc]
  have v3 : Vb.vread zs (a2 : Int) = ((vs : Int), (a3 : Int), 0) := by
    have := Vb.vread_back (A ++ Vb.vb (sh : Int) ++ Vb.vb (m : Int)) ((kz.drop sh ++ tx x.v) ++ rest) (vs : Int) (by omega)
    rw [List.length_append, List.length_append, ← hA, ← ha1, ← ha2, ← ha3] at this
    rw [← this, hzs, hebd]
    simp only [List.append_assoc]
  have hpre : zs = (A ++ Vb.vb (sh : Int) ++ Vb.vb (m : Int) ++ Vb.vb (vs : Int)) ++ (kz.drop sh ++ (tx x.v ++ rest)) := by
    rw [hzs, hebd]
    simp only [List.append_assoc]
  have hprl : (A ++ Vb.vb (sh : Int) ++ Vb.vb (m : Int) ++ Vb.vb (vs : Int)).length = a3 := by
    simp only [List.length_append]; omega
  have t1 : (zs.drop a3).take m = kz.drop sh := by
    rw [hpre, List.drop_left' hprl, List.take_left' (by rw [List.length_drop, hmd])]
  have t2 : (zs.drop (a3 + m)).take vs = tx x.v := by
    have : zs = ((A ++ Vb.vb (sh : Int) ++ Vb.vb (m : Int) ++ Vb.vb (vs : Int)) ++ kz.drop sh) ++ (tx x.v ++ rest) := by rw [hpre]; simp only [List.append_assoc]
    rw [this, List.drop_left' (by rw [List.length_append, hprl, List.length_drop, hmd]), List.take_left' (by rw [tx_len, hvsd])]
  have hend : Hid (at' + (eb sh kz x.v).length = a3 + m + vs) := by show _ = _; omega
  have hfit : Hid (a3 + m + vs ≤ bn) := by show _ ≤ _; omega
  have hKZ : Hid (key.take sh ++ kz.drop sh = kz) := by show _ = _; rw [hkt, List.take_append_drop]
  have hvst : Hid (str (tx x.v) = x.v) := str_tx x.v
  have hxok : Hid (x.k.size ≤ 1024 ∧ kz.length ≤ 1032) := by show _ ∧ _; omega
  have hvb : vs ≤ 65536 := by omega
  clear hzl2 hal1 hal2 hal3 hebl hpre hprl hzs hebd hvl hm
  rw [hend.out]
  have hbase := hid H.base
  have htoB : Hid (∀ W, Below base w W → ∀ W', Below base W W' → Below base w W') := fun W h W' h' => h.trans h'
  replace H := hid H
  replace HZ := hid HZ
  replace HTP := hid HTP
  replace hok := hid hok
  replace hbh := hid hbh
  replace t1 := hid t1
  replace t2 := hid t2
  replace v1 := hid v1
  replace v2 := hid v2
  replace v3 := hid v3
  replace hd1 := hid hd1
  replace hd2 := hid hd2
  replace hd3 := hid hd3
  replace hd4 := hid hd4
  replace hkb := hid hkb
  replace hkt := hid hkt
  replace hmd := hid hmd
  replace hvsd := hid hvsd
  replace ha1 := hid ha1
  replace ha2 := hid ha2
  replace ha3 := hid ha3
  replace hA := hid hA
  replace hzl := hid hzl
  replace hkz := hid hkz
  obtain ⟨xk, xq, xc, xv⟩ := x
  dsimp only at *
  go_enter Try.func65, Try.ntmps65
  go_wp2_with fail
  refine HTP.out.mono ?_
  rintro e w1 ⟨rfl, ⟨pl', hPP, H1⟩, b1⟩
  replace hPP := hid hPP
  obtain ⟨ea, ec, hvn, hE⟩ := OwnE.ents H1.on hok.out
  subst hvn
  have c4 : w1.cell? ⟨g, 4, none⟩ = some (.slice ea es.length ec) := cell_of H1.blk 4 _ rfl
  replace H1 := hid H1
  replace b1 := hid b1
  have HM : Hid (∀ W, Calls Try.prog 66 #[.bool true] W fun e w' => e = .returned (.tuple #[]) ∧ w' = W) := fun W => must_ok W
  clear hE
  have hR1' : isR = true ∨ ((isR = false) ∧ (0 : Int) < (es.length : Int)) := by
    cases isR
    · exact .inr ⟨rfl, by rcases hR1 with h | h; cases h; omega⟩
    · exact .inl rfl
  have T1 := hid (takeNumber_ok H1.out (HZ.out w1 b1.out) (by omega) sh a1 v1.out)
  generalize hEL : es.length = EL at *
  replace hEL := hid hEL
  have hcase : (isR = true ∧ ((sh : Int) == 0) = true) ∨ (isR = false ∧ decide (0 < EL) = true ∧ ((sh : Int) == 0) = true) ∨ (isR = false ∧ decide (0 < EL) = true ∧ ((sh : Int) == 0) = false) := by
    rcases hR1' with h | ⟨h, h2⟩
    · exact .inl ⟨h, by rw [hR2 h]; rfl⟩
    · have h3 : decide (0 < EL) = true := decide_eq_true (by omega)
      by_cases h4 : sh = 0
      · exact .inr (.inl ⟨h, h3, by rw [h4]; rfl⟩)
      · exact .inr (.inr ⟨h, h3, by rw [beq_eq_false_iff_ne]; omega⟩)
  replace hcase := hid hcase
  clear hR1' hR1 hR2
  rename_i K1 hK1 K0 hK0
  replace hK1 := hid hK1
  go_wp2_with fail
  refine hK1.out _ _ ?_
  refine wp_seq_k (fun K2 hK2 => ?_)
  replace hK2 := hid hK2
  have key2 : ∀ (u8 u9 u10 u11 u12 u13 u14 u15 u16 u17 u18 u19 : Value), K2 { tmps := #[.pointer (some ⟨g, 0, none⟩), undef, .bool isR, undef, undef, undef, undef, undef, u8, u9, u10, u11, u12, u13, u14, u15, u16, u17, u18, u19, undef, undef, undef, undef, undef, undef, undef, undef, undef, undef, undef, undef, undef, undef, undef, undef, undef, undef, undef, undef, undef, undef, undef, undef, undef, undef, undef, undef, undef, undef, undef, undef, undef, undef, undef, undef, undef, undef, undef, undef, undef, undef, undef, undef, undef, undef, undef, undef, undef, undef, undef, undef, undef, undef, undef, undef, undef, undef, undef, undef, undef, undef, undef, undef, undef, undef, undef, undef], defers := [] } w1 := by
    intro u8 u9 u10 u11 u12 u13 u14 u15 u16 u17 u18 u19
    refine hK2.out _ _ ?_
    clear hK2 K2 hK1 K1
    refine wp_seq_k (fun K3 hK3 => ?_)
    replace hK3 := hid hK3
    clear c4
    go_wp2_with fail
    refine T1.out.mono ?_
    rintro e w2 ⟨rfl, H2, b2⟩
    have B2 : Hid (Below base w w2) := b1.out.trans b2
    have T2 := hid (takeNumber_ok H2 (HZ.out w2 B2.out) (by omega) m a2 v2.out)
    clear H2 b2
    go_wp2_with fail
    refine T2.out.mono ?_
    rintro e w3 ⟨rfl, H3, b3⟩
    have B3 : Hid (Below base w w3) := B2.out.trans b3
    have T3 := hid (takeNumber_ok H3 (HZ.out w3 B3.out) (by omega) vs a3 v3.out)
    clear H3 b3
    go_wp2_with fail
    refine T3.out.mono ?_
    rintro e w4 ⟨rfl, H4, b4⟩
    have B4 : Hid (Below base w w4) := B3.out.trans b4
    replace H4 := hid H4
    clear b4 T1 T2 T3
    go_wp2_with fail
    refine hK3.out _ _ ?_
    clear hK3 K3
    refine wp_seq_k (fun K4 hK4 => ?_)
    replace hK4 := hid hK4
    have key4 : ∀ (u8 u9 u10 u11 u12 u13 u14 u15 u16 u17 u18 u19 u20 u21 u22 u23 u24 u25 u26 u27 u28 u29 u30 u31 u32 : Value), K4 { tmps := #[.pointer (some ⟨g, 0, none⟩), undef, .bool isR, .int .u64 (sh : Int), .int .u64 (m : Int), .int .u64 (vs : Int), undef, undef, u8, u9, u10, u11, u12, u13, u14, u15, u16, u17, u18, u19, u20, u21, u22, u23, u24, u25, u26, u27, u28, u29, u30, u31, u32, undef, undef, undef, undef, undef, undef, undef, undef, undef, undef, undef, undef, undef, undef, undef, undef, undef, undef, undef, undef, undef, undef, undef, undef, undef, undef, undef, undef, undef, undef, undef, undef, undef, undef, undef, undef, undef, undef, undef, undef, undef, undef, undef, undef, undef, undef, undef, undef, undef, undef, undef, undef, undef, undef, undef], defers := [] } w4 := by
      intro u8 u9 u10 u11 u12 u13 u14 u15 u16 u17 u18 u19 u20 u21 u22 u23 u24 u25 u26 u27 u28 u29 u30 u31 u32
      refine hK4.out _ _ ?_
      obtain ⟨ka, kc, rfl, -, -, -⟩ := H4.out.ok.shape
      have c3 : w4.cell? ⟨g, 3, none⟩ = some (.slice ka key.length kc) := cell_of H4.out.blk 3 _ rfl
      obtain ⟨D, hD⟩ : ∃ D, D = World.drew w4 := ⟨_, rfl⟩
      have bD : Below w4.heap.size w4 D := by rw [hD]; exact drew_below w4
      have HD := H4.out.later bD
      have BD : Hid (Below base w D) := B4.out.trans (bD.mono H4.out.base)
      have d3 : D.cell? ⟨g, 3, none⟩ = some (.slice ka key.length kc) := cell_of HD.blk 3 _ rfl
      have hkc : key.length ≤ kc := by
        have := HD.ok.shape
        obtain ⟨_, _, e1, _, _, e2⟩ := this
        cases e1; exact e2
      have hskc : sh ≤ kc := by omega
      have HTB := hid (takeBytes_ok HD m (by have := hfit.out; omega) hbc (by omega) hbc2)
      generalize hKL : key.length = KL at *
      have hku : IntKind.u64.wrap (KL : Int) = (KL : Int) := by rw [IntKind.wrap_u64]; omega
      have hs1 : (sh : Int) ≤ (KL : Int) := by omega
      have hs2 : decide ((sh : Int) ≤ (KL : Int)) = true := decide_eq_true hs1
      have hv1 : (vs : Int) ≤ 65536 := by omega
      have hv2 : decide ((vs : Int) ≤ 65536) = true := decide_eq_true hv1
      replace hD := hid hD
      replace HD := hid HD
      replace hKL := hid hKL
      clear bD hK4 K4
      go_wp2_with fail
      refine (HM.out w4).mono ?_
      rintro e w4 ⟨rfl, rfl⟩
      go_wp2_with fail
      refine (HM.out w4).mono ?_
      rintro e w4 ⟨rfl, rfl⟩
      go_wp2_with fail
      rename_i K6 hK6
      have key6 : ∀ (vk6 : Value) (W6 : World) (u2 u8 u9 u10 u11 u12 u13 u14 u15 u16 u17 u18 u19 u20 u21 u22 u23 u24 u25 u26 u27 u28 u29 u30 u31 u32 u33 u34 u35 u36 u37 u38 u39 u40 u41 u42 u43 u44 u45 u46 u47 u48 u49 u50 u51 u52 u53 u54 u55 u56 u57 : Value), Rg W6 base g (.slice (some ⟨bb, bo, none⟩) bn bc) (a3 + m) pl' vk6 (.slice ea EL ec) kz es → Below base w W6 → K6 { tmps := #[.pointer (some ⟨g, 0, none⟩), undef, u2, .int .u64 (sh : Int), .int .u64 (m : Int), .int .u64 (vs : Int), undef, undef, u8, u9, u10, u11, u12, u13, u14, u15, u16, u17, u18, u19, u20, u21, u22, u23, u24, u25, u26, u27, u28, u29, u30, u31, u32, u33, u34, u35, u36, u37, u38, u39, u40, u41, u42, u43, u44, u45, u46, u47, u48, u49, u50, u51, u52, u53, u54, u55, u56, u57, undef, undef, undef, undef, undef, undef, undef, undef, undef, undef, undef, undef, undef, undef, undef, undef, undef, undef, undef, undef, undef, undef, undef, undef, undef, undef, undef, undef, undef, undef], defers := [] } W6 := by
        intro vk6 W6 u2 u8 u9 u10 u11 u12 u13 u14 u15 u16 u17 u18 u19 u20 u21 u22 u23 u24 u25 u26 u27 u28 u29 u30 u31 u32 u33 u34 u35 u36 u37 u38 u39 u40 u41 u42 u43 u44 u45 u46 u47 u48 u49 u50 u51 u52 u53 u54 u55 u56 u57 HR6 BW6
        refine hK6 _ _ ?_
        obtain ⟨ka6, kc6, rfl, -, -, -⟩ := HR6.ok.shape
        have c36 : W6.cell? ⟨g, 3, none⟩ = some (.slice ka6 kz.length kc6) := cell_of HR6.blk 3 _ rfl
        have HDc := decode_yes ka6 kz.length kc6 kz W6 (OwnB.bytes HR6.ok hkb.out) (by have := hxok.out; omega) hd1.out
        rw [hd2.out, hd3.out, hd4.out] at HDc
        replace HDc := hid HDc
        replace HR6 := hid HR6
        replace BW6 := hid BW6
        generalize kz.length = LZ at *
        clear hK6 K6
        go_wp2_with fail
        refine HDc.out.mono ?_
        rintro e w7 ⟨rfl, b7⟩
        obtain ⟨gk, hgk⟩ : ∃ g, g = w7.heap.size := ⟨_, rfl⟩
        obtain ⟨w8, hw8⟩ : ∃ W, W = w7.alloc (.cells #[.string xk, .int .u64 xq, .int .i64 xc] 36) := ⟨_, rfl⟩
        have b8 : Below w7.heap.size w7 w8 := by rw [hw8]; exact box_below _ _
        have k8 : w8.heap[gk]? = some (.cells #[.string xk, .int .u64 xq, .int .i64 xc] 36) := by rw [hw8, hgk]; exact new_at _ _
        have b68 : Below W6.heap.size W6 w8 := b7.trans (b8.mono b7.size)
        have HR8 := HR6.out.later b68
        have BW8 : Hid (Below base w w8) := BW6.out.trans (b68.mono HR6.out.base)
        have HBh := hid (behind_yes HR8 hok.out (by have := hEL.out; omega) xk xq xc hbh.out)
        have y0 := cell_of k8 0 _ rfl
        have y1 := cell_of k8 1 _ rfl
        have y2 := cell_of k8 2 _ rfl
        replace HR8 := hid HR8
        replace k8 := hid k8
        replace hgk := hid hgk
        replace hw8 := hid hw8
        clear b7 b8 b68 c36 HDc
        go_wp2_with fail
        rw [← hw8.out, ← hgk.out]
        refine (HM.out w8).mono ?_
        rintro e w8 ⟨rfl, rfl⟩
        go_wp2_with fail
        refine HBh.out.mono ?_
        rintro e w9 ⟨rfl, b9⟩
        have HR9 := HR8.out.later b9
        have BW9 : Hid (Below base w w9) := BW8.out.trans (b9.mono HR8.out.base)
        have k9 := (b9.block gk (blk_lt k8.out)).trans k8.out
        replace HR9 := hid HR9
        replace k9 := hid k9
        clear b9 y0 y1 y2 HBh
        go_wp2_with fail
        refine (HM.out w9).mono ?_
        rintro e w9 ⟨rfl, rfl⟩
        obtain ⟨D2, hD2⟩ : ∃ D, D = World.drew w9 := ⟨_, rfl⟩
        have bD2 : Below w9.heap.size w9 D2 := by rw [hD2]; exact drew_below w9
        have HRD := HR9.out.later bD2
        have BD2 : Hid (Below base w D2) := BW9.out.trans (bD2.mono HR9.out.base)
        have d4 : D2.cell? ⟨g, 4, none⟩ = some (.slice ea EL ec) := cell_of HRD.blk 4 _ rfl
        have kD := (bD2.block gk (blk_lt k9.out)).trans k9.out
        have y0 := cell_of kD 0 _ rfl
        have y1 := cell_of kD 1 _ rfl
        have y2 := cell_of kD 2 _ rfl
        have HTB2 := hid (takeBytes_ok HRD vs (by have := hfit.out; omega) hbc (by omega) hbc2)
        have hgkb : base ≤ w9.heap.size := HR9.out.base
        have KB10 : Hid (∀ W, Fp (fun j => j = g) D2 W → W.heap[gk]? = some (.cells #[.string xk, .int .u64 xq, .int .i64 xc] 36)) := by
          intro W f
          refine (f.block gk (blk_lt kD) (fun e => ?_)).trans kD
          have h1 := HRD.blk
          rw [show g = gk from e.symm] at h1
          rw [kD] at h1
          simp at h1
        replace HRD := hid HRD
        replace hD2 := hid hD2
        clear bD2 kD hgkb
        go_wp2_with fail
        refine wp_region_any (by kernel_rfl) ?_
        change wpAny _ _ _ _ _ _ _ (World.drew _)
        rw [← hD2.out]
        refine wpAny_take (i := 0) (v := ?v1) rfl (by kernel_rfl) (by kernel_rfl) (by kernel_rfl) (fun _ _ _ h => h) (Or.inl ⟨by rfl, ?h1⟩) ?_
        case h1 => (intro w; go_simp; try (with_reducible rfl))
        go_simp
        refine wpAny_take (i := 1) (v := ?v2) rfl (by kernel_rfl) (by kernel_rfl) (by kernel_rfl) (fun _ _ _ h => h) (Or.inl ⟨by rfl, ?h2⟩) ?_
        case h2 => (intro w; go_simp; try (with_reducible rfl))
        go_simp
        refine wpAny_take (i := 2) (v := ?v3) rfl (by kernel_rfl) (by kernel_rfl) (by kernel_rfl) (fun _ _ _ h => h) (Or.inl ⟨by rfl, ?h3⟩) ?_
        case h3 => (intro w; go_simp; try (with_reducible rfl))
        go_simp
        refine wpAny_take (i := 3) (v := ?v4) rfl (by kernel_rfl) (by kernel_rfl) (by kernel_rfl) (fun _ _ _ h => h) (Or.inl ⟨by rfl, ?h4⟩) ?_
        case h4 => (intro w; go_simp; try (with_reducible rfl))
        go_simp
        refine wpAny_take (i := 6) (v := ?v5) rfl (by kernel_rfl) (by kernel_rfl) (by kernel_rfl) (fun _ _ _ h => h) (Or.inl ⟨by rfl, ?h5⟩) ?_
        case h5 => (intro w; go_simp; try (with_reducible rfl))
        go_simp
        refine wpAny_take (i := 7) (v := ?v6) rfl (by kernel_rfl) (by kernel_rfl) (by kernel_rfl) (fun _ _ _ h => h) (Or.inl ⟨by rfl, ?h6⟩) ?_
        case h6 => (intro w; go_simp; try (with_reducible rfl))
        go_simp
        refine wpAny_ready (rs := [4, 5, 8]) (by kernel_rfl) (by simp) ?_
        refine AllReady.cons rfl (fun K hK => ?_) ?_
        · go_simp
          refine hK _ _ ?_
          clear hK K
          refine wpAny_ready (rs := [5, 8]) (by kernel_rfl) (by simp) ?_
          refine AllReady.cons rfl (fun K hK => ?_) ?_
          · go_simp
            refine hK _ _ ?_
            clear hK K
            refine wpAny_ready (rs := [8]) (by kernel_rfl) (by simp) ?_
            refine AllReady.cons rfl (fun K hK => ?_) ?_
            · go_simp
              go_wp2_with fail
              refine HTB2.out.mono ?_
              rintro e x1 ⟨⟨bo1, rfl, hbo1⟩, HX1, bx1, fx1⟩
              have d4x : x1.cell? ⟨g, 4, none⟩ = some (.slice ea EL ec) := cell_of HX1.blk 4 _ rfl
              have k6x := KB10.out x1 fx1
              have z0 := cell_of k6x 0 _ rfl
              have z1 := cell_of k6x 1 _ rfl
              have z2 := cell_of k6x 2 _ rfl
              have cv : Sem.run Try.prog (convert 28 9 (.slice (some ⟨bb, bo1, none⟩) vs (bc - (a3 + m)))) x1 = .ok (.string xv) x1 := by
                have h1 := conv_run x1 (some ⟨bb, bo1, none⟩) vs (bc - (a3 + m)) ((zs.drop (a3 + m)).take vs) (by rw [t2.out, tx_len, hvsd.out]) (fun e => by cases e) (fun y hy i hi => by cases hy; exact cut_bytes (HZ.out x1 (BD2.out.trans bx1)) (a3 + m) vs bo1 (by have := hfit.out; omega) hbo1 i hi)
                rw [t2.out, hvst.out] at h1
                exact h1
              refine hK _ _ ?_
              clear hK K k6x
              refine wpAny_ready (rs := [9]) (by kernel_rfl) (by simp) ?_
              refine AllReady.cons rfl (fun K hK => ?_) ?_
              · go_simp
                refine hK _ _ ?_
                clear hK K
                refine wpAny_take (i := 10) (v := ?v7) rfl (by kernel_rfl) (by kernel_rfl) (by kernel_rfl) (fun _ _ _ h => h) (Or.inl ⟨by rfl, ?h7⟩) ?_
                case h7 => (intro w; go_simp; try (with_reducible rfl))
                go_simp
                refine wpAny_ready (rs := [11]) (by kernel_rfl) (by simp) ?_
                refine AllReady.cons rfl (fun K hK => ?_) ?_
                · go_simp
                  refine hK _ _ ?_
                  clear hK K
                  refine wpAny_ready (rs := [12]) (by kernel_rfl) (by simp) ?_
                  refine AllReady.cons rfl (fun K hK => ?_) ?_
                  · obtain ⟨v5, W5, r5, o5, g5, q5⟩ := app_entry x1 base (.slice ea EL ec) es ⟨xk, xq, xc, xv⟩ HX1.on (by have := hEL.out; omega) HX1.base
                    dsimp only at r5
                    obtain ⟨a5, n5, c5, rfl⟩ : ∃ a5 n5 c5, v5 = .slice a5 n5 c5 := by
                      rcases o5.2 with ⟨h1, h2⟩ | ⟨g5', c5, cur, h1, _⟩
                      · exact ⟨none, 0, 0, h1⟩
                      · exact ⟨_, _, _, h1⟩
                    obtain ⟨R5, B5, d5, f5⟩ := set_ents HX1 g5 o5
                    refine wp_append_run _ _ _ _ rfl _ _ _ rfl rfl r5 ?_
                    go_simp
                    refine hK _ _ ?_
                    clear hK K
                    refine wpAny_take (i := 13) (v := ?v8) rfl (by kernel_rfl) (by kernel_rfl) (by kernel_rfl) (fun _ _ _ h => h) (Or.inl ⟨by rfl, ?h8⟩) ?_
                    case h8 => (intro w; go_simp; try (with_reducible rfl))
                    go_simp
                    refine wpAny_take (i := 14) (v := ?v9) rfl (by kernel_rfl) (by kernel_rfl) (by kernel_rfl) (fun _ _ _ h => h) (Or.inl ⟨by rfl, ?h9⟩) ?_
                    case h9 => (intro w; go_simp; try (with_reducible rfl))
                    go_simp
                    refine wpAny_ready (rs := [15]) (by kernel_rfl) (by simp) ?_
                    refine AllReady.cons rfl (fun K hK => ?_) ?_
                    · go_simp
                      refine hK _ _ ?_
                      clear hK K
                      refine wpAny_done (by kernel_rfl) ?_ _
                      have B9 : Hid (Below base w (W5.setCell ⟨g, 4, none⟩ (.slice a5 n5 c5))) := BD2.out.trans (bx1.trans B5)
                      replace R5 := hid R5
                      clear r5 o5 g5 q5 d5 f5 B5
                      go_end0
                      exact ⟨⟨_, rfl⟩, ⟨pl', _, _, hPP.out, R5.out⟩, B9.out⟩
                    exact AllReady.nil
                  exact AllReady.nil
                exact AllReady.nil
              exact AllReady.nil
            exact AllReady.nil
          refine AllReady.cons rfl (fun K hK => ?_) ?_
          · go_simp
            go_wp2_with fail
            refine HTB2.out.mono ?_
            rintro e x1 ⟨⟨bo1, rfl, hbo1⟩, HX1, bx1, fx1⟩
            have d4x : x1.cell? ⟨g, 4, none⟩ = some (.slice ea EL ec) := cell_of HX1.blk 4 _ rfl
            have k6x := KB10.out x1 fx1
            have z0 := cell_of k6x 0 _ rfl
            have z1 := cell_of k6x 1 _ rfl
            have z2 := cell_of k6x 2 _ rfl
            have cv : Sem.run Try.prog (convert 28 9 (.slice (some ⟨bb, bo1, none⟩) vs (bc - (a3 + m)))) x1 = .ok (.string xv) x1 := by
              have h1 := conv_run x1 (some ⟨bb, bo1, none⟩) vs (bc - (a3 + m)) ((zs.drop (a3 + m)).take vs) (by rw [t2.out, tx_len, hvsd.out]) (fun e => by cases e) (fun y hy i hi => by cases hy; exact cut_bytes (HZ.out x1 (BD2.out.trans bx1)) (a3 + m) vs bo1 (by have := hfit.out; omega) hbo1 i hi)
              rw [t2.out, hvst.out] at h1
              exact h1
            refine hK _ _ ?_
            clear hK K k6x
            refine wpAny_ready (rs := [5, 9]) (by kernel_rfl) (by simp) ?_
            refine AllReady.cons rfl (fun K hK => ?_) ?_
            · go_simp
              refine hK _ _ ?_
              clear hK K
              refine wpAny_ready (rs := [9]) (by kernel_rfl) (by simp) ?_
              refine AllReady.cons rfl (fun K hK => ?_) ?_
              · go_simp
                refine hK _ _ ?_
                clear hK K
                refine wpAny_take (i := 10) (v := ?v10) rfl (by kernel_rfl) (by kernel_rfl) (by kernel_rfl) (fun _ _ _ h => h) (Or.inl ⟨by rfl, ?h10⟩) ?_
                case h10 => (intro w; go_simp; try (with_reducible rfl))
                go_simp
                refine wpAny_ready (rs := [11]) (by kernel_rfl) (by simp) ?_
                refine AllReady.cons rfl (fun K hK => ?_) ?_
                · go_simp
                  refine hK _ _ ?_
                  clear hK K
                  refine wpAny_ready (rs := [12]) (by kernel_rfl) (by simp) ?_
                  refine AllReady.cons rfl (fun K hK => ?_) ?_
                  · obtain ⟨v5, W5, r5, o5, g5, q5⟩ := app_entry x1 base (.slice ea EL ec) es ⟨xk, xq, xc, xv⟩ HX1.on (by have := hEL.out; omega) HX1.base
                    dsimp only at r5
                    obtain ⟨a5, n5, c5, rfl⟩ : ∃ a5 n5 c5, v5 = .slice a5 n5 c5 := by
                      rcases o5.2 with ⟨h1, h2⟩ | ⟨g5', c5, cur, h1, _⟩
                      · exact ⟨none, 0, 0, h1⟩
                      · exact ⟨_, _, _, h1⟩
                    obtain ⟨R5, B5, d5, f5⟩ := set_ents HX1 g5 o5
                    refine wp_append_run _ _ _ _ rfl _ _ _ rfl rfl r5 ?_
                    go_simp
                    refine hK _ _ ?_
                    clear hK K
                    refine wpAny_take (i := 13) (v := ?v11) rfl (by kernel_rfl) (by kernel_rfl) (by kernel_rfl) (fun _ _ _ h => h) (Or.inl ⟨by rfl, ?h11⟩) ?_
                    case h11 => (intro w; go_simp; try (with_reducible rfl))
                    go_simp
                    refine wpAny_take (i := 14) (v := ?v12) rfl (by kernel_rfl) (by kernel_rfl) (by kernel_rfl) (fun _ _ _ h => h) (Or.inl ⟨by rfl, ?h12⟩) ?_
                    case h12 => (intro w; go_simp; try (with_reducible rfl))
                    go_simp
                    refine wpAny_ready (rs := [15]) (by kernel_rfl) (by simp) ?_
                    refine AllReady.cons rfl (fun K hK => ?_) ?_
                    · go_simp
                      refine hK _ _ ?_
                      clear hK K
                      refine wpAny_done (by kernel_rfl) ?_ _
                      have B9 : Hid (Below base w (W5.setCell ⟨g, 4, none⟩ (.slice a5 n5 c5))) := BD2.out.trans (bx1.trans B5)
                      replace R5 := hid R5
                      clear r5 o5 g5 q5 d5 f5 B5
                      go_end0
                      exact ⟨⟨_, rfl⟩, ⟨pl', _, _, hPP.out, R5.out⟩, B9.out⟩
                    exact AllReady.nil
                  exact AllReady.nil
                exact AllReady.nil
              exact AllReady.nil
            refine AllReady.cons rfl (fun K hK => ?_) ?_
            · go_simp
              refine hK _ _ ?_
              clear hK K
              refine wpAny_ready (rs := [5]) (by kernel_rfl) (by simp) ?_
              refine AllReady.cons rfl (fun K hK => ?_) ?_
              · go_simp
                refine hK _ _ ?_
                clear hK K
                refine wpAny_take (i := 10) (v := ?v13) rfl (by kernel_rfl) (by kernel_rfl) (by kernel_rfl) (fun _ _ _ h => h) (Or.inl ⟨by rfl, ?h13⟩) ?_
                case h13 => (intro w; go_simp; try (with_reducible rfl))
                go_simp
                refine wpAny_ready (rs := [11]) (by kernel_rfl) (by simp) ?_
                refine AllReady.cons rfl (fun K hK => ?_) ?_
                · go_simp
                  refine hK _ _ ?_
                  clear hK K
                  refine wpAny_ready (rs := [12]) (by kernel_rfl) (by simp) ?_
                  refine AllReady.cons rfl (fun K hK => ?_) ?_
                  · obtain ⟨v5, W5, r5, o5, g5, q5⟩ := app_entry x1 base (.slice ea EL ec) es ⟨xk, xq, xc, xv⟩ HX1.on (by have := hEL.out; omega) HX1.base
                    dsimp only at r5
                    obtain ⟨a5, n5, c5, rfl⟩ : ∃ a5 n5 c5, v5 = .slice a5 n5 c5 := by
                      rcases o5.2 with ⟨h1, h2⟩ | ⟨g5', c5, cur, h1, _⟩
                      · exact ⟨none, 0, 0, h1⟩
                      · exact ⟨_, _, _, h1⟩
                    obtain ⟨R5, B5, d5, f5⟩ := set_ents HX1 g5 o5
                    refine wp_append_run _ _ _ _ rfl _ _ _ rfl rfl r5 ?_
                    go_simp
                    refine hK _ _ ?_
                    clear hK K
                    refine wpAny_take (i := 13) (v := ?v14) rfl (by kernel_rfl) (by kernel_rfl) (by kernel_rfl) (fun _ _ _ h => h) (Or.inl ⟨by rfl, ?h14⟩) ?_
                    case h14 => (intro w; go_simp; try (with_reducible rfl))
                    go_simp
                    refine wpAny_take (i := 14) (v := ?v15) rfl (by kernel_rfl) (by kernel_rfl) (by kernel_rfl) (fun _ _ _ h => h) (Or.inl ⟨by rfl, ?h15⟩) ?_
                    case h15 => (intro w; go_simp; try (with_reducible rfl))
                    go_simp
                    refine wpAny_ready (rs := [15]) (by kernel_rfl) (by simp) ?_
                    refine AllReady.cons rfl (fun K hK => ?_) ?_
                    · go_simp
                      refine hK _ _ ?_
                      clear hK K
                      refine wpAny_done (by kernel_rfl) ?_ _
                      have B9 : Hid (Below base w (W5.setCell ⟨g, 4, none⟩ (.slice a5 n5 c5))) := BD2.out.trans (bx1.trans B5)
                      replace R5 := hid R5
                      clear r5 o5 g5 q5 d5 f5 B5
                      go_end0
                      exact ⟨⟨_, rfl⟩, ⟨pl', _, _, hPP.out, R5.out⟩, B9.out⟩
                    exact AllReady.nil
                  exact AllReady.nil
                exact AllReady.nil
              exact AllReady.nil
            exact AllReady.nil
          exact AllReady.nil
        refine AllReady.cons rfl (fun K hK => ?_) ?_
        · go_simp
          refine hK _ _ ?_
          clear hK K
          refine wpAny_ready (rs := [4, 8]) (by kernel_rfl) (by simp) ?_
          refine AllReady.cons rfl (fun K hK => ?_) ?_
          · go_simp
            refine hK _ _ ?_
            clear hK K
            refine wpAny_ready (rs := [8]) (by kernel_rfl) (by simp) ?_
            refine AllReady.cons rfl (fun K hK => ?_) ?_
            · go_simp
              go_wp2_with fail
              refine HTB2.out.mono ?_
              rintro e x1 ⟨⟨bo1, rfl, hbo1⟩, HX1, bx1, fx1⟩
              have d4x : x1.cell? ⟨g, 4, none⟩ = some (.slice ea EL ec) := cell_of HX1.blk 4 _ rfl
              have k6x := KB10.out x1 fx1
              have z0 := cell_of k6x 0 _ rfl
              have z1 := cell_of k6x 1 _ rfl
              have z2 := cell_of k6x 2 _ rfl
              have cv : Sem.run Try.prog (convert 28 9 (.slice (some ⟨bb, bo1, none⟩) vs (bc - (a3 + m)))) x1 = .ok (.string xv) x1 := by
                have h1 := conv_run x1 (some ⟨bb, bo1, none⟩) vs (bc - (a3 + m)) ((zs.drop (a3 + m)).take vs) (by rw [t2.out, tx_len, hvsd.out]) (fun e => by cases e) (fun y hy i hi => by cases hy; exact cut_bytes (HZ.out x1 (BD2.out.trans bx1)) (a3 + m) vs bo1 (by have := hfit.out; omega) hbo1 i hi)
                rw [t2.out, hvst.out] at h1
                exact h1
              refine hK _ _ ?_
              clear hK K k6x
              refine wpAny_ready (rs := [9]) (by kernel_rfl) (by simp) ?_
              refine AllReady.cons rfl (fun K hK => ?_) ?_
              · go_simp
                refine hK _ _ ?_
                clear hK K
                refine wpAny_take (i := 10) (v := ?v16) rfl (by kernel_rfl) (by kernel_rfl) (by kernel_rfl) (fun _ _ _ h => h) (Or.inl ⟨by rfl, ?h16⟩) ?_
                case h16 => (intro w; go_simp; try (with_reducible rfl))
                go_simp
                refine wpAny_ready (rs := [11]) (by kernel_rfl) (by simp) ?_
                refine AllReady.cons rfl (fun K hK => ?_) ?_
                · go_simp
                  refine hK _ _ ?_
                  clear hK K
                  refine wpAny_ready (rs := [12]) (by kernel_rfl) (by simp) ?_
                  refine AllReady.cons rfl (fun K hK => ?_) ?_
                  · obtain ⟨v5, W5, r5, o5, g5, q5⟩ := app_entry x1 base (.slice ea EL ec) es ⟨xk, xq, xc, xv⟩ HX1.on (by have := hEL.out; omega) HX1.base
                    dsimp only at r5
                    obtain ⟨a5, n5, c5, rfl⟩ : ∃ a5 n5 c5, v5 = .slice a5 n5 c5 := by
                      rcases o5.2 with ⟨h1, h2⟩ | ⟨g5', c5, cur, h1, _⟩
                      · exact ⟨none, 0, 0, h1⟩
                      · exact ⟨_, _, _, h1⟩
                    obtain ⟨R5, B5, d5, f5⟩ := set_ents HX1 g5 o5
                    refine wp_append_run _ _ _ _ rfl _ _ _ rfl rfl r5 ?_
                    go_simp
                    refine hK _ _ ?_
                    clear hK K
                    refine wpAny_take (i := 13) (v := ?v17) rfl (by kernel_rfl) (by kernel_rfl) (by kernel_rfl) (fun _ _ _ h => h) (Or.inl ⟨by rfl, ?h17⟩) ?_
                    case h17 => (intro w; go_simp; try (with_reducible rfl))
                    go_simp
                    refine wpAny_take (i := 14) (v := ?v18) rfl (by kernel_rfl) (by kernel_rfl) (by kernel_rfl) (fun _ _ _ h => h) (Or.inl ⟨by rfl, ?h18⟩) ?_
                    case h18 => (intro w; go_simp; try (with_reducible rfl))
                    go_simp
                    refine wpAny_ready (rs := [15]) (by kernel_rfl) (by simp) ?_
                    refine AllReady.cons rfl (fun K hK => ?_) ?_
                    · go_simp
                      refine hK _ _ ?_
                      clear hK K
                      refine wpAny_done (by kernel_rfl) ?_ _
                      have B9 : Hid (Below base w (W5.setCell ⟨g, 4, none⟩ (.slice a5 n5 c5))) := BD2.out.trans (bx1.trans B5)
                      replace R5 := hid R5
                      clear r5 o5 g5 q5 d5 f5 B5
                      go_end0
                      exact ⟨⟨_, rfl⟩, ⟨pl', _, _, hPP.out, R5.out⟩, B9.out⟩
                    exact AllReady.nil
                  exact AllReady.nil
                exact AllReady.nil
              exact AllReady.nil
            exact AllReady.nil
          refine AllReady.cons rfl (fun K hK => ?_) ?_
          · go_simp
            go_wp2_with fail
            refine HTB2.out.mono ?_
            rintro e x1 ⟨⟨bo1, rfl, hbo1⟩, HX1, bx1, fx1⟩
            have d4x : x1.cell? ⟨g, 4, none⟩ = some (.slice ea EL ec) := cell_of HX1.blk 4 _ rfl
            have k6x := KB10.out x1 fx1
            have z0 := cell_of k6x 0 _ rfl
            have z1 := cell_of k6x 1 _ rfl
            have z2 := cell_of k6x 2 _ rfl
            have cv : Sem.run Try.prog (convert 28 9 (.slice (some ⟨bb, bo1, none⟩) vs (bc - (a3 + m)))) x1 = .ok (.string xv) x1 := by
              have h1 := conv_run x1 (some ⟨bb, bo1, none⟩) vs (bc - (a3 + m)) ((zs.drop (a3 + m)).take vs) (by rw [t2.out, tx_len, hvsd.out]) (fun e => by cases e) (fun y hy i hi => by cases hy; exact cut_bytes (HZ.out x1 (BD2.out.trans bx1)) (a3 + m) vs bo1 (by have := hfit.out; omega) hbo1 i hi)
              rw [t2.out, hvst.out] at h1
              exact h1
            refine hK _ _ ?_
            clear hK K k6x
            refine wpAny_ready (rs := [4, 9]) (by kernel_rfl) (by simp) ?_
            refine AllReady.cons rfl (fun K hK => ?_) ?_
            · go_simp
              refine hK _ _ ?_
              clear hK K
              refine wpAny_ready (rs := [9]) (by kernel_rfl) (by simp) ?_
              refine AllReady.cons rfl (fun K hK => ?_) ?_
              · go_simp
                refine hK _ _ ?_
                clear hK K
                refine wpAny_take (i := 10) (v := ?v19) rfl (by kernel_rfl) (by kernel_rfl) (by kernel_rfl) (fun _ _ _ h => h) (Or.inl ⟨by rfl, ?h19⟩) ?_
                case h19 => (intro w; go_simp; try (with_reducible rfl))
                go_simp
                refine wpAny_ready (rs := [11]) (by kernel_rfl) (by simp) ?_
                refine AllReady.cons rfl (fun K hK => ?_) ?_
                · go_simp
                  refine hK _ _ ?_
                  clear hK K
                  refine wpAny_ready (rs := [12]) (by kernel_rfl) (by simp) ?_
                  refine AllReady.cons rfl (fun K hK => ?_) ?_
                  · obtain ⟨v5, W5, r5, o5, g5, q5⟩ := app_entry x1 base (.slice ea EL ec) es ⟨xk, xq, xc, xv⟩ HX1.on (by have := hEL.out; omega) HX1.base
                    dsimp only at r5
                    obtain ⟨a5, n5, c5, rfl⟩ : ∃ a5 n5 c5, v5 = .slice a5 n5 c5 := by
                      rcases o5.2 with ⟨h1, h2⟩ | ⟨g5', c5, cur, h1, _⟩
                      · exact ⟨none, 0, 0, h1⟩
                      · exact ⟨_, _, _, h1⟩
                    obtain ⟨R5, B5, d5, f5⟩ := set_ents HX1 g5 o5
                    refine wp_append_run _ _ _ _ rfl _ _ _ rfl rfl r5 ?_
                    go_simp
                    refine hK _ _ ?_
                    clear hK K
                    refine wpAny_take (i := 13) (v := ?v20) rfl (by kernel_rfl) (by kernel_rfl) (by kernel_rfl) (fun _ _ _ h => h) (Or.inl ⟨by rfl, ?h20⟩) ?_
                    case h20 => (intro w; go_simp; try (with_reducible rfl))
                    go_simp
                    refine wpAny_take (i := 14) (v := ?v21) rfl (by kernel_rfl) (by kernel_rfl) (by kernel_rfl) (fun _ _ _ h => h) (Or.inl ⟨by rfl, ?h21⟩) ?_
                    case h21 => (intro w; go_simp; try (with_reducible rfl))
                    go_simp
                    refine wpAny_ready (rs := [15]) (by kernel_rfl) (by simp) ?_
                    refine AllReady.cons rfl (fun K hK => ?_) ?_
                    · go_simp
                      refine hK _ _ ?_
                      clear hK K
                      refine wpAny_done (by kernel_rfl) ?_ _
                      have B9 : Hid (Below base w (W5.setCell ⟨g, 4, none⟩ (.slice a5 n5 c5))) := BD2.out.trans (bx1.trans B5)
                      replace R5 := hid R5
                      clear r5 o5 g5 q5 d5 f5 B5
                      go_end0
                      exact ⟨⟨_, rfl⟩, ⟨pl', _, _, hPP.out, R5.out⟩, B9.out⟩
                    exact AllReady.nil
                  exact AllReady.nil
                exact AllReady.nil
              exact AllReady.nil
            refine AllReady.cons rfl (fun K hK => ?_) ?_
            · go_simp
              refine hK _ _ ?_
              clear hK K
              refine wpAny_take (i := 10) (v := ?v22) rfl (by kernel_rfl) (by kernel_rfl) (by kernel_rfl) (fun _ _ _ h => h) (Or.inl ⟨by rfl, ?h22⟩) ?_
              case h22 => (intro w; go_simp; try (with_reducible rfl))
              go_simp
              refine wpAny_ready (rs := [4, 11]) (by kernel_rfl) (by simp) ?_
              refine AllReady.cons rfl (fun K hK => ?_) ?_
              · go_simp
                refine hK _ _ ?_
                clear hK K
                refine wpAny_ready (rs := [11]) (by kernel_rfl) (by simp) ?_
                refine AllReady.cons rfl (fun K hK => ?_) ?_
                · go_simp
                  refine hK _ _ ?_
                  clear hK K
                  refine wpAny_ready (rs := [12]) (by kernel_rfl) (by simp) ?_
                  refine AllReady.cons rfl (fun K hK => ?_) ?_
                  · obtain ⟨v5, W5, r5, o5, g5, q5⟩ := app_entry x1 base (.slice ea EL ec) es ⟨xk, xq, xc, xv⟩ HX1.on (by have := hEL.out; omega) HX1.base
                    dsimp only at r5
                    obtain ⟨a5, n5, c5, rfl⟩ : ∃ a5 n5 c5, v5 = .slice a5 n5 c5 := by
                      rcases o5.2 with ⟨h1, h2⟩ | ⟨g5', c5, cur, h1, _⟩
                      · exact ⟨none, 0, 0, h1⟩
                      · exact ⟨_, _, _, h1⟩
                    obtain ⟨R5, B5, d5, f5⟩ := set_ents HX1 g5 o5
                    refine wp_append_run _ _ _ _ rfl _ _ _ rfl rfl r5 ?_
                    go_simp
                    refine hK _ _ ?_
                    clear hK K
                    refine wpAny_take (i := 13) (v := ?v23) rfl (by kernel_rfl) (by kernel_rfl) (by kernel_rfl) (fun _ _ _ h => h) (Or.inl ⟨by rfl, ?h23⟩) ?_
                    case h23 => (intro w; go_simp; try (with_reducible rfl))
                    go_simp
                    refine wpAny_take (i := 14) (v := ?v24) rfl (by kernel_rfl) (by kernel_rfl) (by kernel_rfl) (fun _ _ _ h => h) (Or.inl ⟨by rfl, ?h24⟩) ?_
                    case h24 => (intro w; go_simp; try (with_reducible rfl))
                    go_simp
                    refine wpAny_ready (rs := [15]) (by kernel_rfl) (by simp) ?_
                    refine AllReady.cons rfl (fun K hK => ?_) ?_
                    · go_simp
                      refine hK _ _ ?_
                      clear hK K
                      refine wpAny_done (by kernel_rfl) ?_ _
                      have B9 : Hid (Below base w (W5.setCell ⟨g, 4, none⟩ (.slice a5 n5 c5))) := BD2.out.trans (bx1.trans B5)
                      replace R5 := hid R5
                      clear r5 o5 g5 q5 d5 f5 B5
                      go_end0
                      exact ⟨⟨_, rfl⟩, ⟨pl', _, _, hPP.out, R5.out⟩, B9.out⟩
                    exact AllReady.nil
                  exact AllReady.nil
                exact AllReady.nil
              refine AllReady.cons rfl (fun K hK => ?_) ?_
              · go_simp
                refine hK _ _ ?_
                clear hK K
                refine wpAny_ready (rs := [4]) (by kernel_rfl) (by simp) ?_
                refine AllReady.cons rfl (fun K hK => ?_) ?_
                · have d4y : (x1.alloc (.cells #[.string xk, .int .u64 xq, .int .i64 xc, .string xv] 85)).cell? ⟨g, 4, none⟩ = some (.slice ea EL ec) := cell_of (HX1.later (box_below x1 _)).blk 4 _ rfl
                  go_simp
                  refine hK _ _ ?_
                  clear hK K
                  refine wpAny_ready (rs := [12]) (by kernel_rfl) (by simp) ?_
                  refine AllReady.cons rfl (fun K hK => ?_) ?_
                  · obtain ⟨v5, W5, r5, o5, g5, q5⟩ := app_entry x1 base (.slice ea EL ec) es ⟨xk, xq, xc, xv⟩ HX1.on (by have := hEL.out; omega) HX1.base
                    dsimp only at r5
                    obtain ⟨a5, n5, c5, rfl⟩ : ∃ a5 n5 c5, v5 = .slice a5 n5 c5 := by
                      rcases o5.2 with ⟨h1, h2⟩ | ⟨g5', c5, cur, h1, _⟩
                      · exact ⟨none, 0, 0, h1⟩
                      · exact ⟨_, _, _, h1⟩
                    obtain ⟨R5, B5, d5, f5⟩ := set_ents HX1 g5 o5
                    refine wp_append_run _ _ _ _ rfl _ _ _ rfl rfl r5 ?_
                    go_simp
                    refine hK _ _ ?_
                    clear hK K
                    refine wpAny_take (i := 13) (v := ?v25) rfl (by kernel_rfl) (by kernel_rfl) (by kernel_rfl) (fun _ _ _ h => h) (Or.inl ⟨by rfl, ?h25⟩) ?_
                    case h25 => (intro w; go_simp; try (with_reducible rfl))
                    go_simp
                    refine wpAny_take (i := 14) (v := ?v26) rfl (by kernel_rfl) (by kernel_rfl) (by kernel_rfl) (fun _ _ _ h => h) (Or.inl ⟨by rfl, ?h26⟩) ?_
                    case h26 => (intro w; go_simp; try (with_reducible rfl))
                    go_simp
                    refine wpAny_ready (rs := [15]) (by kernel_rfl) (by simp) ?_
                    refine AllReady.cons rfl (fun K hK => ?_) ?_
                    · go_simp
                      refine hK _ _ ?_
                      clear hK K
                      refine wpAny_done (by kernel_rfl) ?_ _
                      have B9 : Hid (Below base w (W5.setCell ⟨g, 4, none⟩ (.slice a5 n5 c5))) := BD2.out.trans (bx1.trans B5)
                      replace R5 := hid R5
                      clear r5 o5 g5 q5 d5 f5 B5
                      go_end0
                      exact ⟨⟨_, rfl⟩, ⟨pl', _, _, hPP.out, R5.out⟩, B9.out⟩
                    exact AllReady.nil
                  exact AllReady.nil
                exact AllReady.nil
              exact AllReady.nil
            exact AllReady.nil
          exact AllReady.nil
        refine AllReady.cons rfl (fun K hK => ?_) ?_
        · go_simp
          go_wp2_with fail
          refine HTB2.out.mono ?_
          rintro e x1 ⟨⟨bo1, rfl, hbo1⟩, HX1, bx1, fx1⟩
          have d4x : x1.cell? ⟨g, 4, none⟩ = some (.slice ea EL ec) := cell_of HX1.blk 4 _ rfl
          have k6x := KB10.out x1 fx1
          have z0 := cell_of k6x 0 _ rfl
          have z1 := cell_of k6x 1 _ rfl
          have z2 := cell_of k6x 2 _ rfl
          have cv : Sem.run Try.prog (convert 28 9 (.slice (some ⟨bb, bo1, none⟩) vs (bc - (a3 + m)))) x1 = .ok (.string xv) x1 := by
            have h1 := conv_run x1 (some ⟨bb, bo1, none⟩) vs (bc - (a3 + m)) ((zs.drop (a3 + m)).take vs) (by rw [t2.out, tx_len, hvsd.out]) (fun e => by cases e) (fun y hy i hi => by cases hy; exact cut_bytes (HZ.out x1 (BD2.out.trans bx1)) (a3 + m) vs bo1 (by have := hfit.out; omega) hbo1 i hi)
            rw [t2.out, hvst.out] at h1
            exact h1
          refine hK _ _ ?_
          clear hK K k6x
          refine wpAny_ready (rs := [4, 5, 9]) (by kernel_rfl) (by simp) ?_
          refine AllReady.cons rfl (fun K hK => ?_) ?_
          · go_simp
            refine hK _ _ ?_
            clear hK K
            refine wpAny_ready (rs := [5, 9]) (by kernel_rfl) (by simp) ?_
            refine AllReady.cons rfl (fun K hK => ?_) ?_
            · go_simp
              refine hK _ _ ?_
              clear hK K
              refine wpAny_ready (rs := [9]) (by kernel_rfl) (by simp) ?_
              refine AllReady.cons rfl (fun K hK => ?_) ?_
              · go_simp
                refine hK _ _ ?_
                clear hK K
                refine wpAny_take (i := 10) (v := ?v27) rfl (by kernel_rfl) (by kernel_rfl) (by kernel_rfl) (fun _ _ _ h => h) (Or.inl ⟨by rfl, ?h27⟩) ?_
                case h27 => (intro w; go_simp; try (with_reducible rfl))
                go_simp
                refine wpAny_ready (rs := [11]) (by kernel_rfl) (by simp) ?_
                refine AllReady.cons rfl (fun K hK => ?_) ?_
                · go_simp
                  refine hK _ _ ?_
                  clear hK K
                  refine wpAny_ready (rs := [12]) (by kernel_rfl) (by simp) ?_
                  refine AllReady.cons rfl (fun K hK => ?_) ?_
                  · obtain ⟨v5, W5, r5, o5, g5, q5⟩ := app_entry x1 base (.slice ea EL ec) es ⟨xk, xq, xc, xv⟩ HX1.on (by have := hEL.out; omega) HX1.base
                    dsimp only at r5
                    obtain ⟨a5, n5, c5, rfl⟩ : ∃ a5 n5 c5, v5 = .slice a5 n5 c5 := by
                      rcases o5.2 with ⟨h1, h2⟩ | ⟨g5', c5, cur, h1, _⟩
                      · exact ⟨none, 0, 0, h1⟩
                      · exact ⟨_, _, _, h1⟩
                    obtain ⟨R5, B5, d5, f5⟩ := set_ents HX1 g5 o5
                    refine wp_append_run _ _ _ _ rfl _ _ _ rfl rfl r5 ?_
                    go_simp
                    refine hK _ _ ?_
                    clear hK K
                    refine wpAny_take (i := 13) (v := ?v28) rfl (by kernel_rfl) (by kernel_rfl) (by kernel_rfl) (fun _ _ _ h => h) (Or.inl ⟨by rfl, ?h28⟩) ?_
                    case h28 => (intro w; go_simp; try (with_reducible rfl))
                    go_simp
                    refine wpAny_take (i := 14) (v := ?v29) rfl (by kernel_rfl) (by kernel_rfl) (by kernel_rfl) (fun _ _ _ h => h) (Or.inl ⟨by rfl, ?h29⟩) ?_
                    case h29 => (intro w; go_simp; try (with_reducible rfl))
                    go_simp
                    refine wpAny_ready (rs := [15]) (by kernel_rfl) (by simp) ?_
                    refine AllReady.cons rfl (fun K hK => ?_) ?_
                    · go_simp
                      refine hK _ _ ?_
                      clear hK K
                      refine wpAny_done (by kernel_rfl) ?_ _
                      have B9 : Hid (Below base w (W5.setCell ⟨g, 4, none⟩ (.slice a5 n5 c5))) := BD2.out.trans (bx1.trans B5)
                      replace R5 := hid R5
                      clear r5 o5 g5 q5 d5 f5 B5
                      go_end0
                      exact ⟨⟨_, rfl⟩, ⟨pl', _, _, hPP.out, R5.out⟩, B9.out⟩
                    exact AllReady.nil
                  exact AllReady.nil
                exact AllReady.nil
              exact AllReady.nil
            refine AllReady.cons rfl (fun K hK => ?_) ?_
            · go_simp
              refine hK _ _ ?_
              clear hK K
              refine wpAny_ready (rs := [5]) (by kernel_rfl) (by simp) ?_
              refine AllReady.cons rfl (fun K hK => ?_) ?_
              · go_simp
                refine hK _ _ ?_
                clear hK K
                refine wpAny_take (i := 10) (v := ?v30) rfl (by kernel_rfl) (by kernel_rfl) (by kernel_rfl) (fun _ _ _ h => h) (Or.inl ⟨by rfl, ?h30⟩) ?_
                case h30 => (intro w; go_simp; try (with_reducible rfl))
                go_simp
                refine wpAny_ready (rs := [11]) (by kernel_rfl) (by simp) ?_
                refine AllReady.cons rfl (fun K hK => ?_) ?_
                · go_simp
                  refine hK _ _ ?_
                  clear hK K
                  refine wpAny_ready (rs := [12]) (by kernel_rfl) (by simp) ?_
                  refine AllReady.cons rfl (fun K hK => ?_) ?_
                  · obtain ⟨v5, W5, r5, o5, g5, q5⟩ := app_entry x1 base (.slice ea EL ec) es ⟨xk, xq, xc, xv⟩ HX1.on (by have := hEL.out; omega) HX1.base
                    dsimp only at r5
                    obtain ⟨a5, n5, c5, rfl⟩ : ∃ a5 n5 c5, v5 = .slice a5 n5 c5 := by
                      rcases o5.2 with ⟨h1, h2⟩ | ⟨g5', c5, cur, h1, _⟩
                      · exact ⟨none, 0, 0, h1⟩
                      · exact ⟨_, _, _, h1⟩
                    obtain ⟨R5, B5, d5, f5⟩ := set_ents HX1 g5 o5
                    refine wp_append_run _ _ _ _ rfl _ _ _ rfl rfl r5 ?_
                    go_simp
                    refine hK _ _ ?_
                    clear hK K
                    refine wpAny_take (i := 13) (v := ?v31) rfl (by kernel_rfl) (by kernel_rfl) (by kernel_rfl) (fun _ _ _ h => h) (Or.inl ⟨by rfl, ?h31⟩) ?_
                    case h31 => (intro w; go_simp; try (with_reducible rfl))
                    go_simp
                    refine wpAny_take (i := 14) (v := ?v32) rfl (by kernel_rfl) (by kernel_rfl) (by kernel_rfl) (fun _ _ _ h => h) (Or.inl ⟨by rfl, ?h32⟩) ?_
                    case h32 => (intro w; go_simp; try (with_reducible rfl))
                    go_simp
                    refine wpAny_ready (rs := [15]) (by kernel_rfl) (by simp) ?_
                    refine AllReady.cons rfl (fun K hK => ?_) ?_
                    · go_simp
                      refine hK _ _ ?_
                      clear hK K
                      refine wpAny_done (by kernel_rfl) ?_ _
                      have B9 : Hid (Below base w (W5.setCell ⟨g, 4, none⟩ (.slice a5 n5 c5))) := BD2.out.trans (bx1.trans B5)
                      replace R5 := hid R5
                      clear r5 o5 g5 q5 d5 f5 B5
                      go_end0
                      exact ⟨⟨_, rfl⟩, ⟨pl', _, _, hPP.out, R5.out⟩, B9.out⟩
                    exact AllReady.nil
                  exact AllReady.nil
                exact AllReady.nil
              exact AllReady.nil
            exact AllReady.nil
          refine AllReady.cons rfl (fun K hK => ?_) ?_
          · go_simp
            refine hK _ _ ?_
            clear hK K
            refine wpAny_ready (rs := [4, 9]) (by kernel_rfl) (by simp) ?_
            refine AllReady.cons rfl (fun K hK => ?_) ?_
            · go_simp
              refine hK _ _ ?_
              clear hK K
              refine wpAny_ready (rs := [9]) (by kernel_rfl) (by simp) ?_
              refine AllReady.cons rfl (fun K hK => ?_) ?_
              · go_simp
                refine hK _ _ ?_
                clear hK K
                refine wpAny_take (i := 10) (v := ?v33) rfl (by kernel_rfl) (by kernel_rfl) (by kernel_rfl) (fun _ _ _ h => h) (Or.inl ⟨by rfl, ?h33⟩) ?_
                case h33 => (intro w; go_simp; try (with_reducible rfl))
                go_simp
                refine wpAny_ready (rs := [11]) (by kernel_rfl) (by simp) ?_
                refine AllReady.cons rfl (fun K hK => ?_) ?_
                · go_simp
                  refine hK _ _ ?_
                  clear hK K
                  refine wpAny_ready (rs := [12]) (by kernel_rfl) (by simp) ?_
                  refine AllReady.cons rfl (fun K hK => ?_) ?_
                  · obtain ⟨v5, W5, r5, o5, g5, q5⟩ := app_entry x1 base (.slice ea EL ec) es ⟨xk, xq, xc, xv⟩ HX1.on (by have := hEL.out; omega) HX1.base
                    dsimp only at r5
                    obtain ⟨a5, n5, c5, rfl⟩ : ∃ a5 n5 c5, v5 = .slice a5 n5 c5 := by
                      rcases o5.2 with ⟨h1, h2⟩ | ⟨g5', c5, cur, h1, _⟩
                      · exact ⟨none, 0, 0, h1⟩
                      · exact ⟨_, _, _, h1⟩
                    obtain ⟨R5, B5, d5, f5⟩ := set_ents HX1 g5 o5
                    refine wp_append_run _ _ _ _ rfl _ _ _ rfl rfl r5 ?_
                    go_simp
                    refine hK _ _ ?_
                    clear hK K
                    refine wpAny_take (i := 13) (v := ?v34) rfl (by kernel_rfl) (by kernel_rfl) (by kernel_rfl) (fun _ _ _ h => h) (Or.inl ⟨by rfl, ?h34⟩) ?_
                    case h34 => (intro w; go_simp; try (with_reducible rfl))
                    go_simp
                    refine wpAny_take (i := 14) (v := ?v35) rfl (by kernel_rfl) (by kernel_rfl) (by kernel_rfl) (fun _ _ _ h => h) (Or.inl ⟨by rfl, ?h35⟩) ?_
                    case h35 => (intro w; go_simp; try (with_reducible rfl))
                    go_simp
                    refine wpAny_ready (rs := [15]) (by kernel_rfl) (by simp) ?_
                    refine AllReady.cons rfl (fun K hK => ?_) ?_
                    · go_simp
                      refine hK _ _ ?_
                      clear hK K
                      refine wpAny_done (by kernel_rfl) ?_ _
                      have B9 : Hid (Below base w (W5.setCell ⟨g, 4, none⟩ (.slice a5 n5 c5))) := BD2.out.trans (bx1.trans B5)
                      replace R5 := hid R5
                      clear r5 o5 g5 q5 d5 f5 B5
                      go_end0
                      exact ⟨⟨_, rfl⟩, ⟨pl', _, _, hPP.out, R5.out⟩, B9.out⟩
                    exact AllReady.nil
                  exact AllReady.nil
                exact AllReady.nil
              exact AllReady.nil
            refine AllReady.cons rfl (fun K hK => ?_) ?_
            · go_simp
              refine hK _ _ ?_
              clear hK K
              refine wpAny_take (i := 10) (v := ?v36) rfl (by kernel_rfl) (by kernel_rfl) (by kernel_rfl) (fun _ _ _ h => h) (Or.inl ⟨by rfl, ?h36⟩) ?_
              case h36 => (intro w; go_simp; try (with_reducible rfl))
              go_simp
              refine wpAny_ready (rs := [4, 11]) (by kernel_rfl) (by simp) ?_
              refine AllReady.cons rfl (fun K hK => ?_) ?_
              · go_simp
                refine hK _ _ ?_
                clear hK K
                refine wpAny_ready (rs := [11]) (by kernel_rfl) (by simp) ?_
                refine AllReady.cons rfl (fun K hK => ?_) ?_
                · go_simp
                  refine hK _ _ ?_
                  clear hK K
                  refine wpAny_ready (rs := [12]) (by kernel_rfl) (by simp) ?_
                  refine AllReady.cons rfl (fun K hK => ?_) ?_
                  · obtain ⟨v5, W5, r5, o5, g5, q5⟩ := app_entry x1 base (.slice ea EL ec) es ⟨xk, xq, xc, xv⟩ HX1.on (by have := hEL.out; omega) HX1.base
                    dsimp only at r5
                    obtain ⟨a5, n5, c5, rfl⟩ : ∃ a5 n5 c5, v5 = .slice a5 n5 c5 := by
                      rcases o5.2 with ⟨h1, h2⟩ | ⟨g5', c5, cur, h1, _⟩
                      · exact ⟨none, 0, 0, h1⟩
                      · exact ⟨_, _, _, h1⟩
                    obtain ⟨R5, B5, d5, f5⟩ := set_ents HX1 g5 o5
                    refine wp_append_run _ _ _ _ rfl _ _ _ rfl rfl r5 ?_
                    go_simp
                    refine hK _ _ ?_
                    clear hK K
                    refine wpAny_take (i := 13) (v := ?v37) rfl (by kernel_rfl) (by kernel_rfl) (by kernel_rfl) (fun _ _ _ h => h) (Or.inl ⟨by rfl, ?h37⟩) ?_
                    case h37 => (intro w; go_simp; try (with_reducible rfl))
                    go_simp
                    refine wpAny_take (i := 14) (v := ?v38) rfl (by kernel_rfl) (by kernel_rfl) (by kernel_rfl) (fun _ _ _ h => h) (Or.inl ⟨by rfl, ?h38⟩) ?_
                    case h38 => (intro w; go_simp; try (with_reducible rfl))
                    go_simp
                    refine wpAny_ready (rs := [15]) (by kernel_rfl) (by simp) ?_
                    refine AllReady.cons rfl (fun K hK => ?_) ?_
                    · go_simp
                      refine hK _ _ ?_
                      clear hK K
                      refine wpAny_done (by kernel_rfl) ?_ _
                      have B9 : Hid (Below base w (W5.setCell ⟨g, 4, none⟩ (.slice a5 n5 c5))) := BD2.out.trans (bx1.trans B5)
                      replace R5 := hid R5
                      clear r5 o5 g5 q5 d5 f5 B5
                      go_end0
                      exact ⟨⟨_, rfl⟩, ⟨pl', _, _, hPP.out, R5.out⟩, B9.out⟩
                    exact AllReady.nil
                  exact AllReady.nil
                exact AllReady.nil
              refine AllReady.cons rfl (fun K hK => ?_) ?_
              · go_simp
                refine hK _ _ ?_
                clear hK K
                refine wpAny_ready (rs := [4]) (by kernel_rfl) (by simp) ?_
                refine AllReady.cons rfl (fun K hK => ?_) ?_
                · have d4y : (x1.alloc (.cells #[.string xk, .int .u64 xq, .int .i64 xc, .string xv] 85)).cell? ⟨g, 4, none⟩ = some (.slice ea EL ec) := cell_of (HX1.later (box_below x1 _)).blk 4 _ rfl
                  go_simp
                  refine hK _ _ ?_
                  clear hK K
                  refine wpAny_ready (rs := [12]) (by kernel_rfl) (by simp) ?_
                  refine AllReady.cons rfl (fun K hK => ?_) ?_
                  · obtain ⟨v5, W5, r5, o5, g5, q5⟩ := app_entry x1 base (.slice ea EL ec) es ⟨xk, xq, xc, xv⟩ HX1.on (by have := hEL.out; omega) HX1.base
                    dsimp only at r5
                    obtain ⟨a5, n5, c5, rfl⟩ : ∃ a5 n5 c5, v5 = .slice a5 n5 c5 := by
                      rcases o5.2 with ⟨h1, h2⟩ | ⟨g5', c5, cur, h1, _⟩
                      · exact ⟨none, 0, 0, h1⟩
                      · exact ⟨_, _, _, h1⟩
                    obtain ⟨R5, B5, d5, f5⟩ := set_ents HX1 g5 o5
                    refine wp_append_run _ _ _ _ rfl _ _ _ rfl rfl r5 ?_
                    go_simp
                    refine hK _ _ ?_
                    clear hK K
                    refine wpAny_take (i := 13) (v := ?v39) rfl (by kernel_rfl) (by kernel_rfl) (by kernel_rfl) (fun _ _ _ h => h) (Or.inl ⟨by rfl, ?h39⟩) ?_
                    case h39 => (intro w; go_simp; try (with_reducible rfl))
                    go_simp
                    refine wpAny_take (i := 14) (v := ?v40) rfl (by kernel_rfl) (by kernel_rfl) (by kernel_rfl) (fun _ _ _ h => h) (Or.inl ⟨by rfl, ?h40⟩) ?_
                    case h40 => (intro w; go_simp; try (with_reducible rfl))
                    go_simp
                    refine wpAny_ready (rs := [15]) (by kernel_rfl) (by simp) ?_
                    refine AllReady.cons rfl (fun K hK => ?_) ?_
                    · go_simp
                      refine hK _ _ ?_
                      clear hK K
                      refine wpAny_done (by kernel_rfl) ?_ _
                      have B9 : Hid (Below base w (W5.setCell ⟨g, 4, none⟩ (.slice a5 n5 c5))) := BD2.out.trans (bx1.trans B5)
                      replace R5 := hid R5
                      clear r5 o5 g5 q5 d5 f5 B5
                      go_end0
                      exact ⟨⟨_, rfl⟩, ⟨pl', _, _, hPP.out, R5.out⟩, B9.out⟩
                    exact AllReady.nil
                  exact AllReady.nil
                exact AllReady.nil
              exact AllReady.nil
            exact AllReady.nil
          refine AllReady.cons rfl (fun K hK => ?_) ?_
          · go_simp
            refine hK _ _ ?_
            clear hK K
            refine wpAny_ready (rs := [4, 5]) (by kernel_rfl) (by simp) ?_
            refine AllReady.cons rfl (fun K hK => ?_) ?_
            · go_simp
              refine hK _ _ ?_
              clear hK K
              refine wpAny_ready (rs := [5]) (by kernel_rfl) (by simp) ?_
              refine AllReady.cons rfl (fun K hK => ?_) ?_
              · go_simp
                refine hK _ _ ?_
                clear hK K
                refine wpAny_take (i := 10) (v := ?v41) rfl (by kernel_rfl) (by kernel_rfl) (by kernel_rfl) (fun _ _ _ h => h) (Or.inl ⟨by rfl, ?h41⟩) ?_
                case h41 => (intro w; go_simp; try (with_reducible rfl))
                go_simp
                refine wpAny_ready (rs := [11]) (by kernel_rfl) (by simp) ?_
                refine AllReady.cons rfl (fun K hK => ?_) ?_
                · go_simp
                  refine hK _ _ ?_
                  clear hK K
                  refine wpAny_ready (rs := [12]) (by kernel_rfl) (by simp) ?_
                  refine AllReady.cons rfl (fun K hK => ?_) ?_
                  · obtain ⟨v5, W5, r5, o5, g5, q5⟩ := app_entry x1 base (.slice ea EL ec) es ⟨xk, xq, xc, xv⟩ HX1.on (by have := hEL.out; omega) HX1.base
                    dsimp only at r5
                    obtain ⟨a5, n5, c5, rfl⟩ : ∃ a5 n5 c5, v5 = .slice a5 n5 c5 := by
                      rcases o5.2 with ⟨h1, h2⟩ | ⟨g5', c5, cur, h1, _⟩
                      · exact ⟨none, 0, 0, h1⟩
                      · exact ⟨_, _, _, h1⟩
                    obtain ⟨R5, B5, d5, f5⟩ := set_ents HX1 g5 o5
                    refine wp_append_run _ _ _ _ rfl _ _ _ rfl rfl r5 ?_
                    go_simp
                    refine hK _ _ ?_
                    clear hK K
                    refine wpAny_take (i := 13) (v := ?v42) rfl (by kernel_rfl) (by kernel_rfl) (by kernel_rfl) (fun _ _ _ h => h) (Or.inl ⟨by rfl, ?h42⟩) ?_
                    case h42 => (intro w; go_simp; try (with_reducible rfl))
                    go_simp
                    refine wpAny_take (i := 14) (v := ?v43) rfl (by kernel_rfl) (by kernel_rfl) (by kernel_rfl) (fun _ _ _ h => h) (Or.inl ⟨by rfl, ?h43⟩) ?_
                    case h43 => (intro w; go_simp; try (with_reducible rfl))
                    go_simp
                    refine wpAny_ready (rs := [15]) (by kernel_rfl) (by simp) ?_
                    refine AllReady.cons rfl (fun K hK => ?_) ?_
                    · go_simp
                      refine hK _ _ ?_
                      clear hK K
                      refine wpAny_done (by kernel_rfl) ?_ _
                      have B9 : Hid (Below base w (W5.setCell ⟨g, 4, none⟩ (.slice a5 n5 c5))) := BD2.out.trans (bx1.trans B5)
                      replace R5 := hid R5
                      clear r5 o5 g5 q5 d5 f5 B5
                      go_end0
                      exact ⟨⟨_, rfl⟩, ⟨pl', _, _, hPP.out, R5.out⟩, B9.out⟩
                    exact AllReady.nil
                  exact AllReady.nil
                exact AllReady.nil
              exact AllReady.nil
            refine AllReady.cons rfl (fun K hK => ?_) ?_
            · go_simp
              refine hK _ _ ?_
              clear hK K
              refine wpAny_take (i := 10) (v := ?v44) rfl (by kernel_rfl) (by kernel_rfl) (by kernel_rfl) (fun _ _ _ h => h) (Or.inl ⟨by rfl, ?h44⟩) ?_
              case h44 => (intro w; go_simp; try (with_reducible rfl))
              go_simp
              refine wpAny_ready (rs := [4, 11]) (by kernel_rfl) (by simp) ?_
              refine AllReady.cons rfl (fun K hK => ?_) ?_
              · go_simp
                refine hK _ _ ?_
                clear hK K
                refine wpAny_ready (rs := [11]) (by kernel_rfl) (by simp) ?_
                refine AllReady.cons rfl (fun K hK => ?_) ?_
                · go_simp
                  refine hK _ _ ?_
                  clear hK K
                  refine wpAny_ready (rs := [12]) (by kernel_rfl) (by simp) ?_
                  refine AllReady.cons rfl (fun K hK => ?_) ?_
                  · obtain ⟨v5, W5, r5, o5, g5, q5⟩ := app_entry x1 base (.slice ea EL ec) es ⟨xk, xq, xc, xv⟩ HX1.on (by have := hEL.out; omega) HX1.base
                    dsimp only at r5
                    obtain ⟨a5, n5, c5, rfl⟩ : ∃ a5 n5 c5, v5 = .slice a5 n5 c5 := by
                      rcases o5.2 with ⟨h1, h2⟩ | ⟨g5', c5, cur, h1, _⟩
                      · exact ⟨none, 0, 0, h1⟩
                      · exact ⟨_, _, _, h1⟩
                    obtain ⟨R5, B5, d5, f5⟩ := set_ents HX1 g5 o5
                    refine wp_append_run _ _ _ _ rfl _ _ _ rfl rfl r5 ?_
                    go_simp
                    refine hK _ _ ?_
                    clear hK K
                    refine wpAny_take (i := 13) (v := ?v45) rfl (by kernel_rfl) (by kernel_rfl) (by kernel_rfl) (fun _ _ _ h => h) (Or.inl ⟨by rfl, ?h45⟩) ?_
                    case h45 => (intro w; go_simp; try (with_reducible rfl))
                    go_simp
                    refine wpAny_take (i := 14) (v := ?v46) rfl (by kernel_rfl) (by kernel_rfl) (by kernel_rfl) (fun _ _ _ h => h) (Or.inl ⟨by rfl, ?h46⟩) ?_
                    case h46 => (intro w; go_simp; try (with_reducible rfl))
                    go_simp
                    refine wpAny_ready (rs := [15]) (by kernel_rfl) (by simp) ?_
                    refine AllReady.cons rfl (fun K hK => ?_) ?_
                    · go_simp
                      refine hK _ _ ?_
                      clear hK K
                      refine wpAny_done (by kernel_rfl) ?_ _
                      have B9 : Hid (Below base w (W5.setCell ⟨g, 4, none⟩ (.slice a5 n5 c5))) := BD2.out.trans (bx1.trans B5)
                      replace R5 := hid R5
                      clear r5 o5 g5 q5 d5 f5 B5
                      go_end0
                      exact ⟨⟨_, rfl⟩, ⟨pl', _, _, hPP.out, R5.out⟩, B9.out⟩
                    exact AllReady.nil
                  exact AllReady.nil
                exact AllReady.nil
              refine AllReady.cons rfl (fun K hK => ?_) ?_
              · go_simp
                refine hK _ _ ?_
                clear hK K
                refine wpAny_ready (rs := [4]) (by kernel_rfl) (by simp) ?_
                refine AllReady.cons rfl (fun K hK => ?_) ?_
                · have d4y : (x1.alloc (.cells #[.string xk, .int .u64 xq, .int .i64 xc, .string xv] 85)).cell? ⟨g, 4, none⟩ = some (.slice ea EL ec) := cell_of (HX1.later (box_below x1 _)).blk 4 _ rfl
                  go_simp
                  refine hK _ _ ?_
                  clear hK K
                  refine wpAny_ready (rs := [12]) (by kernel_rfl) (by simp) ?_
                  refine AllReady.cons rfl (fun K hK => ?_) ?_
                  · obtain ⟨v5, W5, r5, o5, g5, q5⟩ := app_entry x1 base (.slice ea EL ec) es ⟨xk, xq, xc, xv⟩ HX1.on (by have := hEL.out; omega) HX1.base
                    dsimp only at r5
                    obtain ⟨a5, n5, c5, rfl⟩ : ∃ a5 n5 c5, v5 = .slice a5 n5 c5 := by
                      rcases o5.2 with ⟨h1, h2⟩ | ⟨g5', c5, cur, h1, _⟩
                      · exact ⟨none, 0, 0, h1⟩
                      · exact ⟨_, _, _, h1⟩
                    obtain ⟨R5, B5, d5, f5⟩ := set_ents HX1 g5 o5
                    refine wp_append_run _ _ _ _ rfl _ _ _ rfl rfl r5 ?_
                    go_simp
                    refine hK _ _ ?_
                    clear hK K
                    refine wpAny_take (i := 13) (v := ?v47) rfl (by kernel_rfl) (by kernel_rfl) (by kernel_rfl) (fun _ _ _ h => h) (Or.inl ⟨by rfl, ?h47⟩) ?_
                    case h47 => (intro w; go_simp; try (with_reducible rfl))
                    go_simp
                    refine wpAny_take (i := 14) (v := ?v48) rfl (by kernel_rfl) (by kernel_rfl) (by kernel_rfl) (fun _ _ _ h => h) (Or.inl ⟨by rfl, ?h48⟩) ?_
                    case h48 => (intro w; go_simp; try (with_reducible rfl))
                    go_simp
                    refine wpAny_ready (rs := [15]) (by kernel_rfl) (by simp) ?_
                    refine AllReady.cons rfl (fun K hK => ?_) ?_
                    · go_simp
                      refine hK _ _ ?_
                      clear hK K
                      refine wpAny_done (by kernel_rfl) ?_ _
                      have B9 : Hid (Below base w (W5.setCell ⟨g, 4, none⟩ (.slice a5 n5 c5))) := BD2.out.trans (bx1.trans B5)
                      replace R5 := hid R5
                      clear r5 o5 g5 q5 d5 f5 B5
                      go_end0
                      exact ⟨⟨_, rfl⟩, ⟨pl', _, _, hPP.out, R5.out⟩, B9.out⟩
                    exact AllReady.nil
                  exact AllReady.nil
                exact AllReady.nil
              exact AllReady.nil
            exact AllReady.nil
          exact AllReady.nil
        exact AllReady.nil
      refine wp_region_any (by kernel_rfl) ?_
      change wpAny _ _ _ _ _ _ _ (World.drew _)
      rw [← hD.out]
      refine wpAny_take (i := 0) (v := ?v49) rfl (by kernel_rfl) (by kernel_rfl) (by kernel_rfl) (fun _ _ _ h => h) (Or.inl ⟨by rfl, ?h49⟩) ?_
      case h49 => (intro w; go_simp; try (with_reducible rfl))
      go_simp
      refine wpAny_take (i := 1) (v := ?v50) rfl (by kernel_rfl) (by kernel_rfl) (by kernel_rfl) (fun _ _ _ h => h) (Or.inl ⟨by rfl, ?h50⟩) ?_
      case h50 => (intro w; go_simp; try (with_reducible rfl))
      go_simp
      refine wpAny_take (i := 2) (v := ?v51) rfl (by kernel_rfl) (by kernel_rfl) (by kernel_rfl) (fun _ _ _ h => h) (Or.inl ⟨by rfl, ?h51⟩) ?_
      case h51 => (intro w; go_simp; try (with_reducible rfl))
      go_simp
      refine wpAny_take (i := 3) (v := ?v52) rfl (by kernel_rfl) (by kernel_rfl) (by kernel_rfl) (fun _ _ _ h => h) (Or.inl ⟨by rfl, ?h52⟩) ?_
      case h52 => (intro w; go_simp; try (with_reducible rfl))
      go_simp
      refine wpAny_take (i := 5) (v := ?v53) rfl (by kernel_rfl) (by kernel_rfl) (by kernel_rfl) (fun _ _ _ h => h) (Or.inl ⟨by rfl, ?h53⟩) ?_
      case h53 => (intro w; go_simp; try (with_reducible rfl))
      go_simp
      refine wpAny_take (i := 7) (v := ?v54) rfl (by kernel_rfl) (by kernel_rfl) (by kernel_rfl) (fun _ _ _ h => h) (Or.inl ⟨by rfl, ?h54⟩) ?_
      case h54 => (intro w; go_simp; try (with_reducible rfl))
      go_simp
      refine wpAny_take (i := 8) (v := ?v55) rfl (by kernel_rfl) (by kernel_rfl) (by kernel_rfl) (fun _ _ _ h => h) (Or.inl ⟨by rfl, ?h55⟩) ?_
      case h55 => (intro w; go_simp; try (with_reducible rfl))
      go_simp
      refine wpAny_ready (rs := [4, 9]) (by kernel_rfl) (by simp) ?_
      refine AllReady.cons rfl (fun K hK => ?_) ?_
      · go_simp
        refine hK _ _ ?_
        clear hK K
        refine wpAny_take (i := 6) (v := ?v56) rfl (by kernel_rfl) (by kernel_rfl) (by kernel_rfl) (fun _ _ _ h => h) (Or.inl ⟨by rfl, ?h56⟩) ?_
        case h56 => (intro w; go_simp; try (with_reducible rfl))
        go_simp
        refine wpAny_ready (rs := [9]) (by kernel_rfl) (by simp) ?_
        refine AllReady.cons rfl (fun K hK => ?_) ?_
        · go_simp
          go_wp2_with fail
          refine HTB.out.mono ?_
          rintro e x1 ⟨⟨bo1, rfl, hbo1⟩, HX1, bx1, fx1⟩
          have d3x : x1.cell? ⟨g, 3, none⟩ = some (.slice ka KL kc) := cell_of HX1.blk 3 _ rfl
          refine hK _ _ ?_
          clear hK K
          refine wpAny_ready (rs := [10]) (by kernel_rfl) (by simp) ?_
          refine AllReady.cons rfl (fun K hK => ?_) ?_
          · obtain ⟨v5, W5, r5, o5, g5, q5⟩ := app_bytes x1 base (.slice ka sh kc) (key.take sh) (own_take HX1.ok sh (by omega)).1 ⟨bb, bo1, none⟩ m (bc - a3) ((zs.drop a3).take m) (by rw [t1.out, List.length_drop, hmd.out]) (cut_bytes (HZ.out x1 (BD.out.trans bx1)) a3 m bo1 (by have := hfit.out; omega) hbo1) (by rw [List.length_take]; have := hfit.out; omega) HX1.base
            rw [(own_take HX1.ok sh (by omega)).2] at g5
            rw [t1.out, hKZ.out] at o5
            obtain ⟨a5, c5, rfl, -, -, -⟩ := o5.shape
            obtain ⟨R5, B5, d5, f5⟩ := set_key HX1 g5 o5
            refine wp_append_run _ _ _ _ rfl _ _ _ rfl rfl r5 ?_
            go_simp
            refine hK _ _ ?_
            clear hK K
            refine wpAny_take (i := 11) (v := ?v57) rfl (by kernel_rfl) (by kernel_rfl) (by kernel_rfl) (fun _ _ _ h => h) (Or.inl ⟨by rfl, ?h57⟩) ?_
            case h57 => (intro w; go_simp; try (with_reducible rfl))
            go_simp
            refine wpAny_take (i := 12) (v := ?v58) rfl (by kernel_rfl) (by kernel_rfl) (by kernel_rfl) (fun _ _ _ h => h) (Or.inl ⟨by rfl, ?h58⟩) ?_
            case h58 => (intro w; go_simp; try (with_reducible rfl))
            go_simp
            refine wpAny_ready (rs := [13]) (by kernel_rfl) (by simp) ?_
            refine AllReady.cons rfl (fun K hK => ?_) ?_
            · go_simp
              refine hK _ _ ?_
              clear hK K
              refine wpAny_done (by kernel_rfl) ?_ _
              exact key6 _ _ _ _ _ _ _ _ _ _ _ _ _ _ _ _ _ _ _ _ _ _ _ _ _ _ _ _ _ _ _ _ _ _ _ _ _ _ _ _ _ _ _ _ _ _ _ _ _ _ _ _ _ R5 (BD.out.trans (bx1.trans B5))
            exact AllReady.nil
          exact AllReady.nil
        exact AllReady.nil
      refine AllReady.cons rfl (fun K hK => ?_) ?_
      · go_simp
        go_wp2_with fail
        refine HTB.out.mono ?_
        rintro e x1 ⟨⟨bo1, rfl, hbo1⟩, HX1, bx1, fx1⟩
        have d3x : x1.cell? ⟨g, 3, none⟩ = some (.slice ka KL kc) := cell_of HX1.blk 3 _ rfl
        refine hK _ _ ?_
        clear hK K
        refine wpAny_ready (rs := [4]) (by kernel_rfl) (by simp) ?_
        refine AllReady.cons rfl (fun K hK => ?_) ?_
        · go_simp
          refine hK _ _ ?_
          clear hK K
          refine wpAny_take (i := 6) (v := ?v59) rfl (by kernel_rfl) (by kernel_rfl) (by kernel_rfl) (fun _ _ _ h => h) (Or.inl ⟨by rfl, ?h59⟩) ?_
          case h59 => (intro w; go_simp; try (with_reducible rfl))
          go_simp
          refine wpAny_ready (rs := [10]) (by kernel_rfl) (by simp) ?_
          refine AllReady.cons rfl (fun K hK => ?_) ?_
          · obtain ⟨v5, W5, r5, o5, g5, q5⟩ := app_bytes x1 base (.slice ka sh kc) (key.take sh) (own_take HX1.ok sh (by omega)).1 ⟨bb, bo1, none⟩ m (bc - a3) ((zs.drop a3).take m) (by rw [t1.out, List.length_drop, hmd.out]) (cut_bytes (HZ.out x1 (BD.out.trans bx1)) a3 m bo1 (by have := hfit.out; omega) hbo1) (by rw [List.length_take]; have := hfit.out; omega) HX1.base
            rw [(own_take HX1.ok sh (by omega)).2] at g5
            rw [t1.out, hKZ.out] at o5
            obtain ⟨a5, c5, rfl, -, -, -⟩ := o5.shape
            obtain ⟨R5, B5, d5, f5⟩ := set_key HX1 g5 o5
            refine wp_append_run _ _ _ _ rfl _ _ _ rfl rfl r5 ?_
            go_simp
            refine hK _ _ ?_
            clear hK K
            refine wpAny_take (i := 11) (v := ?v60) rfl (by kernel_rfl) (by kernel_rfl) (by kernel_rfl) (fun _ _ _ h => h) (Or.inl ⟨by rfl, ?h60⟩) ?_
            case h60 => (intro w; go_simp; try (with_reducible rfl))
            go_simp
            refine wpAny_take (i := 12) (v := ?v61) rfl (by kernel_rfl) (by kernel_rfl) (by kernel_rfl) (fun _ _ _ h => h) (Or.inl ⟨by rfl, ?h61⟩) ?_
            case h61 => (intro w; go_simp; try (with_reducible rfl))
            go_simp
            refine wpAny_ready (rs := [13]) (by kernel_rfl) (by simp) ?_
            refine AllReady.cons rfl (fun K hK => ?_) ?_
            · go_simp
              refine hK _ _ ?_
              clear hK K
              refine wpAny_done (by kernel_rfl) ?_ _
              exact key6 _ _ _ _ _ _ _ _ _ _ _ _ _ _ _ _ _ _ _ _ _ _ _ _ _ _ _ _ _ _ _ _ _ _ _ _ _ _ _ _ _ _ _ _ _ _ _ _ _ _ _ _ _ R5 (BD.out.trans (bx1.trans B5))
            exact AllReady.nil
          exact AllReady.nil
        exact AllReady.nil
      exact AllReady.nil
    rcases hcase.out with ⟨rfl, hsb⟩ | ⟨rfl, hdE, hsb⟩ | ⟨rfl, hdE, hsb⟩
    · go_wp2_with fail
      refine (HM.out w4).mono ?_
      rintro e w4 ⟨rfl, rfl⟩
      go_wp2_with fail
      exact key4 _ _ _ _ _ _ _ _ _ _ _ _ _ _ _ _ _ _ _ _ _ _ _ _ _
    · go_wp2_with fail
      refine (HM.out w4).mono ?_
      rintro e w4 ⟨rfl, rfl⟩
      go_wp2_with fail
      exact key4 _ _ _ _ _ _ _ _ _ _ _ _ _ _ _ _ _ _ _ _ _ _ _ _ _
    · go_wp2_with fail
      refine (HM.out w4).mono ?_
      rintro e w4 ⟨rfl, rfl⟩
      go_wp2_with fail
      exact key4 _ _ _ _ _ _ _ _ _ _ _ _ _ _ _ _ _ _ _ _ _ _ _ _ _
  rcases hcase.out with ⟨rfl, hsb⟩ | ⟨rfl, hdE, hsb⟩ | ⟨rfl, hdE, hsb⟩
  · go_wp2_with fail
    refine (HM.out w1).mono ?_
    rintro e w1 ⟨rfl, rfl⟩
    go_wp2_with fail
    exact key2 _ _ _ _ _ _ _ _ _ _ _ _
  · go_wp2_with fail
    refine (HM.out w1).mono ?_
    rintro e w1 ⟨rfl, rfl⟩
    go_wp2_with fail
    exact key2 _ _ _ _ _ _ _ _ _ _ _ _
  · go_wp2_with fail
    refine (HM.out w1).mono ?_
    rintro e w1 ⟨rfl, rfl⟩
    go_wp2_with fail
    exact key2 _ _ _ _ _ _ _ _ _ _ _ _
end Go.Proofs.Ytkanjbeijoeenaa.Te

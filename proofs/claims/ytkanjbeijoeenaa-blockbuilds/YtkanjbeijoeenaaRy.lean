/- The document's Bytes. -/
import Derived.Test.YtkanjbeijoeenaaRb
namespace Go.Proofs.Ytkanjbeijoeenaa.Ry
open Go.ChangeShapes Go.WideShapes Go.ChangeAt Go.RowKit
open Go.Sort (grow)
open Go.Proofs.Ytkanjbeijoeenaa.By
open Go.Proofs.Ytkanjbeijoeenaa.Bl
open Go.Proofs.Ytkanjbeijoeenaa.Bn
open Go.Proofs.Ytkanjbeijoeenaa.Bm
open Go.Proofs.Ytkanjbeijoeenaa.Bb
open Go.Proofs.Ytkanjbeijoeenaa.Rl
open Go.Proofs.Ytkanjbeijoeenaa.Rv
open Go.Proofs.Ytkanjbeijoeenaa.Rb
open Go.Proofs.Ytkanjbeijoeenaa.Bp (row_of)
open Go.Proofs.Ytkanjbeijoeenaa.En (rencode_yes vld)
open Go.Proofs.Ytkanjbeijoeenaa.Ik
open Go.Proofs.Ytkanjbeijoeenaa.Oi (wts)
open Go.Proofs.Ytkanjbeijoeenaa.Mb (hid box_below blk_lt new_at size_alloc cell_of fz_of Fp own_blocks own_lt E ze At4 Ents OwnE drew_below drewN_below)
set_option linter.unusedVariables false
set_option linter.unusedSimpArgs false

end Go.Proofs.Ytkanjbeijoeenaa.Ry
namespace Go.Proofs.Ytkanjbeijoeenaa.Rb
open Go.ChangeShapes Go.WideShapes Go.ChangeAt Go.RowKit
open Go.Sort (grow)
open Go.Proofs.Ytkanjbeijoeenaa.By
open Go.Proofs.Ytkanjbeijoeenaa.Bl
open Go.Proofs.Ytkanjbeijoeenaa.Bn
open Go.Proofs.Ytkanjbeijoeenaa.Bm
open Go.Proofs.Ytkanjbeijoeenaa.Bb
open Go.Proofs.Ytkanjbeijoeenaa.Rl
open Go.Proofs.Ytkanjbeijoeenaa.Rv
open Go.Proofs.Ytkanjbeijoeenaa.Rb
open Go.Proofs.Ytkanjbeijoeenaa.Bp (row_of)
open Go.Proofs.Ytkanjbeijoeenaa.En (rencode_yes vld)
open Go.Proofs.Ytkanjbeijoeenaa.Ik
open Go.Proofs.Ytkanjbeijoeenaa.Oi (wts)
open Go.Proofs.Ytkanjbeijoeenaa.Mb (hid box_below blk_lt new_at size_alloc cell_of fz_of Fp own_blocks own_lt E ze At4 Ents OwnE drew_below drewN_below)
structure Sv (w0 w : World) (n0 : Nat) (vo vp : Value) (la : Option Addr) (ln lc : Nat) (ent pb last : List Int) : Prop where
  o : OwnB w n0 vo ent
  p : OwnB w n0 vp pb
  l : Bytes w la ln lc last
  op : ∀ j, vo.ownBlock = some j → vp.ownBlock ≠ some j
  ol : ∀ x, la = some x → vo.ownBlock ≠ some x.block ∧ vp.ownBlock ≠ some x.block ∧ x.block < w.heap.size
  bw : Below n0 w0 w
  hb : n0 ≤ w.heap.size
theorem Sv.key {w0 w w' : World} {n0 : Nat} {vo vp : Value} {la : Option Addr} {ln lc kg kn kc : Nat} {ent pb last kz : List Int} (h : Sv w0 w n0 vo vp la ln lc ent pb last) (K : Bytes w' (some ⟨kg, 0, none⟩) kn kc kz) (hk : 0 < kn) (hg : w.heap.size ≤ kg) (b : Below w.heap.size w w') : St w0 w' n0 vo vp la ln lc kg kn kc ent pb last kz :=
  ⟨h.o.later b, h.p.later b, bytes_kept h.l b, K, h.op, fun x hx => ⟨(h.ol x hx).1, (h.ol x hx).2.1, Nat.lt_of_lt_of_le (h.ol x hx).2.2 b.size⟩, ⟨fun e => by have := (own_lt h.o _ e).2; omega, fun e => by have := (own_lt h.p _ e).2; omega, by have := block_lt_of_cell (K.2.2.2.2 _ rfl 0 hk); simpa [addr_add] using this⟩, h.bw.trans (b.mono h.hb), Nat.le_trans h.hb b.size⟩
theorem St.next {w0 w : World} {n0 : Nat} {vo vp : Value} {la : Option Addr} {ln lc kg kn kc : Nat} {ent pb last kz : List Int} (h : St w0 w n0 vo vp la ln lc kg kn kc ent pb last kz) : Sv w0 w n0 vo vp (some ⟨kg, 0, none⟩) kn kc ent pb kz :=
  ⟨h.o, h.p, h.k, h.op, fun x hx => by cases hx; exact h.ok, h.bw, h.hb⟩
theorem St.app {w0 w : World} {n0 : Nat} {vo vp : Value} {la : Option Addr} {ln lc kg kn kc : Nat} {ent pb last kz : List Int} (h : St w0 w n0 vo vp la ln lc kg kn kc ent pb last kz) (a : Addr) (m c : Nat) (ys : List Int) (hy : ys.length = m) (hc : ∀ i, i < m → w.cell? (a.add i) = some (.int .u8 (ys.getD i 0))) (hn : ent.length + m ≤ 70368744177664) :
    ∃ v' w', (Builtin.append_ #[28, 28] 28 #[vo, .slice (some a) m c]).run Try.prog w = .ok v' w' ∧ St w0 w' n0 v' vp la ln lc kg kn kc (ent ++ ys) pb last kz := by
  obtain ⟨v5, W5, r5, o5, g5, q5⟩ := app_bytes w n0 vo ent h.o a m c ys hy hc hn h.hb
  exact ⟨v5, W5, r5, h.out g5 o5 (q_of q5 (Nat.le_refl _))⟩
theorem St.row {w0 w : World} {n0 : Nat} {vo vp : Value} {la : Option Addr} {ln lc kg kn kc : Nat} {ent pb last kz : List Int} (h : St w0 w n0 vo vp la ln lc kg kn kc ent pb last kz) {base g m c : Nat} {ys : List Int} (R : Row w base g m c ys) (hn : ent.length + m ≤ 70368744177664) :
    ∃ v' w', (Builtin.append_ #[28, 28] 28 #[vo, .slice (some ⟨g, 0, none⟩) m c]).run Try.prog w = .ok v' w' ∧ St w0 w' n0 v' vp la ln lc kg kn kc (ent ++ ys) pb last kz :=
  St.app h ⟨g, 0, none⟩ m c ys R.len (fun q hq => by rw [addr_add, Nat.zero_add]; exact R.cell q hq) hn
theorem St.text {w0 w : World} {n0 : Nat} {vo vp : Value} {la : Option Addr} {ln lc kg kn kc : Nat} {ent pb last kz : List Int} (h : St w0 w n0 vo vp la ln lc kg kn kc ent pb last kz) (hne : ent ≠ []) (s : ByteArray) (hn : ent.length + s.size ≤ 70368744177664) :
    ∃ v' w', (Builtin.append_ #[28, 9] 28 #[vo, .string s]).run Try.prog w = .ok v' w' ∧ St w0 w' n0 v' vp la ln lc kg kn kc (ent ++ tx s) pb last kz := by
  obtain ⟨ge, ce, hv, hr⟩ := row_of h.o hne
  obtain ⟨v7, W7, r7, o7, g7, q7⟩ := app_text w n0 ge ent.length ce _ hr s hn h.hb
  subst hv
  exact ⟨v7, W7, r7, h.out g7 o7 (q_of q7 (Nat.le_refl _))⟩
theorem St.drop {w0 w : World} {n0 : Nat} {vo vp : Value} {la : Option Addr} {ln lc kg kn kc : Nat} {ent pb last kz : List Int} (h : St w0 w n0 vo vp la ln lc kg kn kc ent pb last kz) (sh m c : Nat) (hm : sh + m = kn) (hn : ent.length + m ≤ 70368744177664) :
    ∃ v' w', (Builtin.append_ #[28, 28] 28 #[vo, .slice (some ⟨kg, sh, none⟩) m c]).run Try.prog w = .ok v' w' ∧ St w0 w' n0 v' vp la ln lc kg kn kc (ent ++ kz.drop sh) pb last kz := by
  have hk := h.k
  refine St.app h ⟨kg, sh, none⟩ m c (kz.drop sh) (by rw [List.length_drop, hk.1]; omega) (fun q hq => ?_) hn
  have h6 := hk.2.2.2.2 _ rfl (sh + q) (by omega)
  rw [addr_add, Nat.zero_add] at h6
  rw [addr_add, h6]
  simp [List.getD_eq_getElem?_getD]
end Go.Proofs.Ytkanjbeijoeenaa.Rb
namespace Go.Proofs.Ytkanjbeijoeenaa.Ry
open Go.ChangeShapes Go.WideShapes Go.ChangeAt Go.RowKit
open Go.Sort (grow)
open Go.Proofs.Ytkanjbeijoeenaa.By
open Go.Proofs.Ytkanjbeijoeenaa.Bl
open Go.Proofs.Ytkanjbeijoeenaa.Bn
open Go.Proofs.Ytkanjbeijoeenaa.Bm
open Go.Proofs.Ytkanjbeijoeenaa.Bb
open Go.Proofs.Ytkanjbeijoeenaa.Rl
open Go.Proofs.Ytkanjbeijoeenaa.Rv
open Go.Proofs.Ytkanjbeijoeenaa.Rb
open Go.Proofs.Ytkanjbeijoeenaa.Bp (row_of)
open Go.Proofs.Ytkanjbeijoeenaa.En (rencode_yes vld)
open Go.Proofs.Ytkanjbeijoeenaa.Ik
open Go.Proofs.Ytkanjbeijoeenaa.Oi (wts)
open Go.Proofs.Ytkanjbeijoeenaa.Mb (hid box_below blk_lt new_at size_alloc cell_of fz_of Fp own_blocks own_lt E ze At4 Ents OwnE drew_below drewN_below)
theorem plb_bytes (l : List Nat) : ∀ y ∈ plb l, 0 ≤ y ∧ y ≤ 255 := by
  intro y hy
  unfold plb at hy
  obtain ⟨p, _, hp⟩ := List.mem_flatMap.1 hy
  exact lb_bytes 4 _ y hp
theorem gd_cut {A B : List E} {x : E} (h : Gd (A ++ x :: B)) : Gd A ∧ may x = true ∧ 0 ≤ x.s ∧ beh A x = true := by
  obtain ⟨h1, h2⟩ := h
  obtain ⟨p1, p2, p3⟩ := List.pairwise_append.1 h2
  refine ⟨⟨fun y hy => h1 y (by simp [hy]), p1⟩, (h1 x (by simp)).1, (h1 x (by simp)).2, ?_⟩
  unfold beh
  cases hl : A.getLast? with
  | none => rfl
  | some y => exact decide_eq_true (p3 y (List.mem_of_getLast? hl) x (by simp))
theorem cut_shd (r : Nat) (xs : List E) (h : Gd xs) (i : Nat) (hi : i < xs.length) : shd (bst r (xs.take i)) (kbs (xs.getD i ze)) < (xs.getD i ze).k.size + 8 := by
  have hx : xs = xs.take i ++ xs.getD i ze :: xs.drop (i + 1) := by
    have e : xs.getD i ze = xs[i] := by simp [List.getD_eq_getElem?_getD, List.getElem?_eq_getElem hi]
    rw [e, ← List.drop_eq_getElem_cons hi, List.take_append_drop]
  rw [hx] at h
  obtain ⟨g1, g2, g3, g4⟩ := gd_cut h
  exact shd_lt r _ _ g1 g2 g3 g4
theorem cut_size (r : Nat) (xs : List E) (hL : wts xs ≤ 100000000) (i : Nat) : (bst r (xs.take i)).ent.length ≤ 800000000 ∧ (bst r (xs.take i)).pl.length ≤ 800000000 := by
  have h1 := wts_append (xs.take i) (xs.drop i)
  rw [List.take_append_drop] at h1
  have h2 := bst_ent r (xs.take i)
  have h3 := (bst_cnt r (xs.take i)).2.2
  have h4 := wts_len (xs.take i)
  omega

set_option maxRecDepth 100000 in
set_option maxHeartbeats 4000000 in
theorem rbytes_any (a : Option Addr) (n c r : Nat) (xs : List E) (w : World) (H : Ents w a n c xs) (hr : 1 ≤ r ∧ r ≤ 64) (hG : Gd xs) (hL : wts xs ≤ 100000000) :
    Calls Try.prog 11 #[.int .i64 (r : Int), .slice a n c] w fun e w' => ∃ v, e = .returned v ∧ OwnB w' w.heap.size v (blk (bst r xs)) ∧ Below w.heap.size w w' := by
  have hlen := H.1
  have hcap := H.2.1
  have hn9 : n ≤ 100000000 := by have := wts_len xs; omega
  obtain ⟨T, hT⟩ : ∃ T : Nat → BS, T = fun i => bst r (xs.take i) := ⟨_, rfl⟩
  have HT0 : Hid (T 0 = b0 r) := by show _ = _; rw [hT]; rfl
  have HTn : Hid (T n = bst r xs) := by show _ = _; rw [hT, ← hlen]; show bst r (xs.take xs.length) = _; rw [List.take_length]
  have HTs : Hid (∀ i, i < n → T (i + 1) = stp (T i) (kbs (xs.getD i ze)) (xs.getD i ze).v) := by
    intro i hi
    have hsn : xs.take (i + 1) = xs.take i ++ [xs.getD i ze] := by
      rw [List.take_succ_eq_append_getElem (by omega)]
      simp [List.getD_eq_getElem?_getD, List.getElem?_eq_getElem (show i < xs.length by omega)]
    rw [hT]
    show bst r (xs.take (i + 1)) = _
    rw [hsn, bst_snoc]
  have HTc : Hid (∀ i, i ≤ n → (T i).cnt = i ∧ (T i).r = r) := by
    intro i hi
    rw [hT]
    have := bst_cnt r (xs.take i)
    refine ⟨?_, this.2.1⟩
    show (bst r (xs.take i)).cnt = i
    rw [this.1, List.length_take]; omega
  have HTz : Hid (∀ i, (T i).ent.length ≤ 800000000 ∧ (T i).pl.length ≤ 800000000) := by
    intro i; rw [hT]; exact cut_size r xs hL i
  have HX : Hid (∀ i, i < n → (xs.getD i ze).ok ∧ may (xs.getD i ze) = true) := by
    intro i hi
    have hm : xs.getD i ze ∈ xs := by
      rw [List.getD_eq_getElem?_getD, List.getElem?_eq_getElem (show i < xs.length by omega)]
      exact List.getElem_mem _
    exact ⟨H.2.2.2.1 _ hm, (hG.1 _ hm).1⟩
  have HSD : Hid (∀ i, i < n → shd (T i) (kbs (xs.getD i ze)) < (xs.getD i ze).k.size + 8) := by
    intro i hi; rw [hT]; exact cut_shd r xs hG i (by omega)
  obtain ⟨R0, hR0⟩ : ∃ R0 : Int, R0 = (r : Int) := ⟨_, rfl⟩
  rw [← hR0]
  have hr0 : (R0 == 0) = false := by rw [beq_eq_false_iff_ne]; omega
  have hr1 : ¬ R0 = 0 := by omega
  have hr2 : R0 ≠ -1 := by omega
  have hR1 : 0 ≤ R0 := by omega
  have hR2 : R0 ≤ 64 := by omega
  replace hR0 := hid hR0
  replace hr := hid hr
  replace H := hid H
  clear hT hG hL hlen
  go_enter Try.func11, Try.ntmps11
  go_wp2_with fail
  go_loopw [5, 6, 7, 8, 9] (fun ov pv lv cv iv wr => ∃ (i : Nat) (la : Option Addr) (ln lc : Nat), i ≤ n ∧ iv = .int .i64 (i : Int) ∧ cv = .int .i64 ((T i).pl.length : Int) ∧ lv = .slice la ln lc ∧ Hid (0 < i → ∃ lg, la = some ⟨lg, 0, none⟩) ∧ Hid (Sv w wr w.heap.size ov pv la ln lc (T i).ent (plb (T i).pl) (T i).last)) (fun _ _ _ _ iv _ => n - (intOf iv).toNat)
  case atStart => exact ⟨0, none, 0, 0, by omega, rfl, by rw [HT0.out]; rfl, rfl, fun h => absurd h (by omega), by
    show Sv _ _ _ _ _ _ _ _ _ _ _
    rw [HT0.out]
    exact ⟨World.ownsRow_nil _ _ _ _, World.ownsRow_nil _ _ _ _, nil_bytes _, fun j hj => by simp [Value.ownBlock] at hj, fun x hx => by simp at hx, Below.refl _ _, Nat.le_refl _⟩⟩
  case round =>
    obtain ⟨i, la, ln, lc, hi, rfl, rfl, rfl, hla, HV⟩ := hrel
    have hz := HTz.out i
    have hcr := HTc.out i hi
    by_cases hin : i < n
    · have hi2 : (i : Int) < (n : Int) := by omega
      have hts := hid (HTs.out i hin)
      obtain ⟨hxo, hxm⟩ := HX.out i hin
      have hsd := HSD.out i hin
      cases a with
      | none => exact absurd (H.out.2.2.1 rfl).1 (by omega)
      | some ad =>
        obtain ⟨hb, ho, hp⟩ := ad
        obtain ⟨rfl, hat⟩ := H.out.2.2.2.2 hb ho hp rfl (by omega)
        have HAT : Hid (∀ W, Below w.heap.size w W → At4 W hb (ho + i * 4) (xs.getD i ze)) := fun W b => (hat i hin).later b
        clear hat
        generalize xs.getD i ze = x at *
        obtain ⟨l0, l1, l2, l3⟩ := HAT.out wr HV.out.bw
        obtain ⟨hvl, hvs⟩ := may_vld hxm
        have hk1 : x.k.size ≤ 1024 := by
          have := Kd.size_true (En.vld_true hvl).1
          omega
        have HEN := hid (rencode_yes x.k x.s x.c wr hxo.1 hxo.2.1.1 hvl)
        obtain ⟨oa, oc, hov, _, _, _⟩ := HV.out.o.shape
        obtain ⟨S, hS⟩ : ∃ S, S = T i := ⟨_, rfl⟩
        rw [← hS] at hz hcr hts HV hov hsd ⊢
        have hz1 := hz.1
        have hz2 := hz.2
        subst hov
        obtain ⟨kn, hkn⟩ : ∃ kn, kn = x.k.size + 8 := ⟨_, rfl⟩
        rw [← hkn] at HEN
        rw [← hkn] at hsd
        replace hsd := hid hsd
        have hkn1 : kn ≤ 1032 := by omega
        have hkn0 : 8 ≤ kn := by omega
        have hkz : Hid ((kbs x).length = kn) := by show _ = _; rw [kbs_len, hkn]
        replace hkn := hid hkn
        generalize hLE : S.ent.length = LE at *
        generalize hLP : S.pl.length = LP at *
        replace hcr := hid hcr
        replace hLE := hid hLE
        replace hLP := hid hLP
        replace hxo := hid hxo
        clear hvl hxm hz l3 hS
        go_wp2_with fail
        refine HEN.out.mono ?_
        rintro e x1 ⟨kg, kc, rfl, K1, hg1, b1⟩
        have S1 := hid (Sv.key HV.out K1 (by omega) hg1 b1)
        have hkc := K1.2.1
        obtain ⟨xv, hxv⟩ : ∃ xv, xv = x.v := ⟨_, rfl⟩
        rw [← hxv] at hvs hts
        have HAT' : Hid (∀ W, Below w.heap.size w W → At4 W hb (ho + i * 4) ⟨x.k, x.s, x.c, xv⟩) := by rw [hxv]; exact HAT.out
        clear HAT
        have HAT := HAT'
        have S1' : Hid (St w x1 w.heap.size (Value.slice oa LE oc) u6 la ln lc kg kn kc S.ent (plb S.pl) S.last (kbs x)) := S1
        clear S1 HAT'
        have S1 := S1'
        generalize hkz' : kbs x = kz at *
        replace hkz' := hid hkz'
        replace hxv := hid hxv
        clear K1 hg1 b1 HEN HV l0 l1 l2 S1'
        go_wp2_with fail
        · rename_i K2 hK2 hrem K1 hK1 K0 hK0
          have hrs : S.cnt % S.r = 0 := by
            have h1 := beq_iff_eq.1 hrem
            rw [hR0.out] at h1
            rw [hcr.out.1, hcr.out.2]
            omega
          have HPL : Hid (plS S = S.pl ++ [S.ent.length]) := by show _ = _; unfold plS; rw [if_pos hrs]
          have hsh1 : Hid (0 = shd S kz) := by show _ = _; unfold shd; rw [if_pos hrs]
          have HF := hid (rfix_any (LE : Int) 4 x1 (by omega) (by omega))
          refine HF.out.mono ?_
          rintro e x2 ⟨g2, c2, rfl, R2, b2⟩
          obtain ⟨vp1, x3, r3, S3⟩ := (S1.out.later b2).swap.row R2 (by rw [plb_len, hLP.out]; omega)
          obtain ⟨LQ, hLQ1⟩ : ∃ LQ, LQ = LP + 1 := ⟨_, rfl⟩
          have hLQ : Hid ((plS S).length = LQ) := by show _ = _; rw [HPL.out, List.length_append, hLP.out, hLQ1]; rfl
          have hLQ2 : IntKind.i64.wrap ((LP : Int) + 1) = (LQ : Int) := by rw [IntKind.wrap_i64]; omega
          have hLQ3 : (LP : Int) + 1 = (LQ : Int) := by omega
          have HS : Hid (St w x3 w.heap.size (Value.slice oa LE oc) vp1 la ln lc kg kn kc S.ent (plb (plS S)) S.last kz) := by
            show St _ _ _ _ _ _ _ _ _ _ _ _ _ _ _
            rw [HPL.out, plb_append, hLE.out]
            have e4 : plb [LE] = lb 4 (LE : Int) := by unfold plb; simp
            rw [e4]
            exact S3.swap
          have hm : Hid (kn = kn - 0) := rfl
          replace hLQ1 := hid hLQ1
          clear S1 R2 b2 S3 hrs
          go_wp2_with (at_builtin; refine By.wpList_append_run rfl (.tmp 32) (.tmp 36) 28 28 rfl u6 (.slice (some ⟨g2, 0, none⟩) 4 c2) vp1 rfl rfl r3 ?_)
          have HV1 := hid (rvar_any 0 x3 (by omega))
          refine HV1.out.mono ?_
          rintro e y1 ⟨g1, c1, rfl, R1, b1⟩
          obtain ⟨v2, y2, r2, S2⟩ := (HS.out.later b1).row R1 (by rw [hLE.out]; have := Vb.vb_le 0; omega)
          replace S2 := hid S2
          clear R1 b1 HV1 HS
          have HV2 := hid (rvar_any (kn : Int) y2 (by omega))
          go_wp2_with (at_builtin; refine By.wpList_append_run rfl (.tmp 63) (.tmp 66) 28 28 rfl (.slice oa LE oc) (.slice (some ⟨g1, 0, none⟩) (Vb.vb 0).length c1) v2 rfl rfl r2 ?_)
          refine HV2.out.mono ?_
          rintro e y3 ⟨g3, c3, rfl, R3, b3⟩
          obtain ⟨v4, y4, r4, S4⟩ := (S2.out.later b3).row R3 (by rw [List.length_append, hLE.out]; have := Vb.vb_le 0; have := Vb.vb_le (kn : Int); omega)
          have l3 : y4.cell? ⟨hb, ho + i * 4 + 3, none⟩ = some (.string xv) := (HAT.out y4 S4.bw).2.2.2
          replace S4 := hid S4
          clear R3 b3 HV2 S2 r2
          have HV3 := hid (rvar_any (xv.size : Int) y4 (by omega))
          go_wp2_with (at_builtin; refine By.wpList_append_run rfl (.tmp 68) (.tmp 74) 28 28 rfl v2 (.slice (some ⟨g3, 0, none⟩) (Vb.vb (kn : Int)).length c3) v4 rfl rfl r4 ?_)
          refine HV3.out.mono ?_
          rintro e y5 ⟨g5, c5, rfl, R5, b5⟩
          obtain ⟨v6, y6, r6, S6⟩ := (S4.out.later b5).row R5 (by rw [List.length_append, List.length_append, hLE.out]; have := Vb.vb_le 0; have := Vb.vb_le (kn : Int); have := Vb.vb_le (xv.size : Int); omega)
          obtain ⟨v7, y7, r7, S7⟩ := S6.drop 0 kn kc (by omega) (by rw [List.length_append, List.length_append, List.length_append, hLE.out]; have := Vb.vb_le 0; have := Vb.vb_le (kn : Int); have := Vb.vb_le (xv.size : Int); omega)
          obtain ⟨v8, y8, r8, S8⟩ := S7.text (by
            intro e0
            have e1 := (List.append_eq_nil_iff.1 (List.append_eq_nil_iff.1 e0).1).2
            have := Vb.vb_pos (xv.size : Int)
            rw [e1] at this
            simp at this) xv (by rw [List.length_append, List.length_append, List.length_append, List.length_append, List.length_drop, hLE.out, hkz.out]; have := Vb.vb_le 0; have := Vb.vb_le (kn : Int); have := Vb.vb_le (xv.size : Int); omega)
          have l3' : y7.cell? ⟨hb, ho + i * 4 + 3, none⟩ = some (.string xv) := (HAT.out y7 S7.bw).2.2.2
          have SN : Hid (Sv w y8 w.heap.size v8 vp1 (some ⟨kg, 0, none⟩) kn kc (T (i + 1)).ent (plb (T (i + 1)).pl) (T (i + 1)).last) := by
            show Sv _ _ _ _ _ _ _ _ _ _ _
            rw [hts.out]
            have h9 := S8.next
            unfold stp eb
            dsimp only
            rw [← hsh1.out, hkz.out, ← hm.out]
            simpa only [List.append_assoc, Int.natCast_zero] using h9
          have LN : Hid (((T (i + 1)).pl.length : Int) = (LQ : Int)) := by
            show _ = _
            rw [hts.out]
            show ((plS S).length : Int) = _
            rw [hLQ.out]
          replace S8 := hid S8
          clear R5 b5 HV3 S4 r4 l3 S6 S7
          go_wp2_with (at_builtin; first | refine By.wpList_append_run rfl (.tmp 76) (.tmp 84) 28 28 rfl v4 (.slice (some ⟨g5, 0, none⟩) (Vb.vb (xv.size : Int)).length c5) v6 rfl rfl r6 ?_ | refine By.wpList_append_run rfl (.tmp 86) (.tmp 89) 28 28 rfl v6 (.slice (some ⟨kg, 0, none⟩) kn kc) v7 rfl rfl r7 ?_ | refine By.wpList_append_run rfl (.tmp 91) (.tmp 96) 28 9 rfl v7 (.string xv) v8 rfl rfl r8 ?_)
          refine ⟨⟨i + 1, some ⟨kg, 0, none⟩, kn, kc, by omega, by first | rfl | go_num, by rw [LN.out], rfl, fun _ => ⟨kg, rfl⟩, SN⟩, ?_⟩
          simp only [intOf]; omega
        · rename_i K2 hK2 hrem
          have hrs : ¬ S.cnt % S.r = 0 := by
            intro h0
            have h1 := beq_eq_false_iff_ne.1 hrem
            rw [hR0.out] at h1
            rw [hcr.out.1, hcr.out.2] at h0
            omega
          have hi0 : 0 < i := by
            rcases Nat.eq_zero_or_pos i with h0 | h0
            · exact absurd (by rw [hcr.out.1, h0]; exact Nat.zero_mod _) hrs
            · exact h0
          obtain ⟨lg, rfl⟩ := hla.out hi0
          have HPL : Hid (plS S = S.pl) := by show _ = _; unfold plS; rw [if_neg hrs]
          have hsh0 : Hid (shd S kz = shr S.last kz) := by show _ = _; unfold shd; rw [if_neg hrs]
          obtain ⟨LQ, hLQ1⟩ : ∃ LQ, LQ = LP := ⟨_, rfl⟩
          have hLQ : Hid ((plS S).length = LQ) := by show _ = _; rw [HPL.out, hLP.out, hLQ1]
          have HS1 : Hid (St w x1 w.heap.size (Value.slice oa LE oc) u6 (some ⟨lg, 0, none⟩) ln lc kg kn kc S.ent (plb (plS S)) S.last kz) := by
            show St _ _ _ _ _ _ _ _ _ _ _ _ _ _ _
            rw [HPL.out]
            exact S1.out
          rw [← hLQ1, hrem]
          replace hLQ1 := hid hLQ1
          clear S1 hrs hla
          obtain ⟨vp1, hvp1⟩ : ∃ v, v = u6 := ⟨_, rfl⟩
          rw [← hvp1] at HS1 ⊢
          replace hvp1 := hid hvp1
          have key : ∀ (sh : Nat) (W : World) (u11 u13 u14 u15 u16 u17 u18 u19 u20 u21 u22 u23 u24 u25 u26 u27 u28 u29 u30 u31 u32 u33 u34 u35 u36 u37 u38 u39 u40 u41 u42 u43 u44 u45 u46 u47 u48 u49 u50 u51 u52 u53 u54 u55 u56 u57 u58 u59 u60 u61 u62 u63 u64 u65 u66 u67 u68 u69 u70 u71 u72 u73 u74 u75 u76 u77 u78 u79 u80 u81 u82 u83 u84 u85 u86 u87 u88 u89 u90 u91 u92 u93 u94 u95 u96 u97 u98 : Value), Hid (sh = shd S kz) → Hid (St w W w.heap.size (Value.slice oa LE oc) vp1 (some ⟨lg, 0, none⟩) ln lc kg kn kc S.ent (plb (plS S)) S.last kz) → K2 { tmps := #[.int .i64 R0, .slice (some ⟨hb, ho, none⟩) n c, undef, undef, .slice none 0 0, .slice oa LE oc, vp1, .slice (some ⟨lg, 0, none⟩) ln lc, .int .i64 (LQ : Int), .int .i64 (i : Int), .slice (some ⟨kg, 0, none⟩) kn kc, u11, .int .i64 (sh : Int), u13, u14, u15, u16, u17, u18, u19, u20, u21, u22, u23, u24, u25, u26, u27, u28, u29, u30, u31, u32, u33, u34, u35, u36, u37, u38, u39, u40, u41, u42, u43, u44, u45, u46, u47, u48, u49, u50, u51, u52, u53, u54, u55, u56, u57, u58, u59, u60, u61, u62, u63, u64, u65, u66, u67, u68, u69, u70, u71, u72, u73, u74, u75, u76, u77, u78, u79, u80, u81, u82, u83, u84, u85, u86, u87, u88, u89, u90, u91, u92, u93, u94, u95, u96, u97, u98, undef, undef, undef, undef, undef, undef, undef, undef], defers := [] } W := by
            intro sh W u11 u13 u14 u15 u16 u17 u18 u19 u20 u21 u22 u23 u24 u25 u26 u27 u28 u29 u30 u31 u32 u33 u34 u35 u36 u37 u38 u39 u40 u41 u42 u43 u44 u45 u46 u47 u48 u49 u50 u51 u52 u53 u54 u55 u56 u57 u58 u59 u60 u61 u62 u63 u64 u65 u66 u67 u68 u69 u70 u71 u72 u73 u74 u75 u76 u77 u78 u79 u80 u81 u82 u83 u84 u85 u86 u87 u88 u89 u90 u91 u92 u93 u94 u95 u96 u97 u98 hsh1 HS
            refine hK2 _ _ ?_
            clear hK2 K2
            have hshn : sh < kn := by rw [hsh1.out]; exact hsd.out
            have q1 : (sh : Int) ≤ (kn : Int) := by omega
            have q2 : 0 < kn - sh := by omega
            have q3 : 0 < kc - sh := by omega
            obtain ⟨m, hm⟩ : ∃ m, m = kn - sh := ⟨_, rfl⟩
            have hm1 : ((kn : Int) - (sh : Int)) = (m : Int) := by omega
            have hm2 : m ≤ 1032 := by omega
            have hm3 : kn - sh = m := hm.symm
            replace hm := hid hm
            have HV1 := hid (rvar_any (sh : Int) W (by omega))
            go_wp2_with fail
            refine HV1.out.mono ?_
            rintro e y1 ⟨g1, c1, rfl, R1, b1⟩
            obtain ⟨v2, y2, r2, S2⟩ := (HS.out.later b1).row R1 (by rw [hLE.out]; have := Vb.vb_le (sh : Int); omega)
            replace S2 := hid S2
            clear R1 b1 HV1 HS
            have HV2 := hid (rvar_any (m : Int) y2 (by omega))
            go_wp2_with (at_builtin; refine By.wpList_append_run rfl (.tmp 63) (.tmp 66) 28 28 rfl (.slice oa LE oc) (.slice (some ⟨g1, 0, none⟩) (Vb.vb (sh : Int)).length c1) v2 rfl rfl r2 ?_)
            refine HV2.out.mono ?_
            rintro e y3 ⟨g3, c3, rfl, R3, b3⟩
            obtain ⟨v4, y4, r4, S4⟩ := (S2.out.later b3).row R3 (by rw [List.length_append, hLE.out]; have := Vb.vb_le (sh : Int); have := Vb.vb_le (m : Int); omega)
            have l3 : y4.cell? ⟨hb, ho + i * 4 + 3, none⟩ = some (.string xv) := (HAT.out y4 S4.bw).2.2.2
            replace S4 := hid S4
            clear R3 b3 HV2 S2 r2
            have HV3 := hid (rvar_any (xv.size : Int) y4 (by omega))
            go_wp2_with (at_builtin; refine By.wpList_append_run rfl (.tmp 68) (.tmp 74) 28 28 rfl v2 (.slice (some ⟨g3, 0, none⟩) (Vb.vb (m : Int)).length c3) v4 rfl rfl r4 ?_)
            refine HV3.out.mono ?_
            rintro e y5 ⟨g5, c5, rfl, R5, b5⟩
            obtain ⟨v6, y6, r6, S6⟩ := (S4.out.later b5).row R5 (by rw [List.length_append, List.length_append, hLE.out]; have := Vb.vb_le (sh : Int); have := Vb.vb_le (m : Int); have := Vb.vb_le (xv.size : Int); omega)
            obtain ⟨v7, y7, r7, S7⟩ := S6.drop sh m (kc - sh) (by omega) (by rw [List.length_append, List.length_append, List.length_append, hLE.out]; have := Vb.vb_le (sh : Int); have := Vb.vb_le (m : Int); have := Vb.vb_le (xv.size : Int); omega)
            obtain ⟨v8, y8, r8, S8⟩ := S7.text (by
              intro e0
              have e1 := (List.append_eq_nil_iff.1 (List.append_eq_nil_iff.1 e0).1).2
              have := Vb.vb_pos (xv.size : Int)
              rw [e1] at this
              simp at this) xv (by rw [List.length_append, List.length_append, List.length_append, List.length_append, List.length_drop, hLE.out, hkz.out]; have := Vb.vb_le (sh : Int); have := Vb.vb_le (m : Int); have := Vb.vb_le (xv.size : Int); omega)
            have l3' : y7.cell? ⟨hb, ho + i * 4 + 3, none⟩ = some (.string xv) := (HAT.out y7 S7.bw).2.2.2
            have SN : Hid (Sv w y8 w.heap.size v8 vp1 (some ⟨kg, 0, none⟩) kn kc (T (i + 1)).ent (plb (T (i + 1)).pl) (T (i + 1)).last) := by
              show Sv _ _ _ _ _ _ _ _ _ _ _
              rw [hts.out]
              have h9 := S8.next
              unfold stp eb
              dsimp only
              rw [← hsh1.out, hkz.out, ← hm.out]
              simpa only [List.append_assoc, Int.natCast_zero] using h9
            have LN : Hid (((T (i + 1)).pl.length : Int) = (LQ : Int)) := by
              show _ = _
              rw [hts.out]
              show ((plS S).length : Int) = _
              rw [hLQ.out]
            replace S8 := hid S8
            clear R5 b5 HV3 S4 r4 l3 S6 S7
            go_wp2_with (at_builtin; first | refine By.wpList_append_run rfl (.tmp 76) (.tmp 84) 28 28 rfl v4 (.slice (some ⟨g5, 0, none⟩) (Vb.vb (xv.size : Int)).length c5) v6 rfl rfl r6 ?_ | refine By.wpList_append_run rfl (.tmp 86) (.tmp 89) 28 28 rfl v6 (.slice (some ⟨kg, sh, none⟩) m (kc - sh)) v7 rfl rfl r7 ?_ | refine By.wpList_append_run rfl (.tmp 91) (.tmp 96) 28 9 rfl v7 (.string xv) v8 rfl rfl r8 ?_)
            refine ⟨⟨i + 1, some ⟨kg, 0, none⟩, kn, kc, by omega, by first | rfl | go_num, by rw [LN.out], rfl, fun _ => ⟨kg, rfl⟩, SN⟩, ?_⟩
            simp only [intOf]; omega
          have HA := hid (HS1.out.k.2.2.2.2 _ rfl)
          have HB := hid (HS1.out.l.2.2.2.2 _ rfl)
          have l1 := hid HS1.out.k.1
          have l2 := hid HS1.out.l.1
          have k2 := HS1.out.l.2.1
          go_loopw [12] (fun jv wq => ∃ j : Nat, j ≤ kn ∧ j ≤ ln ∧ jv = .int .i64 (j : Int) ∧ Hid (∀ q, q < j → S.last.getD q 0 = kz.getD q 0) ∧ Hid (Below x1.heap.size x1 wq)) (fun jv _ => kn - (intOf jv).toNat)
          case atStart => exact ⟨0, by omega, by omega, rfl, fun q hq => by omega, Below.refl _ _⟩
          case round =>
            skip
            obtain ⟨j, hj1, hj2, rfl, HE, HBw⟩ := hrel
            have HB4 := fun nq => hid (HBw.out.trans ((drewN_below wr nq).mono HBw.out.size))
            by_cases hjk : j < kn
            · have i1 : (j : Int) < (kn : Int) := by omega
              have i1' : decide ((j : Int) < (kn : Int)) = true := decide_eq_true i1
              by_cases hjl : j < ln
              · have i2 : (j : Int) < (ln : Int) := by omega
                have i2' : decide ((j : Int) < (ln : Int)) = true := decide_eq_true i2
                have x1' := (HBw.out.cell (block_lt_of_cell (HA.out j hjk))).trans (HA.out j hjk)
                have x2' := (HBw.out.cell (block_lt_of_cell (HB.out j hjl))).trans (HB.out j hjl)
                rw [addr_add, Nat.zero_add] at x1' x2'
                obtain ⟨X, hX⟩ : ∃ X, X = kz.getD j 0 := ⟨_, rfl⟩
                obtain ⟨Y, hY⟩ : ∃ Y, Y = S.last.getD j 0 := ⟨_, rfl⟩
                rw [← hX] at x1'
                rw [← hY] at x2'
                replace hX := hid hX
                replace hY := hid hY
                by_cases hxy : X = Y
                · subst hxy
                  have hne : (X == X) = true := by simp
                  have hwr : IntKind.i64.wrap ((j : Int) + 1) = ((j + 1 : Nat) : Int) := by rw [IntKind.wrap_i64]; omega
                  go_wp2_with fail
                  go_quiet (fail)
                  go_wp2_with fail
                  refine ⟨⟨j + 1, by omega, by omega, by first | rfl | go_num, fun q hq => ?_, HB4 _⟩, ?_⟩
                  · by_cases h : q = j
                    · rw [h, ← hX.out, ← hY.out]
                    · exact HE.out q (by omega)
                  · simp only [intOf]; omega
                · have hne : (X == Y) = false := by simpa using hxy
                  have hres : Hid (j = shd S kz) := by
                    show _ = _
                    rw [hsh0.out]
                    exact (shr_is S.last kz j (by rw [l2.out]; omega) (by rw [l1.out]; omega) HE.out (fun _ _ => by rw [← hX.out, ← hY.out]; exact fun e => hxy e.symm)).symm
                  go_wp2_with fail
                  go_quiet (fail)
                  go_wp2_with fail
                  exact key j _ _ _ _ _ _ _ _ _ _ _ _ _ _ _ _ _ _ _ _ _ _ _ _ _ _ _ _ _ _ _ _ _ _ _ _ _ _ _ _ _ _ _ _ _ _ _ _ _ _ _ _ _ _ _ _ _ _ _ _ _ _ _ _ _ _ _ _ _ _ _ _ _ _ _ _ _ _ _ _ _ _ _ _ _ _ _ _ hres (hid (HS1.out.later (HB4 _).out))
              · have i2 : ¬ (j : Int) < (ln : Int) := by omega
                have i2' : decide ((j : Int) < (ln : Int)) = false := decide_eq_false i2
                have hres : Hid (j = shd S kz) := by
                  show _ = _
                  rw [hsh0.out]
                  exact (shr_is S.last kz j (by rw [l2.out]; omega) (by rw [l1.out]; omega) HE.out (fun h1 _ => by rw [l2.out] at h1; omega)).symm
                go_wp2_with fail
                go_quiet (fail)
                go_wp2_with fail
                exact key j _ _ _ _ _ _ _ _ _ _ _ _ _ _ _ _ _ _ _ _ _ _ _ _ _ _ _ _ _ _ _ _ _ _ _ _ _ _ _ _ _ _ _ _ _ _ _ _ _ _ _ _ _ _ _ _ _ _ _ _ _ _ _ _ _ _ _ _ _ _ _ _ _ _ _ _ _ _ _ _ _ _ _ _ _ _ _ _ hres (hid (HS1.out.later (HB4 _).out))
            · have i1 : ¬ (j : Int) < (kn : Int) := by omega
              have i1' : decide ((j : Int) < (kn : Int)) = false := decide_eq_false i1
              have hres : Hid (j = shd S kz) := by
                show _ = _
                rw [hsh0.out]
                exact (shr_is S.last kz j (by rw [l2.out]; omega) (by rw [l1.out]; omega) HE.out (fun _ h1 => by rw [l1.out] at h1; omega)).symm
              go_wp2_with fail
              go_quiet (fail)
              go_wp2_with fail
              exact key j _ _ _ _ _ _ _ _ _ _ _ _ _ _ _ _ _ _ _ _ _ _ _ _ _ _ _ _ _ _ _ _ _ _ _ _ _ _ _ _ _ _ _ _ _ _ _ _ _ _ _ _ _ _ _ _ _ _ _ _ _ _ _ _ _ _ _ _ _ _ _ _ _ _ _ _ _ _ _ _ _ _ _ _ _ _ _ _ hres (hid (HS1.out.later (HB4 _).out))
    · obtain rfl : i = n := by omega
      have hi2 : ¬ (i : Int) < (i : Int) := by omega
      have hlp := plb_len (T i).pl
      obtain ⟨pa, pc, hpv, _, _, _⟩ := HV.out.p.shape
      obtain ⟨v2, y2, r2, o2, g2⟩ := app_src wr w.heap.size _ _ HV.out.o pa (plb (T i).pl).length pc (plb (T i).pl) (by have := HV.out.p; rw [hpv] at this; exact OwnB.bytes this (plb_bytes _)) (by omega) HV.out.hb
      have B2 : Below w.heap.size w y2 := HV.out.bw.grown g2 HV.out.hb (fun j hj => (own_lt HV.out.o j hj).1)
      have HF := hid (rfix_any ((T i).pl.length : Int) 4 y2 (by omega) (by omega))
      subst hpv
      have hLE := hid hz.1
      have hLP := hz.2
      have HTn' : Hid (blk (bst r xs) = (T i).ent ++ plb (T i).pl ++ lb 4 ((T i).pl.length : Int)) := by show _ = _; rw [← HTn.out]; rfl
      generalize hLQ : (T i).pl.length = LQ at *
      generalize hPB : (plb (T i).pl) = PB at *
      replace o2 := hid o2
      replace B2 := hid B2
      replace hlp := hid hlp
      clear hz HTs HTc HTz HX HSD g2
      generalize hPL : PB.length = PL at *
      go_wp2_with (at_builtin; refine By.wpList_append_run rfl (.tmp 99) (.tmp 100) 28 28 rfl u5 (.slice pa PL pc) v2 rfl rfl r2 ?_)
      refine HF.out.mono ?_
      rintro e y3 ⟨g3, c3, rfl, R3, b3⟩
      obtain ⟨v4, y4, r4, o4, g4, _⟩ := app_bytes y3 w.heap.size v2 _ (o2.out.later b3) ⟨g3, 0, none⟩ 4 c3 (lb 4 (LQ : Int)) R3.len (fun q hq => by rw [addr_add, Nat.zero_add]; exact R3.cell q hq) (by rw [List.length_append, hPL]; have := hLE.out; have := hlp.out; omega) (Nat.le_trans B2.out.size b3.size)
      have B4 : Hid (Below w.heap.size w y4) := (B2.out.trans (b3.mono B2.out.size)).grown g4 (Nat.le_trans B2.out.size b3.size) (fun j hj => (own_lt o2.out j hj).1)
      have O4 : Hid (OwnB y4 w.heap.size v4 (blk (bst r xs))) := by show OwnB _ _ _ _; rw [HTn'.out]; exact o4
      clear o4 g4 R3 b3
      go_wp2_with (at_builtin; refine By.wpList_append_run rfl (.tmp 102) (.tmp 105) 28 28 rfl v2 (.slice (some ⟨g3, 0, none⟩) 4 c3) v4 rfl rfl r4 ?_)
      go_ret
      exact ⟨_, rfl, O4.out, B4.out⟩
end Go.Proofs.Ytkanjbeijoeenaa.Ry

/- readAll and Open of a block's bytes. -/
import Derived.Test.YtkanjbeijoeenaaPa
import Derived.Test.YtkanjbeijoeenaaTe
import Derived.Test.YtkanjbeijoeenaaCu
import Derived.Recover
import Derived.BigRegion
namespace Go.Proofs.Ytkanjbeijoeenaa.Ra
open Go.ChangeShapes Go.WideShapes Go.ChangeAt Go.RowKit
open Go.Sort (grow)
open Go.Proofs.Ytkanjbeijoeenaa.By
open Go.Proofs.Ytkanjbeijoeenaa.Bl
open Go.Proofs.Ytkanjbeijoeenaa.Bn
open Go.Proofs.Ytkanjbeijoeenaa.Bm
open Go.Proofs.Ytkanjbeijoeenaa.Bb
open Go.Proofs.Ytkanjbeijoeenaa.Bu (took_ok)
open Go.Proofs.Ytkanjbeijoeenaa.Rl
open Go.Proofs.Ytkanjbeijoeenaa.Rg
open Go.Proofs.Ytkanjbeijoeenaa.Pa
open Go.Proofs.Ytkanjbeijoeenaa.Te
open Go.Proofs.Ytkanjbeijoeenaa.Ik
open Go.Proofs.Ytkanjbeijoeenaa.Cu (Cb)
open Go.Proofs.Ytkanjbeijoeenaa.Mb (hid box_below blk_lt new_at size_alloc cell_of fz_of set_of set_ne Fp own_blocks own_lt E ze Ents OwnE OwnE.ents drew_below drewN_below)
set_option linter.unusedVariables false
set_option linter.unusedSimpArgs false

/-- The places that are left. -/
def Pls (bb base : Nat) (w0 : World) (pls : List Nat) (pl : Value) : Prop := ∃ po pc, pl = .slice (some ⟨bb, po, none⟩) (4 * pls.length) pc ∧ pc ≤ 9223372036854775807 ∧ ∀ W, Below base w0 W → Bytes W (some ⟨bb, po, none⟩) (4 * pls.length) pc (plb pls)
theorem place_any {w w0 : World} {base g bb : Nat} {b : Value} {at' : Nat} {pl vk vn : Value} {key : List Int} {es : List E} (pls : List Nat) (H : Rg w base g b at' pl vk vn key es) (HP : Pls bb base w0 pls pl) (hw : Below base w0 w) (hat : at' < 4294967296) (hpb : ∀ p ∈ pls, p < 4294967296) (hpl : pls.length ≤ 100000000) :
    ((∃ q, pls = at' :: q) → Calls Try.prog 80 #[.pointer (some ⟨g, 0, none⟩)] w fun e w' => e = .returned (.bool true) ∧ (∃ pl', (∃ q, pls = at' :: q ∧ Pls bb base w0 q pl') ∧ Rg w' base g b at' pl' vk vn key es) ∧ Below base w w') ∧
    ((∀ p ∈ pls, at' < p) → Calls Try.prog 80 #[.pointer (some ⟨g, 0, none⟩)] w fun e w' => e = .returned (.bool false) ∧ (∃ pl', Pls bb base w0 pls pl' ∧ Rg w' base g b at' pl' vk vn key es) ∧ Below base w w') := by
  obtain ⟨po, pc, rfl, hpc, HB⟩ := HP
  refine ⟨?_, ?_⟩
  · rintro ⟨q, rfl⟩
    have hB := HB w hw
    refine (takePlace_yes H hB (by rw [List.length_cons] at hpl; rw [List.length_cons]; omega) (by omega) (by omega) (by rw [plb_cons]; exact fread_head at' _ hat)).mono ?_
    rintro e w' ⟨rfl, ⟨po', hpo, R⟩, b⟩
    refine ⟨rfl, ⟨_, ⟨q, rfl, po', pc - 4, ?_, by omega, ?_⟩, R⟩, b⟩
    · rw [List.length_cons]; congr 1
    · intro W hW
      have h := HB W hW
      have hl := plb_len q
      refine ⟨hl, by have := h.2.1; rw [List.length_cons] at this; omega, fun e => (by cases e), fun y hy => h.2.2.2.1 y (by rw [plb_cons]; exact List.mem_append_right _ hy), ?_⟩
      intro x hx i hi
      cases hx
      have h1 := h.2.2.2.2 _ rfl (4 + i) (by rw [List.length_cons]; omega)
      rw [addr_add] at h1 ⊢
      rw [hpo (by rw [List.length_cons]; omega), show po + 4 + i = po + (4 + i) by omega, h1, plb_cons]
      rw [List.getD_eq_getElem?_getD, List.getD_eq_getElem?_getD, List.getElem?_append_right (by rw [lb_len]; omega), lb_len, Nat.add_sub_cancel_left]
  · intro hlt
    have hB := HB w hw
    refine (takePlace_no H hB (by omega) (by omega) ?_).mono ?_
    · cases pls with
      | nil => exact .inl fread_none
      | cons p q =>
        rw [plb_cons, fread_head p _ (hpb p (by simp))]
        right
        have := hlt p (by simp)
        show (p : Int) ≠ (at' : Int)
        omega
    · rintro e w' ⟨rfl, rfl⟩
      exact ⟨rfl, ⟨_, ⟨po, pc, rfl, hpc, HB⟩, H⟩, Below.refl _ _⟩
/-- A world's reading place. -/
def atOf (g : Nat) (w : World) : Nat := match w.cell? ⟨g, 1, none⟩ with
  | some (.int _ n) => n.toNat
  | _ => 0
theorem atOf_is {w : World} {base g : Nat} {b : Value} {at' : Nat} {pl vk vn : Value} {key : List Int} {es : List E} (h : Rg w base g b at' pl vk vn key es) : atOf g w = at' := by
  have : w.cell? ⟨g, 1, none⟩ = some (.int .i64 (at' : Int)) := cell_of h.blk 1 _ rfl
  unfold atOf; rw [this]; simp
set_option maxRecDepth 100000 in
set_option maxHeartbeats 4000000 in
theorem readAll_ok (r : Nat) (hr : 1 ≤ r ∧ r ≤ 64) (xs : List E) (hg : Gd xs) (hok : ∀ x ∈ xs, x.ok) (hwt : Oi.wts xs ≤ 2000000) (bb bo n c : Nat) (w : World) (H : Bytes w (some ⟨bb, bo, none⟩) n c (blk (bst r xs))) (hc : c ≤ 9223372036854775807) (hnb : n ≤ 1000000000) :
    Calls Try.prog 41 #[.slice (some ⟨bb, bo, none⟩) n c] w fun e w' => ∃ v, e = .returned v ∧ OwnE 85 w' w.heap.size v xs ∧ Below w.heap.size w w' := by
  have hl := blk_len (bst r xs)
  unfold bsz at hl
  have hn := H.1
  have hnc := H.2.1
  have he1 := bst_ent r xs
  have he2 := bst_cnt r xs
  have he3 := wts_len xs
  have he4 := Bu.pl_bound r xs
  have HPt := hid (parts_ok bb bo n c (bst r xs) w H hc hnb)
  obtain ⟨ZS, hZS⟩ : ∃ ZS, ZS = (bst r xs).ent := ⟨_, rfl⟩
  have hblk : blk (bst r xs) = ZS ++ (plb (bst r xs).pl ++ lb 4 ((bst r xs).pl.length : Int)) := by rw [hZS]; unfold blk plb; rw [List.append_assoc]
  have HZ : Hid (∀ W, Below w.heap.size w W → Bytes W (some ⟨bb, bo, none⟩) ZS.length c ZS) := by
    intro W hW
    have h := bytes_kept H hW
    rw [hblk] at h
    have := bytes_take h ZS.length (by have := h.1; rw [List.length_append] at this; omega) (fun e => by cases e)
    rwa [List.take_left] at this
  have HP0 : Hid (∀ w1, Below w.heap.size w w1 → Pls bb w.heap.size w1 (bst r xs).pl (.slice (some ⟨bb, bo + ZS.length, none⟩) (4 * (bst r xs).pl.length) (c - ZS.length))) := by
    intro w1 hw1
    refine ⟨_, _, rfl, by omega, fun W hW => ?_⟩
    have h := bytes_kept H (hw1.trans hW)
    rw [hblk] at h
    have h1 := h.1
    simp only [List.length_append, plb_len, lb_len] at h1
    refine ⟨plb_len _, by omega, fun e => (by cases e), fun y hy => h.2.2.2.1 y (List.mem_append_right _ (List.mem_append_left _ hy)), ?_⟩
    intro x hx i hi
    cases hx
    have h2 := h.2.2.2.2 _ rfl (ZS.length + i) (by omega)
    rw [addr_add] at h2 ⊢
    rw [show bo + ZS.length + i = bo + (ZS.length + i) by omega, h2]
    rw [List.getD_eq_getElem?_getD, List.getD_eq_getElem?_getD, List.getElem?_append_right (by omega), Nat.add_sub_cancel_left, List.getElem?_append_left (by rw [plb_len]; exact hi)]
  have hZL : (bst r xs).ent.length = ZS.length := by rw [hZS]
  rw [hZL] at HPt he1 he4 hl
  have hplb : Hid (∀ p ∈ (bst r xs).pl, p < 4294967296) := fun p hp => by have := he4 p hp; omega
  have hplc : Hid ((bst r xs).pl.length ≤ 10000000) := by show _ ≤ _; omega
  have hzb : ZS.length < c := by omega
  have hzc : ZS.length ≤ 100000000 := by omega
  have hxl : xs.length ≤ 10000000 := by omega
  replace hZS := hid hZS
  replace hg := hid hg
  replace hok := hid hok
  replace hr := hid hr
  clear H hblk hl he1 he2 he3 he4 hn hnc hZL hwt
  go_enter Try.func41, Try.ntmps41
  go_wp2_with fail
  refine HPt.out.mono ?_
  rintro e w1 ⟨rfl, b1⟩
  obtain ⟨g, hgd⟩ : ∃ g, g = w1.heap.size := ⟨_, rfl⟩
  obtain ⟨pl0, hpl0⟩ : ∃ p, p = Value.slice (some ⟨bb, bo + ZS.length, none⟩) (4 * (bst r xs).pl.length) (c - ZS.length) := ⟨_, rfl⟩
  obtain ⟨w2, hw2⟩ : ∃ W, W = w1.alloc (.cells #[.slice (some ⟨bb, bo, none⟩) ZS.length c, .int .i64 0, pl0, .slice none 0 0, .slice none 0 0] 106) := ⟨_, rfl⟩
  have b2 : Below w1.heap.size w1 w2 := by rw [hw2]; exact box_below _ _
  have B2 : Below w.heap.size w w2 := b1.trans (b2.mono b1.size)
  have R2 : Rg w2 w.heap.size g (.slice (some ⟨bb, bo, none⟩) ZS.length c) 0 pl0 (.slice none 0 0) (.slice none 0 0) [] [] := ⟨by rw [hw2, hgd]; exact new_at _ _, World.ownsRow_nil _ _ _ _, OwnE.nil _ _ _, by rw [hgd]; exact b1.size⟩
  have P2 : Pls bb w.heap.size w2 (bst r xs).pl pl0 := by rw [hpl0]; exact HP0.out w2 B2
  obtain ⟨n0, hn0⟩ : ∃ n, n = w.heap.size := ⟨_, rfl⟩
  rw [← hn0] at R2 P2 B2 HZ
  replace R2 := hid R2
  replace P2 := hid P2
  replace B2 := hid B2
  replace hw2 := hid hw2
  replace hgd := hid hgd
  replace hpl0 := hid hpl0
  replace hn0 := hid hn0
  clear b1 b2 HP0 HPt
  go_wp2_with fail
  rw [← hgd.out, ← hpl0.out]
  try rw [← hw2.out]
  have hLZ : Hid (ZS.length = (bst r xs).ent.length) := by show _ = _; rw [hZS.out]
  generalize hLL : ZS.length = LL at *
  replace hLL := hid hLL
  go_loopw [15] (fun _ wr => ∃ (i : Nat) (pls : List Nat) (pl vk vn : Value), i ≤ xs.length ∧ Hid ((bst r xs).pl = (bst r (xs.take i)).pl ++ pls) ∧ Hid (Pls bb n0 w2 pls pl) ∧ Hid (Rg wr n0 g (.slice (some ⟨bb, bo, none⟩) LL c) (bst r (xs.take i)).ent.length pl vk vn (bst r (xs.take i)).last (xs.take i)) ∧ Hid (Below n0 w2 wr)) (fun _ wr => LL + 1 - atOf g wr)
  case atStart => exact ⟨0, (bst r xs).pl, pl0, _, _, by omega, rfl, P2, R2, Below.refl _ _⟩
  case round =>
    obtain ⟨i, pls, pl, vk, vn, hi, hPL, HP, HR, HB⟩ := hrel
    have c0 : wr.cell? ⟨g, 0, none⟩ = some (.slice (some ⟨bb, bo, none⟩) LL c) := cell_of HR.out.blk 0 _ rfl
    have c1 : wr.cell? ⟨g, 1, none⟩ = some (.int .i64 ((bst r (xs.take i)).ent.length : Int)) := cell_of HR.out.blk 1 _ rfl
    have hpb : ∀ p ∈ pls, p < 4294967296 := fun p hp => hplb.out p (by rw [hPL.out]; exact List.mem_append_right _ hp)
    by_cases hil : i < xs.length
    · obtain ⟨x, hx⟩ : ∃ x, x = xs[i] := ⟨_, rfl⟩
      have hsp : xs = xs.take i ++ x :: xs.drop (i + 1) := by rw [hx, ← List.drop_eq_getElem_cons hil, List.take_append_drop]
      have htk : xs.take (i + 1) = xs.take i ++ [x] := by rw [hx]; exact List.take_succ_eq_append_getElem hil
      have hmx : x ∈ xs := by rw [hx]; exact List.getElem_mem hil
      obtain ⟨rest, hs1, hs2, hs3⟩ := step_at r hr.out.1 (xs.take i) x (xs.drop (i + 1)) pls (by rw [← hsp]; exact hPL.out)
      rw [← hsp] at hs1 hs3
      have hbp := eb_pos (shd (bst r (xs.take i)) (kbs x)) (kbs x) x.v
      have hLLe : LL = (bst r (xs.take i)).ent.length + ((eb (shd (bst r (xs.take i)) (kbs x)) (kbs x) x.v).length + rest.length) := by
        rw [hLZ.out, hs1]; simp only [List.length_append]
      have hgx := hg.out.1 x hmx
      have hgt : Gd (xs.take i) := ⟨fun y hy => hg.out.1 y (List.mem_of_mem_take hy), hg.out.2.sublist (List.take_sublist _ _)⟩
      have hks := Kd.size_true (En.vld_true (may_vld hgx.1).1).1
      have hshl : shd (bst r (xs.take i)) (kbs x) ≤ (bst r (xs.take i)).last.length ∧ shd (bst r (xs.take i)) (kbs x) ≤ (kbs x).length ∧ (bst r (xs.take i)).last.take (shd (bst r (xs.take i)) (kbs x)) = (kbs x).take (shd (bst r (xs.take i)) (kbs x)) := by
        unfold shd
        split
        · simp
        · exact ⟨(shr_le _ _).1, (shr_le _ _).2, shr_take _ _⟩
      have hbeh : ∀ y, (xs.take i).getLast? = some y → cmp y.ik x.ik < 0 := by
        intro y hy
        have hp := hg.out.2
        rw [hsp] at hp
        exact (List.pairwise_append.1 hp).2.2 y (List.mem_of_getLast? hy) x (by simp)
      have hlk : (bst r (xs.take i)).last.length ≤ 1032 := by
        cases hl : (xs.take i).getLast? with
        | none =>
          rw [List.getLast?_eq_none_iff.1 hl]; show ([] : List Int).length ≤ _; simp
        | some y =>
          rw [bst_last r _ y hl, kbs_len]
          have := Kd.size_true (En.vld_true (may_vld (hgt.1 y (List.mem_of_getLast? hl)).1).1).1
          omega
      have hcnt := (bst_cnt r (xs.take i)).1
      have htl : (xs.take i).length = i := by rw [List.length_take]; omega
      rw [htl] at hcnt
      have hRr := (bst_cnt r (xs.take i)).2.1
      have b0 := drewN_below wr
      have hmeas := atOf_is HR.out
      obtain ⟨AT, hAT⟩ : ∃ a, a = (bst r (xs.take i)).ent.length := ⟨_, rfl⟩
      have hlt1 : (AT : Int) < (LL : Int) := by rw [hAT]; omega
      rw [← hAT] at c1
      have HE : Hid (∀ W, Below wr.heap.size wr W → Calls Try.prog 65 #[.pointer (some ⟨g, 0, none⟩)] W fun e w' => (∃ u, e = .returned u) ∧ (∃ pls' pl' vk' vn', (bst r xs).pl = (bst r (xs.take (i + 1))).pl ++ pls' ∧ Pls bb n0 w2 pls' pl' ∧ Rg w' n0 g (.slice (some ⟨bb, bo, none⟩) LL c) (bst r (xs.take (i + 1))).ent.length pl' vk' vn' (bst r (xs.take (i + 1))).last (xs.take (i + 1))) ∧ Below n0 W w') := by
        intro W hW
        have HRW := HR.out.later hW
        have hbn := HR.out.base
        have BW : Below n0 w2 W := HB.out.trans (hW.mono hbn)
        have hlast : (bst r (xs.take (i + 1))).last = kbs x := by rw [htk, bst_snoc]; rfl
        have hZW : ∀ W', Below n0 W W' → Bytes W' (some ⟨bb, bo, none⟩) LL c ZS := fun W' hW' => by
          exact HZ.out W' ((B2.out.trans BW).trans hW')
        have hzse : ZS = (bst r (xs.take i)).ent ++ (eb (shd (bst r (xs.take i)) (kbs x)) (kbs x) x.v ++ rest) := by rw [hZS.out]; exact hs1
        have hat4 : (bst r (xs.take i)).ent.length < 4294967296 := by omega
        have hPA := place_any pls HRW HP.out BW hat4 hpb (by have h1 := congrArg List.length hPL.out; rw [List.length_append] at h1; have := hplc.out; omega)
        rcases hs3 with ⟨hc0, q, hq1, hq2⟩ | ⟨hc0, hq1, hq2⟩
        · refine (entry_ok (fun pl' => ∃ q, pls = (bst r (xs.take i)).ent.length :: q ∧ Pls bb n0 w2 q pl') true x (shd (bst r (xs.take i)) (kbs x)) (bst r (xs.take i)).ent rest HRW hZW (hPA.1 ⟨q, hq1⟩) hzse rfl hzb (by omega) hc (fun y hy => hok.out y (List.mem_of_mem_take hy)) (by rw [htl]; omega) (.inl rfl) (fun _ => by unfold shd; rw [hRr, if_pos hc0]) hgx.1 hgx.2 hshl.1 hshl.2.2 hshl.2.1 hlk hbeh).mono ?_
          rintro e w' ⟨he, ⟨pl', vk', vn', ⟨q', hq', hP'⟩, hR'⟩, hb'⟩
          obtain rfl : q = q' := by rw [hq1] at hq'; exact (List.cons.inj hq').2
          refine ⟨he, ⟨q, pl', vk', vn', by rw [htk]; exact hq2, hP', ?_⟩, hb'⟩
          rw [hlast, htk, hs2]
          exact hR'
        · refine (entry_ok (fun pl' => Pls bb n0 w2 pls pl') false x (shd (bst r (xs.take i)) (kbs x)) (bst r (xs.take i)).ent rest HRW hZW (hPA.2 hq1) hzse rfl hzb (by omega) hc (fun y hy => hok.out y (List.mem_of_mem_take hy)) (by rw [htl]; omega) (.inr (by rw [htl]; rcases Nat.eq_zero_or_pos i with h0 | h0; exact absurd (by rw [hcnt, h0]; exact Nat.zero_mod r) hc0; exact h0)) (fun h => by cases h) hgx.1 hgx.2 hshl.1 hshl.2.2 hshl.2.1 hlk hbeh).mono ?_
          rintro e w' ⟨he, ⟨pl', vk', vn', hP', hR'⟩, hb'⟩
          refine ⟨he, ⟨pls, pl', vk', vn', by rw [htk]; exact hq2, hP', ?_⟩, hb'⟩
          rw [hlast, htk, hs2]
          exact hR'
      have hnext : Hid ((bst r (xs.take (i + 1))).ent.length > AT ∧ (bst r (xs.take (i + 1))).ent.length ≤ LL) := by
        show _ ∧ _
        rw [htk, hs2, hAT]; omega
      have hmA : Hid (atOf g wr = AT) := by show _ = _; rw [hmeas, hAT]
      have hALL : Hid (AT < LL) := by show _ < _; omega
      have hbn := hid HR.out.base
      replace hAT := hid hAT
      clear hsp htk hmx hs1 hs2 hs3 hbp hLLe hgx hgt hks hshl hbeh hlk hcnt htl hRr b0 hmeas hpb
      go_wp2_with fail
      go_quiet (fail)
      have bq := drewN_below wr nq
      generalize wr.drewN nq = wq at *
      have HEq := hid (HE.out wq bq)
      have Bq : Hid (Below n0 w2 wq) := HB.out.trans (bq.mono hbn.out)
      clear bq HE
      go_wp2_with fail
      refine HEq.out.mono ?_
      rintro e w5 ⟨⟨u, rfl⟩, ⟨pls', pl', vk', vn', e1, e2, e3⟩, b5⟩
      have m5 := atOf_is e3
      have B5 : Hid (Below n0 w2 w5) := Bq.out.trans b5
      replace e1 := hid e1
      replace e2 := hid e2
      replace e3 := hid e3
      replace m5 := hid m5
      clear b5
      go_wp2_with fail
      refine ⟨⟨i + 1, pls', pl', vk', vn', by omega, e1, e2, e3, B5⟩, ?_⟩
      have h1 := m5.out
      have h2 := hmA.out
      have h3 := hnext.out
      have h4 := hALL.out
      omega
    · have hti : xs.take i = xs := List.take_of_length_le (by omega)
      rw [hti] at HR hPL c1
      have hpn : pls = [] := by
        have := hPL.out
        exact (List.append_cancel_left (show (bst r xs).pl ++ [] = (bst r xs).pl ++ pls by rw [List.append_nil]; exact this)).symm
      subst hpn
      obtain ⟨po, pc, rfl, hpc, HPB⟩ := HP.out
      obtain ⟨AT, hAT⟩ : ∃ a, a = (bst r xs).ent.length := ⟨_, rfl⟩
      rw [← hAT] at c1
      have hlt1 : ¬ (AT : Int) < (LL : Int) := by rw [hAT, hLZ.out]; omega
      have AFT : Hid (∀ n, Rg (wr.drewN n) n0 g (.slice (some ⟨bb, bo, none⟩) LL c) (bst r xs).ent.length (.slice (some ⟨bb, po, none⟩) (4 * ([] : List Nat).length) pc) vk vn (bst r xs).last xs ∧ Below n0 w2 (wr.drewN n)) := fun n => ⟨HR.out.later (drewN_below _ n), HB.out.trans ((drewN_below wr n).mono HR.out.base)⟩
      have HM : Hid (∀ W, Calls Try.prog 66 #[.bool true] W fun e w' => e = .returned (.tuple #[]) ∧ w' = W) := fun W => must_ok W
      replace hAT := hid hAT
      clear hti hpb HPB hPL
      go_wp2_with fail
      go_quiet (fail)
      obtain ⟨RQ, BQ⟩ := AFT.out nq
      generalize wr.drewN nq = wq at *
      obtain ⟨ea, ec, hvn, _⟩ := OwnE.ents RQ.on hok.out
      subst hvn
      have d2 : wq.cell? ⟨g, 2, none⟩ = some (.slice (some ⟨bb, po, none⟩) 0 pc) := cell_of RQ.blk 2 _ rfl
      have d4 : wq.cell? ⟨g, 4, none⟩ = some (.slice ea xs.length ec) := cell_of RQ.blk 4 _ rfl
      have O4 : Hid (OwnE 85 wq n0 (.slice ea xs.length ec) xs) := RQ.on
      have BF : Hid (Below n0 w wq) := B2.out.trans BQ
      clear RQ BQ AFT c0 c1
      go_wp2_with fail
      refine (HM.out wq).mono ?_
      rintro e wq ⟨rfl, rfl⟩
      go_wp2_with fail
      go_ret
      rw [← hn0.out]
      exact ⟨_, rfl, O4.out, BF.out⟩
theorem idle (pb pr : Value) (w : World) :
    CallsD Try.prog 40 #[pb, pr] .returning w fun e u' w' => e = .returned (.tuple #[]) ∧ u' = .returning ∧ w' = w := by
  refine callsD_of_wpS Try.func40 rfl fun c₀ cs hu => ?_
  apply wpS_seq
  apply wpS_region
  simp [wpOpsS, go_sem, recoverD, hu, Try.ntmps40, Exit.thenS]
  refine wpS_cond (t := false) (by simp [Act.eval]) ?_
  simp only [Bool.false_eq_true, if_false]
  refine wpS_of_wp (wp_skip ?_)
  cases c₀
  simp_all [bodyPostS, results, Try.results40]
set_option maxRecDepth 100000 in
set_option maxHeartbeats 2000000 in
/-- Open of a block's bytes. -/
theorem open_ok (r : Nat) (hr : 1 ≤ r ∧ r ≤ 64) (xs : List E) (hg : Gd xs) (hok : ∀ x ∈ xs, x.ok) (hwt : Oi.wts xs ≤ 2000000) (bb bo n c : Nat) (w : World) (H : Bytes w (some ⟨bb, bo, none⟩) n c (blk (bst r xs))) (hc : c ≤ 9223372036854775807) (hnb : n ≤ 1000000000) :
    Calls Try.prog 18 #[.slice (some ⟨bb, bo, none⟩) n c] w fun e w' => ∃ gc a cap, e = .returned (.tuple #[.pointer (some ⟨gc, 0, none⟩), .int .i64 0]) ∧ Cb w' gc a xs.length cap 0 ∧ Ents w' a xs.length cap xs ∧ (∀ x, a = some x → x.block ≠ gc) ∧ w.heap.size ≤ gc ∧ Below w.heap.size w w' := by
  have hmf : ∀ (fn : Fn) (first cap : Array Value) (w : World), (Instr.makeFunc fn first cap).run Try.prog w = .ok (.func fn first cap) w := fun _ _ _ _ => rfl
  obtain ⟨W0, hW0⟩ : ∃ W, W = w.alloc (.cells #[.pointer none] 42) := ⟨_, rfl⟩
  obtain ⟨W1, hW1⟩ : ∃ W, W = W0.alloc (.cells #[.int .i64 0] 24) := ⟨_, rfl⟩
  have b0 : Below w.heap.size w W0 := by rw [hW0]; exact box_below _ _
  have b1' : Below W0.heap.size W0 W1 := by rw [hW1]; exact box_below _ _
  have b1 : Below w.heap.size w W1 := b0.trans (b1'.mono b0.size)
  obtain ⟨g0, hg0⟩ : ∃ g, g = w.heap.size := ⟨_, rfl⟩
  have z0 : W0.heap.size = g0 + 1 := by rw [hW0, hg0]; exact size_alloc _ _
  have k0 : W1.heap[g0]? = some (.cells #[.pointer none] 42) := (b1'.block g0 (by omega)).trans (by rw [hW0, hg0]; exact new_at _ _)
  have k1 : W1.heap[g0 + 1]? = some (.cells #[.int .i64 0] 24) := by rw [hW1, ← z0]; exact new_at _ _
  have HRd := hid (readAll_ok r hr xs hg hok hwt bb bo n c W1 (bytes_kept H b1) hc hnb)
  replace b1 := hid b1
  replace k0 := hid k0
  replace k1 := hid k1
  replace hW0 := hid hW0
  replace hW1 := hid hW1
  replace hg0 := hid hg0
  replace z0 := hid z0
  replace hok := hid hok
  clear H b0 b1' hg hwt hr
  go_enter_defers Try.func18, Try.ntmps18
  go_wp2_with fail
  rw [← hg0.out, ← hW0.out, ← hW1.out]
  refine HRd.out.mono ?_
  rintro e w2 ⟨v, rfl, ov, b2⟩
  obtain ⟨a, cap, rfl, hE⟩ := OwnE.ents ov hok.out
  obtain ⟨gc, hgc⟩ : ∃ g, g = w2.heap.size := ⟨_, rfl⟩
  obtain ⟨w3, hw3⟩ : ∃ W, W = w2.alloc (.cells #[.slice a xs.length cap, .int .i64 0] 55) := ⟨_, rfl⟩
  have b3 : Below w2.heap.size w2 w3 := by rw [hw3]; exact box_below _ _
  have k3 : w3.heap[gc]? = some (.cells #[.slice a xs.length cap, .int .i64 0] 55) := by rw [hw3, hgc]; exact new_at _ _
  have q0 := (b3.block g0 (by have := blk_lt k0.out; have := b2.size; omega)).trans ((b2.block g0 (blk_lt k0.out)).trans k0.out)
  have q1 := (b3.block (g0 + 1) (by have := blk_lt k1.out; have := b2.size; omega)).trans ((b2.block (g0 + 1) (blk_lt k1.out)).trans k1.out)
  have B3 : Below w.heap.size w w3 := (b1.out.trans (b2.mono b1.out.size)).trans (b3.mono (Nat.le_trans b1.out.size b2.size))
  have hgcb : W1.heap.size ≤ gc := by rw [hgc]; exact b2.size
  have hgl : g0 + 1 < gc := by have := blk_lt k1.out; omega
  obtain ⟨w4, hw4⟩ : ∃ W, W = w3.setCell ⟨g0, 0, none⟩ (.pointer (some ⟨gc, 0, none⟩)) := ⟨_, rfl⟩
  obtain ⟨w5, hw5⟩ : ∃ W, W = w4.setCell ⟨g0 + 1, 0, none⟩ (.int .i64 0) := ⟨_, rfl⟩
  have s0 : w4.heap[g0]? = some (.cells #[.pointer (some ⟨gc, 0, none⟩)] 42) := by rw [hw4]; exact set_of q0 0 _
  have e4 : ∀ j, j ≠ g0 → w4.heap[j]? = w3.heap[j]? := fun j hj => by rw [hw4]; exact set_ne _ _ _ _ _ hj
  have e5 : ∀ j, j ≠ g0 + 1 → w5.heap[j]? = w4.heap[j]? := fun j hj => by rw [hw5]; exact set_ne _ _ _ _ _ hj
  have s1 : w5.heap[g0 + 1]? = some (.cells #[.int .i64 0] 24) := by rw [hw5]; exact set_of ((e4 _ (by omega)).trans q1) 0 _
  have s0' : w5.heap[g0]? = some (.cells #[.pointer (some ⟨gc, 0, none⟩)] 42) := (e5 _ (by omega)).trans s0
  have C5 : Hid (Cb w5 gc a xs.length cap 0) := (e5 _ (by omega)).trans ((e4 _ (by omega)).trans k3)
  have O5 : OwnE 85 w5 W1.heap.size (.slice a xs.length cap) xs := own_blocks ov (fun j hj => by
    have h1 := (own_lt ov j hj).1
    have h2 := (own_lt ov j hj).2
    have h3 := blk_lt k1.out
    rw [e5 j (by omega), e4 j (by omega)]
    exact b3.block j h2)
  have E5 : Hid (Ents w5 a xs.length cap xs) := by
    obtain ⟨a', c', hv, hE'⟩ := OwnE.ents O5 hok.out
    cases hv
    exact hE'
  have N5 : Hid (∀ x, a = some x → x.block ≠ gc) := by
    intro x hx
    rcases ov.2 with ⟨h1, _⟩ | ⟨g', c', cur, h1, h2, h3, h4⟩
    · rw [hx] at h1; cases h1
    · rw [hx] at h1; cases h1
      have := (Array.getElem?_eq_some_iff.1 h3).1
      show g' ≠ gc
      omega
  have B5 : Hid (Below w.heap.size w w5) := by
    show Below _ _ _
    rw [hw5, hw4]
    exact (B3.setCell (p := ⟨g0, 0, none⟩) (by show _ ≤ g0; rw [hg0.out]; exact Nat.le_refl _) _).setCell (p := ⟨g0 + 1, 0, none⟩) (by show _ ≤ g0 + 1; have := hg0.out; omega) _
  have G5 : Hid (w.heap.size ≤ gc) := by show _ ≤ _; have := hg0.out; omega
  have p0 := cell_of q0 0 _ rfl
  have p1 : w4.cell? ⟨g0 + 1, 0, none⟩ = some (.int .i64 0) := cell_of ((e4 _ (by omega)).trans q1) 0 _ rfl
  have f0 := fz_of q0 0
  have f1 : w4.frozen? ⟨g0 + 1, 0, none⟩ = false := fz_of ((e4 _ (by omega)).trans q1) 0
  have r0 := cell_of s0' 0 _ rfl
  have r1 := cell_of s1 0 _ rfl
  rw [hw3] at p0 f0
  rw [hw4, hw3] at p1 f1
  replace hw3 := hid hw3
  replace hw4 := hid hw4
  replace hw5 := hid hw5
  replace hgc := hid hgc
  clear ov b2 hE b3 k3 q0 q1 B3 s0 e4 e5 s1 s0' O5 hgcb HRd
  rw [hgc.out] at p1 f1
  go_wp2_with fail
  rw [← hgc.out, ← hw3.out, ← hw4.out, ← hw5.out]
  refine leaves_cons (f := 40) (args := #[.pointer (some ⟨g0, 0, none⟩), .pointer (some ⟨g0 + 1, 0, none⟩)]) (by simp) (by simp [go_sem]) ?_
  refine (idle _ _ _).mono ?_
  rintro e u' w'' ⟨rfl, rfl, rfl⟩
  simp [Leaves, settle, results, Try.results18, go_sem, r0, r1]
  exact ⟨a, cap, C5.out, E5.out, N5.out, G5.out, B5.out⟩
end Go.Proofs.Ytkanjbeijoeenaa.Ra

/- BlockSame walked. -/
import Derived.Test.YtkanjbeijoeenaaBu
import Derived.Test.YtkanjbeijoeenaaBq
namespace Go.Proofs.Ytkanjbeijoeenaa.Sa
open Go.ChangeShapes Go.WideShapes Go.ChangeAt Go.RowKit
open Go.Sort (grow)
open Go.Proofs.Ytkanjbeijoeenaa.By
open Go.Proofs.Ytkanjbeijoeenaa.Bl
open Go.Proofs.Ytkanjbeijoeenaa.Bn
open Go.Proofs.Ytkanjbeijoeenaa.Bm
open Go.Proofs.Ytkanjbeijoeenaa.Bb
open Go.Proofs.Ytkanjbeijoeenaa.Bu
open Go.Proofs.Ytkanjbeijoeenaa.Bq
open Go.Proofs.Ytkanjbeijoeenaa.Oi (wts)
open Go.Proofs.Ytkanjbeijoeenaa.Mb (hid box_below blk_lt new_at size_alloc cell_of Fp gw own_blocks own_lt E ze At4 Ents OwnE OwnE.ents)
set_option linter.unusedVariables false
set_option linter.unusedSimpArgs false

theorem same_no (r : Int) (a : Option Addr) (len cap : Nat) (w : World) (h : r < 1 ∨ 64 < r) : Calls Try.prog 8 #[.int .i64 r, .slice a len cap] w fun e w' => e = .returned (.bool true) ∧ w' = w := by
  by_cases h1 : r < 1
  · clear h
    go_enter Try.func8, Try.ntmps8
    go_wp2
    go_ret
    exact ⟨rfl, rfl⟩
  · have h2 : 64 < r := by omega
    clear h
    go_enter Try.func8, Try.ntmps8
    go_wp2
    go_ret
    exact ⟨rfl, rfl⟩
set_option maxRecDepth 100000 in
set_option maxHeartbeats 4000000 in
theorem same_yes (r : Nat) (a : Option Addr) (len cap : Nat) (ls : List E) (w : World) (HL : Ents w a len cap ls) (hr : 1 ≤ r ∧ r ≤ 64) (hsz : wts ls ≤ 2000000) :
    Calls Try.prog 8 #[.int .i64 (r : Int), .slice a len cap] w fun e w' => e = .returned (.bool true) ∧ Below w.heap.size w w' := by
  have r1 : ¬ (r : Int) < 1 := by omega
  have r2 : ¬ 64 < (r : Int) := by omega
  have HB1 := hid (built_any r a len cap ls w HL hr hsz)
  have HB2 : Hid (∀ W, Below w.heap.size w W → Calls Try.prog 28 #[.int .i64 1, .slice a len cap] W fun e w' => ∃ v vh, e = .returned (.tuple #[v, vh, .bool true]) ∧ OwnB w' W.heap.size v (blk (bst 1 (took ls))) ∧ OwnE 38 w' W.heap.size vh (took ls) ∧ Below W.heap.size W w') := fun W hW => built_any 1 a len cap ls W (HL.later hW) (by omega) hsz
  have hgd := took_gd ls (fun x hx => (HL.2.2.2.1 x hx).2.1.1)
  have hok := took_ok ls HL.2.2.2.1
  have hmay : ∀ x ∈ took ls, may x = true := fun x hx => (hgd.1 x hx).1
  have c1 := (cost r (took ls) hmay).1
  have c2 := (cost 1 (took ls) hmay).2 rfl
  have hl1 := blk_len (bst r (took ls))
  have hl2 := blk_len (bst 1 (took ls))
  unfold bsz at hl1 hl2
  have hew := ews_bound (took ls)
  have hwt := Nat.le_trans (took_wts ls) hsz
  have hL2 : Hid ((blk (bst 1 (took ls))).length = 4 + ews (took ls)) := by show _ = _; omega
  have hLe : (blk (bst r (took ls))).length ≤ (blk (bst 1 (took ls))).length := by omega
  have hL4 : 4 ≤ (blk (bst r (took ls))).length := by omega
  have hLb : (blk (bst 1 (took ls))).length ≤ 30000000 := by omega
  have hew' : Hid (ews (took ls) ≤ 20000000) := by show _ ≤ _; omega
  have hnb : (took ls).length ≤ 2000000 := by have := wts_len (took ls); omega
  clear c1 c2 hl1 hl2 hew HL hr hsz hwt
  generalize hT : took ls = T at *
  generalize hA : (blk (bst r T)).length = LA at *
  generalize hB : (blk (bst 1 T)).length = LB at *
  replace hok := hid hok
  replace hmay := hid hmay
  go_enter Try.func8, Try.ntmps8
  go_wp2_with fail
  refine HB1.out.mono ?_
  rintro e w1 ⟨v1, vh1, rfl, o1, e1, b1⟩
  obtain ⟨a1, cc1, rfl, -, -, -⟩ := o1.shape
  obtain ⟨ha, hc, rfl, hE1⟩ := OwnE.ents e1 hok.out
  rw [hA]
  replace b1 := hid b1
  replace hE1 := hid hE1
  clear o1 e1 HB1
  go_wp2_with fail
  refine (HB2.out w1 b1.out).mono ?_
  rintro e w2 ⟨v2, vh2, rfl, o2, e2, b2⟩
  obtain ⟨a2, cc2, rfl, -, -, -⟩ := o2.shape
  obtain ⟨ha2, hc2, rfl, hE2⟩ := OwnE.ents e2 hok.out
  rw [hB]
  have BW : Hid (Below w.heap.size w w2) := b1.out.trans (b2.mono b1.out.size)
  replace hE1 := hid (hE1.out.later b2)
  clear o2 e2 HB2 hE2 b2 b1
  have hcm : ¬ (LB : Int) < (LA : Int) := by omega
  have hcm2 : ¬ (LB : Int) - 4 < (LA : Int) - 4 := by omega
  have q1 : IntKind.i64.wrap ((LA : Int) - 4) = (LA : Int) - 4 := by rw [IntKind.wrap_i64]; omega
  have q2 : IntKind.i64.wrap ((LB : Int) - 4) = (LB : Int) - 4 := by rw [IntKind.wrap_i64]; omega
  have hTc := hE1.out.2.1
  generalize hN : T.length = n at *
  replace hN := hid hN
  go_wp2_with fail
  go_loopw [11, 12] (fun wv iv wr => ∃ (i : Nat), i ≤ n ∧ iv = .int .i64 (i : Int) ∧ wv = .int .i64 ((4 + ews (T.take i) : Nat) : Int) ∧ w2 = wr) (fun _ iv _ => n - (intOf iv).toNat)
  case atStart => exact ⟨0, by omega, rfl, rfl, rfl⟩
  case round =>
    obtain ⟨i, hi, rfl, rfl, rfl⟩ := hrel
    by_cases hin : i < n
    · have hi2 : (i : Int) < (n : Int) := by omega
      cases ha with
      | none => exact absurd (hE1.out.2.2.1 rfl).1 (by omega)
      | some had =>
        obtain ⟨hb, ho, hp⟩ := had
        obtain ⟨rfl, hat⟩ := hE1.out.2.2.2.2 hb ho hp rfl (by omega)
        obtain ⟨x0, -, -, x3⟩ := hat i hin
        have hiT : i < T.length := by rw [hN.out]; exact hin
        have hmem : T.getD i ze ∈ T := by rw [List.getD_eq_getElem?_getD, List.getElem?_eq_getElem hiT]; exact List.getElem_mem hiT
        have hsn : ews (T.take (i + 1)) = ews (T.take i) + ew (T.getD i ze) := by
          rw [List.take_succ_eq_append_getElem hiT, ews_append]
          simp [ews, List.getD_eq_getElem?_getD, List.getElem?_eq_getElem hiT]
        have hle : ews (T.take (i + 1)) ≤ ews T := by
          conv => rhs; rw [← List.take_append_drop (i + 1) T]
          rw [ews_append]; omega
        have hmx := hmay.out _ hmem
        have hks := Kd.size_true (En.vld_true (may_vld hmx).1).1
        have hvs := (may_vld hmx).2
        have hew1 := hew'.out
        unfold ew at hsn
        generalize T.getD i ze = x at *
        obtain ⟨xk, xs, xc, xv⟩ := x
        dsimp only at *
        generalize hKS : xk.size = ks at *
        generalize hVS : xv.size = vs at *
        generalize hE0 : ews (T.take i) = E0 at *
        generalize hE1e : ews (T.take (i + 1)) = E1 at *
        replace hE1e := hid hE1e
        replace hE0 := hid hE0
        have hln : lv (ks + 8) = if ks + 8 < 128 then 1 else 2 := by
          split
          · rename_i h; exact lv_small h
          · rename_i h; rw [lv_step (by omega) (by omega), lv_small (by omega)]
        have hlv1 := lv_pos vs
        have hlv2 : lv vs ≤ 10 := Vb.vb_le _
        replace hsn := hid hsn
        have w1' : IntKind.i64.wrap ((ks : Int) + 8) = ((ks + 8 : Nat) : Int) := by rw [IntKind.wrap_i64]; omega
        have w9 : IntKind.i64.wrap ((i : Int) + 1) = ((i + 1 : Nat) : Int) := by rw [IntKind.wrap_i64]; omega
        have hE1b : E1 ≤ 20000000 := by omega
        have hE0b : E0 ≤ 20000000 := by have := hsn.out; omega
        clear hmem hmx hat hle hew1 hiT
        clear q1 q2 hcm hcm2 hL4 hLe hLb
        by_cases h128 : ks + 8 < 128
        · have h128' : ¬ (128 : Int) ≤ ((ks + 8 : Nat) : Int) := by omega
          go_wp2_with fail
          go_loopw [11, 14] (fun wv vv wr => ∃ (p q : Nat), wv = .int .i64 (p : Int) ∧ vv = .int .i64 (q : Int) ∧ q ≤ vs ∧ Hid (p + lv q = (4 + E0 + (ks + 8) + vs + 7) + lv vs) ∧ w2 = wr) (fun _ vv _ => (intOf vv).toNat)
          case atStart => exact ⟨(4 + E0 + (ks + 8) + vs + 7), vs, by first | rfl | go_num | (congr 1; omega), rfl, Nat.le_refl _, rfl, rfl⟩
          case round =>
            obtain ⟨p, q, rfl, rfl, hq, hpq, rfl⟩ := hrel
            have hpb : p ≤ 30000000 := by have := hpq.out; have := lv_pos q; have := hsn.out; omega
            by_cases hq8 : q < 128
            · have hq1 : ¬ (128 : Int) ≤ (q : Int) := by omega
              have hq2 : (q : Int) < 128 := by omega
              have hend : Hid (p = 4 + E1) := by
                show _ = _
                have h5 := hpq.out
                rw [lv_small hq8] at h5
                have h6 := hsn.out
                rw [hln] at h6
                rw [if_pos h128] at h6
                omega
              go_wp2_with fail
              refine ⟨⟨i + 1, by omega, by first | rfl | go_num, ?_⟩, ?_⟩
              · rw [hend.out, hE1e.out]; first | exact ⟨rfl, trivial⟩ | omega
              · simp only [intOf]; omega
            · have hq1 : (128 : Int) ≤ (q : Int) := by omega
              have hst := lv_step (n := q) (by omega) (by omega)
              have hp1 : IntKind.i64.wrap ((p : Int) + 1) = ((p + 1 : Nat) : Int) := by rw [IntKind.wrap_i64]; omega
              obtain ⟨q2, hq2e⟩ : ∃ q2, q2 = q / 128 := ⟨_, rfl⟩
              have hq3 : (q : Int) / 128 = (q2 : Int) := by omega
              have hq4 : IntKind.i64.wrap (q2 : Int) = (q2 : Int) := by rw [IntKind.wrap_i64]; omega
              have hpq' : Hid (p + 1 + lv q2 = (4 + E0 + (ks + 8) + vs + 7) + lv vs) := by show _ = _; have := hpq.out; rw [hq2e]; omega
              have hq5 : q2 < q := by omega
              replace hst := hid hst
              replace hq2e := hid hq2e
              go_wp2_with fail
              refine ⟨⟨p + 1, q2, by first | rfl | go_num, by first | rfl | go_num, by omega, by first | exact hpq' | exact ⟨hpq', trivial⟩⟩, ?_⟩
              simp only [intOf]; try omega
        · have h128' : (128 : Int) ≤ ((ks + 8 : Nat) : Int) := by omega
          go_wp2_with fail
          go_loopw [11, 14] (fun wv vv wr => ∃ (p q : Nat), wv = .int .i64 (p : Int) ∧ vv = .int .i64 (q : Int) ∧ q ≤ vs ∧ Hid (p + lv q = (4 + E0 + (ks + 8) + vs + 8) + lv vs) ∧ w2 = wr) (fun _ vv _ => (intOf vv).toNat)
          case atStart => exact ⟨(4 + E0 + (ks + 8) + vs + 8), vs, by first | rfl | go_num | (congr 1; omega), rfl, Nat.le_refl _, rfl, rfl⟩
          case round =>
            obtain ⟨p, q, rfl, rfl, hq, hpq, rfl⟩ := hrel
            have hpb : p ≤ 30000000 := by have := hpq.out; have := lv_pos q; have := hsn.out; omega
            by_cases hq8 : q < 128
            · have hq1 : ¬ (128 : Int) ≤ (q : Int) := by omega
              have hq2 : (q : Int) < 128 := by omega
              have hend : Hid (p = 4 + E1) := by
                show _ = _
                have h5 := hpq.out
                rw [lv_small hq8] at h5
                have h6 := hsn.out
                rw [hln] at h6
                rw [if_neg h128] at h6
                omega
              go_wp2_with fail
              refine ⟨⟨i + 1, by omega, by first | rfl | go_num, ?_⟩, ?_⟩
              · rw [hend.out, hE1e.out]; first | exact ⟨rfl, trivial⟩ | omega
              · simp only [intOf]; omega
            · have hq1 : (128 : Int) ≤ (q : Int) := by omega
              have hst := lv_step (n := q) (by omega) (by omega)
              have hp1 : IntKind.i64.wrap ((p : Int) + 1) = ((p + 1 : Nat) : Int) := by rw [IntKind.wrap_i64]; omega
              obtain ⟨q2, hq2e⟩ : ∃ q2, q2 = q / 128 := ⟨_, rfl⟩
              have hq3 : (q : Int) / 128 = (q2 : Int) := by omega
              have hq4 : IntKind.i64.wrap (q2 : Int) = (q2 : Int) := by rw [IntKind.wrap_i64]; omega
              have hpq' : Hid (p + 1 + lv q2 = (4 + E0 + (ks + 8) + vs + 8) + lv vs) := by show _ = _; have := hpq.out; rw [hq2e]; omega
              have hq5 : q2 < q := by omega
              replace hst := hid hst
              replace hq2e := hid hq2e
              go_wp2_with fail
              refine ⟨⟨p + 1, q2, by first | rfl | go_num, by first | rfl | go_num, by omega, by first | exact hpq' | exact ⟨hpq', trivial⟩⟩, ?_⟩
              simp only [intOf]; try omega
    · have hi2 : ¬ (i : Int) < (n : Int) := by omega
      have hti : T.take i = T := List.take_of_length_le (by rw [hN.out]; omega)
      have hfin : (LB : Int) = ((4 + ews (T.take i) : Nat) : Int) := by rw [hti]; have := hL2.out; omega
      have hfb : ((LB : Int) == ((4 + ews (T.take i) : Nat) : Int)) = true := by rw [hfin]; simp
      generalize ((4 + ews (T.take i) : Nat) : Int) = WW at *
      replace hfin := hid hfin
      clear hti
      go_wp2_with fail
      go_ret
      exact ⟨rfl, BW.out⟩
end Go.Proofs.Ytkanjbeijoeenaa.Sa

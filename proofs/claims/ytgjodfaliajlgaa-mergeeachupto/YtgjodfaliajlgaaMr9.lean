/- The document's All: lists of entries merged, by its contract. -/
import Derived.Test.YtgjodfaliajlgaaMi
import Derived.Test.YtgjodfaliajlgaaMc
namespace Go.Proofs.Ytgjodfaliajlgaa.Mr9
open Go.ChangeShapes Go.WideShapes Go.ChangeAt Go.RowKit
open Go.Sort (grow)
open Go.Proofs.Ytgjodfaliajlgaa.Gr hiding hid addr_add
open Go.Proofs.Ytgjodfaliajlgaa.Ac
open Go.Proofs.Ytgjodfaliajlgaa.Ik
open Go.Proofs.Ytgjodfaliajlgaa.Ee
open Go.Proofs.Ytgjodfaliajlgaa.Sb
open Go.Proofs.Ytgjodfaliajlgaa.Ew
open Go.Proofs.Ytgjodfaliajlgaa.Sd hiding below_grown
open Go.Proofs.Ytgjodfaliajlgaa.Rsd
open Go.Proofs.Ytgjodfaliajlgaa.Ml
open Go.Proofs.Ytgjodfaliajlgaa.Mi
open Go.Proofs.Ytgjodfaliajlgaa.Cm (rcompare_any)
open Go.Proofs.Ytgjodfaliajlgaa.Rcm
set_option linter.unusedVariables false
set_option linter.unusedSimpArgs false

theorem acc_len {α : Type} {E : El α} {w W : World} {a : Option Addr} {n c : Nat} {xs : List α} (h : Acc E w W (.slice a n c) xs) : xs.length = n := by
  obtain ⟨a2, c2, e2⟩ := h.shape
  injection e2 with _ e3 _
  exact e3.symm
theorem acc_sl {α : Type} {E : El α} {w W : World} {a : Option Addr} {n c : Nat} {xs : List α} (h : Acc E w W (.slice a n c) xs) (hok : ∀ x ∈ xs, E.ok x) : E.Sl W a n c xs := by
  obtain ⟨a2, c2, e2, s, _⟩ := h.o.sl hok
  have hl := acc_len h
  injection e2 with e3 e4 e5
  subst e3 e5
  rw [hl] at s
  exact s
set_option maxHeartbeats 2000000 in
set_option maxRecDepth 20000 in
theorem rall_any (a : Option Addr) (n c : Nat) (fs : List Lf) (w : World) (H : Lsts w a n c fs) (hn8 : n ≤ 1048576) (ht8 : tot fs ≤ 1048576) :
    Calls Try.prog 10 #[.slice a n c] w fun e w' => ∃ v, e = .returned v ∧ Acc eI w w' v (allI fs n) := by
  have hlen : Hid (fs.length = n) := H.s.n
  have hnc := H.s.c
  have hoke : Hid (∀ i, i ≤ n → ∀ x ∈ allI fs i, x.e.ok) := fun i hi => allI_ok (fun f hf => (H.e f hf).2.2.2.1) i (by rw [hlen.out]; exact hi)
  have HL : Hid (∀ W, Below w.heap.size w W → Lsts W a n c fs) := fun W b => H.later b
  clear H
  replace ht8 := hid ht8
  go_enter Try.func10, Try.ntmps10
  go_wp2_with fail
  go_loopw [3, 4] (fun vo iv wr => ∃ (i : Nat) (oa : Option Addr) (lo co : Nat), iv = .int .i64 (i : Int) ∧ i ≤ n ∧ vo = .slice oa lo co ∧ Hid (Acc eI w wr (.slice oa lo co) (allI fs i))) (fun _ iv _ => n - (intOf iv).toNat)
  case atStart => exact ⟨0, none, 0, 0, rfl, Nat.zero_le _, rfl, Acc.nil eI w⟩
  case round =>
    obtain ⟨i, oa, lo, co, rfl, hi, rfl, AO⟩ := hrel
    by_cases hlt : i < n
    · obtain ⟨b, o, ha, hc, HE⟩ := (HL.out wr AO.out.lo).at_ i hlt
      subst ha
      have hfn := HE.1
      have hlo : Hid ((allI fs i).length = lo) := acc_len AO.out
      have hl2 := allI_len fs (i + 1) (by rw [hlen.out]; omega)
      have hl3 := tot_take fs (i + 1)
      rw [← hl2] at hl3
      have hT0 : allI fs (i + 1) = mrg lI (allI fs i) (tag i (srtE (fs.getD i zl).xs)) := rfl
      rw [hT0, mrg_len, tag_len, srtE_len, hlo.out] at hl3
      have HS := hid (rsorted_any (fs.getD i zl).a (fs.getD i zl).n (fs.getD i zl).c (fs.getD i zl).xs wr HE (by have := ht8.out; omega))
      have hoks : Hid (∀ x ∈ srtE (fs.getD i zl).xs, x.ok) := srtE_ok HE.2.2.2.1
      have hsl : Hid ((srtE (fs.getD i zl).xs).length = (fs.getD i zl).n) := by show _ = _; rw [srtE_len, hfn]
      rw [hfn] at hl3
      obtain ⟨S, hS⟩ : ∃ S, S = srtE (fs.getD i zl).xs := ⟨_, rfl⟩
      rw [← hS] at HS hoks hsl hT0
      obtain ⟨sn, hsn⟩ : ∃ s, s = (fs.getD i zl).n := ⟨_, rfl⟩
      obtain ⟨fa, hfa⟩ : ∃ s, s = (fs.getD i zl).a := ⟨_, rfl⟩
      obtain ⟨fc, hfc⟩ : ∃ s, s = (fs.getD i zl).c := ⟨_, rfl⟩
      rw [← hsn, ← hfa, ← hfc] at HS hc
      rw [← hsn] at hsl hl3
      have h8 : lo + sn ≤ 1048576 := by have := ht8.out; omega
      have hokO := hid (hoke.out i (by omega))
      obtain ⟨O, hO⟩ : ∃ O, O = allI fs i := ⟨_, rfl⟩
      obtain ⟨T, hT⟩ : ∃ T, T = allI fs (i + 1) := ⟨_, rfl⟩
      rw [← hO] at AO hlo hT0 hokO
      obtain ⟨SI, hSI⟩ : ∃ x, x = tag i S := ⟨_, rfl⟩
      rw [← hSI, ← hT] at hT0
      have hSIl : Hid (SI.length = sn) := by show _ = _; rw [hSI, tag_len]; exact hsl.out
      have hSIe : Hid (∀ j, j < sn → SI.getD j zi = ⟨S.getD j ze, i⟩) := fun j hj => by
        rw [hSI]
        unfold tag
        rw [List.getD_eq_getElem?_getD, List.getD_eq_getElem?_getD, List.getElem?_map, List.getElem?_eq_getElem (by rw [hsl.out]; exact hj)]
        rfl
      have m0 : (i : Int) < (n : Int) := by omega
      have m1 : (0 : Int) ≤ (i : Int) := by omega
      replace hS := hid hS
      replace hsn := hid hsn
      replace hfa := hid hfa
      replace hfc := hid hfc
      replace hO := hid hO
      replace hT := hid hT
      replace hT0 := hid hT0
      replace hSI := hid hSI
      replace hfn := hid hfn
      clear HE hl2 hl3
      go_wp2_with fail
      refine HS.out.mono ?_
      rintro e w1 ⟨v5, rfl, A5⟩
      obtain ⟨sa, sc, hv5, E5⟩ := own_ents A5.o hoks.out
      rw [hsl.out] at hv5 E5
      subst hv5
      have AO1 := hid (AO.out.later A5.lo)
      have EO := hid (acc_sl AO1.out hokO.out)
      have b01 := hid AO1.out.lo
      have hspot : Hid (∀ bo oo p, oa = some ⟨bo, oo, p⟩ → p = none) := fun bo oo p h => by
        obtain ⟨_, _, e2, _, h3⟩ := AO1.out.o.sl (fun x hx => hokO.out x hx)
        injection e2 with e3 _ _
        exact (h3 _ (e3.symm.trans h)).2
      have hTT := hT
      replace E5 := hid (sl_of E5)
      clear A5 HS AO hc
      go_wp2_with fail
      obtain ⟨wo, hwo⟩ : ∃ wo : World, wo = w1 := ⟨_, rfl⟩
      go_loopw [6, 7, 8] (fun vn kv jv wx => ∃ (na : Option Addr) (ln cn k j : Nat) (N : List It), vn = .slice na ln cn ∧ kv = .int .i64 (k : Int) ∧ jv = .int .i64 (j : Int) ∧ k ≤ lo ∧ j ≤ sn ∧ Hid (N.length = ln) ∧ Hid (ln = k + j) ∧ Hid (Acc eI w1 wx (.slice na ln cn) N) ∧ Hid (N ++ mrg lI (O.drop k) (SI.drop j) = T)) (fun _ _ jv _ => sn - (intOf jv).toNat)
      case atStart => exact ⟨none, 0, 0, 0, 0, [], rfl, rfl, rfl, Nat.zero_le _, Nat.zero_le _, rfl, rfl, Acc.nil eI w1, hT0.out.symm⟩
      case round =>
        obtain ⟨na, ln, cn, k, j, N, rfl, rfl, rfl, hk, hj, hN, hln, AN, hT⟩ := hrel
        by_cases hjl : j < sn
        · have n0 : (j : Int) < (sn : Int) := by omega
          have n1 : (0 : Int) ≤ (j : Int) := by omega
          have hSId := drop_cons zi (xs := SI) (k := j) (by rw [hSIl.out]; exact hjl)
          rw [hSIe.out j hjl] at hSId
          obtain ⟨bs, os, hsa, hya⟩ := sl_at E5.out j hjl
          subst hsa
          have hya := at4_of hya
          rw [show eE.k = 4 from rfl, show eE.z = ze from rfl] at hya
          obtain ⟨⟨yk, ys_, yc, yv⟩, hye⟩ : ∃ y, y = S.getD j ze := ⟨_, rfl⟩
          rw [← hye] at hya hSId
          replace hye := hid hye
          obtain ⟨y0, y1, y2, y3⟩ := hya
          dsimp only at y0 y1 y2 y3
          replace hSId := hid hSId
          go_wp2_with fail
          go_loopw [6, 7] (fun vn kv wx => ∃ (na : Option Addr) (ln cn k : Nat) (N : List It), vn = .slice na ln cn ∧ kv = .int .i64 (k : Int) ∧ k ≤ lo ∧ Hid (N.length = ln) ∧ Hid (ln = k + j) ∧ Hid (Acc eI w1 wx (.slice na ln cn) N) ∧ Hid (N ++ mrg lI (O.drop k) (SI.drop j) = T)) (fun _ kv _ => lo - (intOf kv).toNat)
          case atStart => exact ⟨na, ln, cn, k, N, rfl, rfl, hk, hN, hln, AN, hT⟩
          case round =>
            clear AN hT hN hln hk
            obtain ⟨na, ln, cn, k, N, rfl, rfl, hk, hN, hln, AN, hT⟩ := hrel
            by_cases hkl : k < lo
            · have k0 : (k : Int) < (lo : Int) := by omega
              have k1 : (0 : Int) ≤ (k : Int) := by omega
              have hOd := drop_cons zi (xs := O) (k := k) (by rw [hlo.out]; exact hkl)
              obtain ⟨bo, oo, hoa, hxa⟩ := sl_at EO.out k hkl
              subst hoa
              have hxa := it_at hxa
              rw [show eI.k = 5 from rfl, show eI.z = zi from rfl] at hxa
              obtain ⟨⟨⟨xk, xs_, xc, xv⟩, xf⟩, hxe⟩ : ∃ x, x = O.getD k zi := ⟨_, rfl⟩
              rw [← hxe] at hxa hOd
              replace hxe := hid hxe
              obtain ⟨x0, x1, x2, x3, x4⟩ := hxa
              dsimp only at x0 x1 x2 x3 x4
              replace hOd := hid hOd
              have z20 := cell_regrown ((AN.out.lo.cell (block_lt_of_cell x0)).trans x0)
              have z21 := cell_regrown ((AN.out.lo.cell (block_lt_of_cell x1)).trans x1)
              have z22 := cell_regrown ((AN.out.lo.cell (block_lt_of_cell x2)).trans x2)
              have z23 := cell_regrown ((AN.out.lo.cell (block_lt_of_cell x3)).trans x3)
              have u20 := cell_regrown ((AN.out.lo.cell (block_lt_of_cell y0)).trans y0)
              have u21 := cell_regrown ((AN.out.lo.cell (block_lt_of_cell y1)).trans y1)
              have u22 := cell_regrown ((AN.out.lo.cell (block_lt_of_cell y2)).trans y2)
              have u23 := cell_regrown ((AN.out.lo.cell (block_lt_of_cell y3)).trans y3)
              have HC : Hid (∀ W, Calls Try.prog 37 #[.agg #[.string xk, .int .u64 xs_, .int .i64 xc], .agg #[.string yk, .int .u64 ys_, .int .i64 yc]] W fun e w' => e = .returned (.int .i64 (cmp (Cm.ik xk xs_ xc) (Cm.ik yk ys_ yc))) ∧ Below W.heap.size W w') := fun W => rcompare_any _ _ _ _ _ _ W
              have hside : (cmp (Cm.ik xk xs_ xc) (Cm.ik yk ys_ yc) ≤ 0 ∧ Hid (lI (⟨⟨xk, xs_, xc, xv⟩, xf⟩ : It) (⟨⟨yk, ys_, yc, yv⟩, i⟩ : It) = true)) ∨ (¬ cmp (Cm.ik xk xs_ xc) (Cm.ik yk ys_ yc) ≤ 0 ∧ Hid (lI (⟨⟨xk, xs_, xc, xv⟩, xf⟩ : It) (⟨⟨yk, ys_, yc, yv⟩, i⟩ : It) = false)) := by
                by_cases h : cmp (Cm.ik xk xs_ xc) (Cm.ik yk ys_ yc) ≤ 0
                · exact .inl ⟨h, decide_eq_true h⟩
                · exact .inr ⟨h, decide_eq_false h⟩
              generalize cmp (Cm.ik xk xs_ xc) (Cm.ik yk ys_ yc) = C at *
              rcases hside with ⟨hC, hle⟩ | ⟨hC, hle⟩
              · go_wp2_with fail
                refine wp_region_quiet_below (by kernel_rfl) (by kernel_rfl) ?_
                repeat (first | go_big_quiet_step (first | (go_at_call 38; exact Calls.regrown_of (rkey_any _ _ _ _ _)) | (go_at_call 37; exact Calls.regrown_of (HC.out _))) | quiet_step (first | (go_at_call 38; exact Calls.regrown_of (rkey_any _ _ _ _ _)) | (go_at_call 37; exact Calls.regrown_of (HC.out _))))
                refine wpQuiet_nil ?_
                intro w3 hw3
                have b3 : Below wr.heap.size wr w3 := by
                  obtain ⟨⟨dq, osq⟩, hw''⟩ := hw3
                  rw [hw'']
                  exact below_regrown _ dq osq
                replace b3 := hid b3
                clear hw3 z20 z21 z22 z23 u20 u21 u22 u23 HC
                have AN2 := hid (AN.out.later b3.out)
                have zq0 := (AN2.out.lo.cell (block_lt_of_cell x0)).trans x0
                have zq1 := (AN2.out.lo.cell (block_lt_of_cell x1)).trans x1
                have zq2 := (AN2.out.lo.cell (block_lt_of_cell x2)).trans x2
                have zq3 := (AN2.out.lo.cell (block_lt_of_cell x3)).trans x3
                have zq4 := (AN2.out.lo.cell (block_lt_of_cell x4)).trans x4
                clear x0 x1 x2 x3 x4
                obtain ⟨v', W', r1, A'⟩ := AN2.out.app1 (⟨⟨xk, xs_, xc, xv⟩, xf⟩ : It) #[.string xk, .int .u64 xs_, .int .i64 xc, .string xv, .int .i64 xf] rfl (by rw [hN.out]; show (_ + 1) * 56 ≤ _; have := hln.out; omega) (by rw [hN.out]; have := hln.out; omega)
                obtain ⟨g, co', hv'⟩ := A'.nn (by simp)
                rw [List.length_append, hN.out] at hv'
                change v' = .slice (some ⟨g, 0, none⟩) (ln + 1) co' at hv'
                subst hv'
                change (Builtin.append_ #[26, 26] 26 #[_, _]).run Try.prog (w3.alloc (.cells #[.string xk, .int .u64 xs_, .int .i64 xc, .string xv, .int .i64 xf] 47)) = _ at r1
                replace r1 := hid r1
                replace A' := hid A'
                have hN' : Hid ((N ++ [(⟨⟨xk, xs_, xc, xv⟩, xf⟩ : It)]).length = ln + 1) := by show _ = _; rw [List.length_append, hN.out]; rfl
                have hT2 : Hid ((N ++ [(⟨⟨xk, xs_, xc, xv⟩, xf⟩ : It)]) ++ mrg lI (O.drop (k + 1)) (SI.drop j) = T) := by
                  show _ = _
                  have h1 := hT.out
                  rw [hOd.out, hSId.out, mrg_left lI hle.out, ← hSId.out] at h1
                  rw [← h1, List.append_assoc]; rfl
                have q3 : IntKind.i64.wrap ((k : Int) + 1) = ((k + 1 : Nat) : Int) := by rw [IntKind.wrap_i64]; omega
                clear AN AN2 hT b3
                go_wp2_with (first | (at_builtin; refine wpList_append_run rfl (.tmp 45) (.tmp 50) 26 26 rfl (.slice na ln cn) (.slice (some ⟨w3.heap.size, 0, none⟩) 1 1) (.slice (some ⟨g, 0, none⟩) (ln + 1) co') rfl rfl r1.out ?_))
                go_roundw
                case rel => exact ⟨_, ln + 1, co', k + 1, _, rfl, by first | rfl | go_num, by omega, hN', by (show _ = _); have := hln.out; omega, A', hT2⟩
                case measure => simp [intOf]; omega
              · go_wp2_with fail
                refine wp_region_quiet_below (by kernel_rfl) (by kernel_rfl) ?_
                repeat (first | go_big_quiet_step (first | (go_at_call 38; exact Calls.regrown_of (rkey_any _ _ _ _ _)) | (go_at_call 37; exact Calls.regrown_of (HC.out _))) | quiet_step (first | (go_at_call 38; exact Calls.regrown_of (rkey_any _ _ _ _ _)) | (go_at_call 37; exact Calls.regrown_of (HC.out _))))
                refine wpQuiet_nil ?_
                intro w3 hw3
                have b3 : Below wr.heap.size wr w3 := by
                  obtain ⟨⟨dq, osq⟩, hw''⟩ := hw3
                  rw [hw'']
                  exact below_regrown _ dq osq
                replace b3 := hid b3
                clear hw3 z20 z21 z22 z23 u20 u21 u22 u23 HC
                have hnext : Hid (mrg lI (O.drop k) ((⟨⟨yk, ys_, yc, yv⟩, i⟩ : It) :: SI.drop (j + 1)) = (⟨⟨yk, ys_, yc, yv⟩, i⟩ : It) :: mrg lI (O.drop k) (SI.drop (j + 1))) := by show _ = _; rw [hOd.out]; exact mrg_rite lI hle.out
                have AN2 := hid (AN.out.later b3.out)
                have zq0 := (AN2.out.lo.cell (block_lt_of_cell y0)).trans y0
                have zq1 := (AN2.out.lo.cell (block_lt_of_cell y1)).trans y1
                have zq2 := (AN2.out.lo.cell (block_lt_of_cell y2)).trans y2
                have zq3 := (AN2.out.lo.cell (block_lt_of_cell y3)).trans y3
                clear y0 y1 y2 y3
                obtain ⟨v', W', r1, A'⟩ := AN2.out.app1 (⟨⟨yk, ys_, yc, yv⟩, i⟩ : It) #[.string yk, .int .u64 ys_, .int .i64 yc, .string yv, .int .i64 i] rfl (by rw [hN.out]; show (_ + 1) * 56 ≤ _; have := hln.out; omega) (by rw [hN.out]; have := hln.out; omega)
                obtain ⟨g, co', hv'⟩ := A'.nn (by simp)
                rw [List.length_append, hN.out] at hv'
                change v' = .slice (some ⟨g, 0, none⟩) (ln + 1) co' at hv'
                subst hv'
                change (Builtin.append_ #[26, 26] 26 #[_, _]).run Try.prog (w3.alloc (.cells #[.string yk, .int .u64 ys_, .int .i64 yc, .string yv, .int .i64 i] 47)) = _ at r1
                replace r1 := hid r1
                replace A' := hid A'
                have hN' : Hid ((N ++ [(⟨⟨yk, ys_, yc, yv⟩, i⟩ : It)]).length = ln + 1) := by show _ = _; rw [List.length_append, hN.out]; rfl
                have hT2 : Hid ((N ++ [(⟨⟨yk, ys_, yc, yv⟩, i⟩ : It)]) ++ mrg lI (O.drop k) (SI.drop (j + 1)) = T) := by
                  show _ = _
                  have h1 := hT.out
                  have h2 := hSId.out
                  rw [h2] at h1
                  rw [← h1, List.append_assoc]
                  congr 1
                  exact (hnext.out).symm
                replace hSId := hid hSId
                have q3 : IntKind.i64.wrap ((j : Int) + 1) = ((j + 1 : Nat) : Int) := by rw [IntKind.wrap_i64]; omega
                clear AN AN2 hT
                go_wp2_with (first | (at_builtin; refine wpList_append_run rfl (.tmp 54) (.tmp 61) 26 26 rfl (.slice na ln cn) (.slice (some ⟨w3.heap.size, 0, none⟩) 1 1) (.slice (some ⟨g, 0, none⟩) (ln + 1) co') rfl rfl r1.out ?_))
                go_roundw
                case rel => exact ⟨_, ln + 1, co', k, j + 1, _, rfl, by first | rfl | go_num, by first | rfl | go_num, hk, by omega, hN', by (show _ = _); have := hln.out; omega, A', hT2⟩
                case measure => simp [intOf]; omega
            · have k0 : ¬ (k : Int) < (lo : Int) := by omega
              have hnext : Hid (mrg lI (O.drop k) ((⟨⟨yk, ys_, yc, yv⟩, i⟩ : It) :: SI.drop (j + 1)) = (⟨⟨yk, ys_, yc, yv⟩, i⟩ : It) :: mrg lI (O.drop k) (SI.drop (j + 1))) := by
                show _ = _
                rw [List.drop_eq_nil_of_le (by rw [hlo.out]; omega), mrg_nil, mrg_nil]
              go_wp2_with fail
              go_quiet (fail)
              generalize hwd : World.drewN wr _ = wd at *
              have bq : Below wr.heap.size wr wd := by rw [← hwd]; exact drewN_below _ _
              replace bq := hid bq
              clear hwd
              have AN2 := hid (AN.out.later bq.out)
              have zq0 := (AN2.out.lo.cell (block_lt_of_cell y0)).trans y0
              have zq1 := (AN2.out.lo.cell (block_lt_of_cell y1)).trans y1
              have zq2 := (AN2.out.lo.cell (block_lt_of_cell y2)).trans y2
              have zq3 := (AN2.out.lo.cell (block_lt_of_cell y3)).trans y3
              clear y0 y1 y2 y3
              obtain ⟨v', W', r1, A'⟩ := AN2.out.app1 (⟨⟨yk, ys_, yc, yv⟩, i⟩ : It) #[.string yk, .int .u64 ys_, .int .i64 yc, .string yv, .int .i64 i] rfl (by rw [hN.out]; show (_ + 1) * 56 ≤ _; have := hln.out; omega) (by rw [hN.out]; have := hln.out; omega)
              obtain ⟨g, co', hv'⟩ := A'.nn (by simp)
              rw [List.length_append, hN.out] at hv'
              change v' = .slice (some ⟨g, 0, none⟩) (ln + 1) co' at hv'
              subst hv'
              change (Builtin.append_ #[26, 26] 26 #[_, _]).run Try.prog (wd.alloc (.cells #[.string yk, .int .u64 ys_, .int .i64 yc, .string yv, .int .i64 i] 47)) = _ at r1
              replace r1 := hid r1
              replace A' := hid A'
              have hN' : Hid ((N ++ [(⟨⟨yk, ys_, yc, yv⟩, i⟩ : It)]).length = ln + 1) := by show _ = _; rw [List.length_append, hN.out]; rfl
              have hT2 : Hid ((N ++ [(⟨⟨yk, ys_, yc, yv⟩, i⟩ : It)]) ++ mrg lI (O.drop k) (SI.drop (j + 1)) = T) := by
                show _ = _
                have h1 := hT.out
                have h2 := hSId.out
                rw [h2] at h1
                rw [← h1, List.append_assoc]
                congr 1
                exact (hnext.out).symm
              replace hSId := hid hSId
              have q3 : IntKind.i64.wrap ((j : Int) + 1) = ((j + 1 : Nat) : Int) := by rw [IntKind.wrap_i64]; omega
              clear AN AN2 hT
              go_wp2_with (first | (at_builtin; refine wpList_append_run rfl (.tmp 54) (.tmp 61) 26 26 rfl (.slice na ln cn) (.slice (some ⟨wd.heap.size, 0, none⟩) 1 1) (.slice (some ⟨g, 0, none⟩) (ln + 1) co') rfl rfl r1.out ?_))
              go_roundw
              case rel => exact ⟨_, ln + 1, co', k, j + 1, _, rfl, by first | rfl | go_num, by first | rfl | go_num, hk, by omega, hN', by (show _ = _); have := hln.out; omega, A', hT2⟩
              case measure => simp [intOf]; omega
        · have hje : j = sn := by omega
          subst hje
          have n0 : ¬ (j : Int) < (j : Int) := by omega
          have hkln := hln
          have hfin : Hid (N ++ O.drop k = T) := by
            show _ = _
            have h1 := hT.out
            have hd : SI.drop j = [] := List.drop_eq_nil_of_le (by rw [hSIl.out]; omega)
            rw [hd, mrg_right] at h1
            exact h1
          have q4 : IntKind.i64.wrap ((i : Int) + 1) = ((i + 1 : Nat) : Int) := by rw [IntKind.wrap_i64]; omega
          have q5 : (k : Int) ≤ (lo : Int) := by omega
          have q6 : lo ≤ co := EO.out.c
          have q7 : (lo : Int) ≤ (co : Int) := by omega
          have q8 : (0 : Int) ≤ (k : Int) := by omega
          have EOx := EO.out.later AN.out.lo
          obtain ⟨ao, co2, hsp, hDS⟩ : ∃ (ao : Option Addr) (co2 : Nat), ((oa = none ∧ k = 0 ∧ lo = 0 ∧ co = 0 ∧ ao = none ∧ co2 = 0) ∨ (∃ bo oo, oa = some ⟨bo, oo, none⟩ ∧ ((k < co ∧ ao = some ⟨bo, oo + k * 5, none⟩ ∧ co2 = co - k) ∨ (k = co ∧ ao = some ⟨bo, oo, none⟩ ∧ co2 = 0)))) ∧ eI.Sl wr ao (lo - k) co2 (O.drop k) := by
            cases oa with
            | none =>
              have h0 := EO.out.nil rfl
              have hk0 : k = 0 := by omega
              refine ⟨none, 0, .inl ⟨rfl, hk0, h0.1, h0.2, rfl, rfl⟩, ?_⟩
              have e : O.drop k = [] := List.drop_eq_nil_of_le (by rw [hlo.out]; omega)
              rw [e, h0.1, Nat.zero_sub]
              exact sl_empty eI (fun _ => rfl)
            | some ad =>
              obtain ⟨bo, oo, p⟩ := ad
              have hp : p = none ∨ lo = 0 := by
                by_cases h : 0 < lo
                · exact .inl (EO.out.cells bo oo p rfl h).1
                · exact .inr (by omega)
              have hpn : p = none := hspot.out bo oo p rfl
              subst hpn
              by_cases hkc : k < co
              · exact ⟨some ⟨bo, oo + k * 5, none⟩, co - k, .inr ⟨bo, oo, rfl, .inl ⟨hkc, rfl, rfl⟩⟩, sl_drop eI EOx hk⟩
              · have e : O.drop k = [] := List.drop_eq_nil_of_le (by rw [hlo.out]; omega)
                refine ⟨some ⟨bo, oo, none⟩, 0, .inr ⟨bo, oo, rfl, .inr ⟨by omega, rfl, rfl⟩⟩, ?_⟩
                rw [e, show lo - k = 0 by omega]
                exact sl_empty eI (fun h => by cases h)
          obtain ⟨v2, W2, r2, A2⟩ := AN.out.app hDS (by rw [hN.out]; show (ln + (lo - k)) * 56 ≤ _; have := hln.out; omega) (by rw [hN.out]; have := hln.out; omega)
          have A3 := A2.from_ b01.out
          rw [hfin.out] at A3
          obtain ⟨a3, c3, hv3⟩ := A3.shape
          obtain ⟨l3, hl3⟩ : ∃ l, l = T.length := ⟨_, rfl⟩
          rw [← hl3] at hv3
          subst hv3
          change (Builtin.append_ #[26, 26] 26 #[_, _]).run Try.prog _ = _ at r2
          have hfin2 : Hid (Acc eI w W2 (.slice a3 l3 c3) (allI fs (i + 1))) := by show Acc _ _ _ _ _; rw [← hTT.out]; exact A3
          obtain ⟨dl, hdl⟩ : ∃ d, d = lo - k := ⟨_, rfl⟩
          rw [← hdl] at r2
          replace hdl := hid hdl
          replace r2 := hid r2
          replace hl3 := hid hl3
          clear A2 A3 hDS EOx AN hT
          rcases hsp with ⟨rfl, rfl, rfl, rfl, rfl, rfl⟩ | ⟨bo, oo, rfl, ⟨hkc, rfl, rfl⟩ | ⟨rfl, rfl, rfl⟩⟩
          · have hd0 : dl = 0 := by have := hdl.out; omega
            subst hd0
            go_wp2_with (first | (at_builtin; refine wpList_append_run rfl (.tmp 63) (.tmp 66) 26 26 rfl (.slice na ln cn) (.slice none 0 0) (.slice a3 l3 c3) rfl rfl r2.out ?_) | (at_builtin; refine wpList_append_run rfl (.tmp 63) (.tmp 66) 26 26 rfl (.slice na ln cn) (.slice none _ 0) (.slice a3 l3 c3) rfl rfl r2.out ?_))
            go_roundw
            case rel => exact ⟨i + 1, a3, l3, c3, by first | rfl | go_num, by omega, rfl, hfin2⟩
            case measure => simp [intOf]; omega
          · have c7 : ((co : Int) == (k : Int)) = false := by rw [beq_eq_false_iff_ne]; omega
            have c6 : ((k : Nat) == co) = false := by rw [beq_eq_false_iff_ne]; omega
            go_wp2_with (first | (at_builtin; rw [← hdl.out]; refine wpList_append_run rfl (.tmp 63) (.tmp 66) 26 26 rfl (.slice na ln cn) (.slice (some ⟨bo, oo + k * 5, none⟩) dl (co - k)) (.slice a3 l3 c3) rfl rfl r2.out ?_) | (at_builtin; refine wpList_append_run rfl (.tmp 63) (.tmp 66) 26 26 rfl (.slice na ln cn) (.slice (some ⟨bo, oo + k * 5, none⟩) _ (co - k)) (.slice a3 l3 c3) rfl rfl r2.out ?_))
            go_roundw
            case rel => exact ⟨i + 1, a3, l3, c3, by first | rfl | go_num, by omega, rfl, hfin2⟩
            case measure => simp [intOf]; omega
          · have hlk : lo = k := by omega
            subst hlk
            have hd0 : dl = 0 := by have := hdl.out; omega
            subst hd0
            go_wp2_with (first | (at_builtin; refine wpList_append_run rfl (.tmp 63) (.tmp 66) 26 26 rfl (.slice na ln cn) (.slice (some ⟨bo, oo, none⟩) 0 0) (.slice a3 l3 c3) rfl rfl r2.out ?_) | (at_builtin; refine wpList_append_run rfl (.tmp 63) (.tmp 66) 26 26 rfl (.slice na ln cn) (.slice (some ⟨bo, oo, none⟩) _ 0) (.slice a3 l3 c3) rfl rfl r2.out ?_))
            go_roundw
            case rel => exact ⟨i + 1, a3, l3, c3, by first | rfl | go_num, by omega, rfl, hfin2⟩
            case measure => simp [intOf]; omega
    · have hie : i = n := by omega
      subst hie
      have m0 : ¬ (i : Int) < (i : Int) := by omega
      go_wp2_with fail
      go_ret
      exact ⟨.slice oa lo co, rfl, AO.out⟩
end Go.Proofs.Ytgjodfaliajlgaa.Mr9

/- stableCmpFunc and SortStableFunc of the library at entries: a row in order, those that are alike as they stood. -/
import Derived.Test.YtgjodfaliajlgaaSi
import Derived.Test.YtgjodfaliajlgaaSz
namespace Go.Proofs.Ytgjodfaliajlgaa.Ss
open Go.ChangeShapes Go.WideShapes Go.ChangeAt Go.RowKit
open Go.Proofs.Ytgjodfaliajlgaa.Gr (Fp drewN_below drew_below)
open Go.Proofs.Ytgjodfaliajlgaa.Ik
open Go.Proofs.Ytgjodfaliajlgaa.Ee
open Go.Proofs.Ytgjodfaliajlgaa.Sb
open Go.Proofs.Ytgjodfaliajlgaa.Ew
set_option linter.unusedVariables false
set_option linter.unusedSimpArgs false

set_option maxHeartbeats 1000000 in
set_option maxRecDepth 20000 in
theorem stable_any (g n c : Nat) (xs : List E) (w : World) (H : ERow w g c xs) (hn : xs.length = n) (hbig : n ≤ 140737488355328) :
    Calls Try.prog 69 #[.slice (some ⟨g, 0, none⟩) n c, .int .i64 n, cf] w fun e w' => e = .returned (.tuple #[]) ∧ ∃ ys, ERow w' g c ys ∧ Srt le ys ∧ Eqf le ys xs ∧ Fp (· = g) w w' := by
  replace H := hid H
  replace hn := hid hn
  unfold cf
  go_enter Try.func69, Try.ntmps69
  go_wp2_with fail
  go_loopw [7, 8] (fun av bv wr => ∃ (a b : Nat) (Q R : List E), av = .int .i64 (a : Int) ∧ bv = .int .i64 (b : Int) ∧ b = a + 20 ∧ a ≤ n ∧ Hid (Q.length = a) ∧ Hid (Full le 20 Q) ∧ Hid (Eqf le (Q ++ R) xs) ∧ Hid (ERow wr g c (Q ++ R)) ∧ Hid (Fp (· = g) w wr)) (fun av bv _ => (n + 20 - intOf bv).toNat)
  case atStart =>
    exact ⟨0, 20, [], xs, by first | rfl | go_num, by first | rfl | go_num, rfl, Nat.zero_le _, rfl, Full.nil, Eqf.refl _, H, Fp.refl _ _⟩
  case round =>
    obtain ⟨a, b, Q, R, rfl, rfl, hb, ha, hQ, hF, he, HX, HF⟩ := hrel
    have hlen : Hid (Q.length + R.length = n) := by show _ = _; have := he.out.1; have := hn.out; simp at *; omega
    by_cases hlt : b ≤ n
    · have h6 : (b : Int) ≤ (n : Int) := by omega
      obtain ⟨M, S, hMS, hM⟩ := cut_ex R 20 (by have := hlen.out; have := hQ.out; omega)
      subst hMS
      have HI := hid (Si.ins_any g n c a b Q M S wr HX.out hQ.out (by omega) (by have h1 := hlen.out; have := hQ.out; rw [List.length_append] at h1; omega) hbig)
      unfold cf at HI
      have h7 : IntKind.i64.wrap ((b : Int) + 20) = ((b + 20 : Nat) : Int) := by rw [IntKind.wrap_i64]; omega
      replace hb := hid hb
      replace hM := hid hM
      go_wp2_with fail
      refine HI.out.mono ?_
      rintro e w1 ⟨rfl, M', R1, s1, e1, F1⟩
      have F2 : Hid (Fp (· = g) w w1) := HF.out.tr (F1.wide (fun j _ h => .inl h))
      have hM' : Hid (M'.length = 20) := e1.1.trans hM.out
      have R2 : Hid (ERow w1 g c ((Q ++ M') ++ S)) := by show ERow _ _ _ _; simpa using R1
      have hF2 : Hid (Full le 20 (Q ++ M')) := Full.snoc _ _ hF.out hM'.out s1
      have he2 : Hid (Eqf le ((Q ++ M') ++ S) xs) := by
        have := ((Eqf.refl (le := le) Q).app (e1.app (Eqf.refl (le := le) S))).trans he.out
        show Eqf _ _ _
        simpa using this
      have hQ2 : Hid ((Q ++ M').length = b) := by show _ = _; rw [List.length_append, hM'.out, hQ.out, hb.out]
      clear R1 s1 e1 F1 HI HX HF hF he hQ
      go_wp2_with fail
      go_roundw
      case rel => exact ⟨b, b + 20, Q ++ M', S, by first | rfl | go_num, by first | rfl | go_num, rfl, by omega, hQ2, hF2, he2, R2, F2⟩
      case measure => simp [intOf]; omega
    · have h6 : ¬ (b : Int) ≤ (n : Int) := by omega
      have HI := hid (Si.ins_any g n c a n Q R [] wr (by rw [List.append_nil]; exact HX.out) hQ.out (by have := hlen.out; have := hQ.out; omega) (by simp) hbig)
      unfold cf at HI
      have hbn : n < a + 20 := by omega
      clear hlt
      replace hb := hid hb
      go_wp2_with fail
      refine HI.out.mono ?_
      rintro e w1 ⟨rfl, M', R1, s1, e1, F1⟩
      rw [List.append_nil] at R1
      have hM' := e1.1
      have hru : Hid (Runs le 20 (Q ++ M')) := hF.out.runs _ (.last _ s1 (by have := hlen.out; have := hQ.out; omega))
      have F2 : Hid (Fp (· = g) w w1) := HF.out.tr (F1.wide (fun j _ h => .inl h))
      have he2 : Hid (Eqf le (Q ++ M') xs) := ((Eqf.refl (le := le) Q).app e1).trans he.out
      obtain ⟨cur, hcur⟩ : ∃ z, z = Q ++ M' := ⟨_, rfl⟩
      rw [← hcur] at R1 hru he2
      replace R1 := hid R1
      clear hcur hM' e1 s1 F1 HI HX HF hF he hQ hlen hb h6 hbn ha
      go_wp2_with fail
      go_loopw [6] (fun sv wr => ∃ (bs : Nat) (cur : List E), sv = .int .i64 (bs : Int) ∧ 0 < bs ∧ (bs < 2 * n ∨ bs = 20) ∧ Hid (Runs le bs cur) ∧ Hid (Eqf le cur xs) ∧ Hid (ERow wr g c cur) ∧ Hid (Fp (· = g) w wr)) (fun sv _ => (n - intOf sv).toNat)
      case atStart => exact ⟨20, cur, by first | rfl | go_num, by omega, .inr rfl, hru, he2, R1, F2⟩
      case round =>
        clear hru he2 R1 F2 cur
        obtain ⟨bs, cur, rfl, hbs, hbs2, hru, he, HX, HF⟩ := hrel
        have hcl : Hid (cur.length = n) := he.out.1.trans hn.out
        by_cases hlt : bs < n
        · have h6 : (bs : Int) < (n : Int) := by omega
          have h7 : IntKind.i64.wrap (2 * (bs : Int)) = ((2 * bs : Nat) : Int) := by rw [IntKind.wrap_i64]; omega
          have h8 : IntKind.i64.wrap ((bs : Int) * 2) = ((2 * bs : Nat) : Int) := by rw [IntKind.wrap_i64]; omega
          obtain ⟨ds, hds⟩ : ∃ d, d = 2 * bs := ⟨_, rfl⟩
          rw [← hds] at h7 h8
          go_wp2_with fail
          obtain ⟨wo, hwo⟩ : ∃ wo : World, wo = wr := ⟨_, rfl⟩
          rw [← hwo] at HX HF
          go_loopw [7, 8] (fun av bv wx => ∃ (a b : Nat) (Q R : List E), av = .int .i64 (a : Int) ∧ bv = .int .i64 (b : Int) ∧ b = a + ds ∧ a ≤ n ∧ Hid (Q.length = a) ∧ Hid (Full le ds Q) ∧ Hid (Runs le bs R) ∧ Hid (Eqf le (Q ++ R) xs) ∧ Hid (ERow wx g c (Q ++ R)) ∧ Hid (Fp (· = g) w wx)) (fun av bv _ => (n + ds - intOf bv).toNat)
          case atStart =>
            rw [← hwo]
            exact ⟨0, ds, [], cur, by first | rfl | go_num, by first | rfl | go_num, by omega, Nat.zero_le _, rfl, Full.nil, hru, he, HX, HF⟩
          case round =>
            clear HX HF hwo hru he hcl cur
            obtain ⟨a, b, Q, R, rfl, rfl, hb, ha, hQ, hF, hR, he, HX, HF⟩ := hrel
            have hlen : Hid (Q.length + R.length = n) := by show _ = _; have := he.out.1; have := hn.out; simp at *; omega
            obtain ⟨m, hm⟩ : ∃ m, m = a + bs := ⟨_, rfl⟩
            have h9 : IntKind.i64.wrap ((a : Int) + (bs : Int)) = (m : Int) := by rw [IntKind.wrap_i64]; omega
            by_cases hbn : b ≤ n
            · have g6 : (b : Int) ≤ (n : Int) := by omega
              have g7 : IntKind.i64.wrap ((b : Int) + (ds : Int)) = ((b + ds : Nat) : Int) := by rw [IntKind.wrap_i64]; omega
              obtain ⟨B1, R', e1, l1, s1, hR1⟩ := hR.out.one (by have := hlen.out; have := hQ.out; omega)
              subst e1
              have lR' : R'.length + bs + a = n := by have := hlen.out; have := hQ.out; simp at *; omega
              obtain ⟨B2, R2, e2, l2, s2, hR2⟩ := hR1.one (by omega)
              subst e2
              have lR2 : R2.length + bs + bs + a = n := by simp at lR'; omega
              have HI := hid (Sz.symmerge_any g n c a m b Q B1 B2 R2 wr HX.out hQ.out (by omega) (by omega) (by omega) (by omega) (by omega) hbig s1 s2)
              unfold cf at HI
              replace hb := hid hb
              replace hm := hid hm
              replace hds := hid hds
              replace l1 := hid l1
              replace l2 := hid l2
              replace lR' := hid lR'
              replace lR2 := hid lR2
              replace hR2 := hid hR2
              clear hR hR1
              go_wp2_with fail
              refine HI.out.mono ?_
              rintro e w1 ⟨rfl, M', R1, s3, e3, F1⟩
              have F2 : Hid (Fp (· = g) w w1) := HF.out.tr (F1.wide (fun j _ h => .inl h))
              have hM' : Hid (M'.length = ds) := by show _ = _; rw [e3.1, List.length_append, l1.out, l2.out, hds.out]; omega
              have R3 : Hid (ERow w1 g c ((Q ++ M') ++ R2)) := by show ERow _ _ _ _; simpa using R1
              have hF2 : Hid (Full le ds (Q ++ M')) := Full.snoc _ _ hF.out hM'.out s3
              have he2 : Hid (Eqf le ((Q ++ M') ++ R2) xs) := by
                have := ((Eqf.refl (le := le) Q).app (e3.app (Eqf.refl (le := le) R2))).trans (by have := he.out; simpa using this)
                show Eqf _ _ _
                simpa using this
              have hQ2 : Hid ((Q ++ M').length = b) := by show _ = _; rw [List.length_append, hM'.out, hQ.out, hb.out]
              clear R1 s3 e3 F1 HI HX HF hF he hQ
              go_wp2_with fail
              go_roundw
              case rel => exact ⟨b, b + ds, Q ++ M', R2, by first | rfl | go_num, by first | rfl | go_num, rfl, by omega, hQ2, hF2, hR2, he2, R3, F2⟩
              case measure => (simp [intOf]; have := hds.out; omega)
            · have g6 : ¬ (b : Int) ≤ (n : Int) := by omega
              by_cases hmn : m < n
              · have g7 : (m : Int) < (n : Int) := by omega
                obtain ⟨B1, R', e1, l1, s1, hR1⟩ := hR.out.two hbs (by have := hlen.out; have := hQ.out; omega)
                subst e1
                have lR' : R'.length + bs + a = n := by have := hlen.out; have := hQ.out; simp at *; omega
                have s2 := hR1.all (by omega) hbs
                have HI := hid (Sz.symmerge_any g n c a m n Q B1 R' [] wr (by rw [List.append_nil]; exact HX.out) hQ.out (by omega) (by omega) (by omega) (by omega) (by simp) hbig s1 s2)
                unfold cf at HI
                have hfin : R'.length + B1.length ≤ ds := by omega
                replace hb := hid hb
                replace hm := hid hm
                replace hds := hid hds
                replace l1 := hid l1
                replace lR' := hid lR'
                replace hfin := hid hfin
                clear hR hR1
                go_wp2_with fail
                refine HI.out.mono ?_
                rintro e w1 ⟨rfl, M', R1, s3, e3, F1⟩
                rw [List.append_nil] at R1
                have F2 : Hid (Fp (· = g) w w1) := HF.out.tr (F1.wide (fun j _ h => .inl h))
                have hru2 : Hid (Runs le ds (Q ++ M')) := hF.out.runs _ (.last _ s3 (by rw [e3.1, List.length_append]; have := hfin.out; omega))
                have he2 : Hid (Eqf le (Q ++ M') xs) := ((Eqf.refl (le := le) Q).app e3).trans he.out
                replace R1 := hid R1
                clear s3 e3 F1 HI HX HF hF he hQ
                go_wp2_with fail
                go_roundw
                case rel => exact ⟨ds, Q ++ M', by first | rfl | go_num, by have := hds.out; omega, .inl (by have := hds.out; omega), hru2, he2, R1, F2⟩
                case measure => (simp [intOf]; have := hds.out; omega)
              · have g7 : ¬ (m : Int) < (n : Int) := by omega
                have s2 := hR.out.all (by have := hlen.out; have := hQ.out; omega) hbs
                have hru2 : Hid (Runs le ds (Q ++ R)) := hF.out.runs _ (.last _ s2 (by have := hlen.out; have := hQ.out; omega))
                replace hb := hid hb
                replace hm := hid hm
                replace hds := hid hds
                clear s2 hF hQ hR
                go_wp2_with fail
                go_roundw
                case rel => exact ⟨ds, Q ++ R, by first | rfl | go_num, by have := hds.out; omega, .inl (by have := hds.out; omega), hru2, he, HX, HF⟩
                case measure => (simp [intOf]; have := hds.out; omega)
        · have h6 : ¬ (bs : Int) < (n : Int) := by omega
          have hs := hid (hru.out.all (by rw [hcl.out]; omega) hbs)
          go_wp2_with fail
          refine bodyPost_end (results_none rfl _ _ _) rfl ?_
          exact ⟨rfl, cur, HX.out, hs.out, he.out, HF.out⟩
set_option maxHeartbeats 1000000 in
theorem sortstable_any (g n c : Nat) (xs : List E) (w : World) (H : ERow w g c xs) (hn : xs.length = n) (hbig : n ≤ 140737488355328) :
    Calls Try.prog 54 #[.slice (some ⟨g, 0, none⟩) n c, cf] w fun e w' => e = .returned (.tuple #[]) ∧ ∃ ys, ERow w' g c ys ∧ Srt le ys ∧ Eqf le ys xs ∧ Fp (· = g) w w' := by
  have HS := hid (stable_any g n c xs w H hn hbig)
  clear H
  unfold cf at *
  go_enter Try.func54, Try.ntmps54
  go_wp2_with fail
  refine HS.out.mono ?_
  rintro e w1 ⟨rfl, h1⟩
  replace h1 := hid h1
  go_wp2_with fail
  refine bodyPost_end (results_none rfl _ _ _) rfl ?_
  exact ⟨rfl, h1.out⟩
end Go.Proofs.Ytgjodfaliajlgaa.Ss

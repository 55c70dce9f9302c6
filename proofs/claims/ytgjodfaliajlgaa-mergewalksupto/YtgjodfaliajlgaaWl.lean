/- MergeWalks, walked. -/
import Derived.Test.YtgjodfaliajlgaaSt
import Derived.Test.YtgjodfaliajlgaaMs9
import Derived.Test.YtgjodfaliajlgaaMv9
namespace Go.Proofs.Ytgjodfaliajlgaa.Wl
open Go.ChangeShapes Go.WideShapes Go.ChangeAt Go.RowKit
open Go.Sort (grow)
open Go.Proofs.Ytgjodfaliajlgaa.Gr hiding hid addr_add
open Go.Proofs.Ytgjodfaliajlgaa.Ac
open Go.Proofs.Ytgjodfaliajlgaa.Ik
open Go.Proofs.Ytgjodfaliajlgaa.Ee
open Go.Proofs.Ytgjodfaliajlgaa.Cm (ik)
open Go.Proofs.Ytgjodfaliajlgaa.Sd hiding below_grown
open Go.Proofs.Ytgjodfaliajlgaa.Ml
open Go.Proofs.Ytgjodfaliajlgaa.Mi
open Go.Proofs.Ytgjodfaliajlgaa.Mr9 (rall_any acc_sl)
open Go.Proofs.Ytgjodfaliajlgaa.Hp
open Go.Proofs.Ytgjodfaliajlgaa.Sk9 (Cut cut_ex)
open Go.Proofs.Ytgjodfaliajlgaa.Ls9 (Lb c4 hr hv hb)
open Go.Proofs.Ytgjodfaliajlgaa.Gc9
open Go.Proofs.Ytgjodfaliajlgaa.Pm
open Go.Proofs.Ytgjodfaliajlgaa.Mt
open Go.Proofs.Ytgjodfaliajlgaa.My (pos ins_at ins_hb tgt Wk)
open Go.Proofs.Ytgjodfaliajlgaa.Mh (mvI moved_any moved_else)
open Go.Proofs.Ytgjodfaliajlgaa.St (stands_any)
open Go.Proofs.Ytgjodfaliajlgaa.Mx (merged_any)
open Go.Proofs.Ytgjodfaliajlgaa.Ms9 (mv rmove_any rseek_any)
open Go.Proofs.Ytgjodfaliajlgaa.Mv9
set_option linter.unusedVariables false
set_option linter.unusedSimpArgs false

theorem mv_mvI (T : Nat) (p c : Int) (m : Nat) (hp : -1 ≤ p ∧ p ≤ (T : Int)) (hc : 0 ≤ c ∧ c ≤ 4) : mv (T : Int) p c (m : Int) = mvI T p c m := by
  have hcc : c = 0 ∨ c = 1 ∨ c = 2 ∨ c = 3 ∨ c = 4 := by omega
  unfold mv mvI tgt
  rcases hcc with rfl | rfl | rfl | rfl | rfl
  · rfl
  · rfl
  · rfl
  · simp only [show ((3 : Int) = 0) = False by simp, show ((3 : Int) = 1) = False by simp, show ((3 : Int) = 2) = False by simp, Bool.false_eq_true, if_false, if_true]
    split <;> omega
  · simp only [show ((4 : Int) = 0) = False by simp, show ((4 : Int) = 1) = False by simp, show ((4 : Int) = 2) = False by simp, show ((4 : Int) = 3) = False by simp, if_false, if_true]
    split <;> omega
theorem pos_bd (bk : Bool) (k T : Nat) (h : k ≤ T) : -1 ≤ pos bk k ∧ pos bk k ≤ (T : Int) := by
  unfold pos
  cases bk with
  | false => simp only [Bool.false_eq_true, if_false]; omega
  | true => simp only [if_true]; omega
theorem hb_cases (T : Nat) (p : Int) : (p < 0 ∧ hb T p = false) ∨ (0 ≤ p ∧ p < (T : Int) ∧ hb T p = true) ∨ ((T : Int) ≤ p ∧ hb T p = false) := by
  unfold hb
  by_cases h1 : 0 ≤ p
  · by_cases h2 : p < (T : Int)
    · exact .inr (.inl ⟨h1, h2, by rw [decide_eq_true h1, decide_eq_true h2]; rfl⟩)
    · exact .inr (.inr ⟨by omega, by rw [decide_eq_false h2, Bool.and_false]⟩)
  · exact .inl ⟨by omega, by rw [decide_eq_false h1]; rfl⟩
set_option maxHeartbeats 4000000 in
set_option maxRecDepth 100000 in
theorem mwalks_any (a : Option Addr) (n c : Nat) (fs : List Lf) (ma : Option Addr) (mn mc : Nat) (ms : List Mv) (w : World) (H : Lsts w a n c fs) (HM : eV.Sl w ma mn mc ms) (hn8 : n ≤ 1048576) (ht8 : tot fs ≤ 1048576) (hm8 : mn ≤ 1048576) (hks : ∀ f ∈ fs, ∀ x ∈ f.xs, x.k.size ≤ 140737488351232) :
    Calls Try.prog 3 #[.slice a n c, .slice ma mn mc] w fun e w' => e = .returned (.bool true) ∧ Below w.heap.size w w' := by
  have hlen : Hid (fs.length = n) := H.s.n
  have hnc := H.s.c
  have hmnc := HM.c
  have HMg := hid (merged_any a n c fs w H hn8 ht8 hks)
  have hokf : ∀ f ∈ fs, ∀ x ∈ f.xs, x.ok := fun f hf => (H.e f hf).2.2.2.1
  have HL : Hid (∀ W, Below w.heap.size w W → Lsts W a n c fs) := fun W b => H.later b
  have HMv : Hid (∀ W, Below w.heap.size w W → eV.Sl W ma mn mc ms) := fun W b => HM.later b
  obtain ⟨L, hL⟩ : ∃ L, L = allI fs n := ⟨_, rfl⟩
  obtain ⟨T, hT⟩ : ∃ T, T = L.length := ⟨_, rfl⟩
  have hT8 : T ≤ 1048576 := by
    rw [hT, hL, allI_len fs n (by rw [hlen.out]; omega), ← hlen.out, List.take_length]; exact ht8
  have hsrt : Hid (Sb.Srt Ew.le (L.map It.e)) := by
    show Sb.Srt _ _
    rw [hL, allI_e fs n (by rw [hlen.out]; omega)]; exact (srtE_spec _).1
  have hokL : Hid (∀ x ∈ L, x.e.ok) := by
    show ∀ x ∈ L, _
    rw [hL]; exact allI_ok hokf n (by rw [hlen.out]; omega)
  rw [← hL] at HMg
  replace hL := hid hL
  replace hT := hid hT
  replace ht8 := hid ht8
  clear H HM hokf hks
  go_enter Try.func3, Try.ntmps3
  go_wp2_with fail
  refine HMg.out.mono ?_
  rintro e w1 ⟨gm, gg, cs, S, rfl, M1, b1⟩
  have HA := hid (rall_any a n c fs w1 (HL.out w1 b1) hn8 ht8.out)
  rw [← hL.out] at HA
  replace M1 := hid M1
  replace b1 := hid b1
  clear HMg
  go_wp2_with fail
  refine HA.out.mono ?_
  rintro e w2 ⟨v, rfl, AI⟩
  obtain ⟨aa, ac, hv⟩ := AI.shape
  rw [← hT.out] at hv
  subst hv
  obtain ⟨X, hX⟩ : ∃ X, X = (fun j => j < w.heap.size ∨ (w1.heap.size ≤ j ∧ j < w2.heap.size)) := ⟨_, rfl⟩
  have M2 := M1.out.more AI.lo
  rw [← hX] at M2
  have b2 := hid (Below.up b1.out AI.lo)
  have hXw : Hid (∀ wr, Fp (fun j => ¬ X j) w2 wr → Below w.heap.size w wr ∧ eI.Sl wr aa T ac L) := by
    intro wr f
    have hx1 : ∀ j, j < w.heap.size → wr.heap[j]? = w2.heap[j]? := fun j hj => f.block j (Nat.lt_of_lt_of_le hj b2.out.size) (by rw [hX]; exact fun h => h (.inl hj))
    have hB : Below w.heap.size w wr := ⟨f.os.trans b2.out.os, f.tape.trans b2.out.tape, f.output.trans b2.out.output, Nat.le_trans b2.out.size f.size, fun j hj => (hx1 j hj).trans (b2.out.block j hj)⟩
    have A2 : Acc eI w wr (.slice aa T ac) L := by
      refine ⟨own_base (own_blocks AI.o (fun j hj => ?_)) (fun j hj => ?_), hB⟩
      · have := own_lt AI.o j hj
        exact f.block j this.2 (by rw [hX]; exact fun h => h (.inr this))
      · have := own_lt AI.o j hj
        have := b1.out.size
        omega
    exact ⟨hB, acc_sl A2 hokL.out⟩
  have S2 := hid (hXw.out w2 (Fp.refl _ _)).2
  have HS0 := hid (stands_any M2 aa T ac (-1) rfl hT.out.symm (by omega) S2.out)
  replace M2 := hid M2
  replace hX := hid hX
  clear AI HA M1 b1
  have hTac : T ≤ ac := S2.out.c
  clear S2
  go_wp2_with fail
  refine HS0.out.mono ?_
  rintro e w3 ⟨rfl, b3⟩
  have M3 := hid (M2.out.later b3)
  have F3 := hid ((Fp.refl (fun j => ¬ X j) w2).below b3)
  clear HS0 M2 b3
  go_wp2_with fail
  go_loopw [7, 8] (fun pv iv wr => ∃ (i : Nat) (p : Int) (bk : Bool) (k : Nat), pv = .int .i64 p ∧ iv = .int .i64 (i : Int) ∧ i ≤ mn ∧ Hid (p = pos bk k) ∧ Hid (Ms wr gm gg n cs S L X bk k) ∧ Hid (Fp (fun j => ¬ X j) w2 wr)) (fun _ iv _ => mn - (intOf iv).toNat)
  case atStart => exact ⟨0, -1, true, 0, by first | rfl | go_num, rfl, Nat.zero_le _, (show (-1 : Int) = pos true 0 from by decide), M3, F3⟩
  case round =>
    clear M3 F3
    obtain ⟨i, p, bk, k, rfl, rfl, hi, hp, M, F⟩ := hrel
    obtain ⟨hB, hS⟩ := hXw.out wr F.out
    by_cases him : i < mn
    · have i1 : (i : Int) < (mn : Int) := by omega
      have i2 : (0 : Int) ≤ (i : Int) := by omega
      have i3 : IntKind.i64.wrap ((i : Int) + 1) = ((i + 1 : Nat) : Int) := by rw [IntKind.wrap_i64]; omega
      obtain ⟨bm, om, hma, hx⟩ := sl_at (HMv.out wr hB) i him
      subst hma
      have hx := mv_at hx
      rw [show eV.k = 4 from rfl] at hx
      obtain ⟨x, hxx⟩ : ∃ x, x = ms.getD i eV.z := ⟨_, rfl⟩
      rw [← hxx] at hx
      obtain ⟨xd, xk, xs, xc⟩ := x
      dsimp only at hx
      obtain ⟨m, hm⟩ := cut_ex (L.map It.e) (ik xk xs xc) hsrt.out
      obtain ⟨x0, x1, x2, x3⟩ := hx
      have hpb := pos_bd bk k T (by rw [hT.out]; exact M.out.kl)
      rw [← hp.out] at hpb
      replace hxx := hid hxx
      by_cases hc : 0 ≤ xd ∧ xd ≤ 4
      · have HMo := hid (moved_any M.out xd xk xs xc m hm hc)
        have hfin : Hid (∀ b w4, Wk wr gm gg n cs S L X (mvI L.length (pos bk k) xd m) b w4 → ∃ bk' k', b = hb T (pos bk' k') ∧ Ms w4 gm gg n cs S L X bk' k' ∧ Fp (fun j => ¬ X j) w2 w4 ∧ mv (T : Int) p xd (m : Int) = pos bk' k' ∧ Below w.heap.size w w4 ∧ eI.Sl w4 aa T ac L) := by
          rintro b w4 ⟨bk', k', e1, M4, f4, e4⟩
          have hF := F.out.tr (f4.wide (fun j _ h => .inl h))
          obtain ⟨B4, S4⟩ := hXw.out w4 hF
          refine ⟨bk', k', by rw [e1, ins_hb L bk' k' M4.kl, hT.out], M4, hF, ?_, B4, S4⟩
          rw [mv_mvI T p xd m hpb hc, e4, hT.out, hp.out]
        have HX : Hid (∀ W, Below w.heap.size w W → W.cell? ⟨bm, om + i * 4, none⟩ = some (.int .i64 xd) ∧ W.cell? ⟨bm, om + i * 4 + 1, none⟩ = some (.string xk) ∧ W.cell? ⟨bm, om + i * 4 + 2, none⟩ = some (.int .u64 xs) ∧ W.cell? ⟨bm, om + i * 4 + 3, none⟩ = some (.int .i64 xc)) := by
          intro W b
          obtain ⟨b0, o0, e0, h0⟩ := sl_at (HMv.out W b) i him
          injection e0 with e0; injection e0 with e1 e2
          subst e1 e2
          have h0 := mv_at h0
          rw [show eV.k = 4 from rfl, ← hxx.out] at h0
          exact h0
        replace hB := hid hB
        replace hS := hid hS
        replace hm := hid hm
        replace hc := hid hc
        replace hpb := hid hpb
        clear M F
        go_wp2_with fail
        refine HMo.out.mono ?_
        rintro e w4 ⟨b, rfl, hwk⟩
        obtain ⟨bk', k', hb4, M4, F4, hp4, B4, S4⟩ := hfin.out b w4 hwk
        obtain ⟨x0, x1, x2, x3⟩ := HX.out w4 B4
        replace x0 := cell_regrown x0
        replace x1 := cell_regrown x1
        replace x2 := cell_regrown x2
        replace x3 := cell_regrown x3
        have hpb4 := pos_bd bk' k' T (by rw [hT.out]; exact M4.kl)
        obtain ⟨p4, hp5⟩ : ∃ p4, p4 = pos bk' k' := ⟨_, rfl⟩
        rw [← hp5] at hb4 hp4 hpb4
        have HSk : Hid (∀ d os, Calls Try.prog 14 #[.slice aa T ac, .agg #[.string xk, .int .u64 xs, .int .i64 xc]] (Go.Sort.grow (redrawn w4 d) os) fun e w' => e = .returned (.int .i64 (m : Int)) ∧ Below (Go.Sort.grow (redrawn w4 d) os).heap.size (Go.Sort.grow (redrawn w4 d) os) w') := fun d os => rseek_any aa T ac m L xk xs xc _ (S4.later (below_regrown w4 d os)) (by omega) hm.out
        have HRm : Hid (∀ W, Calls Try.prog 13 #[.int .i64 (T : Int), .int .i64 p, .int .i64 xd, .int .i64 (m : Int)] W fun e w' => e = .returned (.int .i64 p4) ∧ Below W.heap.size W w') := fun W => (rmove_any T p xd m W (by omega) hpb.out).mono (fun e w' h => ⟨by rw [← hp4]; exact h.1, by rw [h.2]; exact Below.refl _ _⟩)
        have HSt : Hid (∀ w5, Below w4.heap.size w4 w5 → Calls Try.prog 11 #[.pointer (some ⟨gm, 0, none⟩), .slice aa T ac, .int .i64 p4] w5 fun e w' => e = .returned (.bool true) ∧ Below w5.heap.size w5 w') := fun w5 b5 => stands_any (M4.later b5) aa T ac p4 hp5 hT.out.symm (by omega) (S4.later b5)
        replace M4 := hid M4
        replace F4 := hid F4
        replace hp5 := hid hp5
        replace hp4 := hid hp4
        replace hb4 := hid hb4
        clear hfin hwk HMo HX S4 B4
        go_wp2_with fail
        refine wp_region_quiet_below (by kernel_rfl) (by kernel_rfl) ?_
        repeat (first | go_big_quiet_step (first | (go_at_call 14; exact Calls.regrown_of (HSk.out _ _)) | (go_at_call 13; exact Calls.regrown_of (HRm.out _))) | quiet_step (first | (go_at_call 14; exact Calls.regrown_of (HSk.out _ _)) | (go_at_call 13; exact Calls.regrown_of (HRm.out _))))
        refine wpQuiet_nil ?_
        intro w5 hw5
        have b5 : Below w4.heap.size w4 w5 := by
          obtain ⟨⟨dq, osq⟩, hw''⟩ := hw5
          rw [hw'']
          exact below_regrown _ dq osq
        have HS5 := hid (HSt.out w5 b5)
        have hfin2 : Hid (∀ w6, Below w5.heap.size w5 w6 → Hid (Ms w6 gm gg n cs S L X bk' k') ∧ Hid (Fp (fun j => ¬ X j) w2 w6)) := fun w6 b6 => ⟨M4.out.later (Below.up b5 b6), F4.out.below (Below.up b5 b6)⟩
        clear hw5 b5 HSt HSk HRm x0 x1 x2 x3 M4 F4
        rcases hb_cases T p4 with ⟨h1, h2⟩ | ⟨h1, h2, h3⟩ | ⟨h1, h2⟩
        · have hb4 := hb4.out
          rw [h2] at hb4
          subst hb4
          have n1 : ¬ (0 : Int) ≤ p4 := by omega
          replace h2 := hid h2
          go_wp2_with fail
          refine HS5.out.mono ?_
          rintro e w6 ⟨rfl, b6⟩
          have hf6 := hid (hfin2.out w6 b6)
          clear b6 HS5 hfin2
          go_wp2_with fail
          go_roundw
          case rel => exact ⟨i + 1, p4, bk', k', rfl, by first | rfl | go_num, by omega, hp5, hf6.out.1, hf6.out.2⟩
          case measure => simp [intOf]; omega
        · have hb4 := hb4.out
          rw [h3] at hb4
          subst hb4
          replace h3 := hid h3
          go_wp2_with fail
          refine HS5.out.mono ?_
          rintro e w6 ⟨rfl, b6⟩
          have hf6 := hid (hfin2.out w6 b6)
          clear b6 HS5 hfin2
          go_wp2_with fail
          go_roundw
          case rel => exact ⟨i + 1, p4, bk', k', rfl, by first | rfl | go_num, by omega, hp5, hf6.out.1, hf6.out.2⟩
          case measure => simp [intOf]; omega
        · have hb4 := hb4.out
          rw [h2] at hb4
          subst hb4
          have n1 : (0 : Int) ≤ p4 := by omega
          have n2 : ¬ p4 < (T : Int) := by omega
          replace h2 := hid h2
          go_wp2_with fail
          refine HS5.out.mono ?_
          rintro e w6 ⟨rfl, b6⟩
          have hf6 := hid (hfin2.out w6 b6)
          clear b6 HS5 hfin2
          go_wp2_with fail
          go_roundw
          case rel => exact ⟨i + 1, p4, bk', k', rfl, by first | rfl | go_num, by omega, hp5, hf6.out.1, hf6.out.2⟩
          case measure => simp [intOf]; omega
      · have HMo := hid (moved_else (.pointer (some ⟨gm, 0, none⟩)) xd xk xs xc wr (by omega))
        have hfin : Hid (∀ w4, Below wr.heap.size wr w4 → Hid (Ms w4 gm gg n cs S L X bk k) ∧ Hid (Fp (fun j => ¬ X j) w2 w4)) := fun w4 b => ⟨M.out.later b, F.out.below b⟩
        replace hB := hid hB
        replace hS := hid hS
        replace hm := hid hm
        replace hc := hid hc
        replace hpb := hid hpb
        clear M F
        go_wp2_with fail
        refine HMo.out.mono ?_
        rintro e w4 ⟨rfl, b4⟩
        have hf4 := hid (hfin.out w4 b4)
        clear b4 hfin HMo
        go_wp2_with fail
        go_roundw
        case rel => exact ⟨i + 1, p, bk, k, rfl, by first | rfl | go_num, by omega, hp, hf4.out.1, hf4.out.2⟩
        case measure => simp [intOf]; omega
    · have i1 : ¬ (i : Int) < (mn : Int) := by omega
      replace hB := hid hB
      clear hS M F hXw
      go_wp2_with fail
      go_ret
      exact ⟨rfl, hB.out⟩
end Go.Proofs.Ytgjodfaliajlgaa.Wl

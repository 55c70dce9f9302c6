/- MergeAll, walked. -/
import Derived.Test.YtgjodfaliajlgaaMd
import Derived.Test.YtgjodfaliajlgaaMe
import Derived.Test.YtgjodfaliajlgaaSmm
namespace Go.Proofs.Ytgjodfaliajlgaa.Mf
open Go.ChangeShapes Go.WideShapes Go.ChangeAt Go.RowKit
open Go.Proofs.Ytgjodfaliajlgaa.Gr hiding hid addr_add
open Go.Proofs.Ytgjodfaliajlgaa.Ac
open Go.Proofs.Ytgjodfaliajlgaa.Ik
open Go.Proofs.Ytgjodfaliajlgaa.Ee
open Go.Proofs.Ytgjodfaliajlgaa.Sb
open Go.Proofs.Ytgjodfaliajlgaa.Ew
open Go.Proofs.Ytgjodfaliajlgaa.Sd hiding below_grown
open Go.Proofs.Ytgjodfaliajlgaa.Rsd
open Go.Proofs.Ytgjodfaliajlgaa.Ml
open Go.Proofs.Ytgjodfaliajlgaa.Mi
open Go.Proofs.Ytgjodfaliajlgaa.Mr9
open Go.Proofs.Ytgjodfaliajlgaa.Mc
open Go.Proofs.Ytgjodfaliajlgaa.Md
open Go.Proofs.Ytgjodfaliajlgaa.Me
set_option linter.unusedVariables false
set_option linter.unusedSimpArgs false

theorem all_map {fs gs : List Lf} (h : gs.map Lf.xs = fs.map Lf.xs) : all gs = all fs := by
  unfold all
  rw [List.flatMap_def, List.flatMap_def, h]
theorem get_map {fs gs : List Lf} (h : gs.map Lf.xs = fs.map Lf.xs) (i : Nat) : (gs.getD i zl).xs = (fs.getD i zl).xs := by
  have := congrArg (fun l => l.getD i []) h
  simpa [List.getD_eq_getElem?_getD, List.getElem?_map, Option.getD_map] using (by
    rw [List.getD_eq_getElem?_getD, List.getD_eq_getElem?_getD, List.getElem?_map, List.getElem?_map] at this
    cases h1 : gs[i]? <;> cases h2 : fs[i]? <;> simp [h1, h2, zl] at this ⊢ <;> exact this : ((gs[i]?).getD zl).xs = ((fs[i]?).getD zl).xs)
theorem spoilt_ok : E.ok ⟨⟨#[115, 112, 111, 105, 108, 116]⟩, 0, 0, ⟨#[]⟩⟩ := by
  refine ⟨?_, ⟨by show (0 : Int) ≤ 0; omega, by show (0 : Int) ≤ 18446744073709551615; omega⟩, ⟨by show (-9223372036854775808 : Int) ≤ 0; omega, by show (0 : Int) ≤ 9223372036854775807; omega⟩, ?_⟩
  · show (6 : Nat) ≤ maxLen; unfold maxLen; omega
  · show (0 : Nat) ≤ maxLen; unfold maxLen; omega
set_option maxHeartbeats 2000000 in
set_option maxRecDepth 20000 in
theorem mergeall_any (a : Option Addr) (n c : Nat) (fs : List Lf) (w : World) (H : Lsts w a n c fs) (hn8 : n ≤ 1048576) (ht8 : tot fs ≤ 1048576) :
    Calls Try.prog 5 #[.slice a n c] w fun e w' => e = .returned (.bool true) ∧ Below w.heap.size w w' := by
  have hlen : Hid (fs.length = n) := H.s.n
  have hnc := H.s.c
  have HL : Hid (∀ W, Below w.heap.size w W → Lsts W a n c fs) := fun W b => H.later b
  have HT := hid (lent_any a n c fs w H hn8 ht8)
  have hoka := hid (all_ok H)
  have hokI : Hid (∀ x ∈ allI fs n, x.e.ok) := allI_ok (fun f hf => (H.e f hf).2.2.2.1) n (by rw [hlen.out]; omega)
  clear H
  go_enter Try.func5, Try.ntmps5
  go_wp2_with fail
  refine HT.out.mono ?_
  rintro e w1 ⟨v, gs, rfl, HG, hgs⟩
  obtain ⟨ia, ic, hv, LG⟩ := HG.lsts
  have hgl : gs.length = n := by
    have := congrArg List.length hgs
    simp at this
    rw [this]; exact hlen.out
  rw [hgl] at hv LG
  subst hv
  have hall := all_map hgs
  have htot : tot gs = tot fs := by unfold tot; rw [hall]
  have b1 := hid HG.lo
  obtain ⟨t, ht⟩ : ∃ t, t = tot fs := ⟨_, rfl⟩
  have ht8' : t ≤ 1048576 := by omega
  have M1 : Hid (∀ W, Below w1.heap.size w1 W → Calls Try.prog 23 #[.slice ia n ic] W fun e w' => ∃ g, e = .returned (.slice (some ⟨g, 0, none⟩) t t) ∧ W.heap.size ≤ g ∧ ERow w' g t (srtE (all fs)) ∧ Below W.heap.size W w') := fun W b => by
    have := mall_any ia n ic gs W (LG.later b) hn8 (by rw [htot]; exact ht8)
    rw [htot, hall, ← ht] at this
    exact this
  have hsl : Hid ((srtE (all fs)).length = t) := by show _ = _; rw [srtE_len, ht]; rfl
  have hsok : Hid (∀ x ∈ srtE (all fs), x.ok) := srtE_ok hoka.out
  have HG1 := hid HG
  have LG1 : Hid (∀ W, Below w1.heap.size w1 W → Lsts W ia n ic gs) := fun W b => LG.later b
  replace hgs := hid hgs
  replace ht := hid ht
  replace hgl := hid hgl
  clear HT HG LG hall htot ht8
  go_wp2_with fail
  refine (M1.out w1 (Below.refl _ _)).mono ?_
  rintro e w2 ⟨g4, rfl, hg4, R4, b2⟩
  have M2 := hid (M1.out w2 b2)
  replace b2 := hid b2
  clear M1
  go_wp2_with fail
  refine M2.out.mono ?_
  rintro e w3 ⟨g5, rfl, hg5, R5, b3⟩
  have hne : Hid (g4 ≠ g5) := by have := R4.lt; show _ ≠ _; omega
  replace R4 := hid (R4.later b3)
  replace R5 := hid R5
  have b3w1 := hid (Below.up b2.out b3)
  have b3w := hid (Below.up b1.out b3w1.out)
  replace hg4 := hid hg4
  clear b3 M2 b2 hg5
  have HA := hid (rall_any a n c fs w3 (HL.out w3 b3w.out) hn8 (by have := ht.out; omega))
  go_wp2_with fail
  refine HA.out.mono ?_
  rintro e w4 ⟨v, rfl, AI⟩
  obtain ⟨aa, ac, hv⟩ := AI.shape
  have hIl : (allI fs n).length = t := by
    rw [allI_len fs n (by rw [hlen.out]; omega), ← hlen.out, List.take_length, ht.out]; rfl
  rw [hIl] at hv
  subst hv
  have SI := acc_sl AI hokI.out
  have HEn := hid (entries_any' aa t ac (allI fs n) w4 SI ht8')
  have b4 := hid AI.lo
  have hmE : Hid ((allI fs n).map It.e = srtE (all fs)) := by
    show _ = _
    rw [allI_e fs n (by rw [hlen.out]; omega), ← hlen.out, List.take_length]
  rw [hmE.out] at HEn
  replace hIl := hid hIl
  clear HA AI SI
  go_wp2_with fail
  refine HEn.out.mono ?_
  rintro e w5 ⟨v, rfl, AE⟩
  obtain ⟨wa, wc, hv, EW⟩ := own_ents AE.o hsok.out
  rw [hsl.out] at hv EW
  subst hv
  have b5 := Below.up b4.out AE.lo
  have hwa : Hid (∀ ad, wa = some ad → g4 ≠ ad.block) := fun ad h e => by
    subst h
    have h1 := (own_lt AE.o ad.block rfl).1
    have h2 := R4.out.lt
    have h3 := b4.out.size
    omega
  have hwal : Hid (∀ ad, wa = some ad → ad.block < w5.heap.size) := fun ad h => by subst h; exact (own_lt AE.o ad.block rfl).2
  replace R4 := hid (R4.out.later b5)
  replace R5 := hid (R5.out.later b5)
  have b5w1 := hid (Below.up b3w1.out b5)
  have E4 := hid (row_sl R4.out hsl.out hsok.out)
  replace EW := hid EW
  have HS1 := hid (same_any (some ⟨g4, 0, none⟩) wa t t wc (srtE (all fs)) w5 E4.out EW.out (by omega))
  clear b5 AE HEn b4 E4
  go_wp2_with fail
  refine HS1.out.mono ?_
  rintro e w6 ⟨rfl, q6, hw6⟩
  have b6 : Below w5.heap.size w5 w6 := by rw [hw6]; exact drewN_below _ _
  clear hw6 HS1
  replace R4 := hid (R4.out.later b6)
  replace R5 := hid (R5.out.later b6)
  replace EW := hid (EW.out.later b6)
  have hwal6 : Hid (∀ ad, wa = some ad → ad.block < w6.heap.size) := fun ad h => Nat.lt_of_lt_of_le (hwal.out ad h) b6.size
  have b6w1 := hid (Below.up b5w1.out b6)
  obtain ⟨ym, hym⟩ : ∃ y, y = srtE (all fs) := ⟨_, rfl⟩
  have hyml : Hid (ym.length = t) := by show _ = _; rw [hym]; exact hsl.out
  rw [← hym] at R4
  clear hym b6 b5w1 hwal
  go_wp2_with fail
  go_loopw [7] (fun iv wr => ∃ (i : Nat) (ys : List E), iv = .int .i64 (i : Int) ∧ i ≤ t ∧ Hid (ys.length = t) ∧ Hid (ERow wr g4 t ys) ∧ Hid (Fp (· = g4) w6 wr)) (fun iv _ => t - (intOf iv).toNat)
  case atStart => exact ⟨0, ym, rfl, Nat.zero_le _, hyml, R4, Fp.refl _ _⟩
  case round =>
    clear R4 hyml ym
    obtain ⟨i, ys, rfl, hi, hyl, RY, FY⟩ := hrel
    by_cases hlt : i < t
    · have i1 : (i : Int) < (t : Int) := by omega
      have i2 : (0 : Int) ≤ (i : Int) := by omega
      obtain ⟨p0, p1, p2, p3⟩ := RY.out.cell i (by rw [hyl.out]; exact hlt)
      have f0 := RY.out.fz (i * 4)
      have f1 := RY.out.fz (i * 4 + 1)
      have f2 := RY.out.fz (i * 4 + 2)
      have f3 := RY.out.fz (i * 4 + 3)
      obtain ⟨WS, hWS⟩ : ∃ W, W = st4 wr g4 (i * 4) ⟨⟨#[115, 112, 111, 105, 108, 116]⟩, 0, 0, ⟨#[]⟩⟩ := ⟨_, rfl⟩
      have RS := hid (RY.out.set i ⟨⟨#[115, 112, 111, 105, 108, 116]⟩, 0, 0, ⟨#[]⟩⟩ (by rw [hyl.out]; exact hlt))
      have FS := hid (st4_fp (i * 4) ⟨⟨#[115, 112, 111, 105, 108, 116]⟩, 0, 0, ⟨#[]⟩⟩ FY.out)
      rw [← hWS] at RS FS
      have hyl2 : Hid ((ys.set i ⟨⟨#[115, 112, 111, 105, 108, 116]⟩, 0, 0, ⟨#[]⟩⟩).length = t) := by show _ = _; rw [List.length_set]; exact hyl.out
      unfold st4 at hWS
      dsimp only at hWS
      replace hWS := hid hWS
      have hw6 : IntKind.i64.wrap ((i : Int) + 1) = ((i + 1 : Nat) : Int) := by rw [IntKind.wrap_i64]; omega
      go_wp2_with fail
      go_roundw
      case rel => exact ⟨i + 1, _, by first | rfl | go_num, by omega, hyl2, by first | exact RS | (have := RS; rw [hWS.out] at this; exact this), by first | exact FS | (have := FS; rw [hWS.out] at this; exact this)⟩
      case measure => simp [intOf]; omega
    · have i1 : ¬ (i : Int) < (t : Int) := by omega
      obtain ⟨w7, hw7⟩ : ∃ W, W = wr := ⟨_, rfl⟩
      rw [← hw7] at FY ⊢
      clear hw7 RY hyl
      have hlo : ∀ j, j < w1.heap.size → w7.heap[j]? = w1.heap[j]? := fun j hj => (FY.out.block j (Nat.lt_of_lt_of_le hj b6w1.out.size) (by have := hg4.out; omega)).trans (b6w1.out.block j hj)
      have b71 : Hid (Below w1.heap.size w1 w7) := ⟨FY.out.os.trans b6w1.out.os, FY.out.tape.trans b6w1.out.tape, FY.out.output.trans b6w1.out.output, Nat.le_trans b6w1.out.size FY.out.size, hlo⟩
      have b7w := hid (Below.up b1.out b71.out)
      have E5 : Hid (Ents w7 (some ⟨g5, 0, none⟩) t t (srtE (all fs))) := row_sl (R5.out.block (FY.out.block g5 R5.out.lt (fun e => hne.out e.symm))) hsl.out hsok.out
      have EW7 : Hid (Ents w7 wa t wc (srtE (all fs))) := ents_of ((sl_of EW.out).block (fun ad had => FY.out.block ad.block (hwal6.out ad had) (fun e => hwa.out ad had e.symm)))
      clear hlo EW R5
      go_wp2_with fail
      go_loopw [8] (fun iv wr => ∃ (i : Nat), iv = .int .i64 (i : Int) ∧ i ≤ n ∧ Hid (Below w7.heap.size w7 wr)) (fun iv _ => n - (intOf iv).toNat)
      case atStart => exact ⟨0, rfl, Nat.zero_le _, Below.refl _ _⟩
      case round =>
        obtain ⟨j, rfl, hj, bj⟩ := hrel
        by_cases hjn : j < n
        · obtain ⟨gb, go, hia, gc, GE⟩ := (LG1.out wr (Below.up b71.out bj.out)).at_ j hjn
          obtain ⟨fb, fo, hfa, fc, FE⟩ := (HL.out wr (Below.up b7w.out bj.out)).at_ j hjn
          subst hia hfa
          rw [get_map hgs.out j] at GE
          have hl1 := GE.1
          have hl2 := FE.1
          have hl3 := tot_one fs j (by rw [hlen.out]; exact hjn)
          have j1 : (j : Int) < (n : Int) := by omega
          have j2 : (0 : Int) ≤ (j : Int) := by omega
          have hGn : (gs.getD j zl).n = (fs.getD j zl).n := by omega
          rw [hGn] at gc GE
          generalize (gs.getD j zl).a = ga at gc GE
          generalize (gs.getD j zl).c = gcc at gc GE
          have hwid : (fs.getD j zl).n ≤ 140737488351232 := by have := ht.out; omega
          generalize (fs.getD j zl).a = fa at fc FE
          generalize (fs.getD j zl).c = fcc at fc FE
          generalize (fs.getD j zl).n = fn at fc FE gc GE hwid
          generalize (fs.getD j zl).xs = fx at FE GE
          have HQ : Hid (∀ q, Calls Try.prog 25 #[.slice ga fn gcc, .slice fa fn fcc] (wr.drewN q) fun e w' => e = .returned (.bool true) ∧ Below (wr.drewN q).heap.size (wr.drewN q) w') := fun q => (same_any ga fa fn gcc fcc fx (wr.drewN q) (GE.later (drewN_below _ _)) (FE.later (drewN_below _ _)) hwid).mono (fun e w' h => ⟨h.1, by obtain ⟨n, h2⟩ := h.2; rw [h2]; exact drewN_below _ _⟩)
          have HQ2 : Hid (∀ d os, Calls Try.prog 25 #[.slice ga fn gcc, .slice fa fn fcc] (Go.Sort.grow (redrawn wr d) os) fun e w' => e = .returned (.bool true) ∧ Below (Go.Sort.grow (redrawn wr d) os).heap.size (Go.Sort.grow (redrawn wr d) os) w') := fun d os => (same_any ga fa fn gcc fcc fx _ (GE.later (below_regrown wr d os)) (FE.later (below_regrown wr d os)) hwid).mono (fun e w' h => ⟨h.1, by obtain ⟨n, h2⟩ := h.2; rw [h2]; exact drewN_below _ _⟩)
          have gc2 := cell_regrown gc
          have fc2 := cell_regrown fc
          have q3 : IntKind.i64.wrap ((j : Int) + 1) = ((j + 1 : Nat) : Int) := by rw [IntKind.wrap_i64]; omega
          clear GE FE gc fc hl1 hl2 hl3 hGn
          go_wp2_with fail
          refine wp_region_quiet_below (by kernel_rfl) (by kernel_rfl) ?_
          repeat (first | go_big_quiet_step (first | (go_at_call 25; exact Calls.regrown_of (HQ2.out _ _))))
          refine wpQuiet_nil ?_
          intro w8 hw8
          have b8 : Below wr.heap.size wr w8 := by
            obtain ⟨⟨dq, osq⟩, hw''⟩ := hw8
            rw [hw'']
            exact below_regrown _ dq osq
          have bj2 := hid (Below.up bj.out b8)
          clear hw8 b8 HQ HQ2 gc2 fc2 bj
          go_wp2_with fail
          go_roundw
          case rel => exact ⟨j + 1, by first | rfl | go_num, by omega, bj2⟩
          case measure => simp [intOf]; omega
        · have hje : j = n := by omega
          subst hje
          have j1 : ¬ (j : Int) < (j : Int) := by omega
          have HSF := hid (same_any (some ⟨g5, 0, none⟩) wa t t wc (srtE (all fs)) wr (E5.out.later bj.out) (EW7.out.later bj.out) (by omega))
          go_wp2_with fail
          refine HSF.out.mono ?_
          rintro e w9 ⟨rfl, q9, hw9⟩
          have b9 : Hid (Below w.heap.size w w9) := by
            show Below _ _ _
            rw [hw9]
            exact Below.up (Below.up b7w.out bj.out) (drewN_below _ _)
          clear hw9
          go_wp2_with fail
          go_ret
          exact ⟨rfl, b9.out⟩
end Go.Proofs.Ytgjodfaliajlgaa.Mf

/- MergeTurns, walked. -/
import Derived.Test.YtgjodfaliajlgaaMq
import Derived.Test.YtgjodfaliajlgaaSt
import Derived.Deep.CutRange
import Derived.Deep.RegionHeld3
namespace Go.Proofs.Ytgjodfaliajlgaa.Tl2
open Go.ChangeShapes Go.WideShapes Go.ChangeAt Go.RowKit
open Go.Sort (grow)
open Go.Proofs.Ytgjodfaliajlgaa.Gr hiding hid addr_add
open Go.Proofs.Ytgjodfaliajlgaa.Ik
open Go.Proofs.Ytgjodfaliajlgaa.Ee
open Go.Proofs.Ytgjodfaliajlgaa.Cm (ik)
open Go.Proofs.Ytgjodfaliajlgaa.Sd hiding below_grown
open Go.Proofs.Ytgjodfaliajlgaa.Ml
open Go.Proofs.Ytgjodfaliajlgaa.Mi
open Go.Proofs.Ytgjodfaliajlgaa.Hp
open Go.Proofs.Ytgjodfaliajlgaa.Sk9 (Cut cut_ex)
open Go.Proofs.Ytgjodfaliajlgaa.Ls9 (Lb c4 hr hv hb)
open Go.Proofs.Ytgjodfaliajlgaa.Gc9
open Go.Proofs.Ytgjodfaliajlgaa.Pm
open Go.Proofs.Ytgjodfaliajlgaa.Mt
open Go.Proofs.Ytgjodfaliajlgaa.My (pos tgt)
open Go.Proofs.Ytgjodfaliajlgaa.St (run_eq text_self)
open Go.Proofs.Ytgjodfaliajlgaa.Mx (merged_any)
open Go.Proofs.Ytgjodfaliajlgaa.Mq
set_option linter.unusedVariables false
set_option linter.unusedSimpArgs false

set_option maxHeartbeats 1000000 in
theorem run_ne (a : ByteArray) (s c : Int) (v : ByteArray) (w : World) : (binOp .neq 43 (.agg #[.string a, .int .u64 s, .int .i64 c, .string v]) (.agg #[.string a, .int .u64 s, .int .i64 c, .string v])).run Try.prog w = .ok (.bool false) w := by
  have h1 := text_self a
  have h2 := text_self v
  go_simp
  try rfl
/-- A key's place among all entries, and how many are not below it. -/
theorem cb_all {L : List It} {fs : List Lf} {q : IK} {m : Nat} (hL : L.map It.e = srtE (all fs)) (hm : Cut (L.map It.e) q m) : 0 < cb q (all fs) ↔ m < L.length := by
  rw [cb_pos]
  have h1 := (srtE_spec (all fs)).2
  constructor
  · rintro ⟨x, hx, hnx⟩
    have hx2 := h1.symm.mem Ew.le_tot x hx
    rw [← hL] at hx2
    obtain ⟨i, hi, e⟩ := List.mem_iff_getElem.1 hx2
    rw [List.length_map] at hi
    by_cases h : i < m
    · have := hm.2.1 i h
      rw [getD_get ze (by rw [List.length_map]; exact hi), e] at this
      exact absurd this hnx
    · omega
  · intro h
    have h3 := hm.2.2 m (Nat.le_refl _) (by rw [List.length_map]; exact h)
    refine ⟨(L.map It.e).getD m ze, ?_, h3⟩
    apply h1.mem Ew.le_tot
    rw [← hL]
    exact get_mem ze (by rw [List.length_map]; exact h)
theorem hb_in {T : Nat} {p : Int} (h0 : 0 ≤ p) (h1 : p < (T : Int)) : hb T p = true := by unfold hb; rw [decide_eq_true h0, decide_eq_true h1]; rfl
theorem hb_out {T : Nat} {p : Int} (h : p < 0 ∨ (T : Int) ≤ p) : hb T p = false := by
  unfold hb
  rcases h with h | h
  · rw [decide_eq_false (show ¬ (0 : Int) ≤ p by omega)]; rfl
  · rw [decide_eq_false (show ¬ p < (T : Int) by omega), Bool.and_false]
set_option maxHeartbeats 4000000 in
set_option maxRecDepth 100000 in
theorem mturns_any (a : Option Addr) (n c : Nat) (fs : List Lf) (k : ByteArray) (s z : Int) (w : World) (H : Lsts w a n c fs) (hn8 : n ≤ 1048576) (ht8 : tot fs ≤ 1048576) (hks : ∀ f ∈ fs, ∀ x ∈ f.xs, x.k.size ≤ 140737488351232) :
    Calls Try.prog 8 #[.slice a n c, .agg #[.string k, .int .u64 s, .int .i64 z]] w fun e w' => e = .returned (.bool true) ∧ Below w.heap.size w w' := by
  have hlen : Hid (fs.length = n) := H.s.n
  have hnc := H.s.c
  obtain ⟨W0, hW0⟩ : ∃ W, W = w.alloc (.cells #[.string k, .int .u64 s, .int .i64 z] 33) := ⟨_, rfl⟩
  obtain ⟨g3, hg3⟩ : ∃ g, g = w.heap.size := ⟨_, rfl⟩
  have B0 : Below w.heap.size w W0 := by rw [hW0]; exact box_below _ _
  have K0 : W0.heap[g3]? = some (.cells #[.string k, .int .u64 s, .int .i64 z] 33) := by rw [hW0, hg3]; exact new_at _ _
  have H0 := H.later B0
  have HMg := hid (merged_any a n c fs W0 H0 hn8 ht8 hks)
  have HL : Hid (∀ V, Below W0.heap.size W0 V → Lsts V a n c fs) := fun V b => H0.later b
  obtain ⟨L, hL⟩ : ∃ L, L = allI fs n := ⟨_, rfl⟩
  rw [← hL] at HMg
  have hLe : L.map It.e = srtE (all fs) := by rw [hL, allI_e fs n (by rw [hlen.out]; omega), ← hlen.out, List.take_length]
  have hsrt : Sb.Srt Ew.le (L.map It.e) := by rw [hLe]; exact (srtE_spec _).1
  have hok : ∀ x ∈ L, x.e.ok := by
    rw [hL]; exact allI_ok (fun f hf => (H.e f hf).2.2.2.1) n (by rw [hlen.out]; omega)
  obtain ⟨m, hm⟩ := cut_ex (L.map It.e) (ik k s z) hsrt
  have hcb := cb_all hLe hm
  have hcl : cb (ik k s z) (all fs) ≤ 1048576 := Nat.le_trans (cb_le _ _) ht8
  have hT8 : L.length ≤ 1048576 := by
    have := congrArg List.length hLe
    rw [List.length_map, srtE_len] at this
    rw [this]; exact ht8
  have HCo : Hid (∀ V, Below W0.heap.size W0 V → Calls Try.prog 36 #[.slice a n c, .agg #[.string k, .int .u64 s, .int .i64 z]] V fun e w' => e = .returned (.int .i64 (cb (ik k s z) (all fs) : Int)) ∧ Below V.heap.size V w') := fun V b => count_any a n c fs k s z V (H0.later b) hn8 ht8
  obtain ⟨q, hq⟩ : ∃ q, q = cb (ik k s z) (all fs) := ⟨_, rfl⟩
  rw [← hq] at hcb hcl HCo
  replace hW0 := hid hW0
  replace hg3 := hid hg3
  replace hL := hid hL
  replace hLe := hid hLe
  replace hsrt := hid hsrt
  replace hok := hid hok
  replace hm := hid hm
  replace hq := hid hq
  replace ht8 := hid ht8
  replace hks := hid hks
  replace B0 := hid B0
  replace K0 := hid K0
  clear H H0
  go_enter Try.func8, Try.ntmps8
  go_wp2_with fail
  rw [← hW0.out, ← hg3.out]
  refine HMg.out.mono ?_
  rintro e w1 ⟨gm, gg, cs, S, rfl, M1, b1⟩
  obtain ⟨X, hX⟩ : ∃ X : Nat → Prop, X = (fun j => j < W0.heap.size) := ⟨_, rfl⟩
  rw [← hX] at M1
  have P1 : Hid (Mp w1 gm gg n cs S L X (-1)) := ⟨true, 0, M1, rfl⟩
  have K1 : Hid (w1.heap[g3]? = some (.cells #[.string k, .int .u64 s, .int .i64 z] 33)) := (b1.block g3 (blk_lt K0.out)).trans K0.out
  have hXB : Hid (∀ V, Fp (fun j => ¬ X j) w1 V → Below W0.heap.size W0 V) := by
    intro V f
    exact ⟨f.os.trans b1.os, f.tape.trans b1.tape, f.output.trans b1.output, Nat.le_trans b1.size f.size, fun j hj => (f.block j (Nat.lt_of_lt_of_le hj b1.size) (by rw [hX]; exact fun h => h hj)).trans (b1.block j hj)⟩
  have hXg : Hid (X g3) := by show X g3; rw [hX]; exact blk_lt K0.out
  have HSk : Hid (∀ V, Below w1.heap.size w1 V → Calls Try.prog 35 #[.pointer (some ⟨gm, 0, none⟩), .agg #[.string k, .int .u64 s, .int .i64 z]] V fun e w' => e = .returned (.bool (hb L.length (m : Int))) ∧ Mp w' gm gg n cs S L X (m : Int) ∧ Fp (fun j => ¬ X j) V w') := fun V b => seek_p (P1.out.later b) k s z m hm.out
  have bw1 := hid b1
  replace hX := hid hX
  clear M1 b1 HMg
  go_upto_region 2 with fail
  have k0 := cell_of K1.out 0 _ rfl
  have k1 := cell_of K1.out 1 _ rfl
  have k2 := cell_of K1.out 2 _ rfl
  have k0d : w1.drew.cell? ⟨g3, 0, none⟩ = some (.string k) := k0
  have k1d : w1.drew.cell? ⟨g3, 1, none⟩ = some (.int .u64 s) := k1
  have k2d : w1.drew.cell? ⟨g3, 2, none⟩ = some (.int .i64 z) := k2
  have dB : Hid (Below w1.heap.size w1 w1.drew) := drew_below _
  have hB1 : Hid (Below W0.heap.size W0 w1.drew) := Below.up bw1.out dB.out
  have hBF : Hid (∀ w4, Fp (fun j => ¬ X j) w1.drew w4 → Below W0.heap.size W0 w4) := fun w4 f => hXB.out w4 ((Fp.of dB.out).tr (f.wide (fun j _ h => .inl h)))
  have KF : Hid (∀ V w4 : World, Fp (fun j => ¬ X j) V w4 → (V.cell? ⟨g3, 0, none⟩ = some (.string k) ∧ V.cell? ⟨g3, 1, none⟩ = some (.int .u64 s) ∧ V.cell? ⟨g3, 2, none⟩ = some (.int .i64 z)) → w4.cell? ⟨g3, 0, none⟩ = some (.string k) ∧ w4.cell? ⟨g3, 1, none⟩ = some (.int .u64 s) ∧ w4.cell? ⟨g3, 2, none⟩ = some (.int .i64 z)) := by
    rintro V w4 f ⟨h0, h1, h2⟩
    have hb := f.block g3 (block_lt_of_cell h0) (fun h => h hXg.out)
    exact ⟨(World.cell?_of_block (a := ⟨g3, 0, none⟩) hb).trans h0, (World.cell?_of_block (a := ⟨g3, 1, none⟩) hb).trans h1, (World.cell?_of_block (a := ⟨g3, 2, none⟩) hb).trans h2⟩
  have KB : Hid (∀ V w5 : World, Below V.heap.size V w5 → (V.cell? ⟨g3, 0, none⟩ = some (.string k) ∧ V.cell? ⟨g3, 1, none⟩ = some (.int .u64 s) ∧ V.cell? ⟨g3, 2, none⟩ = some (.int .i64 z)) → w5.cell? ⟨g3, 0, none⟩ = some (.string k) ∧ w5.cell? ⟨g3, 1, none⟩ = some (.int .u64 s) ∧ w5.cell? ⟨g3, 2, none⟩ = some (.int .i64 z)) := by
    rintro V w5 b ⟨h0, h1, h2⟩
    exact ⟨(b.cell (block_lt_of_cell h0)).trans h0, (b.cell (block_lt_of_cell h1)).trans h1, (b.cell (block_lt_of_cell h2)).trans h2⟩
  have HF1 : Hid (∀ w4 w5, Mp w4 gm gg n cs S L X (m : Int) → Fp (fun j => ¬ X j) w1.drew w4 → Below w4.heap.size w4 w5 → Hid (Mp w5 gm gg n cs S L X (m : Int)) ∧ Hid (Fp (fun j => ¬ X j) w1 w5)) := fun w4 w5 m4 f4 b5 => ⟨m4.later b5, ((Fp.of dB.out).tr (f4.wide (fun j _ h => .inl h))).below b5⟩
  have HF2 : Hid (∀ w4 w5, Mp w4 gm gg n cs S L X (m : Int) → Below w1.drew.heap.size w1.drew w5 → Fp (fun j => ¬ X j) w5 w4 → Hid (Mp w4 gm gg n cs S L X (m : Int)) ∧ Hid (Fp (fun j => ¬ X j) w1 w4)) := fun w4 w5 m4 b5 f4 => ⟨m4, (Fp.of (Below.up dB.out b5)).tr (f4.wide (fun j _ h => .inl h))⟩
  clear k0 k1 k2
  replace hcb := hid hcb
  by_cases hmT : m < L.length
  · have hb1 := hb_in (T := L.length) (p := (m : Int)) (by omega) (by omega)
    have hq1 : (0 : Int) < (q : Int) := by have := hcb.out.2 hmT; omega
    have hq2 : 0 < q := by omega
    have hq3 : decide (0 < q) = true := decide_eq_true hq2
    rw [hb1] at HSk
    replace hb1 := hid hb1
    go_cut [24] from 13 to 24 (fun v wx => v = .bool false ∧ Hid (Mp wx gm gg n cs S L X (m : Int)) ∧ Hid (Fp (fun j => ¬ X j) w1 wx))
    case first =>
      go_region_held3 (fun V => V.cell? ⟨g3, 0, none⟩ = some (.string k) ∧ V.cell? ⟨g3, 1, none⟩ = some (.int .u64 s) ∧ V.cell? ⟨g3, 2, none⟩ = some (.int .i64 z)) (first | (with_reducible exact ⟨k0d, k1d, k2d⟩) | (with_reducible refine KF.out _ _ f4 ?_; assumption) | (with_reducible refine KB.out _ _ b5 ?_; assumption)) (first | (go_at_call 35; refine (HSk.out _ ?_).mono ?_; (first | (with_reducible exact dB.out) | exact Below.up dB.out b5); rintro e w4 ⟨rfl, m4, f4⟩) | (go_at_call 36; refine (HCo.out _ ?_).mono ?_; (first | (with_reducible exact hB1.out) | exact hBF.out _ f4); rintro e w5 ⟨rfl, b5⟩))
      rename_i hHd
      obtain ⟨m5, f5⟩ := HF1.out w4 w5 m4 f4 b5
      clear hHd m4 f4 b5 HF1 HF2 KF KB k0d k1d k2d
      go_wp2_with fail
      go_meet
      exact ⟨rfl, m5, f5⟩
    case rest =>
      obtain ⟨rfl, P2, F2⟩ := hcut
      clear KF KB HF1 HF2 k0d k1d k2d hBF hB1 dB HSk HCo P1
      obtain ⟨x, hx⟩ : ∃ x, x = L.getD m zi := ⟨_, rfl⟩
      have hHe := hid (here_at P2.out m hmT rfl)
      rw [← hx] at hHe
      obtain ⟨⟨xk, xs, xc, xv⟩, xf⟩ := x
      dsimp only at hHe
      have K2 : Hid (wc.heap[g3]? = some (.cells #[.string k, .int .u64 s, .int .i64 z] 33)) := (F2.out.block g3 (blk_lt K1.out) (fun h => h hXg.out)).trans K1.out
      replace hx := hid hx
      have hC : Hid (¬ cmp (ik xk xs xc) (ik k s z) < 0) := by
        have := hm.out.2.2 m (Nat.le_refl _) (by rw [List.length_map]; exact hmT)
        rw [getD_get ze (by rw [List.length_map]; exact hmT), List.getElem_map, ← getD_get zi hmT, ← hx.out] at this
        exact this
      obtain ⟨C, hCe⟩ : ∃ C, C = cmp (ik xk xs xc) (ik k s z) := ⟨_, rfl⟩
      rw [← hCe] at hC
      have HC : Hid (∀ V, Calls Try.prog 32 #[.agg #[.string xk, .int .u64 xs, .int .i64 xc], .agg #[.string k, .int .u64 s, .int .i64 z]] V fun e w' => e = .returned (.int .i64 C) ∧ Below V.heap.size V w') := fun V => by rw [hCe]; exact compare_below _ _ _ _ _ _ V
      have HK : Hid (∀ V, Calls Try.prog 33 #[.agg #[.string xk, .int .u64 xs, .int .i64 xc, .string xv]] V fun e w' => e = .returned (.agg #[.string xk, .int .u64 xs, .int .i64 xc]) ∧ Below V.heap.size V w') := fun V => lkey_any xk xs xc xv V
      replace hCe := hid hCe
      go_wp2_with fail
      refine hHe.out.mono ?_
      rintro e w2 ⟨rfl, b2⟩
      obtain ⟨W2, hW2⟩ : ∃ W, W = w2.alloc (.cells #[.string xk, .int .u64 xs, .int .i64 xc, .string xv] 43) := ⟨_, rfl⟩
      obtain ⟨ge, hge⟩ : ∃ g, g = w2.heap.size := ⟨_, rfl⟩
      have B2 : Below wc.heap.size wc W2 := by rw [hW2]; exact Below.up b2 (box_below _ _)
      have KE : W2.heap[ge]? = some (.cells #[.string xk, .int .u64 xs, .int .i64 xc, .string xv] 43) := by rw [hW2, hge]; exact new_at _ _
      obtain ⟨X1, hX1⟩ : ∃ X1 : Nat → Prop, X1 = (fun j => X j ∨ (wc.heap.size ≤ j ∧ j < W2.heap.size)) := ⟨_, rfl⟩
      have P3 := P2.out.more B2
      rw [← hX1] at P3
      have hXe : Hid (X1 ge ∧ X1 g3 ∧ (∀ j, X j → X1 j) ∧ ge < W2.heap.size ∧ g3 < W2.heap.size) := by
        have h1 := blk_lt KE
        have h2 := b2.size
        have h3 := blk_lt K2.out
        have h4 := B2.size
        refine ⟨?_, ?_, ?_, h1, by omega⟩
        · rw [hX1]; exact .inr ⟨by omega, h1⟩
        · rw [hX1]; exact .inl hXg.out
        · rw [hX1]; exact fun j h => .inl h
      have K3 : Hid (W2.heap[g3]? = some (.cells #[.string k, .int .u64 s, .int .i64 z] 33)) := (B2.block g3 (blk_lt K2.out)).trans K2.out
      have FX2 := hid (F2.out.below B2)
      have hFr := hid (from_at P3 m hmT rfl)
      rw [← hx.out] at hFr
      replace P3 := hid P3
      replace hX1 := hid hX1
      replace KE := hid KE
      replace hW2 := hid hW2
      replace hge := hid hge
      clear b2 B2 hHe P2 F2 K2
      go_wp2_with fail
      rw [← hW2.out, ← hge.out]
      refine hFr.out.mono ?_
      rintro e w3 ⟨rfl, b3⟩
      have KE3 := hid ((b3.block ge (blk_lt KE.out)).trans KE.out)
      have K33 := hid ((b3.block g3 (blk_lt K3.out)).trans K3.out)
      have z0 := cell_regrown (cell_of K33.out 0 _ rfl)
      have z1 := cell_regrown (cell_of K33.out 1 _ rfl)
      have z2 := cell_regrown (cell_of K33.out 2 _ rfl)
      have x0 := cell_regrown (cell_of KE3.out 0 _ rfl)
      have x1 := cell_regrown (cell_of KE3.out 1 _ rfl)
      have x2 := cell_regrown (cell_of KE3.out 2 _ rfl)
      have x3 := cell_regrown (cell_of KE3.out 3 _ rfl)
      replace b3 := hid b3
      clear hFr
      go_wp2_with fail
      refine wp_region_quiet_below (by kernel_rfl) (by kernel_rfl) ?_
      repeat (first | go_big_quiet_step (first | (go_at_call 33; exact Calls.regrown_of (HK.out _)) | (go_at_call 32; exact Calls.regrown_of (HC.out _))) | quiet_step (first | (go_at_call 33; exact Calls.regrown_of (HK.out _)) | (go_at_call 32; exact Calls.regrown_of (HC.out _))))
      refine wpQuiet_nil ?_
      intro w5 hw5
      have b5 : Below w3.heap.size w3 w5 := by
        obtain ⟨⟨dq, osq⟩, hw''⟩ := hw5
        rw [hw'']
        exact below_regrown _ dq osq
      have B5 := Below.up b3.out b5
      have P5 := hid (P3.out.later B5)
      have FX5 := hid (FX2.out.below B5)
      have KE5 := hid ((B5.block ge (blk_lt KE.out)).trans KE.out)
      have K35 := hid ((B5.block g3 (blk_lt K3.out)).trans K3.out)
      have hsz5 : Hid (W2.heap.size ≤ w5.heap.size) := B5.size
      have hC3 : ¬ C < 0 := by have := hC.out; omega
      have hC4 : decide (C < 0) = false := decide_eq_false hC3
      clear hw5 b5 B5 z0 z1 z2 x0 x1 x2 x3 KE3 K33 b3 P3 FX2 KE K3 HC HK
      have HN := hid (next_p P5.out)
      have htn : tgt L.length false (m : Int) = min ((m : Int) + 1) (L.length : Int) := rfl
      rw [htn] at HN
      clear htn
      by_cases hm1 : m + 1 < L.length
      · rw [show min ((m : Int) + 1) (L.length : Int) = (m : Int) + 1 by omega, hb_in (by omega) (by omega)] at HN
        go_wp2_with fail
        refine HN.out.mono ?_
        rintro e w6 ⟨rfl, m6, f6⟩
        have HP := hid (prev_p m6)
        rw [show tgt L.length true ((m : Int) + 1) = (m : Int) by show max ((m : Int) + 1 - 1) (-1) = _; omega, hb_in (T := L.length) (p := (m : Int)) (by omega) (by omega)] at HP
        replace f6 := hid f6
        clear m6 HN P5
        go_wp2_with fail
        refine HP.out.mono ?_
        rintro e w7 ⟨rfl, m7, f7⟩
        have F7 := hid (f6.out.tr (f7.wide (fun j _ h => .inl h)))
        have P7 := hid m7
        clear f6 m7 f7 HP
        go_wp2_with fail
        have hH2 := hid (here_at P7.out m hmT rfl)
        rw [← hx.out] at hH2
        dsimp only at hH2
        refine hH2.out.mono ?_
        rintro e w8 ⟨rfl, b8⟩
        obtain ⟨W8, hW8⟩ : ∃ W, W = w8.alloc (.cells #[.string xk, .int .u64 xs, .int .i64 xc, .string xv] 43) := ⟨_, rfl⟩
        obtain ⟨gf, hgf⟩ : ∃ g, g = w8.heap.size := ⟨_, rfl⟩
        have B8 : Below w7.heap.size w7 W8 := by rw [hW8]; exact Below.up b8 (box_below _ _)
        have KF : W8.heap[gf]? = some (.cells #[.string xk, .int .u64 xs, .int .i64 xc, .string xv] 43) := by rw [hW8, hgf]; exact new_at _ _
        have Q1 : ∀ j, X1 j → j < w5.heap.size → W8.heap[j]? = w5.heap[j]? := fun j hj hl => (B8.block j (Nat.lt_of_lt_of_le hl F7.out.size)).trans (F7.out.block j hl (fun h => h hj))
        have hle : ge < w5.heap.size ∧ g3 < w5.heap.size := by have := hXe.out.2.2.2.1; have := hXe.out.2.2.2.2; have := hsz5.out; omega
        have KE8 := (Q1 ge hXe.out.1 hle.1).trans KE5.out
        have K38 := (Q1 g3 hXe.out.2.1 hle.2).trans K35.out
        obtain ⟨X2, hX2⟩ : ∃ X2 : Nat → Prop, X2 = (fun j => X1 j ∨ (w7.heap.size ≤ j ∧ j < W8.heap.size)) := ⟨_, rfl⟩
        have P8 := P7.out.more B8
        rw [← hX2] at P8
        have hX2f : Hid (X2 gf ∧ X2 ge ∧ X2 g3 ∧ ∀ j, X j → X2 j) := by
          have h1 := blk_lt KF
          have h2 := b8.size
          refine ⟨?_, ?_, ?_, ?_⟩
          · rw [hX2]; exact .inr ⟨by omega, h1⟩
          · rw [hX2]; exact .inl hXe.out.1
          · rw [hX2]; exact .inl hXe.out.2.1
          · rw [hX2]; exact fun j h => .inl (hXe.out.2.2.1 j h)
        have FX8 : Hid (Fp (fun j => ¬ X j) w1 W8) := (FX5.out.tr (F7.out.wide (fun j _ h => .inl (fun h2 => h (hXe.out.2.2.1 j h2))))).below B8
        have hgef : Hid (ge ≠ gf) := by have := b8.size; have := F7.out.size; show _ ≠ _; omega
        have hg3f : Hid (g3 ≠ gf) := by have := b8.size; have := F7.out.size; show _ ≠ _; omega
        have hgfX : Hid (¬ X gf) := by
          show ¬ X gf
          rw [hX.out]
          have h1 := bw1.out.size
          have h2 := b8.size
          have h3 := F7.out.size
          have h4 := FX5.out.size
          omega
        have hFG : Hid (∀ V V' p, Mp V gm gg n cs S L X2 p → Fp (· = gf) V V' → Mp V' gm gg n cs S L X2 p) := fun V V' p h f => Mp.fp h f (fun j hj => by rw [hj]; exact hX2f.out.1)
        have hFin : Hid (∀ V V', Fp (fun j => ¬ X j) w1 V → Fp (· = gf) V V' → Below w.heap.size w V') := fun V V' f g => Below.up B0.out (hXB.out V' (f.tr (g.wide (fun j _ h => .inl (by rw [h]; exact hgfX.out)))))
        have hFr2 := hid (from_at P8 m hmT rfl)
        rw [← hx.out] at hFr2
        have v0 := cell_of KE8 0 _ rfl
        have v1 := cell_of KE8 1 _ rfl
        have v2 := cell_of KE8 2 _ rfl
        have v3 := cell_of KE8 3 _ rfl
        rw [hW8] at v0 v1 v2 v3
        replace P8 := hid P8
        replace KE8 := hid KE8
        replace K38 := hid K38
        replace KF := hid KF
        replace hX2 := hid hX2
        replace hW8 := hid hW8
        replace hgf := hid hgf
        have hrn := fun w => run_ne xk xs xc xv w
        clear b8 B8 hH2 P7 F7 Q1 hle
        go_wp2_with fail
        rw [← hW8.out, ← hgf.out]
        clear v0 v1 v2 v3
        refine hFr2.out.mono ?_
        rintro e w9 ⟨rfl, b9⟩
        have P9 := P8.out.later b9
        have HP2 := hid (prev_p P9)
        rw [show tgt L.length true (m : Int) = (m : Int) - 1 by show max ((m : Int) - 1) (-1) = _; omega] at HP2
        have KE9 := hid ((b9.block ge (blk_lt KE8.out)).trans KE8.out)
        have K39 := hid ((b9.block g3 (blk_lt K38.out)).trans K38.out)
        have KF9 := hid ((b9.block gf (blk_lt KF.out)).trans KF.out)
        have FX9 := hid (FX8.out.below b9)
        clear b9 hFr2 P9 P8 KE8 K38 KF FX8
        by_cases hm0 : 0 < m
        · rw [hb_in (by omega) (by omega)] at HP2
          go_wp2_with fail
          refine HP2.out.mono ?_
          rintro e w10 ⟨rfl, m10, f10⟩
          have KE10 := hid ((f10.block ge (blk_lt KE9.out) (fun h => h hX2f.out.2.1)).trans KE9.out)
          have K310 := hid ((f10.block g3 (blk_lt K39.out) (fun h => h hX2f.out.2.2.1)).trans K39.out)
          have KF10 := hid ((f10.block gf (blk_lt KF9.out) (fun h => h hX2f.out.1)).trans KF9.out)
          have FX10 := hid (FX9.out.tr (f10.wide (fun j _ h => .inl (fun h2 => h (hX2f.out.2.2.2 j h2)))))
          obtain ⟨y, hy⟩ : ∃ y, y = L.getD (m - 1) zi := ⟨_, rfl⟩
          have hH4 := hid (here_at m10 (m - 1) (by omega) (by omega))
          rw [← hy] at hH4
          obtain ⟨⟨yk, ys, yc, yv⟩, yf⟩ := y
          dsimp only at hH4
          have hD : cmp (ik yk ys yc) (ik k s z) < 0 := by
            have := hm.out.2.1 (m - 1) (by omega)
            rw [getD_get ze (by rw [List.length_map]; omega), List.getElem_map, ← getD_get zi (by omega), ← hy] at this
            exact this
          obtain ⟨D, hDe⟩ : ∃ D, D = cmp (ik yk ys yc) (ik k s z) := ⟨_, rfl⟩
          rw [← hDe] at hD
          have HC : Hid (∀ V, Calls Try.prog 32 #[.agg #[.string yk, .int .u64 ys, .int .i64 yc], .agg #[.string k, .int .u64 s, .int .i64 z]] V fun e w' => e = .returned (.int .i64 D) ∧ Below V.heap.size V w') := fun V => by rw [hDe]; exact compare_below _ _ _ _ _ _ V
          have HK : Hid (∀ V, Calls Try.prog 33 #[.agg #[.string yk, .int .u64 ys, .int .i64 yc, .string yv]] V fun e w' => e = .returned (.agg #[.string yk, .int .u64 ys, .int .i64 yc]) ∧ Below V.heap.size V w') := fun V => lkey_any yk ys yc yv V
          have m10b := hid m10
          replace hy := hid hy
          replace hDe := hid hDe
          clear m10 f10 HP2 KE9 K39 KF9 FX9
          go_wp2_with fail
          refine hH4.out.mono ?_
          rintro e w11 ⟨rfl, b11⟩
          have q1 := (b11.block gf (blk_lt KF10.out)).trans KF10.out
          have t0 := cell_of q1 0 _ rfl
          have t1 := cell_of q1 1 _ rfl
          have t2 := cell_of q1 2 _ rfl
          have t3 := cell_of q1 3 _ rfl
          have f0 := fz_of q1 0
          have f1 := fz_of q1 1
          have f2 := fz_of q1 2
          have f3 := fz_of q1 3
          obtain ⟨W11, hW11⟩ : ∃ W, W = (((w11.setCell ⟨gf, 0, none⟩ (.string yk)).setCell ⟨gf, 1, none⟩ (.int .u64 ys)).setCell ⟨gf, 2, none⟩ (.int .i64 yc)).setCell ⟨gf, 3, none⟩ (.string yv) := ⟨_, rfl⟩
          have KG : W11.heap[gf]? = some (.cells #[.string yk, .int .u64 ys, .int .i64 yc, .string yv] 43) := by rw [hW11]; exact set_of (set_of (set_of (set_of q1 0 (.string yk)) 1 (.int .u64 ys)) 2 (.int .i64 yc)) 3 (.string yv)
          have G11 : Fp (· = gf) w11 W11 := by rw [hW11]; exact ((((Fp.refl (· = gf) w11).set (.inl rfl) 0 (.string yk)).set (.inl rfl) 1 (.int .u64 ys)).set (.inl rfl) 2 (.int .i64 yc)).set (.inl rfl) 3 (.string yv)
          have P11a := hid (hFG.out _ _ _ (m10b.out.later b11) G11)
          have KE11a := hid ((G11.block ge (Nat.lt_of_lt_of_le (blk_lt KE10.out) b11.size) hgef.out).trans ((b11.block ge (blk_lt KE10.out)).trans KE10.out))
          have K311a := hid ((G11.block g3 (Nat.lt_of_lt_of_le (blk_lt K310.out) b11.size) hg3f.out).trans ((b11.block g3 (blk_lt K310.out)).trans K310.out))
          have FX11 : Hid (Fp (fun j => ¬ X j) w1 W11) := (FX10.out.below b11).tr (G11.wide (fun j _ h => .inl (by rw [h]; exact hgfX.out)))
          have KG11a := hid KG
          have u0 : W11.drew.cell? ⟨gf, 0, none⟩ = some (.string yk) := cell_of KG 0 _ rfl
          have u1 : W11.drew.cell? ⟨gf, 1, none⟩ = some (.int .u64 ys) := cell_of KG 1 _ rfl
          have u2 : W11.drew.cell? ⟨gf, 2, none⟩ = some (.int .i64 yc) := cell_of KG 2 _ rfl
          have u3 : W11.drew.cell? ⟨gf, 3, none⟩ = some (.string yv) := cell_of KG 3 _ rfl
          have u4 : W11.drew.cell? ⟨g3, 0, none⟩ = some (.string k) := cell_of K311a.out 0 _ rfl
          have u5 : W11.drew.cell? ⟨g3, 1, none⟩ = some (.int .u64 s) := cell_of K311a.out 1 _ rfl
          have u6 : W11.drew.cell? ⟨g3, 2, none⟩ = some (.int .i64 z) := cell_of K311a.out 2 _ rfl
          replace hW11 := hid hW11
          clear KG G11 b11 q1 hH4 m10b KE10 K310 KF10 FX10
          go_upto_region 19 with fail
          rw [← hW11.out]
          clear t0 t1 t2 t3 f0 f1 f2 f3
          have dB : Hid (Below W11.heap.size W11 W11.drew) := drew_below _
          have KB : Hid (∀ V w5 : World, Below V.heap.size V w5 → (V.cell? ⟨gf, 0, none⟩ = some (.string yk) ∧ V.cell? ⟨gf, 1, none⟩ = some (.int .u64 ys) ∧ V.cell? ⟨gf, 2, none⟩ = some (.int .i64 yc) ∧ V.cell? ⟨gf, 3, none⟩ = some (.string yv) ∧ V.cell? ⟨g3, 0, none⟩ = some (.string k) ∧ V.cell? ⟨g3, 1, none⟩ = some (.int .u64 s) ∧ V.cell? ⟨g3, 2, none⟩ = some (.int .i64 z)) → w5.cell? ⟨gf, 0, none⟩ = some (.string yk) ∧ w5.cell? ⟨gf, 1, none⟩ = some (.int .u64 ys) ∧ w5.cell? ⟨gf, 2, none⟩ = some (.int .i64 yc) ∧ w5.cell? ⟨gf, 3, none⟩ = some (.string yv) ∧ w5.cell? ⟨g3, 0, none⟩ = some (.string k) ∧ w5.cell? ⟨g3, 1, none⟩ = some (.int .u64 s) ∧ w5.cell? ⟨g3, 2, none⟩ = some (.int .i64 z)) := by
            rintro V w5 b ⟨h0, h1, h2, h3, h4, h5, h6⟩
            exact ⟨(b.cell (block_lt_of_cell h0)).trans h0, (b.cell (block_lt_of_cell h1)).trans h1, (b.cell (block_lt_of_cell h2)).trans h2, (b.cell (block_lt_of_cell h3)).trans h3, (b.cell (block_lt_of_cell h4)).trans h4, (b.cell (block_lt_of_cell h5)).trans h5, (b.cell (block_lt_of_cell h6)).trans h6⟩
          have KN : Hid (∀ V w5 : World, Fp (fun j => ¬ X2 j) V w5 → (V.cell? ⟨gf, 0, none⟩ = some (.string yk) ∧ V.cell? ⟨gf, 1, none⟩ = some (.int .u64 ys) ∧ V.cell? ⟨gf, 2, none⟩ = some (.int .i64 yc) ∧ V.cell? ⟨gf, 3, none⟩ = some (.string yv) ∧ V.cell? ⟨g3, 0, none⟩ = some (.string k) ∧ V.cell? ⟨g3, 1, none⟩ = some (.int .u64 s) ∧ V.cell? ⟨g3, 2, none⟩ = some (.int .i64 z)) → w5.cell? ⟨gf, 0, none⟩ = some (.string yk) ∧ w5.cell? ⟨gf, 1, none⟩ = some (.int .u64 ys) ∧ w5.cell? ⟨gf, 2, none⟩ = some (.int .i64 yc) ∧ w5.cell? ⟨gf, 3, none⟩ = some (.string yv) ∧ w5.cell? ⟨g3, 0, none⟩ = some (.string k) ∧ w5.cell? ⟨g3, 1, none⟩ = some (.int .u64 s) ∧ w5.cell? ⟨g3, 2, none⟩ = some (.int .i64 z)) := by
            rintro V w5 f ⟨h0, h1, h2, h3, h4, h5, h6⟩
            have e1 := f.block gf (block_lt_of_cell h0) (fun h => h hX2f.out.1)
            have e2 := f.block g3 (block_lt_of_cell h4) (fun h => h hX2f.out.2.2.1)
            exact ⟨(World.cell?_of_block (a := ⟨gf, 0, none⟩) e1).trans h0, (World.cell?_of_block (a := ⟨gf, 1, none⟩) e1).trans h1, (World.cell?_of_block (a := ⟨gf, 2, none⟩) e1).trans h2, (World.cell?_of_block (a := ⟨gf, 3, none⟩) e1).trans h3, (World.cell?_of_block (a := ⟨g3, 0, none⟩) e2).trans h4, (World.cell?_of_block (a := ⟨g3, 1, none⟩) e2).trans h5, (World.cell?_of_block (a := ⟨g3, 2, none⟩) e2).trans h6⟩
          have HNx : Hid (∀ V, Below W11.heap.size W11 V → Calls Try.prog 31 #[.pointer (some ⟨gm, 0, none⟩)] V fun e w' => e = .returned (.bool true) ∧ Mp w' gm gg n cs S L X2 (m : Int) ∧ Fp (fun j => ¬ X2 j) V w') := fun V b => by
            have := next_p (P11a.out.later b)
            rw [show tgt L.length false ((m : Int) - 1) = (m : Int) by show min ((m : Int) - 1 + 1) _ = _; omega, hb_in (T := L.length) (p := (m : Int)) (by omega) (by omega)] at this
            exact this
          have hD3 : ¬ (0 : Int) ≤ D := by omega
          have hD4 : decide ((0 : Int) ≤ D) = false := decide_eq_false hD3
          have hmk : Hid (∀ V w12, Below W11.heap.size W11 V → Mp w12 gm gg n cs S L X2 (m : Int) → Fp (fun j => ¬ X2 j) V w12 → Hid (w12.heap[gf]? = some (.cells #[.string yk, .int .u64 ys, .int .i64 yc, .string yv] 43)) ∧ Hid (Fp (fun j => ¬ X j) w1 w12) ∧ Hid True ∧ Hid (Mp w12 gm gg n cs S L X2 (m : Int)) ∧ Hid (w12.heap[g3]? = some (.cells #[.string k, .int .u64 s, .int .i64 z] 33)) ∧ Hid (w12.heap[ge]? = some (.cells #[.string xk, .int .u64 xs, .int .i64 xc, .string xv] 43))) := by
            intro V w12 b m f
            have c1 := fun j hj h => (f.block j (Nat.lt_of_lt_of_le hj b.size) (fun h2 => h2 h)).trans (b.block j hj)
            exact ⟨(c1 gf (blk_lt KG11a.out) hX2f.out.1).trans KG11a.out, (FX11.out.below b).tr (f.wide (fun j _ h => .inl (fun h2 => h (hX2f.out.2.2.2 j h2)))), trivial, m, (c1 g3 (blk_lt K311a.out) hX2f.out.2.2.1).trans K311a.out, (c1 ge (blk_lt KE11a.out) hX2f.out.2.1).trans KE11a.out⟩
          replace P11a := hid P11a
          clear hrn
          go_region_held3 (fun V => V.cell? ⟨gf, 0, none⟩ = some (.string yk) ∧ V.cell? ⟨gf, 1, none⟩ = some (.int .u64 ys) ∧ V.cell? ⟨gf, 2, none⟩ = some (.int .i64 yc) ∧ V.cell? ⟨gf, 3, none⟩ = some (.string yv) ∧ V.cell? ⟨g3, 0, none⟩ = some (.string k) ∧ V.cell? ⟨g3, 1, none⟩ = some (.int .u64 s) ∧ V.cell? ⟨g3, 2, none⟩ = some (.int .i64 z)) (first | (with_reducible exact ⟨u0, u1, u2, u3, u4, u5, u6⟩) | (with_reducible refine KN.out _ _ f12 ?_; assumption) | (with_reducible refine KB.out _ _ bc ?_; assumption) | (with_reducible refine KB.out _ _ bk ?_; assumption)) (first | (go_at_call 33; refine (HK.out _).mono ?_; rintro e wk ⟨rfl, bk⟩) | (go_at_call 32; refine (HC.out _).mono ?_; rintro e wc2 ⟨rfl, bc⟩) | (go_at_call 31; refine (HNx.out _ ?_).mono ?_; exact Below.up dB.out (Below.up bk bc); rintro e w12 ⟨rfl, m12, f12⟩))
          rename_i hHd
          have hstate := hmk.out _ w12 (Below.up dB.out (Below.up bk bc)) m12 f12
          clear hHd m12 f12 bk bc HNx KN KB HC HK u0 u1 u2 u3 u4 u5 u6 hmk P11a KE11a K311a FX11 KG11a dB
          have hrn := fun w => run_ne xk xs xc xv w
          obtain ⟨KG11, HF11, F11, P11, K311, KE11⟩ := hstate
          have hH3 := hid (here_at P11.out m hmT rfl)
          rw [← hx.out] at hH3
          dsimp only at hH3
          have P11b := hid P11.out
          go_wp2_with fail
          refine hH3.out.mono ?_
          rintro e w13 ⟨rfl, b13⟩
          have q1 := (b13.block gf (blk_lt KG11.out)).trans KG11.out
          have t0 := cell_of q1 0 _ rfl
          have t1 := cell_of q1 1 _ rfl
          have t2 := cell_of q1 2 _ rfl
          have t3 := cell_of q1 3 _ rfl
          have f0 := fz_of q1 0
          have f1 := fz_of q1 1
          have f2 := fz_of q1 2
          have f3 := fz_of q1 3
          obtain ⟨W13, hW13⟩ : ∃ W, W = (((w13.setCell ⟨gf, 0, none⟩ (.string xk)).setCell ⟨gf, 1, none⟩ (.int .u64 xs)).setCell ⟨gf, 2, none⟩ (.int .i64 xc)).setCell ⟨gf, 3, none⟩ (.string xv) := ⟨_, rfl⟩
          have KG13 : W13.heap[gf]? = some (.cells #[.string xk, .int .u64 xs, .int .i64 xc, .string xv] 43) := by rw [hW13]; exact set_of (set_of (set_of (set_of q1 0 (.string xk)) 1 (.int .u64 xs)) 2 (.int .i64 xc)) 3 (.string xv)
          have G13 : Fp (· = gf) w13 W13 := by rw [hW13]; exact ((((Fp.refl (· = gf) w13).set (.inl rfl) 0 (.string xk)).set (.inl rfl) 1 (.int .u64 xs)).set (.inl rfl) 2 (.int .i64 xc)).set (.inl rfl) 3 (.string xv)
          have P13 : Hid (Calls Try.prog 27 #[.pointer (some ⟨gm, 0, none⟩)] W13 fun e w' => e = .returned (.int .i64 (xf : Int)) ∧ Below W13.heap.size W13 w') := by
            have := from_at (hFG.out _ _ _ (P11b.out.later b13) G13) m hmT rfl
            rw [← hx.out] at this
            exact this
          have KE13 : W13.heap[ge]? = some (.cells #[.string xk, .int .u64 xs, .int .i64 xc, .string xv] 43) := (G13.block ge (Nat.lt_of_lt_of_le (blk_lt KE11.out) b13.size) hgef.out).trans ((b13.block ge (blk_lt KE11.out)).trans KE11.out)
          have BF13 : Hid (Below w.heap.size w W13) := hFin.out _ _ (HF11.out.below b13) G13
          have y0 := cell_of KG13 0 _ rfl
          have y1 := cell_of KG13 1 _ rfl
          have y2 := cell_of KG13 2 _ rfl
          have y3 := cell_of KG13 3 _ rfl
          have x0 := cell_of KE13 0 _ rfl
          have x1 := cell_of KE13 1 _ rfl
          have x2 := cell_of KE13 2 _ rfl
          have x3 := cell_of KE13 3 _ rfl
          replace hW13 := hid hW13
          clear KG13 G13 KE13 q1 b13 KG11 HF11 F11 P11 P11b K311 KE11 hH3
          go_upto_region 24 with fail
          rw [← hW13.out]
          clear t0 t1 t2 t3 f0 f1 f2 f3
          have hre := fun w => run_eq xk xs xc xv w
          go_wp2_with fail
          refine P13.out.mono ?_
          rintro e w14 ⟨rfl, b14⟩
          have BF := hid (Below.up BF13.out b14)
          clear b14 BF13 P13 x0 x1 x2 x3 y0 y1 y2 y3
          go_wp2_with fail
          go_ret
          exact ⟨rfl, BF.out⟩
        · rw [hb_out (by omega)] at HP2
          go_wp2_with fail
          refine HP2.out.mono ?_
          rintro e w10 ⟨rfl, m10, f10⟩
          have HNx := hid (next_p m10)
          have hm00 : m = 0 := by omega
          rw [show tgt L.length false ((m : Int) - 1) = (m : Int) by show min ((m : Int) - 1 + 1) _ = _; omega, hb_in (T := L.length) (p := (m : Int)) (by omega) (by omega)] at HNx
          replace hm00 := hid hm00
          replace f10 := hid f10
          clear m10 HP2
          go_wp2_with fail
          refine HNx.out.mono ?_
          rintro e w12 ⟨rfl, m12, f12⟩
          have hstate : Hid (w12.heap[gf]? = some (.cells #[.string xk, .int .u64 xs, .int .i64 xc, .string xv] 43)) ∧ Hid (Fp (fun j => ¬ X j) w1 w12) ∧ Hid True ∧ Hid (Mp w12 gm gg n cs S L X2 (m : Int)) ∧ Hid (w12.heap[g3]? = some (.cells #[.string k, .int .u64 s, .int .i64 z] 33)) ∧ Hid (w12.heap[ge]? = some (.cells #[.string xk, .int .u64 xs, .int .i64 xc, .string xv] 43)) := by
            have f := f10.out.tr (f12.wide (fun j _ h => .inl h))
            exact ⟨(f.block gf (blk_lt KF9.out) (fun h => h hX2f.out.1)).trans KF9.out, FX9.out.tr (f.wide (fun j _ h => .inl (fun h2 => h (hX2f.out.2.2.2 j h2)))), trivial, m12, (f.block g3 (blk_lt K39.out) (fun h => h hX2f.out.2.2.1)).trans K39.out, (f.block ge (blk_lt KE9.out) (fun h => h hX2f.out.2.1)).trans KE9.out⟩
          clear m12 f12 f10 HNx KE9 K39 KF9 FX9
          obtain ⟨KG11, HF11, F11, P11, K311, KE11⟩ := hstate
          have hH3 := hid (here_at P11.out m hmT rfl)
          rw [← hx.out] at hH3
          dsimp only at hH3
          have P11b := hid P11.out
          go_wp2_with fail
          refine hH3.out.mono ?_
          rintro e w13 ⟨rfl, b13⟩
          have q1 := (b13.block gf (blk_lt KG11.out)).trans KG11.out
          have t0 := cell_of q1 0 _ rfl
          have t1 := cell_of q1 1 _ rfl
          have t2 := cell_of q1 2 _ rfl
          have t3 := cell_of q1 3 _ rfl
          have f0 := fz_of q1 0
          have f1 := fz_of q1 1
          have f2 := fz_of q1 2
          have f3 := fz_of q1 3
          obtain ⟨W13, hW13⟩ : ∃ W, W = (((w13.setCell ⟨gf, 0, none⟩ (.string xk)).setCell ⟨gf, 1, none⟩ (.int .u64 xs)).setCell ⟨gf, 2, none⟩ (.int .i64 xc)).setCell ⟨gf, 3, none⟩ (.string xv) := ⟨_, rfl⟩
          have KG13 : W13.heap[gf]? = some (.cells #[.string xk, .int .u64 xs, .int .i64 xc, .string xv] 43) := by rw [hW13]; exact set_of (set_of (set_of (set_of q1 0 (.string xk)) 1 (.int .u64 xs)) 2 (.int .i64 xc)) 3 (.string xv)
          have G13 : Fp (· = gf) w13 W13 := by rw [hW13]; exact ((((Fp.refl (· = gf) w13).set (.inl rfl) 0 (.string xk)).set (.inl rfl) 1 (.int .u64 xs)).set (.inl rfl) 2 (.int .i64 xc)).set (.inl rfl) 3 (.string xv)
          have P13 : Hid (Calls Try.prog 27 #[.pointer (some ⟨gm, 0, none⟩)] W13 fun e w' => e = .returned (.int .i64 (xf : Int)) ∧ Below W13.heap.size W13 w') := by
            have := from_at (hFG.out _ _ _ (P11b.out.later b13) G13) m hmT rfl
            rw [← hx.out] at this
            exact this
          have KE13 : W13.heap[ge]? = some (.cells #[.string xk, .int .u64 xs, .int .i64 xc, .string xv] 43) := (G13.block ge (Nat.lt_of_lt_of_le (blk_lt KE11.out) b13.size) hgef.out).trans ((b13.block ge (blk_lt KE11.out)).trans KE11.out)
          have BF13 : Hid (Below w.heap.size w W13) := hFin.out _ _ (HF11.out.below b13) G13
          have y0 := cell_of KG13 0 _ rfl
          have y1 := cell_of KG13 1 _ rfl
          have y2 := cell_of KG13 2 _ rfl
          have y3 := cell_of KG13 3 _ rfl
          have x0 := cell_of KE13 0 _ rfl
          have x1 := cell_of KE13 1 _ rfl
          have x2 := cell_of KE13 2 _ rfl
          have x3 := cell_of KE13 3 _ rfl
          replace hW13 := hid hW13
          clear KG13 G13 KE13 q1 b13 KG11 HF11 F11 P11 P11b K311 KE11 hH3
          go_upto_region 24 with fail
          rw [← hW13.out]
          clear t0 t1 t2 t3 f0 f1 f2 f3
          have hre := fun w => run_eq xk xs xc xv w
          go_wp2_with fail
          refine P13.out.mono ?_
          rintro e w14 ⟨rfl, b14⟩
          have BF := hid (Below.up BF13.out b14)
          clear b14 BF13 P13 x0 x1 x2 x3 y0 y1 y2 y3
          go_wp2_with fail
          go_ret
          exact ⟨rfl, BF.out⟩
      · rw [show min ((m : Int) + 1) (L.length : Int) = (L.length : Int) by omega, hb_out (by omega)] at HN
        go_wp2_with fail
        refine HN.out.mono ?_
        rintro e w6 ⟨rfl, m6, f6⟩
        have HP := hid (prev_p m6)
        rw [show tgt L.length true (L.length : Int) = (m : Int) by show max ((L.length : Int) - 1) (-1) = _; omega, hb_in (T := L.length) (p := (m : Int)) (by omega) (by omega)] at HP
        replace f6 := hid f6
        clear m6 HN P5
        go_wp2_with fail
        refine HP.out.mono ?_
        rintro e w7 ⟨rfl, m7, f7⟩
        have F7 := hid (f6.out.tr (f7.wide (fun j _ h => .inl h)))
        have P7 := hid m7
        clear f6 m7 f7 HP
        go_wp2_with fail
        have hH2 := hid (here_at P7.out m hmT rfl)
        rw [← hx.out] at hH2
        dsimp only at hH2
        refine hH2.out.mono ?_
        rintro e w8 ⟨rfl, b8⟩
        obtain ⟨W8, hW8⟩ : ∃ W, W = w8.alloc (.cells #[.string xk, .int .u64 xs, .int .i64 xc, .string xv] 43) := ⟨_, rfl⟩
        obtain ⟨gf, hgf⟩ : ∃ g, g = w8.heap.size := ⟨_, rfl⟩
        have B8 : Below w7.heap.size w7 W8 := by rw [hW8]; exact Below.up b8 (box_below _ _)
        have KF : W8.heap[gf]? = some (.cells #[.string xk, .int .u64 xs, .int .i64 xc, .string xv] 43) := by rw [hW8, hgf]; exact new_at _ _
        have Q1 : ∀ j, X1 j → j < w5.heap.size → W8.heap[j]? = w5.heap[j]? := fun j hj hl => (B8.block j (Nat.lt_of_lt_of_le hl F7.out.size)).trans (F7.out.block j hl (fun h => h hj))
        have hle : ge < w5.heap.size ∧ g3 < w5.heap.size := by have := hXe.out.2.2.2.1; have := hXe.out.2.2.2.2; have := hsz5.out; omega
        have KE8 := (Q1 ge hXe.out.1 hle.1).trans KE5.out
        have K38 := (Q1 g3 hXe.out.2.1 hle.2).trans K35.out
        obtain ⟨X2, hX2⟩ : ∃ X2 : Nat → Prop, X2 = (fun j => X1 j ∨ (w7.heap.size ≤ j ∧ j < W8.heap.size)) := ⟨_, rfl⟩
        have P8 := P7.out.more B8
        rw [← hX2] at P8
        have hX2f : Hid (X2 gf ∧ X2 ge ∧ X2 g3 ∧ ∀ j, X j → X2 j) := by
          have h1 := blk_lt KF
          have h2 := b8.size
          refine ⟨?_, ?_, ?_, ?_⟩
          · rw [hX2]; exact .inr ⟨by omega, h1⟩
          · rw [hX2]; exact .inl hXe.out.1
          · rw [hX2]; exact .inl hXe.out.2.1
          · rw [hX2]; exact fun j h => .inl (hXe.out.2.2.1 j h)
        have FX8 : Hid (Fp (fun j => ¬ X j) w1 W8) := (FX5.out.tr (F7.out.wide (fun j _ h => .inl (fun h2 => h (hXe.out.2.2.1 j h2))))).below B8
        have hgef : Hid (ge ≠ gf) := by have := b8.size; have := F7.out.size; show _ ≠ _; omega
        have hg3f : Hid (g3 ≠ gf) := by have := b8.size; have := F7.out.size; show _ ≠ _; omega
        have hgfX : Hid (¬ X gf) := by
          show ¬ X gf
          rw [hX.out]
          have h1 := bw1.out.size
          have h2 := b8.size
          have h3 := F7.out.size
          have h4 := FX5.out.size
          omega
        have hFG : Hid (∀ V V' p, Mp V gm gg n cs S L X2 p → Fp (· = gf) V V' → Mp V' gm gg n cs S L X2 p) := fun V V' p h f => Mp.fp h f (fun j hj => by rw [hj]; exact hX2f.out.1)
        have hFin : Hid (∀ V V', Fp (fun j => ¬ X j) w1 V → Fp (· = gf) V V' → Below w.heap.size w V') := fun V V' f g => Below.up B0.out (hXB.out V' (f.tr (g.wide (fun j _ h => .inl (by rw [h]; exact hgfX.out)))))
        have hFr2 := hid (from_at P8 m hmT rfl)
        rw [← hx.out] at hFr2
        have v0 := cell_of KE8 0 _ rfl
        have v1 := cell_of KE8 1 _ rfl
        have v2 := cell_of KE8 2 _ rfl
        have v3 := cell_of KE8 3 _ rfl
        rw [hW8] at v0 v1 v2 v3
        replace P8 := hid P8
        replace KE8 := hid KE8
        replace K38 := hid K38
        replace KF := hid KF
        replace hX2 := hid hX2
        replace hW8 := hid hW8
        replace hgf := hid hgf
        have hrn := fun w => run_ne xk xs xc xv w
        clear b8 B8 hH2 P7 F7 Q1 hle
        go_wp2_with fail
        rw [← hW8.out, ← hgf.out]
        clear v0 v1 v2 v3
        refine hFr2.out.mono ?_
        rintro e w9 ⟨rfl, b9⟩
        have P9 := P8.out.later b9
        have HP2 := hid (prev_p P9)
        rw [show tgt L.length true (m : Int) = (m : Int) - 1 by show max ((m : Int) - 1) (-1) = _; omega] at HP2
        have KE9 := hid ((b9.block ge (blk_lt KE8.out)).trans KE8.out)
        have K39 := hid ((b9.block g3 (blk_lt K38.out)).trans K38.out)
        have KF9 := hid ((b9.block gf (blk_lt KF.out)).trans KF.out)
        have FX9 := hid (FX8.out.below b9)
        clear b9 hFr2 P9 P8 KE8 K38 KF FX8
        by_cases hm0 : 0 < m
        · rw [hb_in (by omega) (by omega)] at HP2
          go_wp2_with fail
          refine HP2.out.mono ?_
          rintro e w10 ⟨rfl, m10, f10⟩
          have KE10 := hid ((f10.block ge (blk_lt KE9.out) (fun h => h hX2f.out.2.1)).trans KE9.out)
          have K310 := hid ((f10.block g3 (blk_lt K39.out) (fun h => h hX2f.out.2.2.1)).trans K39.out)
          have KF10 := hid ((f10.block gf (blk_lt KF9.out) (fun h => h hX2f.out.1)).trans KF9.out)
          have FX10 := hid (FX9.out.tr (f10.wide (fun j _ h => .inl (fun h2 => h (hX2f.out.2.2.2 j h2)))))
          obtain ⟨y, hy⟩ : ∃ y, y = L.getD (m - 1) zi := ⟨_, rfl⟩
          have hH4 := hid (here_at m10 (m - 1) (by omega) (by omega))
          rw [← hy] at hH4
          obtain ⟨⟨yk, ys, yc, yv⟩, yf⟩ := y
          dsimp only at hH4
          have hD : cmp (ik yk ys yc) (ik k s z) < 0 := by
            have := hm.out.2.1 (m - 1) (by omega)
            rw [getD_get ze (by rw [List.length_map]; omega), List.getElem_map, ← getD_get zi (by omega), ← hy] at this
            exact this
          obtain ⟨D, hDe⟩ : ∃ D, D = cmp (ik yk ys yc) (ik k s z) := ⟨_, rfl⟩
          rw [← hDe] at hD
          have HC : Hid (∀ V, Calls Try.prog 32 #[.agg #[.string yk, .int .u64 ys, .int .i64 yc], .agg #[.string k, .int .u64 s, .int .i64 z]] V fun e w' => e = .returned (.int .i64 D) ∧ Below V.heap.size V w') := fun V => by rw [hDe]; exact compare_below _ _ _ _ _ _ V
          have HK : Hid (∀ V, Calls Try.prog 33 #[.agg #[.string yk, .int .u64 ys, .int .i64 yc, .string yv]] V fun e w' => e = .returned (.agg #[.string yk, .int .u64 ys, .int .i64 yc]) ∧ Below V.heap.size V w') := fun V => lkey_any yk ys yc yv V
          have m10b := hid m10
          replace hy := hid hy
          replace hDe := hid hDe
          clear m10 f10 HP2 KE9 K39 KF9 FX9
          go_wp2_with fail
          refine hH4.out.mono ?_
          rintro e w11 ⟨rfl, b11⟩
          have q1 := (b11.block gf (blk_lt KF10.out)).trans KF10.out
          have t0 := cell_of q1 0 _ rfl
          have t1 := cell_of q1 1 _ rfl
          have t2 := cell_of q1 2 _ rfl
          have t3 := cell_of q1 3 _ rfl
          have f0 := fz_of q1 0
          have f1 := fz_of q1 1
          have f2 := fz_of q1 2
          have f3 := fz_of q1 3
          obtain ⟨W11, hW11⟩ : ∃ W, W = (((w11.setCell ⟨gf, 0, none⟩ (.string yk)).setCell ⟨gf, 1, none⟩ (.int .u64 ys)).setCell ⟨gf, 2, none⟩ (.int .i64 yc)).setCell ⟨gf, 3, none⟩ (.string yv) := ⟨_, rfl⟩
          have KG : W11.heap[gf]? = some (.cells #[.string yk, .int .u64 ys, .int .i64 yc, .string yv] 43) := by rw [hW11]; exact set_of (set_of (set_of (set_of q1 0 (.string yk)) 1 (.int .u64 ys)) 2 (.int .i64 yc)) 3 (.string yv)
          have G11 : Fp (· = gf) w11 W11 := by rw [hW11]; exact ((((Fp.refl (· = gf) w11).set (.inl rfl) 0 (.string yk)).set (.inl rfl) 1 (.int .u64 ys)).set (.inl rfl) 2 (.int .i64 yc)).set (.inl rfl) 3 (.string yv)
          have P11a := hid (hFG.out _ _ _ (m10b.out.later b11) G11)
          have KE11a := hid ((G11.block ge (Nat.lt_of_lt_of_le (blk_lt KE10.out) b11.size) hgef.out).trans ((b11.block ge (blk_lt KE10.out)).trans KE10.out))
          have K311a := hid ((G11.block g3 (Nat.lt_of_lt_of_le (blk_lt K310.out) b11.size) hg3f.out).trans ((b11.block g3 (blk_lt K310.out)).trans K310.out))
          have FX11 : Hid (Fp (fun j => ¬ X j) w1 W11) := (FX10.out.below b11).tr (G11.wide (fun j _ h => .inl (by rw [h]; exact hgfX.out)))
          have KG11a := hid KG
          have u0 : W11.drew.cell? ⟨gf, 0, none⟩ = some (.string yk) := cell_of KG 0 _ rfl
          have u1 : W11.drew.cell? ⟨gf, 1, none⟩ = some (.int .u64 ys) := cell_of KG 1 _ rfl
          have u2 : W11.drew.cell? ⟨gf, 2, none⟩ = some (.int .i64 yc) := cell_of KG 2 _ rfl
          have u3 : W11.drew.cell? ⟨gf, 3, none⟩ = some (.string yv) := cell_of KG 3 _ rfl
          have u4 : W11.drew.cell? ⟨g3, 0, none⟩ = some (.string k) := cell_of K311a.out 0 _ rfl
          have u5 : W11.drew.cell? ⟨g3, 1, none⟩ = some (.int .u64 s) := cell_of K311a.out 1 _ rfl
          have u6 : W11.drew.cell? ⟨g3, 2, none⟩ = some (.int .i64 z) := cell_of K311a.out 2 _ rfl
          replace hW11 := hid hW11
          clear KG G11 b11 q1 hH4 m10b KE10 K310 KF10 FX10
          go_upto_region 19 with fail
          rw [← hW11.out]
          clear t0 t1 t2 t3 f0 f1 f2 f3
          have dB : Hid (Below W11.heap.size W11 W11.drew) := drew_below _
          have KB : Hid (∀ V w5 : World, Below V.heap.size V w5 → (V.cell? ⟨gf, 0, none⟩ = some (.string yk) ∧ V.cell? ⟨gf, 1, none⟩ = some (.int .u64 ys) ∧ V.cell? ⟨gf, 2, none⟩ = some (.int .i64 yc) ∧ V.cell? ⟨gf, 3, none⟩ = some (.string yv) ∧ V.cell? ⟨g3, 0, none⟩ = some (.string k) ∧ V.cell? ⟨g3, 1, none⟩ = some (.int .u64 s) ∧ V.cell? ⟨g3, 2, none⟩ = some (.int .i64 z)) → w5.cell? ⟨gf, 0, none⟩ = some (.string yk) ∧ w5.cell? ⟨gf, 1, none⟩ = some (.int .u64 ys) ∧ w5.cell? ⟨gf, 2, none⟩ = some (.int .i64 yc) ∧ w5.cell? ⟨gf, 3, none⟩ = some (.string yv) ∧ w5.cell? ⟨g3, 0, none⟩ = some (.string k) ∧ w5.cell? ⟨g3, 1, none⟩ = some (.int .u64 s) ∧ w5.cell? ⟨g3, 2, none⟩ = some (.int .i64 z)) := by
            rintro V w5 b ⟨h0, h1, h2, h3, h4, h5, h6⟩
            exact ⟨(b.cell (block_lt_of_cell h0)).trans h0, (b.cell (block_lt_of_cell h1)).trans h1, (b.cell (block_lt_of_cell h2)).trans h2, (b.cell (block_lt_of_cell h3)).trans h3, (b.cell (block_lt_of_cell h4)).trans h4, (b.cell (block_lt_of_cell h5)).trans h5, (b.cell (block_lt_of_cell h6)).trans h6⟩
          have KN : Hid (∀ V w5 : World, Fp (fun j => ¬ X2 j) V w5 → (V.cell? ⟨gf, 0, none⟩ = some (.string yk) ∧ V.cell? ⟨gf, 1, none⟩ = some (.int .u64 ys) ∧ V.cell? ⟨gf, 2, none⟩ = some (.int .i64 yc) ∧ V.cell? ⟨gf, 3, none⟩ = some (.string yv) ∧ V.cell? ⟨g3, 0, none⟩ = some (.string k) ∧ V.cell? ⟨g3, 1, none⟩ = some (.int .u64 s) ∧ V.cell? ⟨g3, 2, none⟩ = some (.int .i64 z)) → w5.cell? ⟨gf, 0, none⟩ = some (.string yk) ∧ w5.cell? ⟨gf, 1, none⟩ = some (.int .u64 ys) ∧ w5.cell? ⟨gf, 2, none⟩ = some (.int .i64 yc) ∧ w5.cell? ⟨gf, 3, none⟩ = some (.string yv) ∧ w5.cell? ⟨g3, 0, none⟩ = some (.string k) ∧ w5.cell? ⟨g3, 1, none⟩ = some (.int .u64 s) ∧ w5.cell? ⟨g3, 2, none⟩ = some (.int .i64 z)) := by
            rintro V w5 f ⟨h0, h1, h2, h3, h4, h5, h6⟩
            have e1 := f.block gf (block_lt_of_cell h0) (fun h => h hX2f.out.1)
            have e2 := f.block g3 (block_lt_of_cell h4) (fun h => h hX2f.out.2.2.1)
            exact ⟨(World.cell?_of_block (a := ⟨gf, 0, none⟩) e1).trans h0, (World.cell?_of_block (a := ⟨gf, 1, none⟩) e1).trans h1, (World.cell?_of_block (a := ⟨gf, 2, none⟩) e1).trans h2, (World.cell?_of_block (a := ⟨gf, 3, none⟩) e1).trans h3, (World.cell?_of_block (a := ⟨g3, 0, none⟩) e2).trans h4, (World.cell?_of_block (a := ⟨g3, 1, none⟩) e2).trans h5, (World.cell?_of_block (a := ⟨g3, 2, none⟩) e2).trans h6⟩
          have HNx : Hid (∀ V, Below W11.heap.size W11 V → Calls Try.prog 31 #[.pointer (some ⟨gm, 0, none⟩)] V fun e w' => e = .returned (.bool true) ∧ Mp w' gm gg n cs S L X2 (m : Int) ∧ Fp (fun j => ¬ X2 j) V w') := fun V b => by
            have := next_p (P11a.out.later b)
            rw [show tgt L.length false ((m : Int) - 1) = (m : Int) by show min ((m : Int) - 1 + 1) _ = _; omega, hb_in (T := L.length) (p := (m : Int)) (by omega) (by omega)] at this
            exact this
          have hD3 : ¬ (0 : Int) ≤ D := by omega
          have hD4 : decide ((0 : Int) ≤ D) = false := decide_eq_false hD3
          have hmk : Hid (∀ V w12, Below W11.heap.size W11 V → Mp w12 gm gg n cs S L X2 (m : Int) → Fp (fun j => ¬ X2 j) V w12 → Hid (w12.heap[gf]? = some (.cells #[.string yk, .int .u64 ys, .int .i64 yc, .string yv] 43)) ∧ Hid (Fp (fun j => ¬ X j) w1 w12) ∧ Hid True ∧ Hid (Mp w12 gm gg n cs S L X2 (m : Int)) ∧ Hid (w12.heap[g3]? = some (.cells #[.string k, .int .u64 s, .int .i64 z] 33)) ∧ Hid (w12.heap[ge]? = some (.cells #[.string xk, .int .u64 xs, .int .i64 xc, .string xv] 43))) := by
            intro V w12 b m f
            have c1 := fun j hj h => (f.block j (Nat.lt_of_lt_of_le hj b.size) (fun h2 => h2 h)).trans (b.block j hj)
            exact ⟨(c1 gf (blk_lt KG11a.out) hX2f.out.1).trans KG11a.out, (FX11.out.below b).tr (f.wide (fun j _ h => .inl (fun h2 => h (hX2f.out.2.2.2 j h2)))), trivial, m, (c1 g3 (blk_lt K311a.out) hX2f.out.2.2.1).trans K311a.out, (c1 ge (blk_lt KE11a.out) hX2f.out.2.1).trans KE11a.out⟩
          replace P11a := hid P11a
          clear hrn
          go_region_held3 (fun V => V.cell? ⟨gf, 0, none⟩ = some (.string yk) ∧ V.cell? ⟨gf, 1, none⟩ = some (.int .u64 ys) ∧ V.cell? ⟨gf, 2, none⟩ = some (.int .i64 yc) ∧ V.cell? ⟨gf, 3, none⟩ = some (.string yv) ∧ V.cell? ⟨g3, 0, none⟩ = some (.string k) ∧ V.cell? ⟨g3, 1, none⟩ = some (.int .u64 s) ∧ V.cell? ⟨g3, 2, none⟩ = some (.int .i64 z)) (first | (with_reducible exact ⟨u0, u1, u2, u3, u4, u5, u6⟩) | (with_reducible refine KN.out _ _ f12 ?_; assumption) | (with_reducible refine KB.out _ _ bc ?_; assumption) | (with_reducible refine KB.out _ _ bk ?_; assumption)) (first | (go_at_call 33; refine (HK.out _).mono ?_; rintro e wk ⟨rfl, bk⟩) | (go_at_call 32; refine (HC.out _).mono ?_; rintro e wc2 ⟨rfl, bc⟩) | (go_at_call 31; refine (HNx.out _ ?_).mono ?_; exact Below.up dB.out (Below.up bk bc); rintro e w12 ⟨rfl, m12, f12⟩))
          rename_i hHd
          have hstate := hmk.out _ w12 (Below.up dB.out (Below.up bk bc)) m12 f12
          clear hHd m12 f12 bk bc HNx KN KB HC HK u0 u1 u2 u3 u4 u5 u6 hmk P11a KE11a K311a FX11 KG11a dB
          have hrn := fun w => run_ne xk xs xc xv w
          obtain ⟨KG11, HF11, F11, P11, K311, KE11⟩ := hstate
          have hH3 := hid (here_at P11.out m hmT rfl)
          rw [← hx.out] at hH3
          dsimp only at hH3
          have P11b := hid P11.out
          go_wp2_with fail
          refine hH3.out.mono ?_
          rintro e w13 ⟨rfl, b13⟩
          have q1 := (b13.block gf (blk_lt KG11.out)).trans KG11.out
          have t0 := cell_of q1 0 _ rfl
          have t1 := cell_of q1 1 _ rfl
          have t2 := cell_of q1 2 _ rfl
          have t3 := cell_of q1 3 _ rfl
          have f0 := fz_of q1 0
          have f1 := fz_of q1 1
          have f2 := fz_of q1 2
          have f3 := fz_of q1 3
          obtain ⟨W13, hW13⟩ : ∃ W, W = (((w13.setCell ⟨gf, 0, none⟩ (.string xk)).setCell ⟨gf, 1, none⟩ (.int .u64 xs)).setCell ⟨gf, 2, none⟩ (.int .i64 xc)).setCell ⟨gf, 3, none⟩ (.string xv) := ⟨_, rfl⟩
          have KG13 : W13.heap[gf]? = some (.cells #[.string xk, .int .u64 xs, .int .i64 xc, .string xv] 43) := by rw [hW13]; exact set_of (set_of (set_of (set_of q1 0 (.string xk)) 1 (.int .u64 xs)) 2 (.int .i64 xc)) 3 (.string xv)
          have G13 : Fp (· = gf) w13 W13 := by rw [hW13]; exact ((((Fp.refl (· = gf) w13).set (.inl rfl) 0 (.string xk)).set (.inl rfl) 1 (.int .u64 xs)).set (.inl rfl) 2 (.int .i64 xc)).set (.inl rfl) 3 (.string xv)
          have P13 : Hid (Calls Try.prog 27 #[.pointer (some ⟨gm, 0, none⟩)] W13 fun e w' => e = .returned (.int .i64 (xf : Int)) ∧ Below W13.heap.size W13 w') := by
            have := from_at (hFG.out _ _ _ (P11b.out.later b13) G13) m hmT rfl
            rw [← hx.out] at this
            exact this
          have KE13 : W13.heap[ge]? = some (.cells #[.string xk, .int .u64 xs, .int .i64 xc, .string xv] 43) := (G13.block ge (Nat.lt_of_lt_of_le (blk_lt KE11.out) b13.size) hgef.out).trans ((b13.block ge (blk_lt KE11.out)).trans KE11.out)
          have BF13 : Hid (Below w.heap.size w W13) := hFin.out _ _ (HF11.out.below b13) G13
          have y0 := cell_of KG13 0 _ rfl
          have y1 := cell_of KG13 1 _ rfl
          have y2 := cell_of KG13 2 _ rfl
          have y3 := cell_of KG13 3 _ rfl
          have x0 := cell_of KE13 0 _ rfl
          have x1 := cell_of KE13 1 _ rfl
          have x2 := cell_of KE13 2 _ rfl
          have x3 := cell_of KE13 3 _ rfl
          replace hW13 := hid hW13
          clear KG13 G13 KE13 q1 b13 KG11 HF11 F11 P11 P11b K311 KE11 hH3
          go_upto_region 24 with fail
          rw [← hW13.out]
          clear t0 t1 t2 t3 f0 f1 f2 f3
          have hre := fun w => run_eq xk xs xc xv w
          go_wp2_with fail
          refine P13.out.mono ?_
          rintro e w14 ⟨rfl, b14⟩
          have BF := hid (Below.up BF13.out b14)
          clear b14 BF13 P13 x0 x1 x2 x3 y0 y1 y2 y3
          go_wp2_with fail
          go_ret
          exact ⟨rfl, BF.out⟩
        · rw [hb_out (by omega)] at HP2
          go_wp2_with fail
          refine HP2.out.mono ?_
          rintro e w10 ⟨rfl, m10, f10⟩
          have HNx := hid (next_p m10)
          have hm00 : m = 0 := by omega
          rw [show tgt L.length false ((m : Int) - 1) = (m : Int) by show min ((m : Int) - 1 + 1) _ = _; omega, hb_in (T := L.length) (p := (m : Int)) (by omega) (by omega)] at HNx
          replace hm00 := hid hm00
          replace f10 := hid f10
          clear m10 HP2
          go_wp2_with fail
          refine HNx.out.mono ?_
          rintro e w12 ⟨rfl, m12, f12⟩
          have hstate : Hid (w12.heap[gf]? = some (.cells #[.string xk, .int .u64 xs, .int .i64 xc, .string xv] 43)) ∧ Hid (Fp (fun j => ¬ X j) w1 w12) ∧ Hid True ∧ Hid (Mp w12 gm gg n cs S L X2 (m : Int)) ∧ Hid (w12.heap[g3]? = some (.cells #[.string k, .int .u64 s, .int .i64 z] 33)) ∧ Hid (w12.heap[ge]? = some (.cells #[.string xk, .int .u64 xs, .int .i64 xc, .string xv] 43)) := by
            have f := f10.out.tr (f12.wide (fun j _ h => .inl h))
            exact ⟨(f.block gf (blk_lt KF9.out) (fun h => h hX2f.out.1)).trans KF9.out, FX9.out.tr (f.wide (fun j _ h => .inl (fun h2 => h (hX2f.out.2.2.2 j h2)))), trivial, m12, (f.block g3 (blk_lt K39.out) (fun h => h hX2f.out.2.2.1)).trans K39.out, (f.block ge (blk_lt KE9.out) (fun h => h hX2f.out.2.1)).trans KE9.out⟩
          clear m12 f12 f10 HNx KE9 K39 KF9 FX9
          obtain ⟨KG11, HF11, F11, P11, K311, KE11⟩ := hstate
          have hH3 := hid (here_at P11.out m hmT rfl)
          rw [← hx.out] at hH3
          dsimp only at hH3
          have P11b := hid P11.out
          go_wp2_with fail
          refine hH3.out.mono ?_
          rintro e w13 ⟨rfl, b13⟩
          have q1 := (b13.block gf (blk_lt KG11.out)).trans KG11.out
          have t0 := cell_of q1 0 _ rfl
          have t1 := cell_of q1 1 _ rfl
          have t2 := cell_of q1 2 _ rfl
          have t3 := cell_of q1 3 _ rfl
          have f0 := fz_of q1 0
          have f1 := fz_of q1 1
          have f2 := fz_of q1 2
          have f3 := fz_of q1 3
          obtain ⟨W13, hW13⟩ : ∃ W, W = (((w13.setCell ⟨gf, 0, none⟩ (.string xk)).setCell ⟨gf, 1, none⟩ (.int .u64 xs)).setCell ⟨gf, 2, none⟩ (.int .i64 xc)).setCell ⟨gf, 3, none⟩ (.string xv) := ⟨_, rfl⟩
          have KG13 : W13.heap[gf]? = some (.cells #[.string xk, .int .u64 xs, .int .i64 xc, .string xv] 43) := by rw [hW13]; exact set_of (set_of (set_of (set_of q1 0 (.string xk)) 1 (.int .u64 xs)) 2 (.int .i64 xc)) 3 (.string xv)
          have G13 : Fp (· = gf) w13 W13 := by rw [hW13]; exact ((((Fp.refl (· = gf) w13).set (.inl rfl) 0 (.string xk)).set (.inl rfl) 1 (.int .u64 xs)).set (.inl rfl) 2 (.int .i64 xc)).set (.inl rfl) 3 (.string xv)
          have P13 : Hid (Calls Try.prog 27 #[.pointer (some ⟨gm, 0, none⟩)] W13 fun e w' => e = .returned (.int .i64 (xf : Int)) ∧ Below W13.heap.size W13 w') := by
            have := from_at (hFG.out _ _ _ (P11b.out.later b13) G13) m hmT rfl
            rw [← hx.out] at this
            exact this
          have KE13 : W13.heap[ge]? = some (.cells #[.string xk, .int .u64 xs, .int .i64 xc, .string xv] 43) := (G13.block ge (Nat.lt_of_lt_of_le (blk_lt KE11.out) b13.size) hgef.out).trans ((b13.block ge (blk_lt KE11.out)).trans KE11.out)
          have BF13 : Hid (Below w.heap.size w W13) := hFin.out _ _ (HF11.out.below b13) G13
          have y0 := cell_of KG13 0 _ rfl
          have y1 := cell_of KG13 1 _ rfl
          have y2 := cell_of KG13 2 _ rfl
          have y3 := cell_of KG13 3 _ rfl
          have x0 := cell_of KE13 0 _ rfl
          have x1 := cell_of KE13 1 _ rfl
          have x2 := cell_of KE13 2 _ rfl
          have x3 := cell_of KE13 3 _ rfl
          replace hW13 := hid hW13
          clear KG13 G13 KE13 q1 b13 KG11 HF11 F11 P11 P11b K311 KE11 hH3
          go_upto_region 24 with fail
          rw [← hW13.out]
          clear t0 t1 t2 t3 f0 f1 f2 f3
          have hre := fun w => run_eq xk xs xc xv w
          go_wp2_with fail
          refine P13.out.mono ?_
          rintro e w14 ⟨rfl, b14⟩
          have BF := hid (Below.up BF13.out b14)
          clear b14 BF13 P13 x0 x1 x2 x3 y0 y1 y2 y3
          go_wp2_with fail
          go_ret
          exact ⟨rfl, BF.out⟩
  · have hb1 := hb_out (T := L.length) (p := (m : Int)) (by omega)
    have hq0 : q = 0 := by have := hcb.out; omega
    have hmT2 : (m : Int) = (L.length : Int) := by have := hm.out.1; rw [List.length_map] at this; omega
    rw [hb1] at HSk
    replace hb1 := hid hb1
    subst hq0
    go_cut [24] from 13 to 24 (fun v wx => v = .bool false ∧ Hid (Mp wx gm gg n cs S L X (m : Int)) ∧ Hid (Fp (fun j => ¬ X j) w1 wx))
    case first =>
      go_region_held3 (fun V => V.cell? ⟨g3, 0, none⟩ = some (.string k) ∧ V.cell? ⟨g3, 1, none⟩ = some (.int .u64 s) ∧ V.cell? ⟨g3, 2, none⟩ = some (.int .i64 z)) (first | (with_reducible exact ⟨k0d, k1d, k2d⟩) | (with_reducible refine KF.out _ _ f4 ?_; assumption) | (with_reducible refine KB.out _ _ b5 ?_; assumption)) (first | (go_at_call 35; refine (HSk.out _ ?_).mono ?_; (first | (with_reducible exact dB.out) | exact Below.up dB.out b5); rintro e w4 ⟨rfl, m4, f4⟩) | (go_at_call 36; refine (HCo.out _ ?_).mono ?_; (first | (with_reducible exact hB1.out) | exact hBF.out _ f4); rintro e w5 ⟨rfl, b5⟩))
      rename_i hHd
      obtain ⟨m5, f5⟩ := HF1.out w4 w5 m4 f4 b5
      clear hHd m4 f4 b5 HF1 HF2 KF KB k0d k1d k2d
      go_wp2_with fail
      go_meet
      exact ⟨rfl, m5, f5⟩
    case rest =>
      obtain ⟨rfl, P2, F2⟩ := hcut
      clear KF KB HF1 HF2 k0d k1d k2d hBF hB1 dB HSk HCo P1
      have hHe := hid (here_out P2.out hb1.out)
      replace hmT2 := hid hmT2
      go_wp2_with fail
      refine hHe.out.mono ?_
      rintro e w2 ⟨rfl, b2⟩
      obtain ⟨W2, hW2⟩ : ∃ W, W = w2.alloc (.cells #[.string ⟨#[]⟩, .int .u64 0, .int .i64 0, .string ⟨#[]⟩] 43) := ⟨_, rfl⟩
      have B2 : Below wc.heap.size wc W2 := by rw [hW2]; exact Below.up b2 (box_below _ _)
      have hFr := hid (from_out (P2.out.later B2) hb1.out)
      have HN : Hid (∀ w3, Below W2.heap.size W2 w3 → Calls Try.prog 31 #[.pointer (some ⟨gm, 0, none⟩)] w3 fun e w' => e = .returned (.bool false) ∧ Mp w' gm gg n cs S L X (m : Int) ∧ Fp (fun j => ¬ X j) w3 w') := fun w3 b => by
        have := next_p ((P2.out.later B2).later b)
        rw [show tgt L.length false (m : Int) = (m : Int) by show min ((m : Int) + 1) (L.length : Int) = _; have := hmT2.out; omega, hb1.out] at this
        exact this
      have FX2 := hid (F2.out.below B2)
      replace hW2 := hid hW2
      clear b2 B2 hHe P2 F2
      go_wp2_with fail
      rw [← hW2.out]
      refine hFr.out.mono ?_
      rintro e w3 ⟨rfl, b3⟩
      have HN3 := hid (HN.out w3 b3)
      have FX3 := hid (FX2.out.below b3)
      clear hFr b3 HN FX2
      go_wp2_with fail
      refine HN3.out.mono ?_
      rintro e w4 ⟨rfl, m4, f4⟩
      have hFr2 := hid (from_out m4 hb1.out)
      have FX4 := hid (FX3.out.tr (f4.wide (fun j _ h => .inl h)))
      clear m4 f4 HN3 FX3
      go_wp2_with fail
      refine hFr2.out.mono ?_
      rintro e w5 ⟨rfl, b5⟩
      have BF := hid (Below.up B0.out (hXB.out _ (FX4.out.below b5)))
      clear b5 hFr2 FX4
      go_wp2_with fail
      go_ret
      exact ⟨rfl, BF.out⟩
end Go.Proofs.Ytgjodfaliajlgaa.Tl2

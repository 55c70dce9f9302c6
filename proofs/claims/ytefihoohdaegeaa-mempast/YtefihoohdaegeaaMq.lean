/- MemPast walked. -/
import Derived.Test.YtefihoohdaegeaaPp
import Derived.Test.YtefihoohdaegeaaWo
namespace Go.Proofs.Ytefihoohdaegeaa.Mq
open Go.ChangeShapes Go.WideShapes Go.ChangeAt Go.RowKit Go.Shelf
open Go.Sort (grow)
open Go.Proofs.Ytefihoohdaegeaa.Lx
open Go.Proofs.Ytefihoohdaegeaa.Ee (E ze)
open Go.Proofs.Ytefihoohdaegeaa.Nw (c4 text_eq text_ne)
open Go.Proofs.Ytefihoohdaegeaa.Fm
open Go.Proofs.Ytefihoohdaegeaa.Tb
open Go.Proofs.Ytefihoohdaegeaa.Ad (adE adS)
open Go.Proofs.Ytefihoohdaegeaa.Fl (A6 za At6 Acts take_snoc get_mem)
open Go.Proofs.Ytefihoohdaegeaa.Ae (add_any)
open Go.Proofs.Ytefihoohdaegeaa.Gt (fnd)
open Go.Proofs.Ytefihoohdaegeaa.Qu
open Go.Proofs.Ytefihoohdaegeaa.Qv
open Go.Proofs.Ytefihoohdaegeaa.Pp
open Go.Proofs.Ytefihoohdaegeaa.Pt (region_tail)
open Go.Proofs.Ytefihoohdaegeaa.Wo (works_any)
open Go.Proofs.Ytefihoohdaegeaa.Mm (box_below)
open Go.Proofs.Ytefihoohdaegeaa.Tr (new_at cell_of size_alloc blk_lt set_of fz_of)
set_option linter.unusedVariables false
set_option linter.unusedSimpArgs false

set_option maxHeartbeats 8000000 in
set_option maxRecDepth 100000 in
theorem past_any (a0 : Option Addr) (len0 cap0 : Nat) (xs : List A6) (a1 : Option Addr) (len1 cap1 : Nat) (ys : List A6) (z : A6) (w : World) (H0 : Acts w a0 len0 cap0 xs) (H1 : Acts w a1 len1 cap1 ys) (hl0 : len0 ≤ 2199023255552) (hl1 : len1 ≤ 2199023255552) (hz : z.ok) :
    Calls Try.prog 8 #[.slice a0 len0 cap0, .slice a1 len1 cap1, .agg #[.int .i64 z.kd, .int .i64 z.ht, .int .u64 z.sq, .int .i64 z.c, .string z.k, .string z.v]] w fun e w' => e = .returned (.bool true) ∧ Below w.heap.size w w' := by
  obtain ⟨zkd, zht, q, zc, k, zv⟩ := z
  dsimp only
  have hk : Hid (k.size ≤ maxLen) := hz.1
  have hxl := hid H0.1
  have hyl := hid H1.1
  obtain ⟨gA, hgA⟩ : ∃ n, n = w.heap.size := ⟨_, rfl⟩
  obtain ⟨W0, hW0⟩ : ∃ W, W = w.alloc (.cells #[.int .i64 zkd, .int .i64 zht, .int .u64 q, .int .i64 zc, .string k, .string zv] 34) := ⟨_, rfl⟩
  have B0 : Below w.heap.size w W0 := by rw [hW0]; exact box_below _ _
  have kA : W0.heap[gA]? = some (.cells #[.int .i64 zkd, .int .i64 zht, .int .u64 q, .int .i64 zc, .string k, .string zv] 34) := by rw [hW0, hgA]; exact new_at _ _
  obtain ⟨n0, hn0⟩ : ∃ n, n = W0.heap.size := ⟨_, rfl⟩
  have ALL : Hid (∀ W, Below n0 W0 W → Acts W a0 len0 cap0 xs ∧ Acts W a1 len1 cap1 ys ∧ W.cell? ⟨gA, 2, none⟩ = some (.int .u64 q) ∧ W.cell? ⟨gA, 4, none⟩ = some (.string k) ∧ Below w.heap.size w W) := fun W hb => by
    have hb' : Below W0.heap.size W0 W := by rw [← hn0]; exact hb
    have kW := (hb'.block gA (blk_lt kA)).trans kA
    exact ⟨(H0.later B0).later hb', (H1.later B0).later hb', cell_of kW 2 _ rfl, cell_of kW 4 _ rfl, B0.trans (hb'.mono B0.size)⟩
  have HW := hid (works_any W0)
  replace hW0 := hid hW0
  replace hgA := hid hgA
  replace hn0 := hid hn0
  clear H0 H1 B0 kA hz
  go_enter Try.func8, Try.ntmps8
  go_wp2_with fail
  rw [← hW0.out, ← hgA.out]
  refine HW.out.mono ?_
  rintro e w1 ⟨rfl, b1⟩
  have HQ := hid (newqueue_any 1 w1)
  have B1 : Hid (Below n0 W0 w1) := by rw [hn0.out]; exact b1
  clear b1 HW
  go_wp2_with fail
  refine HQ.out.mono ?_
  rintro e w2 ⟨gq, g, P2, rfl, Q2, T2, np2, hgq, b2⟩
  have le1 : Hid (n0 ≤ w1.heap.size) := by have := B1.out.size; have := hn0.out; show _ ≤ _; omega
  have B2 : Hid (Below n0 W0 w2) := B1.out.trans (b2.mono le1.out)
  have HA2 : Hid (Calls Try.prog 22 #[.pointer (some ⟨gq, 0, none⟩)] w2 fun e w' => e = .returned (.pointer (some ⟨g, 0, none⟩)) ∧ w' = w2) := by
    obtain ⟨gl, bl, gs, bm, vt, X⟩ := T2
    exact active_any gq g gl gs bm _ _ w2 Q2 X.c
  obtain ⟨nb, hnb⟩ : ∃ n, n = w1.heap.size := ⟨_, rfl⟩
  rw [← hnb] at T2 le1
  have T2' : Hid (Tb.Tb w2 nb g P2 (fol (xs.take 0))) := T2
  replace Q2 := hid Q2
  replace np2 := hid np2
  have hgq' : Hid (n0 ≤ gq) := by have := le1.out; show _ ≤ _; omega
  clear T2 hgq b2 HQ B1 hnb
  go_wp2_with fail
  refine HA2.out.mono ?_
  rintro e w3 ⟨rfl, rfl⟩
  clear HA2
  go_wp2_with fail
  go_loopw [8] (fun iv wr => ∃ (n : Nat) (P : Nat → Prop), n ≤ len0 ∧ iv = .int .i64 (n : Int) ∧ Hid (Qb wr gq g (.slice none 0 0)) ∧ Hid (Tb.Tb wr nb g P (fol (xs.take n))) ∧ Hid (¬ P gq) ∧ Hid (Below n0 W0 wr))
    (fun iv _ => len0 - (intOf iv).toNat)
  case atStart => exact ⟨0, P2, Nat.zero_le _, rfl, Q2, T2', np2, B2⟩
  case round =>
    obtain ⟨n, P, hn, rfl, HQ, HT, HP, HB⟩ := hrel
    by_cases hlt : n < len0
    · obtain ⟨hA, _⟩ := ALL.out wr HB.out
      obtain ⟨ad, rfl⟩ : ∃ ad, a0 = some ad := by
        cases a0 with
        | none => have := (hA.2.2.1 rfl).1; omega
        | some ad => exact ⟨ad, rfl⟩
      obtain ⟨pb, po, psp⟩ := ad
      obtain ⟨hsp, hat⟩ := hA.2.2.2.2 pb po psp rfl (by omega)
      subst hsp
      have hok : (xs.getD n za).ok := hA.2.2.2.1 _ (get_mem (by have := hxl.out; omega))
      have hcp := hA.2.1
      obtain ⟨D, hD⟩ : ∃ D, D = World.drew wr := ⟨_, rfl⟩
      have cd : Below wr.heap.size wr D := by rw [hD]; exact (Below.refl _ _).drew
      obtain ⟨c0, c1, c2, c3, c4', c5⟩ := (hat n hlt).later (hat n hlt).lt cd
      have hfs := fol_snoc (xs.take n) (xs.getD n za)
      rw [← take_snoc (by have := hxl.out; omega)] at hfs
      have htl := (fol_spec n (xs.take n) (by rw [List.length_take]; have := hxl.out; omega)).2.1
      obtain ⟨x, hxx⟩ : ∃ x, xs.getD n za = x := ⟨_, rfl⟩
      rw [hxx] at c0 c1 c2 c3 c4' c5 hok hfs
      obtain ⟨xkd, xht, xsq, xc, xk, xv⟩ := x
      unfold fo at hfs
      dsimp only at c1 c2 c3 c4' c5 hok hfs
      obtain ⟨hk1, hk2, hk3, _, _⟩ := hok
      dsimp only at hk1 hk2 hk3
      have i1 : (n : Int) < (len0 : Int) := by omega
      have TD := HT.out.later cd
      have QD := HQ.out.later cd
      have BD : Below n0 W0 D := by rw [hD]; exact HB.out.drew
      have sz : n0 ≤ D.heap.size := by have := BD.size; have := hn0.out; omega
      have szb : nb ≤ D.heap.size := by have := TD.low g (by obtain ⟨gl, bl, gs, bm, vt, X⟩ := TD; exact X.pg); omega
      have HAc : Hid (Calls Try.prog 22 #[.pointer (some ⟨gq, 0, none⟩)] D fun e w' => e = .returned (.pointer (some ⟨g, 0, none⟩)) ∧ w' = D) := by
        obtain ⟨gl, bl, gs, bm, vt, X⟩ := TD
        exact active_any gq g gl gs bm _ _ D QD X.c
      have HAd := hid (add_any nb g P (fol (xs.take n)) xsq xc xk xv xht D TD szb hk1 hk2 (by omega))
      rw [← hfs] at HAd
      have AFT : Hid (∀ w', Fp P D w' → Qb w' gq g (.slice none 0 0) ∧ ¬ gw P D w' gq ∧ Below n0 W0 w') := fun w' hf =>
        ⟨(hf.block gq QD.lt HP.out).trans QD, fun h => by rcases h with h | h; exact HP.out h; have := QD.lt; omega, BD.trans (hf.base sz (fun j hj => by have := (TD.low j hj).1; have := le1.out; omega))⟩
      generalize adE (fol (xs.take n)) xsq xc xk xv xht = EE at *
      replace hD := hid hD
      clear hA hat hxx cd hfs htl TD QD BD sz szb hk1 hk2 hk3 HT HQ HP HB
      go_wp2_with fail
      refine region_tail 17 (by kernel_rfl) (by kernel_rfl) ?_
      rw [← hD.out]
      simp only [List.take_succ_cons, List.take_zero, List.drop_succ_cons, List.drop_zero]
      repeat still_step
      still_call HAc.out
      repeat still_step
      refine wpStill_nil ?_
      go_wp2_with fail
      refine HAd.out.mono ?_
      rintro e w4 ⟨rfl, t4, f4⟩
      obtain ⟨q4, p4, b4⟩ := AFT.out w4 f4
      replace q4 := hid q4
      replace p4 := hid p4
      replace b4 := hid b4
      replace t4 := hid t4
      clear f4 HAd HAc
      go_wp2_with fail
      refine ⟨⟨n + 1, _, by omega, by first | rfl | go_num, q4, t4, p4, b4⟩, ?_⟩
      simp only [intOf]; omega
    · have ik : ¬ (n : Int) < (len0 : Int) := by omega
      have hnl : n = len0 := by omega
      have hxt : xs.take n = xs := by rw [hnl, ← hxl.out]; exact List.take_length
      rw [hxt] at HT
      obtain ⟨hS0, hS1, hS2⟩ := fol_spec len0 xs hxl.out
      obtain ⟨S, hS⟩ : ∃ S, S = fol xs := ⟨_, rfl⟩
      rw [← hS] at HT hS0 hS1 hS2
      obtain ⟨_, _, cA2, cA4, _⟩ := ALL.out wr HB.out
      obtain ⟨⟨⟨y1, y2, y3, y4⟩, yb⟩, hy⟩ : ∃ r, r = fnd [(g, S)] k q := ⟨_, rfl⟩
      have HG1 : Hid (Calls Try.prog 37 #[.pointer (some ⟨gq, 0, none⟩), .string k, .int .u64 q] wr fun e w' => e = .returned (.tuple #[.agg #[.string y1, .int .u64 y2, .int .i64 y3, .string y4], .bool yb]) ∧ Below wr.heap.size wr w') := by
        obtain ⟨gl, bl, gs, bm, vt, X⟩ := HT.out
        have := qget_any 0 gq g gl gs bm (.slice none 0 0) S [] k q wr HQ.out (OwnP.nil _ _) X.c (fun x hx => by
          have e : x = (g, S) := by simpa using hx
          rw [e]; exact ⟨nb, P, HT.out⟩) (by simp) (fun x hx => by
          have e : x = (g, S) := by simpa using hx
          rw [e]; show S.ts.length ≤ _; omega) hk.out
        have e : fnd ((g, S) :: List.reverse []) k q = fnd [(g, S)] k q := rfl
        rw [e, ← hy] at this
        exact this
      replace hy := hid hy
      replace hS0 := hid hS0
      clear hxt hS
      go_wp2_with fail
      refine HG1.out.mono ?_
      rintro e w4 ⟨rfl, b4⟩
      obtain ⟨e1, he1⟩ : ∃ n, n = w4.heap.size := ⟨_, rfl⟩
      obtain ⟨W5, hW5⟩ : ∃ W, W = w4.alloc (.cells #[.string y1, .int .u64 y2, .int .i64 y3, .string y4] 56) := ⟨_, rfl⟩
      have k5 : W5.heap[e1]? = some (.cells #[.string y1, .int .u64 y2, .int .i64 y3, .string y4] 56) := by rw [hW5, he1]; exact new_at _ _
      have b5 : Below wr.heap.size wr W5 := by rw [hW5]; exact b4.alloc b4.size _
      have Q5 := HQ.out.later b5
      have T5 := HT.out.later b5
      have leq : gq < e1 := by have := HQ.out.lt; have := b4.size; omega
      have leg : ∀ j, P j → j < e1 := fun j hj => by have := (HT.out.low j hj).2; have := b4.size; omega
      have gP : P g := by obtain ⟨gl, bl, gs, bm, vt, X⟩ := HT.out; exact X.pg
      have le0 : n0 ≤ wr.heap.size := by have := HB.out.size; have := hn0.out; omega
      have B5 : Below n0 W0 W5 := HB.out.trans (b5.mono le0)
      have le5 : n0 ≤ W5.heap.size := by have := b5.size; omega
      have HFz := hid (freeze_yes nb n0 gq g (.slice none 0 0) [] P S 2 W5 Q5 (OwnP.nil _ _) T5 HP.out (fun j hj => by cases hj) (by rw [hS2]; omega) (by simp) le5)
      replace hW5 := hid hW5
      replace he1 := hid he1
      clear b4 HQ HT HB HG1 cA2 cA4
      go_wp2_with fail
      rw [← hW5.out, ← he1.out]
      refine HFz.out.mono ?_
      rintro e w6 ⟨rfl, g', P', v', n1, Q6, O6, T6, U6, hn1, hv', f6⟩
      clear HFz
      have B6 : Below n0 W0 w6 := B5.trans (f6.base le5 (fun j hj => by
        rcases hj with rfl | rfl | h
        · exact hgq'.out
        · have := (T5.low _ gP).1; have := le1.out; omega
        · cases h))
      have k6 : w6.heap[e1]? = some (.cells #[.string y1, .int .u64 y2, .int .i64 y3, .string y4] 56) := (f6.block e1 (blk_lt k5) (fun hj => by
        rcases hj with h | h | h
        · omega
        · have := leg g gP; omega
        · cases h)).trans k5
      have l1 : e1 < n1 := by have := blk_lt k5; omega
      have gU : P' g' := by obtain ⟨gl, bl, gs, bm, vt, X⟩ := U6; exact X.pg
      have l6 : n1 ≤ w6.heap.size := by have := U6.low g' gU; omega
      have HA6 : Hid (Calls Try.prog 22 #[.pointer (some ⟨gq, 0, none⟩)] w6 fun e w' => e = .returned (.pointer (some ⟨g', 0, none⟩)) ∧ w' = w6) := by
        obtain ⟨gl, bl, gs, bm, vt, X⟩ := U6
        exact active_any gq g' gl gs bm _ _ w6 Q6 X.c
      have GET : Hid (∀ W P2 S2, Below n1 w6 W → Tb.Tb W n1 g' P2 S2 → S2.ts.length ≤ 140737488355328 → Wf S2 → (∀ m ∈ S2.ns, q < m.s) → (∀ t ∈ S2.ts, q < t.s) → Calls Try.prog 37 #[.pointer (some ⟨gq, 0, none⟩), .string k, .int .u64 q] W fun e w' => e = .returned (.tuple #[.agg #[.string y1, .int .u64 y2, .int .i64 y3, .string y4], .bool yb]) ∧ Below W.heap.size W w') := by
        intro W P2 S2 hb hT2 hlen2 hw2 hm2 ht2
        have hT2' := hT2
        obtain ⟨gl, bl, gs, bm, vt, X⟩ := hT2
        have hTg : Tb.Tb W nb g P (St.frz S) := T6.blocks (fun j hj => hb.block j (by have := leg j hj; omega)) hb.size
        have := qget_any n0 gq g' gl gs bm v' S2 [(g, St.frz S)] k q W ((hb.block gq (by omega)).trans Q6) (own_blocks O6 (fun j hj => hb.block j (by
          rcases hv' j hj with h | h
          · cases h
          · exact h.2))) X.c (fun x hx => by
          have e : x = (g', S2) ∨ x = (g, St.frz S) := by simpa using hx
          rcases e with rfl | rfl
          · exact ⟨n1, P2, hT2'⟩
          · exact ⟨nb, P, hTg⟩) (by simp) (fun x hx => by
          have e : x = (g', S2) ∨ x = (g, St.frz S) := by simpa using hx
          rcases e with rfl | rfl
          · exact hlen2
          · show S.ts.length ≤ _; omega) hk.out
        have e : fnd ((g', S2) :: List.reverse [(g, St.frz S)]) k q = fnd [(g, S)] k q := fnd_past hw2 g g g' k q hm2 ht2
        rw [e, ← hy.out] at this
        exact this
      have ACT : Hid (∀ W P2 S2, Below n1 w6 W → Tb.Tb W n1 g' P2 S2 → Calls Try.prog 22 #[.pointer (some ⟨gq, 0, none⟩)] W fun e w' => e = .returned (.pointer (some ⟨g', 0, none⟩)) ∧ w' = W) := by
        intro W P2 S2 hb hT2
        obtain ⟨gl, bl, gs, bm, vt, X⟩ := hT2
        exact active_any gq g' gl gs bm _ _ W ((hb.block gq (by omega)).trans Q6) X.c
      have REST : Hid (∀ W, Below n1 w6 W → Acts W a1 len1 cap1 ys ∧ W.cell? ⟨gA, 2, none⟩ = some (.int .u64 q) ∧ W.cell? ⟨gA, 4, none⟩ = some (.string k) ∧ Below w.heap.size w W ∧ W.heap[e1]? = some (.cells #[.string y1, .int .u64 y2, .int .i64 y3, .string y4] 56) ∧ n1 ≤ W.heap.size) := fun W hb => by
        obtain ⟨_, r1, r2, r3, r4⟩ := ALL.out W (B6.trans (hb.mono (by omega)))
        exact ⟨r1, r2, r3, r4, (hb.block e1 l1).trans k6, by have := hb.size; omega⟩
      have HG2 := hid (GET.out w6 P' (St.new 2) (Below.refl _ _) U6 (by simp [St.new]) (Wf.new 2) (fun m h => by simp [St.new] at h) (fun m h => by simp [St.new] at h))
      obtain ⟨_, d2, d4, _, _, _⟩ := REST.out w6 (Below.refl _ _)
      have U6' : Hid (Tb.Tb w6 n1 g' P' (fol2 q (ys.take 0))) := U6
      replace l6 := hid l6
      clear Q6 O6 T6 U6 hn1 hv' f6 B6 k6 l1 gU k5 b5 Q5 T5 leq leg gP le0 B5 le5 hW5 he1 hS0 hS1 hS2
      go_wp2_with fail
      refine HA6.out.mono ?_
      rintro e w7 ⟨rfl, rfl⟩
      clear HA6
      go_wp2_with fail
      refine HG2.out.mono ?_
      rintro e w8 ⟨rfl, b8⟩
      obtain ⟨e2, he2⟩ : ∃ n, n = w8.heap.size := ⟨_, rfl⟩
      obtain ⟨W9, hW9⟩ : ∃ W, W = w8.alloc (.cells #[.string y1, .int .u64 y2, .int .i64 y3, .string y4] 56) := ⟨_, rfl⟩
      have k9 : Hid (W9.heap[e2]? = some (.cells #[.string y1, .int .u64 y2, .int .i64 y3, .string y4] 56)) := by rw [hW9, he2]; exact new_at _ _
      have b9 : Below w7.heap.size w7 W9 := by rw [hW9]; exact b8.alloc b8.size _
      have U9 := hid (U6'.out.later b9)
      have B9 : Hid (Below n1 w7 W9) := b9.mono l6.out
      have p9 : Hid (¬ P' e2) := fun h => by have := (U6'.out.low e2 h).2; have := b8.size; omega
      replace hW9 := hid hW9
      replace he2 := hid he2
      clear b8 b9 HG2 U6' d2 d4
      go_wp2_with fail
      rw [← hW9.out, ← he2.out]
      go_loopw [13] (fun iv wr => ∃ (n : Nat) (P : Nat → Prop), n ≤ len1 ∧ iv = .int .i64 (n : Int) ∧ Hid (Tb.Tb wr n1 g' P (fol2 q (ys.take n))) ∧ Hid (¬ P e2) ∧ Hid (wr.heap[e2]? = some (.cells #[.string y1, .int .u64 y2, .int .i64 y3, .string y4] 56)) ∧ Hid (Below n1 w7 wr))
        (fun iv _ => len1 - (intOf iv).toNat)
      case atStart => exact ⟨0, P', Nat.zero_le _, rfl, U9, p9, k9, B9⟩
      case round =>
        obtain ⟨m, P3, hm, rfl, HT, HP3, HK, HB⟩ := hrel
        obtain ⟨hA, d2, d4, BF, kE, szr⟩ := REST.out wr HB.out
        by_cases hlt : m < len1
        · obtain ⟨ad, rfl⟩ : ∃ ad, a1 = some ad := by
            cases a1 with
            | none => have := (hA.2.2.1 rfl).1; omega
            | some ad => exact ⟨ad, rfl⟩
          obtain ⟨pb, po, psp⟩ := ad
          obtain ⟨hsp, hat⟩ := hA.2.2.2.2 pb po psp rfl (by omega)
          subst hsp
          have hok : (ys.getD m za).ok := hA.2.2.2.1 _ (get_mem (by have := hyl.out; omega))
          have hcp := hA.2.1
          obtain ⟨D, hD⟩ : ∃ D, D = World.drew wr := ⟨_, rfl⟩
          have cd : Below wr.heap.size wr D := by rw [hD]; exact (Below.refl _ _).drew
          obtain ⟨D2, hD2⟩ : ∃ D2, D2 = World.drew D := ⟨_, rfl⟩
          have cd2 : Below D.heap.size D D2 := by rw [hD2]; exact (Below.refl _ _).drew
          have hat1 := (hat m hlt).later (hat m hlt).lt cd
          have hat2 := hat1.later hat1.lt cd2
          have dD2 : D.cell? ⟨gA, 2, none⟩ = some (.int .u64 q) := by rw [hD]; exact d2
          have hfs := fol2_snoc q (ys.take m) (ys.getD m za)
          rw [← take_snoc (by have := hyl.out; omega)] at hfs
          have htl := (fol2_spec q m (ys.take m) (by rw [List.length_take]; have := hyl.out; omega)).2.1
          obtain ⟨x, hxx⟩ : ∃ x, ys.getD m za = x := ⟨_, rfl⟩
          rw [hxx] at hat1 hat2 hok hfs
          obtain ⟨c0, c1, c2, c3, c4', c5⟩ := hat1
          obtain ⟨u0, u1, u2, u3, u4, u5⟩ := hat2
          obtain ⟨xkd, xht, xsq, xc, xk, xv⟩ := x
          unfold f2 fo at hfs
          dsimp only at c0 c1 c2 c3 c4' c5 u0 u1 u2 u3 u4 u5 hok hfs
          obtain ⟨hk1, hk2, hk3, _, _⟩ := hok
          dsimp only at hk1 hk2 hk3
          have i1 : (m : Int) < (len1 : Int) := by omega
          have TD := HT.out.later cd
          have TD2 := TD.later cd2
          have BD : Below n1 w7 D := by rw [hD]; exact HB.out.drew
          have BD2 : Below n1 w7 D2 := by rw [hD2]; exact BD.drew
          have KD : D.heap[e2]? = some (.cells #[.string y1, .int .u64 y2, .int .i64 y3, .string y4] 56) := by rw [hD]; exact HK.out
          have KD2 : D2.heap[e2]? = some (.cells #[.string y1, .int .u64 y2, .int .i64 y3, .string y4] 56) := by rw [hD2]; exact KD
          have sz2 : n1 ≤ D2.heap.size := by have := cd.size; have := cd2.size; omega
          have HAc := hid (ACT.out D2 P3 _ BD2 TD2)
          have HAd := hid (add_any n1 g' P3 (fol2 q (ys.take m)) xsq xc xk xv xht D2 TD2 sz2 hk1 hk2 (by omega))
          have AFT : Hid (∀ w', Fp P3 D2 w' → w'.heap[e2]? = some (.cells #[.string y1, .int .u64 y2, .int .i64 y3, .string y4] 56) ∧ ¬ gw P3 D2 w' e2 ∧ Below n1 w7 w') := fun w' hf =>
            ⟨(hf.block e2 (blk_lt KD2) HP3.out).trans KD2, fun h => by rcases h with h | h; exact HP3.out h; have := blk_lt KD2; omega, BD2.trans (hf.base sz2 (fun j hj => (TD2.low j hj).1))⟩
          have e0 : Hid (Tb.Tb D n1 g' P3 (fol2 q (ys.take m))) := TD
          replace hD := hid hD
          replace hD2 := hid hD2
          replace BD := hid BD
          replace KD := hid KD
          clear hA hat hxx cd cd2 htl TD TD2 BD2 KD2 sz2 hk1 hk2 hk3 HT HB HK kE BF szr
          by_cases hq : q < xsq
          · rw [if_pos hq] at hfs
            rw [← hfs] at HAd
            generalize adE (fol2 q (ys.take m)) xsq xc xk xv xht = EE at *
            clear hfs
            go_wp2_with fail
            refine region_tail 7 (by kernel_rfl) (by kernel_rfl) ?_
            rw [← hD.out]
            simp only [List.take_succ_cons, List.take_zero, List.drop_succ_cons, List.drop_zero]
            repeat still_step
            refine wpStill_nil ?_
            go_wp2_with fail
            refine region_tail 17 (by kernel_rfl) (by kernel_rfl) ?_
            rw [← hD2.out]
            simp only [List.take_succ_cons, List.take_zero, List.drop_succ_cons, List.drop_zero]
            repeat still_step
            still_call HAc.out
            repeat still_step
            refine wpStill_nil ?_
            go_wp2_with fail
            refine HAd.out.mono ?_
            rintro e w10 ⟨rfl, t4, f4⟩
            obtain ⟨q4, p4, b4⟩ := AFT.out w10 f4
            replace q4 := hid q4
            replace p4 := hid p4
            replace b4 := hid b4
            replace t4 := hid t4
            clear f4 HAd HAc
            go_wp2_with fail
            refine ⟨⟨m + 1, _, by omega, by first | rfl | go_num, t4, p4, q4, b4⟩, ?_⟩
            simp only [intOf]; omega
          · rw [if_neg hq] at hfs
            rw [← hfs] at e0
            clear hfs HAd HAc AFT
            go_wp2_with fail
            refine region_tail 7 (by kernel_rfl) (by kernel_rfl) ?_
            rw [← hD.out]
            simp only [List.take_succ_cons, List.take_zero, List.drop_succ_cons, List.drop_zero]
            repeat still_step
            refine wpStill_nil ?_
            go_wp2_with fail
            refine ⟨⟨m + 1, _, by omega, by first | rfl | go_num, e0, HP3, KD, BD⟩, ?_⟩
            simp only [intOf]; omega
        · have ik : ¬ (m : Int) < (len1 : Int) := by omega
          have hml : m = len1 := by omega
          have hyt : ys.take m = ys := by rw [hml, ← hyl.out]; exact List.take_length
          rw [hyt] at HT
          obtain ⟨hw2, hl2, hn2, ht2⟩ := fol2_spec q len1 ys hyl.out
          have HG3 := hid (GET.out wr P3 _ HB.out HT.out (by omega) hw2 hn2 ht2)
          replace kE := hid kE
          replace BF := hid BF
          clear hA HT HP3 HB hyt hw2 hl2 hn2 ht2 szr
          go_wp2_with fail
          refine HG3.out.mono ?_
          rintro e w11 ⟨rfl, b11⟩
          have b12 : Below wr.heap.size wr (w11.alloc (.cells #[.string y1, .int .u64 y2, .int .i64 y3, .string y4] 56)) := b11.alloc b11.size _
          have k3 : (w11.alloc (.cells #[.string y1, .int .u64 y2, .int .i64 y3, .string y4] 56)).heap[w11.heap.size]? = some (.cells #[.string y1, .int .u64 y2, .int .i64 y3, .string y4] 56) := new_at _ _
          have j1 := (b11.block e1 (blk_lt kE.out)).trans kE.out
          have j2 := (b11.block e2 (blk_lt HK.out)).trans HK.out
          have k1 := (b12.block e1 (blk_lt kE.out)).trans kE.out
          have k2 := (b12.block e2 (blk_lt HK.out)).trans HK.out
          have BZ : Hid (Below w.heap.size w (w11.alloc (.cells #[.string y1, .int .u64 y2, .int .i64 y3, .string y4] 56))) := BF.out.trans (b12.mono BF.out.size)
          have ne1 : w11.heap.size ≠ e1 := Nat.ne_of_gt (blk_lt j1)
          have ne2 : w11.heap.size ≠ e2 := Nat.ne_of_gt (blk_lt j2)
          have ne1' : e1 ≠ w11.heap.size := Ne.symm ne1
          have ne2' : e2 ≠ w11.heap.size := Ne.symm ne2
          have x0 := cell_of k1 0 (.string y1) rfl
          have x1 := cell_of k1 1 (.int .u64 y2) rfl
          have x2 := cell_of k1 2 (.int .i64 y3) rfl
          have x3 := cell_of k1 3 (.string y4) rfl
          have v0 := cell_of k2 0 (.string y1) rfl
          have v1 := cell_of k2 1 (.int .u64 y2) rfl
          have v2 := cell_of k2 2 (.int .i64 y3) rfl
          have v3 := cell_of k2 3 (.string y4) rfl
          have z0 := cell_of k3 0 (.string y1) rfl
          have z1 := cell_of k3 1 (.int .u64 y2) rfl
          have z2 := cell_of k3 2 (.int .i64 y3) rfl
          have z3 := cell_of k3 3 (.string y4) rfl
          have r0 := cell_of j1 0 (.string y1) rfl
          have r1 := cell_of j1 1 (.int .u64 y2) rfl
          have r2 := cell_of j1 2 (.int .i64 y3) rfl
          have r3 := cell_of j1 3 (.string y4) rfl
          have s0 := cell_of j2 0 (.string y1) rfl
          have s1 := cell_of j2 1 (.int .u64 y2) rfl
          have s2 := cell_of j2 2 (.int .i64 y3) rfl
          have s3 := cell_of j2 3 (.string y4) rfl
          clear k1 k2 k3 j1 j2 b12 b11 kE HK BF
          go_wp2_with fail
          go_ret
          exact ⟨by first | rfl | simp, BZ.out⟩
end Go.Proofs.Ytefihoohdaegeaa.Mq

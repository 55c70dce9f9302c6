/- MemSeen walked. -/
import Derived.Test.YtefihoohdaegeabBs
import Derived.Test.YtefihoohdaegeabWo
namespace Go.Proofs.Ytefihoohdaegeab.Ms
open Go.ChangeShapes Go.WideShapes Go.ChangeAt Go.RowKit Go.Shelf
open Go.Sort (grow)
open Go.Proofs.Ytefihoohdaegeab.Lx
open Go.Proofs.Ytefihoohdaegeab.Ee (E ze)
open Go.Proofs.Ytefihoohdaegeab.Nw (c4 text_eq text_ne)
open Go.Proofs.Ytefihoohdaegeab.Fm
open Go.Proofs.Ytefihoohdaegeab.Tb
open Go.Proofs.Ytefihoohdaegeab.Fl
open Go.Proofs.Ytefihoohdaegeab.Bs
open Go.Proofs.Ytefihoohdaegeab.Gt (fnd)
open Go.Proofs.Ytefihoohdaegeab.Gu (get_any)
open Go.Proofs.Ytefihoohdaegeab.Wo (works_any)
open Go.Proofs.Ytefihoohdaegeab.Mm (box_below)
open Go.Proofs.Ytefihoohdaegeab.Tr (new_at cell_of size_alloc blk_lt set_of fz_of)
set_option linter.unusedVariables false
set_option linter.unusedSimpArgs false
attribute [local go_sem] leq_s gtr_s geq_s

set_option maxHeartbeats 8000000 in
set_option maxRecDepth 100000 in
theorem seen_any (a : Option Addr) (len cap : Nat) (xs : List A6) (k : ByteArray) (q : Int) (w : World) (H : Acts w a len cap xs) (hlen : len ≤ 2199023255552) (hk : k.size ≤ maxLen) :
    Calls Try.prog 4 #[.slice a len cap, .string k, .int .u64 q] w fun e w' => e = .returned (.bool true) ∧ Below w.heap.size w w' := by
  have HW := hid (works_any w)
  have hxl : xs.length = len := H.1
  replace hxl := hid hxl
  replace H := hid H
  replace hk := hid hk
  go_enter Try.func4, Try.ntmps4
  go_wp2_with fail
  refine HW.out.mono ?_
  rintro e w1 ⟨rfl, b1⟩
  have HF := hid (filled_any a len cap xs 0 w1 (H.out.later b1) hlen)
  have B1 := hid b1
  clear b1 HW
  go_wp2_with fail
  refine HF.out.mono ?_
  rintro e w2 ⟨g, gb, P, rfl, T2, R2, nP, hgb, b2⟩
  have B2 := hid (B1.out.trans (b2.mono B1.out.size))
  obtain ⟨gB, hgB⟩ : ∃ n, n = w2.heap.size := ⟨_, rfl⟩
  obtain ⟨W3, hW3⟩ : ∃ W, W = w2.alloc (.cells #[.string ⟨#[]⟩, .int .u64 0, .int .i64 0, .string ⟨#[]⟩] 35) := ⟨_, rfl⟩
  have b3 : Below w2.heap.size w2 W3 := by rw [hW3]; exact box_below _ _
  have k3 : W3.heap[gB]? = some (.cells (c4 ze) 35) := by rw [hW3, hgB]; exact new_at _ _
  have H3 : Hid (∀ W, Below gB W3 W → Acts W a len cap xs ∧ Tb.Tb W w1.heap.size g P (fil 0 xs).1 ∧ Br W gb (fil 0 xs).2 ∧ Below w.heap.size w W) := fun W hb => by
    have hb2 : Below w2.heap.size w2 W := b3.trans (by rw [← hgB]; exact hb)
    exact ⟨(H.out.later B2.out).later (hb2.mono (by have := B2.out.size; omega)) |> fun h => h, T2.later hb2, (hb2.block gb R2.lt).trans R2, B2.out.trans (hb2.mono B2.out.size)⟩
  replace hgB := hid hgB
  replace hW3 := hid hW3
  replace k3 := hid k3
  have hz3 : Hid (gB < W3.heap.size) := blk_lt k3.out
  clear T2 R2 nP hgb b2 b3 HF
  go_wp2_with fail
  rw [← hW3.out, ← hgB.out]
  go_loopw [10, 11] (fun tv iv wr => ∃ n : Nat, n ≤ len ∧ iv = .int .i64 (n : Int) ∧ tv = .bool (bst k q xs n).2 ∧ Hid (wr.heap[gB]? = some (.cells (c4 (bst k q xs n).1) 35)) ∧ Hid (Below gB W3 wr))
    (fun _ iv _ => len - (intOf iv).toNat)
  case atStart => exact ⟨0, Nat.zero_le _, rfl, rfl, k3, Below.refl _ _⟩
  case round =>
    obtain ⟨n, hn, rfl, rfl, HK, HB⟩ := hrel
    by_cases hlt : n < len
    · obtain ⟨hA, _, hR, _⟩ := H3.out wr HB.out
      obtain ⟨ad, rfl⟩ : ∃ ad, a = some ad := by
        cases a with
        | none => have := (hA.2.2.1 rfl).1; omega
        | some ad => exact ⟨ad, rfl⟩
      obtain ⟨pb, po, psp⟩ := ad
      obtain ⟨hsp, hat⟩ := hA.2.2.2.2 pb po psp rfl (by omega)
      subst hsp
      obtain ⟨c0, c1, c2, c3, c4', c5⟩ := hat n hlt
      have hbl : (fil 0 xs).2.length = len := fil_len 0 len xs hxl.out
      have cT := hR.cell n (by omega)
      have hbs : bst k q xs (n + 1) = bstep k q (bst k q xs n) (xs.getD n za) ((fil 0 xs).2.getD n false) := rfl
      generalize (fil 0 xs).2.getD n false = tk at *
      obtain ⟨x, hxx⟩ : ∃ x, xs.getD n za = x := ⟨_, rfl⟩
      rw [hxx] at c0 c1 c2 c3 c4' c5 hbs
      obtain ⟨xkd, xht, xsq, xc, xk, xv⟩ := x
      dsimp only at c0 c1 c2 c3 c4' c5
      obtain ⟨⟨⟨y1, y2, y3, y4⟩, th⟩, hr⟩ : ∃ r, r = bst k q xs n := ⟨_, rfl⟩
      rw [← hr] at HK hbs ⊢
      dsimp only at HK ⊢
      have bA := box_below wr (.cells #[.int .i64 xkd, .int .i64 xht, .int .u64 xsq, .int .i64 xc, .string xk, .string xv] 42)
      have kA : Hid ((wr.alloc (.cells #[.int .i64 xkd, .int .i64 xht, .int .u64 xsq, .int .i64 xc, .string xk, .string xv] 42)).heap[gB]? = some (.cells #[.string y1, .int .u64 y2, .int .i64 y3, .string y4] 35)) := (bA.block gB (blk_lt HK.out)).trans HK.out
      have BA : Hid (Below gB W3 (wr.alloc (.cells #[.int .i64 xkd, .int .i64 xht, .int .u64 xsq, .int .i64 xc, .string xk, .string xv] 42))) := HB.out.trans (bA.mono (Nat.le_of_lt (blk_lt HK.out)))
      have d0 := cell_of kA.out 0 (.string y1) rfl
      have d1 := cell_of kA.out 1 (.int .u64 y2) rfl
      have d2 := cell_of kA.out 2 (.int .i64 y3) rfl
      have d3 := cell_of kA.out 3 (.string y4) rfl
      have f0 := fz_of kA.out 0
      have f1 := fz_of kA.out 1
      have f2 := fz_of kA.out 2
      have f3 := fz_of kA.out 3
      have dT : (wr.alloc (.cells #[.int .i64 xkd, .int .i64 xht, .int .u64 xsq, .int .i64 xc, .string xk, .string xv] 42)).cell? ⟨gb, n, none⟩ = some (.bool tk) := (bA.cell (block_lt_of_cell cT)).trans cT
      have hne : wr.heap.size ≠ gB := Nat.ne_of_gt (blk_lt HK.out)
      have hne' : gB ≠ wr.heap.size := Ne.symm hne
      have i1 : (n : Int) < (len : Int) := by omega
      replace hbs := hid hbs
      clear hA hat hR hxx hr bA HK cT hbl
      cases htk : tk with
      | false =>
        subst htk
        have hB : Hid (bst k q xs (n + 1) = (⟨y1, y2, y3, y4⟩, th)) := by
          show _ = _
          rw [hbs.out]
          unfold bstep; rw [if_pos (.inl rfl)]
        have K2 : Hid ((wr.alloc (.cells #[.int .i64 xkd, .int .i64 xht, .int .u64 xsq, .int .i64 xc, .string xk, .string xv] 42)).heap[gB]? = some (.cells (c4 (bst k q xs (n + 1)).1) 35)) := by
          rw [hB.out]; exact kA.out
        have T2 : Hid ((.bool th : Value) = .bool (bst k q xs (n + 1)).2) := by
          show _ = _
          rw [hB.out]
        go_wp2_with fail
        refine ⟨⟨n + 1, by omega, by first | rfl | go_num, T2.out, K2, BA⟩, ?_⟩
        simp only [intOf]; omega
      | true =>
        subst htk
        by_cases hq : q < xsq
        · have hB : Hid (bst k q xs (n + 1) = (⟨y1, y2, y3, y4⟩, th)) := by
            show _ = _
            rw [hbs.out]
            unfold bstep; rw [if_pos (.inr hq)]
          have K2 : Hid ((wr.alloc (.cells #[.int .i64 xkd, .int .i64 xht, .int .u64 xsq, .int .i64 xc, .string xk, .string xv] 42)).heap[gB]? = some (.cells (c4 (bst k q xs (n + 1)).1) 35)) := by
            rw [hB.out]; exact kA.out
          have T2 : Hid ((.bool th : Value) = .bool (bst k q xs (n + 1)).2) := by
            show _ = _
            rw [hB.out]
          go_wp2_with fail
          refine ⟨⟨n + 1, by omega, by first | rfl | go_num, T2.out, K2, BA⟩, ?_⟩
          simp only [intOf]; omega
        · by_cases hc : xc = 2
          · have hc1 : (xc == 2) = true := by simp [hc]
            have hc2 : (xc != 2) = false := by simp [hc]
            replace hc := hid hc
            cases h1 : Op.bytesLess k.toList xk.toList with
            | true =>
              have hB : Hid (bst k q xs (n + 1) = (⟨y1, y2, y3, y4⟩, th)) := by
                show _ = _
                rw [hbs.out]
                unfold bstep; rw [if_neg (by simp; omega)]; unfold bst2 bst1 tkE tkT lt; simp [h1, hc.out]
              have K2 : Hid ((wr.alloc (.cells #[.int .i64 xkd, .int .i64 xht, .int .u64 xsq, .int .i64 xc, .string xk, .string xv] 42)).heap[gB]? = some (.cells (c4 (bst k q xs (n + 1)).1) 35)) := by
                rw [hB.out]; exact kA.out
              have T2 : Hid ((.bool th : Value) = .bool (bst k q xs (n + 1)).2) := by
                show _ = _
                rw [hB.out]
              go_wp2_with fail
              refine ⟨⟨n + 1, by omega, by first | rfl | go_num, T2.out, K2, BA⟩, ?_⟩
              simp only [intOf]; omega
            | false =>
              cases h2 : Op.bytesLess k.toList xv.toList with
              | false =>
                have hB : Hid (bst k q xs (n + 1) = (⟨y1, y2, y3, y4⟩, th)) := by
                  show _ = _
                  rw [hbs.out]
                  unfold bstep; rw [if_neg (by simp; omega)]; unfold bst2 bst1 tkE tkT lt; simp [h1, h2, hc.out]
                have K2 : Hid ((wr.alloc (.cells #[.int .i64 xkd, .int .i64 xht, .int .u64 xsq, .int .i64 xc, .string xk, .string xv] 42)).heap[gB]? = some (.cells (c4 (bst k q xs (n + 1)).1) 35)) := by
                  rw [hB.out]; exact kA.out
                have T2 : Hid ((.bool th : Value) = .bool (bst k q xs (n + 1)).2) := by
                  show _ = _
                  rw [hB.out]
                go_wp2_with fail
                refine ⟨⟨n + 1, by omega, by first | rfl | go_num, T2.out, K2, BA⟩, ?_⟩
                simp only [intOf]; omega
              | true =>
                cases hth : th with
                | false =>
                  subst hth
                  have hB : Hid (bst k q xs (n + 1) = (⟨k, xsq, 2, ⟨#[]⟩⟩, true)) := by
                    show _ = _
                    rw [hbs.out]
                    unfold bstep; rw [if_neg (by simp; omega)]; unfold bst2 bst1 tkE tkT lt; simp [h1, h2, hc.out]
                  have K2 : Hid ((((((wr.alloc (.cells #[.int .i64 xkd, .int .i64 xht, .int .u64 xsq, .int .i64 xc, .string xk, .string xv] 42)).setCell ⟨gB, 0, none⟩ (.string k)).setCell ⟨gB, 1, none⟩ (.int .u64 xsq)).setCell ⟨gB, 2, none⟩ (.int .i64 2)).setCell ⟨gB, 3, none⟩ (.string ⟨#[]⟩)).heap[gB]? = some (.cells (c4 (bst k q xs (n + 1)).1) 35)) := by
                    rw [hB.out]
                    exact set_of (set_of (set_of (set_of kA.out 0 (.string k)) 1 (.int .u64 xsq)) 2 (.int .i64 2)) 3 (.string ⟨#[]⟩)
                  have B2 : Hid (Below gB W3 (((((wr.alloc (.cells #[.int .i64 xkd, .int .i64 xht, .int .u64 xsq, .int .i64 xc, .string xk, .string xv] 42)).setCell ⟨gB, 0, none⟩ (.string k)).setCell ⟨gB, 1, none⟩ (.int .u64 xsq)).setCell ⟨gB, 2, none⟩ (.int .i64 2)).setCell ⟨gB, 3, none⟩ (.string ⟨#[]⟩))) := (((BA.out.setCell (p := ⟨gB, 0, none⟩) (Nat.le_refl _) _).setCell (p := ⟨gB, 1, none⟩) (Nat.le_refl _) _).setCell (p := ⟨gB, 2, none⟩) (Nat.le_refl _) _).setCell (p := ⟨gB, 3, none⟩) (Nat.le_refl _) _
                  have T2 : Hid ((.bool true : Value) = .bool (bst k q xs (n + 1)).2) := by
                    show _ = _
                    rw [hB.out]
                  go_wp2_with fail
                  refine ⟨⟨n + 1, by omega, by first | rfl | go_num, T2.out, K2, B2⟩, ?_⟩
                  simp only [intOf]; omega
                | true =>
                  subst hth
                  by_cases h3 : y2 < xsq
                  · have hB : Hid (bst k q xs (n + 1) = (⟨k, xsq, 2, ⟨#[]⟩⟩, true)) := by
                      show _ = _
                      rw [hbs.out]
                      unfold bstep; rw [if_neg (by simp; omega)]; unfold bst2 bst1 tkE tkT lt; simp [h1, h2, h3, hc.out]
                    have K2 : Hid ((((((wr.alloc (.cells #[.int .i64 xkd, .int .i64 xht, .int .u64 xsq, .int .i64 xc, .string xk, .string xv] 42)).setCell ⟨gB, 0, none⟩ (.string k)).setCell ⟨gB, 1, none⟩ (.int .u64 xsq)).setCell ⟨gB, 2, none⟩ (.int .i64 2)).setCell ⟨gB, 3, none⟩ (.string ⟨#[]⟩)).heap[gB]? = some (.cells (c4 (bst k q xs (n + 1)).1) 35)) := by
                      rw [hB.out]
                      exact set_of (set_of (set_of (set_of kA.out 0 (.string k)) 1 (.int .u64 xsq)) 2 (.int .i64 2)) 3 (.string ⟨#[]⟩)
                    have B2 : Hid (Below gB W3 (((((wr.alloc (.cells #[.int .i64 xkd, .int .i64 xht, .int .u64 xsq, .int .i64 xc, .string xk, .string xv] 42)).setCell ⟨gB, 0, none⟩ (.string k)).setCell ⟨gB, 1, none⟩ (.int .u64 xsq)).setCell ⟨gB, 2, none⟩ (.int .i64 2)).setCell ⟨gB, 3, none⟩ (.string ⟨#[]⟩))) := (((BA.out.setCell (p := ⟨gB, 0, none⟩) (Nat.le_refl _) _).setCell (p := ⟨gB, 1, none⟩) (Nat.le_refl _) _).setCell (p := ⟨gB, 2, none⟩) (Nat.le_refl _) _).setCell (p := ⟨gB, 3, none⟩) (Nat.le_refl _) _
                    have T2 : Hid ((.bool true : Value) = .bool (bst k q xs (n + 1)).2) := by
                      show _ = _
                      rw [hB.out]
                    go_wp2_with fail
                    refine ⟨⟨n + 1, by omega, by first | rfl | go_num, T2.out, K2, B2⟩, ?_⟩
                    simp only [intOf]; omega
                  · have hB : Hid (bst k q xs (n + 1) = (⟨y1, y2, y3, y4⟩, true)) := by
                      show _ = _
                      rw [hbs.out]
                      unfold bstep; rw [if_neg (by simp; omega)]; unfold bst2 bst1 tkE tkT lt; simp [h1, h2, h3, hc.out]
                    have K2 : Hid ((wr.alloc (.cells #[.int .i64 xkd, .int .i64 xht, .int .u64 xsq, .int .i64 xc, .string xk, .string xv] 42)).heap[gB]? = some (.cells (c4 (bst k q xs (n + 1)).1) 35)) := by
                      rw [hB.out]; exact kA.out
                    have T2 : Hid ((.bool true : Value) = .bool (bst k q xs (n + 1)).2) := by
                      show _ = _
                      rw [hB.out]
                    go_wp2_with fail
                    refine ⟨⟨n + 1, by omega, by first | rfl | go_num, T2.out, K2, BA⟩, ?_⟩
                    simp only [intOf]; omega
          · have hc1 : (xc == 2) = false := by simp [hc]
            have hc2 : (xc != 2) = true := by simp [hc]
            by_cases hk : xk = k
            · have e1 : (xk.toList == k.toList) = true := text_eq hk
              have e2 : xk.data.toList = k.data.toList := by rw [hk]
              replace hk := hid hk
              cases hth : th with
              | false =>
                subst hth
                have hB : Hid (bst k q xs (n + 1) = (⟨k, xsq, xc, xv⟩, true)) := by
                  show _ = _
                  rw [hbs.out]
                  unfold bstep; rw [if_neg (by simp; omega)]; unfold bst2 bst1 tkE tkT; simp [e2, hc]
                have K2 : Hid ((((((wr.alloc (.cells #[.int .i64 xkd, .int .i64 xht, .int .u64 xsq, .int .i64 xc, .string xk, .string xv] 42)).setCell ⟨gB, 0, none⟩ (.string k)).setCell ⟨gB, 1, none⟩ (.int .u64 xsq)).setCell ⟨gB, 2, none⟩ (.int .i64 xc)).setCell ⟨gB, 3, none⟩ (.string xv)).heap[gB]? = some (.cells (c4 (bst k q xs (n + 1)).1) 35)) := by
                  rw [hB.out]
                  exact set_of (set_of (set_of (set_of kA.out 0 (.string k)) 1 (.int .u64 xsq)) 2 (.int .i64 xc)) 3 (.string xv)
                have B2 : Hid (Below gB W3 (((((wr.alloc (.cells #[.int .i64 xkd, .int .i64 xht, .int .u64 xsq, .int .i64 xc, .string xk, .string xv] 42)).setCell ⟨gB, 0, none⟩ (.string k)).setCell ⟨gB, 1, none⟩ (.int .u64 xsq)).setCell ⟨gB, 2, none⟩ (.int .i64 xc)).setCell ⟨gB, 3, none⟩ (.string xv))) := (((BA.out.setCell (p := ⟨gB, 0, none⟩) (Nat.le_refl _) _).setCell (p := ⟨gB, 1, none⟩) (Nat.le_refl _) _).setCell (p := ⟨gB, 2, none⟩) (Nat.le_refl _) _).setCell (p := ⟨gB, 3, none⟩) (Nat.le_refl _) _
                have T2 : Hid ((.bool true : Value) = .bool (bst k q xs (n + 1)).2) := by
                  show _ = _
                  rw [hB.out]
                go_wp2_with fail
                refine ⟨⟨n + 1, by omega, by first | rfl | go_num, T2.out, K2, B2⟩, ?_⟩
                simp only [intOf]; omega
              | true =>
                subst hth
                by_cases h3 : y2 < xsq
                · have hB : Hid (bst k q xs (n + 1) = (⟨k, xsq, xc, xv⟩, true)) := by
                    show _ = _
                    rw [hbs.out]
                    unfold bstep; rw [if_neg (by simp; omega)]; unfold bst2 bst1 tkE tkT; simp [e2, hc, h3]
                  have K2 : Hid ((((((wr.alloc (.cells #[.int .i64 xkd, .int .i64 xht, .int .u64 xsq, .int .i64 xc, .string xk, .string xv] 42)).setCell ⟨gB, 0, none⟩ (.string k)).setCell ⟨gB, 1, none⟩ (.int .u64 xsq)).setCell ⟨gB, 2, none⟩ (.int .i64 xc)).setCell ⟨gB, 3, none⟩ (.string xv)).heap[gB]? = some (.cells (c4 (bst k q xs (n + 1)).1) 35)) := by
                    rw [hB.out]
                    exact set_of (set_of (set_of (set_of kA.out 0 (.string k)) 1 (.int .u64 xsq)) 2 (.int .i64 xc)) 3 (.string xv)
                  have B2 : Hid (Below gB W3 (((((wr.alloc (.cells #[.int .i64 xkd, .int .i64 xht, .int .u64 xsq, .int .i64 xc, .string xk, .string xv] 42)).setCell ⟨gB, 0, none⟩ (.string k)).setCell ⟨gB, 1, none⟩ (.int .u64 xsq)).setCell ⟨gB, 2, none⟩ (.int .i64 xc)).setCell ⟨gB, 3, none⟩ (.string xv))) := (((BA.out.setCell (p := ⟨gB, 0, none⟩) (Nat.le_refl _) _).setCell (p := ⟨gB, 1, none⟩) (Nat.le_refl _) _).setCell (p := ⟨gB, 2, none⟩) (Nat.le_refl _) _).setCell (p := ⟨gB, 3, none⟩) (Nat.le_refl _) _
                  have T2 : Hid ((.bool true : Value) = .bool (bst k q xs (n + 1)).2) := by
                    show _ = _
                    rw [hB.out]
                  go_wp2_with fail
                  refine ⟨⟨n + 1, by omega, by first | rfl | go_num, T2.out, K2, B2⟩, ?_⟩
                  simp only [intOf]; omega
                · by_cases h4 : xsq = y2
                  · have f4 : (xsq == y2) = true := by simpa using h4
                    by_cases h5 : y3 = 2
                    · have f5 : (y3 == 2) = true := by simpa using h5
                      replace h4 := hid h4
                      replace h5 := hid h5
                      have hB : Hid (bst k q xs (n + 1) = (⟨k, xsq, xc, xv⟩, true)) := by
                        show _ = _
                        rw [hbs.out]
                        unfold bstep; rw [if_neg (by simp; omega)]; unfold bst2 bst1 tkE tkT; simp [e2, hc, h3, h4.out, h5.out]
                      have K2 : Hid ((((((wr.alloc (.cells #[.int .i64 xkd, .int .i64 xht, .int .u64 xsq, .int .i64 xc, .string xk, .string xv] 42)).setCell ⟨gB, 0, none⟩ (.string k)).setCell ⟨gB, 1, none⟩ (.int .u64 xsq)).setCell ⟨gB, 2, none⟩ (.int .i64 xc)).setCell ⟨gB, 3, none⟩ (.string xv)).heap[gB]? = some (.cells (c4 (bst k q xs (n + 1)).1) 35)) := by
                        rw [hB.out]
                        exact set_of (set_of (set_of (set_of kA.out 0 (.string k)) 1 (.int .u64 xsq)) 2 (.int .i64 xc)) 3 (.string xv)
                      have B2 : Hid (Below gB W3 (((((wr.alloc (.cells #[.int .i64 xkd, .int .i64 xht, .int .u64 xsq, .int .i64 xc, .string xk, .string xv] 42)).setCell ⟨gB, 0, none⟩ (.string k)).setCell ⟨gB, 1, none⟩ (.int .u64 xsq)).setCell ⟨gB, 2, none⟩ (.int .i64 xc)).setCell ⟨gB, 3, none⟩ (.string xv))) := (((BA.out.setCell (p := ⟨gB, 0, none⟩) (Nat.le_refl _) _).setCell (p := ⟨gB, 1, none⟩) (Nat.le_refl _) _).setCell (p := ⟨gB, 2, none⟩) (Nat.le_refl _) _).setCell (p := ⟨gB, 3, none⟩) (Nat.le_refl _) _
                      have T2 : Hid ((.bool true : Value) = .bool (bst k q xs (n + 1)).2) := by
                        show _ = _
                        rw [hB.out]
                      go_wp2_with fail
                      refine ⟨⟨n + 1, by omega, by first | rfl | go_num, T2.out, K2, B2⟩, ?_⟩
                      simp only [intOf]; omega
                    · have f5 : (y3 == 2) = false := by simpa using h5
                      replace h4 := hid h4
                      by_cases h6 : y3 < xc
                      · have hB : Hid (bst k q xs (n + 1) = (⟨k, xsq, xc, xv⟩, true)) := by
                          show _ = _
                          rw [hbs.out]
                          unfold bstep; rw [if_neg (by simp; omega)]; unfold bst2 bst1 tkE tkT; simp [e2, hc, h3, h4.out, h5, h6]
                        have K2 : Hid ((((((wr.alloc (.cells #[.int .i64 xkd, .int .i64 xht, .int .u64 xsq, .int .i64 xc, .string xk, .string xv] 42)).setCell ⟨gB, 0, none⟩ (.string k)).setCell ⟨gB, 1, none⟩ (.int .u64 xsq)).setCell ⟨gB, 2, none⟩ (.int .i64 xc)).setCell ⟨gB, 3, none⟩ (.string xv)).heap[gB]? = some (.cells (c4 (bst k q xs (n + 1)).1) 35)) := by
                          rw [hB.out]
                          exact set_of (set_of (set_of (set_of kA.out 0 (.string k)) 1 (.int .u64 xsq)) 2 (.int .i64 xc)) 3 (.string xv)
                        have B2 : Hid (Below gB W3 (((((wr.alloc (.cells #[.int .i64 xkd, .int .i64 xht, .int .u64 xsq, .int .i64 xc, .string xk, .string xv] 42)).setCell ⟨gB, 0, none⟩ (.string k)).setCell ⟨gB, 1, none⟩ (.int .u64 xsq)).setCell ⟨gB, 2, none⟩ (.int .i64 xc)).setCell ⟨gB, 3, none⟩ (.string xv))) := (((BA.out.setCell (p := ⟨gB, 0, none⟩) (Nat.le_refl _) _).setCell (p := ⟨gB, 1, none⟩) (Nat.le_refl _) _).setCell (p := ⟨gB, 2, none⟩) (Nat.le_refl _) _).setCell (p := ⟨gB, 3, none⟩) (Nat.le_refl _) _
                        have T2 : Hid ((.bool true : Value) = .bool (bst k q xs (n + 1)).2) := by
                          show _ = _
                          rw [hB.out]
                        go_wp2_with fail
                        refine ⟨⟨n + 1, by omega, by first | rfl | go_num, T2.out, K2, B2⟩, ?_⟩
                        simp only [intOf]; omega
                      · have hB : Hid (bst k q xs (n + 1) = (⟨y1, y2, y3, y4⟩, true)) := by
                          show _ = _
                          rw [hbs.out]
                          unfold bstep; rw [if_neg (by simp; omega)]; unfold bst2 bst1 tkE tkT; simp [e2, hc, h3, h4.out, h5, h6]
                        have K2 : Hid ((wr.alloc (.cells #[.int .i64 xkd, .int .i64 xht, .int .u64 xsq, .int .i64 xc, .string xk, .string xv] 42)).heap[gB]? = some (.cells (c4 (bst k q xs (n + 1)).1) 35)) := by
                          rw [hB.out]; exact kA.out
                        have T2 : Hid ((.bool true : Value) = .bool (bst k q xs (n + 1)).2) := by
                          show _ = _
                          rw [hB.out]
                        go_wp2_with fail
                        refine ⟨⟨n + 1, by omega, by first | rfl | go_num, T2.out, K2, BA⟩, ?_⟩
                        simp only [intOf]; omega
                  · have f4 : (xsq == y2) = false := by simpa using h4
                    have hB : Hid (bst k q xs (n + 1) = (⟨y1, y2, y3, y4⟩, true)) := by
                      show _ = _
                      rw [hbs.out]
                      unfold bstep; rw [if_neg (by simp; omega)]; unfold bst2 bst1 tkE tkT; simp [e2, hc, h3, h4]
                    have K2 : Hid ((wr.alloc (.cells #[.int .i64 xkd, .int .i64 xht, .int .u64 xsq, .int .i64 xc, .string xk, .string xv] 42)).heap[gB]? = some (.cells (c4 (bst k q xs (n + 1)).1) 35)) := by
                      rw [hB.out]; exact kA.out
                    have T2 : Hid ((.bool true : Value) = .bool (bst k q xs (n + 1)).2) := by
                      show _ = _
                      rw [hB.out]
                    go_wp2_with fail
                    refine ⟨⟨n + 1, by omega, by first | rfl | go_num, T2.out, K2, BA⟩, ?_⟩
                    simp only [intOf]; omega
            · have e1 : (xk.toList == k.toList) = false := text_ne hk
              have e2 : ¬ xk.data.toList = k.data.toList := fun h => hk (An.data_inj h)
              have hB : Hid (bst k q xs (n + 1) = (⟨y1, y2, y3, y4⟩, th)) := by
                show _ = _
                rw [hbs.out]
                unfold bstep; rw [if_neg (by simp; omega)]; unfold bst2 bst1 tkE tkT; simp [e2, hc]
              have K2 : Hid ((wr.alloc (.cells #[.int .i64 xkd, .int .i64 xht, .int .u64 xsq, .int .i64 xc, .string xk, .string xv] 42)).heap[gB]? = some (.cells (c4 (bst k q xs (n + 1)).1) 35)) := by
                rw [hB.out]; exact kA.out
              have T2 : Hid ((.bool th : Value) = .bool (bst k q xs (n + 1)).2) := by
                show _ = _
                rw [hB.out]
              go_wp2_with fail
              refine ⟨⟨n + 1, by omega, by first | rfl | go_num, T2.out, K2, BA⟩, ?_⟩
              simp only [intOf]; omega
    · have hnl : n = len := by omega
      subst hnl
      obtain ⟨_, hT, _, hBw⟩ := H3.out wr HB.out
      have hts := fil_ts 0 n xs hxl.out
      have HG := get_any _ g P _ k q wr hT (by omega) hk.out
      rw [seen_all xs g k q, hxl.out] at HG
      obtain ⟨⟨⟨y1, y2, y3, y4⟩, th⟩, hr⟩ : ∃ r, r = bst k q xs n := ⟨_, rfl⟩
      rw [← hr] at HG HK ⊢
      unfold c4 at HG HK
      dsimp only at HG HK ⊢
      replace HG := hid HG
      replace hBw := hid hBw
      clear hT H3 hr hts
      go_wp2_with fail
      refine HG.out.mono ?_
      rintro e w5 ⟨rfl, b5⟩
      have b6 := box_below w5 (.cells #[.string y1, .int .u64 y2, .int .i64 y3, .string y4] 35)
      have k6 := (b6.block gB (Nat.lt_of_lt_of_le (blk_lt HK.out) b5.size)).trans ((b5.block gB (blk_lt HK.out)).trans HK.out)
      have BF : Hid (Below w.heap.size w (w5.alloc (.cells #[.string y1, .int .u64 y2, .int .i64 y3, .string y4] 35))) := hBw.out.trans ((b5.trans (b6.mono b5.size)).mono hBw.out.size)
      have d0 := cell_of k6 0 (.string y1) rfl
      have d1 := cell_of k6 1 (.int .u64 y2) rfl
      have d2 := cell_of k6 2 (.int .i64 y3) rfl
      have d3 := cell_of k6 3 (.string y4) rfl
      clear b5 b6 k6 HG
      go_wp2_with fail
      go_ret
      refine ⟨?_, BF.out⟩
      first | rfl | simp
end Go.Proofs.Ytefihoohdaegeab.Ms

/- Encode of the document's definition, where nothing is refused. -/
import Derived.Test.YtmceanfgcehfeabEc
namespace Go.Proofs.Ytmceanfgcehfeab.En
open Go.ChangeShapes Go.WideShapes Go.ChangeAt Go.RowKit
open Go.Proofs.Ytmceanfgcehfeab.By
open Go.Proofs.Ytmceanfgcehfeab.Ob
set_option linter.unusedVariables false

set_option maxHeartbeats 4000000 in
theorem rencode_ok (s : Int) (a : Option Addr) (len cap : Nat) (xs : List O) (w : World) (H : Ops w a len cap xs) (hs : 0 ≤ s ∧ s ≤ 18446744073709551615) (hE : encE s xs = 0) :
    Calls Try.prog 14 #[.int .u64 s, .slice a len cap] w fun e w' => ∃ g c : Nat, e = .returned (.tuple #[.slice (some ⟨g, 0, none⟩) (bsz xs) c, .int .i64 0]) ∧ Row w' w.heap.size g (bsz xs) c (enc s xs) ∧ Below w.heap.size w w' := by
  obtain ⟨i0, hi, hz0, hz1, hz2⟩ := info_parts info5
  obtain ⟨hc, hf⟩ := encE_ok hE
  obtain ⟨p1, p2, p3, p4⟩ := chk_parts hc
  have hx := H.1
  have hlen : len ≤ 4096 := by omega
  have HM : Hid (∀ x ∈ xs, may x = true) := all_may xs p2
  have FI := rcheck_any a len cap xs w H (by omega)
  rw [p4] at FI
  have HF := hid FI
  rw [hx] at hf
  have HFT : Hid (∀ w, Calls Try.prog 33 #[.int .u64 s, .int .i64 len] w fun e w' => e = .returned (.bool true) ∧ w' = w) := fun w => by
    have := rfit_any s len w hs (by omega)
    rw [hf] at this
    exact this
  obtain ⟨N, hN⟩ : ∃ N, N = bsz xs := ⟨_, rfl⟩
  have hN12 : 12 ≤ N := by rw [hN]; unfold bsz; omega
  have hN20 : N ≤ 1048576 := by omega
  have HN : Hid (N = bsz xs) := hN
  rw [← hN]
  have HE : Hid (enc s xs = (lb 8 s ++ lb 4 len) ++ obs xs) := by show _ = _; unfold enc; rw [hx, List.append_assoc]
  have HH := hid H
  have HX := hid hx
  have hbig : ∀ k, k ≤ xs.length → osum (xs.take k) + 12 ≤ N := by
    intro k hk
    have e : osum xs = osum (xs.take k) + osum (xs.drop k) := by rw [← osum_append, List.take_append_drop]
    rw [hN]; unfold bsz; omega
  have HBig := hid hbig
  clear FI hc hf p1 p2 p3 p4 hN hE hx H hbig
  go_enter Try.func14, Try.ntmps14
  go_wp2_with fail
  refine HF.out.mono ?_
  rintro e w1 ⟨rfl, b1⟩
  have HB1 := hid b1
  have z1 := b1.size
  clear b1 HF
  go_wp2_with fail
  refine (HFT.out _).mono ?_
  rintro e w' ⟨rfl, rfl⟩
  go_wp2_with fail
  refine (rfixed_any (.slice none 0 0) 0 [] s 8 w.heap.size w' (World.ownsRow_nil _ _ _ _) z1 hs (by omega) (by omega)).mono ?_
  rintro e w2 ⟨v2, rfl, O2, b2⟩
  have HO2 : Hid (Own w2 w.heap.size v2 8 (lb 8 s)) := O2
  have HB2 : Hid (Below w.heap.size w w2) := HB1.out.trans b2
  have z2 := HB2.out.size
  clear O2 b2 HB1
  go_wp2_with fail
  refine (rfixed_any v2 8 (lb 8 s) len 4 w.heap.size w2 HO2.out z2 (by omega) (by omega) (by omega)).mono ?_
  rintro e w6 ⟨v6, rfl, O6, b6⟩
  have HO6 : Hid (Own w6 w.heap.size v6 12 (lb 8 s ++ lb 4 len)) := O6
  have HB6 : Hid (Below w.heap.size w w6) := HB2.out.trans b6
  clear O6 b6 HB2 HO2
  go_wp2_with fail
  go_loopw [8, 9] (fun b i wr => ∃ k z : Nat, i = .int .i64 k ∧ k ≤ len ∧ Hid (z = 12 + osum (xs.take k)) ∧ Hid (Own wr w.heap.size b z ((lb 8 s ++ lb 4 len) ++ obs (xs.take k))) ∧ Hid (Below w.heap.size w wr)) (fun _ i _ => len - (intOf i).toNat)
  case atStart => exact ⟨0, 12, rfl, by omega, rfl, by show Own _ _ _ _ _; simpa [obs] using HO6.out, HB6⟩
  case round =>
    obtain ⟨k, z, rfl, hk, hz, hrow, hbel⟩ := hrel
    clear HO6 HB6
    by_cases hlt : k < len
    · cases a with
      | none => have := (HH.out.2.2.1 rfl).1; omega
      | some ad =>
        obtain ⟨b, off, sp⟩ := ad
        obtain ⟨rfl, hat⟩ := HH.out.2.2.2.2 b off sp rfl (by omega)
        have hat0 := hat k hlt
        have hkl : k < xs.length := by have := HX.out; omega
        have hT := osum_take xs k hkl
        have hT2 := obs_take xs k hkl
        have hms := HM.out _ (get_mem hkl)
        have hzN : z ≤ N := by have := hz.out; have := HBig.out k (by omega); omega
        generalize xs.getD k zo = x at hat0 hT hT2 hms
        obtain ⟨xc, xk, xv⟩ := x
        have hAT : Hid (∀ W, Below w.heap.size w W → At3 W b (off + k * 3) ⟨xc, xk, xv⟩) := fun W h => hat0.later h
        obtain ⟨a1, a2, a3⟩ := hAT.out _ hbel.out
        simp only at a1 a2 a3
        obtain ⟨hk1, hk2, hv2, hc0, hc2⟩ := may_sizes hms
        simp only at hk1 hk2 hv2 hc0 hc2
        have lk : tsz xk.size ≤ 2000 := by have := Vb.vb_le xk.size; unfold tsz; omega
        have ik0 : (k : Int) < (len : Int) := by omega
        have hlc := HH.out.2.1
        have zr := hbel.out.size
        have HZ : Hid (z + osz ⟨xc, xk, xv⟩ = 12 + osum (xs.take (k + 1))) := by show _ = _; rw [hz.out, hT]; omega
        have HT2 := hid hT2
        clear hT hT2 hms hkl hz hat hat0
        go_wp2_with (at_builtin; refine wpList_append_own _ rfl _ _ 33 rfl w.heap.size 5 i0 (.int .u8 0) 1 1 Try.underlying33 hi hz0 hz1 hz2 rfl (by decide) _ _ _ rfl (World.ownsRow.alloc hrow.out _) ⟨wr.heap.size, 0, none⟩ 1 1 [.int .u8 xc] rfl rfl ?c1 ?c2 ?c3 ?c4 ?c5 ?_)
        case c1 => exact cell_one_new _ _ _
        case c2 => first | rfl | (intro u hu; simp at hu; subst hu; rfl)
        case c3 => unfold maxLen; omega
        case c4 => omega
        case c5 => simp; omega
        intro v7 w7 own7 g7 _
        have O7 : Own w7 w.heap.size v7 (z + 1) (((lb 8 s ++ lb 4 len) ++ obs (xs.take k)) ++ [xc]) := by unfold Own; simpa using own7
        have HO7 := hid O7
        have HB7 : Hid (Below w.heap.size w w7) := below_own (hbel.out.alloc (by have := hbel.out.size; omega) _) (World.ownsRow.alloc hrow.out _) g7 (by have := hbel.out.size; simp; omega)
        have z7 := HB7.out.size
        obtain ⟨b1, b2, b3⟩ := hAT.out _ HB7.out
        simp only at b1 b2 b3
        clear own7 g7 O7 hrow hbel a1 a2 a3
        go_wp2_with fail
        refine (rtext_any v7 (z + 1) _ xk w.heap.size w7 HO7.out z7 (by omega) (by omega)).mono ?_
        rintro e w8 ⟨v8, rfl, O8, b8⟩
        have HO8 := hid O8
        have HB8 : Hid (Below w.heap.size w w8) := HB7.out.trans b8
        have z8 := HB8.out.size
        obtain ⟨d1, d2, d3⟩ := hAT.out _ HB8.out
        simp only at d1 d2 d3
        clear O8 b8 HO7 HB7 b1 b2 b3
        by_cases c0 : xc = 0
        · have e0 : (xc == 0) = true := by simp [c0]
          have e1 : (xc != 0) = false := by simp [c0]
          have HOB : Hid (ob ⟨xc, xk, xv⟩ = [xc] ++ tb xk) := by show _ = _; unfold ob; rw [if_pos c0]; simp
          have HOZ : Hid (osz ⟨xc, xk, xv⟩ = 1 + tsz xk.size) := by show _ = _; unfold osz; rw [if_pos c0]; rfl
          have HOF : Hid (Own w8 w.heap.size v8 (z + osz ⟨xc, xk, xv⟩) ((lb 8 s ++ lb 4 len) ++ obs (xs.take (k + 1)))) := by
            show Own _ _ _ _ _
            rw [HT2.out, HOB.out, HOZ.out]
            have := HO8.out
            simp only [List.append_assoc, Nat.add_assoc] at this ⊢
            exact this
          clear HO8 HOB HOZ HT2 c0
          go_wp2_with fail
          go_roundw
          case rel => exact ⟨k + 1, _, by go_num, by omega, HZ, HOF, HB8⟩
          case measure => simp [intOf]; omega
        · have e0 : (xc == 0) = false := by simp [c0]
          have e1 : (xc != 0) = true := by simp [c0]
          have HOB : Hid (ob ⟨xc, xk, xv⟩ = [xc] ++ (tb xk ++ tb xv)) := by show _ = _; unfold ob; rw [if_neg c0]; simp
          have HOZ : Hid (osz ⟨xc, xk, xv⟩ = 1 + tsz xk.size + tsz xv.size) := by show _ = _; unfold osz; rw [if_neg c0]
          clear c0
          go_wp2_with fail
          refine (rtext_any v8 _ _ xv w.heap.size w8 HO8.out z8 (by omega) (by omega)).mono ?_
          rintro e w9 ⟨v9, rfl, O9, b9⟩
          have HB9 : Hid (Below w.heap.size w w9) := HB8.out.trans b9
          have HOF : Hid (Own w9 w.heap.size v9 (z + osz ⟨xc, xk, xv⟩) ((lb 8 s ++ lb 4 len) ++ obs (xs.take (k + 1)))) := by
            show Own _ _ _ _ _
            rw [HT2.out, HOB.out, HOZ.out]
            simp only [List.append_assoc, Nat.add_assoc] at O9 ⊢
            exact O9
          clear O9 b9 HO8 HB8 HOB HOZ HT2 d1 d2 d3
          go_wp2_with fail
          go_roundw
          case rel => exact ⟨k + 1, _, by go_num, by omega, HZ, HOF, HB9⟩
          case measure => simp [intOf]; omega
    · have hkl : k = xs.length := by have := HX.out; omega
      have R0 := hrow.out
      rw [hkl, List.take_length, ← HE.out] at R0
      have hzN : z = N := by have := hz.out; rw [hkl, List.take_length] at this; rw [HN.out]; unfold bsz; omega
      rw [hzN] at R0
      obtain ⟨g, c, hv, R1⟩ := By.shape R0 (by omega)
      rw [hv]
      have HR1 := hid R1
      clear R0 R1 hrow hz hv hkl hzN
      go_wp2_with fail
      go_ret2
      exact ⟨g, c, rfl, HR1.out, hbel.out⟩
end Go.Proofs.Ytmceanfgcehfeab.En

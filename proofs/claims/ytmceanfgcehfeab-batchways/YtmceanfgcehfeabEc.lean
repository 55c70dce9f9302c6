/- Encode whole: by the program and by the document's definition. -/
import Derived.Test.YtmceanfgcehfeabEb
namespace Go.Proofs.Ytmceanfgcehfeab.En
open Go.ChangeShapes Go.WideShapes Go.ChangeAt Go.RowKit
open Go.Proofs.Ytmceanfgcehfeab.By
open Go.Proofs.Ytmceanfgcehfeab.Ob
set_option linter.unusedVariables false

theorem put64_nil (s : Int) (w : World) (hs : 0 ≤ s ∧ s ≤ 18446744073709551615) :
    Calls Try.prog 38 #[.slice none 0 0, .int .u64 s] w fun e w' => e = .returned (.slice (some ⟨w.heap.size, 0, none⟩) 8 8) ∧ Row w' w.heap.size w.heap.size 8 8 (lb 8 s) ∧ Below w.heap.size w w' := by
  refine (putf64_any none 0 0 [] s w (nil_bytes w) hs (by omega)).mono ?_
  rintro e w' ⟨rfl, R, b⟩
  exact ⟨rfl, R, b⟩
theorem put32_nil (s : Int) (w : World) (hs : 0 ≤ s ∧ s ≤ 4294967295) :
    Calls Try.prog 39 #[.slice none 0 0, .int .u32 s] w fun e w' => e = .returned (.slice (some ⟨w.heap.size, 0, none⟩) 4 4) ∧ Row w' w.heap.size w.heap.size 4 4 (lb 4 s) ∧ Below w.heap.size w w' := by
  refine (putf32_any none 0 0 [] s w (nil_bytes w) hs (by omega)).mono ?_
  rintro e w' ⟨rfl, R, b⟩
  exact ⟨rfl, R, b⟩
/-- The error that Encode tells. -/
def encE (s : Int) (xs : List O) : Int := if (chk xs).2 = 0 then (if fit s xs.length = true then 0 else 42) else (chk xs).2
theorem encE_ok {s : Int} {xs : List O} (h : encE s xs = 0) : (chk xs).2 = 0 ∧ fit s xs.length = true := by
  unfold encE at h
  split at h
  · next hc =>
    refine ⟨hc, ?_⟩
    split at h
    · assumption
    · simp at h
  · next hc => exact absurd h hc
theorem ret_ve {v : Value} {a b : Int} (h : a = b) : Ending.returned (.tuple #[v, .int .i64 a]) = .returned (.tuple #[v, .int .i64 b]) := by rw [h]
set_option maxHeartbeats 1000000 in
theorem encode_no (s : Int) (a : Option Addr) (len cap : Nat) (xs : List O) (w : World) (H : Ops w a len cap xs) (hl : len ≤ 140737488351232) (hs : 0 ≤ s ∧ s ≤ 18446744073709551615) (hE : encE s xs ≠ 0) :
    Calls Try.prog 20 #[.int .u64 s, .slice a len cap] w fun e w' => e = .returned (.tuple #[.slice none 0 0, .int .i64 (encE s xs)]) ∧ Below w.heap.size w w' := by
  have FI := size_any a len cap xs w H hl
  have hx := H.1
  by_cases h : (chk xs).2 = 0
  · have hf : fit s len = false := by
      unfold encE at hE
      rw [if_pos h, hx] at hE
      cases hf : fit s len with
      | false => rfl
      | true => rw [hf, if_pos rfl] at hE; exact absurd rfl hE
    have HR : Hid (42 = encE s xs) := by show _ = _; unfold encE; rw [if_pos h, hx, if_neg (by rw [hf]; simp)]
    obtain ⟨p1, p2, p3, p4⟩ := chk_parts h
    have hlen : len ≤ 4096 := by omega
    rw [show szr xs = ((bsz xs : Int), 0) from by unfold szr; rw [if_pos h]] at FI
    generalize bsz xs = N at FI
    have HF := hid FI
    have HFT : Hid (∀ w, Calls Try.prog 37 #[.int .u64 s, .int .i64 len] w fun e w' => e = .returned (.bool false) ∧ w' = w) := fun w => by
      have := fits_any s len w hs (by omega)
      rw [hf] at this
      exact this
    clear FI h p1 p2 p3 p4 hf hE hx H
    go_enter Try.func20, Try.ntmps20
    go_wp2_with fail
    refine HF.out.mono ?_
    rintro e w1 ⟨rfl, b1⟩
    go_wp2_with fail
    refine (HFT.out _).mono ?_
    rintro e w2 ⟨rfl, rfl⟩
    go_wp2_with fail
    go_ret2
    exact ⟨ret_ve HR.out, b1⟩
  · have HR : Hid ((chk xs).2 = encE s xs) := by show _ = _; unfold encE; rw [if_neg h]
    generalize hZ : chk xs = c at *
    obtain ⟨c1, c2⟩ := c
    simp only at h HR
    have d0 : (c2 == 0) = false := by simp [h]
    have d1 : (c2 != 0) = true := by simp [h]
    rw [show szr xs = (0, c2) from by unfold szr; rw [hZ, if_neg h]] at FI
    have HF := hid FI
    clear FI h hZ hE
    go_enter Try.func20, Try.ntmps20
    go_wp2_with fail
    refine HF.out.mono ?_
    rintro e w1 ⟨rfl, b1⟩
    go_wp2_with fail
    go_ret2
    exact ⟨ret_ve HR.out, b1⟩
set_option maxHeartbeats 1000000 in
theorem rencode_no (s : Int) (a : Option Addr) (len cap : Nat) (xs : List O) (w : World) (H : Ops w a len cap xs) (hl : len ≤ 140737488351232) (hs : 0 ≤ s ∧ s ≤ 18446744073709551615) (hE : encE s xs ≠ 0) :
    Calls Try.prog 14 #[.int .u64 s, .slice a len cap] w fun e w' => e = .returned (.tuple #[.slice none 0 0, .int .i64 (encE s xs)]) ∧ Below w.heap.size w w' := by
  have FI := rcheck_any a len cap xs w H hl
  have hx := H.1
  by_cases h : (chk xs).2 = 0
  · have hf : fit s len = false := by
      unfold encE at hE
      rw [if_pos h, hx] at hE
      cases hf : fit s len with
      | false => rfl
      | true => rw [hf, if_pos rfl] at hE; exact absurd rfl hE
    have HR : Hid (42 = encE s xs) := by show _ = _; unfold encE; rw [if_pos h, hx, if_neg (by rw [hf]; simp)]
    obtain ⟨p1, p2, p3, p4⟩ := chk_parts h
    have hlen : len ≤ 4096 := by omega
    rw [p4] at FI
    have HF := hid FI
    have HFT : Hid (∀ w, Calls Try.prog 33 #[.int .u64 s, .int .i64 len] w fun e w' => e = .returned (.bool false) ∧ w' = w) := fun w => by
      have := rfit_any s len w hs (by omega)
      rw [hf] at this
      exact this
    clear FI h p1 p2 p3 p4 hf hE hx H
    go_enter Try.func14, Try.ntmps14
    go_wp2_with fail
    refine HF.out.mono ?_
    rintro e w1 ⟨rfl, b1⟩
    go_wp2_with fail
    refine (HFT.out _).mono ?_
    rintro e w2 ⟨rfl, rfl⟩
    go_wp2_with fail
    go_ret2
    exact ⟨ret_ve HR.out, b1⟩
  · have HR : Hid ((chk xs).2 = encE s xs) := by show _ = _; unfold encE; rw [if_neg h]
    generalize hZ : chk xs = c at *
    obtain ⟨c1, c2⟩ := c
    simp only at h HR
    have d0 : (c2 == 0) = false := by simp [h]
    have d1 : (c2 != 0) = true := by simp [h]

    have HF := hid FI
    clear FI h hZ hE
    go_enter Try.func14, Try.ntmps14
    go_wp2_with fail
    refine HF.out.mono ?_
    rintro e w1 ⟨rfl, b1⟩
    go_wp2_with fail
    go_ret2
    exact ⟨ret_ve HR.out, b1⟩
set_option maxHeartbeats 4000000 in
theorem encode_ok (s : Int) (a : Option Addr) (len cap : Nat) (xs : List O) (w : World) (H : Ops w a len cap xs) (hs : 0 ≤ s ∧ s ≤ 18446744073709551615) (hE : encE s xs = 0) :
    Calls Try.prog 20 #[.int .u64 s, .slice a len cap] w fun e w' => ∃ g c : Nat, e = .returned (.tuple #[.slice (some ⟨g, 0, none⟩) (bsz xs) c, .int .i64 0]) ∧ Row w' w.heap.size g (bsz xs) c (enc s xs) ∧ Below w.heap.size w w' := by
  obtain ⟨i0, hi, hz0, hz1, hz2⟩ := info_parts info5
  obtain ⟨hc, hf⟩ := encE_ok hE
  obtain ⟨p1, p2, p3, p4⟩ := chk_parts hc
  have hx := H.1
  have hlen : len ≤ 4096 := by omega
  have HM : Hid (∀ x ∈ xs, may x = true) := all_may xs p2
  have FI := size_any a len cap xs w H (by omega)
  rw [show szr xs = ((bsz xs : Int), 0) from by unfold szr; rw [if_pos hc]] at FI
  have HF := hid FI
  rw [hx] at hf
  have HFT : Hid (∀ w, Calls Try.prog 37 #[.int .u64 s, .int .i64 len] w fun e w' => e = .returned (.bool true) ∧ w' = w) := fun w => by
    have := fits_any s len w hs (by omega)
    rw [hf] at this
    exact this
  obtain ⟨N, hN⟩ : ∃ N, N = bsz xs := ⟨_, rfl⟩
  have hN12 : 12 ≤ N := by rw [hN]; unfold bsz; omega
  have hN20 : N ≤ 1048576 := by omega
  have HN : Hid (N = bsz xs) := hN
  rw [← hN] at HF ⊢
  have HE : Hid (enc s xs = (lb 8 s ++ lb 4 len) ++ obs xs) := by show _ = _; unfold enc; rw [hx, List.append_assoc]
  have HH := hid H
  have HX := hid hx
  have hbig : ∀ k, k ≤ xs.length → osum (xs.take k) + 12 ≤ N := by
    intro k hk
    have e : osum xs = osum (xs.take k) + osum (xs.drop k) := by rw [← osum_append, List.take_append_drop]
    rw [hN]; unfold bsz; omega
  have HBig := hid hbig
  clear FI hc hf p1 p2 p3 p4 hN hE hx H hbig
  go_enter Try.func20, Try.ntmps20
  go_wp2_with fail
  refine HF.out.mono ?_
  rintro e w1 ⟨rfl, b1⟩
  have HB1 := hid b1
  have z1 := b1.size
  clear b1 HF
  go_wp2_with fail
  refine (HFT.out _).mono ?_
  rintro e w' ⟨rfl, rfl⟩
  go_wp2_with (at_make; refine wpList_make_own _ rfl _ _ 33 rfl w.heap.size 5 i0 (.int .u8 0) 1 Try.underlying33 hi hz0 hz1 .i64 .i64 _ N rfl rfl (by omega) (by rw [hz2]; omega) (by unfold maxLen; omega) z1 ?_)
  intro w2 own2 g2
  have O2 : Hid (Own w2 w.heap.size (.slice (some ⟨w'.heap.size, 0, none⟩) 0 N) 0 []) := own2
  have HB2 : Hid (Below w.heap.size w w2) := HB1.out.grown g2 z1 (by simp)
  have z2 := HB2.out.size
  clear own2 g2 HB1
  go_wp2_with fail
  refine (put64_nil s w2 hs).mono ?_
  rintro e w3 ⟨rfl, R3, b3⟩
  have HO3 := hid (O2.out.later b3)
  have HB3 : Hid (Below w.heap.size w w3) := HB2.out.trans (b3.mono z2)
  have HR3 := hid R3
  have z3 := HB3.out.size
  clear b3 R3 O2 HB2
  go_wp2_with (at_builtin; refine wpList_append_own _ rfl _ _ 33 rfl w.heap.size 5 i0 (.int .u8 0) 1 1 Try.underlying33 hi hz0 hz1 hz2 rfl (by decide) _ _ _ rfl HO3.out ⟨w2.heap.size, 0, none⟩ 8 8 ((lb 8 s).map (Value.int .u8)) rfl (by simp [lb_len]) (World.ownsRow.cells HR3.out (g := w2.heap.size) rfl) (one_cell _) ?c3 ?c4 ?c5 ?_)
  case c3 => unfold maxLen; omega
  case c4 => omega
  case c5 => omega
  intro v4 w4 own4 g4 _
  have HO4 : Hid (Own w4 w.heap.size v4 8 (lb 8 s)) := by show Own _ _ _ _ _; unfold Own; simpa using own4
  have HB4 : Hid (Below w.heap.size w w4) := HB3.out.grown g4 z3 (fun k hk => (World.ownsRow.lt HO3.out k hk).1)
  have z4 := HB4.out.size
  clear own4 g4 HO3 HB3 HR3
  go_wp2_with fail
  refine (put32_nil len w4 (by omega)).mono ?_
  rintro e w5 ⟨rfl, R5, b5⟩
  have HO5 := hid (HO4.out.later b5)
  have HB5 : Hid (Below w.heap.size w w5) := HB4.out.trans (b5.mono z4)
  have HR5 := hid R5
  have z5 := HB5.out.size
  clear b5 R5 HO4 HB4
  go_wp2_with (at_builtin; refine wpList_append_own _ rfl _ _ 33 rfl w.heap.size 5 i0 (.int .u8 0) 1 1 Try.underlying33 hi hz0 hz1 hz2 rfl (by decide) _ _ _ rfl HO5.out ⟨w4.heap.size, 0, none⟩ 4 4 ((lb 4 len).map (Value.int .u8)) rfl (by simp [lb_len]) (World.ownsRow.cells HR5.out (g := w4.heap.size) rfl) (one_cell _) ?d3 ?d4 ?d5 ?_)
  case d3 => unfold maxLen; omega
  case d4 => omega
  case d5 => omega
  intro v6 w6 own6 g6 _
  have HO6 : Hid (Own w6 w.heap.size v6 12 (lb 8 s ++ lb 4 len)) := by show Own _ _ _ _ _; unfold Own; simpa using own6
  have HB6 : Hid (Below w.heap.size w w6) := HB5.out.grown g6 z5 (fun k hk => (World.ownsRow.lt HO5.out k hk).1)
  clear own6 g6 HO5 HB5 HR5
  go_wp2_with fail
  go_loopw [8, 38] (fun b i wr => ∃ k z : Nat, i = .int .i64 k ∧ k ≤ len ∧ Hid (z = 12 + osum (xs.take k)) ∧ Hid (Own wr w.heap.size b z ((lb 8 s ++ lb 4 len) ++ obs (xs.take k))) ∧ Hid (Below w.heap.size w wr)) (fun _ i _ => len - (intOf i).toNat)
  case atStart => exact ⟨0, 12, rfl, by omega, rfl, by show Own _ _ _ _ _; simpa [obs] using HO6.out, HB6⟩
  case round =>
    obtain ⟨k, z, rfl, hk, hz, hrow, hbel⟩ := hrel
    clear HO6 HB6
    by_cases hlt : k < len
    · cases a with
      | none => have := (HH.out.2.2.1 rfl).1; omega
      | some ad =>
        obtain ⟨b, off, sp⟩ := ad
        obtain ⟨rfl, hat⟩ := HH.out.2.2.2.2 b off sp rfl (by omega)
        have hat := (hat k hlt).later hbel.out
        have hkl : k < xs.length := by have := HX.out; omega
        have hT := osum_take xs k hkl
        have hT2 := obs_take xs k hkl
        have hms := HM.out _ (get_mem hkl)
        have hzN : z ≤ N := by have := hz.out; have := HBig.out k (by omega); omega
        generalize xs.getD k zo = x at hat hT hT2 hms
        obtain ⟨xc, xk, xv⟩ := x
        obtain ⟨a1, a2, a3⟩ := hat
        simp only at a1 a2 a3
        have ik0 : (k : Int) < (len : Int) := by omega
        have hlc := HH.out.2.1
        have zr := hbel.out.size
        have HZ : Hid (z + osz ⟨xc, xk, xv⟩ = 12 + osum (xs.take (k + 1))) := by show _ = _; rw [hz.out, hT]; omega
        have HT2 := hid hT2
        have AO := appendop_any _ z _ xc xk xv w.heap.size (wr.alloc (.cells #[.int .i64 xc, .string xk, .string xv] 60)) (own_alloc hrow.out _) (by simp; omega) hms (by omega)
        have HAO := hid AO
        have HBA : Hid (Below w.heap.size w (wr.alloc (.cells #[.int .i64 xc, .string xk, .string xv] 60))) := hbel.out.alloc zr _
        clear hT hT2 hms hkl hz AO hrow hbel
        go_wp2_with fail
        refine HAO.out.mono ?_
        rintro e w8 ⟨v8, rfl, O8, b8⟩
        have HO8 : Hid (Own w8 w.heap.size v8 (z + osz ⟨xc, xk, xv⟩) ((lb 8 s ++ lb 4 len) ++ obs (xs.take (k + 1)))) := by
          show Own _ _ _ _ _
          rw [HT2.out, ← List.append_assoc]
          exact O8
        have HB8 : Hid (Below w.heap.size w w8) := HBA.out.trans b8
        clear O8 b8 HBA HAO a1 a2 a3 HT2
        go_wp2_with fail
        go_roundw
        case rel => exact ⟨k + 1, _, by go_num, by omega, HZ, HO8, HB8⟩
        case measure => simp [intOf]; omega
    · have hkl : k = xs.length := by have := HX.out; omega
      have R0 := hrow.out
      rw [hkl, List.take_length, ← HE.out] at R0
      have hzN : z = N := by have := hz.out; rw [hkl, List.take_length] at this; rw [HN.out]; unfold bsz; omega
      rw [hzN] at R0
      obtain ⟨g, c, hv, R1⟩ := By.shape R0 (by omega)
      rw [hv]
      have HR1 := hid R1
      clear R0 R1 hrow hz hv hkl hzN
      go_wp2_with fail
      go_ret2
      exact ⟨g, c, rfl, HR1.out, hbel.out⟩
end Go.Proofs.Ytmceanfgcehfeab.En

/- The document's Is, May and Full by their contracts; Full of bytes that are no filter. -/
import Derived.Test.YtempagacpfejdaaRb
namespace Go.Proofs.Ytempagacpfejdaa.Ra
open Go.ChangeShapes Go.WideShapes Go.ChangeAt Go.RowKit Go.Shelf
open Go.Proofs.Ytempagacpfejdaa.Wd
open Go.Proofs.Ytempagacpfejdaa.Hs
open Go.Proofs.Ytempagacpfejdaa.Pr
open Go.Proofs.Ytempagacpfejdaa.Rq
open Go.Proofs.Ytempagacpfejdaa.Bi
open Go.Proofs.Ytempagacpfejdaa.Fl
open Go.Proofs.Ytempagacpfejdaa.Mk
open Go.Proofs.Ytempagacpfejdaa.By
open Go.Proofs.Ytempagacpfejdaa.My
open Go.Proofs.Ytempagacpfejdaa.Fu
open Go.Proofs.Ytempagacpfejdaa.Rb
set_option linter.unusedVariables false
set_option linter.unusedSimpArgs false

set_option maxRecDepth 100000 in
theorem full_no (a : Option Addr) (len cap : Nat) (f : List B8) (w : World) (H : Bts w a len cap f) (hF : ¬ isF f) (hlen : len ≤ 140737488355328) :
    Calls Try.prog 17 #[.slice a len cap] w fun e w' => e = .returned (.tuple #[.int .i64 0, .int .i64 0, .int .i64 120]) ∧ w' = w := by
  have HP := hid (shape_no a len cap f w H hF hlen)
  clear H hF
  go_enter Try.func17, Try.ntmps17
  go_wp2_with fail
  refine HP.out.mono ?_
  rintro e w' ⟨rfl, rfl⟩
  go_wp2_with fail
  go_ret3
  exact ⟨rfl, rfl⟩
set_option maxRecDepth 100000 in
theorem ris_any (a : Option Addr) (len cap : Nat) (f : List B8) (w : World) (H : Bts w a len cap f) (hlen : len ≤ 140737488355328) :
    Calls Try.prog 29 #[.slice a len cap] w fun e w' => e = .returned (.bool (decide (isF f))) ∧ w' = w := by
  have hl := H.len
  by_cases h1 : 2 ≤ len
  · obtain ⟨b, off, rfl, hc⟩ := H.cell (len - 1) (by omega)
    have hL : Hid (bi (f.getD (len - 1) 0#8) = (lst f : Int)) := by show _ = _; unfold lst bi; rw [hl]
    rw [hL.out] at hc
    have hI : Hid (decide (isF f) = decide (1 ≤ lst f ∧ lst f ≤ 30)) := by
      show _ = _
      rw [decide_eq_decide]; unfold isF; omega
    have hq : lst f ≤ 255 := by have := hL.out; have := bi_bd (f.getD (len - 1) 0#8); omega
    generalize lst f = q at *
    obtain ⟨n, rfl⟩ : ∃ n, len = n + 2 := ⟨len - 2, by omega⟩
    rw [show n + 2 - 1 = n + 1 from rfl] at hc
    clear hL H hl h1
    have en : (n : Int) + 2 - 1 = (n : Int) + 1 := by omega
    by_cases h2 : 1 ≤ q
    · by_cases h3 : q ≤ 30
      · have i2 : 1 ≤ (q : Int) := by omega
        have i3 : (q : Int) ≤ 30 := by omega
        go_enter Try.func29, Try.ntmps29
        go_wp2
        go_ret
        exact ⟨by rw [hI.out]; simp [h2, h3], rfl⟩
      · have i2 : 1 ≤ (q : Int) := by omega
        have i3 : ¬ (q : Int) ≤ 30 := by omega
        have i4 : decide ((q : Int) ≤ 30) = false := by simpa using i3
        go_enter Try.func29, Try.ntmps29
        go_wp2
        go_ret
        exact ⟨by rw [hI.out]; simp [h2, h3], rfl⟩
    · have : q = 0 := by omega
      subst this
      go_enter Try.func29, Try.ntmps29
      go_wp2
      go_ret
      exact ⟨by rw [hI.out]; rfl, rfl⟩
  · have hI : Hid (decide (isF f) = false) := by
      show _ = _
      rw [decide_eq_false_iff_not]; unfold isF; omega
    have i2 : ¬ 2 ≤ (len : Int) := by omega
    have i4 : decide (2 ≤ (len : Int)) = false := by simpa using i2
    clear H hl
    go_enter Try.func29, Try.ntmps29
    go_wp2
    go_ret
    exact ⟨by rw [hI.out]; rfl, rfl⟩
set_option maxRecDepth 100000 in
theorem rfull_no (a : Option Addr) (len cap : Nat) (f : List B8) (w : World) (H : Bts w a len cap f) (hF : ¬ isF f) (hlen : len ≤ 140737488355328) :
    Calls Try.prog 18 #[.slice a len cap] w fun e w' => e = .returned (.tuple #[.int .i64 0, .int .i64 0, .int .i64 120]) ∧ w' = w := by
  have HP := hid (ris_any a len cap f w H hlen)
  rw [decide_eq_false hF] at HP
  clear H hF
  go_enter Try.func18, Try.ntmps18
  go_wp2_with fail
  refine HP.out.mono ?_
  rintro e w' ⟨rfl, rfl⟩
  go_wp2_with fail
  go_ret3
  exact ⟨rfl, rfl⟩
theorem bit_i (v : B8) (z : Nat) : bits .and .u8 (bi v / 2 ^ z) 1 = ((v.getLsbD z).toNat : Int) := by
  have h := and_b (v >>> z) 1#8
  rw [show bi 1#8 = 1 from by decide] at h
  have e : bi v / 2 ^ z = bi (v >>> z) := by rw [← shr_b]; norm_cast
  rw [e, h]
  have l := look_b v z
  have h2 : (v >>> z) &&& 1#8 = if v.getLsbD z then 1#8 else 0#8 := by
    apply BitVec.eq_of_getLsbD_eq
    intro j hj
    rw [BitVec.getLsbD_and, BitVec.getLsbD_ushiftRight, BitVec.getLsbD_one]
    by_cases h0 : j = 0
    · subst h0; cases hx : v.getLsbD z <;> simp [hx]
    · cases hx : v.getLsbD z <;> simp [h0]
  rw [h2]
  cases v.getLsbD z <;> rfl
set_option maxRecDepth 100000 in
theorem rfull_yes (a : Option Addr) (len cap : Nat) (f : List B8) (w : World) (H : Bts w a len cap f) (hF : isF f) (hlen : len ≤ 140737488355328) :
    Calls Try.prog 18 #[.slice a len cap] w fun e w' => e = .returned (.tuple #[.int .i64 (cb f (8 * (len - 1)) : Int), .int .i64 (8 * ((len - 1 : Nat) : Int)), .int .i64 0]) ∧ w' = w := by
  have HP := hid (ris_any a len cap f w H hlen)
  rw [decide_eq_true hF] at HP
  have hf1 := hF.1
  have hl := H.len
  obtain ⟨r, hr⟩ : ∃ r, r = len - 1 := ⟨_, rfl⟩
  rw [← hr]
  have er : (len : Int) - 1 = (r : Int) := by omega
  have hrl := hid (by omega : r + 1 = len)
  have hr3 : r ≤ 140737488355328 := by omega
  replace H := hid H
  clear hr hF hf1 hl
  go_enter Try.func18, Try.ntmps18
  go_wp2_with fail
  refine HP.out.mono ?_
  rintro e w' ⟨rfl, rfl⟩
  go_wp2_with fail
  go_loop [6, 7] (fun sv iv => ∃ i : Nat, i ≤ 8 * r ∧ sv = .int .i64 (cb f i : Int) ∧ iv = .int .i64 (i : Int)) (fun _ iv => 8 * r - (intOf iv).toNat)
  case atStart => exact ⟨0, by omega, rfl, rfl⟩
  case round =>
    obtain ⟨i, hi, rfl, rfl⟩ := hrel
    have hc := cb_le f i
    by_cases hlt : i < 8 * r
    · obtain ⟨y, hy⟩ : ∃ y, y = i / 8 := ⟨_, rfl⟩
      have e8 : (i : Int) / 8 = (y : Int) := by omega
      obtain ⟨bk, off, rfl, c⟩ := H.out.cell y (by have := hrl.out; omega)
      have hyl : (y : Int) < (len : Int) := by have := hrl.out; omega
      have wy : IntKind.i64.wrap (y : Int) = (y : Int) := wrapi _ (by omega) (by omega)
      have hB : Hid (cb f (i + 1) = cb f i + ((f.getD y 0#8).getLsbD (i % 8)).toNat) := by rw [hy]; rfl
      generalize f.getD y 0#8 = v at c hB
      have ee := bit_i v (i % 8)
      have hbit : (v.getLsbD (i % 8)).toNat ≤ 1 := by cases v.getLsbD (i % 8) <;> simp
      generalize (v.getLsbD (i % 8)).toNat = p at *
      generalize cb f i = q at *
      have ii : (i : Int) < 8 * (r : Int) := by omega
      have hvb := bi_bd v
      replace hy := hid hy
      go_wp2_with fail
      exact ⟨⟨i + 1, by omega, by rw [hB.out]; go_num, by go_num⟩, by simp [intOf]; omega⟩
    · have e1 := hid (by omega : i = 8 * r)
      have ii : ¬ ((i : Int) < 8 * (r : Int)) := by omega
      generalize hq : cb f i = q at *
      replace hq := hid hq
      go_wp2_with fail
      go_ret3
      exact ⟨by rw [← e1.out, hq.out]; rfl, rfl⟩
set_option maxRecDepth 100000 in
theorem rmay_no (a : Option Addr) (len cap : Nat) (f : List B8) (s : ByteArray) (w : World) (H : Bts w a len cap f) (hF : ¬ isF f) (hlen : len ≤ 140737488355328) :
    Calls Try.prog 20 #[.slice a len cap, .string s] w fun e w' => e = .returned (.bool true) ∧ Below w.heap.size w w' := by
  have HP := hid (ris_any a len cap f w H hlen)
  rw [decide_eq_false hF] at HP
  clear H hF
  go_enter Try.func20, Try.ntmps20
  go_wp2_with fail
  refine HP.out.mono ?_
  rintro e w' ⟨rfl, rfl⟩
  go_wp2_with fail
  go_ret
  exact ⟨rfl, Below.refl _ _⟩
theorem take_snoc (l : List Nat) (j : Nat) (h : j < l.length) : l.take (j + 1) = l.take j ++ [l.getD j 0] := by
  rw [List.take_add_one, List.getElem?_eq_getElem h, List.getD_eq_getElem?_getD, List.getElem?_eq_getElem h]; rfl
set_option maxRecDepth 100000 in
set_option maxHeartbeats 400000 in
theorem rmay_yes (a : Option Addr) (len cap : Nat) (f : List B8) (s : ByteArray) (w : World) (H : Bts w a len cap f) (hF : isF f) (hlen : len ≤ 140737488355328) (hs0 : s.size ≤ 9223372036854775807) :
    Calls Try.prog 20 #[.slice a len cap, .string s] w fun e w' => e = .returned (.bool ((kb s (8 * (len - 1)) (lst f)).all (bitT f))) ∧ Below w.heap.size w w' := by
  have HP := hid (ris_any a len cap f w H hlen)
  rw [decide_eq_true hF] at HP
  have hf1 := hF.1
  have hq1 := hF.2.1
  have hq2 := hF.2.2
  have hl := H.len
  obtain ⟨b, off, rfl, hc⟩ := H.cell (len - 1) (by omega)
  have hL : Hid (bi (f.getD (len - 1) 0#8) = (lst f : Int)) := by show _ = _; unfold lst bi; rw [hl]
  rw [hL.out] at hc
  obtain ⟨r, hr⟩ : ∃ r, r = len - 1 := ⟨_, rfl⟩
  rw [← hr] at hc ⊢
  have er : (len : Int) - 1 = (r : Int) := by omega
  have hrl := hid (by omega : r + 1 = len)
  have hr1 : 1 ≤ r := by omega
  have hr3 : r ≤ 140737488355328 := by omega
  have hrb : (r : Int) < (len : Int) := by omega
  obtain ⟨k, hk⟩ : ∃ k, k = lst f := ⟨_, rfl⟩
  rw [← hk] at hc hq1 hq2 ⊢
  have hS := hid (fun W h => H.later h : ∀ W, Below w.heap.size w W → Bts W (some ⟨b, off, none⟩) len cap f)
  replace H := hid H
  have HB := hid (rbits_any s (8 * r) k w hs0 (by omega) (by omega) hq2)
  rw [show ((8 * r : Nat) : Int) = 8 * (r : Int) by omega] at HB
  replace hk := hid hk
  clear hr hF hf1 hl hL
  go_enter Try.func20, Try.ntmps20
  go_wp2_with fail
  refine HP.out.mono ?_
  rintro e w' ⟨rfl, rfl⟩
  go_wp2_with fail
  refine HB.out.mono ?_
  rintro e w2 ⟨g, c, rfl, hO, hb2⟩
  have hll := kb_len s (8 * r) k
  have hLt := hid (kb_lt s (8 * r) k (by omega))
  obtain ⟨L, hLd⟩ : ∃ L, L = kb s (8 * r) k := ⟨_, rfl⟩
  rw [← hLd] at hO hll hLt
  replace hLd := hid hLd
  replace hO := hid hO
  replace hb2 := hid hb2
  have hS2 := hid (hS.out w2 hb2.out)
  clear hc
  go_wp2_with fail
  go_loopw [7] (fun jv wr => ∃ j n : Nat, j ≤ k ∧ jv = .int .i64 (j : Int) ∧ wr = w2.drewN n ∧ Hid ((L.take j).all (bitT f) = true)) (fun jv _ => k - (intOf jv).toNat)
  case atStart => exact ⟨0, 0, by omega, rfl, rfl, by simp [Hid]⟩
  case round =>
    obtain ⟨j, n, hj, rfl, rfl, hall⟩ := hrel
    by_cases hlj : j < k
    · obtain ⟨gg, rfl, cx⟩ := hO.out.cell j (by omega)
      have hxl : L.getD j 0 < 8 * r := hLt.out _ (by rw [List.getD_eq_getElem?_getD, List.getElem?_eq_getElem (by omega)]; exact List.getElem_mem _)
      have hxm : Hid (L.getD j 0 ∈ L) := by show _ ∈ _; rw [List.getD_eq_getElem?_getD, List.getElem?_eq_getElem (by omega)]; exact List.getElem_mem _
      have hTk := hid (take_snoc L j (by omega))
      generalize L.getD j 0 = x at cx hxl hTk hxm
      obtain ⟨y, hy⟩ : ∃ y, y = x / 8 := ⟨_, rfl⟩
      obtain ⟨z, hz⟩ : ∃ z, z = x % 8 := ⟨_, rfl⟩
      have hyl : y < len := by have := hrl.out; omega
      obtain ⟨bk', off', hbo, cy⟩ := hS2.out.cell y hyl
      cases hbo
      have e8 : (x : Int) / 8 = (y : Int) := by omega
      have hz8 : z < 8 := by omega
      have hyi : (y : Int) < (len : Int) := by omega
      have wy : IntKind.i64.wrap (y : Int) = (y : Int) := wrapi _ (by omega) (by omega)
      have hv : Hid (bitT f x = (f.getD y 0#8).getLsbD z) := by show _ = _; unfold bitT; rw [hy, hz]
      generalize f.getD y 0#8 = v at cy hv
      have ee : (bits .and .u8 (bi v / 2 ^ (x % 8)) 1 == 0) = !v.getLsbD z := by
        have h := and_b (v >>> z) 1#8
        rw [show bi 1#8 = 1 from by decide] at h
        rw [← hz, ← look_b v z, ← h, ← shr_b]
        norm_cast
      have ij : (j : Int) < (k : Int) := by omega
      have xb : (x : Int) ≤ 9223372036854775807 := by omega
      replace hy := hid hy
      replace hz := hid hz
      cases hb : v.getLsbD z with
      | true =>
        rw [hb, Bool.not_true] at ee
        rw [hb] at hv
        go_wp2_with fail
        go_quiet (fail)
        go_wp2_with fail
        exact ⟨⟨j + 1, n + nq, by omega, by go_num, rfl, by show _ = _; rw [hTk.out, List.all_append, hall.out]; simp [hv.out]⟩, by simp [intOf]; omega⟩
      | false =>
        rw [hb, Bool.not_false] at ee
        rw [hb] at hv
        go_wp2_with fail
        go_quiet (fail)
        go_wp2_with fail
        go_ret
        refine ⟨?_, below_drewN (below_drewN hb2.out _) _⟩
        have : L.all (bitT f) = false := by
          rw [List.all_eq_false]
          exact ⟨x, hxm.out, by rw [hv.out]; simp⟩
        rw [← hLd.out, this]
        rfl
    · have e1 : j = k := by omega
      subst e1
      rw [List.take_of_length_le (by omega)] at hall
      have ij : ¬ (j : Int) < (j : Int) := by omega
      go_wp2_with fail
      go_ret
      exact ⟨by rw [← hLd.out, hall.out]; rfl, below_drewN hb2.out _⟩
theorem rmay_any (a : Option Addr) (len cap : Nat) (f : List B8) (s : ByteArray) (w : World) (H : Bts w a len cap f) (hlen : len ≤ 140737488355328) (hs0 : s.size ≤ 9223372036854775807) :
    Calls Try.prog 20 #[.slice a len cap, .string s] w fun e w' => e = .returned (.bool (mayf f s)) ∧ Below w.heap.size w w' := by
  unfold mayf
  by_cases hF : isF f
  · rw [if_pos hF, H.len]
    exact rmay_yes a len cap f s w H hF hlen hs0
  · rw [if_neg hF]
    exact rmay_no a len cap f s w H hF hlen
end Go.Proofs.Ytempagacpfejdaa.Ra

/- The document's Decode. -/
import Derived.Test.YtmceanfgcehfeaaRw
namespace Go.Proofs.Ytmceanfgcehfeaa.Rt
open Go.ChangeShapes Go.WideShapes Go.ChangeAt Go.RowKit
open Go.Proofs.Ytmceanfgcehfeaa.By
open Go.Proofs.Ytmceanfgcehfeaa.Ob
open Go.Proofs.Ytmceanfgcehfeaa.Hd
open Go.Proofs.Ytmceanfgcehfeaa.Rp
open Go.Proofs.Ytmceanfgcehfeaa.It
open Go.Proofs.Ytmceanfgcehfeaa.De (row_ops may_ok wlk_may wlk_len dec)
open Go.Proofs.Ytmceanfgcehfeaa.Pu
open Go.Proofs.Ytmceanfgcehfeaa.En (fit rfit_any)
set_option linter.unusedVariables false

set_option maxHeartbeats 1000000 in
theorem rdec_big (a : Option Addr) (len cap : Nat) (w : World) (h : 1048576 < len) :
    Calls Try.prog 20 #[.slice a len cap] w fun e w' => e = .returned (.tuple #[.int .u64 0, .slice none 0 0, .int .i64 41]) ∧ Below w.heap.size w w' := by
  have ip : (1048576 : Int) < (len : Int) := by omega
  go_enter Try.func20, Try.ntmps20
  go_wp2_with fail
  go_ret3
  exact ⟨rfl, Below.refl _ _⟩
set_option maxHeartbeats 1000000 in
theorem rdec_short (a : Option Addr) (len cap : Nat) (w : World) (h : len < 12) :
    Calls Try.prog 20 #[.slice a len cap] w fun e w' => e = .returned (.tuple #[.int .u64 0, .slice none 0 0, .int .i64 41]) ∧ Below w.heap.size w w' := by
  have ip : ¬ (1048576 : Int) < (len : Int) := by omega
  go_enter Try.func20, Try.ntmps20
  go_wp2_with fail
  refine (walked_short a len cap w h).mono ?_
  rintro e w' ⟨rfl, rfl⟩
  go_wp2_with fail
  go_ret3
  exact ⟨rfl, Below.refl _ _⟩
set_option maxRecDepth 100000 in
set_option maxHeartbeats 2000000 in
theorem rdec1 (a : Option Addr) (len cap : Nat) (zs : List Int) (w : World) (H : Bytes w a len cap zs) (h12 : 12 ≤ len) (hbig : len ≤ 1048576) (C : Nat) (S : Int) (hC : hcnt zs = C) (hS : hseq zs = S) (xs : List O) (en : Nat) (hx : wlk zs C 12 = (xs, en)) (hen : 12 ≤ en) (hne : en ≠ len) :
    Calls Try.prog 20 #[.slice a len cap] w fun e w' => e = .returned (.tuple #[.int .u64 0, .slice none 0 0, .int .i64 41]) ∧ Below w.heap.size w w' := by
  have ip : ¬ (1048576 : Int) < (len : Int) := by omega
  have HW := walked_any a len cap zs w H (by omega) h12 xs en (by rw [hC]; exact hx)
  rw [hS] at HW
  have HF4 := fun W hW => num4 a len cap zs W (bytes_kept H hW) (by omega) h12
  rw [hC] at HF4
  have HHF4 := hid HF4
  have hcl := cnt_lt zs H.2.2.2.1
  rw [hC] at hcl
  have hsb := seq_bd zs H.2.2.2.1
  rw [hS] at hsb
  have hxl : xs.length ≤ C := by have := wlk_len zs C 12; rw [hx] at this; exact this
  have HHW := hid HW
  have en0 : ¬ (en : Int) < 12 := by omega
  have d1 : ((en : Int) != (len : Int)) = true := by simp; omega
  have d2 : ((en : Int) == (len : Int)) = false := by simp; omega
  clear HW HF4 H hC hS hx
  go_enter Try.func20, Try.ntmps20
  go_wp2_with fail
  refine HHW.out.mono ?_
  rintro e w1 ⟨v, rfl, O1, b1⟩
  obtain ⟨a1, c1, hv⟩ := row_slice O1
  subst hv
  have HB1 := hid b1
  have HO1 := hid O1
  clear b1 O1 HHW
  go_wp2_with fail
  go_ret3
  exact ⟨rfl, HB1.out⟩
set_option maxRecDepth 100000 in
set_option maxHeartbeats 2000000 in
theorem rdec2 (a : Option Addr) (len cap : Nat) (zs : List Int) (w : World) (H : Bytes w a len cap zs) (h12 : 12 ≤ len) (hbig : len ≤ 1048576) (C : Nat) (S : Int) (hC : hcnt zs = C) (hS : hseq zs = S) (xs : List O) (en : Nat) (hx : wlk zs C 12 = (xs, en)) (hen : 12 ≤ en) (hne : en = len) (hl : xs.length ≠ C) :
    Calls Try.prog 20 #[.slice a len cap] w fun e w' => e = .returned (.tuple #[.int .u64 0, .slice none 0 0, .int .i64 41]) ∧ Below w.heap.size w w' := by
  have ip : ¬ (1048576 : Int) < (len : Int) := by omega
  have HW := walked_any a len cap zs w H (by omega) h12 xs en (by rw [hC]; exact hx)
  rw [hS] at HW
  have HF4 := fun W hW => num4 a len cap zs W (bytes_kept H hW) (by omega) h12
  rw [hC] at HF4
  have HHF4 := hid HF4
  have hcl := cnt_lt zs H.2.2.2.1
  rw [hC] at hcl
  have hsb := seq_bd zs H.2.2.2.1
  rw [hS] at hsb
  have hxl : xs.length ≤ C := by have := wlk_len zs C 12; rw [hx] at this; exact this
  have HHW := hid HW
  have en0 : ¬ (en : Int) < 12 := by omega
  have d1 : ((en : Int) != (len : Int)) = false := by simp; omega
  have d2 : ((en : Int) == (len : Int)) = true := by simp; omega
  have d3 : ((C : Int) != (xs.length : Int)) = true := by simp; omega
  have d4 : ((C : Int) == (xs.length : Int)) = false := by simp; omega
  clear hne
  clear HW HF4 H hC hS hx
  go_enter Try.func20, Try.ntmps20
  go_wp2_with fail
  refine HHW.out.mono ?_
  rintro e w1 ⟨v, rfl, O1, b1⟩
  obtain ⟨a1, c1, hv⟩ := row_slice O1
  subst hv
  have HB1 := hid b1
  have HO1 := hid O1
  clear b1 O1 HHW
  go_wp2_with fail
  refine (HHF4.out w1 HB1.out).mono ?_
  rintro e w2 ⟨rfl, rfl⟩
  go_wp2_with fail
  go_ret3
  exact ⟨rfl, HB1.out⟩
set_option maxRecDepth 100000 in
set_option maxHeartbeats 2000000 in
theorem rdec3 (a : Option Addr) (len cap : Nat) (zs : List Int) (w : World) (H : Bytes w a len cap zs) (h12 : 12 ≤ len) (hbig : len ≤ 1048576) (C : Nat) (S : Int) (hC : hcnt zs = C) (hS : hseq zs = S) (xs : List O) (en : Nat) (hx : wlk zs C 12 = (xs, en)) (hen : 12 ≤ en) (hne : en = len) (hl : xs.length = C) (h4 : 4096 < C) :
    Calls Try.prog 20 #[.slice a len cap] w fun e w' => e = .returned (.tuple #[.int .u64 0, .slice none 0 0, .int .i64 41]) ∧ Below w.heap.size w w' := by
  have ip : ¬ (1048576 : Int) < (len : Int) := by omega
  have HW := walked_any a len cap zs w H (by omega) h12 xs en (by rw [hC]; exact hx)
  rw [hS] at HW
  have HF4 := fun W hW => num4 a len cap zs W (bytes_kept H hW) (by omega) h12
  rw [hC] at HF4
  have HHF4 := hid HF4
  have hcl := cnt_lt zs H.2.2.2.1
  rw [hC] at hcl
  have hsb := seq_bd zs H.2.2.2.1
  rw [hS] at hsb
  have hxl : xs.length ≤ C := by have := wlk_len zs C 12; rw [hx] at this; exact this
  have HHW := hid HW
  have en0 : ¬ (en : Int) < 12 := by omega
  have d1 : ((en : Int) != (len : Int)) = false := by simp; omega
  have d2 : ((en : Int) == (len : Int)) = true := by simp; omega
  have d3 : ((C : Int) != (xs.length : Int)) = false := by simp; omega
  have d4 : ((C : Int) == (xs.length : Int)) = true := by simp; omega
  have d5 : (4096 : Int) < (xs.length : Int) := by omega
  clear hne hl
  clear HW HF4 H hC hS hx
  go_enter Try.func20, Try.ntmps20
  go_wp2_with fail
  refine HHW.out.mono ?_
  rintro e w1 ⟨v, rfl, O1, b1⟩
  obtain ⟨a1, c1, hv⟩ := row_slice O1
  subst hv
  have HB1 := hid b1
  have HO1 := hid O1
  clear b1 O1 HHW
  go_wp2_with fail
  refine (HHF4.out w1 HB1.out).mono ?_
  rintro e w2 ⟨rfl, rfl⟩
  go_wp2_with fail
  go_ret3
  exact ⟨rfl, HB1.out⟩
set_option maxRecDepth 100000 in
set_option maxHeartbeats 2000000 in
theorem rdec4 (a : Option Addr) (len cap : Nat) (zs : List Int) (w : World) (H : Bytes w a len cap zs) (h12 : 12 ≤ len) (hbig : len ≤ 1048576) (C : Nat) (S : Int) (hC : hcnt zs = C) (hS : hseq zs = S) (xs : List O) (en : Nat) (hx : wlk zs C 12 = (xs, en)) (hen : 12 ≤ en) (hne : en = len) (hl : xs.length = C) (h4 : C ≤ 4096) (hfit : fit S xs.length = false) :
    Calls Try.prog 20 #[.slice a len cap] w fun e w' => e = .returned (.tuple #[.int .u64 0, .slice none 0 0, .int .i64 41]) ∧ Below w.heap.size w w' := by
  have ip : ¬ (1048576 : Int) < (len : Int) := by omega
  have HW := walked_any a len cap zs w H (by omega) h12 xs en (by rw [hC]; exact hx)
  rw [hS] at HW
  have HF4 := fun W hW => num4 a len cap zs W (bytes_kept H hW) (by omega) h12
  rw [hC] at HF4
  have HHF4 := hid HF4
  have hcl := cnt_lt zs H.2.2.2.1
  rw [hC] at hcl
  have hsb := seq_bd zs H.2.2.2.1
  rw [hS] at hsb
  have hxl : xs.length ≤ C := by have := wlk_len zs C 12; rw [hx] at this; exact this
  have HHW := hid HW
  have en0 : ¬ (en : Int) < 12 := by omega
  have d1 : ((en : Int) != (len : Int)) = false := by simp; omega
  have d2 : ((en : Int) == (len : Int)) = true := by simp; omega
  have d3 : ((C : Int) != (xs.length : Int)) = false := by simp; omega
  have d4 : ((C : Int) == (xs.length : Int)) = true := by simp; omega
  have d5 : ¬ (4096 : Int) < (xs.length : Int) := by omega
  have HFT : Hid (∀ w, Calls Try.prog 41 #[.int .u64 S, .int .i64 xs.length] w fun e w' => e = .returned (.bool false) ∧ w' = w) := fun w => by
    have := rfit_any S xs.length w hsb (by omega)
    rw [hfit] at this
    exact this
  clear hne hl hfit
  clear HW HF4 H hC hS hx
  go_enter Try.func20, Try.ntmps20
  go_wp2_with fail
  refine HHW.out.mono ?_
  rintro e w1 ⟨v, rfl, O1, b1⟩
  obtain ⟨a1, c1, hv⟩ := row_slice O1
  subst hv
  have HB1 := hid b1
  have HO1 := hid O1
  clear b1 O1 HHW
  go_wp2_with fail
  refine (HHF4.out w1 HB1.out).mono ?_
  rintro e w2 ⟨rfl, rfl⟩
  go_wp2_with fail
  refine (HFT.out w2).mono ?_
  rintro e w3 ⟨rfl, rfl⟩
  go_wp2_with fail
  go_ret3
  exact ⟨rfl, HB1.out⟩
set_option maxRecDepth 100000 in
set_option maxHeartbeats 2000000 in
theorem rdec5 (a : Option Addr) (len cap : Nat) (zs : List Int) (w : World) (H : Bytes w a len cap zs) (h12 : 12 ≤ len) (hbig : len ≤ 1048576) (C : Nat) (S : Int) (hC : hcnt zs = C) (hS : hseq zs = S) (xs : List O) (en : Nat) (hx : wlk zs C 12 = (xs, en)) (hen : 12 ≤ en) (hne : en = len) (hl : xs.length = C) (h4 : C ≤ 4096) (hfit : fit S xs.length = true) :
    Calls Try.prog 20 #[.slice a len cap] w fun e w' => ∃ v, e = .returned (.tuple #[.int .u64 S, v, .int .i64 0]) ∧ w'.ownsRow w.heap.size 50 3 v xs.length (ocs xs) ∧ Below w.heap.size w w' := by
  have ip : ¬ (1048576 : Int) < (len : Int) := by omega
  have HW := walked_any a len cap zs w H (by omega) h12 xs en (by rw [hC]; exact hx)
  rw [hS] at HW
  have HF4 := fun W hW => num4 a len cap zs W (bytes_kept H hW) (by omega) h12
  rw [hC] at HF4
  have HHF4 := hid HF4
  have hcl := cnt_lt zs H.2.2.2.1
  rw [hC] at hcl
  have hsb := seq_bd zs H.2.2.2.1
  rw [hS] at hsb
  have hxl : xs.length ≤ C := by have := wlk_len zs C 12; rw [hx] at this; exact this
  have HHW := hid HW
  have en0 : ¬ (en : Int) < 12 := by omega
  have d1 : ((en : Int) != (len : Int)) = false := by simp; omega
  have d2 : ((en : Int) == (len : Int)) = true := by simp; omega
  have d3 : ((C : Int) != (xs.length : Int)) = false := by simp; omega
  have d4 : ((C : Int) == (xs.length : Int)) = true := by simp; omega
  have d5 : ¬ (4096 : Int) < (xs.length : Int) := by omega
  have HFT : Hid (∀ w, Calls Try.prog 41 #[.int .u64 S, .int .i64 xs.length] w fun e w' => e = .returned (.bool true) ∧ w' = w) := fun w => by
    have := rfit_any S xs.length w hsb (by omega)
    rw [hfit] at this
    exact this
  clear hne hl hfit
  clear HW HF4 H hC hS hx
  go_enter Try.func20, Try.ntmps20
  go_wp2_with fail
  refine HHW.out.mono ?_
  rintro e w1 ⟨v, rfl, O1, b1⟩
  obtain ⟨a1, c1, hv⟩ := row_slice O1
  subst hv
  have HB1 := hid b1
  have HO1 := hid O1
  clear b1 O1 HHW
  go_wp2_with fail
  refine (HHF4.out w1 HB1.out).mono ?_
  rintro e w2 ⟨rfl, rfl⟩
  go_wp2_with fail
  refine (HFT.out w2).mono ?_
  rintro e w3 ⟨rfl, rfl⟩
  go_wp2_with fail
  go_ret3
  exact ⟨_, rfl, HO1.out, HB1.out⟩
theorem rdecode_no (a : Option Addr) (len cap : Nat) (zs : List Int) (w : World) (H : Bytes w a len cap zs) (h : dec zs = none) :
    Calls Try.prog 20 #[.slice a len cap] w fun e w' => e = .returned (.tuple #[.int .u64 0, .slice none 0 0, .int .i64 41]) ∧ Below w.heap.size w w' := by
  have hl := H.1
  unfold dec at h
  by_cases h0 : 1048576 < len
  · exact rdec_big a len cap w h0
  · by_cases h1 : len < 12
    · exact rdec_short a len cap w h1
    · rw [if_neg (by omega)] at h
      obtain ⟨en, hen⟩ : ∃ en, en = (wlk zs (hcnt zs) 12).2 := ⟨_, rfl⟩
      have hx : wlk zs (hcnt zs) 12 = ((wlk zs (hcnt zs) 12).1, en) := by rw [hen]
      obtain ⟨g1, g2, _⟩ := wlk_form zs H.2.2.2.1 (hcnt zs) 12 (by omega)
      have he12 : 12 ≤ en := by rw [hen, g1]; omega
      by_cases c1 : en = len
      · by_cases c2 : (wlk zs (hcnt zs) 12).1.length = hcnt zs
        · by_cases c3 : 4096 < hcnt zs
          · exact rdec3 a len cap zs w H (by omega) (by omega) _ _ rfl rfl _ en hx he12 c1 c2 c3
          · cases c4 : fit (hseq zs) (hcnt zs) with
            | false => exact rdec4 a len cap zs w H (by omega) (by omega) _ _ rfl rfl _ en hx he12 c1 c2 (by omega) (by rw [c2]; exact c4)
            | true =>
              rw [if_neg (by rw [c4]; simp; omega), if_pos ⟨c2, by unfold bsz; omega⟩] at h
              simp at h
        · exact rdec2 a len cap zs w H (by omega) (by omega) _ _ rfl rfl _ en hx he12 c1 c2
      · exact rdec1 a len cap zs w H (by omega) (by omega) _ _ rfl rfl _ en hx he12 c1
theorem rdecode_ok (a : Option Addr) (len cap : Nat) (zs : List Int) (w : World) (H : Bytes w a len cap zs) (S : Int) (xs : List O) (h : dec zs = some (S, xs)) :
    Calls Try.prog 20 #[.slice a len cap] w fun e w' => ∃ v, e = .returned (.tuple #[.int .u64 S, v, .int .i64 0]) ∧ w'.ownsRow w.heap.size 50 3 v xs.length (ocs xs) ∧ Below w.heap.size w w' := by
  have hl := H.1
  unfold dec at h
  by_cases h1 : zs.length < 12
  · rw [if_pos h1] at h; simp at h
  · rw [if_neg h1] at h
    by_cases h2 : 1048576 < zs.length ∨ 4096 < hcnt zs ∨ fit (hseq zs) (hcnt zs) = false
    · rw [if_pos h2] at h; simp at h
    · rw [if_neg h2] at h
      have f0 : fit (hseq zs) (hcnt zs) = true := by
        cases hf : fit (hseq zs) (hcnt zs) with
        | true => rfl
        | false => exact absurd (.inr (.inr hf)) h2
      by_cases h3 : (wlk zs (hcnt zs) 12).1.length = hcnt zs ∧ bsz (wlk zs (hcnt zs) 12).1 = zs.length
      · rw [if_pos h3] at h
        simp only [Option.some.injEq, Prod.mk.injEq] at h
        obtain ⟨rfl, rfl⟩ := h
        obtain ⟨g1, g2, _⟩ := wlk_form zs H.2.2.2.1 (hcnt zs) 12 (by omega)
        exact rdec5 a len cap zs w H (by omega) (by omega) _ _ rfl rfl _ (wlk zs (hcnt zs) 12).2 rfl (by omega) (by have := h3.2; unfold bsz at this; omega) h3.1 (by omega) (by rw [h3.1]; exact f0)
      · rw [if_neg h3] at h; simp at h
end Go.Proofs.Ytmceanfgcehfeaa.Rt

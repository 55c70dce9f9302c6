/- Full by its contract; the law's small helpers: works, among. -/
import Derived.Test.YtempagacpfejdabMy
namespace Go.Proofs.Ytempagacpfejdab.Fu
open Go.ChangeShapes Go.WideShapes Go.ChangeAt Go.RowKit Go.Shelf
open Go.Proofs.Ytempagacpfejdab.Wd
open Go.Proofs.Ytempagacpfejdab.Hs
open Go.Proofs.Ytempagacpfejdab.Pr
open Go.Proofs.Ytempagacpfejdab.Rq
open Go.Proofs.Ytempagacpfejdab.Bi
open Go.Proofs.Ytempagacpfejdab.Fl
open Go.Proofs.Ytempagacpfejdab.Mk
open Go.Proofs.Ytempagacpfejdab.By
open Go.Proofs.Ytempagacpfejdab.My
open Go.Proofs.Ytempagacpfejdab.Op
set_option linter.unusedVariables false
set_option linter.unusedSimpArgs false

/-- How many of the first i bits are set. -/
def cb (f : List B8) : Nat → Nat
  | 0 => 0
  | i + 1 => cb f i + (bitT f i).toNat
theorem cb_le (f : List B8) : ∀ i, cb f i ≤ i
  | 0 => Nat.le_refl _
  | i + 1 => by have := cb_le f i; have : (bitT f i).toNat ≤ 1 := by cases bitT f i <;> simp
                show cb f i + _ ≤ _; omega
theorem cb_pos (f : List B8) : ∀ i, 0 < cb f i ↔ ∃ b, b < i ∧ bitT f b = true
  | 0 => by simp [cb]
  | i + 1 => by
    have ih := cb_pos f i
    show 0 < cb f i + _ ↔ _
    constructor
    · intro h
      by_cases h0 : 0 < cb f i
      · obtain ⟨b, h1, h2⟩ := ih.1 h0
        exact ⟨b, by omega, h2⟩
      · refine ⟨i, by omega, ?_⟩
        cases hb : bitT f i with
        | true => rfl
        | false => rw [hb] at h; simp at h; omega
    · rintro ⟨b, h1, h2⟩
      by_cases hb : b = i
      · subst hb; rw [h2]; simp
      · have := ih.2 ⟨b, by omega, h2⟩; omega
def pop (x : B8) : Nat := ((((((((0 + (x.getLsbD 0).toNat) + (x.getLsbD 1).toNat) + (x.getLsbD 2).toNat) + (x.getLsbD 3).toNat) + (x.getLsbD 4).toNat) + (x.getLsbD 5).toNat) + (x.getLsbD 6).toNat) + (x.getLsbD 7).toNat)
theorem bit_at (f : List B8) (i j : Nat) (h : j < 8) : bitT f (8 * i + j) = (f.getD i 0#8).getLsbD j := by
  unfold bitT; rw [show (8 * i + j) / 8 = i by omega, show (8 * i + j) % 8 = j by omega]
theorem cb_byte (f : List B8) (i : Nat) : cb f (8 * (i + 1)) = cb f (8 * i) + pop (f.getD i 0#8) := by
  rw [show 8 * (i + 1) = 8 * i + 0 + 1 + 1 + 1 + 1 + 1 + 1 + 1 + 1 by omega]
  simp only [cb, pop]
  have b0 := bit_at f i 0 (by omega)
  rw [Nat.add_zero] at b0
  rw [b0, bit_at f i 1 (by omega), bit_at f i 2 (by omega), bit_at f i 3 (by omega), bit_at f i 4 (by omega), bit_at f i 5 (by omega), bit_at f i 6 (by omega), bit_at f i 7 (by omega)]
  omega
theorem tmod_bd (x : Int) (n : Nat) (hn : 1 ≤ n) : -(n : Int) < x.tmod n ∧ x.tmod n < n ∧ (x.tmod n + n) % (n : Int) = x % n := by
  have hn' : (0 : Int) < (n : Int) := by omega
  refine ⟨?_, Int.tmod_lt_of_pos _ hn', ?_⟩
  · have := Int.tmod_lt_of_pos (-x) hn'
    rw [Int.neg_tmod] at this
    omega
  · rw [Int.add_emod_right, Int.tmod_def]
    rw [Int.sub_emod, Int.mul_emod_right, Int.sub_zero, Int.emod_emod_of_dvd _ (Int.dvd_refl _)]
set_option maxRecDepth 100000 in
theorem among_any (x : Int) (n : Nat) (w : World) (hn : 1 ≤ n ∧ n ≤ 4611686018427387904) : Calls Try.prog 5 #[.int .i64 x, .int .i64 (n : Int)] w fun e w' => e = .returned (.int .i64 (x % (n : Int))) ∧ w' = w := by
  obtain ⟨h1, h2, h3⟩ := tmod_bd x n hn.1
  have e : wrap64 (x.tmod n + n) = x.tmod n + n := by unfold wrap64; omega
  have e2 : (wrap64 (x.tmod n + n)).tmod n = x % n := by rw [e, Int.tmod_eq_emod_of_nonneg (by omega), h3]
  have hn0 : ((n : Int) == 0) = false := by simp; omega
  clear h1 h2 h3 e
  go_enter Try.func5, Try.ntmps5
  go_wp2_with fail
  go_ret
  exact ⟨rfl, rfl⟩
theorem mk0 : (mkf [] 10).map bi = [0, 0, 0, 0, 0, 0, 0, 0, 6] := by decide +kernel
theorem my0 : mayf (mkf [] 10) ⟨#[107]⟩ = false := by decide +kernel
theorem str0 : str [0, 0, 0, 0, 0, 0, 0, 0, 6] = ⟨#[0, 0, 0, 0, 0, 0, 0, 0, 6]⟩ := by decide +kernel
theorem nil_strs (w : World) : Strs w none 0 0 [] := ⟨rfl, Nat.le_refl _, by simp, fun _ => ⟨rfl, rfl⟩, fun i hi => by omega⟩
set_option maxRecDepth 100000 in
theorem works_any (w : World) : Calls Try.prog 4 #[] w fun e w' => e = .returned (.bool true) ∧ Below w.heap.size w w' := by
  go_enter Try.func4, Try.ntmps4
  go_wp2_with fail
  refine (make_ok none 0 0 [] 10 w (nil_strs w) (by omega) (by omega) (by omega)).mono ?_
  rintro e w1 ⟨rfl, hf, hb⟩
  have hB := fb_bts hf 9 (by rw [mkf_len]; rfl)
  have hcv := Bytes.conv hB
  rw [mk0, str0] at hcv
  have HM := hid (my0 ▸ may_any _ _ _ _ ⟨#[107]⟩ w1 hB (by omega) (by decide))
  rw [show room 0 10 + 1 = 9 from rfl]
  replace hf := hid hf
  replace hB := hid hB
  replace hb := hid hb
  go_wp2_with fail
  refine HM.out.mono ?_
  rintro e w2 ⟨rfl, hb2⟩
  go_wp2_with fail
  go_ret
  exact ⟨rfl, hb.out.trans (hb2.mono hb.out.size)⟩
end Go.Proofs.Ytempagacpfejdab.Fu

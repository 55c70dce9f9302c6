/- Full by its contract; the law's small helpers: works, among. -/
import Derived.Test.YtempagacpfejdaaMy
import Derived.Lib.Tables
namespace Go.Proofs.Ytempagacpfejdaa.Fu
open Go.ChangeShapes Go.WideShapes Go.ChangeAt Go.RowKit Go.Shelf
open Go.Proofs.Ytempagacpfejdaa.Wd
open Go.Proofs.Ytempagacpfejdaa.Hs
open Go.Proofs.Ytempagacpfejdaa.Pr
open Go.Proofs.Ytempagacpfejdaa.Rq
open Go.Proofs.Ytempagacpfejdaa.Bi
open Go.Proofs.Ytempagacpfejdaa.Fl
open Go.Proofs.Ytempagacpfejdaa.Mk
open Go.Proofs.Ytempagacpfejdaa.By
open Go.Proofs.Ytempagacpfejdaa.My
open Go.Proofs.Ytempagacpfejdaa.Op
set_option linter.unusedVariables false
set_option linter.unusedSimpArgs false

/-- How many of the first i bits are set. -/
def cb (f : List B8) : Nat → Nat
  | 0 => 0
  | i + 1 => cb f i + (bitT f i).toNat
theorem cb_le (f : List B8) : ∀ i, cb f i ≤ i
  | 0 => Nat.le_refl _
  | i + 1 => by have := cb_le f i; have : (bitT f i).toNat ≤ 1 := by cases bitT f i <;> simp
                show cb f i + _ ≤ _; omega
theorem cb_pos (f : List B8) : ∀ i, 0 < cb f i ↔ ∃ b, b < i ∧ bitT f b = true
  | 0 => by simp [cb]
  | i + 1 => by
    have ih := cb_pos f i
    show 0 < cb f i + _ ↔ _
    constructor
    · intro h
      by_cases h0 : 0 < cb f i
      · obtain ⟨b, h1, h2⟩ := ih.1 h0
        exact ⟨b, by omega, h2⟩
      · refine ⟨i, by omega, ?_⟩
        cases hb : bitT f i with
        | true => rfl
        | false => rw [hb] at h; simp at h; omega
    · rintro ⟨b, h1, h2⟩
      by_cases hb : b = i
      · subst hb; rw [h2]; simp
      · have := ih.2 ⟨b, by omega, h2⟩; omega
def pop (x : B8) : Nat := ((((((((0 + (x.getLsbD 0).toNat) + (x.getLsbD 1).toNat) + (x.getLsbD 2).toNat) + (x.getLsbD 3).toNat) + (x.getLsbD 4).toNat) + (x.getLsbD 5).toNat) + (x.getLsbD 6).toNat) + (x.getLsbD 7).toNat)
theorem bit_at (f : List B8) (i j : Nat) (h : j < 8) : bitT f (8 * i + j) = (f.getD i 0#8).getLsbD j := by
  unfold bitT; rw [show (8 * i + j) / 8 = i by omega, show (8 * i + j) % 8 = j by omega]
theorem cb_byte (f : List B8) (i : Nat) : cb f (8 * (i + 1)) = cb f (8 * i) + pop (f.getD i 0#8) := by
  rw [show 8 * (i + 1) = 8 * i + 0 + 1 + 1 + 1 + 1 + 1 + 1 + 1 + 1 by omega]
  simp only [cb, pop]
  have b0 := bit_at f i 0 (by omega)
  rw [Nat.add_zero] at b0
  rw [b0, bit_at f i 1 (by omega), bit_at f i 2 (by omega), bit_at f i 3 (by omega), bit_at f i 4 (by omega), bit_at f i 5 (by omega), bit_at f i 6 (by omega), bit_at f i 7 (by omega)]
  omega
theorem pop_all : ∀ n : Fin 256, Lib.pop8 (n.val : Int) = (pop (BitVec.ofNat 8 n.val) : Int) ∧ pop (BitVec.ofNat 8 n.val) ≤ 8 := by decide +kernel
theorem pop_eq (x : B8) : Lib.pop8 (bi x) = (pop x : Int) ∧ pop x ≤ 8 := by
  have := pop_all ⟨x.toNat, x.isLt⟩
  rw [BitVec.ofNat_toNat, BitVec.setWidth_eq] at this
  exact this
set_option maxRecDepth 100000 in
theorem ones_any (x : B8) (w : World) : Calls Try.prog 28 #[.int .u8 (bi x)] w fun e w' => e = .returned (.int .i64 (pop x : Int)) ∧ w' = w := by
  have hx := bi_bd x
  have hx1 := hx.1
  have hx2 := hx.2
  have E := (pop_eq x).1
  have hp := (pop_eq x).2
  generalize bi x = y at *
  generalize pop x = p at *
  go_enter Try.func28, Try.ntmps28
  go_wp2
  go_ret
  exact ⟨by first | rfl | (rw [← E]; rfl), rfl⟩
set_option maxRecDepth 100000 in
theorem full_yes (a : Option Addr) (len cap : Nat) (f : List B8) (w : World) (H : Bts w a len cap f) (hF : isF f) (hlen : len ≤ 140737488355328) :
    Calls Try.prog 17 #[.slice a len cap] w fun e w' => e = .returned (.tuple #[.int .i64 (cb f (8 * (len - 1)) : Int), .int .i64 (8 * ((len - 1 : Nat) : Int)), .int .i64 0]) ∧ w' = w := by
  have HP := hid (shape_yes a len cap f w H hF hlen)
  obtain ⟨r, hr⟩ : ∃ r, r = len - 1 := ⟨_, rfl⟩
  rw [← hr] at HP ⊢
  have hf1 := hF.1
  have hl := H.len
  have hrl : r + 1 = len := by omega
  have hr3 : r ≤ 140737488355328 := by omega
  have hd8 : Int.tdiv (8 * (r : Int)) 8 = (r : Int) := by rw [Int.tdiv_eq_ediv_of_nonneg (by omega)]; omega
  have hd9 : 8 * (r : Int) / 8 = (r : Int) := by omega
  generalize lst f = q at HP
  replace H := hid H
  replace hrl := hid hrl
  clear hr hF hf1 hl
  go_enter Try.func17, Try.ntmps17
  go_wp2_with fail
  refine HP.out.mono ?_
  rintro e w' ⟨rfl, rfl⟩
  go_wp2_with fail
  go_loop [2, 18] (fun sv iv => ∃ i : Nat, i ≤ r ∧ sv = .int .i64 (cb f (8 * i) : Int) ∧ iv = .int .i64 (i : Int)) (fun _ iv => r - (intOf iv).toNat)
  case atStart => exact ⟨0, by omega, rfl, rfl⟩
  case round =>
    obtain ⟨i, hi, rfl, rfl⟩ := hrel
    have hc := cb_le f (8 * i)
    by_cases hlt : i < r
    · obtain ⟨bk, off, rfl, c⟩ := H.out.cell i (by have := hrl.out; omega)
      have hB := hid (cb_byte f i)
      have hp := (pop_eq (f.getD i 0#8)).2
      generalize f.getD i 0#8 = v at c hB hp
      generalize cb f (8 * i) = q at *
      have hvb := bi_bd v
      have ii : (i : Int) < (len : Int) := by have := hrl.out; omega
      have ir : (i : Int) < (r : Int) := by omega
      go_wp2_with fail
      refine (ones_any v _).mono ?_
      rintro e w' ⟨rfl, rfl⟩
      generalize pop v = p at *
      go_wp2_with fail
      go_round
      case rel => exact ⟨i + 1, by omega, by rw [hB.out]; go_num, by go_num⟩
      case measure => simp [intOf]; omega
    · have e1 : i = r := by omega
      subst e1
      go_wp2
      go_ret3
      exact ⟨rfl, rfl⟩
theorem tmod_bd (x : Int) (n : Nat) (hn : 1 ≤ n) : -(n : Int) < x.tmod n ∧ x.tmod n < n ∧ (x.tmod n + n) % (n : Int) = x % n := by
  have hn' : (0 : Int) < (n : Int) := by omega
  refine ⟨?_, Int.tmod_lt_of_pos _ hn', ?_⟩
  · have := Int.tmod_lt_of_pos (-x) hn'
    rw [Int.neg_tmod] at this
    omega
  · rw [Int.add_emod_right, Int.tmod_def]
    rw [Int.sub_emod, Int.mul_emod_right, Int.sub_zero, Int.emod_emod_of_dvd _ (Int.dvd_refl _)]
set_option maxRecDepth 100000 in
theorem among_any (x : Int) (n : Nat) (w : World) (hn : 1 ≤ n ∧ n ≤ 4611686018427387904) : Calls Try.prog 23 #[.int .i64 x, .int .i64 (n : Int)] w fun e w' => e = .returned (.int .i64 (x % (n : Int))) ∧ w' = w := by
  obtain ⟨h1, h2, h3⟩ := tmod_bd x n hn.1
  have e : wrap64 (x.tmod n + n) = x.tmod n + n := by unfold wrap64; omega
  have e2 : (wrap64 (x.tmod n + n)).tmod n = x % n := by rw [e, Int.tmod_eq_emod_of_nonneg (by omega), h3]
  have hn0 : ((n : Int) == 0) = false := by simp; omega
  clear h1 h2 h3 e
  go_enter Try.func23, Try.ntmps23
  go_wp2_with fail
  go_ret
  exact ⟨rfl, rfl⟩
theorem mk0 : (mkf [] 10).map bi = [0, 0, 0, 0, 0, 0, 0, 0, 6] := by decide +kernel
theorem my0 : mayf (mkf [] 10) ⟨#[107]⟩ = false := by decide +kernel
theorem str0 : str [0, 0, 0, 0, 0, 0, 0, 0, 6] = ⟨#[0, 0, 0, 0, 0, 0, 0, 0, 6]⟩ := by decide +kernel
theorem nil_strs (w : World) : Strs w none 0 0 [] := ⟨rfl, Nat.le_refl _, by simp, fun _ => ⟨rfl, rfl⟩, fun i hi => by omega⟩
set_option maxRecDepth 100000 in
theorem works_any (w : World) : Calls Try.prog 22 #[] w fun e w' => e = .returned (.bool true) ∧ Below w.heap.size w w' := by
  go_enter Try.func22, Try.ntmps22
  go_wp2_with fail
  refine (make_ok none 0 0 [] 10 w (nil_strs w) (by omega) (by omega) (by omega)).mono ?_
  rintro e w1 ⟨rfl, hf, hb⟩
  have hB := fb_bts hf 9 (by rw [mkf_len]; rfl)
  have hcv := Bytes.conv hB
  rw [mk0, str0] at hcv
  have HM := hid (my0 ▸ may_any _ _ _ _ ⟨#[107]⟩ w1 hB (by omega) (by decide))
  rw [show room 0 10 + 1 = 9 from rfl]
  replace hf := hid hf
  replace hB := hid hB
  replace hb := hid hb
  go_wp2_with fail
  refine HM.out.mono ?_
  rintro e w2 ⟨rfl, hb2⟩
  go_wp2_with fail
  go_ret
  exact ⟨rfl, hb.out.trans (hb2.mono hb.out.size)⟩
end Go.Proofs.Ytempagacpfejdaa.Fu

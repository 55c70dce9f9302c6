/- Plain mathematics of bits that are turned in a list of bytes, all within 32 that stand one behind the other: the sum turns just where one is turned. -/
import Derived.Test.YtkgmdhldongloabDoorCrc
namespace Go.Proofs.YtkgmdhldongloabDoor.Bu
open Go.RowKit
open Go.Proofs.YtkgmdhldongloabDoor.Crc
set_option linter.unusedVariables false

def bit (xs : List Int) (j : Nat) : Bool := (xs.getD (j / 8) 0).toNat.testBit (j % 8)
theorem bits8_get (y : Int) (m : Nat) (h : m < 8) : (bits8 y)[m]? = some (y.toNat.testBit m) := by
  match m, h with
  | 0, _ | 1, _ | 2, _ | 3, _ | 4, _ | 5, _ | 6, _ | 7, _ => rfl
theorem bitsL_get (xs : List Int) : ∀ j, j < 8 * xs.length → (bitsL xs)[j]? = some (bit xs j) := by
  induction xs with
  | nil => intro j h; simp at h
  | cons x t ih =>
    intro j h
    have e : bitsL (x :: t) = bits8 x ++ bitsL t := by simp [bitsL]
    have l8 : (bits8 x).length = 8 := rfl
    rw [e]
    by_cases hj : j < 8
    · rw [List.getElem?_append_left (by rw [l8]; exact hj), bits8_get x j hj]
      unfold bit
      rw [Nat.div_eq_of_lt hj, Nat.mod_eq_of_lt hj]
      rfl
    · rw [List.getElem?_append_right (by rw [l8]; omega), l8, ih (j - 8) (by simp at h; omega)]
      unfold bit
      have h1 : j / 8 = (j - 8) / 8 + 1 := by omega
      have h2 : j % 8 = (j - 8) % 8 := by omega
      rw [h1, h2]
      simp

/-- The bits that are turned among the first k of a word, laid at a place. -/
def at? (f : BitVec 32) (a k j : Nat) : Bool := decide (a ≤ j) && (decide (j < a + k) && f.getLsbD (j - a))
/-- The list after k bits of the word. -/
def Inv (f : BitVec 32) (a k : Nat) (zs xs : List Int) : Prop :=
  xs.length = zs.length ∧ (∀ y ∈ xs, 0 ≤ y ∧ y ≤ 255) ∧ ∀ j, j < 8 * zs.length → bit xs j = (bit zs j ^^ at? f a k j)
theorem inv0 (f : BitVec 32) (a : Nat) (zs : List Int) (h : ∀ y ∈ zs, 0 ≤ y ∧ y ≤ 255) : Inv f a 0 zs zs := by
  refine ⟨rfl, h, fun j hj => ?_⟩
  have : at? f a 0 j = false := by
    unfold at?
    by_cases h : a ≤ j <;> simp [h]
    intro h; omega
  rw [this]; simp
theorem at_succ (f : BitVec 32) (a k j : Nat) : at? f a (k + 1) j = (at? f a k j ^^ (decide (j = a + k) && f.getLsbD k)) := by
  unfold at?
  by_cases h : j = a + k
  · subst h
    have e : a + k - a = k := by omega
    rw [e]
    simp
  · have e : decide (j < a + (k + 1)) = decide (j < a + k) := by
      apply decide_eq_decide.2; omega
    rw [e]
    simp [h]
theorem inv_no (f : BitVec 32) (a k : Nat) (zs xs : List Int) (h : Inv f a k zs xs) (hf : f.getLsbD k = false) : Inv f a (k + 1) zs xs := by
  refine ⟨h.1, h.2.1, fun j hj => ?_⟩
  rw [at_succ, hf, h.2.2 j hj]
  simp
def turn (xs : List Int) (j : Nat) : List Int := xs.set (j / 8) (((xs.getD (j / 8) 0).toNat ^^^ 2 ^ (j % 8) : Nat) : Int)
theorem pow_lt8 (m : Nat) (h : m < 8) : 2 ^ m < 2 ^ 8 := Nat.pow_lt_pow_right (by omega) h
theorem byte_of {xs : List Int} (h : ∀ y ∈ xs, 0 ≤ y ∧ y ≤ 255) (i : Nat) : 0 ≤ xs.getD i 0 ∧ xs.getD i 0 ≤ 255 := by
  rw [List.getD_eq_getElem?_getD]
  cases hi : xs[i]? with
  | none => simp
  | some y => exact h y (List.mem_of_getElem? hi)
theorem inv_yes (f : BitVec 32) (a k : Nat) (zs xs : List Int) (h : Inv f a k zs xs) (hf : f.getLsbD k = true) (hl : a + k < 8 * zs.length) : Inv f a (k + 1) zs (turn xs (a + k)) := by
  obtain ⟨h1, h2, h3⟩ := h
  have hb := byte_of h2 ((a + k) / 8)
  refine ⟨by simp [turn, h1], ?_, fun j hj => ?_⟩
  · intro y hy
    unfold turn at hy
    rcases List.mem_or_eq_of_mem_set hy with hy | rfl
    · exact h2 y hy
    · have := Nat.xor_lt_two_pow (show (xs.getD ((a + k) / 8) 0).toNat < 2 ^ 8 by omega) (pow_lt8 ((a + k) % 8) (by omega))
      omega
  · rw [at_succ, hf, Bool.and_true, ← Bool.xor_assoc, ← h3 j hj]
    unfold bit turn
    by_cases hq : (a + k) / 8 = j / 8
    · rw [List.getD_eq_getElem?_getD, List.getElem?_set, if_pos hq, if_pos (by rw [h1]; omega)]
      simp only [Option.getD_some, Int.toNat_natCast]
      rw [Nat.testBit_xor, hq, Nat.testBit_two_pow]
      congr 1
      apply decide_eq_decide.2
      omega
    · rw [List.getD_eq_getElem?_getD, List.getElem?_set, if_neg hq, ← List.getD_eq_getElem?_getD]
      have : decide (j = a + k) = false := by simp; omega
      rw [this, Bool.xor_false]

def fb (f : BitVec 32) (k : Nat) : List Bool := (List.range k).map f.getLsbD
theorem fb_len (f : BitVec 32) (k : Nat) : (fb f k).length = k := by simp [fb]
theorem mask_eq (f : BitVec 32) (a k n : Nat) (h : a + k ≤ n) : (List.range n).map (at? f a k) = List.replicate a false ++ (fb f k ++ List.replicate (n - a - k) false) := by
  apply List.ext_getElem
  · simp [fb_len]; omega
  · intro j h1 h2
    simp only [List.getElem_map, List.getElem_range]
    unfold at?
    by_cases c1 : j < a
    · rw [List.getElem_append_left (by simpa using c1)]
      simp
      intro hx; omega
    · rw [List.getElem_append_right (by simp; omega)]
      simp only [List.length_replicate]
      by_cases c2 : j - a < k
      · rw [List.getElem_append_left (by rw [fb_len]; exact c2)]
        have d1 : decide (a ≤ j) = true := by simp; omega
        have d2 : decide (j < a + k) = true := by simp; omega
        rw [d1, d2]
        simp [fb]
      · rw [List.getElem_append_right (by rw [fb_len]; omega)]
        simp
        intro _ hx; omega
theorem any_val (bs : List Bool) : bs.any id = true ↔ val bs ≠ 0 := by
  induction bs with
  | nil => simp [val]
  | cons b t ih =>
    cases b
    · simp only [List.any_cons, id, Bool.false_or, val, Bool.false_eq_true, if_false, ih]; omega
    · simp [val]
/-- Bursts are told. -/
theorem told (f : BitVec 32) (a k : Nat) (zs xs : List Int) (h : Inv f a k zs xs) (hk : k ≤ 32) (hl : a + k ≤ 8 * zs.length) : (sum xs = sum zs) ↔ (fb f k).any id = false := by
  have e : bitsL xs = List.zipWith xor ((List.range (8 * zs.length)).map (at? f a k)) (bitsL zs) := by
    apply List.ext_getElem?
    intro j
    by_cases hj : j < 8 * zs.length
    · rw [bitsL_get xs j (by rw [h.1]; exact hj), List.getElem?_zipWith, bitsL_get zs j hj, h.2.2 j hj]
      rw [List.getElem?_map, List.getElem?_range hj]
      simp [Bool.xor_comm]
    · rw [List.getElem?_eq_none (by rw [bitsL_len, h.1]; omega), List.getElem?_eq_none (by simp [bitsL_len]; omega)]
  have e2 : over (~~~0#32) xs = overB 0#32 (List.replicate a false ++ (fb f k ++ List.replicate (8 * zs.length - a - k) false)) ^^^ over (~~~0#32) zs := by
    have := overB_xor ((List.range (8 * zs.length)).map (at? f a k)) (bitsL zs) 0#32 (~~~0#32) (by simp [bitsL_len])
    rw [BitVec.zero_xor] at this
    unfold over
    rw [e, this, mask_eq f a k _ hl]
  constructor
  · intro hs
    cases hb : (fb f k).any id with
    | false => rfl
    | true =>
      exfalso
      have hne := burst a (8 * zs.length - a - k) (fb f k) (by rw [fb_len]; exact hk) ((any_val _).1 hb)
      apply hne
      have h1 : over (~~~0#32) xs = over (~~~0#32) zs := by
        have := congrArg (fun x => ~~~x) hs
        simpa [sum] using this
      rw [e2] at h1
      generalize over (~~~0#32) zs = q at h1
      generalize overB 0#32 _ = p at h1 ⊢
      have : p ^^^ q ^^^ q = 0#32 := by rw [h1, BitVec.xor_self]
      rwa [BitVec.xor_assoc, BitVec.xor_self, BitVec.xor_zero] at this
  · intro hb
    have hv : val (fb f k) = 0 := by
      have := any_val (fb f k)
      rw [hb] at this
      simp at this
      exact this
    have hz : List.replicate a false ++ (fb f k ++ List.replicate (8 * zs.length - a - k) false) = List.replicate (8 * zs.length) false := by
      rw [val_zero _ hv, fb_len, List.replicate_append_replicate, List.replicate_append_replicate]
      congr 1
      omega
    rw [hz, overB_zeros, shiftZ_zero, BitVec.zero_xor] at e2
    unfold sum
    rw [e2]
theorem any_no (f : BitVec 32) (k : Nat) (h : f.getLsbD k = false) : (fb f (k + 1)).any id = (fb f k).any id := by
  simp [fb, List.range_succ, h]
theorem any_yes (f : BitVec 32) (k : Nat) (h : f.getLsbD k = true) : (fb f (k + 1)).any id = true := by
  simp [fb, List.range_succ, h]
end Go.Proofs.YtkgmdhldongloabDoor.Bu

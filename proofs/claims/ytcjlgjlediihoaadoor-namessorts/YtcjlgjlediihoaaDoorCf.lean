/- The order of names: by kind, number, bytes; a list in that order is one alone. -/
import Derived.Test.YtcjlgjlediihoaaDoorRk6
import Derived.Test.YtcjlgjlediihoaaDoorSf
namespace Go.Proofs.YtcjlgjlediihoaaDoor.Cf
open Go.Proofs.YtcjlgjlediihoaaDoor.Rw (pr)
open Go.Lib (compareBytes compareInt)
set_option linter.unusedVariables false
set_option linter.unusedSimpArgs false

theorem u8_tri (a b : UInt8) : a < b ∨ b < a ∨ a = b := by
  rcases Nat.lt_trichotomy a.toNat b.toNat with h | h | h
  · exact .inl h
  · exact .inr (.inr (UInt8.toNat_inj.1 h))
  · exact .inr (.inl h)
theorem cb_neg : ∀ a b : List UInt8, compareBytes b a = - compareBytes a b
  | [], [] => rfl
  | [], _ :: _ => rfl
  | _ :: _, [] => rfl
  | a :: xs, b :: ys => by
    unfold compareBytes
    rcases u8_tri a b with h | h | h
    · have h2 : ¬ b < a := fun k => by have h3 : a.toNat < b.toNat := h; have h4 : b.toNat < a.toNat := k; omega
      rw [if_neg h2, if_pos h, if_pos h]
      rfl
    · have h2 : ¬ a < b := fun k => by have h3 : b.toNat < a.toNat := h; have h4 : a.toNat < b.toNat := k; omega
      rw [if_pos h, if_neg h2, if_pos h]
    · subst h
      have h2 : ¬ a < a := fun k => by have h4 : a.toNat < a.toNat := k; omega
      rw [if_neg h2, if_neg h2, if_neg h2, if_neg h2]
      exact cb_neg xs ys
theorem cb_zero : ∀ a b : List UInt8, compareBytes a b = 0 → a = b
  | [], [], _ => rfl
  | [], _ :: _, h => by cases h
  | _ :: _, [], h => by cases h
  | a :: xs, b :: ys, h => by
    unfold compareBytes at h
    split at h
    · cases h
    · split at h
      · cases h
      · rename_i h1 h2
        rcases u8_tri a b with k | k | k
        · exact absurd k h1
        · exact absurd k h2
        · rw [k, cb_zero xs ys h]
theorem cb_trans : ∀ a b c : List UInt8, compareBytes a b < 0 → compareBytes b c < 0 → compareBytes a c < 0
  | [], [], _, h, _ => by have : (0 : Int) < 0 := h; omega
  | [], _ :: _, [], _, h => by have : (1 : Int) < 0 := h; omega
  | [], _ :: _, _ :: _, _, _ => by show (-1 : Int) < 0; decide
  | _ :: _, [], _, h, _ => by have : (1 : Int) < 0 := h; omega
  | _ :: _, _ :: _, [], _, h => by have : (1 : Int) < 0 := h; omega
  | a :: xs, b :: ys, c :: zs, h, k => by
    have ih := cb_trans xs ys zs
    unfold compareBytes at h k ⊢
    have e1 : ∀ x y : UInt8, (x < y) = (x.toNat < y.toNat) := fun _ _ => rfl
    simp only [e1] at *
    by_cases h1 : a.toNat < b.toNat
    · by_cases h2 : b.toNat < c.toNat
      · rw [if_pos (by omega)]; decide
      · rw [if_neg h2] at k
        by_cases h3 : c.toNat < b.toNat
        · rw [if_pos h3] at k; omega
        · rw [if_pos (by omega)]; decide
    · rw [if_neg h1] at h
      by_cases h2 : b.toNat < a.toNat
      · rw [if_pos h2] at h; omega
      · rw [if_neg h2] at h
        by_cases h3 : b.toNat < c.toNat
        · rw [if_pos (by omega)]; decide
        · rw [if_neg h3] at k
          by_cases h4 : c.toNat < b.toNat
          · rw [if_pos h4] at k; omega
          · rw [if_neg h4] at k
            rw [if_neg (by omega), if_neg (by omega)]
            exact ih h k
/-- The order of Sort. -/
def cf (a b : ByteArray) : Int := if compareInt (pr a).1 (pr b).1 ≠ 0 then compareInt (pr a).1 (pr b).1 else if compareInt (pr a).2 (pr b).2 ≠ 0 then compareInt (pr a).2 (pr b).2 else compareBytes a.data.toList b.data.toList
theorem ci_lt (x y : Int) : compareInt x y < 0 ↔ x < y := by
  unfold compareInt
  split
  · omega
  · split <;> omega
theorem ci_zero (x y : Int) : compareInt x y = 0 ↔ x = y := by
  unfold compareInt
  split
  · omega
  · split <;> omega
theorem ci_neg (x y : Int) : compareInt y x = - compareInt x y := by
  unfold compareInt
  by_cases h : x < y
  · rw [if_neg (by omega), if_pos (by omega), if_pos h]; rfl
  · by_cases h2 : y < x
    · rw [if_pos h2, if_neg h, if_pos h2]
    · rw [if_neg h2, if_neg (by omega), if_neg h, if_neg (by omega)]; rfl
theorem cf_neg (a b : ByteArray) : cf b a = - cf a b := by
  unfold cf
  rw [ci_neg (pr a).1, ci_neg (pr a).2, cb_neg a.data.toList]
  generalize compareInt (pr a).1 (pr b).1 = x
  generalize compareInt (pr a).2 (pr b).2 = y
  generalize compareBytes a.data.toList b.data.toList = z
  by_cases h1 : x = 0
  · by_cases h2 : y = 0
    · simp [h1, h2]
    · simp [h1, h2]
  · simp [h1]
theorem byte_eq {a b : ByteArray} (h : a.data.toList = b.data.toList) : a = b := by
  cases a; cases b; simp at h; rw [ByteArray.mk.injEq]; exact Array.toList_inj.1 (by simpa using h)
theorem cf_zero (a b : ByteArray) (h : cf a b = 0) : a = b := by
  unfold cf at h
  split at h
  · rename_i h1; exact absurd h h1
  · split at h
    · rename_i h1; exact absurd h h1
    · exact byte_eq (cb_zero _ _ h)
theorem cf_lt (a b : ByteArray) : cf a b < 0 ↔ (pr a).1 < (pr b).1 ∨ ((pr a).1 = (pr b).1 ∧ ((pr a).2 < (pr b).2 ∨ ((pr a).2 = (pr b).2 ∧ compareBytes a.data.toList b.data.toList < 0))) := by
  have i1 := ci_lt (pr a).1 (pr b).1
  have i2 := ci_lt (pr a).2 (pr b).2
  have z1 := ci_zero (pr a).1 (pr b).1
  have z2 := ci_zero (pr a).2 (pr b).2
  unfold cf
  split
  · rename_i h1
    rw [i1]
    have : (pr a).1 ≠ (pr b).1 := fun e => h1 (z1.2 e)
    constructor
    · exact .inl
    · rintro (h | ⟨h, _⟩)
      · exact h
      · exact absurd h this
  · rename_i h1
    have e1 : (pr a).1 = (pr b).1 := z1.1 (by omega)
    split
    · rename_i h2
      rw [i2]
      have : (pr a).2 ≠ (pr b).2 := fun e => h2 (z2.2 e)
      constructor
      · exact fun h => .inr ⟨e1, .inl h⟩
      · rintro (h | ⟨_, h | ⟨h, _⟩⟩)
        · omega
        · exact h
        · exact absurd h this
    · rename_i h2
      have e2 : (pr a).2 = (pr b).2 := z2.1 (by omega)
      constructor
      · exact fun h => .inr ⟨e1, .inr ⟨e2, h⟩⟩
      · rintro (h | ⟨_, h | ⟨_, h⟩⟩)
        · omega
        · omega
        · exact h
theorem cf_trans {a b c : ByteArray} (h : cf a b < 0) (k : cf b c < 0) : cf a c < 0 := by
  rw [cf_lt] at *
  rcases h with h | ⟨h1, h | ⟨h2, h3⟩⟩
  · rcases k with k | ⟨k1, _⟩
    · exact .inl (by omega)
    · exact .inl (by omega)
  · rcases k with k | ⟨k1, k | ⟨k2, _⟩⟩
    · exact .inl (by omega)
    · exact .inr ⟨by omega, .inl (by omega)⟩
    · exact .inr ⟨by omega, .inl (by omega)⟩
  · rcases k with k | ⟨k1, k | ⟨k2, k3⟩⟩
    · exact .inl (by omega)
    · exact .inr ⟨by omega, .inl (by omega)⟩
    · exact .inr ⟨by omega, .inr ⟨by omega, cb_trans _ _ _ h3 k3⟩⟩
theorem cf_le_trans {a b c : ByteArray} (h : ¬ cf b a < 0) (k : ¬ cf c b < 0) : ¬ cf c a < 0 := by
  intro hn
  rw [cf_neg] at h k
  by_cases h0 : cf a b = 0
  · have := cf_zero _ _ h0
    subst this
    rw [cf_neg] at hn
    omega
  · by_cases k0 : cf b c = 0
    · have := cf_zero _ _ k0
      subst this
      rw [cf_neg] at hn
      omega
    · have := cf_trans (a := a) (b := b) (c := c) (by omega) (by omega)
      rw [cf_neg] at hn
      omega
/-- In the order of Sort. -/
def le (a b : ByteArray) : Prop := ¬ cf b a < 0
theorem le_anti {a b : ByteArray} (h : le a b) (k : le b a) : a = b := by
  unfold le at h k
  rw [cf_neg] at h
  exact cf_zero _ _ (by omega)
/-- These, sorted. -/
def Std (xs ys : List ByteArray) : Prop := ys.Perm xs ∧ ys.Pairwise le
theorem Std.one {xs ys zs : List ByteArray} (h : Std xs ys) (k : Std xs zs) : ys = zs :=
  List.Perm.eq_of_pairwise (le := le) (fun a b _ _ h1 h2 => le_anti h1 h2) h.2 k.2 (h.1.trans k.1.symm)
end Go.Proofs.YtcjlgjlediihoaaDoor.Cf

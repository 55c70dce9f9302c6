/- What a range over a string tells, piece by piece. -/
import Derived.Lib.DecodeN
import Derived.Lib.RuneCount
import Derived.Below
namespace Go.Proofs.YtcjlgjlediihoaaDoor.Ut
set_option linter.unusedVariables false
set_option linter.unusedSimpArgs false

/-- The byte at a place, 0 behind the end. -/
def bt (s : ByteArray) (j : Nat) : Nat := (s.get! j).toNat
theorem bt_lt (s : ByteArray) (j : Nat) : bt s j < 256 := (s.get! j).toNat_lt
theorem bt_eq (s : ByteArray) (j : Nat) (h : j < s.size) : (s[j]'h).toNat = bt s j := by
  unfold bt
  have := get_at s j h
  rw [Nat.add_zero] at this
  rw [this]
theorem bt_data (s : ByteArray) (j : Nat) (h : j < s.data.toList.length) : (s.data.toList[j]'h).toNat = bt s j := by
  have h' : j < s.size := by rw [Array.length_toList] at h; exact h
  rw [← bt_eq s j h']
  simp [ByteArray.getElem_eq_getElem_data]
theorem bt_end (s : ByteArray) (j : Nat) (h : s.size ≤ j) : bt s j = 0 := by
  unfold bt
  have : s.get! j = 0 := by
    show s.data[j]! = 0
    have : ¬ j < s.data.size := by
      have : s.data.size = s.size := rfl
      omega
    rw [getElem!_def, Array.getElem?_eq_none (by omega)]
    rfl
  rw [this]
  rfl
theorem dec_at (s : ByteArray) (p : Nat) : Utf8.decode s p = Lib.decodeN (s.size - p) (bt s p) (bt s (p + 1)) (bt s (p + 2)) (bt s (p + 3)) := Lib.decode_at s p
theorem dec_small (s : ByteArray) (p : Nat) (h : bt s p < 128) : Utf8.decode s p = (bt s p, 1) := by
  rw [dec_at, Lib.decodeN, if_pos h]
set_option maxHeartbeats 1000000 in
theorem dec_big (s : ByteArray) (p : Nat) (hp : p < s.size) (h : 128 ≤ bt s p) :
    128 ≤ (Utf8.decode s p).1 ∧ 1 ≤ (Utf8.decode s p).2 ∧ p + (Utf8.decode s p).2 ≤ s.size ∧ (Utf8.decode s p).2 ≤ 4 ∧ ∀ k, k < (Utf8.decode s p).2 → 128 ≤ bt s (p + k) := by
  rw [dec_at]
  generalize hb1 : bt s (p + 1) = b1
  generalize hb2 : bt s (p + 2) = b2
  generalize hb3 : bt s (p + 3) = b3
  have hk : ∀ n : Nat, (1 < n → 128 ≤ b1) → (2 < n → 128 ≤ b2) → (3 < n → 128 ≤ b3) → n ≤ 4 → ∀ k, k < n → 128 ≤ bt s (p + k) := by
    intro n h1 h2 h3 h4 k hk
    rcases (by omega : k = 0 ∨ k = 1 ∨ k = 2 ∨ k = 3) with rfl | rfl | rfl | rfl
    · exact h
    · rw [hb1]; exact h1 hk
    · rw [hb2]; exact h2 hk
    · rw [hb3]; exact h3 hk
  unfold Lib.decodeN
  rw [if_neg (by omega)]
  have q1 : (128 ≤ 65533 ∧ 1 ≤ 1 ∧ p + 1 ≤ s.size ∧ 1 ≤ 4 ∧ ∀ k, k < 1 → 128 ≤ bt s (p + k)) := ⟨by omega, by omega, by omega, by omega, hk 1 (by omega) (by omega) (by omega) (by omega)⟩
  split
  · split
    · exact ⟨by omega, by omega, by omega, by omega, hk 2 (by omega) (by omega) (by omega) (by omega)⟩
    · exact q1
  · split
    · split
      · exact ⟨by omega, by omega, by omega, by omega, hk 3 (by omega) (by omega) (by omega) (by omega)⟩
      · exact q1
    · split
      · split
        · exact ⟨by omega, by omega, by omega, by omega, hk 4 (by omega) (by omega) (by omega) (by omega)⟩
        · exact q1
      · exact q1
/-- The width is never 0, and stays inside. -/
theorem dec_wd (s : ByteArray) (p : Nat) (hp : p < s.size) : 1 ≤ (Utf8.decode s p).2 ∧ p + (Utf8.decode s p).2 ≤ s.size ∧ (Utf8.decode s p).2 ≤ 4 := by
  by_cases h : bt s p < 128
  · rw [dec_small s p h]
    exact ⟨by omega, by show p + 1 ≤ _; omega, by omega⟩
  · have := dec_big s p hp (by omega)
    exact ⟨this.2.1, this.2.2.1, this.2.2.2.1⟩
theorem dec_lt (s : ByteArray) (p : Nat) (hp : p < s.size) (h : (Utf8.decode s p).1 < 128) : bt s p < 128 ∧ Utf8.decode s p = (bt s p, 1) := by
  by_cases hb : bt s p < 128
  · exact ⟨hb, dec_small s p hb⟩
  · have := (dec_big s p hp (by omega)).1
    omega
theorem dec_le (s : ByteArray) (p : Nat) : (Utf8.decode s p).1 ≤ 1114111 := by
  rw [dec_at]
  unfold Lib.decodeN
  have h0 := bt_lt s p
  have h1 := bt_lt s (p + 1)
  have h2 := bt_lt s (p + 2)
  have h3 := bt_lt s (p + 3)
  repeat' split
  all_goals simp only []
  all_goals omega
/-- No byte ahead of a place is of a kind: from one piece to the next. -/
theorem none_next (Q : Nat → Bool) (s : ByteArray) (p : Nat) (hp : p < s.size) (hQ : ∀ n, 128 ≤ n → Q n = false) (h : ∀ j, j < p → Q (bt s j) = false) (hr : Q (Utf8.decode s p).1 = false) :
    ∀ j, j < p + (Utf8.decode s p).2 → Q (bt s j) = false := by
  intro j hj
  by_cases hjp : j < p
  · exact h j hjp
  · by_cases hb : bt s p < 128
    · rw [dec_small s p hb] at hj hr
      have : j = p := by
        have : j < p + 1 := hj
        omega
      subst this
      exact hr
    · have := (dec_big s p hp (by omega)).2.2.2.2 (j - p) (by omega)
      rw [Nat.add_sub_cancel' (by omega)] at this
      exact hQ _ this
/-- The first place, from one on, where a byte is of a kind; the text's end, where there is none. -/
def fst (Q : Nat → Bool) (s : ByteArray) : Nat → Nat → Nat
  | 0, p => p
  | f + 1, p => if p < s.size then (if Q (bt s p) then p else fst Q s f (p + 1)) else p
theorem fst_spec (Q : Nat → Bool) (s : ByteArray) : ∀ f p, p ≤ s.size → s.size ≤ p + f → p ≤ fst Q s f p ∧ fst Q s f p ≤ s.size ∧ (∀ j, p ≤ j → j < fst Q s f p → Q (bt s j) = false) ∧ (fst Q s f p < s.size → Q (bt s (fst Q s f p)) = true)
  | 0, p, hp, hf => ⟨Nat.le_refl _, hp, fun j h1 h2 => by simp [fst] at h2; omega, fun h => by simp [fst] at h; omega⟩
  | f + 1, p, hp, hf => by
    unfold fst
    by_cases h : p < s.size
    · rw [if_pos h]
      by_cases hq : Q (bt s p) = true
      · rw [if_pos hq]
        exact ⟨Nat.le_refl _, hp, fun j h1 h2 => by omega, fun _ => hq⟩
      · rw [if_neg hq]
        obtain ⟨a, b, c, d⟩ := fst_spec Q s f (p + 1) (by omega) (by omega)
        refine ⟨by omega, b, fun j h1 h2 => ?_, d⟩
        by_cases hj : j = p
        · subst hj; simpa using hq
        · exact c j (by omega) h2
    · rw [if_neg h]
      exact ⟨Nat.le_refl _, hp, fun j h1 h2 => by omega, fun h' => absurd h' h⟩
def fb (Q : Nat → Bool) (s : ByteArray) (p : Nat) : Nat := fst Q s s.size p
theorem fb_spec (Q : Nat → Bool) (s : ByteArray) (p : Nat) (hp : p ≤ s.size) : p ≤ fb Q s p ∧ fb Q s p ≤ s.size ∧ (∀ j, p ≤ j → j < fb Q s p → Q (bt s j) = false) ∧ (fb Q s p < s.size → Q (bt s (fb Q s p)) = true) :=
  fst_spec Q s s.size p hp (by omega)
theorem fb_is (Q : Nat → Bool) (s : ByteArray) (p q : Nat) (h1 : p ≤ q) (h2 : q ≤ s.size) (h3 : ∀ j, p ≤ j → j < q → Q (bt s j) = false) (h4 : q < s.size → Q (bt s q) = true) : fb Q s p = q := by
  obtain ⟨a, b, c, d⟩ := fb_spec Q s p (by omega)
  by_cases h : fb Q s p < q
  · have := h3 _ a h
    rw [d (by omega)] at this
    simp at this
  · by_cases h' : q < fb Q s p
    · have := c q h1 h'
      rw [h4 (by omega)] at this
      simp at this
    · omega
end Go.Proofs.YtcjlgjlediihoaaDoor.Ut

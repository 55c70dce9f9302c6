/- Plain mathematics of Between: a byte raised behind what two texts share leads to the shortest text between them. -/
import Derived.Test.YtbpgifpplnmjmaaIk
namespace Go.Proofs.Ytbpgifpplnmjmaa.Ik
set_option linter.unusedVariables false

/-- A text up to and with a place, the byte there raised. -/
def rs (a : Tx) (j : Nat) : Tx := a.take j ++ [a.getD j 0 + 1]
theorem rs_len (a : Tx) (j : Nat) (h : j < a.length) : (rs a j).length = j + 1 := by
  unfold rs; simp; omega
theorem u8_succ (x : UInt8) (h : x ≠ 255) : (x + 1).toNat = x.toNat + 1 := by
  have h1 : x.toNat ≠ 255 := fun e => h (u8_eq x 255 (by rw [e]; rfl))
  have := x.toNat_lt
  rw [UInt8.toNat_add]
  simp
  omega
theorem rs_above (a : Tx) : ∀ j, j < a.length → a.getD j 0 ≠ 255 → a < rs a j := by
  induction a with
  | nil => intro j h; simp at h
  | cons x t ih =>
    intro j h hn
    cases j with
    | zero =>
      simp only [rs, List.take_zero, List.nil_append, List.getD_cons_zero] at hn ⊢
      rw [lt_cons]
      left
      rw [u8_lt, u8_succ x hn]
      omega
    | succ j =>
      simp only [rs, List.take_succ_cons, List.getD_cons_succ, List.cons_append] at hn ⊢
      rw [lt_cons]
      exact Or.inr ⟨rfl, ih j (by simpa using h) hn⟩
/-- What is not below a text and shorter leaves it upwards at some place. -/
theorem leaves (t : Tx) : ∀ a : Tx, ¬ t < a → t.length < a.length → ∃ j, j < t.length ∧ a.getD j 0 ≠ 255 ∧ ¬ t < rs a j ∧ ∀ b : Tx, b.take (j + 1) = a.take (j + 1) → b < t := by
  induction t with
  | nil =>
    intro a h hl
    cases a with
    | nil => simp at hl
    | cons x a => exact absurd (nil_lt x a) h
  | cons y t ih =>
    intro a h hl
    cases a with
    | nil => simp at hl
    | cons x a =>
      rw [lt_cons] at h
      by_cases e : y = x
      · subst e
        have h1 : ¬ t < a := fun h' => h (Or.inr ⟨rfl, h'⟩)
        obtain ⟨j, j1, j2, j3, j4⟩ := ih a h1 (by simpa using hl)
        refine ⟨j + 1, by simpa using j1, by simpa using j2, ?_, ?_⟩
        · simp only [rs, List.take_succ_cons, List.getD_cons_succ, List.cons_append]
          rw [lt_cons]
          rintro (h' | ⟨_, h'⟩)
          · rw [u8_lt] at h'; omega
          · exact j3 h'
        · intro b hb
          cases b with
          | nil => simp at hb
          | cons z b =>
            simp only [List.take_succ_cons, List.cons.injEq] at hb
            obtain ⟨rfl, hb⟩ := hb
            rw [lt_cons]
            exact Or.inr ⟨rfl, j4 b hb⟩
      · have hxy : x.toNat < y.toNat := by
          rcases Nat.lt_trichotomy x.toNat y.toNat with h' | h' | h'
          · exact h'
          · exact absurd (u8_eq x y h').symm e
          · exact absurd (Or.inl ((u8_lt y x).2 h')) h
        have hn : x ≠ 255 := by
          rintro rfl
          have := y.toNat_lt
          simp at hxy
          omega
        refine ⟨0, by simp, by simpa using hn, ?_, ?_⟩
        · simp only [rs, List.take_zero, List.nil_append, List.getD_cons_zero]
          rw [lt_cons]
          rintro (h' | ⟨_, h'⟩)
          · rw [u8_lt, u8_succ x hn] at h'; omega
          · exact not_lt_nil _ h'
        · intro b hb
          cases b with
          | nil => simp at hb
          | cons z b =>
            simp at hb
            subst hb
            rw [lt_cons]
            left
            rw [u8_lt]
            exact hxy
/-- How many bytes two texts share at their beginnings. -/
def Sh (a b : Tx) (n : Nat) : Prop := n ≤ a.length ∧ n ≤ b.length ∧ (∀ j, j < n → a.getD j 0 = b.getD j 0) ∧ (n < a.length → n < b.length → a.getD n 0 ≠ b.getD n 0)
theorem take_of_agree (a : Tx) : ∀ (b : Tx) (n : Nat), n ≤ a.length → n ≤ b.length → (∀ j, j < n → a.getD j 0 = b.getD j 0) → a.take n = b.take n := by
  induction a with
  | nil => intro b n h1 h2 h; have : n = 0 := by simpa using h1
           subst this; simp
  | cons x a ih =>
    intro b n h1 h2 h
    cases n with
    | zero => simp
    | succ n =>
      cases b with
      | nil => simp at h2
      | cons y b =>
        have h0 := h 0 (by omega)
        simp at h0
        subst h0
        simp only [List.take_succ_cons]
        rw [ih b n (by simpa using h1) (by simpa using h2) (fun j hj => by have := h (j + 1) (by omega); simpa using this)]
/-- The places that were passed by. -/
def Past (a b : Tx) (n i : Nat) : Prop := ∀ j, n ≤ j → j < i → a.getD j 0 ≠ 255 → ¬ rs a j < b
theorem short_place (a b : Tx) (n : Nat) (hsh : Sh a b n) (t : Tx) (h1 : ¬ t < a) (h2 : t < b) (hl : t.length < a.length) : ∃ j, n ≤ j ∧ j < t.length ∧ a.getD j 0 ≠ 255 ∧ ¬ t < rs a j ∧ rs a j < b := by
  obtain ⟨j, j1, j2, j3, j4⟩ := leaves t a h1 hl
  refine ⟨j, ?_, j1, j2, j3, lt_of_le_of_lt j3 h2⟩
  rcases Nat.lt_or_ge j n with h | h
  · exfalso
    have e : b.take (j + 1) = a.take (j + 1) := (take_of_agree a b (j + 1) (by have := hsh.1; omega) (by have := hsh.2.1; omega) (fun k hk => hsh.2.2.1 k (by omega))).symm
    exact lt_irrefl b (lt_trans (j4 b e) h2)
  · exact h
theorem short_rs (a b : Tx) (n i : Nat) (hsh : Sh a b n) (hi : i + 1 < a.length) (hp : Past a b n i) (hn : a.getD i 0 ≠ 255) (hlt : rs a i < b) : Short a b (rs a i) := by
  refine ⟨not_lt_of (rs_above a i (by omega) hn), hlt, by rw [rs_len a i (by omega)]; omega, fun t h1 h2 => ?_⟩
  rw [rs_len a i (by omega)]
  rcases Nat.lt_or_ge (i + 1) t.length with h | h
  · exact Or.inl h
  · right
    obtain ⟨j, j0, j1, j2, j3, j4⟩ := short_place a b n hsh t h1 h2 (by omega)
    rcases Nat.lt_or_ge j i with h' | h'
    · exact absurd j4 (hp j j0 h' j2)
    · have : j = i := by omega
      subst this
      exact ⟨by omega, j3⟩
theorem short_self (a b : Tx) (n i : Nat) (hab : a < b) (hsh : Sh a b n) (hi : a.length ≤ i + 1) (hp : Past a b n i) : Short a b a := by
  refine ⟨lt_irrefl a, hab, Nat.le_refl _, fun t h1 h2 => ?_⟩
  rcases Nat.lt_trichotomy a.length t.length with h | h | h
  · exact Or.inl h
  · exact Or.inr ⟨h, h1⟩
  · exfalso
    obtain ⟨j, j0, j1, j2, j3, j4⟩ := short_place a b n hsh t h1 h2 h
    exact hp j j0 (by omega) j2 j4
theorem between_rs (a b : Tx) (n i : Nat) (hab : a < b) (hsh : Sh a b n) (hi : i + 1 < a.length) (hp : Past a b n i) (hn : a.getD i 0 ≠ 255) (hlt : rs a i < b) : rs a i = between a b :=
  short_unique a b _ _ (short_rs a b n i hsh hi hp hn hlt) (between_short a b hab)
theorem between_self (a b : Tx) (n i : Nat) (hab : a < b) (hsh : Sh a b n) (hi : a.length ≤ i + 1) (hp : Past a b n i) : a = between a b :=
  short_unique a b _ _ (short_self a b n i hab hsh hi hp) (between_short a b hab)
end Go.Proofs.Ytbpgifpplnmjmaa.Ik

/- Plain mathematics of stage 3: texts in their order, the next text of a length, the shortest text between two, internal keys in their order, and that a stable order is one alone. -/
import Derived.WalkKit
import Derived.ProofKit
import Derived.OpenShut
namespace Go.Proofs.Ytgjodfaliajlgaa.Ik
set_option linter.unusedVariables false

abbrev Tx := List UInt8

/-! ### Texts in their order -/
theorem u8_lt (x y : UInt8) : x < y ↔ x.toNat < y.toNat := UInt8.lt_iff_toNat_lt
theorem u8_eq (x y : UInt8) (h : x.toNat = y.toNat) : x = y := UInt8.toNat_inj.1 h
theorem lt_cons (x y : UInt8) (s t : Tx) : (x :: s) < (y :: t) ↔ x < y ∨ x = y ∧ s < t := List.cons_lt_cons_iff
theorem not_lt_nil (s : Tx) : ¬ s < [] := List.not_lt_nil s
theorem nil_lt (x : UInt8) (s : Tx) : ([] : Tx) < x :: s := List.nil_lt_cons x s
theorem lt_irrefl (s : Tx) : ¬ s < s := by
  induction s with
  | nil => exact not_lt_nil _
  | cons x t ih =>
    rw [lt_cons]
    rintro (h | ⟨_, h⟩)
    · rw [u8_lt] at h; omega
    · exact ih h
theorem lt_trans {r s t : Tx} (h1 : r < s) (h2 : s < t) : r < t := by
  induction r generalizing s t with
  | nil => cases t with
    | nil => exact absurd h2 (not_lt_nil _)
    | cons y u => exact nil_lt _ _
  | cons x a ih =>
    cases s with
    | nil => exact absurd h1 (not_lt_nil _)
    | cons y b =>
      cases t with
      | nil => exact absurd h2 (not_lt_nil _)
      | cons z c =>
        rw [lt_cons] at h1 h2 ⊢
        rcases h1 with h1 | ⟨rfl, h1⟩ <;> rcases h2 with h2 | ⟨rfl, h2⟩
        · left; rw [u8_lt] at *; omega
        · left; exact h1
        · left; exact h2
        · right; exact ⟨rfl, ih h1 h2⟩
theorem lt_total (s t : Tx) : s < t ∨ s = t ∨ t < s := by
  induction s generalizing t with
  | nil => cases t with
    | nil => right; left; rfl
    | cons y u => left; exact nil_lt _ _
  | cons x a ih =>
    cases t with
    | nil => right; right; exact nil_lt _ _
    | cons y b =>
      rw [lt_cons, lt_cons]
      rcases Nat.lt_trichotomy x.toNat y.toNat with h | h | h
      · left; left; rw [u8_lt]; exact h
      · have := u8_eq x y h
        subst this
        rcases ih b with h | h | h
        · left; right; exact ⟨rfl, h⟩
        · right; left; rw [h]
        · right; right; right; exact ⟨rfl, h⟩
      · right; right; left; rw [u8_lt]; exact h
theorem not_lt_of {s t : Tx} (h : s < t) : ¬ t < s := fun h' => lt_irrefl s (lt_trans h h')
theorem eq_of_not {s t : Tx} (h1 : ¬ s < t) (h2 : ¬ t < s) : s = t := by
  rcases lt_total s t with h | h | h
  · exact absurd h h1
  · exact h
  · exact absurd h h2
theorem le_trans {r s t : Tx} (h1 : ¬ s < r) (h2 : ¬ t < s) : ¬ t < r := by
  intro h
  rcases lt_total r s with h3 | h3 | h3
  · exact h2 (lt_trans h h3)
  · subst h3; exact h2 h
  · exact h1 h3
theorem lt_of_lt_of_le {r s t : Tx} (h1 : r < s) (h2 : ¬ t < s) : r < t := by
  rcases lt_total s t with h | h | h
  · exact lt_trans h1 h
  · subst h; exact h1
  · exact absurd h h2
theorem lt_of_le_of_lt {r s t : Tx} (h1 : ¬ s < r) (h2 : s < t) : r < t := by
  rcases lt_total r s with h | h | h
  · exact lt_trans h h2
  · subst h; exact h2
  · exact absurd h h1
/-- After: the least text behind. -/
theorem after (s : Tx) : s < s ++ [0] := by
  induction s with
  | nil => exact nil_lt _ _
  | cons x t ih => rw [List.cons_append, lt_cons]; exact Or.inr ⟨rfl, ih⟩
theorem after_least (s t : Tx) (h : s < t) : ¬ t < s ++ [0] := by
  induction s generalizing t with
  | nil =>
    cases t with
    | nil => exact fun h' => absurd h (not_lt_nil _)
    | cons y u =>
      show ¬ (y :: u) < [0]
      rw [lt_cons]
      rintro (h' | ⟨_, h'⟩)
      · rw [u8_lt] at h'; simp at h'
      · exact not_lt_nil _ h'
  | cons x a ih =>
    cases t with
    | nil => exact absurd h (not_lt_nil _)
    | cons y b =>
      rw [List.cons_append, lt_cons]
      rw [lt_cons] at h
      rintro (h' | ⟨rfl, h'⟩)
      · rcases h with h | ⟨rfl, _⟩
        · rw [u8_lt] at h h'; omega
        · rw [u8_lt] at h'; omega
      · rcases h with h | ⟨_, h⟩
        · rw [u8_lt] at h; omega
        · exact ih b h h'
/-- A beginning against a whole: of the same length as the beginning only what is above the beginning is not below the whole. -/
theorem prefix_lt (p q : Tx) (hq : q ≠ []) (t : Tx) (ht : t.length = p.length) : ¬ t < p ++ q ↔ p < t := by
  induction p generalizing t with
  | nil =>
    have : t = [] := List.eq_nil_of_length_eq_zero ht
    subst this
    cases q with
    | nil => exact absurd rfl hq
    | cons x u => simp
  | cons x a ih =>
    cases t with
    | nil => simp at ht
    | cons y b =>
      rw [List.cons_append, lt_cons, lt_cons]
      have := ih b (by simpa using ht)
      constructor
      · intro h
        rcases Nat.lt_trichotomy x.toNat y.toNat with h' | h' | h'
        · left; rw [u8_lt]; exact h'
        · have e := u8_eq x y h'
          subst e
          right
          exact ⟨rfl, this.1 (fun hb => h (Or.inr ⟨rfl, hb⟩))⟩
        · exact absurd (Or.inl (by rw [u8_lt]; exact h')) h
      · rintro (h | ⟨rfl, h⟩) (h' | ⟨e, h'⟩)
        · rw [u8_lt] at h h'; omega
        · subst e; rw [u8_lt] at h; omega
        · rw [u8_lt] at h'; omega
        · exact this.2 h h'

/-! ### The next text of a length -/
def inc : Tx → Option Tx
  | [] => none
  | x :: t => match inc t with
    | some u => some (x :: u)
    | none => if x.toNat < 255 then some ((x + 1) :: List.replicate t.length 0) else none
theorem zeros_least (n : Nat) (t : Tx) (ht : t.length = n) : ¬ t < List.replicate n 0 := by
  induction n generalizing t with
  | zero => rw [List.replicate_zero]; exact not_lt_nil _
  | succ n ih =>
    cases t with
    | nil => simp at ht
    | cons y b =>
      rw [List.replicate_succ, lt_cons]
      rintro (h | ⟨_, h⟩)
      · rw [u8_lt] at h; simp at h
      · exact ih b (by simpa using ht) h
theorem inc_spec (s : Tx) : match inc s with
    | some u => u.length = s.length ∧ s < u ∧ ∀ t : Tx, t.length = s.length → s < t → ¬ t < u
    | none => ∀ t : Tx, t.length = s.length → ¬ s < t := by
  induction s with
  | nil =>
    show ∀ t : Tx, t.length = 0 → ¬ ([] : Tx) < t
    intro t ht
    have : t = [] := List.eq_nil_of_length_eq_zero ht
    subst this
    exact not_lt_nil _
  | cons x a ih =>
    cases hi : inc a with
    | some u =>
      rw [hi] at ih
      have e : inc (x :: a) = some (x :: u) := by simp [inc, hi]
      rw [e]
      obtain ⟨h1, h2, h3⟩ := ih
      refine ⟨by simp [h1], (lt_cons _ _ _ _).2 (Or.inr ⟨rfl, h2⟩), fun t ht hst => ?_⟩
      cases t with
      | nil => simp at ht
      | cons y b =>
        rw [lt_cons] at hst ⊢
        rintro (h' | ⟨rfl, h'⟩)
        · rcases hst with h | ⟨rfl, _⟩
          · rw [u8_lt] at h h'; omega
          · rw [u8_lt] at h'; omega
        · rcases hst with h | ⟨_, h⟩
          · rw [u8_lt] at h; omega
          · exact h3 b (by simpa using ht) h h'
    | none =>
      rw [hi] at ih
      by_cases hx : x.toNat < 255
      · have e : inc (x :: a) = some ((x + 1) :: List.replicate a.length 0) := by simp [inc, hi, hx]
        rw [e]
        have hx1 : (x + 1).toNat = x.toNat + 1 := by
          rw [UInt8.toNat_add]
          simp
          omega
        refine ⟨by simp, (lt_cons _ _ _ _).2 (Or.inl (by rw [u8_lt, hx1]; omega)), fun t ht hst => ?_⟩
        cases t with
        | nil => simp at ht
        | cons y b =>
          rw [lt_cons] at hst ⊢
          rintro (h' | ⟨e', h'⟩)
          · rcases hst with h | ⟨rfl, h⟩
            · rw [u8_lt] at h h'; omega
            · exact ih b (by simpa using ht) h
          · exact zeros_least _ b (by simpa using ht) h'
      · have e : inc (x :: a) = none := by simp [inc, hi, hx]
        rw [e]
        intro t ht
        cases t with
        | nil => simp at ht
        | cons y b =>
          rw [lt_cons]
          rintro (h | ⟨rfl, h⟩)
          · rw [u8_lt] at h
            have := y.toNat_lt
            omega
          · exact ih b (by simpa using ht) h

/-! ### The shortest text between -/
/-- The least text of n bytes that is not below a (n at most its length). -/
def least (a : Tx) (n : Nat) : Option Tx := if n = a.length then some a else inc (a.take n)
theorem least_spec (a : Tx) (n : Nat) (hn : n ≤ a.length) : match least a n with
    | some u => u.length = n ∧ ¬ u < a ∧ ∀ t : Tx, t.length = n → ¬ t < a → ¬ t < u
    | none => ∀ t : Tx, t.length = n → t < a := by
  unfold least
  by_cases h : n = a.length
  · subst h
    rw [if_pos rfl]
    exact ⟨rfl, lt_irrefl a, fun t _ h => h⟩
  · rw [if_neg h]
    have hl : (a.take n).length = n := by rw [List.length_take]; omega
    have hq : a.drop n ≠ [] := by
      intro e
      have := congrArg List.length e
      simp at this
      omega
    have ha : a.take n ++ a.drop n = a := List.take_append_drop n a
    have key : ∀ t : Tx, t.length = n → (¬ t < a ↔ a.take n < t) := fun t ht => by
      have := prefix_lt (a.take n) (a.drop n) hq t (by rw [hl]; exact ht)
      rwa [ha] at this
    have sp := inc_spec (a.take n)
    cases hi : inc (a.take n) with
    | some u =>
      rw [hi] at sp
      obtain ⟨h1, h2, h3⟩ := sp
      rw [hl] at h1 h3
      exact ⟨h1, (key u h1).2 h2, fun t ht hta => h3 t ht ((key t ht).1 hta)⟩
    | none =>
      rw [hi] at sp
      rw [hl] at sp
      intro t ht
      rcases lt_total t a with h | h | h
      · exact h
      · exact absurd ((key t ht).1 (by rw [h]; exact lt_irrefl a)) (sp t ht)
      · exact absurd ((key t ht).1 (not_lt_of h)) (sp t ht)
/-- The document's answer, from a length on. -/
def find (a b : Tx) : Nat → Nat → Tx
  | 0, _ => a
  | k + 1, n => match least a n with
    | some u => if u < b then u else find a b k (n + 1)
    | none => find a b k (n + 1)
def between (a b : Tx) : Tx := find a b (a.length + 1) 0
/-- What Between is: not below a, below b, and no shorter one, nor a lesser one of its length, is. -/
def Short (a b m : Tx) : Prop := ¬ m < a ∧ m < b ∧ m.length ≤ a.length ∧ ∀ t : Tx, ¬ t < a → t < b → m.length < t.length ∨ m.length = t.length ∧ ¬ t < m
theorem find_short (a b : Tx) (hab : a < b) : ∀ k n, n + k = a.length + 1 → (∀ t : Tx, ¬ t < a → t < b → n ≤ t.length) → Short a b (find a b k n) := by
  intro k
  induction k with
  | zero =>
    intro n hn hall
    exact absurd (hall a (lt_irrefl a) hab) (by omega)
  | succ k ih =>
    intro n hn hall
    have sp := least_spec a n (by omega)
    unfold find
    cases hl : least a n with
    | some u =>
      rw [hl] at sp
      obtain ⟨h1, h2, h3⟩ := sp
      by_cases hu : u < b
      · simp only [hu, if_true]
        refine ⟨h2, hu, by omega, fun t hta htb => ?_⟩
        have := hall t hta htb
        rcases Nat.lt_or_ge n t.length with h | h
        · left; omega
        · right; exact ⟨by omega, h3 t (by omega) hta⟩
      · simp only [hu, if_false]
        refine ih (n + 1) (by omega) fun t hta htb => ?_
        have := hall t hta htb
        rcases Nat.lt_or_ge n t.length with h | h
        · omega
        · exact absurd (lt_of_le_of_lt (h3 t (by omega) hta) htb) hu
    | none =>
      rw [hl] at sp
      simp only
      refine ih (n + 1) (by omega) fun t hta htb => ?_
      have := hall t hta htb
      rcases Nat.lt_or_ge n t.length with h | h
      · omega
      · exact absurd (sp t (by omega)) hta
theorem between_short (a b : Tx) (hab : a < b) : Short a b (between a b) := find_short a b hab (a.length + 1) 0 (by omega) (fun _ _ _ => Nat.zero_le _)
/-- It is one alone. -/
theorem short_unique (a b m m' : Tx) (h : Short a b m) (h' : Short a b m') : m = m' := by
  have e1 := h.2.2.2 m' h'.1 h'.2.1
  have e2 := h'.2.2.2 m h.1 h.2.1
  have hl : m.length = m'.length := by omega
  rcases e1 with e1 | ⟨_, e1⟩
  · omega
  · rcases e2 with e2 | ⟨_, e2⟩
    · omega
    · exact eq_of_not e2 e1
theorem between_not (a b : Tx) (hab : ¬ a < b) : between a b = a := by
  have key : ∀ k n, n + k = a.length + 1 → find a b k n = a := by
    intro k
    induction k with
    | zero => intro n hn; rfl
    | succ k ih =>
      intro n hn
      have sp := least_spec a n (by omega)
      unfold find
      cases hl : least a n with
      | some u =>
        rw [hl] at sp
        have hu : ¬ u < b := fun h => hab (lt_of_le_of_lt sp.2.1 h)
        simp only [hu, if_false]
        exact ih (n + 1) (by omega)
      | none => exact ih (n + 1) (by omega)
  exact key _ 0 (by omega)

/-! ### Internal keys in their order -/
/-- Key, number, kind. -/
abbrev IK := Tx × Int × Int
def Lt (a b : IK) : Prop := a.1 < b.1 ∨ a.1 = b.1 ∧ (b.2.1 < a.2.1 ∨ a.2.1 = b.2.1 ∧ b.2.2 < a.2.2)
def cmp (a b : IK) : Int := if a.1 < b.1 then -1 else if b.1 < a.1 then 1 else if b.2.1 < a.2.1 then -1 else if a.2.1 < b.2.1 then 1 else if b.2.2 < a.2.2 then -1 else if a.2.2 < b.2.2 then 1 else 0
theorem Lt_irrefl (a : IK) : ¬ Lt a a := by
  rintro (h | ⟨_, h | ⟨_, h⟩⟩)
  · exact lt_irrefl _ h
  · omega
  · omega
theorem Lt_trans {a b c : IK} (h1 : Lt a b) (h2 : Lt b c) : Lt a c := by
  rcases h1 with h1 | ⟨e1, h1⟩ <;> rcases h2 with h2 | ⟨e2, h2⟩
  · exact Or.inl (lt_trans h1 h2)
  · exact Or.inl (e2 ▸ h1)
  · exact Or.inl (e1 ▸ h2)
  · refine Or.inr ⟨e1.trans e2, ?_⟩
    omega
theorem cmp_cases (a b : IK) : (cmp a b = -1 ∧ Lt a b) ∨ (cmp a b = 0 ∧ a = b) ∨ (cmp a b = 1 ∧ Lt b a) := by
  unfold cmp
  by_cases h1 : a.1 < b.1
  · rw [if_pos h1]; exact Or.inl ⟨rfl, Or.inl h1⟩
  by_cases h2 : b.1 < a.1
  · rw [if_neg h1, if_pos h2]; exact Or.inr (Or.inr ⟨rfl, Or.inl h2⟩)
  have e := eq_of_not h1 h2
  rw [if_neg h1, if_neg h2]
  by_cases h3 : b.2.1 < a.2.1
  · rw [if_pos h3]; exact Or.inl ⟨rfl, Or.inr ⟨e, Or.inl h3⟩⟩
  by_cases h4 : a.2.1 < b.2.1
  · rw [if_neg h3, if_pos h4]; exact Or.inr (Or.inr ⟨rfl, Or.inr ⟨e.symm, Or.inl h4⟩⟩)
  rw [if_neg h3, if_neg h4]
  by_cases h5 : b.2.2 < a.2.2
  · rw [if_pos h5]; exact Or.inl ⟨rfl, Or.inr ⟨e, Or.inr ⟨by omega, h5⟩⟩⟩
  by_cases h6 : a.2.2 < b.2.2
  · rw [if_neg h5, if_pos h6]; exact Or.inr (Or.inr ⟨rfl, Or.inr ⟨e.symm, Or.inr ⟨by omega, h6⟩⟩⟩)
  rw [if_neg h5, if_neg h6]
  refine Or.inr (Or.inl ⟨rfl, ?_⟩)
  exact Prod.ext e (Prod.ext (by omega) (by omega))
theorem cmp_self (a : IK) : cmp a a = 0 := by
  rcases cmp_cases a a with ⟨_, h⟩ | ⟨h, _⟩ | ⟨_, h⟩
  · exact absurd h (Lt_irrefl a)
  · exact h
  · exact absurd h (Lt_irrefl a)
theorem cmp_anti (a b : IK) : cmp a b = -cmp b a := by
  rcases cmp_cases a b with ⟨h, l⟩ | ⟨h, e⟩ | ⟨h, l⟩
  · rcases cmp_cases b a with ⟨h', l'⟩ | ⟨h', e⟩ | ⟨h', l'⟩
    · exact absurd (Lt_trans l l') (Lt_irrefl _)
    · rw [e] at l; exact absurd l (Lt_irrefl _)
    · omega
  · subst e; rw [cmp_self]; rfl
  · rcases cmp_cases b a with ⟨h', l'⟩ | ⟨h', e⟩ | ⟨h', l'⟩
    · omega
    · rw [e] at l; exact absurd l (Lt_irrefl _)
    · exact absurd (Lt_trans l l') (Lt_irrefl _)
theorem cmp_zero (a b : IK) : cmp a b = 0 ↔ a = b := by
  constructor
  · intro h
    rcases cmp_cases a b with ⟨h', _⟩ | ⟨_, e⟩ | ⟨h', _⟩
    · omega
    · exact e
    · omega
  · rintro rfl; exact cmp_self a
theorem cmp_range (a b : IK) : -1 ≤ cmp a b ∧ cmp a b ≤ 1 := by
  rcases cmp_cases a b with ⟨h, _⟩ | ⟨h, _⟩ | ⟨h, _⟩ <;> omega
theorem cmp_trans (a b c : IK) (h1 : cmp a b ≤ 0) (h2 : cmp b c ≤ 0) : cmp a c ≤ 0 ∧ (cmp a c = 0 ↔ cmp a b = 0 ∧ cmp b c = 0) := by
  rcases cmp_cases a b with ⟨e1, l1⟩ | ⟨e1, rfl⟩ | ⟨e1, _⟩
  · rcases cmp_cases b c with ⟨e2, l2⟩ | ⟨e2, rfl⟩ | ⟨e2, _⟩
    · have l := Lt_trans l1 l2
      rcases cmp_cases a c with ⟨e3, _⟩ | ⟨e3, rfl⟩ | ⟨e3, l3⟩
      · exact ⟨by omega, by omega⟩
      · exact absurd l (Lt_irrefl _)
      · exact absurd (Lt_trans l l3) (Lt_irrefl _)
    · exact ⟨by omega, by omega⟩
    · omega
  · exact ⟨h2, by rw [e1]; simp⟩
  · omega

/-! ### A stable order is one alone -/
section
variable {α : Type} (le : α → α → Bool)
def eqv (x y : α) : Bool := le x y && le y x
theorem stable_unique (total : ∀ a b, le a b = true ∨ le b a = true) : ∀ (l1 l2 : List α), l1.Pairwise (fun a b => le a b = true) → l2.Pairwise (fun a b => le a b = true) → (∀ x, l1.filter (eqv le x) = l2.filter (eqv le x)) → l1 = l2 := by
  have refl : ∀ a, le a a = true := fun a => (total a a).elim id id
  have self : ∀ a, eqv le a a = true := fun a => by simp [eqv, refl]
  intro l1
  induction l1 with
  | nil =>
    intro l2 _ _ h
    cases l2 with
    | nil => rfl
    | cons b t =>
      have := h b
      simp [self] at this
  | cons a t1 ih =>
    intro l2 h1 h2 h
    cases l2 with
    | nil =>
      have := h a
      simp [self] at this
    | cons b t2 =>
      have hb : b ∈ a :: t1 := by
        have : b ∈ (b :: t2).filter (eqv le b) := List.mem_filter.2 ⟨List.mem_cons_self .., self b⟩
        rw [← h b] at this
        exact (List.mem_filter.1 this).1
      have ha : a ∈ b :: t2 := by
        have : a ∈ (a :: t1).filter (eqv le a) := List.mem_filter.2 ⟨List.mem_cons_self .., self a⟩
        rw [h a] at this
        exact (List.mem_filter.1 this).1
      have hab : le a b = true := by
        rcases List.mem_cons.1 hb with rfl | hb
        · exact refl _
        · exact (List.pairwise_cons.1 h1).1 b hb
      have hba : le b a = true := by
        rcases List.mem_cons.1 ha with rfl | ha
        · exact refl _
        · exact (List.pairwise_cons.1 h2).1 a ha
      have he : eqv le a b = true := by simp [eqv, hab, hba]
      have hh := h a
      rw [List.filter_cons_of_pos (self a), List.filter_cons_of_pos he] at hh
      have e : a = b := (List.cons.inj hh).1
      subst e
      congr 1
      refine ih t2 (List.pairwise_cons.1 h1).2 (List.pairwise_cons.1 h2).2 fun x => ?_
      have hx := h x
      by_cases hxa : eqv le x a = true
      · rw [List.filter_cons_of_pos hxa, List.filter_cons_of_pos hxa] at hx
        exact (List.cons.inj hx).2
      · rw [List.filter_cons_of_neg hxa, List.filter_cons_of_neg hxa] at hx
        exact hx
/-- Two lists in order, merged, the first one's first where they are alike. -/
def mrg : List α → List α → List α
  | [], ys => ys
  | x :: xs, ys => go x xs (mrg xs) ys
where
  go (x : α) (xs : List α) (f : List α → List α) : List α → List α
    | [] => x :: xs
    | y :: ys => if le x y = true then x :: f (y :: ys) else y :: go x xs f ys
theorem mrg_nil (ys : List α) : mrg le [] ys = ys := rfl
theorem mrg_right (xs : List α) : mrg le xs [] = xs := by cases xs <;> rfl
theorem mrg_cons (x : α) (xs : List α) (y : α) (ys : List α) : mrg le (x :: xs) (y :: ys) = if le x y = true then x :: mrg le xs (y :: ys) else y :: mrg le (x :: xs) ys := rfl
theorem mrg_mem (xs : List α) : ∀ (ys : List α) (z : α), z ∈ mrg le xs ys ↔ z ∈ xs ∨ z ∈ ys := by
  induction xs with
  | nil => intro ys z; simp [mrg_nil]
  | cons x xs ihx =>
    intro ys
    induction ys with
    | nil => intro z; simp [mrg_right]
    | cons y ys ihy =>
      intro z
      rw [mrg_cons]
      by_cases h : le x y = true
      · rw [if_pos h, List.mem_cons, ihx]; simp only [List.mem_cons]; constructor
        · rintro (h | h | h | h) <;> simp [h]
        · rintro ((h | h) | h | h) <;> simp [h]
      · rw [if_neg h, List.mem_cons, ihy]; simp only [List.mem_cons]; constructor
        · rintro (h | (h | h) | h) <;> simp [h]
        · rintro ((h | h) | h | h) <;> simp [h]
theorem mrg_sorted (total : ∀ a b, le a b = true ∨ le b a = true) (trans : ∀ a b c, le a b = true → le b c = true → le a c = true) (xs : List α) :
    ∀ ys : List α, xs.Pairwise (fun a b => le a b = true) → ys.Pairwise (fun a b => le a b = true) → (mrg le xs ys).Pairwise (fun a b => le a b = true) := by
  induction xs with
  | nil => intro ys _ h; rw [mrg_nil]; exact h
  | cons x xs ihx =>
    intro ys hx hy
    induction ys with
    | nil => rw [mrg_right]; exact hx
    | cons y ys ihy =>
      rw [mrg_cons]
      obtain ⟨hx1, hx2⟩ := List.pairwise_cons.1 hx
      obtain ⟨hy1, hy2⟩ := List.pairwise_cons.1 hy
      by_cases h : le x y = true
      · rw [if_pos h]
        refine List.pairwise_cons.2 ⟨fun z hz => ?_, ihx (y :: ys) hx2 hy⟩
        rcases (mrg_mem le xs (y :: ys) z).1 hz with hz | hz
        · exact hx1 z hz
        · rcases List.mem_cons.1 hz with rfl | hz
          · exact h
          · exact trans x y z h (hy1 z hz)
      · rw [if_neg h]
        have hyx : le y x = true := (total x y).resolve_left h
        refine List.pairwise_cons.2 ⟨fun z hz => ?_, ihy hy2⟩
        rcases (mrg_mem le (x :: xs) ys z).1 hz with hz | hz
        · rcases List.mem_cons.1 hz with rfl | hz
          · exact hyx
          · exact trans y x z hyx (hx1 z hz)
        · exact hy1 z hz
theorem mrg_filter (total : ∀ a b, le a b = true ∨ le b a = true) (trans : ∀ a b c, le a b = true → le b c = true → le a c = true) (q : α) (xs : List α) :
    ∀ ys : List α, xs.Pairwise (fun a b => le a b = true) → (mrg le xs ys).filter (eqv le q) = xs.filter (eqv le q) ++ ys.filter (eqv le q) := by
  induction xs with
  | nil => intro ys _; simp [mrg_nil]
  | cons x xs ihx =>
    intro ys hx
    obtain ⟨hx1, hx2⟩ := List.pairwise_cons.1 hx
    induction ys with
    | nil => rw [mrg_right]; simp
    | cons y ys ihy =>
      rw [mrg_cons]
      by_cases h : le x y = true
      · rw [if_pos h]
        by_cases hq : eqv le q x = true
        · rw [List.filter_cons_of_pos hq, List.filter_cons_of_pos hq, ihx _ hx2]; rfl
        · rw [List.filter_cons_of_neg hq, List.filter_cons_of_neg hq, ihx _ hx2]
      · rw [if_neg h]
        by_cases hq : eqv le q y = true
        · rw [List.filter_cons_of_pos hq, List.filter_cons_of_pos hq, ihy]
          have hqy : le q y = true ∧ le y q = true := by simpa [eqv] using hq
          have none : (x :: xs).filter (eqv le q) = [] := by
            rw [List.filter_eq_nil_iff]
            intro z hz hz2
            have hzq : le q z = true ∧ le z q = true := by simpa [eqv] using hz2
            have hxz : le x z = true := by
              rcases List.mem_cons.1 hz with rfl | hz
              · exact (total z z).elim id id
              · exact hx1 z hz
            exact h (trans x z y hxz (trans z q y hzq.2 hqy.1))
          rw [none]; rfl
        · rw [List.filter_cons_of_neg hq, List.filter_cons_of_neg hq, ihy]
/-- Halves in order, merged. -/
def srt : Nat → List α → List α
  | 0, l => l
  | k + 1, l => if l.length < 2 then l else mrg le (srt k (l.take (l.length / 2))) (srt k (l.drop (l.length / 2)))
theorem srt_spec (total : ∀ a b, le a b = true ∨ le b a = true) (trans : ∀ a b c, le a b = true → le b c = true → le a c = true) : ∀ (k : Nat) (l : List α), l.length ≤ k → (srt le k l).Pairwise (fun a b => le a b = true) ∧ ∀ q, (srt le k l).filter (eqv le q) = l.filter (eqv le q) := by
  intro k
  induction k with
  | zero =>
    intro l hl
    have : l = [] := List.eq_nil_of_length_eq_zero (by omega)
    subst this
    exact ⟨List.Pairwise.nil, fun _ => rfl⟩
  | succ k ih =>
    intro l hl
    unfold srt
    by_cases h : l.length < 2
    · rw [if_pos h]
      refine ⟨?_, fun _ => rfl⟩
      match l, h with
      | [], _ => exact List.Pairwise.nil
      | [x], _ => exact List.pairwise_singleton _ _
    · rw [if_neg h]
      obtain ⟨a1, a2⟩ := ih (l.take (l.length / 2)) (by rw [List.length_take]; omega)
      obtain ⟨b1, b2⟩ := ih (l.drop (l.length / 2)) (by rw [List.length_drop]; omega)
      refine ⟨mrg_sorted le total trans _ _ a1 b1, fun q => ?_⟩
      rw [mrg_filter le total trans q _ _ a1, a2, b2, ← List.filter_append, List.take_append_drop]
end
end Go.Proofs.Ytgjodfaliajlgaa.Ik

/- Stable orders in plain words: what stays alike, what an exchange does, halves found by halves, runs. -/
import Derived.Test.YtgjodfaliajlgaaIk
namespace Go.Proofs.Ytgjodfaliajlgaa.Sb
open Go.Proofs.Ytgjodfaliajlgaa.Ik
set_option linter.unusedVariables false
set_option linter.unusedSimpArgs false

section
variable {α : Type} {le : α → α → Bool}
def Tot (le : α → α → Bool) : Prop := ∀ a b, le a b = true ∨ le b a = true
def Trn (le : α → α → Bool) : Prop := ∀ a b c, le a b = true → le b c = true → le a c = true
def Srt (le : α → α → Bool) (l : List α) : Prop := l.Pairwise (fun a b => le a b = true)
/-- The same ones, those that are alike as they stood. -/
def Eqf (le : α → α → Bool) (l l' : List α) : Prop := l.length = l'.length ∧ ∀ q, l.filter (eqv le q) = l'.filter (eqv le q)
theorem Eqf.refl (l : List α) : Eqf le l l := ⟨rfl, fun _ => rfl⟩
theorem Eqf.symm {a b : List α} (h : Eqf le a b) : Eqf le b a := ⟨h.1.symm, fun q => (h.2 q).symm⟩
theorem Eqf.trans {a b c : List α} (h : Eqf le a b) (k : Eqf le b c) : Eqf le a c := ⟨h.1.trans k.1, fun q => (h.2 q).trans (k.2 q)⟩
theorem Eqf.app {a a' b b' : List α} (h : Eqf le a a') (k : Eqf le b b') : Eqf le (a ++ b) (a' ++ b') :=
  ⟨by rw [List.length_append, List.length_append, h.1, k.1], fun q => by rw [List.filter_append, List.filter_append, h.2, k.2]⟩
theorem lt_le (ht : Tot le) {a b : α} (h : le b a = false) : le a b = true := by
  rcases ht a b with h' | h'
  · exact h'
  · rw [h] at h'; cases h'
/-- Two parts of which no element is alike to one of the other one change places. -/
theorem Eqf.cross (hr : Trn le) (U V : List α) (h : ∀ u ∈ U, ∀ v ∈ V, le u v = false ∨ le v u = false) : Eqf le (U ++ V) (V ++ U) := by
  refine ⟨by simp [Nat.add_comm], fun q => ?_⟩
  rw [List.filter_append, List.filter_append]
  by_cases hU : U.filter (eqv le q) = []
  · rw [hU]; simp
  · have hV : V.filter (eqv le q) = [] := by
      obtain ⟨u, hu⟩ := List.exists_mem_of_ne_nil _ hU
      obtain ⟨hu1, hu2⟩ := List.mem_filter.1 hu
      rw [List.filter_eq_nil_iff]
      intro v hv hv2
      unfold eqv at hu2 hv2
      rw [Bool.and_eq_true] at hu2 hv2
      have h1 := hr u q v hu2.2 hv2.1
      have h2 := hr v q u hv2.2 hu2.1
      rcases h u hu1 v hv with h' | h'
      · rw [h1] at h'; cases h'
      · rw [h2] at h'; cases h'
    rw [hV]; simp
theorem Eqf.mem (ht : Tot le) {a b : List α} (h : Eqf le a b) (x : α) : x ∈ a → x ∈ b := by
  intro hx
  have hs : eqv le x x = true := by
    unfold eqv
    have := (ht x x).elim id id
    rw [this]; rfl
  have : x ∈ a.filter (eqv le x) := List.mem_filter.2 ⟨hx, hs⟩
  rw [h.2 x] at this
  exact (List.mem_filter.1 this).1
theorem Srt.app {a b : List α} (h : Srt le a) (k : Srt le b) (hk : ∀ x ∈ a, ∀ y ∈ b, le x y = true) : Srt le (a ++ b) := List.pairwise_append.2 ⟨h, k, hk⟩
theorem Srt.nil : Srt le ([] : List α) := List.Pairwise.nil
theorem Srt.one (x : α) : Srt le [x] := List.pairwise_singleton _ _
theorem Srt.left {a b : List α} (h : Srt le (a ++ b)) : Srt le a := (List.pairwise_append.1 h).1
theorem Srt.right {a b : List α} (h : Srt le (a ++ b)) : Srt le b := (List.pairwise_append.1 h).2.1
theorem Srt.mid {a b : List α} (h : Srt le (a ++ b)) : ∀ x ∈ a, ∀ y ∈ b, le x y = true := (List.pairwise_append.1 h).2.2
theorem Srt.short {l : List α} (h : l.length < 2) : Srt le l := by
  match l, h with
  | [], _ => exact Srt.nil
  | [x], _ => exact Srt.one x
/-- A list in order that has what l has, those that are alike as they stood, is one alone. -/
theorem one_alone (ht : Tot le) {a b l : List α} (h : Srt le a) (k : Srt le b) (ha : Eqf le a l) (hb : Eqf le b l) : a = b :=
  stable_unique le ht a b h k (fun x => (ha.2 x).trans (hb.2 x).symm)
theorem srt_is (ht : Tot le) (hr : Trn le) {a l : List α} (h : Srt le a) (ha : Eqf le a l) (k : Nat) (hk : l.length ≤ k) : a = srt le k l :=
  stable_unique le ht a _ h (srt_spec le ht hr k l hk).1 (fun x => (ha.2 x).trans ((srt_spec le ht hr k l hk).2 x).symm)

/-! ### An element on its way down -/
theorem down_step (ht : Tot le) (hr : Trn le) {x y : α} (h : le y x = false) (A B : List α) : Eqf le (A ++ y :: x :: B) (A ++ x :: y :: B) := by
  refine Eqf.app (Eqf.refl A) ?_
  exact Eqf.app (a := [y] ++ [x]) (a' := [x] ++ [y]) (Eqf.cross hr [y] [x] (fun u hu v hv => by
    simp at hu hv; subst hu hv; exact .inl h)) (Eqf.refl B)
theorem down_done (ht : Tot le) (hr : Trn le) {x : α} {A B : List α} (h : Srt le (A ++ B)) (hB : ∀ b ∈ B, le b x = false) (hA : A = [] ∨ ∃ A' y, A = A' ++ [y] ∧ le y x = true) : Srt le (A ++ x :: B) := by
  have hA' : ∀ a ∈ A, le a x = true := by
    rcases hA with rfl | ⟨A', y, rfl, hy⟩
    · intro a ha; cases ha
    · intro a ha
      rcases List.mem_append.1 ha with ha | ha
      · exact hr a y x ((Srt.left h).mid a ha y (by simp)) hy
      · simp at ha; subst ha; exact hy
  refine Srt.app h.left (List.pairwise_cons.2 ⟨fun b hb => lt_le ht (hB b hb), h.right⟩) ?_
  intro a ha b hb
  rcases List.mem_cons.1 hb with rfl | hb
  · exact hA' a ha
  · exact h.mid a ha b hb

/-! ### Where a test turns -/
theorem turn_ex (f : Nat → Bool) : ∀ (n lo : Nat), (∀ i j, lo ≤ i → i ≤ j → j < lo + n → f j = true → f i = true) →
    ∃ s, lo ≤ s ∧ s ≤ lo + n ∧ (∀ i, lo ≤ i → i < s → f i = true) ∧ (∀ i, s ≤ i → i < lo + n → f i = false) := by
  intro n
  induction n with
  | zero => intro lo _; exact ⟨lo, Nat.le_refl _, Nat.le_refl _, fun i h1 h2 => by omega, fun i h1 h2 => by omega⟩
  | succ n ih =>
    intro lo h
    by_cases h0 : f lo = true
    · obtain ⟨s, s1, s2, s3, s4⟩ := ih (lo + 1) (fun i j a b c d => h i j (by omega) b (by omega) d)
      refine ⟨s, by omega, by omega, fun i h1 h2 => ?_, fun i h1 h2 => s4 i h1 (by omega)⟩
      rcases Nat.eq_or_lt_of_le h1 with e | e
      · rw [← e]; exact h0
      · exact s3 i e h2
    · refine ⟨lo, Nat.le_refl _, by omega, fun i h1 h2 => by omega, fun i h1 h2 => ?_⟩
      cases e : f i with
      | false => rfl
      | true => exact absurd (h lo i (Nat.le_refl _) h1 (by omega) e) h0
theorem srt_get {l : List α} (h : Srt le l) (ht : Tot le) (z : α) {i j : Nat} (hij : i ≤ j) (hj : j < l.length) : le (l.getD i z) (l.getD j z) = true := by
  rcases Nat.eq_or_lt_of_le hij with e | e
  · subst e; exact (ht _ _).elim id id
  · rw [List.getD_eq_getElem?_getD, List.getD_eq_getElem?_getD, List.getElem?_eq_getElem (by omega), List.getElem?_eq_getElem hj]
    exact List.pairwise_iff_getElem.1 h i j (by omega) hj e

/-! ### Two parts in order, put together by halves -/
theorem sym_all (ht : Tot le) (hr : Trn le) {A1 A2 B1 B2 : List α} (hA : Srt le (A1 ++ A2)) (hB : Srt le (B1 ++ B2))
    (h1 : A2 = [] ∨ B1 = [] ∨ ∃ a2 A2' B1' b1, A2 = a2 :: A2' ∧ B1 = B1' ++ [b1] ∧ le a2 b1 = false)
    (h2 : A1 = [] ∨ B2 = [] ∨ ∃ A1' a1 b2 B2', A1 = A1' ++ [a1] ∧ B2 = b2 :: B2' ∧ le a1 b2 = true) :
    (∀ a ∈ A2, ∀ b ∈ B1, le a b = false) ∧ (∀ x ∈ A1 ++ B1, ∀ y ∈ A2 ++ B2, le x y = true) := by
  have k1 : ∀ a ∈ A2, ∀ b ∈ B1, le a b = false := by
    rcases h1 with rfl | rfl | ⟨a2, A2', B1', b1, rfl, rfl, h⟩
    · intro a ha; cases ha
    · intro a _ b hb; cases hb
    · intro a ha b hb
      have ha' : le a2 a = true := by
        rcases List.mem_cons.1 ha with rfl | ha
        · exact (ht _ _).elim id id
        · exact (List.pairwise_cons.1 hA.right).1 a ha
      have hb' : le b b1 = true := by
        rcases List.mem_append.1 hb with hb | hb
        · exact hB.left.mid b hb b1 (by simp)
        · simp at hb; subst hb; exact (ht _ _).elim id id
      cases e : le a b with
      | false => rfl
      | true => rw [hr a2 b b1 (hr a2 a b ha' e) hb'] at h; cases h
  have k2 : ∀ a ∈ A1, ∀ b ∈ B2, le a b = true := by
    rcases h2 with rfl | rfl | ⟨A1', a1, b2, B2', rfl, rfl, h⟩
    · intro a ha; cases ha
    · intro a _ b hb; cases hb
    · intro a ha b hb
      have ha' : le a a1 = true := by
        rcases List.mem_append.1 ha with ha | ha
        · exact hA.left.mid a ha a1 (by simp)
        · simp at ha; subst ha; exact (ht _ _).elim id id
      have hb' : le b2 b = true := by
        rcases List.mem_cons.1 hb with rfl | hb
        · exact (ht _ _).elim id id
        · exact (List.pairwise_cons.1 hB.right).1 b hb
      exact hr a a1 b ha' (hr a1 b2 b h hb')
  refine ⟨k1, fun x hx y hy => ?_⟩
  rcases List.mem_append.1 hx with hx | hx <;> rcases List.mem_append.1 hy with hy | hy
  · exact hA.mid x hx y hy
  · exact k2 x hx y hy
  · exact lt_le ht (k1 y hy x hx)
  · exact hB.mid x hx y hy
theorem sym_done (ht : Tot le) (hr : Trn le) {A1 A2 B1 B2 M1 M2 : List α} (hk : ∀ a ∈ A2, ∀ b ∈ B1, le a b = false) (hl : ∀ x ∈ A1 ++ B1, ∀ y ∈ A2 ++ B2, le x y = true)
    (s1 : Srt le M1) (e1 : Eqf le M1 (A1 ++ B1)) (s2 : Srt le M2) (e2 : Eqf le M2 (A2 ++ B2)) : Srt le (M1 ++ M2) ∧ Eqf le (M1 ++ M2) (A1 ++ A2 ++ (B1 ++ B2)) := by
  constructor
  · exact Srt.app s1 s2 (fun x hx y hy => hl x (e1.mem ht x hx) y (e2.mem ht y hy))
  · refine (e1.app e2).trans ?_
    have h := Eqf.cross hr B1 A2 (fun u hu v hv => .inr (hk v hv u hu))
    have h' := ((Eqf.refl (le := le) A1).app h).app (Eqf.refl (le := le) B2)
    simpa only [List.append_assoc] using h'

/-! ### Runs -/
/-- Runs of k in order, the last one of k at most. -/
inductive Runs (le : α → α → Bool) (k : Nat) : List α → Prop
  | last (l : List α) : Srt le l → l.length ≤ k → Runs le k l
  | more (b r : List α) : b.length = k → Srt le b → Runs le k r → Runs le k (b ++ r)
/-- Runs of just k in order. -/
inductive Full (le : α → α → Bool) (k : Nat) : List α → Prop
  | nil : Full le k []
  | snoc (q b : List α) : Full le k q → b.length = k → Srt le b → Full le k (q ++ b)
theorem Full.runs {k : Nat} {q : List α} (h : Full le k q) : ∀ r, Runs le k r → Runs le k (q ++ r) := by
  induction h with
  | nil => intro r hr; exact hr
  | snoc q b _ hb hs ih => intro r hr; rw [List.append_assoc]; exact ih _ (.more b r hb hs hr)
theorem Runs.all {k : Nat} {l : List α} (h : Runs le k l) (hk : l.length ≤ k) (h0 : 0 < k) : Srt le l := by
  cases h with
  | last _ hs _ => exact hs
  | more b r hb hs hr =>
    have : r = [] := List.eq_nil_of_length_eq_zero (by rw [List.length_append] at hk; omega)
    subst this
    rw [List.append_nil]; exact hs
theorem Runs.two {k : Nat} {l : List α} (h : Runs le k l) (h0 : 0 < k) (hk : k < l.length) : ∃ b r, l = b ++ r ∧ b.length = k ∧ Srt le b ∧ Runs le k r := by
  cases h with
  | last _ hs hl => omega
  | more b r hb hs hr => exact ⟨b, r, rfl, hb, hs, hr⟩
theorem Runs.one {k : Nat} {l : List α} (h : Runs le k l) (hk : k ≤ l.length) : ∃ b r, l = b ++ r ∧ b.length = k ∧ Srt le b ∧ Runs le k r := by
  cases h with
  | last _ hs hl => exact ⟨l, [], by simp, by omega, hs, .last [] Srt.nil (by simp)⟩
  | more b r hb hs hr => exact ⟨b, r, rfl, hb, hs, hr⟩
theorem Runs.nil (k : Nat) : Runs le k ([] : List α) := .last [] Srt.nil (by simp)

/-! ### Two places exchanged -/
theorem set_at (P : List α) (u v : α) (R : List α) : (P ++ u :: R).set P.length v = P ++ v :: R := by
  rw [List.set_append_right _ _ (Nat.le_refl _), Nat.sub_self]; rfl
theorem get_at (P : List α) (u z : α) (R : List α) : (P ++ u :: R).getD P.length z = u := by simp
theorem swap_at (P M S : List α) (u v : α) : ((P ++ u :: (M ++ v :: S)).set P.length v).set (P.length + 1 + M.length) u = P ++ v :: (M ++ u :: S) := by
  rw [set_at]
  have e : P ++ v :: (M ++ v :: S) = (P ++ v :: M) ++ v :: S := by simp
  rw [e, show P.length + 1 + M.length = (P ++ v :: M).length by simp; omega, set_at]
  simp
theorem get_at2 (P M S : List α) (u v z : α) : (P ++ u :: (M ++ v :: S)).getD (P.length + 1 + M.length) z = v := by
  have e : P ++ u :: (M ++ v :: S) = (P ++ u :: M) ++ v :: S := by simp
  rw [e, show P.length + 1 + M.length = (P ++ u :: M).length by simp; omega, get_at]
theorem snoc_ex {P : List α} (h : 0 < P.length) : ∃ P' p, P = P' ++ [p] := by
  have hne : P ≠ [] := by intro e; rw [e] at h; cases h
  exact ⟨P.dropLast, P.getLast hne, (List.dropLast_concat_getLast hne).symm⟩
theorem cons_ex {P : List α} (h : 0 < P.length) : ∃ p P', P = p :: P' := by
  cases P with
  | nil => cases h
  | cons p P' => exact ⟨p, P', rfl⟩
theorem cut_ex (l : List α) (k : Nat) (h : k ≤ l.length) : ∃ a b, l = a ++ b ∧ a.length = k := ⟨l.take k, l.drop k, (List.take_append_drop k l).symm, by rw [List.length_take]; omega⟩
end
end Go.Proofs.Ytgjodfaliajlgaa.Sb

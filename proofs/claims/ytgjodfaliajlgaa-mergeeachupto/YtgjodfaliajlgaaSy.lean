/- Two parts of a row in order: where they are cut, in plain words. -/
import Derived.Test.YtgjodfaliajlgaaSb
namespace Go.Proofs.Ytgjodfaliajlgaa.Sy
open Go.Proofs.Ytgjodfaliajlgaa.Ik
open Go.Proofs.Ytgjodfaliajlgaa.Sb
set_option linter.unusedVariables false
set_option linter.unusedSimpArgs false

section
variable {α : Type} {le : α → α → Bool}
theorem part_cut (f : α → Bool) : ∀ (L : List α), L.Pairwise (fun x y => f y = true → f x = true) → ∃ L1 L2, L = L1 ++ L2 ∧ (∀ x ∈ L1, f x = true) ∧ (∀ x ∈ L2, f x = false) := by
  intro L
  induction L with
  | nil => intro _; exact ⟨[], [], rfl, fun x h => (by cases h), fun x h => (by cases h)⟩
  | cons a L ih =>
    intro h
    obtain ⟨h1, h2⟩ := List.pairwise_cons.1 h
    by_cases ha : f a = true
    · obtain ⟨L1, L2, e, k1, k2⟩ := ih h2
      refine ⟨a :: L1, L2, by rw [e]; rfl, fun x hx => ?_, k2⟩
      rcases List.mem_cons.1 hx with rfl | hx
      · exact ha
      · exact k1 x hx
    · refine ⟨[], a :: L, rfl, fun x h => (by cases h), fun x hx => ?_⟩
      rcases List.mem_cons.1 hx with rfl | hx
      · simpa using ha
      · cases e : f x with
        | false => rfl
        | true => exact absurd (h1 x hx e) ha
theorem get_part (P L S : List α) (z : α) (h : Nat) (h1 : P.length ≤ h) (h2 : h < P.length + L.length) : (P ++ (L ++ S)).getD h z = L.getD (h - P.length) z := by
  rw [List.getD_eq_getElem?_getD, List.getD_eq_getElem?_getD, List.getElem?_append_right h1, List.getElem?_append_left (by omega)]
theorem get_in (P L S : List α) (z : α) (h : Nat) (h1 : P.length ≤ h) (h2 : h < P.length + L.length) : (P ++ (L ++ S)).getD h z ∈ L := by
  rw [get_part P L S z h h1 h2, List.getD_eq_getElem?_getD, List.getElem?_eq_getElem (by omega)]
  exact List.getElem_mem _
theorem one_cut (ht : Tot le) (hr : Trn le) {B : List α} (sB : Srt le B) (x : α) : ∃ B1 B2, B = B1 ++ B2 ∧ (∀ y ∈ B1, le x y = false) ∧ (∀ y ∈ B2, le x y = true) := by
  obtain ⟨L1, L2, e, k1, k2⟩ := part_cut (fun y => !le x y) B (sB.imp (fun {u v} huv h => by
    cases e : le x u with
    | false => rfl
    | true => rw [hr x u v e huv] at h; cases h))
  exact ⟨L1, L2, e, fun y hy => by have := k1 y hy; simpa using this, fun y hy => by have := k2 y hy; simpa using this⟩
theorem last_cut (ht : Tot le) (hr : Trn le) {A : List α} (sA : Srt le A) (y : α) : ∃ A1 A2, A = A1 ++ A2 ∧ (∀ x ∈ A1, le x y = true) ∧ (∀ x ∈ A2, le x y = false) :=
  part_cut (fun x => le x y) A (sA.imp (fun {u v} huv h => hr u v y huv h))
theorem ins_mid {B1 B2 : List α} (h : Srt le (B1 ++ B2)) {x : α} (h1 : ∀ y ∈ B1, le y x = true) (h2 : ∀ y ∈ B2, le x y = true) : Srt le (B1 ++ x :: B2) := by
  refine Srt.app h.left (List.pairwise_cons.2 ⟨h2, h.right⟩) ?_
  intro a ha b hb
  rcases List.mem_cons.1 hb with rfl | hb
  · exact h1 a ha
  · exact h.mid a ha b hb
theorem one_done (ht : Tot le) (hr : Trn le) {B1 B2 : List α} {x : α} (h : Srt le (B1 ++ B2)) (h1 : ∀ y ∈ B1, le x y = false) (h2 : ∀ y ∈ B2, le x y = true) : Srt le (B1 ++ x :: B2) ∧ Eqf le (B1 ++ x :: B2) ([x] ++ (B1 ++ B2)) := by
  refine ⟨ins_mid h (fun y hy => lt_le ht (h1 y hy)) h2, ?_⟩
  have c := Eqf.cross hr B1 [x] (fun u hu v hv => by simp at hv; subst hv; exact .inr (h1 u hu))
  have := c.app (Eqf.refl (le := le) B2)
  simpa using this
theorem last_done (ht : Tot le) (hr : Trn le) {A1 A2 : List α} {y : α} (h : Srt le (A1 ++ A2)) (h1 : ∀ x ∈ A1, le x y = true) (h2 : ∀ x ∈ A2, le x y = false) : Srt le (A1 ++ y :: A2) ∧ Eqf le (A1 ++ y :: A2) ((A1 ++ A2) ++ [y]) := by
  refine ⟨ins_mid h h1 (fun x hx => lt_le ht (h2 x hx)), ?_⟩
  have c := Eqf.cross hr [y] A2 (fun u hu v hv => by simp at hu; subst hu; exact .inr (h2 v hv))
  have := (Eqf.refl (le := le) A1).app c
  simpa using this
theorem sym_cut (ht : Tot le) (hr : Trn le) (z : α) (P A B S : List α) (a m b mid s0 r0 : Nat) (ha : P.length = a) (hm : a + A.length = m) (hb : m + B.length = b) (sA : Srt le A) (sB : Srt le B)
    (hmid : mid = (a + b) / 2) (hA : 2 ≤ A.length) (hB : 2 ≤ B.length) (hc : (mid < m ∧ s0 = mid + m - b ∧ r0 = mid) ∨ (m ≤ mid ∧ s0 = a ∧ r0 = m)) :
    ∃ s, s0 ≤ s ∧ s ≤ r0 ∧ (∀ c, s0 ≤ c → c < s → le ((P ++ (A ++ (B ++ S))).getD c z) ((P ++ (A ++ (B ++ S))).getD (mid + m - 1 - c) z) = true) ∧ (∀ c, s ≤ c → c < r0 → le ((P ++ (A ++ (B ++ S))).getD c z) ((P ++ (A ++ (B ++ S))).getD (mid + m - 1 - c) z) = false) ∧
      ∃ A1 A2 B1 B2, A = A1 ++ A2 ∧ B = B1 ++ B2 ∧ a + A1.length = s ∧ s + B1.length = mid ∧ (∀ x ∈ A2, ∀ y ∈ B1, le x y = false) ∧ (∀ x ∈ A1 ++ B1, ∀ y ∈ A2 ++ B2, le x y = true) := by
  have n1 : a ≤ s0 := by omega
  have n2 : s0 ≤ r0 := by omega
  have n3 : r0 ≤ m := by omega
  have n4 : r0 ≤ mid := by omega
  have n5 : ∀ c, s0 ≤ c → c < r0 → m ≤ mid + m - 1 - c ∧ mid + m - 1 - c < b := by intro c h1 h2; omega
  have gA : ∀ c, a ≤ c → c < m → (P ++ (A ++ (B ++ S))).getD c z = A.getD (c - a) z := by
    intro c h1 h2
    rw [get_part P A (B ++ S) z c (by omega) (by omega), ha]
  have gB : ∀ c, m ≤ c → c < b → (P ++ (A ++ (B ++ S))).getD c z = B.getD (c - m) z := by
    intro c h1 h2
    have e : P ++ (A ++ (B ++ S)) = (P ++ A) ++ (B ++ S) := by simp
    have hl : (P ++ A).length = m := by rw [List.length_append]; omega
    rw [e, get_part (P ++ A) B S z c (by omega) (by omega), hl]
  obtain ⟨s, s1, s2, s3, s4⟩ := turn_ex (fun c => le ((P ++ (A ++ (B ++ S))).getD c z) ((P ++ (A ++ (B ++ S))).getD (mid + m - 1 - c) z)) (r0 - s0) s0 (by
    intro i j h1 h2 h3 h4
    have hi := n5 i h1 (by omega)
    have hj := n5 j (by omega) (by omega)
    rw [gA i (by omega) (by omega), gB _ hi.1 hi.2]
    rw [gA j (by omega) (by omega), gB _ hj.1 hj.2] at h4
    exact hr _ _ _ (srt_get sA ht z (by omega) (by omega)) (hr _ _ _ h4 (srt_get sB ht z (by omega) (by omega))))
  have s2' : s ≤ r0 := by omega
  have s4' : ∀ c, s ≤ c → c < r0 → le ((P ++ (A ++ (B ++ S))).getD c z) ((P ++ (A ++ (B ++ S))).getD (mid + m - 1 - c) z) = false := fun c h1 h2 => s4 c h1 (by omega)
  refine ⟨s, s1, s2', s3, s4', ?_⟩
  obtain ⟨A1, A2, hA12, hA1⟩ := cut_ex A (s - a) (by omega)
  obtain ⟨B1, B2, hB12, hB1⟩ := cut_ex B (mid - s) (by omega)
  have lA : A1.length + A2.length = A.length := by rw [hA12]; simp
  have lB : B1.length + B2.length = B.length := by rw [hB12]; simp
  have sA' := sA
  have sB' := sB
  rw [hA12] at sA'
  rw [hB12] at sB'
  have gA1 : ∀ c, c < A1.length → A.getD c z = A1.getD c z := by
    intro c h
    rw [hA12, List.getD_eq_getElem?_getD, List.getD_eq_getElem?_getD, List.getElem?_append_left h]
  have gA2 : ∀ c, A1.length ≤ c → A.getD c z = A2.getD (c - A1.length) z := by
    intro c h
    rw [hA12, List.getD_eq_getElem?_getD, List.getD_eq_getElem?_getD, List.getElem?_append_right h]
  have gB1 : ∀ c, c < B1.length → B.getD c z = B1.getD c z := by
    intro c h
    rw [hB12, List.getD_eq_getElem?_getD, List.getD_eq_getElem?_getD, List.getElem?_append_left h]
  have gB2 : ∀ c, B1.length ≤ c → B.getD c z = B2.getD (c - B1.length) z := by
    intro c h
    rw [hB12, List.getD_eq_getElem?_getD, List.getD_eq_getElem?_getD, List.getElem?_append_right h]
  have key := sym_all ht hr sA' sB' (by
    by_cases h : s < r0
    · have h0 := s4' s (Nat.le_refl _) h
      have h5 := n5 s s1 h
      rw [gA s (by omega) (by omega), gB _ h5.1 h5.2, gA2 _ (by omega), gB1 _ (by omega)] at h0
      obtain ⟨x, A2', hx⟩ := cons_ex (P := A2) (by omega)
      obtain ⟨B1', y, hy⟩ := snoc_ex (P := B1) (by omega)
      refine .inr (.inr ⟨x, A2', B1', y, hx, hy, ?_⟩)
      have e1 : s - a - A1.length = 0 := by omega
      have e2 : mid + m - 1 - s - m = B1'.length := by
        have : B1.length = B1'.length + 1 := by rw [hy]; simp
        omega
      rw [e1, e2, hx, hy, Sb.get_at B1' y z []] at h0
      simpa using h0
    · rcases hc with ⟨c1, c2, c3⟩ | ⟨c1, c2, c3⟩
      · exact .inr (.inl (List.eq_nil_of_length_eq_zero (by omega)))
      · exact .inl (List.eq_nil_of_length_eq_zero (by omega))) (by
    by_cases h : s0 < s
    · have h0 := s3 (s - 1) (by omega) (by omega)
      have h5 := n5 (s - 1) (by omega) (by omega)
      rw [gA (s - 1) (by omega) (by omega), gB _ h5.1 h5.2, gA1 _ (by omega), gB2 _ (by omega)] at h0
      obtain ⟨A1', x, hx⟩ := snoc_ex (P := A1) (by omega)
      obtain ⟨y, B2', hy⟩ := cons_ex (P := B2) (by omega)
      refine .inr (.inr ⟨A1', x, y, B2', hx, hy, ?_⟩)
      have e1 : s - 1 - a = A1'.length := by
        have : A1.length = A1'.length + 1 := by rw [hx]; simp
        omega
      have e2 : mid + m - 1 - (s - 1) - m - B1.length = 0 := by omega
      rw [e1, e2, hx, hy, Sb.get_at A1' x z []] at h0
      simpa using h0
    · rcases hc with ⟨c1, c2, c3⟩ | ⟨c1, c2, c3⟩
      · exact .inr (.inl (List.eq_nil_of_length_eq_zero (by omega)))
      · exact .inl (List.eq_nil_of_length_eq_zero (by omega)))
  exact ⟨A1, A2, B1, B2, hA12, hB12, by omega, by omega, key.1, key.2⟩
end
end Go.Proofs.Ytgjodfaliajlgaa.Sy

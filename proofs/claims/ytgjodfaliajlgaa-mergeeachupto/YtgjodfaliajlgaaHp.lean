/- A heap of heads in plain words: the order of heads, what sinking does. -/
import Derived.Test.YtgjodfaliajlgaaMi
namespace Go.Proofs.Ytgjodfaliajlgaa.Hp
open Go.Proofs.Ytgjodfaliajlgaa.Ik
open Go.Proofs.Ytgjodfaliajlgaa.Ee
set_option linter.unusedVariables false
set_option linter.unusedSimpArgs false

/-- A source's number, and the entry at which it stands. -/
structure Hd where
  f : Nat
  e : E
def zh : Hd := ⟨0, ze⟩
def cI (a b : Nat) : Int := if a < b then -1 else if b < a then 1 else 0
def cH (x y : Hd) : Int := if cmp x.e.ik y.e.ik ≠ 0 then cmp x.e.ik y.e.ik else cI x.f y.f
theorem cI_anti (a b : Nat) : cI a b = -cI b a := by unfold cI; split <;> split <;> (try split) <;> omega
theorem cH_anti (x y : Hd) : cH x y = -cH y x := by
  unfold cH
  have h := cmp_anti x.e.ik y.e.ik
  have k := cI_anti x.f y.f
  by_cases h0 : cmp x.e.ik y.e.ik = 0
  · have h1 : cmp y.e.ik x.e.ik = 0 := by omega
    rw [if_neg (by simpa using h0), if_neg (by simpa using h1)]; exact k
  · have h1 : cmp y.e.ik x.e.ik ≠ 0 := by omega
    rw [if_pos h0, if_pos h1]; exact h
theorem cH_trans {x y z : Hd} (h : cH x y ≤ 0) (k : cH y z ≤ 0) : cH x z ≤ 0 := by
  unfold cH at *
  have a1 : cmp x.e.ik y.e.ik ≤ 0 := by
    by_cases h0 : cmp x.e.ik y.e.ik = 0
    · omega
    · rw [if_pos h0] at h; exact h
  have a2 : cmp y.e.ik z.e.ik ≤ 0 := by
    by_cases h0 : cmp y.e.ik z.e.ik = 0
    · omega
    · rw [if_pos h0] at k; exact k
  obtain ⟨t1, t2⟩ := cmp_trans _ _ _ a1 a2
  by_cases h0 : cmp x.e.ik z.e.ik = 0
  · obtain ⟨e1, e2⟩ := t2.1 h0
    rw [if_neg (by simpa using e1)] at h
    rw [if_neg (by simpa using e2)] at k
    rw [if_neg (by simpa using h0)]
    unfold cI at *
    split at h <;> split at k <;> (try split) <;> (try split) <;> (try split at h) <;> (try split at k) <;> omega
  · rw [if_pos h0]; exact t1
/-- x is nearer to the top than y. -/
def ab (b : Bool) (x y : Hd) : Bool := if b then decide (0 < cH x y) else decide (cH x y < 0)
/-- y is not nearer to the top than x. -/
def nb (b : Bool) (x y : Hd) : Prop := ab b y x = false
theorem nb_iff (b : Bool) (x y : Hd) : nb b x y ↔ (if b then 0 ≤ cH x y else cH x y ≤ 0) := by
  unfold nb ab
  have := cH_anti x y
  cases b <;> simp <;> omega
theorem nb_refl (b : Bool) (x : Hd) : nb b x x := by
  rw [nb_iff]
  have := cH_anti x x
  cases b <;> simp <;> omega
theorem nb_trans {b : Bool} {x y z : Hd} (h : nb b x y) (k : nb b y z) : nb b x z := by
  rw [nb_iff] at *
  cases b with
  | false => simp at *; exact cH_trans h k
  | true =>
    simp at *
    have h1 := cH_anti x y
    have h2 := cH_anti y z
    have h3 := cH_anti x z
    have := cH_trans (x := z) (y := y) (z := x) (by omega) (by omega)
    omega
theorem nb_of_ab {b : Bool} {x y : Hd} (h : ab b x y = true) : nb b x y := by
  rw [nb_iff]
  unfold ab at h
  cases b <;> simp at * <;> omega
/-- c is a child of k. -/
def Ch (k c : Nat) : Prop := c = 2 * k + 1 ∨ c = 2 * k + 2
/-- From s on nobody stands below its children. -/
def HP (b : Bool) (s : Nat) (H : List Hd) : Prop := ∀ k c, s ≤ k → Ch k c → c < H.length → nb b (H.getD k zh) (H.getD c zh)
/-- The same but for the one at i. -/
def HX (b : Bool) (s i : Nat) (H : List Hd) : Prop :=
  s ≤ i ∧ (∀ k c, s ≤ k → k ≠ i → Ch k c → c < H.length → nb b (H.getD k zh) (H.getD c zh)) ∧ (∀ p c, s ≤ p → Ch p i → Ch i c → c < H.length → nb b (H.getD p zh) (H.getD c zh))
theorem HX.done {b : Bool} {s i : Nat} {H : List Hd} (h : HX b s i H) (hc : ∀ c, Ch i c → c < H.length → nb b (H.getD i zh) (H.getD c zh)) : HP b s H := by
  intro k c hk hch hl
  by_cases e : k = i
  · subst e; exact hc c hch hl
  · exact h.2.1 k c hk e hch hl
def swp (H : List Hd) (i t : Nat) : List Hd := (H.set i (H.getD t zh)).set t (H.getD i zh)
theorem swp_len (H : List Hd) (i t : Nat) : (swp H i t).length = H.length := by simp [swp]
theorem swp_i {H : List Hd} {i t : Nat} (hi : i < H.length) (hne : i ≠ t) : (swp H i t).getD i zh = H.getD t zh := by
  unfold swp
  rw [List.getD_eq_getElem?_getD, List.getElem?_set_ne (fun e => hne e.symm), List.getElem?_set_self hi]; rfl
theorem swp_t {H : List Hd} {i t : Nat} (ht : t < H.length) : (swp H i t).getD t zh = H.getD i zh := by
  unfold swp
  rw [List.getD_eq_getElem?_getD, List.getElem?_set_self (by simpa using ht)]; rfl
theorem swp_o {H : List Hd} {i t k : Nat} (h1 : k ≠ i) (h2 : k ≠ t) : (swp H i t).getD k zh = H.getD k zh := by
  unfold swp
  rw [List.getD_eq_getElem?_getD, List.getElem?_set_ne (fun e => h2 e.symm), List.getElem?_set_ne (fun e => h1 e.symm), ← List.getD_eq_getElem?_getD]
theorem swp_split {H : List Hd} {i t : Nat} (hit : i < t) (ht : t < H.length) : ∃ P M S, H = P ++ H.getD i zh :: (M ++ H.getD t zh :: S) ∧ swp H i t = P ++ H.getD t zh :: (M ++ H.getD i zh :: S) := by
  obtain ⟨P, R, e1, l1⟩ := Sb.cut_ex H i (by omega)
  have hR : R.length + i = H.length := by rw [e1, List.length_append]; omega
  obtain ⟨u, R1, e2⟩ := Sb.cons_ex (P := R) (by omega)
  have hR1 : R1.length + 1 = R.length := by rw [e2]; simp
  obtain ⟨M, R2, e3, l3⟩ := Sb.cut_ex R1 (t - i - 1) (by omega)
  have hR2 : R2.length + (t - i - 1) = R1.length := by rw [e3, List.length_append]; omega
  obtain ⟨v, S, e4⟩ := Sb.cons_ex (P := R2) (by omega)
  subst e4 e3 e2
  have hu : H.getD i zh = u := by rw [e1, ← l1]; exact Sb.get_at _ _ _ _
  have hv : H.getD t zh = v := by
    rw [e1, show t = P.length + 1 + M.length by omega]
    exact Sb.get_at2 P M S u v zh
  refine ⟨P, M, S, by rw [hu, hv]; exact e1, ?_⟩
  unfold swp
  rw [hu, hv, e1, show t = P.length + 1 + M.length by omega, ← l1]
  exact Sb.swap_at P M S u v
theorem swp_perm {H : List Hd} {i t : Nat} (hit : i < t) (ht : t < H.length) : (swp H i t).Perm H := by
  obtain ⟨P, M, S, e1, e2⟩ := swp_split hit ht
  rw [e2]
  conv => rhs; rw [e1]
  generalize H.getD i zh = u
  generalize H.getD t zh = v
  refine List.Perm.append_left P ?_
  exact ((List.Perm.cons v List.perm_middle).trans (List.Perm.swap u v (M ++ S))).trans (List.Perm.cons u List.perm_middle.symm)
theorem HX.step {b : Bool} {s i t : Nat} {H : List Hd} (h : HX b s i H) (ht : Ch i t) (hl : t < H.length) (h1 : nb b (H.getD t zh) (H.getD i zh)) (hc : ∀ c, Ch i c → c < H.length → nb b (H.getD t zh) (H.getD c zh)) : HX b s t (swp H i t) := by
  have hit : i < t := by unfold Ch at ht; omega
  have hi : i < H.length := by omega
  refine ⟨by have := h.1; omega, ?_, ?_⟩
  · intro k c hk hne hch hcl
    rw [swp_len] at hcl
    by_cases e : k = i
    · subst e
      rw [swp_i hi (by omega)]
      by_cases e2 : c = t
      · subst e2; rw [swp_t hl]; exact h1
      · rw [swp_o (by unfold Ch at hch; omega) e2]; exact hc c hch hcl
    · rw [swp_o e hne]
      by_cases e2 : c = i
      · subst e2
        rw [swp_i hi (by omega)]
        exact h.2.2 k t hk hch ht hl
      · have e3 : c ≠ t := by unfold Ch at hch ht; omega
        rw [swp_o e2 e3]
        exact h.2.1 k c hk e hch hcl
  · intro p c hp hpt hch hcl
    rw [swp_len] at hcl
    have e : p = i := by unfold Ch at hpt ht; omega
    subst e
    rw [swp_i hi (by omega), swp_o (by unfold Ch at hch; omega) (by unfold Ch at hch; omega)]
    exact h.2.1 t c (by have := h.1; omega) (by omega) hch hcl
theorem HP.top {b : Bool} {H : List Hd} (h : HP b 0 H) : ∀ k, k < H.length → nb b (H.getD 0 zh) (H.getD k zh) := by
  intro k
  induction k using Nat.strongRecOn with
  | ind k ih =>
    intro hk
    by_cases e : k = 0
    · subst e; exact nb_refl _ _
    · exact nb_trans (ih ((k - 1) / 2) (by omega) (by omega)) (h ((k - 1) / 2) k (Nat.zero_le _) (by unfold Ch; omega) hk)
theorem HP.start (b : Bool) (H : List Hd) (s : Nat) (hs : H.length ≤ 2 * s + 1) : HP b s H := by
  intro k c hk hch hcl
  unfold Ch at hch; omega
theorem HP.hole {b : Bool} {i : Nat} {H : List Hd} (h : HP b (i + 1) H) : HX b i i H :=
  ⟨Nat.le_refl _, fun k c hk hne hch hcl => h k c (by omega) hch hcl, fun p c hp hpi _ _ => by unfold Ch at hpi; omega⟩
theorem HP.root {b : Bool} {H : List Hd} (h : HP b 0 H) (x : Hd) : HX b 0 0 (H.set 0 x) := by
  refine ⟨Nat.le_refl _, fun k c hk hne hch hcl => ?_, fun p c hp hpi _ _ => by unfold Ch at hpi; omega⟩
  rw [List.length_set] at hcl
  have e : ∀ j, j ≠ 0 → (H.set 0 x).getD j zh = H.getD j zh := fun j hj => by
    rw [List.getD_eq_getElem?_getD, List.getElem?_set_ne (fun e => hj e.symm), ← List.getD_eq_getElem?_getD]
  rw [e k hne, e c (by unfold Ch at hch; omega)]
  exact h k c hk hch hcl
theorem HX.take {b : Bool} {H : List Hd} (h : HX b 0 0 H) (n : Nat) : HX b 0 0 (H.take n) := by
  have e : ∀ j, j < n → (H.take n).getD j zh = H.getD j zh := fun j hj => by
    rw [List.getD_eq_getElem?_getD, List.getElem?_take, if_pos hj, ← List.getD_eq_getElem?_getD]
  refine ⟨Nat.le_refl _, fun k c hk hne hch hcl => ?_, fun p c hp hpi _ _ => by unfold Ch at hpi; omega⟩
  rw [List.length_take] at hcl
  rw [e k (by unfold Ch at hch; omega), e c (by omega)]
  exact h.2.1 k c hk hne hch (by omega)
/-- What drop leaves: the last one at the top, and one less. -/
def drp (H : List Hd) : List Hd := (H.set 0 (H.getD (H.length - 1) zh)).take (H.length - 1)
theorem drp_len {H : List Hd} : (drp H).length = H.length - 1 := by unfold drp; rw [List.length_take, List.length_set]; omega
theorem drp_perm {H : List Hd} (h : 0 < H.length) : (H.getD 0 zh :: drp H).Perm H := by
  obtain ⟨x, R, e⟩ := Sb.cons_ex h
  subst e
  unfold drp
  by_cases hR : R = []
  · subst hR; exact List.Perm.refl _
  · obtain ⟨Q, y, e⟩ := Sb.snoc_ex (P := R) (List.length_pos_iff.2 hR)
    subst e
    have e1 : (x :: (Q ++ [y])).length - 1 = Q.length + 1 := by simp
    have e2 : (x :: (Q ++ [y])).getD (Q.length + 1) zh = y := by simp
    rw [e1, e2]
    have e3 : ((x :: (Q ++ [y])).set 0 y).take (Q.length + 1) = y :: Q := by simp
    rw [e3]
    show (x :: y :: Q).Perm (x :: (Q ++ [y]))
    refine List.Perm.cons x ?_
    exact (List.perm_append_comm (l₁ := [y]) (l₂ := Q))
end Go.Proofs.Ytgjodfaliajlgaa.Hp

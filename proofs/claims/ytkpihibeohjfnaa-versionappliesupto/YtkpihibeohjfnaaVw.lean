/- Levels whose files do not overlap, in plain words. -/
import Derived.Test.YtkpihibeohjfnaaVv
namespace Go.Proofs.Ytkpihibeohjfnaa.Vw
open Go.Proofs.Ytkpihibeohjfnaa.Gr
open Go.Proofs.Ytkpihibeohjfnaa.Ev
open Go.Proofs.Ytkpihibeohjfnaa.Vp
open Go.Proofs.Ytkpihibeohjfnaa.Vq
open Go.Proofs.Ytkpihibeohjfnaa.Vr
open Go.Proofs.Ytkpihibeohjfnaa.Vt
open Go.Proofs.Ytkpihibeohjfnaa.Vu
open Go.Proofs.Ytkpihibeohjfnaa.Vv
open Go.Proofs.Ytkpihibeohjfnaa.Lx
set_option linter.unusedVariables false
set_option linter.unusedSimpArgs false

theorem may_lt {f : Fi} (h : may f = true) : lt f.a f.b = true := by
  unfold may at h
  simp only [Bool.and_eq_true] at h
  exact h.2.2.2.1
theorem at_ab {lv : Nat} {fs : List Fi} (h : lvOk lv fs) {i : Nat} (hi : i < fs.length) : lt (fs.getD i zf).a (fs.getD i zf).b = true := by
  have := h i hi
  unfold okAt at this
  rw [Bool.and_eq_true] at this
  exact may_lt this.1
theorem at_next {lv : Nat} (hlv : 0 < lv) {fs : List Fi} (h : lvOk lv fs) {i : Nat} (hi : i + 1 < fs.length) : lt (fs.getD (i + 1) zf).a (fs.getD i zf).b = false := by
  have := h (i + 1) hi
  unfold okAt at this
  rw [Bool.and_eq_true, Bool.or_eq_true] at this
  rcases this.2 with h1 | h1
  · simp at h1
  · unfold fol at h1
    rw [if_neg (by omega)] at h1
    simpa using h1
/-- Files of a level do not overlap. -/
theorem apart {lv : Nat} (hlv : 0 < lv) {fs : List Fi} (h : lvOk lv fs) : ∀ {j i : Nat}, i < j → j < fs.length → lt (fs.getD j zf).a (fs.getD i zf).b = false := by
  intro j
  induction j with
  | zero => intro i hi; omega
  | succ j ih =>
    intro i hij hj
    by_cases e : i = j
    · subst e; exact at_next hlv h hj
    · have h1 := ih (i := i) (by omega) (by omega)
      have h2 := at_next hlv h hj
      have h3 := at_ab h (i := j) (by omega)
      -- fs[i].b ≤ fs[j].a < fs[j].b ≤ fs[j+1].a
      have h4 : lt (fs.getD i zf).b (fs.getD j zf).b = true := lelt h1 h3
      have h5 : lt (fs.getD i zf).b (fs.getD (j + 1) zf).a = true := ltle h4 h2
      exact asym h5
theorem rise_b {lv : Nat} (hlv : 0 < lv) {fs : List Fi} (h : lvOk lv fs) {i j : Nat} (hij : i < j) (hj : j < fs.length) : lt (fs.getD i zf).b (fs.getD j zf).b = true := lelt (apart hlv h hij hj) (at_ab h hj)
theorem rise_a {lv : Nat} (hlv : 0 < lv) {fs : List Fi} (h : lvOk lv fs) {i j : Nat} (hij : i < j) (hj : j < fs.length) : lt (fs.getD i zf).a (fs.getD j zf).a = true := ltle (at_ab h (by omega)) (apart hlv h hij hj)
theorem mono_above {lv : Nat} (hlv : 0 < lv) {fs : List Fi} (h : lvOk lv fs) (key : ByteArray) : ∀ i j, i ≤ j → j < fs.length → above key fs i = true → above key fs j = true := by
  intro i j hij hj hi
  by_cases e : i = j
  · subst e; exact hi
  · exact tr hi (rise_b hlv h (by omega) hj)
/-- From which file on a level is not below a limit. -/
def notBelow (limit : ByteArray) (fs : List Fi) (i : Nat) : Bool := !(decide (limit.size = 0)) && !(lt (fs.getD i zf).a limit)
theorem mono_notBelow {lv : Nat} (hlv : 0 < lv) {fs : List Fi} (h : lvOk lv fs) (limit : ByteArray) : ∀ i j, i ≤ j → j < fs.length → notBelow limit fs i = true → notBelow limit fs j = true := by
  intro i j hij hj hi
  unfold notBelow at hi ⊢
  rw [Bool.and_eq_true] at hi ⊢
  refine ⟨hi.1, ?_⟩
  have h2 : lt (fs.getD i zf).a limit = false := by simpa using hi.2
  by_cases e : i = j
  · subst e; exact hi.2
  · have := lele h2 (asym (rise_a hlv h (by omega : i < j) hj))
    rw [this]; rfl
theorem mem_get {fs : List Fi} {x : Fi} (h : x ∈ fs) : ∃ i, i < fs.length ∧ fs.getD i zf = x := by
  obtain ⟨i, hi, e⟩ := List.getElem_of_mem h
  exact ⟨i, hi, by rw [List.getD_eq_getElem?_getD, List.getElem?_eq_getElem hi]; exact e⟩
theorem filter_range (p : Fi → Bool) (fs : List Fi) (a b : Nat) (hab : a ≤ b) (hb : b ≤ fs.length) (hp : ∀ i, i < fs.length → p (fs.getD i zf) = decide (a ≤ i ∧ i < b)) : fs.filter p = (fs.drop a).take (b - a) := by
  have e : fs = fs.take a ++ ((fs.drop a).take (b - a) ++ (fs.drop a).drop (b - a)) := by rw [List.take_append_drop, List.take_append_drop]
  have h1 : (fs.take a).filter p = [] := by
    rw [List.filter_eq_nil_iff]
    intro x hx
    obtain ⟨i, hi, he⟩ := mem_get hx
    rw [List.length_take] at hi
    have : fs.getD i zf = x := by rw [← he, List.getD_eq_getElem?_getD, List.getD_eq_getElem?_getD, List.getElem?_take_of_lt (by omega)]
    rw [← this, hp i (by omega)]
    simp; omega
  have h2 : ((fs.drop a).take (b - a)).filter p = (fs.drop a).take (b - a) := by
    rw [List.filter_eq_self]
    intro x hx
    obtain ⟨i, hi, he⟩ := mem_get hx
    rw [List.length_take, List.length_drop] at hi
    have : fs.getD (a + i) zf = x := by rw [← he, List.getD_eq_getElem?_getD, List.getD_eq_getElem?_getD, List.getElem?_take_of_lt (by omega), List.getElem?_drop]
    rw [← this, hp (a + i) (by omega)]
    simp; omega
  have h3 : ((fs.drop a).drop (b - a)).filter p = [] := by
    rw [List.filter_eq_nil_iff]
    intro x hx
    obtain ⟨i, hi, he⟩ := mem_get hx
    rw [List.length_drop, List.length_drop] at hi
    have : fs.getD (b + i) zf = x := by rw [← he, List.getD_eq_getElem?_getD, List.getD_eq_getElem?_getD, List.getElem?_drop, List.getElem?_drop, show a + (b - a + i) = b + i by omega]
    rw [← this, hp (b + i) (by omega)]
    simp
  calc fs.filter p = (fs.take a ++ ((fs.drop a).take (b - a) ++ (fs.drop a).drop (b - a))).filter p := by rw [← e]
    _ = (fs.drop a).take (b - a) := by rw [List.filter_append, List.filter_append, h1, h2, h3, List.nil_append, List.append_nil]
/-- What a range asks of a level whose files do not overlap. -/
theorem over_range {lv : Nat} (hlv : 0 < lv) {fs : List Fi} (h : lvOk lv fs) {least limit : ByteArray} (hl : limit.size = 0 ∨ lt least limit = true) {a b : Nat} (ha : Vu.Found (above least fs) fs.length a) (hb : Vu.Found (notBelow limit fs) fs.length b) :
    a ≤ b ∧ fs.filter (ovl least limit) = (fs.drop a).take (b - a) := by
  have hab : a ≤ b := by
    rcases Nat.lt_or_ge b a with hc | hc
    · exfalso
      have h1 := hb.hi b (Nat.le_refl _) (by have := ha.le; omega)
      have h2 := ha.lo b hc
      unfold notBelow at h1
      rw [Bool.and_eq_true] at h1
      rcases hl with h0 | h0
      · simp [h0] at h1
      · have h3 : lt (fs.getD b zf).a limit = false := by simpa using h1.2
        have h4 := at_ab h (i := b) (by have := ha.le; omega)
        have h5 : lt (fs.getD b zf).a least = true := ltle h4 h2
        have h6 := tr h5 h0
        rw [h3] at h6; cases h6
    · exact hc
  refine ⟨hab, filter_range _ _ _ _ hab hb.le (fun i hi => ?_)⟩
  unfold ovl
  by_cases h1 : a ≤ i
  · rw [show lt least (fs.getD i zf).b = true from ha.hi i h1 hi, Bool.true_and]
    by_cases h2 : i < b
    · rw [decide_eq_true (⟨h1, h2⟩ : a ≤ i ∧ i < b)]
      have := hb.lo i h2
      unfold notBelow at this
      cases hd : decide (limit.size = 0) with
      | true => rfl
      | false => rw [hd] at this; simpa using this
    · rw [decide_eq_false (fun h : a ≤ i ∧ i < b => h2 h.2)]
      have := hb.hi i (by omega) hi
      unfold notBelow at this
      cases hd : decide (limit.size = 0) with
      | true => rw [hd] at this; simp at this
      | false => rw [hd] at this; simpa using this
  · rw [decide_eq_false (fun h : a ≤ i ∧ i < b => h1 h.1), show lt least (fs.getD i zf).b = false from ha.lo i (by omega), Bool.false_and]
end Go.Proofs.Ytkpihibeohjfnaa.Vw

/- All entries of lists, merged, are in one order, and each source's are its own. -/
import Derived.Test.YtgjodfaliajlgaaPm
namespace Go.Proofs.Ytgjodfaliajlgaa.Pa
open Go.Proofs.Ytgjodfaliajlgaa.Ik
open Go.Proofs.Ytgjodfaliajlgaa.Ee
open Go.Proofs.Ytgjodfaliajlgaa.Sb
open Go.Proofs.Ytgjodfaliajlgaa.Sd hiding below_grown
open Go.Proofs.Ytgjodfaliajlgaa.Rsd
open Go.Proofs.Ytgjodfaliajlgaa.Ml
open Go.Proofs.Ytgjodfaliajlgaa.Mi
open Go.Proofs.Ytgjodfaliajlgaa.Hp
open Go.Proofs.Ytgjodfaliajlgaa.Gc9
open Go.Proofs.Ytgjodfaliajlgaa.Pm
set_option linter.unusedVariables false
set_option linter.unusedSimpArgs false

theorem mrg_congr {l l' : It → It → Bool} : ∀ (X Y : List It), (∀ x ∈ X, ∀ y ∈ Y, l x y = l' x y) → mrg l X Y = mrg l' X Y := by
  intro X
  induction X with
  | nil => intro Y _; rw [mrg_nil, mrg_nil]
  | cons x X ih =>
    intro Y
    induction Y with
    | nil => intro _; rw [mrg_right, mrg_right]
    | cons y Y ihy =>
      intro h
      rw [mrg_cons, mrg_cons, h x (List.mem_cons_self ..) y (List.mem_cons_self ..)]
      rw [ih (y :: Y) (fun a ha b hb => h a (List.mem_cons_of_mem _ ha) b hb), ihy (fun a ha b hb => h a ha b (List.mem_cons_of_mem _ hb))]
theorem mrg_fil_l {l : It → It → Bool} {p : It → Bool} : ∀ (X Y : List It), (∀ y ∈ Y, p y = false) → (mrg l X Y).filter p = X.filter p := by
  intro X
  induction X with
  | nil =>
    intro Y h
    rw [mrg_nil, List.filter_eq_nil_iff.2 (fun y hy => by rw [h y hy]; simp)]; rfl
  | cons x X ih =>
    intro Y
    induction Y with
    | nil => intro _; rw [mrg_right]
    | cons y Y ihy =>
      intro h
      rw [mrg_cons]
      by_cases hl : l x y = true
      · rw [if_pos hl, List.filter_cons, List.filter_cons, ih (y :: Y) h]
      · rw [if_neg hl, List.filter_cons_of_neg (by rw [h y (List.mem_cons_self ..)]; simp), ihy (fun a ha => h a (List.mem_cons_of_mem _ ha))]
theorem mrg_fil_r {l : It → It → Bool} {p : It → Bool} : ∀ (X Y : List It), (∀ x ∈ X, p x = false) → (mrg l X Y).filter p = Y.filter p := by
  intro X
  induction X with
  | nil => intro Y _; rw [mrg_nil]
  | cons x X ih =>
    intro Y
    induction Y with
    | nil =>
      intro h
      rw [mrg_right, List.filter_eq_nil_iff.2 (fun y hy => by rw [h y hy]; simp)]; rfl
    | cons y Y ihy =>
      intro h
      rw [mrg_cons]
      by_cases hl : l x y = true
      · rw [if_pos hl, List.filter_cons_of_neg (by rw [h x (List.mem_cons_self ..)]; simp), ih (y :: Y) (fun a ha => h a (List.mem_cons_of_mem _ ha))]
      · rw [if_neg hl, List.filter_cons, List.filter_cons, ihy h]
def lO (p q : It) : Bool := decide (cH (toH p) (toH q) ≤ 0)
theorem lO_tot : Tot lO := fun a b => by
  unfold lO
  have := cH_anti (toH a) (toH b)
  by_cases h : cH (toH a) (toH b) ≤ 0
  · exact .inl (decide_eq_true h)
  · exact .inr (decide_eq_true (show cH (toH b) (toH a) ≤ 0 by omega))
theorem lO_trn : Trn lO := fun a b c h k => by
  unfold lO at *
  exact decide_eq_true (cH_trans (of_decide_eq_true h) (of_decide_eq_true k))
theorem allI_f (fs : List Lf) : ∀ i, ∀ x ∈ allI fs i, x.f < i
  | 0, x, hx => by cases hx
  | i + 1, x, hx => by
    rcases mrg_mem'.1 (show x ∈ mrg lI (allI fs i) (tag i (srtE (fs.getD i zl).xs)) from hx) with h1 | h1
    · have := allI_f fs i x h1; omega
    · unfold tag at h1
      obtain ⟨e, he, rfl⟩ := List.mem_map.1 h1
      show i < i + 1; omega
theorem tag_f {i : Nat} {xs : List E} {x : It} (h : x ∈ tag i xs) : x.f = i := by
  unfold tag at h
  obtain ⟨e, he, rfl⟩ := List.mem_map.1 h
  rfl
theorem lI_lO {x y : It} (h : x.f < y.f) : lI x y = lO x y := by
  unfold lI lO Ew.le cH toH
  dsimp only
  by_cases h0 : cmp x.e.ik y.e.ik = 0
  · rw [if_neg (by simpa using h0), h0]
    unfold cI
    rw [if_pos h]; rfl
  · rw [if_pos h0]
theorem allI_lO (fs : List Lf) : ∀ i, Srt lO (allI fs i)
  | 0 => Srt.nil
  | i + 1 => by
    have h1 := allI_lO fs i
    have h2 : Srt lO (tag i (srtE (fs.getD i zl).xs)) := by
      have := (srtE_spec (fs.getD i zl).xs).1
      unfold tag Srt
      rw [List.pairwise_map]
      refine List.Pairwise.imp ?_ this
      intro a b hab
      have hab := of_decide_eq_true hab
      unfold lO cH toH
      dsimp only
      refine decide_eq_true ?_
      by_cases h0 : cmp a.ik b.ik = 0
      · rw [if_neg (by simpa using h0)]; unfold cI; rw [if_neg (by omega), if_neg (by omega)]; exact Int.le_refl _
      · rw [if_pos h0]; exact hab
    show Srt lO (mrg lI (allI fs i) (tag i (srtE (fs.getD i zl).xs)))
    rw [mrg_congr (l := lI) (l' := lO) _ _ (fun x hx y hy => lI_lO (by have := allI_f fs i x hx; have := tag_f hy; omega))]
    exact mrg_sorted lO lO_tot lO_trn _ _ h1 h2
theorem allI_fil (fs : List Lf) (f : Nat) : ∀ i, f < i → ((allI fs i).filter (is f)).map It.e = srtE (fs.getD f zl).xs
  | 0, h => by omega
  | i + 1, h => by
    show ((mrg lI (allI fs i) (tag i (srtE (fs.getD i zl).xs))).filter (is f)).map It.e = _
    by_cases e : f = i
    · subst e
      rw [mrg_fil_r _ _ (fun x hx => by have := allI_f fs f x hx; unfold is; rw [beq_eq_false_iff_ne]; omega)]
      rw [List.filter_eq_self.2 (fun x hx => by have := tag_f hx; unfold is; rw [this]; exact beq_self_eq_true _), tag_e]
    · rw [mrg_fil_l _ _ (fun x hx => by have := tag_f hx; unfold is; rw [beq_eq_false_iff_ne]; omega)]
      exact allI_fil fs f i (by omega)
theorem allI_ks {fs : List Lf} {B : Nat} (h : ∀ f ∈ fs, ∀ x ∈ f.xs, x.k.size ≤ B) : ∀ i, i ≤ fs.length → ∀ x ∈ allI fs i, x.e.k.size ≤ B
  | 0, _ => fun x hx => (by cases hx)
  | i + 1, hi => fun x hx => by
    rcases mrg_mem'.1 (show x ∈ mrg lI (allI fs i) (tag i (srtE (fs.getD i zl).xs)) from hx) with h1 | h1
    · exact allI_ks h i (by omega) x h1
    · unfold tag at h1
      obtain ⟨e, he, rfl⟩ := List.mem_map.1 h1
      exact h _ (get_mem zl (by omega)) e ((srtE_spec _).2.mem Ew.le_tot e he)
/-- Sources that have the lists' entries in their order have all entries. -/
theorem all_of {S : List Src} {fs : List Lf} {n : Nat} (hn : fs.length = n) (hS : S.length = n) (hs : ∀ f, f < n → (S.getD f zs).nil = false ∧ (S.getD f zs).ys = srtE (fs.getD f zl).xs ∧ (S.getD f zs).ys.length = (S.getD f zs).n)
    (hok : ∀ f ∈ fs, ∀ x ∈ f.xs, x.ok) (hks : ∀ f ∈ fs, ∀ x ∈ f.xs, x.k.size ≤ 140737488351232) : All S n (allI fs n) := by
  refine ⟨hS, fun f hf => (hs f hf).1, fun f hf => by rw [(hs f hf).2.1]; exact allI_fil fs f n hf, fun f hf => (hs f hf).2.2, allI_f fs n, ?_, allI_ok hok n (by omega), allI_ks hks n (by omega)⟩
  exact (allI_lO fs n).imp (fun h => of_decide_eq_true h)
end Go.Proofs.Ytgjodfaliajlgaa.Pa

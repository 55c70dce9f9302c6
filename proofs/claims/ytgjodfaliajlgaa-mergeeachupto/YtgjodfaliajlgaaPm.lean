/- A merged cursor's place among all entries, in plain words. -/
import Derived.Test.YtgjodfaliajlgaaGc9
namespace Go.Proofs.Ytgjodfaliajlgaa.Pm
open Go.Proofs.Ytgjodfaliajlgaa.Ik
open Go.Proofs.Ytgjodfaliajlgaa.Ee
open Go.Proofs.Ytgjodfaliajlgaa.Mi
open Go.Proofs.Ytgjodfaliajlgaa.Hp
open Go.Proofs.Ytgjodfaliajlgaa.Ls9 (hr hv hb)
open Go.Proofs.Ytgjodfaliajlgaa.Gc9
open Go.Proofs.Ytgjodfaliajlgaa.Sk9 (Cut)
set_option linter.unusedVariables false
set_option linter.unusedSimpArgs false

def is (f : Nat) (x : It) : Bool := x.f == f
def toH (x : It) : Hd := ⟨x.f, x.e⟩
/-- How many of the first k are of source f. -/
def cnt (L : List It) (f k : Nat) : Nat := ((L.take k).filter (is f)).length
/-- L is all that the sources have, in order. -/
structure All (S : List Src) (N : Nat) (L : List It) : Prop where
  n : S.length = N
  s : ∀ f, f < N → (S.getD f zs).nil = false
  y : ∀ f, f < N → (L.filter (is f)).map It.e = (S.getD f zs).ys
  l : ∀ f, f < N → (S.getD f zs).ys.length = (S.getD f zs).n
  lt : ∀ x ∈ L, x.f < N
  ord : L.Pairwise (fun a b => cH (toH a) (toH b) ≤ 0)
  ok : ∀ x ∈ L, x.e.ok
  ks : ∀ x ∈ L, x.e.k.size ≤ 140737488351232
theorem getD_get {α : Type} {l : List α} {k : Nat} (z : α) (h : k < l.length) : l.getD k z = l[k] := by
  rw [List.getD_eq_getElem?_getD, List.getElem?_eq_getElem h]; rfl
theorem get_mem {α : Type} {l : List α} {k : Nat} (z : α) (h : k < l.length) : l.getD k z ∈ l := by rw [getD_get z h]; exact List.getElem_mem h
theorem cnt_zero (L : List It) (f : Nat) : cnt L f 0 = 0 := by simp [cnt]
theorem cnt_succ {L : List It} {k : Nat} (f : Nat) (h : k < L.length) : cnt L f (k + 1) = cnt L f k + if (L.getD k zi).f = f then 1 else 0 := by
  unfold cnt
  rw [List.take_add_one, List.getElem?_eq_getElem h, getD_get zi h]
  simp only [Option.toList_some, List.filter_append, List.length_append]
  congr 1
  by_cases e : L[k].f = f
  · rw [if_pos e, List.filter_cons_of_pos (by simp [is, e])]; rfl
  · rw [if_neg e, List.filter_cons_of_neg (by simp [is, e])]; rfl
theorem fil_split (L : List It) (f k : Nat) : L.filter (is f) = (L.take k).filter (is f) ++ (L.drop k).filter (is f) := by rw [← List.filter_append, List.take_append_drop]
section
variable {S : List Src} {N : Nat} {L : List It}
theorem All.drop (h : All S N L) {f : Nat} (hf : f < N) (k : Nat) : (S.getD f zs).ys.drop (cnt L f k) = ((L.drop k).filter (is f)).map It.e := by
  rw [← h.y f hf, fil_split L f k, List.map_append]
  exact List.drop_left' (by simp [cnt])
theorem All.take (h : All S N L) {f : Nat} (hf : f < N) (k : Nat) : (S.getD f zs).ys.take (cnt L f k) = ((L.take k).filter (is f)).map It.e := by
  rw [← h.y f hf, fil_split L f k, List.map_append]
  exact List.take_left' (by simp [cnt])
theorem All.cnt_le (h : All S N L) {f : Nat} (hf : f < N) (k : Nat) : cnt L f k ≤ (S.getD f zs).ys.length := by
  rw [← h.y f hf, fil_split L f k, List.map_append, List.length_append]
  simp [cnt]
theorem All.cnt_end (h : All S N L) {f : Nat} (hf : f < N) {k : Nat} (hk : L.length ≤ k) : cnt L f k = (S.getD f zs).ys.length := by
  unfold cnt
  rw [List.take_of_length_le hk, ← h.y f hf, List.length_map]
/-- What all of the first k have, the first ones of a source have. -/
theorem All.lo (h : All S N L) {f : Nat} (hf : f < N) {k : Nat} {P : E → Prop} (hP : ∀ x ∈ L.take k, x.f = f → P x.e) : ∀ i, i < cnt L f k → P ((S.getD f zs).ys.getD i ze) := by
  intro i hi
  have hl := h.cnt_le hf k
  have hm : (S.getD f zs).ys.getD i ze ∈ (S.getD f zs).ys.take (cnt L f k) := by
    rw [getD_get ze (by omega), ← List.getElem_take (j := cnt L f k) (h := by rw [List.length_take]; omega)]
    exact List.getElem_mem _
  rw [h.take hf k] at hm
  obtain ⟨x, hx, hxe⟩ := List.mem_map.1 hm
  obtain ⟨h1, h2⟩ := List.mem_filter.1 hx
  rw [← hxe]; exact hP x h1 (by simpa [is] using h2)
theorem All.hi (h : All S N L) {f : Nat} (hf : f < N) {k : Nat} {P : E → Prop} (hP : ∀ x ∈ L.drop k, x.f = f → P x.e) : ∀ i, cnt L f k ≤ i → i < (S.getD f zs).ys.length → P ((S.getD f zs).ys.getD i ze) := by
  intro i hi hl
  have hm : (S.getD f zs).ys.getD i ze ∈ (S.getD f zs).ys.drop (cnt L f k) := by
    rw [getD_get ze hl]
    refine List.mem_iff_getElem.2 ⟨i - cnt L f k, by rw [List.length_drop]; omega, ?_⟩
    rw [List.getElem_drop]; congr 1; omega
  rw [h.drop hf k] at hm
  obtain ⟨x, hx, hxe⟩ := List.mem_map.1 hm
  obtain ⟨h1, h2⟩ := List.mem_filter.1 hx
  rw [← hxe]; exact hP x h1 (by simpa [is] using h2)
theorem All.fwd (h : All S N L) {f : Nat} (hf : f < N) {k : Nat} (hc : cnt L f k < (S.getD f zs).ys.length) : ∃ x ∈ L.drop k, x.f = f ∧ x.e = (S.getD f zs).ys.getD (cnt L f k) ze := by
  obtain ⟨x, h1, h2⟩ := h.hi hf (k := k) (P := fun e => ∃ x ∈ L.drop k, x.f = f ∧ x.e = e) (fun x hx hxf => ⟨x, hx, hxf, rfl⟩) _ (Nat.le_refl _) hc
  exact ⟨x, h1, h2⟩
theorem All.bwd (h : All S N L) {f : Nat} (hf : f < N) {k : Nat} (hc : 0 < cnt L f k) : ∃ x ∈ L.take k, x.f = f ∧ x.e = (S.getD f zs).ys.getD (cnt L f k - 1) ze := by
  obtain ⟨x, h1, h2⟩ := h.lo hf (k := k) (P := fun e => ∃ x ∈ L.take k, x.f = f ∧ x.e = e) (fun x hx hxf => ⟨x, hx, hxf, rfl⟩) (cnt L f k - 1) (by omega)
  exact ⟨x, h1, h2⟩
theorem All.fl (h : All S N L) {k : Nat} (hk : k < L.length) : (L.getD k zi).f < N := h.lt _ (get_mem zi hk)
theorem All.at_ (h : All S N L) {k : Nat} (hk : k < L.length) : cnt L (L.getD k zi).f k < (S.getD (L.getD k zi).f zs).ys.length ∧ (S.getD (L.getD k zi).f zs).ys.getD (cnt L (L.getD k zi).f k) ze = (L.getD k zi).e := by
  have e := h.drop (h.fl hk) k
  rw [drop_cons zi hk, List.filter_cons_of_pos (by simp [is]), List.map_cons] at e
  generalize (S.getD (L.getD k zi).f zs).ys = ys at *
  generalize cnt L (L.getD k zi).f k = c at *
  have hc : c < ys.length := by
    by_cases hc : c < ys.length
    · exact hc
    · rw [List.drop_of_length_le (by omega)] at e; cases e
  rw [drop_cons ze hc] at e
  injection e with e1 e2
  exact ⟨hc, e1⟩
theorem cH_self (x : Hd) : cH x x = 0 := by have := cH_anti x x; omega
theorem All.after (h : All S N L) {k : Nat} (hk : k < L.length) {y : It} (hy : y ∈ L.drop k) : cH (toH (L.getD k zi)) (toH y) ≤ 0 := by
  have hp := h.ord.sublist (List.drop_sublist k L)
  rw [drop_cons zi hk] at hp hy
  rcases List.mem_cons.1 hy with e | e
  · rw [e, cH_self]; exact Int.le_refl _
  · exact (List.pairwise_cons.1 hp).1 y e
theorem All.ahead (h : All S N L) {k : Nat} (hk : k < L.length) {y : It} (hy : y ∈ L.take (k + 1)) : cH (toH y) (toH (L.getD k zi)) ≤ 0 := by
  have hp := h.ord.sublist (List.take_sublist (k + 1) L)
  rw [List.take_add_one, List.getElem?_eq_getElem hk] at hp hy
  rw [getD_get zi hk]
  simp only [Option.toList_some] at hp hy
  rcases List.mem_append.1 hy with e | e
  · exact (List.pairwise_append.1 hp).2.2 y e _ (List.mem_singleton.2 rfl)
  · rw [List.mem_singleton.1 e, cH_self]; exact Int.le_refl _
/-- Where the sources stand: k entries lie behind, the next ones ahead. -/
def pl (L : List It) (bk : Bool) (k f : Nat) : Int := if bk then (cnt L f k : Int) - 1 else (cnt L f k : Int)
theorem hd_at {f : Nat} {s : Src} {c : Nat} (hn : s.nil = false) (hl : s.ys.length = s.n) (hc : c < s.n) : hd f s (c : Int) = [⟨f, s.ys.getD c ze⟩] := by
  unfold hd
  rw [if_pos ⟨hn, by unfold hb; simp; omega⟩]
  unfold hr
  rw [if_pos (by omega)]; rfl
theorem hd_no {f : Nat} {s : Src} {i : Int} (hc : i < 0 ∨ (s.n : Int) ≤ i) : hd f s i = [] := by
  unfold hd
  rw [if_neg]
  rintro ⟨_, h⟩
  unfold hb at h
  simp at h
  omega
theorem hds_mem {p : Nat → Int} {x : Hd} : ∀ k, x ∈ hds S p k ↔ ∃ f, f < k ∧ x ∈ hd f (S.getD f zs) (p f)
  | 0 => ⟨fun h => (by cases h), fun ⟨f, h, _⟩ => (by omega)⟩
  | k + 1 => by
    show x ∈ hds S p k ++ hd k (S.getD k zs) (p k) ↔ _
    rw [List.mem_append, hds_mem k]
    constructor
    · rintro (⟨f, h1, h2⟩ | h)
      · exact ⟨f, by omega, h2⟩
      · exact ⟨k, by omega, h⟩
    · rintro ⟨f, h1, h2⟩
      by_cases e : f = k
      · subst e; exact .inr h2
      · exact .inl ⟨f, by omega, h2⟩
theorem hd_f {f : Nat} {s : Src} {i : Int} {x : Hd} (h : x ∈ hd f s i) : x.f = f := by
  unfold hd at h
  split at h
  · rw [List.mem_singleton.1 h]
  · cases h
theorem hd_one {f : Nat} {s : Src} {i : Int} {x y : Hd} (h : x ∈ hd f s i) (k : y ∈ hd f s i) : x = y := by
  unfold hd at h k
  split at h
  · rename_i hh
    rw [if_pos hh] at k
    rw [List.mem_singleton.1 h, List.mem_singleton.1 k]
  · cases h
/-- The head of a source that stands at k is an entry on its side. -/
theorem All.side (h : All S N L) (bk : Bool) (k : Nat) {x : Hd} (hx : x ∈ hds S (pl L bk k) N) : ∃ y, y ∈ (if bk then L.take k else L.drop k) ∧ x = toH y := by
  obtain ⟨f, hf, hm⟩ := (hds_mem N).1 hx
  cases bk with
  | false =>
    simp only [pl, Bool.false_eq_true, if_false] at hm ⊢
    by_cases hc : cnt L f k < (S.getD f zs).n
    · rw [hd_at (h.s f hf) (h.l f hf) hc] at hm
      obtain ⟨y, h1, h2, h3⟩ := h.fwd hf (k := k) (by rw [h.l f hf]; exact hc)
      exact ⟨y, h1, by rw [List.mem_singleton.1 hm, ← h3, ← h2]; rfl⟩
    · rw [hd_no (by omega)] at hm; cases hm
  | true =>
    simp only [pl, if_true] at hm ⊢
    have hl := h.cnt_le hf k
    rw [h.l f hf] at hl
    by_cases hc : 0 < cnt L f k
    · rw [show (cnt L f k : Int) - 1 = ((cnt L f k - 1 : Nat) : Int) by omega, hd_at (h.s f hf) (h.l f hf) (by omega)] at hm
      obtain ⟨y, h1, h2, h3⟩ := h.bwd hf (k := k) hc
      exact ⟨y, h1, by rw [List.mem_singleton.1 hm, ← h3, ← h2]; rfl⟩
    · rw [hd_no (by omega)] at hm; cases hm
theorem All.hd_fwd (h : All S N L) {k : Nat} (hk : k < L.length) : hd (L.getD k zi).f (S.getD (L.getD k zi).f zs) (pl L false k (L.getD k zi).f) = [toH (L.getD k zi)] := by
  obtain ⟨h1, h2⟩ := h.at_ hk
  rw [h.l _ (h.fl hk)] at h1
  show hd _ _ ((cnt L (L.getD k zi).f k : Nat) : Int) = _
  rw [hd_at (h.s _ (h.fl hk)) (h.l _ (h.fl hk)) h1, h2]; rfl
theorem All.hd_bwd (h : All S N L) {k : Nat} (hk : k < L.length) : hd (L.getD k zi).f (S.getD (L.getD k zi).f zs) (pl L true (k + 1) (L.getD k zi).f) = [toH (L.getD k zi)] := by
  obtain ⟨h1, h2⟩ := h.at_ hk
  rw [h.l _ (h.fl hk)] at h1
  have e : pl L true (k + 1) (L.getD k zi).f = ((cnt L (L.getD k zi).f k : Nat) : Int) := by
    show (cnt L _ (k + 1) : Int) - 1 = _
    rw [cnt_succ _ hk, if_pos rfl]; omega
  rw [e, hd_at (h.s _ (h.fl hk)) (h.l _ (h.fl hk)) h1, h2]; rfl
theorem cH_zero {x y : Hd} (h : cH x y = 0) : x.f = y.f := by
  unfold cH at h
  split at h
  · omega
  · unfold cI at h
    split at h
    · omega
    · split at h
      · omega
      · omega
/-- At the top: the entry at which it stands. -/
theorem All.top (h : All S N L) (bk : Bool) (k j : Nat) {H : List Hd} (hp : HP bk 0 H) (hq : H.Perm (hds S (pl L bk k) N)) (hj : j < L.length) (hk : k = if bk then j + 1 else j) : 0 < H.length ∧ H.getD 0 zh = toH (L.getD j zi) := by
  have ht : hd (L.getD j zi).f (S.getD (L.getD j zi).f zs) (pl L bk k (L.getD j zi).f) = [toH (L.getD j zi)] := by
    cases bk with
    | false => simp only [Bool.false_eq_true, if_false] at hk; subst hk; exact h.hd_fwd hj
    | true => simp only [if_true] at hk; subst hk; exact h.hd_bwd hj
  have htm : toH (L.getD j zi) ∈ hds S (pl L bk k) N := (hds_mem N).2 ⟨_, h.fl hj, by rw [ht]; exact List.mem_singleton.2 rfl⟩
  have htH := hq.mem_iff.2 htm
  have hpos : 0 < H.length := List.length_pos_of_mem htH
  refine ⟨hpos, ?_⟩
  have h0 : H.getD 0 zh ∈ hds S (pl L bk k) N := hq.mem_iff.1 (get_mem zh hpos)
  obtain ⟨y, hy, e0⟩ := h.side bk k h0
  obtain ⟨i, hi, ei⟩ := List.mem_iff_getElem.1 htH
  have hn := hp.top i hi
  rw [getD_get zh hi, ei, nb_iff] at hn
  have hz : cH (H.getD 0 zh) (toH (L.getD j zi)) = 0 := by
    have ha := cH_anti (H.getD 0 zh) (toH (L.getD j zi))
    cases bk with
    | false =>
      simp only [Bool.false_eq_true, if_false] at hk hy hn; subst hk
      have := h.after hj hy
      rw [← e0] at this; omega
    | true =>
      simp only [if_true] at hk hy hn; subst hk
      have := h.ahead hj hy
      rw [← e0] at this; omega
  have hff := cH_zero hz
  obtain ⟨f, hf, hm⟩ := (hds_mem N).1 h0
  have ef := hd_f hm
  have e1 : (L.getD j zi).f = f := by rw [← ef, hff]; rfl
  rw [← e1] at hm
  exact hd_one hm (by rw [ht]; exact List.mem_singleton.2 rfl)
theorem All.none_ (h : All S N L) (bk : Bool) (k : Nat) {H : List Hd} (hq : H.Perm (hds S (pl L bk k) N)) (hk : if bk then k = 0 else k = L.length) : H = [] := by
  have : hds S (pl L bk k) N = [] := by
    apply List.eq_nil_iff_forall_not_mem.2
    intro x hx
    obtain ⟨y, hy, _⟩ := h.side bk k hx
    cases bk with
    | false => simp only [Bool.false_eq_true, if_false] at hk hy; subst hk; simp at hy
    | true => simp only [if_true] at hk hy; subst hk; simp at hy
  rw [this] at hq
  exact hq.eq_nil
end
/-- All but one source stay. -/
theorem hds_split (S : List Src) (p : Nat → Int) (f : Nat) : ∀ k, f < k → ∃ A B, ∀ q : Nat → Int, (∀ g, g ≠ f → q g = p g) → hds S q k = A ++ (hd f (S.getD f zs) (q f) ++ B)
  | 0, h => (by omega)
  | k + 1, h => by
    by_cases e : f = k
    · subst e
      refine ⟨hds S p f, [], fun q hq => ?_⟩
      show hds S q f ++ hd f (S.getD f zs) (q f) = _
      rw [hds_ext f (fun g hg => hq g (by omega)), List.append_nil]
    · obtain ⟨A, B, hAB⟩ := hds_split S p f k (by omega)
      refine ⟨A, B ++ hd k (S.getD k zs) (p k), fun q hq => ?_⟩
      show hds S q k ++ hd k (S.getD k zs) (q k) = _
      rw [hAB q hq, hq k (fun e2 => e e2.symm)]
      simp
theorem adv_one {S : List Src} {N f : Nat} {p q : Nat → Int} {H H' : List Hd} {x : Hd} (hf : f < N) (hq : H.Perm (hds S p N)) (h0 : 0 < H.length) (hx : hd f (S.getD f zs) (p f) = [H.getD 0 zh]) (ho : ∀ g, g ≠ f → q g = p g) (hy : hd f (S.getD f zs) (q f) = [x]) (hp : H'.Perm (H.set 0 x)) : H'.Perm (hds S q N) := by
  obtain ⟨A, B, hAB⟩ := hds_split S p f N hf
  rw [hAB p (fun _ _ => rfl), hx] at hq
  rw [hAB q ho, hy]
  obtain ⟨t, R, e⟩ := Sb.cons_ex h0
  subst e
  have e1 : (t :: R).getD 0 zh = t := rfl
  rw [e1] at hq
  have e2 : (t :: R).set 0 x = x :: R := rfl
  rw [e2] at hp
  have hR : R.Perm (A ++ B) := (hq.trans List.perm_middle).cons_inv
  exact hp.trans ((List.Perm.cons x hR).trans List.perm_middle.symm)
theorem adv_none {S : List Src} {N f : Nat} {p q : Nat → Int} {H H' : List Hd} (hf : f < N) (hq : H.Perm (hds S p N)) (h0 : 0 < H.length) (hx : hd f (S.getD f zs) (p f) = [H.getD 0 zh]) (ho : ∀ g, g ≠ f → q g = p g) (hy : hd f (S.getD f zs) (q f) = []) (hp : H'.Perm (drp H)) : H'.Perm (hds S q N) := by
  obtain ⟨A, B, hAB⟩ := hds_split S p f N hf
  rw [hAB p (fun _ _ => rfl), hx] at hq
  rw [hAB q ho, hy, List.nil_append]
  have k := (drp_perm h0).trans (hq.trans List.perm_middle)
  exact hp.trans k.cons_inv
section
variable {S : List Src} {N : Nat} {L : List It}
/-- A key's place among all is its place in each source. -/
theorem All.cut (h : All S N L) {q : IK} {m : Nat} (hm : Cut (L.map It.e) q m) {f : Nat} (hf : f < N) : Cut (S.getD f zs).ys q (cnt L f m) := by
  obtain ⟨h1, h2, h3⟩ := hm
  rw [List.length_map] at h1 h3
  have hg : ∀ j, j < L.length → (L.map It.e).getD j ze = (L.getD j zi).e := fun j hj => by
    rw [getD_get ze (by rw [List.length_map]; exact hj), getD_get zi hj, List.getElem_map]
  refine ⟨h.cnt_le hf m, h.lo hf (P := fun e => cmp e.ik q < 0) ?_, fun i hi hl => h.hi hf (P := fun e => ¬ cmp e.ik q < 0) ?_ i hi hl⟩
  · intro x hx _
    obtain ⟨j, hj, e⟩ := List.mem_iff_getElem.1 hx
    rw [List.length_take] at hj
    rw [List.getElem_take] at e
    have := h2 j (by omega)
    rw [hg j (by omega), getD_get zi (by omega), e] at this
    exact this
  · intro x hx _
    obtain ⟨j, hj, e⟩ := List.mem_iff_getElem.1 hx
    rw [List.length_drop] at hj
    rw [List.getElem_drop] at e
    have := h3 (m + j) (by omega) (by omega)
    rw [hg (m + j) (by omega), getD_get zi (by omega), e] at this
    exact this
theorem cH_le {x y : Hd} (h : cH x y ≤ 0) : cmp x.e.ik y.e.ik ≤ 0 := by
  unfold cH at h
  split at h
  · exact h
  · rename_i h0; simp at h0; omega
theorem cH_lt {x y : Hd} (h : cH x y ≤ 0) (hf : y.f < x.f) : cmp x.e.ik y.e.ik < 0 := by
  unfold cH at h
  split at h
  · rename_i h0; omega
  · unfold cI at h
    rw [if_neg (by omega), if_pos hf] at h; omega
/-- k is the place ahead of the entry j, or the one behind it. -/
theorem All.turn (h : All S N L) {j k : Nat} (hj : j < L.length) (hk : k = j ∨ k = j + 1) {f : Nat} : (∀ y ∈ L.take k, cH (toH y) (toH (L.getD j zi)) ≤ 0) ∧ (∀ y ∈ L.drop k, cH (toH (L.getD j zi)) (toH y) ≤ 0) := by
  refine ⟨fun y hy => h.ahead hj ?_, fun y hy => h.after hj ?_⟩
  · rcases hk with rfl | rfl
    · exact List.take_subset_take_left _ (by omega) hy
    · exact hy
  · rcases hk with rfl | rfl
    · exact hy
    · rw [drop_cons zi hj]; exact List.mem_cons_of_mem _ hy
theorem All.cut_lt (h : All S N L) {j k : Nat} (hj : j < L.length) (hk : k = j ∨ k = j + 1) {f : Nat} (hf : f < (L.getD j zi).f) {q : IK} (hq : ∀ x : E, x.ok → (cmp x.ik q < 0 ↔ cmp x.ik (L.getD j zi).e.ik ≤ 0)) : Cut (S.getD f zs).ys q (cnt L f k) := by
  have hfN : f < N := by have := h.fl hj; omega
  obtain ⟨t1, t2⟩ := h.turn hj hk (f := f)
  refine ⟨h.cnt_le hfN k, h.lo hfN (P := fun e => cmp e.ik q < 0) ?_, fun i hi hl => h.hi hfN (P := fun e => ¬ cmp e.ik q < 0) ?_ i hi hl⟩
  · intro x hx _
    exact (hq x.e (h.ok x (List.mem_of_mem_take hx))).2 (cH_le (t1 x hx))
  · intro x hx hxf hlt
    have a := (hq x.e (h.ok x (List.mem_of_mem_drop hx))).1 hlt
    have b := cH_lt (t2 x hx) (by show x.f < _; rw [hxf]; exact hf)
    have c := cmp_anti x.e.ik (L.getD j zi).e.ik
    change cmp (L.getD j zi).e.ik x.e.ik < 0 at b
    omega
theorem All.cut_gt (h : All S N L) {j k : Nat} (hj : j < L.length) (hk : k = j ∨ k = j + 1) {f : Nat} (hfN : f < N) (hf : (L.getD j zi).f < f) : Cut (S.getD f zs).ys (L.getD j zi).e.ik (cnt L f k) := by
  obtain ⟨t1, t2⟩ := h.turn hj hk (f := f)
  refine ⟨h.cnt_le hfN k, h.lo hfN (P := fun e => cmp e.ik (L.getD j zi).e.ik < 0) ?_, fun i hi hl => h.hi hfN (P := fun e => ¬ cmp e.ik (L.getD j zi).e.ik < 0) ?_ i hi hl⟩
  · intro x hx hxf
    exact cH_lt (t1 x hx) (by show _ < x.f; rw [hxf]; exact hf)
  · intro x hx hxf hlt
    have b := cH_le (t2 x hx)
    have c := cmp_anti x.e.ik (L.getD j zi).e.ik
    change cmp (L.getD j zi).e.ik x.e.ik ≤ 0 at b
    omega
end
end Go.Proofs.Ytgjodfaliajlgaa.Pm

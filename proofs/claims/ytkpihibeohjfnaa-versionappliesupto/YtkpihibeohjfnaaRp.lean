/- What an edit makes, place by place and file by file; in plain words. -/
import Derived.Test.YtkpihibeohjfnaaSr
import Derived.Test.YtkpihibeohjfnaaPq
namespace Go.Proofs.Ytkpihibeohjfnaa.Rp
open Go.ChangeShapes Go.WideShapes Go.ChangeAt Go.RowKit
open Go.Proofs.Ytkpihibeohjfnaa.Gr
open Go.Proofs.Ytkpihibeohjfnaa.Ev
open Go.Proofs.Ytkpihibeohjfnaa.Oe (wsum wsum_append wsum_len wF wA)
open Go.Proofs.Ytkpihibeohjfnaa.Lv
open Go.Proofs.Ytkpihibeohjfnaa.Vp
open Go.Proofs.Ytkpihibeohjfnaa.Vq
open Go.Proofs.Ytkpihibeohjfnaa.Vr
open Go.Proofs.Ytkpihibeohjfnaa.Vt
open Go.Proofs.Ytkpihibeohjfnaa.Bp
open Go.Proofs.Ytkpihibeohjfnaa.Ou
open Go.Proofs.Ytkpihibeohjfnaa.To (kp tk)
open Go.Proofs.Ytkpihibeohjfnaa.Cq (lF)
open Go.Proofs.Ytkpihibeohjfnaa.Pi (cm cm_snoc cm_len)
open Go.Proofs.Ytkpihibeohjfnaa.Sq
open Go.Proofs.Ytkpihibeohjfnaa.Sr
set_option linter.unusedVariables false
set_option linter.unusedSimpArgs false

section
variable {L : List (List Fi)} {ps qs : List Pl} {co : List Ad}
/-- p is a file's place. -/
def isP (L : List (List Fi)) (p : Pl) : Prop := p ∈ (ads L).map Ad.pl
theorem isP_iff {p : Pl} : isP L p ↔ ∃ k : Nat, k < L.length ∧ p.l = (k : Int) ∧ ∃ f ∈ L.getD k [], f.n = p.n := by
  unfold isP
  rw [List.mem_map]
  constructor
  · rintro ⟨x, hx, rfl⟩
    obtain ⟨k, h1, h2, h3⟩ := ads_mem.1 hx
    exact ⟨k, h1, h2, x.f, h3, rfl⟩
  · rintro ⟨k, h1, h2, f, h3, h4⟩
    refine ⟨⟨(k : Int), f⟩, ads_mem.2 ⟨k, h1, rfl, h3⟩, ?_⟩
    obtain ⟨pl, pn⟩ := p
    dsimp only at h2 h4
    subst h2 h4
    rfl
theorem fit_iff (hn : (nums L).Nodup) : fit L ps = true ↔ ps.Nodup ∧ ∀ p ∈ ps, isP L p := by
  constructor
  · intro hf
    have hp := rem_perm hn hf
    have hnd : ((rem L ps).map Ad.pl).Nodup := (pl_nodup hn).sublist (List.filter_sublist.map _)
    refine ⟨hp.nodup_iff.1 hnd, fun p h => ?_⟩
    rw [← hp.mem_iff] at h
    obtain ⟨x, hx, rfl⟩ := List.mem_map.1 h
    exact List.mem_map_of_mem (List.mem_filter.1 hx).1
  · rintro ⟨h1, h2⟩
    have hnd : ((rem L ps).map Ad.pl).Nodup := (pl_nodup hn).sublist (List.filter_sublist.map _)
    have hsub : ∀ p ∈ ps, p ∈ (rem L ps).map Ad.pl := by
      intro p hp
      obtain ⟨x, hx, e⟩ := List.mem_map.1 (h2 p hp)
      refine List.mem_map.2 ⟨x, List.mem_filter.2 ⟨hx, ?_⟩, e⟩
      rw [e]; simpa using hp
    have hsub2 : ∀ p ∈ (rem L ps).map Ad.pl, p ∈ ps := by
      intro p hp
      obtain ⟨x, hx, rfl⟩ := List.mem_map.1 hp
      simpa using (List.mem_filter.1 hx).2
    have hl : ps.length = ((rem L ps).map Ad.pl).length := by
      have a1 := length_le_of h1 hsub
      have a2 := length_le_of hnd hsub2
      omega
    rw [List.length_map] at hl
    unfold fit
    rw [beq_iff_eq]
    have := rem_len L ps
    omega
where
  length_le_of {α : Type} [DecidableEq α] : ∀ {r s : List α}, r.Nodup → (∀ x ∈ r, x ∈ s) → r.length ≤ s.length
    | [], _, _, _ => Nat.zero_le _
    | x :: r, s, hn, hs => by
      rw [List.nodup_cons] at hn
      have hx : x ∈ s := hs x (by simp)
      have hp := (List.perm_cons_erase hx).length_eq
      have := length_le_of (r := r) (s := s.erase x) hn.2 (fun y hy => (List.mem_erase_of_ne (fun e : y = x => hn.1 (e ▸ hy))).2 (hs y (by simp [hy])))
      simp at hp ⊢
      omega
/-- A file's Number taken out of a level. -/
def off (n : Int) (fs : List Fi) : List Fi := fs.filter fun f => !(f.n == n)
theorem off_snoc (n : Int) {fs : List Fi} {j : Nat} (h : j < fs.length) : off n (fs.take (j + 1)) = off n (fs.take j) ++ if (fs.getD j zf).n = n then [] else [fs.getD j zf] := by
  unfold off
  rw [El.take_snoc (E := eFi) h, List.filter_append]
  congr 1
  show List.filter _ [fs.getD j zf] = _
  by_cases e : (fs.getD j zf).n = n
  · rw [if_pos e, List.filter_cons_of_neg (by rw [beq_iff_eq.2 e]; simp)]; rfl
  · rw [if_neg e, List.filter_cons_of_pos (by rw [beq_eq_false_iff_ne.2 e]; rfl)]; rfl
theorem kp_off (k : Nat) (n : Int) (fs : List Fi) : off n (kp qs k fs) = kp (qs ++ [⟨(k : Int), n⟩]) k fs := by
  unfold off kp
  rw [List.filter_filter]
  congr 1
  funext f
  by_cases h1 : (⟨(k : Int), f.n⟩ : Pl) ∈ qs
  · simp [h1]
  · by_cases h2 : f.n = n
    · subst h2; simp
    · have h3 : ¬ (⟨(k : Int), f.n⟩ : Pl) ∈ qs ++ [⟨(k : Int), n⟩] := by
        rw [List.mem_append, List.mem_singleton]
        rintro (h | h)
        · exact h1 h
        · injection h with _ h; exact h2 h
      simp only [decide_eq_false h1, decide_eq_false h3]
      simpa using h2
theorem kp_other {k k' : Nat} (h : k ≠ k') (n : Int) (fs : List Fi) : kp (qs ++ [⟨(k : Int), n⟩]) k' fs = kp qs k' fs := by
  unfold kp
  congr 1
  funext f
  have : (⟨(k' : Int), f.n⟩ : Pl) ∈ qs ++ [⟨(k : Int), n⟩] ↔ (⟨(k' : Int), f.n⟩ : Pl) ∈ qs := by
    rw [List.mem_append, List.mem_singleton]
    constructor
    · rintro (h1 | h1)
      · exact h1
      · injection h1 with h1 _; omega
    · exact .inl
  rw [decide_eq_decide.2 this]
theorem off_len {n : Int} {fs : List Fi} : (off n fs).length = fs.length ↔ ∀ f ∈ fs, f.n ≠ n := by
  unfold off
  rw [List.length_filter_eq_length_iff]
  constructor
  · intro h f hf e
    have := h f hf
    simp [e] at this
  · intro h f hf
    simpa using h f hf
/-- A place whose file is there yet. -/
theorem gone_no {k : Nat} (hk : k < L.length) {n : Int} (h : (off n (kp qs k (L.getD k []))).length = (kp qs k (L.getD k [])).length) : ¬ (isP L ⟨(k : Int), n⟩ ∧ (⟨(k : Int), n⟩ : Pl) ∉ qs) := by
  rintro ⟨h1, h2⟩
  obtain ⟨k', h3, h4, f, h5, h6⟩ := isP_iff.1 h1
  have e : k = k' := by have h4' : (k : Int) = (k' : Int) := h4; omega
  subst e
  have h6' : f.n = n := h6
  subst h6'
  exact off_len.1 h f (List.mem_filter.2 ⟨h5, by simpa using h2⟩) rfl
theorem gone_yes {k : Nat} (hk : k < L.length) {n : Int} (h : (off n (kp qs k (L.getD k []))).length ≠ (kp qs k (L.getD k [])).length) : isP L ⟨(k : Int), n⟩ ∧ (⟨(k : Int), n⟩ : Pl) ∉ qs := by
  have : ∃ f ∈ kp qs k (L.getD k []), f.n = n := by
    by_cases hc : ∃ f ∈ kp qs k (L.getD k []), f.n = n
    · exact hc
    · exact absurd (off_len.2 (fun f hf e => hc ⟨f, hf, e⟩)) h
  obtain ⟨f, hf, rfl⟩ := this
  obtain ⟨h1, h2⟩ := List.mem_filter.1 hf
  exact ⟨isP_iff.2 ⟨k, hk, rfl, f, h1, rfl⟩, by simpa using h2⟩
/-- The places up to here fit. -/
def Upto (L : List (List Fi)) (qs : List Pl) : Prop := qs.Nodup ∧ ∀ p ∈ qs, isP L p
theorem Upto.nil : Upto L [] := ⟨List.nodup_nil, fun p h => by cases h⟩
theorem Upto.snoc {p : Pl} (h : Upto L qs) (h1 : isP L p) (h2 : p ∉ qs) : Upto L (qs ++ [p]) := by
  refine ⟨?_, ?_⟩
  · rw [List.nodup_append]
    refine ⟨h.1, by simp, fun a ha b hb e => ?_⟩
    rw [List.mem_singleton] at hb
    subst hb e
    exact h2 ha
  · intro x hx
    rw [List.mem_append, List.mem_singleton] at hx
    rcases hx with hx | rfl
    · exact h.2 x hx
    · exact h1
theorem bad_fit (hn : (nums L).Nodup) {p : Pl} {rs : List Pl} (he : ps = qs ++ p :: rs) (h : ¬ (isP L p ∧ p ∉ qs)) : fit L ps = false := by
  cases hf : fit L ps with
  | false => rfl
  | true =>
    exfalso
    obtain ⟨h1, h2⟩ := (fit_iff hn).1 hf
    rw [he] at h1 h2
    refine h ⟨h2 p (by simp), fun hm => ?_⟩
    exact (List.nodup_append.1 h1).2.2 p hm p (by simp) rfl
theorem no_level {p : Pl} (h : ¬ (0 ≤ p.l ∧ p.l < (L.length : Int))) : ¬ isP L p := by
  intro h1
  obtain ⟨k, h2, h3, _⟩ := isP_iff.1 h1
  exact h ⟨by omega, by omega⟩
theorem take_split {α : Type} {xs : List α} {d : α} {j : Nat} (h : j < xs.length) : xs = xs.take j ++ xs.getD j d :: xs.drop (j + 1) := by
  have h2 : xs.getD j d = xs[j] := by rw [List.getD_eq_getElem?_getD, List.getElem?_eq_getElem h]; rfl
  rw [h2, ← List.drop_eq_getElem_cons h, List.take_append_drop]
theorem good_fit {n : Nat} (h : fit L ps = false) : good L ps co = false := by unfold good; rw [h]; rfl
theorem good_inn (h : inn L.length co = false) : good L ps co = false := by unfold good; rw [h]; cases fit L ps <;> rfl
theorem inn_bad {n : Nat} {x : Ad} (hx : x ∈ co) (h : ¬ (0 ≤ x.l ∧ x.l < (n : Int))) : inn n co = false := by
  cases hc : inn n co with
  | false => rfl
  | true => exact absurd (inn_all hc x hx) h
theorem inn_of {n : Nat} (h : ∀ x ∈ co, 0 ≤ x.l ∧ x.l < (n : Int)) : inn n co = true := by
  unfold inn fr
  rw [List.all_eq_true]
  intro x hx
  have := h x hx
  simp
  omega
theorem kp_srt (hv : vld L = true) {k : Nat} (hk : k < L.length) : Srt k (kp ps k (L.getD k [])) := by
  unfold Srt
  exact ((strict_of ((vld_parts hv).1 k hk)).srt).sublist List.filter_sublist
end
/-! ### Levels made by a call: a level laid anew -/
theorem row_ou {w W W' : World} {g : Nat} {xs : List Lf} (h : Ou w W g xs) {k : Nat} (hk : k < xs.length) (b : Below W.heap.size W W') {a : Option Addr} {n c : Nat} {ys : List Fi} (o : eFi.Own W' W.heap.size (.slice a n c) ys) (hn : n = ys.length) (hy : ∀ f ∈ ys, f.ok) :
    W'.heap[g]? = some (.cells (xs.map hd).toArray 39) ∧ Ou w (W'.setCell ⟨g, k, none⟩ (.slice a n c)) g (xs.set k ⟨a, n, c, ys⟩) := by
  have h' := h.later b
  have hgW : g < W.heap.size := blk_lt h.blk
  have ht : (xs.set k ⟨a, n, c, ys⟩).map hd = (xs.map hd).set k (.slice a n c) := by rw [List.map_set]; rfl
  have hne : ∀ {v : Value} {zs : List Fi} {base : Nat}, eFi.Own W' base v zs → ∀ j, v.ownBlock = some j → j ≠ g := by
    intro v zs base hz j hj e
    subst e
    obtain ⟨c1, e1⟩ := Aq.own_ty hz j hj
    rw [h'.blk] at e1
    injection e1 with e3
    injection e3 with _ e4
    revert e4
    show ¬ ((39 : Nat) = 43)
    decide
  have away : ∀ {v : Value} {zs : List Fi} {base : Nat}, eFi.Own W' base v zs → eFi.Own (W'.setCell ⟨g, k, none⟩ (.slice a n c)) base v zs := fun hz => own_blocks hz (fun j hj => set_ne _ _ _ _ _ (hne hz j hj))
  have ob : eFi.Own W' w.heap.size (.slice a n c) ys := own_base o (fun j hj => Nat.le_trans h.lo.size (own_lt o j hj).1)
  refine ⟨h'.blk, ?_, h.hg, ?_, ?_, h'.lo.setCell h.hg _⟩
  · rw [ht, set_of h'.blk k _]
    simp
  · intro i hi
    rw [List.length_set] at hi
    by_cases e : k = i
    · subst e
      rw [Go.Proofs.Ytkpihibeohjfnaa.Ou.getD_set_eq hk]
      exact ⟨hn, away ob, hy⟩
    · rw [Go.Proofs.Ytkpihibeohjfnaa.Ou.getD_set_ne e]
      exact ⟨(h'.r i hi).1, away (h'.r i hi).2.1, (h'.r i hi).2.2⟩
  · intro i i' j hi hi' hii hj
    rw [List.length_set] at hi hi'
    by_cases e : k = i
    · subst e
      rw [Go.Proofs.Ytkpihibeohjfnaa.Ou.getD_set_eq hk] at hj
      rw [Go.Proofs.Ytkpihibeohjfnaa.Ou.getD_set_ne hii]
      intro hj'
      have h1 := (own_lt o j hj).1
      have h2 := (own_lt (h.r i' hi').2.1 j hj').2
      omega
    · rw [Go.Proofs.Ytkpihibeohjfnaa.Ou.getD_set_ne e] at hj
      by_cases e' : k = i'
      · subst e'
        rw [Go.Proofs.Ytkpihibeohjfnaa.Ou.getD_set_eq hk]
        intro hj'
        have h1 := (own_lt o j hj').1
        have h2 := (own_lt (h.r i hi).2.1 j hj).2
        omega
      · rw [Go.Proofs.Ytkpihibeohjfnaa.Ou.getD_set_ne e']
        exact h.dis i i' j hi hi' hii hj
end Go.Proofs.Ytkpihibeohjfnaa.Rp

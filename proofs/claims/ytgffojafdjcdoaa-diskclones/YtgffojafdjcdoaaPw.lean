/- Plain: files that are alike; what a crash leaves of each file. -/
import Derived.Test.YtgffojafdjcdoaaCs
namespace Go.Proofs.Ytgffojafdjcdoaa.Pw
open Go.Sort
open Go.Proofs.Ytgffojafdjcdoaa.Mp
open Go.Proofs.Ytgffojafdjcdoaa.Dk
open Go.Proofs.Ytgffojafdjcdoaa.Us
open Go.Proofs.Ytgffojafdjcdoaa.Lt
open Go.Proofs.Ytgffojafdjcdoaa.Cr
open Go.Proofs.Ytgffojafdjcdoaa.Cs
set_option linter.unusedVariables false
set_option linter.unusedSimpArgs false

theorem perm_of_mem : ∀ {l m : List K}, l.Nodup → m.Nodup → (∀ x, x ∈ l ↔ x ∈ m) → l.Perm m
  | [], m, _, _, h => by
    cases m with
    | nil => exact List.Perm.refl _
    | cons y t => exact absurd ((h y).2 (by simp)) (by simp)
  | x :: t, m, hl, hm, h => by
    have hx : x ∈ m := (h x).1 (by simp)
    have p := List.perm_cons_erase hx
    refine (List.Perm.cons x (perm_of_mem (List.nodup_cons.1 hl).2 (hm.erase x) (fun y => ?_))).trans p.symm
    rw [hm.mem_erase_iff]
    constructor
    · intro hy
      exact ⟨fun e => (List.nodup_cons.1 hl).1 (e ▸ hy), (h y).1 (by simp [hy])⟩
    · rintro ⟨h1, h2⟩
      rcases List.mem_cons.1 ((h y).2 h2) with e | e
      · exact absurd e h1
      · exact e
theorem mem_names {fs : Fs} {s : K} : s ∈ names fs ↔ (seek fs s).isSome = true := by
  constructor
  · intro h
    obtain ⟨f, hf⟩ := seek_name h
    rw [hf]; rfl
  · intro h
    cases hf : seek fs s with
    | none => rw [hf] at h; cases h
    | some f => exact List.mem_map.2 ⟨(s, f), seek_mem hf, rfl⟩
/-- The same files, in memory of their own. -/
structure Alike (fs2 fs : Fs) : Prop where
  nd : (names fs2).Nodup
  is : ∀ s, (seek fs2 s).isSome = (seek fs s).isSome
  at_ : ∀ s f, seek fs s = some f → ∃ sl, seek fs2 s = some ⟨sl, f.zs, f.k⟩
theorem names_perm {fs gs : Fs} (h1 : (names fs).Nodup) (h2 : (names gs).Nodup) (h : ∀ s, (seek fs s).isSome = (seek gs s).isSome) : (names fs).Perm (names gs) :=
  perm_of_mem h1 h2 (fun s => by rw [mem_names, mem_names, h])
theorem lst_same {fs gs : Fs} (h1 : (names fs).Nodup) (h2 : (names gs).Nodup) (h : ∀ s, (seek fs s).isSome = (seek gs s).isSome) : lst fs = lst gs := mergeSort_of_perm (names_perm h1 h2 h)
theorem used_flen {fs gs : Fs} (h1 : (names fs).Nodup) (h2 : (names gs).Nodup) (h : ∀ s, (seek fs s).isSome = (seek gs s).isSome) (hl : ∀ s, flen fs s ≤ flen gs s) : used fs ≤ used gs := by
  rw [← sum_names h1, ← sum_names h2, sum_perm (names_perm h1 h2 h)]
  generalize names gs = l
  induction l with
  | nil => exact Nat.le_refl _
  | cons x t ih =>
    have := hl x
    simp only [sumOf, List.map_cons, List.sum_cons] at ih ⊢
    omega
theorem Alike.flen {fs2 fs : Fs} (h : Alike fs2 fs) (s : K) : Us.flen fs2 s = Us.flen fs s := by
  unfold Us.flen
  cases hf : seek fs s with
  | some f =>
    obtain ⟨sl, e⟩ := h.at_ s f hf
    rw [e]
  | none =>
    have := h.is s
    rw [hf] at this
    cases hg : seek fs2 s with
    | none => rfl
    | some g => rw [hg] at this; cases this
theorem Alike.used {fs2 fs : Fs} (h : Alike fs2 fs) (hn : (names fs).Nodup) : Mp.used fs2 = Mp.used fs :=
  Nat.le_antisymm (used_flen h.nd hn h.is (fun s => Nat.le_of_eq (h.flen s))) (used_flen hn h.nd (fun s => (h.is s).symm) (fun s => Nat.le_of_eq (h.flen s).symm))
theorem Alike.len {fs2 fs : Fs} (h : Alike fs2 fs) (hn : (names fs).Nodup) : fs2.length = fs.length := by
  have := (names_perm h.nd hn h.is).length_eq
  simpa [names] using this
/-! ### A crash -/
theorem nodup_cut {fs : Fs} {s : K} {x : Int} (h : (names fs).Nodup) : (names (cutAt fs s x)).Nodup := by
  unfold cutAt
  split
  · exact nodup_put _ _ h
  · exact h
theorem nodup_cst {fs : Fs} (ks : List Int) (h : (names fs).Nodup) (j : Nat) : (names (cst fs ks j)).Nodup := by
  induction j with
  | zero => exact h
  | succ j ih => unfold cst; exact nodup_cut ih
theorem seek_cut_other {fs : Fs} {s t : K} {x : Int} (h : t ≠ s) : seek (cutAt fs s x) t = seek fs t := by
  unfold cutAt
  split
  · exact seek_put_other _ h
  · rfl
theorem lst_nodup {fs : Fs} (h : (names fs).Nodup) : (lst fs).Nodup := (List.mergeSort_perm _ _).nodup_iff.2 h
theorem getD_mem {l : List K} {i : Nat} (h : i < l.length) : l.getD i [] ∈ l := by
  rw [List.getD_eq_getElem?_getD, List.getElem?_eq_getElem h]; exact List.getElem_mem _
theorem getD_inj {l : List K} (hn : l.Nodup) {i j : Nat} (hi : i < l.length) (hj : j < l.length) (h : l.getD i [] = l.getD j []) : i = j := by
  rw [List.getD_eq_getElem?_getD, List.getElem?_eq_getElem hi, List.getD_eq_getElem?_getD, List.getElem?_eq_getElem hj] at h
  exact (List.getElem_inj hn).1 h
/-- What a file is behind j rounds of a crash. -/
theorem cst_at {fs : Fs} (hn : (names fs).Nodup) (ks : List Int) (i : Nat) (hi : i < fs.length) (f : Fl) (hf : seek fs ((lst fs).getD i []) = some f) : ∀ j, j ≤ fs.length → seek (cst fs ks j) ((lst fs).getD i []) = some (if i < j then cutF f (kpt ks i) else f)
  | 0, _ => by rw [if_neg (by omega)]; exact hf
  | j + 1, hj => by
    have ih := cst_at hn ks i hi f hf j (by omega)
    have hl := lst_len fs
    unfold cst
    by_cases e : i = j
    · subst e
      rw [if_neg (by omega)] at ih
      rw [if_pos (by omega)]
      unfold cutAt
      rw [ih]
      exact seek_put_same _ _ _
    · rw [seek_cut_other (fun h => e (getD_inj (lst_nodup hn) (by omega) (by omega) h)), ih]
      by_cases h : i < j
      · rw [if_pos h, if_pos (by omega)]
      · rw [if_neg h, if_neg (by omega)]
theorem crs_at {S : St} (hn : (names S.fs).Nodup) (ks : List Int) (i : Nat) (hi : i < S.fs.length) (f : Fl) (hf : seek S.fs ((lst S.fs).getD i []) = some f) : seek (crs S ks).fs ((lst S.fs).getD i []) = some (cutF f (kpt ks i)) := by
  have := cst_at hn ks i hi f hf S.fs.length (Nat.le_refl _)
  rw [if_pos hi] at this
  exact this
theorem crs_is {S : St} (ks : List Int) (s : K) : (seek (crs S ks).fs s).isSome = (seek S.fs s).isSome := seek_cst S.fs ks S.fs.length s
theorem crs_nd {S : St} (hn : (names S.fs).Nodup) (ks : List Int) : (names (crs S ks).fs).Nodup := nodup_cst ks hn _
theorem mem_at {fs : Fs} {s : K} (h : s ∈ names fs) : ∃ i, i < fs.length ∧ (lst fs).getD i [] = s := by
  obtain ⟨i, hi, e⟩ := List.getElem_of_mem (lst_mem.2 h)
  refine ⟨i, by rw [← lst_len]; exact hi, ?_⟩
  rw [List.getD_eq_getElem?_getD, List.getElem?_eq_getElem hi, e]; rfl
theorem crs_used {S : St} (hn : (names S.fs).Nodup) (hk : ∀ s f, seek S.fs s = some f → f.k ≤ f.zs.length) (ks : List Int) : Mp.used (crs S ks).fs ≤ Mp.used S.fs := by
  refine used_flen (crs_nd hn ks) hn (crs_is ks) (fun s => ?_)
  unfold Us.flen
  cases hf : seek S.fs s with
  | none =>
    have := crs_is (S := S) ks s
    rw [hf] at this
    cases hg : seek (crs S ks).fs s with
    | none => exact Nat.le_refl _
    | some g => rw [hg] at this; cases this
  | some f =>
    obtain ⟨i, hi, rfl⟩ := mem_at (mem_names.2 (by rw [hf]; rfl))
    rw [crs_at hn ks i hi f hf]
    have := (@sty_le f.zs.length f.k (kpt ks i) (hk _ f hf)).2
    show (f.zs.take _).length ≤ f.zs.length
    rw [List.length_take]
    exact Nat.min_le_right _ _
end Go.Proofs.Ytgffojafdjcdoaa.Pw

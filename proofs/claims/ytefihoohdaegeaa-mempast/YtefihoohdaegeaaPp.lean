/- Plain: what is seen stays: a memtable of greater numbers changes nothing of what is told. -/
import Derived.Test.YtefihoohdaegeaaQv
import Derived.Test.YtefihoohdaegeaaBs
namespace Go.Proofs.Ytefihoohdaegeaa.Pp
open Go.Proofs.Ytefihoohdaegeaa.Ik
open Go.Proofs.Ytefihoohdaegeaa.Ee (E ze)
open Go.Proofs.Ytefihoohdaegeaa.Nw (newest step_no)
open Go.Proofs.Ytefihoohdaegeaa.Tm (T vd zt)
open Go.Proofs.Ytefihoohdaegeaa.Cv (cov hit)
open Go.Proofs.Ytefihoohdaegeaa.Sg
open Go.Proofs.Ytefihoohdaegeaa.In
open Go.Proofs.Ytefihoohdaegeaa.Cm
open Go.Proofs.Ytefihoohdaegeaa.Tb
open Go.Proofs.Ytefihoohdaegeaa.Ad
open Go.Proofs.Ytefihoohdaegeaa.Fl
open Go.Proofs.Ytefihoohdaegeaa.An
open Go.Proofs.Ytefihoohdaegeaa.Bs (adS_wf)
open Go.Proofs.Ytefihoohdaegeaa.Gt
open Go.Proofs.Ytefihoohdaegeaa.Qu (St.frz)
set_option linter.unusedVariables false
set_option linter.unusedSimpArgs false

def fo (S : St) (x : A6) : St := adS S x.sq x.c x.k x.v x.ht
def fol (xs : List A6) : St := xs.foldl fo (St.new 1)
def f2 (q : Int) (S : St) (x : A6) : St := if q < x.sq then fo S x else S
def fol2 (q : Int) (xs : List A6) : St := xs.foldl (f2 q) (St.new 2)
theorem fol_snoc (xs : List A6) (x : A6) : fol (xs ++ [x]) = fo (fol xs) x := by unfold fol; rw [List.foldl_append]; rfl
theorem fol2_snoc (q : Int) (xs : List A6) (x : A6) : fol2 q (xs ++ [x]) = f2 q (fol2 q xs) x := by unfold fol2; rw [List.foldl_append]; rfl
/-- What an Add may bring. -/
theorem fo_ns (S : St) (x : A6) : ((fo S x).ns = S.ns ∨ ∃ n, (fo S x).ns = S.ns ++ [n] ∧ n.s = x.sq) ∧ ((fo S x).ts = S.ts ∨ ∃ t, (fo S x).ts = S.ts ++ [t] ∧ t.s = x.sq) ∧ (fo S x).log = S.log := by
  unfold fo adS
  by_cases h : adE S x.sq x.c x.k x.v x.ht ≠ 0
  · rw [if_pos h]; exact ⟨.inl rfl, .inl rfl, rfl⟩
  · rw [if_neg h]
    by_cases hc : x.c = 2
    · rw [if_pos hc]; exact ⟨.inl rfl, .inr ⟨_, rfl, rfl⟩, rfl⟩
    · rw [if_neg hc]; exact ⟨.inr ⟨_, rfl, rfl⟩, .inl rfl, rfl⟩
theorem fol_spec : ∀ (n : Nat) (xs : List A6), xs.length = n → Wf (fol xs) ∧ (fol xs).ts.length ≤ n ∧ (fol xs).log = 1 := by
  intro n
  induction n with
  | zero => intro xs h; rw [List.eq_nil_of_length_eq_zero h]; exact ⟨Wf.new 1, by simp [fol, St.new], rfl⟩
  | succ n ih =>
    intro xs h
    obtain ⟨ys, y, rfl⟩ : ∃ ys y, xs = ys ++ [y] := by
      rcases List.eq_nil_or_concat xs with e | ⟨ys, y, e⟩
      · rw [e] at h; cases h
      · exact ⟨ys, y, by simpa using e⟩
    obtain ⟨a, b, c⟩ := ih ys (by simpa using h)
    rw [fol_snoc]
    obtain ⟨_, u, z⟩ := fo_ns (fol ys) y
    refine ⟨adS_wf a _ _ _ _ _, ?_, z.trans c⟩
    rcases u with e | ⟨t, e, _⟩
    · rw [e]; omega
    · rw [e]; simp; omega
theorem fol2_spec (q : Int) : ∀ (n : Nat) (xs : List A6), xs.length = n → Wf (fol2 q xs) ∧ (fol2 q xs).ts.length ≤ n ∧ (∀ m ∈ (fol2 q xs).ns, q < m.s) ∧ (∀ t ∈ (fol2 q xs).ts, q < t.s) := by
  intro n
  induction n with
  | zero => intro xs h; rw [List.eq_nil_of_length_eq_zero h]; exact ⟨Wf.new 2, by simp [fol2, St.new], fun m h => by simp [fol2, St.new] at h, fun t h => by simp [fol2, St.new] at h⟩
  | succ n ih =>
    intro xs h
    obtain ⟨ys, y, rfl⟩ : ∃ ys y, xs = ys ++ [y] := by
      rcases List.eq_nil_or_concat xs with e | ⟨ys, y, e⟩
      · rw [e] at h; cases h
      · exact ⟨ys, y, by simpa using e⟩
    obtain ⟨a, b, c, d⟩ := ih ys (by simpa using h)
    rw [fol2_snoc]
    unfold f2
    by_cases hq : q < y.sq
    · rw [if_pos hq]
      obtain ⟨v, u, _⟩ := fo_ns (fol2 q ys) y
      refine ⟨adS_wf a _ _ _ _ _, ?_, ?_, ?_⟩
      · rcases u with e | ⟨t, e, _⟩
        · rw [e]; omega
        · rw [e]; simp; omega
      · rcases v with e | ⟨t, e, e2⟩
        · rw [e]; exact c
        · rw [e]; intro m hm
          rcases List.mem_append.1 hm with h | h
          · exact c m h
          · rw [List.mem_singleton.1 h, e2]; exact hq
      · rcases u with e | ⟨t, e, e2⟩
        · rw [e]; exact d
        · rw [e]; intro m hm
          rcases List.mem_append.1 hm with h | h
          · exact d m h
          · rw [List.mem_singleton.1 h, e2]; exact hq
    · rw [if_neg hq]; exact ⟨a, by omega, c, d⟩
theorem hit_le {k : ByteArray} {q : Int} {t : T} (h : hit k q t = true) : t.s ≤ q := by
  unfold hit at h
  simp at h
  omega
theorem fnd_past {S S2 : St} (W : Wf S2) (g g' g2 : Nat) (k : ByteArray) (q : Int) (h1 : ∀ m ∈ S2.ns, q < m.s) (h2 : ∀ t ∈ S2.ts, q < t.s) : fnd [(g2, S2), (g, St.frz S)] k q = fnd [(g', S)] k q := by
  have hc : (cov S2.ts k q).1 = 0 := by
    rcases cov_spec W k q with ⟨e, _⟩ | ⟨x, hx, hh, _⟩
    · exact e
    · have := h2 x hx; have := hit_le hh; omega
  have hC : cvr [(g2, S2), (g, St.frz S)] k q = cvr [(g', S)] k q := by
    show max (max 0 (cov S2.ts k q).1) (cov S.ts k q).1 = max 0 (cov S.ts k q).1
    rw [hc]; simp
  have hN : newest k q (entL [(g2, S2), (g, St.frz S)] k q) = newest k q (entL [(g', S)] k q) := by
    have e1 : entL [(g2, S2), (g, St.frz S)] k q = entS S2 k q ++ entL [(g', S)] k q := by
      simp [entL]; rfl
    rw [e1]
    have e2 : newest k q (entS S2 k q) = none := by
      unfold entS
      by_cases h0 : firstN S2.ns S2.ord (ik k (At.atS q) 255) = 0
      · rw [if_pos h0]; rfl
      · rw [if_neg h0]
        have hm := h1 _ (nd_mem (ns := S2.ns) (n := firstN S2.ns S2.ord (ik k (At.atS q) 255)) (by omega) (firstN_le W _))
        show Nw.step k q none _ = none
        refine step_no (fun ht => ?_)
        have h3 := ht.2.1
        unfold Eo.entN at h3
        rw [if_neg h0] at h3
        have h4 : (nd S2.ns (firstN S2.ns S2.ord (ik k (At.atS q) 255))).s ≤ q := h3
        omega
    unfold newest at e2 ⊢
    rw [List.foldl_append, e2]
  unfold fnd
  rw [hC, hN]
end Go.Proofs.Ytefihoohdaegeaa.Pp

/- What is cut covers, between the bounds, just what was covered: plain. -/
import Derived.Test.YtfmpdalabgfigabCv
import Derived.Test.YtfmpdalabgfigabCu
namespace Go.Proofs.Ytfmpdalabgfigab.Pc
open Go.ChangeShapes Go.WideShapes Go.ChangeAt Go.RowKit Go.Shelf
open Go.Proofs.Ytfmpdalabgfigab.Lx
open Go.Proofs.Ytfmpdalabgfigab.Tm
open Go.Proofs.Ytfmpdalabgfigab.Cv
open Go.Proofs.Ytfmpdalabgfigab.Cu
set_option linter.unusedVariables false
set_option linter.unusedSimpArgs false

theorem lt_mx (k a b : ByteArray) : lt k (mx a b) = (lt k a || lt k b) := by
  unfold mx
  cases h : lt a b with
  | true =>
    rw [if_pos rfl]
    cases h2 : lt k b with
    | true => simp
    | false =>
      cases h3 : lt k a with
      | false => rfl
      | true => have := tr h3 h; rw [h2] at this; cases this
  | false =>
    rw [if_neg (by simp)]
    cases h2 : lt k a with
    | true => simp
    | false =>
      cases h3 : lt k b with
      | false => rfl
      | true => have := ltle h3 h; rw [h2] at this; cases this
theorem lt_mn (k a b : ByteArray) : lt k (mn a b) = (lt k a && lt k b) := by
  unfold mn
  cases h : lt b a with
  | true =>
    rw [if_pos rfl]
    cases h2 : lt k b with
    | false => simp
    | true => have := tr h2 h; rw [this]; rfl
  | false =>
    rw [if_neg (by simp)]
    cases h2 : lt k a with
    | false => rfl
    | true => have := ltle h2 h; rw [this]; rfl
/-- A key lies between the bounds. -/
def inr (l m k : ByteArray) : Bool := !(lt k l) && (decide (m = ⟨#[]⟩) || lt k m)
theorem lt_lim (k e m : ByteArray) : lt k (lim e m) = (lt k e && (decide (m = ⟨#[]⟩) || lt k m)) := by
  unfold lim
  split
  · next h => simp [h]
  · next h => rw [lt_mn]; simp [h]
theorem hit_ct (l m k : ByteArray) (q : Int) (x : T) : hit k q (ct l m x) = (hit k q x && inr l m k) := by
  unfold hit inr
  show (!lt k (mx x.b l) && lt k (lim x.e m) && decide (x.s ≤ q)) = _
  rw [lt_mx, lt_lim]
  cases lt k x.b <;> cases lt k l <;> cases lt k x.e <;> cases decide (x.s ≤ q) <;> cases (decide (m = ⟨#[]⟩) || lt k m) <;> rfl
theorem hit_lf {k : ByteArray} {q : Int} {x : T} (h : hit k q x = true) : lf x = true := by
  unfold hit at h
  rw [Bool.and_eq_true, Bool.and_eq_true, Bool.not_eq_true'] at h
  exact lelt h.1.1 h.1.2
theorem vd_parts {x : T} (h : vd x = true) : 1 ≤ x.b.size ∧ x.b.size ≤ 1024 ∧ x.e.size ≤ 1025 ∧ lt x.b x.e = true ∧ x.s ≤ 72057594037927935 := by
  unfold vd at h
  simp only [Bool.and_eq_true, decide_eq_true_eq] at h
  obtain ⟨⟨⟨⟨h1, h2⟩, h3⟩, h4⟩, h5⟩ := h
  exact ⟨by omega, by omega, by omega, h4, h5⟩
theorem vd_of {x : T} (h1 : 1 ≤ x.b.size) (h2 : x.b.size ≤ 1024) (h3 : x.e.size ≤ 1025) (h4 : lt x.b x.e = true) (h5 : x.s ≤ 72057594037927935) : vd x = true := by
  unfold vd
  simp only [Bool.and_eq_true, decide_eq_true_eq]
  exact ⟨⟨⟨⟨by omega, by omega⟩, by omega⟩, h4⟩, h5⟩
theorem size_pos {a b : ByteArray} (h : lt a b = true) : 1 ≤ b.size := by
  by_cases hb : b.size = 0
  · have : b = ⟨#[]⟩ := by obtain ⟨⟨l⟩⟩ := b; simp [ByteArray.size] at hb; rw [hb]
    rw [this, empty_le] at h; cases h
  · omega
theorem mx_pos {a b : ByteArray} (h : 1 ≤ a.size) : 1 ≤ (mx a b).size := by
  unfold mx
  split
  · next h' => exact size_pos h'
  · exact h
theorem vd_ct {l m : ByteArray} {x : T} (h : vd x = true) (hl : lf (ct l m x) = true) (h1 : l.size ≤ 1024) (h2 : m.size ≤ 1025) : vd (ct l m x) = true := by
  obtain ⟨a1, a2, a3, a4, a5⟩ := vd_parts h
  refine vd_of (mx_pos a1) ?_ ?_ hl a5
  · show (mx x.b l).size ≤ 1024
    unfold mx; split <;> omega
  · show (lim x.e m).size ≤ 1025
    unfold lim mn; split
    · exact a3
    · split <;> omega
theorem fold_cut (l m k : ByteArray) (q : Int) (h1 : l.size ≤ 1024) (h2 : m.size ≤ 1025) : ∀ (xs : List T) (r : Int × Bool), (∀ x ∈ xs, vd x = true) →
    ((ctl l m xs).filter vd).foldl (stp k q) r = if inr l m k = true then xs.foldl (stp k q) r else r
  | [], r, _ => by simp [ctl]
  | x :: xs, r, hv => by
    have hx := hv x (by simp)
    have ih := fun r => fold_cut l m k q h1 h2 xs r (fun y hy => hv y (by simp [hy]))
    have e : (ctl l m (x :: xs)).filter vd = (if lf (ct l m x) = true then [ct l m x] else []) ++ (ctl l m xs).filter vd := by
      unfold ctl
      rw [List.map_cons, List.filter_cons]
      split
      · next h => rw [List.filter_cons, if_pos (vd_ct hx h h1 h2)]; rfl
      · rfl
    rw [e, List.foldl_append, ih]
    have s1 : (if lf (ct l m x) = true then [ct l m x] else []).foldl (stp k q) r = if inr l m k = true then stp k q r x else r := by
      have hh := hit_ct l m k q x
      cases hlf : lf (ct l m x) with
      | false =>
        have : hit k q (ct l m x) = false := by
          cases h : hit k q (ct l m x) with
          | false => rfl
          | true => rw [hit_lf h] at hlf; cases hlf
        rw [if_neg (by simp)]
        show r = _
        cases hi : inr l m k with
        | false => rw [if_neg (by simp)]
        | true =>
          rw [if_pos rfl]
          rw [hi, Bool.and_true, this] at hh
          unfold stp; rw [if_neg (by rw [← hh]; simp)]
      | true =>
        rw [if_pos rfl]
        show stp k q r (ct l m x) = _
        unfold stp
        rw [hh]
        cases hi : inr l m k with
        | false => simp
        | true => simp [ct]
    rw [s1]
    cases inr l m k <;> simp
theorem cov_cut (xs : List T) (l m k : ByteArray) (q : Int) (h1 : l.size ≤ 1024) (h2 : m.size ≤ 1025) : cov (cut xs l m) k q = if inr l m k = true then cov xs k q else (0, false) := by
  unfold cov cvl cut
  exact fold_cut l m k q h1 h2 (xs.filter vd) (0, false) (fun x hx => (List.mem_filter.1 hx).2)
theorem cut_mem {xs : List T} {l m : ByteArray} {c : T} (h : c ∈ cut xs l m) : lt c.b l = false ∧ (m = ⟨#[]⟩ ∨ lt m c.e = false) ∧ (vd c = false → ¬ (c.b.size ≤ 1024 ∧ c.e.size ≤ 1025)) := by
  unfold cut ctl at h
  rw [List.mem_filter, List.mem_map] at h
  obtain ⟨⟨x, hx, rfl⟩, hl⟩ := h
  have hv := (List.mem_filter.1 hx).2
  obtain ⟨a1, a2, a3, a4, a5⟩ := vd_parts hv
  refine ⟨?_, ?_, ?_⟩
  · show lt (mx x.b l) l = false
    unfold mx
    cases h : lt x.b l with
    | true => rw [if_pos rfl]; exact irr l
    | false => rw [if_neg (by simp)]; exact h
  · by_cases hm : m = ⟨#[]⟩
    · exact .inl hm
    · right
      show lt m (lim x.e m) = false
      rw [lt_lim]; simp [hm, irr]
  · rintro hv ⟨h1, h2⟩
    rw [vd_of (mx_pos a1) h1 h2 hl a5] at hv
    cases hv
theorem cut_len (xs : List T) (l m : ByteArray) : (cut xs l m).length ≤ xs.length := Nat.le_trans (ctl_len l m _) (List.length_filter_le _ _)
end Go.Proofs.Ytfmpdalabgfigab.Pc

/- Items: entries with the numbers of their sources, merged, in plain words; rows of items. -/
import Derived.Test.YtgjodfaliajlgaaMl
namespace Go.Proofs.Ytgjodfaliajlgaa.Mi
open Go.ChangeShapes Go.WideShapes Go.ChangeAt Go.RowKit
open Go.Proofs.Ytgjodfaliajlgaa.Gr hiding hid addr_add
open Go.Proofs.Ytgjodfaliajlgaa.Ac
open Go.Proofs.Ytgjodfaliajlgaa.Ik
open Go.Proofs.Ytgjodfaliajlgaa.Ee
open Go.Proofs.Ytgjodfaliajlgaa.Sb
open Go.Proofs.Ytgjodfaliajlgaa.Ew
open Go.Proofs.Ytgjodfaliajlgaa.Sd hiding below_grown
open Go.Proofs.Ytgjodfaliajlgaa.Rsd
open Go.Proofs.Ytgjodfaliajlgaa.Ml
set_option linter.unusedVariables false
set_option linter.unusedSimpArgs false

structure It where
  e : E
  f : Nat
def zi : It := ⟨ze, 0⟩
def lI (p q : It) : Bool := le p.e q.e
theorem lI_tot : Tot lI := fun a b => le_tot a.e b.e
theorem lI_trn : Trn lI := fun a b c h k => le_trn a.e b.e c.e h k
def tag (i : Nat) (xs : List E) : List It := xs.map fun e => ⟨e, i⟩
theorem tag_len (i : Nat) (xs : List E) : (tag i xs).length = xs.length := by simp [tag]
theorem tag_e (i : Nat) (xs : List E) : (tag i xs).map It.e = xs := by
  unfold tag; rw [List.map_map]; exact List.map_id _
def allI (fs : List Lf) : Nat → List It
  | 0 => []
  | i + 1 => mrg lI (allI fs i) (tag i (srtE (fs.getD i zl).xs))
theorem mrg_len {α : Type} (l : α → α → Bool) : ∀ (xs ys : List α), (mrg l xs ys).length = xs.length + ys.length := by
  intro xs
  induction xs with
  | nil => intro ys; rw [mrg_nil]; simp
  | cons x xs ih =>
    intro ys
    induction ys with
    | nil => rw [mrg_right]; simp
    | cons y ys ihy =>
      rw [mrg_cons]
      by_cases hxy : l x y = true
      · rw [if_pos hxy, List.length_cons, ih]; simp; omega
      · rw [if_neg hxy, List.length_cons, ihy]; simp; omega
theorem allI_len (fs : List Lf) : ∀ i, i ≤ fs.length → (allI fs i).length = (all (fs.take i)).length
  | 0, _ => rfl
  | i + 1, h => by
    show (mrg lI (allI fs i) (tag i (srtE (fs.getD i zl).xs))).length = _
    rw [mrg_len, tag_len, srtE_len, allI_len fs i (by omega), tot_snoc (by omega), List.length_append]
/-- Merging keeps what is alike as it stood. -/
theorem mrg_eqf {α : Type} {l : α → α → Bool} (ht : Tot l) (hr : Trn l) {xs ys : List α} (hx : Srt l xs) (hy : Srt l ys) : Srt l (mrg l xs ys) ∧ Eqf l (mrg l xs ys) (xs ++ ys) := by
  refine ⟨mrg_sorted l ht hr xs ys hx hy, by rw [mrg_len, List.length_append], fun q => ?_⟩
  rw [mrg_filter l ht hr q xs ys hx, List.filter_append]
theorem mrg_map {xs ys : List It} : (mrg lI xs ys).map It.e = mrg le (xs.map It.e) (ys.map It.e) := by
  induction xs generalizing ys with
  | nil => rw [mrg_nil]; rfl
  | cons x xs ih =>
    induction ys with
    | nil => rw [mrg_right]; simp [mrg_right]
    | cons y ys ihy =>
      rw [mrg_cons, List.map_cons, List.map_cons, mrg_cons]
      by_cases h : lI x y = true
      · have h' : le x.e y.e = true := h
        rw [if_pos h, if_pos h', List.map_cons, ih, List.map_cons]
      · have h' : ¬ le x.e y.e = true := h
        rw [if_neg h, if_neg h', List.map_cons, ihy, List.map_cons]
theorem allI_e (fs : List Lf) : ∀ i, i ≤ fs.length → (allI fs i).map It.e = srtE (all (fs.take i))
  | 0, _ => rfl
  | i + 1, h => by
    show (mrg lI (allI fs i) (tag i (srtE (fs.getD i zl).xs))).map It.e = _
    rw [mrg_map, tag_e, allI_e fs i (by omega), tot_snoc (by omega)]
    obtain ⟨s1, e1⟩ := srtE_spec (all (fs.take i))
    obtain ⟨s2, e2⟩ := srtE_spec (fs.getD i zl).xs
    obtain ⟨s3, e3⟩ := mrg_eqf le_tot le_trn s1 s2
    exact srtE_is s3 (e3.trans (e1.app e2))
theorem allI_srt (fs : List Lf) : ∀ i, Srt lI (allI fs i)
  | 0 => Srt.nil
  | i + 1 => by
    have h1 := allI_srt fs i
    have h2 : Srt lI (tag i (srtE (fs.getD i zl).xs)) := by
      have := (srtE_spec (fs.getD i zl).xs).1
      unfold tag Srt
      rw [List.pairwise_map]
      exact this
    exact (mrg_eqf lI_tot lI_trn h1 h2).1
theorem mrg_mem' {α : Type} {l : α → α → Bool} {xs ys : List α} {z : α} : z ∈ mrg l xs ys ↔ z ∈ xs ∨ z ∈ ys := mrg_mem l xs ys z
theorem allI_ok {fs : List Lf} (h : ∀ f ∈ fs, ∀ x ∈ f.xs, x.ok) : ∀ i, i ≤ fs.length → ∀ x ∈ allI fs i, x.e.ok
  | 0, _ => fun x hx => (by cases hx)
  | i + 1, hi => fun x hx => by
    rcases mrg_mem'.1 (show x ∈ mrg lI (allI fs i) (tag i (srtE (fs.getD i zl).xs)) from hx) with h1 | h1
    · exact allI_ok h i (by omega) x h1
    · unfold tag at h1
      obtain ⟨e, he, rfl⟩ := List.mem_map.1 h1
      exact srtE_ok (fun y hy => h _ (eL.get_mem (xs := fs) (by omega)) y hy) e he
/-- The one that comes next in a merge. -/
theorem mrg_left {α : Type} (l : α → α → Bool) {x y : α} {xs ys : List α} (h : l x y = true) : mrg l (x :: xs) (y :: ys) = x :: mrg l xs (y :: ys) := by rw [mrg_cons, if_pos h]
theorem mrg_rite {α : Type} (l : α → α → Bool) {x y : α} {xs ys : List α} (h : l x y = false) : mrg l (x :: xs) (y :: ys) = y :: mrg l (x :: xs) ys := by rw [mrg_cons, if_neg (by rw [h]; simp)]
theorem drop_cons {α : Type} {xs : List α} {k : Nat} (z : α) (h : k < xs.length) : xs.drop k = xs.getD k z :: xs.drop (k + 1) := by
  rw [List.drop_eq_getElem_cons h, List.getD_eq_getElem?_getD, List.getElem?_eq_getElem h]; rfl
def eI : El It where
  st := 26
  et := 47
  k := 5
  by_ := 56
  cs := fun x => [.string x.e.k, .int .u64 x.e.s, .int .i64 x.e.c, .string x.e.v, .int .i64 x.f]
  z := zi
  zv := .agg #[.string ⟨#[]⟩, .int .u64 0, .int .i64 0, .string ⟨#[]⟩, .int .i64 0]
  len := fun _ => rfl
  one := by intro x u h; simp at h; rcases h with rfl | rfl | rfl | rfl | rfl <;> rfl
  und := Try.underlying26
  info := by kernel_rfl
  zc := rfl
  pos := by decide
  ok := fun x => x.e.ok
theorem sl_drop {α : Type} (E : El α) {w : World} {b o n c m : Nat} {xs : List α} (h : E.Sl w (some ⟨b, o, none⟩) n c xs) (hm : m ≤ n) : E.Sl w (some ⟨b, o + m * E.k, none⟩) (n - m) (c - m) (xs.drop m) := by
  refine ⟨by rw [List.length_drop]; have := h.n; omega, by have := h.c; omega, fun e => (by cases e), fun x hx => h.ok x (List.mem_of_mem_drop hx), fun b' o' p hp hl => ?_⟩
  injection hp with hp; injection hp with e1 e2 e3; subst e1 e2 e3
  obtain ⟨k1, k2⟩ := h.cells b o none rfl (by omega)
  refine ⟨rfl, fun i hi => ?_⟩
  have := k2 (m + i) (by omega)
  rw [show o + m * E.k + i * E.k = o + (m + i) * E.k by rw [Nat.add_mul]; omega]
  rw [List.getD_eq_getElem?_getD] at this ⊢
  rwa [List.getElem?_drop]
theorem sl_empty {α : Type} (E : El α) {w : World} {a : Option Addr} {c : Nat} (h : a = none → c = 0) : E.Sl w a 0 c [] :=
  ⟨rfl, Nat.zero_le _, fun e => ⟨rfl, h e⟩, fun x hx => (by cases hx), fun b o p hp hl => by omega⟩
theorem it_at {w : World} {b o : Nat} {x : It} (h : eI.At w b o x) : w.cell? ⟨b, o, none⟩ = some (.string x.e.k) ∧ w.cell? ⟨b, o + 1, none⟩ = some (.int .u64 x.e.s) ∧ w.cell? ⟨b, o + 2, none⟩ = some (.int .i64 x.e.c) ∧ w.cell? ⟨b, o + 3, none⟩ = some (.string x.e.v) ∧ w.cell? ⟨b, o + 4, none⟩ = some (.int .i64 x.f) :=
  ⟨h 0 _ rfl, h 1 _ rfl, h 2 _ rfl, h 3 _ rfl, h 4 _ rfl⟩
theorem sl_at {α : Type} {E : El α} {w : World} {a : Option Addr} {n c : Nat} {xs : List α} (h : E.Sl w a n c xs) (i : Nat) (hi : i < n) : ∃ b o, a = some ⟨b, o, none⟩ ∧ E.At w b (o + i * E.k) (xs.getD i E.z) := by
  cases a with
  | none => have := (h.nil rfl).1; omega
  | some ad =>
    obtain ⟨b, o, p⟩ := ad
    obtain ⟨rfl, hc⟩ := h.cells b o p rfl (by omega)
    exact ⟨b, o, rfl, hc i hi⟩
end Go.Proofs.Ytgjodfaliajlgaa.Mi

/- VersionCuts walked. -/
import Derived.Test.YtkpihibeohjfnabOn
import Derived.Test.YtkpihibeohjfnabFq
import Derived.BigQuiet
namespace Go.Proofs.Ytkpihibeohjfnab.Lc
open Go.ChangeShapes Go.WideShapes Go.ChangeAt Go.RowKit
open Go.Proofs.Ytkpihibeohjfnab.Gr
open Go.Proofs.Ytkpihibeohjfnab.Ev
open Go.Proofs.Ytkpihibeohjfnab.Oe
open Go.Proofs.Ytkpihibeohjfnab.Lv
open Go.Proofs.Ytkpihibeohjfnab.Vp
open Go.Proofs.Ytkpihibeohjfnab.Vq
open Go.Proofs.Ytkpihibeohjfnab.Vr
open Go.Proofs.Ytkpihibeohjfnab.Vt
open Go.Proofs.Ytkpihibeohjfnab.Vu
open Go.Proofs.Ytkpihibeohjfnab.Vv
open Go.Proofs.Ytkpihibeohjfnab.Vw
open Go.Proofs.Ytkpihibeohjfnab.Vx
open Go.Proofs.Ytkpihibeohjfnab.On
open Go.Proofs.Ytkpihibeohjfnab.Fq
open Go.Proofs.Ytkpihibeohjfnab.Lx (lt tr asym lelt ltle lele irr)
set_option linter.unusedVariables false
set_option linter.unusedSimpArgs false

/-! ### A range cut in two, in plain words -/
theorem ne_of_lt {a b : ByteArray} (h : lt a b = true) : ¬ b.size = 0 := by
  intro e
  rw [Vv.emp e] at h
  have := Lx.empty_le a
  rw [this] at h
  cases h
theorem ovl_cut {p q k : ByteArray} {f : Fi} (hf : lt f.a f.b = true) (h1 : lt p k = true) (h2 : q.size = 0 ∨ lt k q = true) : ovl p q f = (ovl p k f || ovl k q f) := by
  unfold ovl
  rw [decide_eq_false (ne_of_lt h1), Bool.false_or]
  cases hq : decide (q.size = 0) with
  | true =>
    rw [Bool.true_or, Bool.and_true, Bool.and_true]
    cases hb : lt p f.b with
    | true =>
      rw [Bool.true_and]
      cases ha : lt f.a k with
      | true => rfl
      | false => rw [show lt k f.b = true from lelt ha hf]; rfl
    | false =>
      rw [Bool.false_and, Bool.false_or]
      symm
      exact asym_of hb h1
  | false =>
    have h3 : lt k q = true := h2.resolve_left (of_decide_eq_false hq)
    rw [Bool.false_or]
    cases hb : lt p f.b with
    | true =>
      rw [Bool.true_and, Bool.true_and]
      cases ha : lt f.a k with
      | true => rw [show lt f.a q = true from tr ha h3]; rfl
      | false => rw [show lt k f.b = true from lelt ha hf, Bool.true_and, Bool.false_or]
    | false =>
      rw [Bool.false_and, Bool.false_and, Bool.false_or]
      rw [asym_of hb h1]; rfl
where
  asym_of {p k b : ByteArray} (hb : lt p b = false) (h1 : lt p k = true) : lt k b = false := by
    cases h : lt k b with
    | false => rfl
    | true => have := tr h1 h; rw [hb] at this; cases this
theorem filter_or_len {α : Type} (p q : α → Bool) : ∀ l : List α, (l.filter (fun x => p x || q x)).length ≤ (l.filter p).length + (l.filter q).length
  | [] => by simp
  | x :: r => by
    have := filter_or_len p q r
    simp only [List.filter_cons]
    cases p x <;> cases q x <;> simp <;> omega
theorem filter_le {α : Type} {p q : α → Bool} (h : ∀ x, p x = true → q x = true) : ∀ l : List α, (l.filter p).length ≤ (l.filter q).length
  | [] => by simp
  | x :: r => by
    have := filter_le h r
    simp only [List.filter_cons]
    cases hp : p x with
    | true => rw [h x hp]; simp; exact this
    | false => cases q x <;> simp <;> omega
/-- What the law asks of the three answers. -/
structure Cu (L : List (List Fi)) (lv : Int) (p q k : ByteArray) : Prop where
  any : ∀ f ∈ over L lv p q, f ∈ over L lv p k ∨ f ∈ over L lv k q
  own : ∀ f ∈ over L lv p q, f ∈ over L lv f.a f.b
  x : (over L lv p k).length ≤ (over L lv p q).length
  y : (over L lv k q).length ≤ (over L lv p q).length
  xy : (over L lv p q).length ≤ (over L lv p k).length + (over L lv k q).length
theorem cuts (L : List (List Fi)) (lv : Int) (p q k : ByteArray) (h1 : lt p k = true) (h2 : q.size = 0 ∨ lt k q = true) : Cu L lv p q k := by
  by_cases hc : vld L = true ∧ fr 0 lv ((L.length : Int) - 1) = true
  · have hpq : q.size = 0 ∨ lt p q = true := h2.imp id (fun h => tr h1 h)
    have hl : lv.toNat < L.length := by
      have := hc.2
      unfold fr at this
      simp at this
      omega
    have hok : lvOk lv.toNat (L.getD lv.toNat []) := by
      have h := hc.1
      unfold vld at h
      simp only [Bool.and_eq_true, decide_eq_true_eq] at h
      exact h.2.1 _ hl
    have e1 : over L lv p q = (L.getD lv.toNat []).filter (ovl p q) := by unfold over; rw [if_pos ⟨hc.1, hc.2, hpq⟩]
    have e2 : over L lv p k = (L.getD lv.toNat []).filter (ovl p k) := by unfold over; rw [if_pos ⟨hc.1, hc.2, .inr h1⟩]
    have e3 : over L lv k q = (L.getD lv.toNat []).filter (ovl k q) := by unfold over; rw [if_pos ⟨hc.1, hc.2, h2⟩]
    have hab : ∀ f ∈ L.getD lv.toNat [], lt f.a f.b = true := by
      intro f hf
      obtain ⟨i, hi, rfl⟩ := mem_get hf
      exact at_ab hok hi
    have e4 : (L.getD lv.toNat []).filter (ovl p q) = (L.getD lv.toNat []).filter (fun f => ovl p k f || ovl k q f) := List.filter_congr (fun f hf => ovl_cut (hab f hf) h1 h2)
    refine ⟨fun f hf => ?_, fun f hf => ?_, ?_, ?_, ?_⟩
    · rw [e1, e4, List.mem_filter, Bool.or_eq_true] at hf
      rw [e2, e3, List.mem_filter, List.mem_filter]
      exact hf.2.imp (fun h => ⟨hf.1, h⟩) (fun h => ⟨hf.1, h⟩)
    · rw [e1, List.mem_filter] at hf
      have h := hab f hf.1
      unfold over
      rw [if_pos ⟨hc.1, hc.2, .inr h⟩, List.mem_filter]
      refine ⟨hf.1, ?_⟩
      unfold ovl
      rw [h]; simp
    · rw [e1, e2, e4]
      exact filter_le (fun f h => by rw [h]; rfl) _
    · rw [e1, e3, e4]
      exact filter_le (fun f h => by rw [h]; simp) _
    · rw [e1, e2, e3, e4]
      exact filter_or_len _ _ _
  · have e : ∀ p q, over L lv p q = [] := fun p q => by unfold over; rw [if_neg (fun h => hc ⟨h.1, h.2.1⟩)]
    refine ⟨fun f hf => ?_, fun f hf => ?_, ?_, ?_, ?_⟩
    · rw [e] at hf; simp at hf
    · rw [e] at hf; simp at hf
    · rw [e, e]; exact Nat.le_refl _
    · rw [e, e]; exact Nat.le_refl _
    · rw [e]; exact Nat.zero_le _
theorem over_ok {L : List (List Fi)} {a : Option Addr} {len cap : Nat} {w : World} (H : Lvs w a len cap L) (lv : Int) (p q : ByteArray) : (∀ f ∈ over L lv p q, f.ok) ∧ (over L lv p q).length ≤ wL L := by
  unfold over
  split
  · rename_i h
    have hl : lv.toNat < L.length := by
      have := h.2.1
      unfold fr at this
      simp at this
      omega
    obtain ⟨_, _, _, _, _, _, _, hs, hln⟩ := H.at lv.toNat (by rw [← H.len_eq]; exact hl)
    refine ⟨fun f hf => hs.ok f (List.mem_filter.1 hf).1, ?_⟩
    have h2 := wL_at hl
    have h3 := List.length_filter_le (ovl p q) (L.getD lv.toNat [])
    omega
  · exact ⟨fun f hf => by simp at hf, Nat.zero_le _⟩
end Go.Proofs.Ytkpihibeohjfnab.Lc

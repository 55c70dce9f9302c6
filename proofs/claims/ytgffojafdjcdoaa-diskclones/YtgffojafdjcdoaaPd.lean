/- The document's disk in plain words: files by rising names; how the program's files are seen so. -/
import Derived.Test.YtgffojafdjcdoaaPw
import Derived.Test.YtgffojafdjcdoaaLx
namespace Go.Proofs.Ytgffojafdjcdoaa.Pd
open Go.Sort
open Go.Proofs.Ytgffojafdjcdoaa.Mp
open Go.Proofs.Ytgffojafdjcdoaa.Dk
open Go.Proofs.Ytgffojafdjcdoaa.Df
open Go.Proofs.Ytgffojafdjcdoaa.Dg
open Go.Proofs.Ytgffojafdjcdoaa.Dh
open Go.Proofs.Ytgffojafdjcdoaa.Di
open Go.Proofs.Ytgffojafdjcdoaa.Us
open Go.Proofs.Ytgffojafdjcdoaa.Lt
open Go.Proofs.Ytgffojafdjcdoaa.Ap
open Go.Proofs.Ytgffojafdjcdoaa.Cr
open Go.Proofs.Ytgffojafdjcdoaa.Cs
open Go.Proofs.Ytgffojafdjcdoaa.Pw
open Go.Proofs.Ytgffojafdjcdoaa.Lx (lt)
set_option linter.unusedVariables false
set_option linter.unusedSimpArgs false

/-- A file of the document's disk. -/
structure RF where
  n : ByteArray
  b : ByteArray
  k : Nat
def lkp : List RF → ByteArray → Option RF
  | [], _ => none
  | r :: rs, s => if r.n = s then some r else lkp rs s
def Srt (rs : List RF) : Prop := (rs.map (·.n)).Pairwise fun a b => lt a b = true
def lo (s : ByteArray) (rs : List RF) : List RF := rs.filter fun r => lt r.n s
def hi (s : ByteArray) (rs : List RF) : List RF := rs.filter fun r => lt s r.n
def up (s : ByteArray) (x : RF) (rs : List RF) : List RF := lo s rs ++ x :: hi s rs
def rm (s : ByteArray) (rs : List RF) : List RF := lo s rs ++ hi s rs
theorem look_mem {rs : List RF} {s : ByteArray} {r : RF} (h : lkp rs s = some r) : r ∈ rs ∧ r.n = s := by
  induction rs with
  | nil => cases h
  | cons x xs ih =>
    unfold lkp at h
    split at h
    · cases h; exact ⟨List.mem_cons_self .., by assumption⟩
    · exact ⟨List.mem_cons_of_mem _ (ih h).1, (ih h).2⟩
theorem look_none {rs : List RF} {s : ByteArray} (h : lkp rs s = none) : ∀ r ∈ rs, r.n ≠ s := by
  induction rs with
  | nil => intro r hr; cases hr
  | cons x xs ih =>
    unfold lkp at h
    split at h
    · cases h
    · intro r hr
      rcases List.mem_cons.1 hr with rfl | hr
      · assumption
      · exact ih h r hr
theorem none_of {rs : List RF} {s : ByteArray} (h : ∀ r ∈ rs, r.n ≠ s) : lkp rs s = none := by
  cases hl : lkp rs s with
  | none => rfl
  | some r => exact absurd (look_mem hl).2 (h r (look_mem hl).1)
theorem srt_cons {r : RF} {rs : List RF} : Srt (r :: rs) ↔ (∀ x ∈ rs, lt r.n x.n = true) ∧ Srt rs := by
  unfold Srt
  rw [List.map_cons, List.pairwise_cons]
  constructor
  · rintro ⟨h1, h2⟩; exact ⟨fun x hx => h1 _ (List.mem_map.2 ⟨x, hx, rfl⟩), h2⟩
  · rintro ⟨h1, h2⟩
    refine ⟨fun y hy => ?_, h2⟩
    obtain ⟨x, hx, rfl⟩ := List.mem_map.1 hy
    exact h1 x hx
theorem look_of_mem {rs : List RF} {r : RF} (hs : Srt rs) (h : r ∈ rs) : lkp rs r.n = some r := by
  induction rs with
  | nil => cases h
  | cons x xs ih =>
    obtain ⟨h1, h2⟩ := srt_cons.1 hs
    unfold lkp
    rcases List.mem_cons.1 h with rfl | h'
    · rw [if_pos rfl]
    · have := h1 r h'
      rw [if_neg (fun e => by rw [e, Lx.irr] at this; cases this)]
      exact ih h2 h'
theorem look_app (a b : List RF) (s : ByteArray) : lkp (a ++ b) s = (match lkp a s with | some r => some r | none => lkp b s) := by
  induction a with
  | nil => rfl
  | cons x xs ih =>
    show (if x.n = s then some x else lkp (xs ++ b) s) = (match (if x.n = s then some x else lkp xs s) with | some r => some r | none => lkp b s)
    split
    · rfl
    · exact ih
theorem lo_none (s : ByteArray) (rs : List RF) : lkp (lo s rs) s = none := none_of fun r hr => by
  have := (List.mem_filter.1 hr).2
  intro e; rw [e, Lx.irr] at this; cases this
theorem hi_none (s : ByteArray) (rs : List RF) : lkp (hi s rs) s = none := none_of fun r hr => by
  have := (List.mem_filter.1 hr).2
  intro e; rw [e, Lx.irr] at this; cases this
theorem parts {rs : List RF} (hs : Srt rs) (s : ByteArray) : rs = lo s rs ++ ((lkp rs s).toList ++ hi s rs) := by
  induction rs with
  | nil => rfl
  | cons r rs ih =>
    obtain ⟨h1, h2⟩ := srt_cons.1 hs
    have ih' := ih h2
    rcases Lx.tot r.n s with h | h | h
    · have e1 : lo s (r :: rs) = r :: lo s rs := by unfold lo; rw [List.filter_cons_of_pos (by simpa using h)]
      have e2 : hi s (r :: rs) = hi s rs := by unfold hi; rw [List.filter_cons_of_neg (by simp [Lx.asym h])]
      have e3 : lkp (r :: rs) s = lkp rs s := by
        show (if r.n = s then _ else _) = _
        rw [if_neg (fun e => by rw [e, Lx.irr] at h; cases h)]
      rw [e1, e2, e3, List.cons_append, ← ih']
    · have e1 : lo s (r :: rs) = [] := by
        unfold lo
        rw [List.filter_eq_nil_iff]
        intro x hx
        rcases List.mem_cons.1 hx with rfl | hx
        · rw [h, Lx.irr]; simp
        · have := h1 x hx; rw [h] at this; simp [Lx.asym this]
      have e2 : hi s (r :: rs) = rs := by
        unfold hi
        rw [List.filter_cons_of_neg (by rw [h, Lx.irr]; simp)]
        rw [List.filter_eq_self]
        intro x hx
        have := h1 x hx; rw [h] at this; simpa using this
      have e3 : lkp (r :: rs) s = some r := by
        show (if r.n = s then _ else _) = _
        rw [if_pos h]
      rw [e1, e2, e3]; rfl
    · have e1 : lo s (r :: rs) = [] := by
        unfold lo
        rw [List.filter_eq_nil_iff]
        intro x hx
        rcases List.mem_cons.1 hx with rfl | hx
        · simp [Lx.asym h]
        · have := h1 x hx; simp [Lx.asym (Lx.tr h this)]
      have e2 : hi s (r :: rs) = r :: rs := by
        unfold hi
        rw [List.filter_eq_self]
        intro x hx
        rcases List.mem_cons.1 hx with rfl | hx
        · simpa using h
        · have := h1 x hx; simpa using Lx.tr h this
      have e3 : lkp (r :: rs) s = none := none_of fun x hx e => by
        rcases List.mem_cons.1 hx with rfl | hx
        · rw [e, Lx.irr] at h; cases h
        · have := Lx.tr h (h1 x hx)
          rw [e, Lx.irr] at this; cases this
      rw [e1, e2, e3]; rfl
theorem look_up {rs : List RF} (hs : Srt rs) {s : ByteArray} {x : RF} (hx : x.n = s) (t : ByteArray) : lkp (up s x rs) t = if t = s then some x else lkp rs t := by
  unfold up
  rw [look_app]
  by_cases h : t = s
  · subst h
    rw [if_pos rfl, lo_none]
    show (if x.n = t then some x else _) = _
    rw [if_pos hx]
  · rw [if_neg h]
    conv => rhs; rw [parts hs s]
    rw [look_app, look_app]
    have : lkp (x :: hi s rs) t = lkp (hi s rs) t := by
      show (if x.n = t then _ else _) = _
      rw [if_neg (fun e => h (e.symm.trans hx))]
    rw [this]
    have h2 : lkp (lkp rs s).toList t = none := none_of fun r hr => by
      cases hl : lkp rs s with
      | none => rw [hl] at hr; cases hr
      | some y =>
        rw [hl] at hr
        have : r = y := by simpa using hr
        subst this
        rw [(look_mem hl).2]; exact fun e => h e.symm
    rw [h2]
theorem look_rm {rs : List RF} (hs : Srt rs) (s t : ByteArray) : lkp (rm s rs) t = if t = s then none else lkp rs t := by
  unfold rm
  rw [look_app]
  by_cases h : t = s
  · subst h
    rw [if_pos rfl, lo_none, hi_none]
  · rw [if_neg h]
    conv => rhs; rw [parts hs s]
    rw [look_app, look_app]
    have h2 : lkp (lkp rs s).toList t = none := none_of fun r hr => by
      cases hl : lkp rs s with
      | none => rw [hl] at hr; cases hr
      | some y =>
        rw [hl] at hr
        have : r = y := by simpa using hr
        subst this
        rw [(look_mem hl).2]; exact fun e => h e.symm
    rw [h2]
theorem srt_sub {rs ys : List RF} (hs : Srt rs) (h : ys.Sublist rs) : Srt ys := List.Pairwise.sublist (h.map _) hs
theorem srt_app {a b : List RF} (ha : Srt a) (hb : Srt b) (h : ∀ x ∈ a, ∀ y ∈ b, lt x.n y.n = true) : Srt (a ++ b) := by
  unfold Srt
  rw [List.map_append, List.pairwise_append]
  refine ⟨ha, hb, ?_⟩
  intro x hx y hy
  obtain ⟨x', hx', rfl⟩ := List.mem_map.1 hx
  obtain ⟨y', hy', rfl⟩ := List.mem_map.1 hy
  exact h x' hx' y' hy'
theorem srt_up {rs : List RF} (hs : Srt rs) {s : ByteArray} {x : RF} (hx : x.n = s) : Srt (up s x rs) := by
  unfold up
  refine srt_app (srt_sub hs List.filter_sublist) (srt_cons.2 ⟨fun y hy => ?_, srt_sub hs List.filter_sublist⟩) ?_
  · rw [hx]; exact (List.mem_filter.1 hy).2
  · intro a ha y hy
    have h1 : lt a.n s = true := (List.mem_filter.1 ha).2
    rcases List.mem_cons.1 hy with rfl | hy
    · rw [hx]; exact h1
    · exact Lx.tr h1 (List.mem_filter.1 hy).2
theorem srt_rm {rs : List RF} (hs : Srt rs) (s : ByteArray) : Srt (rm s rs) := by
  unfold rm
  refine srt_app (srt_sub hs List.filter_sublist) (srt_sub hs List.filter_sublist) ?_
  intro a ha y hy
  exact Lx.tr (List.mem_filter.1 ha).2 (List.mem_filter.1 hy).2

/-- A text's bytes as numbers. -/
def bs (b : ByteArray) : List Int := b.data.toList.map fun x => ((x.toNat : Nat) : Int)
theorem bs_len (b : ByteArray) : (bs b).length = b.size := by
  unfold bs; rw [List.length_map, Array.length_toList]; rfl
theorem map_inj : ∀ l m : List UInt8, l.map (fun x => ((x.toNat : Nat) : Int)) = m.map (fun x => ((x.toNat : Nat) : Int)) → l = m
  | [], [], _ => rfl
  | [], _ :: _, h => by cases h
  | _ :: _, [], h => by cases h
  | x :: l, y :: m, h => by
    simp only [List.map_cons, List.cons.injEq] at h
    rw [map_inj l m h.2, UInt8.toNat_inj.1 (Int.ofNat.inj h.1)]
theorem bs_inj {a b : ByteArray} (h : bs a = bs b) : a = b := by
  unfold bs at h
  have h2 : a.data.toList = b.data.toList := map_inj _ _ h
  cases a; cases b
  congr 1
  exact Array.toList_inj.1 h2
theorem dl_inj {a b : ByteArray} (h : a.data.toList = b.data.toList) : a = b := by
  cases a; cases b; congr 1; exact Array.toList_inj.1 h
def cf (f : Fl) : List Int × Nat := (f.zs, f.k)
def cr (r : RF) : List Int × Nat := (bs r.b, r.k)
/-- The program's files and the document's are the same. -/
structure Cor (fs : Fs) (rs : List RF) : Prop where
  srt : Srt rs
  same : ∀ s : ByteArray, (seek fs s.data.toList).map cf = (lkp rs s).map cr
theorem cor_nil : Cor [] [] := ⟨List.Pairwise.nil, fun _ => rfl⟩
theorem Cor.put {fs : Fs} {rs : List RF} (h : Cor fs rs) {s : ByteArray} {x : RF} {f : Fl} (hx : x.n = s) (e : cf f = cr x) : Cor (put fs s.data.toList f) (up s x rs) := by
  refine ⟨srt_up h.srt hx, fun t => ?_⟩
  rw [look_up h.srt hx]
  by_cases ht : t = s
  · subst ht
    rw [if_pos rfl, seek_put_same]
    show some (cf f) = some (cr x); rw [e]
  · rw [if_neg ht, seek_put_other f (fun e => ht (dl_inj e))]
    exact h.same t
theorem Cor.del {fs : Fs} {rs : List RF} (h : Cor fs rs) (s : ByteArray) : Cor (del fs s.data.toList) (rm s rs) := by
  refine ⟨srt_rm h.srt s, fun t => ?_⟩
  rw [look_rm h.srt]
  by_cases ht : t = s
  · subst ht
    rw [if_pos rfl, seek_del_same]; rfl
  · rw [if_neg ht, seek_del_other (fun e => ht (dl_inj e))]
    exact h.same t
theorem Cor.some {fs : Fs} {rs : List RF} (h : Cor fs rs) {s : ByteArray} {r : RF} (hl : lkp rs s = some r) : ∃ f, seek fs s.data.toList = some f ∧ cf f = cr r := by
  have := h.same s
  rw [hl] at this
  cases hf : seek fs s.data.toList with
  | none => rw [hf] at this; cases this
  | some f => rw [hf] at this; exact ⟨f, rfl, Option.some.inj this⟩
theorem Cor.none {fs : Fs} {rs : List RF} (h : Cor fs rs) {s : ByteArray} (hl : lkp rs s = none) : seek fs s.data.toList = none := by
  have := h.same s
  rw [hl] at this
  cases hf : seek fs s.data.toList with
  | none => rfl
  | some f => rw [hf] at this; cases this
theorem Cor.mem {fs : Fs} {rs : List RF} (h : Cor fs rs) (s : K) : s ∈ names fs ↔ s ∈ rs.map (·.n.data.toList) := by
  have e : s = (⟨s.toArray⟩ : ByteArray).data.toList := by simp
  rw [mem_names]
  constructor
  · intro hs
    rw [e] at hs
    cases hl : lkp rs ⟨s.toArray⟩ with
    | none => rw [h.none hl] at hs; cases hs
    | some r => exact List.mem_map.2 ⟨r, (look_mem hl).1, by rw [(look_mem hl).2]⟩
  · intro hs
    obtain ⟨r, hr, rfl⟩ := List.mem_map.1 hs
    obtain ⟨f, hf, _⟩ := h.some (look_of_mem h.srt hr)
    rw [hf]; rfl
end Go.Proofs.Ytgffojafdjcdoaa.Pd

/- A map of files as a list of its entries. -/
import Derived.Test.YtgffojafdjcdoaaLn
import Derived.Maps.RangeWalk
import Derived.Maps.OwnSet
import Derived.Maps.Ext
import Derived.Sort.KeysCollected
namespace Go.Proofs.Ytgffojafdjcdoaa.Mp
open Go.ChangeShapes Go.WideShapes Go.ChangeAt Go.RowKit Go.Maps
open Go.Proofs.Ytgffojafdjcdoaa.By
open Go.Proofs.Ytgffojafdjcdoaa.Ln
set_option linter.unusedVariables false

abbrev K := List UInt8
/-- A file: its slice, its bytes, how many last. -/
structure Fl where
  sl : Value
  zs : List Int
  k : Nat
def Fl.val (f : Fl) : Value := .agg #[f.sl, .int .i64 f.k]
abbrev Fs := List (K × Fl)
def seek : Fs → K → Option Fl
  | [], _ => none
  | p :: r, s => if p.1 = s then some p.2 else seek r s
def del (fs : Fs) (s : K) : Fs := fs.filter fun p => !(p.1 == s)
def put (fs : Fs) (s : K) (f : Fl) : Fs := (s, f) :: del fs s
def used (fs : Fs) : Nat := (fs.map fun p => p.2.zs.length).sum
def heldR (v : Value) : Option (DataW Value × List MemPlace) := some (.held v, [])
def ent (p : K × Fl) : Lit × DataW Value := (.string p.1, .held p.2.val)
def names (fs : Fs) : List K := fs.map (·.1)
/-- The datum of a map is that of these entries. -/
def Rep (D : DataW Value) (fs : Fs) : Prop := ∃ es, D = .map es ∧ es.Perm (fs.map ent) ∧ (names fs).Nodup
theorem rep_nil : Rep (.map []) [] := ⟨[], rfl, List.Perm.refl _, List.nodup_nil⟩

theorem same_str (a b : K) : (Lit.string a).sameKey (.string b) = (a == b) := by
  simp [Lit.sameKey]
theorem seek_mem {fs : Fs} {s : K} {f : Fl} (h : seek fs s = some f) : (s, f) ∈ fs := by
  induction fs with
  | nil => simp [seek] at h
  | cons p r ih =>
    unfold seek at h
    by_cases e : p.1 = s
    · rw [if_pos e] at h
      injection h with h
      rw [← e, ← h]
      exact List.mem_cons_self ..
    · rw [if_neg e] at h
      exact List.mem_cons_of_mem _ (ih h)
theorem seek_none {fs : Fs} {s : K} (h : seek fs s = none) : ∀ p ∈ fs, p.1 ≠ s := by
  induction fs with
  | nil => intro p hp; simp at hp
  | cons q r ih =>
    unfold seek at h
    by_cases e : q.1 = s
    · rw [if_pos e] at h; cases h
    · rw [if_neg e] at h
      intro p hp
      rcases List.mem_cons.1 hp with rfl | hp
      · exact e
      · exact ih h p hp
theorem seek_of_mem {fs : Fs} {s : K} {f : Fl} (hn : (names fs).Nodup) (h : (s, f) ∈ fs) : seek fs s = some f := by
  induction fs with
  | nil => simp at h
  | cons p r ih =>
    unfold names at hn ih
    rw [List.map_cons, List.nodup_cons] at hn
    unfold seek
    rcases List.mem_cons.1 h with rfl | h'
    · simp
    · have : p.1 ≠ s := fun e => hn.1 (by rw [e]; exact List.mem_map.2 ⟨(s, f), h', rfl⟩)
      rw [if_neg this]
      exact ih hn.2 h'
theorem mem_del {fs : Fs} {s : K} {p : K × Fl} : p ∈ del fs s ↔ p ∈ fs ∧ p.1 ≠ s := by
  unfold del
  rw [List.mem_filter]
  simp
theorem nodup_del {fs : Fs} (s : K) (h : (names fs).Nodup) : (names (del fs s)).Nodup := by
  unfold names del
  exact (List.Sublist.map _ List.filter_sublist).nodup h
theorem nodup_put {fs : Fs} (s : K) (f : Fl) (h : (names fs).Nodup) : (names (put fs s f)).Nodup := by
  show ((s : K) :: names (del fs s)).Nodup
  rw [List.nodup_cons]
  refine ⟨fun hm => ?_, nodup_del s h⟩
  obtain ⟨p, hp, e⟩ := List.mem_map.1 hm
  exact (mem_del.1 hp).2 e
theorem Rep.has {D : DataW Value} {fs : Fs} (h : Rep D fs) (s : K) : Maps.has D (.string s) = (seek fs s).isSome := by
  obtain ⟨es, rfl, hp, hn⟩ := h
  rw [has_eq]
  have : es.any (fun p => p.1.sameKey (.string s)) = (fs.map ent).any (fun p => p.1.sameKey (.string s)) := by
    rw [Bool.eq_iff_iff, List.any_eq_true, List.any_eq_true]
    constructor
    · rintro ⟨x, hx, h⟩; exact ⟨x, hp.mem_iff.1 hx, h⟩
    · rintro ⟨x, hx, h⟩; exact ⟨x, hp.mem_iff.2 hx, h⟩
  rw [this, List.any_map]
  cases hl : seek fs s with
  | none =>
    simp only [Option.isSome_none]
    rw [List.any_eq_false]
    intro p hp'
    have := seek_none hl p hp'
    simp [ent, same_str, this]
  | some f =>
    simp only [Option.isSome_some]
    rw [List.any_eq_true]
    exact ⟨_, seek_mem hl, by simp [ent, same_str]⟩
theorem atKey_mem {es : List (Lit × DataW Value)} (hn : (es.map (·.1)).Nodup) {s : K} {d : DataW Value} (h : (Lit.string s, d) ∈ es) (hs : ∀ p ∈ es, ∃ x, p.1 = Lit.string x) (zd : DataW Value) : (DataW.map es).atKey (.string s) zd = d := by
  simp only [DataW.atKey]
  induction es with
  | nil => simp at h
  | cons p r ih =>
    rw [List.map_cons, List.nodup_cons] at hn
    rw [List.find?_cons]
    obtain ⟨x, hx⟩ := hs p (by simp)
    rcases List.mem_cons.1 h with e | h'
    · rw [← e]; simp [same_str]
    · have : x ≠ s := fun e => hn.1 (by rw [hx, e]; exact List.mem_map.2 ⟨_, h', rfl⟩)
      rw [hx, same_str, show (x == s) = false from by simpa using this]
      exact ih hn.2 h' (fun p hp => hs p (by simp [hp]))
theorem Rep.keysnd {D : DataW Value} {fs : Fs} {es : List (Lit × DataW Value)} (hp : es.Perm (fs.map ent)) (hn : (names fs).Nodup) : (es.map (·.1)).Nodup ∧ ∀ p ∈ es, ∃ x, p.1 = Lit.string x := by
  constructor
  · have h1 : (es.map (·.1)).Perm ((fs.map ent).map (·.1)) := hp.map _
    refine h1.nodup_iff.2 ?_
    rw [List.map_map]
    have : (fs.map ((fun x => x.1) ∘ ent)) = (names fs).map Lit.string := by unfold names; rw [List.map_map]; rfl
    rw [this]
    unfold List.Nodup at hn ⊢
    rw [List.pairwise_map]
    exact hn.imp (fun h e => h (by simpa using e))
  · intro p h
    obtain ⟨q, _, rfl⟩ := List.mem_map.1 (hp.mem_iff.1 h)
    exact ⟨q.1, rfl⟩
theorem Rep.at {D : DataW Value} {fs : Fs} (h : Rep D fs) {s : K} {f : Fl} (hl : seek fs s = some f) (zd : DataW Value) : D.atKey (.string s) zd = .held f.val := by
  obtain ⟨es, rfl, hp, hn⟩ := h
  obtain ⟨h1, h2⟩ := Rep.keysnd (D := .map es) hp hn
  exact atKey_mem h1 (hp.mem_iff.2 (List.mem_map.2 ⟨_, seek_mem hl, rfl⟩)) h2 zd
theorem Rep.at_none {D : DataW Value} {fs : Fs} (h : Rep D fs) {s : K} (hl : seek fs s = none) (zd : DataW Value) : D.atKey (.string s) zd = zd := by
  have hh := h.has s
  rw [hl] at hh
  obtain ⟨es, rfl, hp, hn⟩ := h
  rw [has_eq] at hh
  simp only [Option.isSome_none] at hh
  rw [List.any_eq_false] at hh
  simp only [DataW.atKey]
  rw [List.find?_eq_none.2 (fun p hp => by simpa using hh p hp)]
theorem filter_map_ent (fs : Fs) (s : K) : (fs.map ent).filter (ChangeMaps.notKey (.string s)) = (del fs s).map ent := by
  unfold del
  rw [List.filter_map]
  congr 1
theorem Rep.del {D : DataW Value} {fs : Fs} (h : Rep D fs) (s : K) : Rep (D.del (.string s)) (del fs s) := by
  obtain ⟨es, rfl, hp, hn⟩ := h
  refine ⟨_, DataW.del_eq es _, ?_, nodup_del s hn⟩
  unfold ChangeMaps.delKey
  rw [← filter_map_ent]
  exact hp.filter _
theorem insert_perm (x : Lit × DataW Value) : ∀ l : List (Lit × DataW Value), (DataW.insert x l).Perm (x :: l)
  | [] => List.Perm.refl _
  | y :: r => by
    unfold DataW.insert
    split
    · exact List.Perm.refl _
    · exact ((insert_perm x r).cons y).trans (List.Perm.swap x y r)
theorem Rep.put {D : DataW Value} {fs : Fs} (h : Rep D fs) (s : K) (f : Fl) : Rep (D.put (.string s) (.held f.val)) (put fs s f) := by
  obtain ⟨es, rfl, hp, hn⟩ := h
  refine ⟨_, DataW.put_eq es _ _, ?_, nodup_put s f hn⟩
  unfold ChangeMaps.putKey
  refine (insert_perm _ _).trans ?_
  unfold Mp.put
  rw [List.map_cons, ← filter_map_ent]
  exact (hp.filter _).cons _
theorem Rep.size {D : DataW Value} {fs : Fs} (h : Rep D fs) : Maps.size D = fs.length := by
  obtain ⟨es, rfl, hp, hn⟩ := h
  rw [size_eq, hp.length_eq, List.length_map]
theorem Rep.keys {D : DataW Value} {fs : Fs} (h : Rep D fs) : (strKeys D).Perm (names fs) := by
  obtain ⟨es, rfl, hp, hn⟩ := h
  have h1 := hp.map (fun p : Lit × DataW Value => strOf p.1)
  rw [List.map_map] at h1
  exact h1
theorem Rep.nodup {D : DataW Value} {fs : Fs} (h : Rep D fs) : (names fs).Nodup := by obtain ⟨_, _, _, hn⟩ := h; exact hn
/-- An entry that a range has met. -/
theorem Rep.met {D : DataW Value} {fs : Fs} (h : Rep D fs) {s : K} {y : DataW Value} (hat : ∀ zd, D.atKey (.string s) zd = y) : ∃ f, seek fs s = some f ∧ y = .held f.val := by
  cases hl : seek fs s with
  | none =>
    have h1 := h.at_none hl .nil
    have h2 := h.at_none hl (.held (.bool true))
    rw [hat] at h1 h2
    rw [h1] at h2
    simp at h2
  | some f => exact ⟨f, rfl, by rw [← hat .nil]; exact h.at hl _⟩
theorem used_cons (p : K × Fl) (fs : Fs) : used (p :: fs) = p.2.zs.length + used fs := by simp [used]
theorem used_del {fs : Fs} {s : K} {f : Fl} (hn : (names fs).Nodup) (h : seek fs s = some f) : used (del fs s) + f.zs.length = used fs := by
  induction fs with
  | nil => simp [seek] at h
  | cons p r ih =>
    unfold names at hn ih
    rw [List.map_cons, List.nodup_cons] at hn
    unfold seek at h
    by_cases e : p.1 = s
    · rw [if_pos e] at h
      injection h with h
      have hd : del (p :: r) s = r := by
        unfold del
        rw [List.filter_cons_of_neg (by simp [e]), List.filter_eq_self]
        intro q hq
        have : q.1 ≠ s := fun e2 => hn.1 (by rw [e, ← e2]; exact List.mem_map.2 ⟨q, hq, rfl⟩)
        simp [this]
      rw [hd, used_cons, h]; omega
    · rw [if_neg e] at h
      have hd : del (p :: r) s = p :: del r s := by
        unfold del
        rw [List.filter_cons_of_pos (by simp [e])]
      rw [hd, used_cons, used_cons]
      have := ih hn.2 h
      omega
theorem del_none {fs : Fs} {s : K} (h : seek fs s = none) : del fs s = fs := by
  unfold del
  rw [List.filter_eq_self]
  intro q hq
  simp [seek_none h q hq]
theorem used_put {fs : Fs} {s : K} {f f0 : Fl} (hn : (names fs).Nodup) (h : seek fs s = some f0) : used (put fs s f) + f0.zs.length = used fs + f.zs.length := by
  unfold put
  rw [used_cons]
  have := used_del hn h
  simp only
  omega
theorem used_perm {fs gs : Fs} (h : fs.Perm gs) : used fs = used gs := (h.map _).sum_nat
theorem len_del {fs : Fs} {s : K} {f : Fl} (hn : (names fs).Nodup) (h : seek fs s = some f) : (del fs s).length + 1 = fs.length := by
  induction fs with
  | nil => simp [seek] at h
  | cons p r ih =>
    unfold names at hn ih
    rw [List.map_cons, List.nodup_cons] at hn
    unfold seek at h
    by_cases e : p.1 = s
    · have hd : del (p :: r) s = r := by
        unfold del
        rw [List.filter_cons_of_neg (by simp [e]), List.filter_eq_self]
        intro q hq
        have : q.1 ≠ s := fun e2 => hn.1 (by rw [e, ← e2]; exact List.mem_map.2 ⟨q, hq, rfl⟩)
        simp [this]
      rw [hd]; rfl
    · rw [if_neg e] at h
      have hd : del (p :: r) s = p :: del r s := by
        unfold del
        rw [List.filter_cons_of_pos (by simp [e])]
      rw [hd, List.length_cons, List.length_cons, ih hn.2 h]
theorem seek_put_same (fs : Fs) (s : K) (f : Fl) : seek (put fs s f) s = some f := by simp [seek, put]
theorem seek_del_other {fs : Fs} {s t : K} (h : t ≠ s) : seek (del fs s) t = seek fs t := by
  induction fs with
  | nil => rfl
  | cons p r ih =>
    unfold del at ih ⊢
    by_cases e : p.1 = s
    · rw [List.filter_cons_of_neg (by simp [e]), ih]
      conv => rhs; unfold seek
      rw [if_neg (by rw [e]; exact h.symm)]
    · rw [List.filter_cons_of_pos (by simp [e])]
      unfold seek
      rw [ih]
theorem seek_del_same (fs : Fs) (s : K) : seek (del fs s) s = none := by
  cases h : seek (del fs s) s with
  | none => rfl
  | some f => exact absurd rfl (mem_del.1 (seek_mem h)).2
theorem seek_put_other {fs : Fs} {s t : K} (f : Fl) (h : t ≠ s) : seek (put fs s f) t = seek fs t := by
  unfold put
  conv => lhs; unfold seek
  rw [if_neg (Ne.symm h), seek_del_other h]
/-- The tightest bound. -/
theorem tight {w : World} {P : Program} {k : TypeId} {b n : Nat} {D : DataW Value} (h : w.ownsMap P k heldR b n D) : w.ownsMap P k heldR b (Maps.size D) D := by
  obtain ⟨es, clock, hb, F, hs, rfl⟩ := h
  refine ⟨es, clock, hb, F, ?_, rfl⟩
  rw [size_eq, length_sorted]
  simp
end Go.Proofs.Ytgffojafdjcdoaa.Mp

/- Maps keyed by ints, whatever their values. -/
import Derived.Test.YtcpnmpepcpcahaaGreatDoorGr
import Derived.Maps.Own
namespace Go.Proofs.YtcpnmpepcpcahaaGreatDoor.Mv
open Go.ChangeShapes Go.WideShapes Go.ChangeAt Go.RowKit
open Go.Proofs.YtcpnmpepcpcahaaGreatDoor.Gr
set_option linter.unusedVariables false
set_option linter.unusedSimpArgs false

/-- Where a key stands, and its value. -/
def fnd : List (Int × Value) → Int → Nat → Option (Nat × Value)
  | [], _, _ => none
  | p :: r, k, i => if p.1 = k then some (i, p.2) else fnd r k (i + 1)
/-- The map holds just these, in this order. -/
def Mp (w : World) (b : Nat) (l : List (Int × Value)) : Prop := ∃ es clock, w.heap[b]? = some (.map es clock) ∧ es.toList.map (fun e => (e.key, e.val)) = l.map (fun p => (Value.int .i64 p.1, p.2))
theorem Mp.lt {w : World} {b : Nat} {l : List (Int × Value)} (h : Mp w b l) : b < w.heap.size := by
  obtain ⟨_, _, h, _⟩ := h; exact (Array.getElem?_eq_some_iff.1 h).1
theorem Mp.blk {w w' : World} {b : Nat} {l : List (Int × Value)} (h : Mp w b l) (hb : w'.heap[b]? = w.heap[b]?) : Mp w' b l := by
  obtain ⟨es, c, h1, h2⟩ := h; exact ⟨es, c, hb.trans h1, h2⟩
theorem Mp.later {w w' : World} {b : Nat} {l : List (Int × Value)} (h : Mp w b l) (hb : Below w.heap.size w w') : Mp w' b l := h.blk (hb.block b h.lt)
theorem Mp.made (w : World) : Mp (w.alloc (.map #[] 0)) w.heap.size [] := ⟨#[], 0, new_at _ _, rfl⟩
theorem Mp.nocell {w : World} {b g : Nat} {l : List (Int × Value)} {c : Array Value} {t : TypeId} (h : Mp w b l) (hg : w.heap[g]? = some (.cells c t)) : b ≠ g := by
  obtain ⟨es, k, h1, _⟩ := h
  intro e
  subst e
  rw [h1] at hg
  cases hg
theorem now_eq (k : Int) : ∀ (l : List MapEntry) (ps : List (Int × Value)) (i : Nat), l.map (fun e => (e.key, e.val)) = ps.map (fun p => (Value.int .i64 p.1, p.2)) → Instr.findNow (.int .i64) (.int .i64 k) l i = some (fnd ps k i)
  | [], [], i, _ => rfl
  | [], _ :: _, i, h => by simp at h
  | _ :: _, [], i, h => by simp at h
  | e :: l, p :: ps, i, h => by
    simp only [List.map_cons, List.cons.injEq, Prod.mk.injEq] at h
    have ih := now_eq k l ps (i + 1) h.2
    unfold Instr.findNow fnd
    rw [h.1.1, h.1.2]
    by_cases hk : p.1 = k
    · subst hk
      simp [Instr.sameNow]
    · have hB : (k == p.1) = false := by simpa using fun e => hk e.symm
      rw [if_neg hk]
      simp [Instr.sameNow, hB, ih]
theorem find_run (k : Int) (l : List MapEntry) (ps : List (Int × Value)) (h : l.map (fun e => (e.key, e.val)) = ps.map (fun p => (Value.int .i64 p.1, p.2))) (w : World) : (Instr.findKey 3 (.int .i64 k) l).run Tryz.prog w = .ok (fnd ps k 0) w := by
  unfold Instr.findKey
  rw [Sem.run_bind, run_underlying Tryz.underlying3, Result.andThen_ok, now_eq k l ps 0 h]
  rfl
theorem fnd_mem : ∀ (l : List (Int × Value)) (k : Int) (i j : Nat) (v : Value), fnd l k i = some (j, v) → i ≤ j ∧ l[j - i]? = some (k, v)
  | [], _, _, _, _, h => by cases h
  | p :: r, k, i, j, v, h => by
    unfold fnd at h
    by_cases hk : p.1 = k
    · rw [if_pos hk] at h
      cases h
      refine ⟨Nat.le_refl _, ?_⟩
      rw [Nat.sub_self, List.getElem?_cons_zero, ← hk]
    · rw [if_neg hk] at h
      obtain ⟨h1, h2⟩ := fnd_mem r k (i + 1) j v h
      refine ⟨by omega, ?_⟩
      rw [show j - i = (j - (i + 1)) + 1 by omega, List.getElem?_cons_succ]
      exact h2
theorem fnd_none : ∀ (l : List (Int × Value)) (k : Int) (i : Nat), fnd l k i = none ↔ ∀ p ∈ l, p.1 ≠ k
  | [], _, _ => by simp [fnd]
  | p :: r, k, i => by
    unfold fnd
    by_cases hk : p.1 = k
    · simp [hk]
    · simp [hk, fnd_none r k (i + 1)]
theorem check_key (w : World) (e : Bool) (k : Int) : (Instr.checkKey e 10000 3 (.int .i64 k)).run Tryz.prog w = .ok () w := by kernel_rfl
theorem key_stays (w : World) (k : Int) : (Instr.keyThatStays (.int .i64 k) (.int .i64 k)).run Tryz.prog w = .ok (.int .i64 k) w := by simp [Instr.keyThatStays, Instr.sameBits]
theorem er_map {α β : Type} (f : α → β) : ∀ (l : List α) (i : Nat), (l.map f).eraseIdx i = (l.eraseIdx i).map f
  | [], _ => rfl
  | x :: r, 0 => rfl
  | x :: r, i + 1 => by simp [er_map f r i]
/-- With a value put. -/
def put (l : List (Int × Value)) (k : Int) (v : Value) : List (Int × Value) := match fnd l k 0 with
  | some (i, _) => l.set i (k, v)
  | none => l ++ [(k, v)]
/-- Without a key. -/
def del (l : List (Int × Value)) (k : Int) : List (Int × Value) := match fnd l k 0 with
  | some (i, _) => l.eraseIdx i
  | none => l
section
variable {mt et : TypeId} (hu : Tryz.prog.underlying mt = some (.map 3 et))
include hu
theorem Mp.look {z : Value} (hz : ∀ w, (zeroValue et).run Tryz.prog w = .ok z w) {w : World} {b : Nat} {l : List (Int × Value)} (h : Mp w b l) (k : Int) :
    (Instr.lookup mt (.map (some b)) (.int .i64 k) true).run Tryz.prog w = .ok (match fnd l k 0 with | some (_, v) => .tuple #[v, .bool true] | none => .tuple #[z, .bool false]) w := by
  obtain ⟨es, clock, h1, h2⟩ := h
  have r1 := find_run k es.toList l h2 w
  cases hf : fnd l k 0 with
  | none =>
    rw [hf] at r1
    simp [Instr.lookup, run_underlying hu, MapKept.run_getObj_map h1, check_key, r1, hz, Result.andThen]
  | some p =>
    rw [hf] at r1
    simp [Instr.lookup, run_underlying hu, MapKept.run_getObj_map h1, check_key, r1, Result.andThen]
theorem Mp.get {w : World} {b : Nat} {l : List (Int × Value)} (h : Mp w b l) (k : Int) {i : Nat} {v : Value} (hf : fnd l k 0 = some (i, v)) :
    (Instr.lookup mt (.map (some b)) (.int .i64 k) false).run Tryz.prog w = .ok v w := by
  obtain ⟨es, clock, h1, h2⟩ := h
  have r1 := find_run k es.toList l h2 w
  rw [hf] at r1
  simp [Instr.lookup, run_underlying hu, MapKept.run_getObj_map h1, check_key, r1, Result.andThen]
theorem Mp.put {w : World} {b : Nat} {l : List (Int × Value)} (h : Mp w b l) (k : Int) (v : Value) :
    ∃ w', (Instr.mapUpdate mt (.map (some b)) (.int .i64 k) v).run Tryz.prog w = .ok () w' ∧ Mp w' b (Mv.put l k v) ∧ w.grownBy w' (some b) := by
  obtain ⟨es, clock, h1, h2⟩ := h
  have r1 := find_run k es.toList l h2 w
  have hlt := (Array.getElem?_eq_some_iff.1 h1).1
  have hs : ∀ o, (setObj b o).run Tryz.prog w = .ok () { w with heap := w.heap.setIfInBounds b o } := fun o => MapKept.run_setObj_map o h1
  have hgr : ∀ o, w.grownBy { w with heap := w.heap.setIfInBounds b o } (some b) := fun o => ⟨rfl, rfl, rfl, by simp, fun k hk hne => by
    have : b ≠ k := fun e => hne (by rw [e])
    simp [this]⟩
  unfold Mv.put
  cases hf : fnd l k 0 with
  | some p =>
    obtain ⟨i, u⟩ := p
    rw [hf] at r1
    obtain ⟨_, hi⟩ := fnd_mem l k 0 i u hf
    rw [Nat.sub_zero] at hi
    have he : (es.toList.map (fun e => (e.key, e.val)))[i]? = some (Value.int .i64 k, u) := by rw [h2, List.getElem?_map, hi]; rfl
    rw [List.getElem?_map] at he
    obtain ⟨e, he1, he2⟩ := Option.map_eq_some_iff.1 he
    have he' : es[i]? = some e := by rw [← Array.getElem?_toList]; exact he1
    have hk : e.key = .int .i64 k := (Prod.mk.inj he2).1
    refine ⟨_, ?_, ⟨es.modify i (fun e => { e with key := .int .i64 k, val := v }), clock, ?_, ?_⟩, hgr (.map (es.modify i (fun e => { e with key := .int .i64 k, val := v })) clock)⟩
    · simp [Instr.mapUpdate, run_underlying hu, MapKept.run_getObj_map h1, check_key, r1, Result.andThen, he', hk, key_stays, hs]
    · simp [hlt]
    · apply List.ext_getElem?
      intro j
      rw [List.getElem?_map, Array.getElem?_toList, Array.getElem?_modify, List.getElem?_map, List.getElem?_set]
      have hj := congrArg (fun t => t[j]?) h2
      simp only [List.getElem?_map, Array.getElem?_toList] at hj
      have hlen : i < l.length := (List.getElem?_eq_some_iff.1 hi).1
      by_cases hij : i = j
      · subst hij
        simp [he', hlen]
      · simp only [hij, if_false]
        rw [← hj]
  | none =>
    rw [hf] at r1
    refine ⟨_, ?_, ⟨es.push ⟨.int .i64 k, v, clock⟩, clock + 1, ?_, ?_⟩, hgr (.map (es.push ⟨.int .i64 k, v, clock⟩) (clock + 1))⟩
    · simp [Instr.mapUpdate, run_underlying hu, MapKept.run_getObj_map h1, check_key, r1, Result.andThen, hs]
    · simp [hlt]
    · simp [h2]
theorem Mp.del {w : World} {b : Nat} {l : List (Int × Value)} (h : Mp w b l) (k : Int) (ty : TypeId) (kt : TypeId) :
    ∃ w', (Builtin.delete_ #[mt, kt] ty #[.map (some b), .int .i64 k]).run Tryz.prog w = .ok (.tuple #[]) w' ∧ Mp w' b (Mv.del l k) ∧ w.grownBy w' (some b) := by
  obtain ⟨es, clock, h1, h2⟩ := h
  have r1 := find_run k es.toList l h2 w
  have hlt := (Array.getElem?_eq_some_iff.1 h1).1
  have hs : ∀ o, (setObj b o).run Tryz.prog w = .ok () { w with heap := w.heap.setIfInBounds b o } := fun o => MapKept.run_setObj_map o h1
  have hgr : ∀ o, w.grownBy { w with heap := w.heap.setIfInBounds b o } (some b) := fun o => ⟨rfl, rfl, rfl, by simp, fun k hk hne => by
    have : b ≠ k := fun e => hne (by rw [e])
    simp [this]⟩
  unfold Mv.del
  cases hf : fnd l k 0 with
  | some p =>
    obtain ⟨i, u⟩ := p
    rw [hf] at r1
    refine ⟨_, ?_, ⟨es.eraseIdxIfInBounds i, clock, ?_, ?_⟩, hgr (.map (es.eraseIdxIfInBounds i) clock)⟩
    · simp [Builtin.delete_, run_underlying hu, MapKept.run_getObj_map h1, check_key, r1, Result.andThen, hs]
    · simp [hlt]
    · rw [Array.toList_eraseIdxIfInBounds, ← er_map, h2, er_map]
  | none =>
    rw [hf] at r1
    refine ⟨_, ?_, ⟨es, clock, ?_, h2⟩, hgr (.map es clock)⟩
    · simp [Builtin.delete_, run_underlying hu, MapKept.run_getObj_map h1, check_key, r1, Result.andThen, hs]
    · simp [hlt]
theorem Mp.len {w : World} {b : Nat} {l : List (Int × Value)} (h : Mp w b l) (ty : TypeId) :
    (Builtin.len_ #[mt] ty #[.map (some b)]).run Tryz.prog w = .ok (.int .i64 l.length) w := by
  obtain ⟨es, clock, h1, h2⟩ := h
  have : es.size = l.length := by
    have := congrArg List.length h2
    simpa using this
  rw [← this]
  simp [Builtin.len_, run_underlying hu, MapKept.run_getObj_map h1, goInt, Result.andThen]
end
theorem und_v : Tryz.prog.underlying 42 = some (.map 3 83) := Tryz.underlying42
theorem und_i : Tryz.prog.underlying 43 = some (.map 3 86) := Tryz.underlying43
theorem zero_v (w : World) : (zeroValue 83).run Tryz.prog w = .ok (.pointer none) w := by kernel_rfl
theorem zero_i (w : World) : (zeroValue 86).run Tryz.prog w = .ok (.agg #[]) w := by kernel_rfl
end Go.Proofs.YtcpnmpepcpcahaaGreatDoor.Mv

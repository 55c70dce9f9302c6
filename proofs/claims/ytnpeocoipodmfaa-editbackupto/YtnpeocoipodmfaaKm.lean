/- Maps that are sets of places, or of Numbers. -/
import Derived.Test.YtnpeocoipodmfaaLe
import Derived.Maps.Own
namespace Go.Proofs.Ytnpeocoipodmfaa.Km
open Go.ChangeShapes Go.WideShapes Go.ChangeAt Go.RowKit
open Go.Proofs.Ytnpeocoipodmfaa.Gr
open Go.Proofs.Ytnpeocoipodmfaa.Ev
set_option linter.unusedVariables false
set_option linter.unusedSimpArgs false

/-- A kind of set: the map's and the key's type, a key's value. -/
structure Ks (κ : Type) [DecidableEq κ] where
  mt : TypeId
  kt : TypeId
  kv : κ → Value
  und : Try.prog.underlying mt = some (.map kt 88)
  check : ∀ (w : World) (e : Bool) (x : κ), (Instr.checkKey e 10000 kt (kv x)).run Try.prog w = .ok () w
  stays : ∀ (w : World) (x : κ), (Instr.keyThatStays (kv x) (kv x)).run Try.prog w = .ok (kv x) w
  find : ∀ (w : World) (k : κ) (l : List MapEntry) (ks : List κ), l.map (·.key) = ks.map kv → (∀ e ∈ l, e.val = .agg #[]) → ∃ r, (Instr.findKey kt (kv k) l).run Try.prog w = .ok r w ∧ r.isSome = decide (k ∈ ks) ∧ ∀ p, r = some p → p.2 = .agg #[] ∧ ∃ e, l[p.1]? = some e ∧ e.key = kv k
variable {κ : Type} [DecidableEq κ]
/-- The map has just these keys. -/
def Ks.Mp (K : Ks κ) (w : World) (b : Nat) (ks : List κ) : Prop := ∃ es clock, w.heap[b]? = some (.map es clock) ∧ es.toList.map (·.key) = ks.map K.kv ∧ ∀ e ∈ es.toList, e.val = .agg #[]
theorem Ks.Mp.lt {K : Ks κ} {w : World} {b : Nat} {ks : List κ} (h : K.Mp w b ks) : b < w.heap.size := by
  obtain ⟨_, _, h, _⟩ := h; exact (Array.getElem?_eq_some_iff.1 h).1
theorem Ks.Mp.blk {K : Ks κ} {w w' : World} {b : Nat} {ks : List κ} (h : K.Mp w b ks) (hb : w'.heap[b]? = w.heap[b]?) : K.Mp w' b ks := by
  obtain ⟨es, c, h1, h2⟩ := h; exact ⟨es, c, hb.trans h1, h2⟩
theorem Ks.Mp.later {K : Ks κ} {w w' : World} {b : Nat} {ks : List κ} (h : K.Mp w b ks) (hb : Below w.heap.size w w') : K.Mp w' b ks := h.blk (hb.block b h.lt)
theorem Ks.Mp.made (K : Ks κ) (w : World) : K.Mp (w.alloc (.map #[] 0)) w.heap.size [] := ⟨#[], 0, new_at _ _, rfl, fun e h => by simp at h⟩
theorem zero_unit (w : World) : (zeroValue 88).run Try.prog w = .ok (.agg #[]) w := by kernel_rfl
theorem Ks.Mp.look {K : Ks κ} {w : World} {b : Nat} {ks : List κ} (h : K.Mp w b ks) (k : κ) :
    (Instr.lookup K.mt (.map (some b)) (K.kv k) true).run Try.prog w = .ok (.tuple #[.agg #[], .bool (decide (k ∈ ks))]) w := by
  obtain ⟨es, clock, h1, h2, h3⟩ := h
  obtain ⟨r, r1, r2, r3⟩ := K.find w k es.toList ks h2 h3
  cases r with
  | none =>
    rw [← r2]
    simp [Instr.lookup, run_underlying K.und, MapKept.run_getObj_map h1, K.check, r1, zero_unit, Result.andThen]
  | some p =>
    rw [← r2]
    have := (r3 p rfl).1
    simp [Instr.lookup, run_underlying K.und, MapKept.run_getObj_map h1, K.check, r1, Result.andThen, this]
/-- A key more, or the same ones. -/
def ins (ks : List κ) (k : κ) : List κ := if k ∈ ks then ks else ks ++ [k]
theorem mem_ins (ks : List κ) (k x : κ) : x ∈ ins ks k ↔ x ∈ ks ∨ x = k := by
  unfold ins; split
  · constructor
    · exact .inl
    · rintro (h | rfl) <;> assumption
  · simp
theorem Ks.Mp.put {K : Ks κ} {w : World} {b : Nat} {ks : List κ} (h : K.Mp w b ks) (k : κ) :
    ∃ w', (Instr.mapUpdate K.mt (.map (some b)) (K.kv k) (.agg #[])).run Try.prog w = .ok () w' ∧ K.Mp w' b (ins ks k) ∧ w.grownBy w' (some b) := by
  obtain ⟨es, clock, h1, h2, h3⟩ := h
  obtain ⟨r, r1, r2, r3⟩ := K.find w k es.toList ks h2 h3
  have hlt := (Array.getElem?_eq_some_iff.1 h1).1
  have hs : ∀ o, (setObj b o).run Try.prog w = .ok () { w with heap := w.heap.setIfInBounds b o } := fun o => MapKept.run_setObj_map o h1
  have hgr : ∀ o, w.grownBy { w with heap := w.heap.setIfInBounds b o } (some b) := fun o => ⟨rfl, rfl, rfl, by simp, fun k hk hne => by
    have : b ≠ k := fun e => hne (by rw [e])
    simp [this]⟩
  cases r with
  | some p =>
    obtain ⟨i, v⟩ := p
    obtain ⟨hv, e, he, hk⟩ := r3 _ rfl
    have hin : k ∈ ks := by simpa using r2.symm
    have he' : es[i]? = some e := by rw [← Array.getElem?_toList]; exact he
    have hval : e.val = .agg #[] := h3 e (List.mem_of_getElem? he)
    have hmod : es.modify i (fun e => { e with key := K.kv k, val := .agg #[] }) = es := by
      apply Array.ext (by simp)
      intro j hj1 hj2
      rw [Array.getElem_modify]
      split
      · rename_i hij
        subst hij
        have : es[i] = e := by
          have := Array.getElem?_eq_getElem hj2
          rw [he'] at this
          exact (Option.some.inj this).symm
        rw [this]
        obtain ⟨ek, evv, eb⟩ := e
        simp only at hk hval
        rw [hk, hval]
      · rfl
    refine ⟨_, ?_, ⟨es, clock, ?_, ?_, h3⟩, hgr (.map es clock)⟩
    · simp [Instr.mapUpdate, run_underlying K.und, MapKept.run_getObj_map h1, K.check, r1, Result.andThen, he', hk, K.stays, hs, hmod]
    · simp [hlt]
    · rw [h2]; unfold ins; rw [if_pos hin]
  | none =>
    have hin : k ∉ ks := by simpa using r2.symm
    refine ⟨_, ?_, ⟨es.push ⟨K.kv k, .agg #[], clock⟩, clock + 1, ?_, ?_, ?_⟩, hgr (.map (es.push ⟨K.kv k, .agg #[], clock⟩) (clock + 1))⟩
    · simp [Instr.mapUpdate, run_underlying K.und, MapKept.run_getObj_map h1, K.check, r1, Result.andThen, hs]
    · simp [hlt]
    · unfold ins; rw [if_neg hin]; simp [h2]
    · intro e he
      simp at he
      rcases he with he | rfl
      · exact h3 e (by simpa using he)
      · rfl
theorem Ks.Mp.len {K : Ks κ} {w : World} {b : Nat} {ks : List κ} (h : K.Mp w b ks) (ty : TypeId) :
    (Builtin.len_ #[K.mt] ty #[.map (some b)]).run Try.prog w = .ok (.int .i64 ks.length) w := by
  obtain ⟨es, clock, h1, h2, h3⟩ := h
  have : es.size = ks.length := by
    have := congrArg List.length h2
    simpa using this
  rw [← this]
  simp [Builtin.len_, run_underlying K.und, MapKept.run_getObj_map h1, goInt, Result.andThen]

/-! ### Places -/
theorem eq_pl (w : World) (a b c d : Int) : (Op.equal 57 (.agg #[.int .i64 a, .int .i64 b]) (.agg #[.int .i64 c, .int .i64 d])).run Try.prog w = .ok ((a == c) && (b == d)) w := by
  unfold Op.equal Op.maxDepth
  cases h1 : (a == c) <;> cases h2 : (b == d) <;> simp [go_sem, h1, h2, Try.underlying57]
def kvP (x : Pl) : Value := .agg #[.int .i64 x.l, .int .i64 x.n]
theorem ask_pl (w : World) (k : Pl) : ∀ (l : List MapEntry) (ks : List Pl) (i : Nat), l.map (·.key) = ks.map kvP → (∀ e ∈ l, e.val = .agg #[]) → ∃ r, (Instr.findAsking 57 (kvP k) l i).run Try.prog w = .ok r w ∧ r.isSome = decide (k ∈ ks) ∧ ∀ p, r = some p → p.2 = .agg #[] ∧ i ≤ p.1 ∧ ∃ e, l[p.1 - i]? = some e ∧ e.key = kvP k
  | [], [], i, _, _ => ⟨none, rfl, rfl, fun _ h => by cases h⟩
  | [], _ :: _, i, h, _ => by simp at h
  | _ :: _, [], i, h, _ => by simp at h
  | e :: l, x :: ks, i, h, hv => by
    simp only [List.map_cons, List.cons.injEq] at h
    obtain ⟨r, h1, h2, h3⟩ := ask_pl w k l ks (i + 1) h.2 (fun e he => hv e (List.mem_cons_of_mem _ he))
    unfold Instr.findAsking
    rw [Sem.run_bind, h.1]
    unfold kvP
    rw [eq_pl, Result.andThen_ok]
    by_cases hc : k = x
    · subst hc
      rw [show ((k.l == k.l) && (k.n == k.n)) = true by simp, if_pos rfl]
      exact ⟨_, rfl, by simp, fun p hp => by cases hp; exact ⟨hv e List.mem_cons_self, Nat.le_refl _, e, by simp, h.1⟩⟩
    · have : ((k.l == x.l) && (k.n == x.n)) = false := by
        rw [Bool.and_eq_false_iff, beq_eq_false_iff_ne, beq_eq_false_iff_ne]
        by_cases h4 : k.l = x.l
        · right; intro h5; apply hc; cases k; cases x; simp_all
        · exact .inl h4
      rw [this, if_neg (by simp)]
      refine ⟨r, h1, by rw [h2]; simp [hc], fun p hp => ?_⟩
      obtain ⟨q1, q2, e', q3, q4⟩ := h3 p hp
      refine ⟨q1, by omega, e', ?_, q4⟩
      rw [show p.1 - i = (p.1 - (i + 1)) + 1 by omega]
      exact q3
def kP : Ks Pl where
  mt := 87
  kt := 57
  kv := kvP
  und := Try.underlying87
  check := by intro w e x; kernel_rfl
  stays := by intro w x; simp [Instr.keyThatStays, Instr.sameBits, kvP]
  find := by
    intro w k l ks h hv
    obtain ⟨r, h1, h2, h3⟩ := ask_pl w k l ks 0 h hv
    unfold Instr.findKey
    rw [Sem.run_bind, run_underlying Try.underlying57, Result.andThen_ok]
    cases l with
    | nil =>
      cases ks with
      | nil => exact ⟨none, rfl, rfl, fun _ h => by cases h⟩
      | cons x ts => simp at h
    | cons e l =>
      refine ⟨r, ?_, h2, fun p hp => ?_⟩
      · simp only [Instr.findNow, Instr.sameNow, kvP]
        exact h1
      · obtain ⟨q1, _, q2⟩ := h3 p hp
        exact ⟨q1, q2⟩
/-! ### Numbers -/
def kvN (x : Int) : Value := .int .i64 x
theorem now_n (k : Int) : ∀ (l : List MapEntry) (ks : List Int) (i : Nat), l.map (·.key) = ks.map kvN → (∀ e ∈ l, e.val = .agg #[]) → ∃ r, Instr.findNow (.int .i64) (kvN k) l i = some r ∧ r.isSome = decide (k ∈ ks) ∧ ∀ p, r = some p → p.2 = .agg #[] ∧ i ≤ p.1 ∧ ∃ e, l[p.1 - i]? = some e ∧ e.key = kvN k
  | [], [], i, _, _ => ⟨none, rfl, rfl, fun _ h => by cases h⟩
  | [], _ :: _, i, h, _ => by simp at h
  | _ :: _, [], i, h, _ => by simp at h
  | e :: l, x :: ks, i, h, hv => by
    simp only [List.map_cons, List.cons.injEq] at h
    obtain ⟨r, h1, h2, h3⟩ := now_n k l ks (i + 1) h.2 (fun e he => hv e (List.mem_cons_of_mem _ he))
    unfold Instr.findNow
    rw [h.1]
    by_cases hc : k = x
    · subst hc
      exact ⟨some (i, e.val), by simp [Instr.sameNow, kvN], by simp, fun p hp => by cases hp; exact ⟨hv e List.mem_cons_self, Nat.le_refl _, e, by simp, h.1⟩⟩
    · refine ⟨r, ?_, by rw [h2]; simp [hc], fun p hp => ?_⟩
      · have hb : (k == x) = false := by simpa using hc
        rw [← h1]; simp [Instr.sameNow, kvN, hb]
      · obtain ⟨q1, q2, e', q3, q4⟩ := h3 p hp
        refine ⟨q1, by omega, e', ?_, q4⟩
        rw [show p.1 - i = (p.1 - (i + 1)) + 1 by omega]
        exact q3
def kN : Ks Int where
  mt := 99
  kt := 3
  kv := kvN
  und := Try.underlying99
  check := by intro w e x; kernel_rfl
  stays := by intro w x; simp [Instr.keyThatStays, Instr.sameBits, kvN]
  find := by
    intro w k l ks h hv
    obtain ⟨r, h1, h2, h3⟩ := now_n k l ks 0 h hv
    unfold Instr.findKey
    rw [Sem.run_bind, run_underlying Try.underlying3, Result.andThen_ok]
    refine ⟨r, ?_, h2, fun p hp => ?_⟩
    · rw [h1]; rfl
    · obtain ⟨q1, _, q2⟩ := h3 p hp
      exact ⟨q1, q2⟩
end Go.Proofs.Ytnpeocoipodmfaa.Km

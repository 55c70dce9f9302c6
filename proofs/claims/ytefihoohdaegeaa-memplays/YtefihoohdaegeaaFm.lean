/- Frames by a set of blocks; the map of begins. -/
import Derived.Test.YtefihoohdaegeaaEs
import Derived.Test.YtefihoohdaegeaaLs
import Derived.Laws.StructEq
namespace Go.Proofs.Ytefihoohdaegeaa.Fm
open Go.ChangeShapes Go.WideShapes Go.ChangeAt Go.RowKit Go.Shelf
open Go.Proofs.Ytefihoohdaegeaa.Lx
open Go.Proofs.Ytefihoohdaegeaa.Tm
open Go.Proofs.Ytefihoohdaegeaa.Rw
open Go.Proofs.Ytefihoohdaegeaa.Es
open Go.Proofs.Ytefihoohdaegeaa.In
open Go.Proofs.Ytefihoohdaegeaa.Sg
open Go.Proofs.Ytefihoohdaegeaa.Mm (Lst Hd Rw)
set_option linter.unusedVariables false
set_option linter.unusedSimpArgs false

/-- Nothing of what was there has turned but blocks of P. -/
structure Fp (P : Nat → Prop) (w w' : World) : Prop where
  os : w'.os = w.os
  tape : w'.tape = w.tape
  output : w'.output = w.output
  size : w.heap.size ≤ w'.heap.size
  block : ∀ j, j < w.heap.size → ¬ P j → w'.heap[j]? = w.heap[j]?
def gw (P : Nat → Prop) (w w' : World) : Nat → Prop := fun j => P j ∨ (w.heap.size ≤ j ∧ j < w'.heap.size)
theorem Fp.refl (P : Nat → Prop) (w : World) : Fp P w w := ⟨rfl, rfl, rfl, Nat.le_refl _, fun _ _ _ => rfl⟩
theorem Fp.of {P : Nat → Prop} {w w1 : World} (b : Below w.heap.size w w1) : Fp P w w1 := ⟨b.os, b.tape, b.output, b.size, fun j hj _ => b.block j hj⟩
theorem Fp.below {P : Nat → Prop} {w w1 w2 : World} (h : Fp P w w1) (b : Below w1.heap.size w1 w2) : Fp P w w2 :=
  ⟨b.os.trans h.os, b.tape.trans h.tape, b.output.trans h.output, Nat.le_trans h.size b.size, fun j hj hp => (b.block j (Nat.lt_of_lt_of_le hj h.size)).trans (h.block j hj hp)⟩
theorem Fp.grown {P : Nat → Prop} {w w1 w2 : World} {row : Option Nat} (h : Fp P w w1) (b : w1.grownBy w2 row) (hr : ∀ j, row = some j → P j ∨ w.heap.size ≤ j) : Fp P w w2 :=
  ⟨b.os.trans h.os, b.tape.trans h.tape, b.output.trans h.output, Nat.le_trans h.size b.size, fun j hj hp => (b.block j (Nat.lt_of_lt_of_le hj h.size) (fun e => by rcases hr j e.symm with h1 | h1; exact hp h1; omega)).trans (h.block j hj hp)⟩
theorem Fp.set {P : Nat → Prop} {w w1 : World} (h : Fp P w w1) {g : Nat} (hr : P g ∨ w.heap.size ≤ g) (i : Nat) (v : Value) : Fp P w (w1.setCell ⟨g, i, none⟩ v) :=
  ⟨h.os, h.tape, h.output, by simpa using h.size, fun j hj hp => (Below.heap_setCell w1 _ _ j (fun e => by rcases hr with h1 | h1; exact hp (by rw [show j = g from e]; exact h1); have : j = g := e; omega)).trans (h.block j hj hp)⟩
theorem Fp.trans {P : Nat → Prop} {w w1 w2 : World} (h : Fp P w w1) (k : Fp (gw P w w1) w1 w2) : Fp P w w2 :=
  ⟨k.os.trans h.os, k.tape.trans h.tape, k.output.trans h.output, Nat.le_trans h.size k.size, fun j hj hp => (k.block j (Nat.lt_of_lt_of_le hj h.size) (fun e => by rcases e with e | e; exact hp e; omega)).trans (h.block j hj hp)⟩
theorem Fp.wide {P Q : Nat → Prop} {w w1 : World} (h : Fp P w w1) (hpq : ∀ j, j < w.heap.size → P j → Q j) : Fp Q w w1 := ⟨h.os, h.tape, h.output, h.size, fun j hj hq => h.block j hj (fun hp => hq (hpq j hj hp))⟩
theorem Fp.drew {P : Nat → Prop} {w w1 : World} (h : Fp P w w1) : Fp P w w1.drew := h.below ⟨rfl, rfl, rfl, Nat.le_refl _, fun _ _ => rfl⟩
theorem Fp.base {P : Nat → Prop} {w w1 : World} {base : Nat} (h : Fp P w w1) (hb : base ≤ w.heap.size) (hp : ∀ j, P j → base ≤ j) : Below base w w1 :=
  ⟨h.os, h.tape, h.output, h.size, fun j hj => h.block j (by omega) (fun e => by have := hp j e; omega)⟩
theorem gw_sub {P : Nat → Prop} {w w1 w2 : World} (h : w.heap.size ≤ w1.heap.size) (k : w1.heap.size ≤ w2.heap.size) : ∀ j, gw (gw P w w1) w1 w2 j → gw P w w2 j := by
  rintro j ((h1 | h1) | h1)
  · exact .inl h1
  · exact .inr ⟨h1.1, by omega⟩
  · exact .inr ⟨by omega, h1.2⟩
theorem gw_self {P : Nat → Prop} {w w1 : World} : ∀ j, P j → gw P w w1 j := fun j h => .inl h
theorem gw_low {P : Nat → Prop} {w w1 : World} {base : Nat} (hb : base ≤ w.heap.size) (hs : w.heap.size ≤ w1.heap.size) (h : ∀ j, P j → base ≤ j ∧ j < w.heap.size) : ∀ j, gw P w w1 j → base ≤ j ∧ j < w1.heap.size := by
  rintro j (h1 | h1)
  · exact ⟨(h j h1).1, by have := (h j h1).2; omega⟩
  · exact ⟨by omega, h1.2⟩
/-- What hangs on blocks alone. -/
theorem sl_blocks {w w' : World} {base g b most : Nat} {ns : List N} {ord : List Nat} (H : SL w base g b most ns ord) (h1 : w'.heap[g]? = w.heap[g]?) (h2 : w'.heap[b]? = w.heap[b]?) : SL w' base g b most ns ord := by
  obtain ⟨cap, tw, hL, hG, hK⟩ := H
  obtain ⟨a1, a2, a3, a4, a5, a6, a7, a8, a9⟩ := hL
  refine ⟨cap, tw, ⟨h1.trans a1, ?_, a3, a4, a5, a6, a7, a8, a9⟩, hG, hK⟩
  obtain ⟨cur, c1, c2⟩ := a2
  exact ⟨cur, h2.trans c1, c2⟩
theorem sl_lt {w : World} {base g b most : Nat} {ns : List N} {ord : List Nat} (H : SL w base g b most ns ord) : g < w.heap.size ∧ b < w.heap.size := by
  obtain ⟨cap, tw, hL, _, _⟩ := H
  exact ⟨hL.hd.lt, hL.rw.lt⟩
theorem own_blocks {w w' : World} {base e size n : Nat} {v : Value} {xs : List Value} (h : w.ownsRow base e size v n xs) (hb : ∀ j, v.ownBlock = some j → w'.heap[j]? = w.heap[j]?) : w'.ownsRow base e size v n xs := by
  refine ⟨h.1, ?_⟩
  rcases h.2 with h1 | ⟨g, c, cur, h1, h2, h3, h4⟩
  · exact .inl h1
  · refine .inr ⟨g, c, cur, h1, h2, ?_, h4⟩
    rw [hb g (by rw [h1]; rfl)]; exact h3
theorem own_lt {w : World} {base e size n : Nat} {v : Value} {xs : List Value} (h : w.ownsRow base e size v n xs) : ∀ j, v.ownBlock = some j → base ≤ j ∧ j < w.heap.size := by
  intro j hj
  rcases h.2 with ⟨h1, _⟩ | ⟨g, c, cur, h1, h2, h3, h4⟩
  · rw [h1] at hj; simp [Value.ownBlock] at hj
  · rw [h1] at hj; simp [Value.ownBlock] at hj; subst hj
    exact ⟨h2, (Array.getElem?_eq_some_iff.1 h3).1⟩

/-! ### The map of begins -/
def mkey (x : T) : Value := .agg #[.string x.b, .int .u64 x.s, .int .i64 2]
/-- The map has just the begins and numbers of these tombs. -/
def Bg (w : World) (b : Nat) (ts : List T) : Prop := ∃ es clock, w.heap[b]? = some (.map es clock) ∧ es.toList.map (·.key) = ts.map mkey ∧ ∀ e ∈ es.toList, e.val = .agg #[]
theorem Bg.lt {w : World} {b : Nat} {ts : List T} (h : Bg w b ts) : b < w.heap.size := by
  obtain ⟨_, _, h, _⟩ := h; exact (Array.getElem?_eq_some_iff.1 h).1
theorem Bg.blk {w w' : World} {b : Nat} {ts : List T} (h : Bg w b ts) (hb : w'.heap[b]? = w.heap[b]?) : Bg w' b ts := by
  obtain ⟨es, c, h1, h2⟩ := h; exact ⟨es, c, hb.trans h1, h2⟩
/-- A tomb of that begin and number is there. -/
def has (ts : List T) (k : ByteArray) (s : Int) : Bool := ts.any fun x => decide (x.b.data.toList = k.data.toList ∧ x.s = s)
theorem data_beq (a b : ByteArray) : (a.toList == b.toList) = decide (a.data.toList = b.data.toList) := by
  rw [ByteArray.toList_eq, ByteArray.toList_eq]
  by_cases h : a.data.toList = b.data.toList
  · rw [h]; simp
  · rw [decide_eq_false h, beq_eq_false_iff_ne]; exact h
theorem eq_run (w : World) (a b : ByteArray) (s t c d : Int) : (Op.equal 48 (.agg #[.string a, .int .u64 s, .int .i64 c]) (.agg #[.string b, .int .u64 t, .int .i64 d])).run Try.prog w = .ok ((a.toList == b.toList) && (s == t) && (c == d)) w := by
  unfold Op.equal Op.maxDepth
  cases h1 : (a.toList == b.toList) <;> cases h2 : (s == t) <;> cases h3 : (c == d) <;> simp [go_sem, h1, h2, h3, Try.underlying48]

theorem check_run (w : World) (e : Bool) (a : ByteArray) (s c : Int) : (Instr.checkKey e 10000 48 (.agg #[.string a, .int .u64 s, .int .i64 c])).run Try.prog w = .ok () w := by
  kernel_rfl
theorem ask_run (w : World) (k : ByteArray) (s : Int) : ∀ (l : List MapEntry) (ts : List T) (i : Nat), l.map (·.key) = ts.map mkey → (∀ e ∈ l, e.val = .agg #[]) → ∃ r, (Instr.findAsking 48 (.agg #[.string k, .int .u64 s, .int .i64 2]) l i).run Try.prog w = .ok r w ∧ r.isSome = has ts k s ∧ ∀ p, r = some p → p.2 = .agg #[]
  | [], [], i, _, _ => ⟨none, rfl, rfl, fun _ h => by cases h⟩
  | [], _ :: _, i, h, _ => by simp at h
  | _ :: _, [], i, h, _ => by simp at h
  | e :: l, x :: ts, i, h, hv => by
    simp only [List.map_cons, List.cons.injEq] at h
    obtain ⟨r, h1, h2, h3⟩ := ask_run w k s l ts (i + 1) h.2 (fun e he => hv e (List.mem_cons_of_mem _ he))
    unfold Instr.findAsking
    rw [Sem.run_bind, h.1]
    unfold mkey
    rw [eq_run, data_beq, Result.andThen_ok]
    have hh : has (x :: ts) k s = (decide (x.b.data.toList = k.data.toList ∧ x.s = s) || has ts k s) := by simp [has]
    rw [hh]
    generalize hB : (decide (k.data.toList = x.b.data.toList) && (s == x.s) && ((2 : Int) == 2)) = B
    by_cases hc : x.b.data.toList = k.data.toList ∧ x.s = s
    · have : B = true := by rw [← hB]; simp [hc.1, hc.2]
      rw [this, if_pos rfl]
      exact ⟨_, rfl, by simp [hc], fun p hp => by cases hp; exact hv e List.mem_cons_self⟩
    · have : B = false := by
        rw [← hB]
        simp only [BEq.rfl, Bool.and_true, Bool.and_eq_false_iff, decide_eq_false_iff_not, beq_eq_false_iff_ne]
        by_cases h3 : k.data.toList = x.b.data.toList
        · exact .inr (fun h4 => hc ⟨h3.symm, h4.symm⟩)
        · exact .inl h3
      rw [this, if_neg (by simp)]
      exact ⟨r, h1, by rw [h2, decide_eq_false hc, Bool.false_or], h3⟩
theorem find_run (w : World) (k : ByteArray) (s : Int) (l : List MapEntry) (ts : List T) (h : l.map (·.key) = ts.map mkey) (hv : ∀ e ∈ l, e.val = .agg #[]) : ∃ r, (Instr.findKey 48 (.agg #[.string k, .int .u64 s, .int .i64 2]) l).run Try.prog w = .ok r w ∧ r.isSome = has ts k s ∧ ∀ p, r = some p → p.2 = .agg #[] := by
  obtain ⟨r, h1, h2, h3⟩ := ask_run w k s l ts 0 h hv
  unfold Instr.findKey
  rw [Sem.run_bind, run_underlying Try.underlying48, Result.andThen_ok]
  cases l with
  | nil =>
    cases ts with
    | nil => exact ⟨none, rfl, rfl, fun _ h => by cases h⟩
    | cons x ts => simp at h
  | cons e l =>
    refine ⟨r, ?_, h2, h3⟩
    simp only [Instr.findNow, Instr.sameNow]
    exact h1
theorem zero_unit (w : World) : (zeroValue 143).run Try.prog w = .ok (.agg #[]) w := by kernel_rfl
theorem Bg.look {w : World} {b : Nat} {ts : List T} (h : Bg w b ts) (k : ByteArray) (s : Int) :
    (Instr.lookup 78 (.map (some b)) (.agg #[.string k, .int .u64 s, .int .i64 2]) true).run Try.prog w = .ok (.tuple #[.agg #[], .bool (has ts k s)]) w := by
  obtain ⟨es, clock, h1, h2, h3⟩ := h
  obtain ⟨r, r1, r2, r3⟩ := find_run w k s es.toList ts h2 h3
  cases r with
  | none =>
    rw [← r2]
    simp [Instr.lookup, run_underlying Try.underlying78, MapKept.run_getObj_map h1, check_run, r1, zero_unit, Result.andThen]
  | some p =>
    rw [← r2]
    have := r3 p rfl
    simp [Instr.lookup, run_underlying Try.underlying78, MapKept.run_getObj_map h1, check_run, r1, Result.andThen, this]
/-- One more. -/
theorem Bg.more {w : World} {b : Nat} {ts : List T} (h : Bg w b ts) (x : T) (hn : has ts x.b x.s = false) :
    ∃ w', (Instr.mapUpdate 78 (.map (some b)) (mkey x) (.agg #[])).run Try.prog w = .ok () w' ∧ Bg w' b (ts ++ [x]) ∧ w.grownBy w' (some b) := by
  obtain ⟨es, clock, h1, h2, h3⟩ := h
  obtain ⟨r, r1, r2, r3⟩ := find_run w x.b x.s es.toList ts h2 h3
  rw [hn] at r2
  cases r with
  | some p => simp at r2
  | none =>
    have hlt := (Array.getElem?_eq_some_iff.1 h1).1
    refine ⟨{ w with heap := w.heap.setIfInBounds b (.map (es.push ⟨mkey x, .agg #[], clock⟩) (clock + 1)) }, ?_, ⟨es.push ⟨mkey x, .agg #[], clock⟩, clock + 1, ?_, ?_, ?_⟩, ?_⟩
    · have hs : ∀ o, (setObj b o).run Try.prog w = .ok () { w with heap := w.heap.setIfInBounds b o } := fun o => MapKept.run_setObj_map o h1
      unfold mkey
      simp [Instr.mapUpdate, run_underlying Try.underlying78, MapKept.run_getObj_map h1, check_run, r1, Result.andThen, hs]
    · simp [hlt]
    · simp [h2]
    · intro e he
      simp at he
      rcases he with he | rfl
      · exact h3 e (by simpa using he)
      · rfl
    · refine ⟨rfl, rfl, rfl, by simp, fun k hk hne => ?_⟩
      have : b ≠ k := fun e => hne (by rw [e])
      simp [this]
end Go.Proofs.Ytefihoohdaegeaa.Fm

/- A row of entries of a call's own that is written: what it holds, an entry stored, two exchanged; the order of entries. -/
import Derived.Test.YtgjodfaliajlgaaEe
import Derived.Test.YtgjodfaliajlgaaGr
import Derived.Test.YtgjodfaliajlgaaSb
namespace Go.Proofs.Ytgjodfaliajlgaa.Ew
open Go.ChangeShapes Go.WideShapes Go.ChangeAt Go.RowKit
open Go.Proofs.Ytgjodfaliajlgaa.Gr (Fp)
open Go.Proofs.Ytgjodfaliajlgaa.Ik
open Go.Proofs.Ytgjodfaliajlgaa.Ee
open Go.Proofs.Ytgjodfaliajlgaa.Sb
set_option linter.unusedVariables false

/-- Block g, room for cap entries; its first ones are xs. -/
def ERow (w : World) (g cap : Nat) (xs : List E) : Prop :=
  ∃ cur : Array Value, w.heap[g]? = some (.cells cur 43 (0, 0)) ∧ cur.size = cap * 4 ∧ xs.length ≤ cap ∧
    ∀ i, i < xs.length → cur[i * 4]? = some (.string (xs.getD i ze).k) ∧ cur[i * 4 + 1]? = some (.int .u64 (xs.getD i ze).s) ∧ cur[i * 4 + 2]? = some (.int .i64 (xs.getD i ze).c) ∧ cur[i * 4 + 3]? = some (.string (xs.getD i ze).v)
theorem ERow.lt {w : World} {g cap : Nat} {xs : List E} (h : ERow w g cap xs) : g < w.heap.size := by
  obtain ⟨cur, h1, _⟩ := h
  exact (Array.getElem?_eq_some_iff.1 h1).1
theorem ERow.cell {w : World} {g cap : Nat} {xs : List E} (h : ERow w g cap xs) (i : Nat) (hi : i < xs.length) : At4 w g (i * 4) (xs.getD i ze) := by
  obtain ⟨cur, h1, h2, h3, h4⟩ := h
  obtain ⟨a, b, c, d⟩ := h4 i hi
  refine ⟨?_, ?_, ?_, ?_⟩ <;> simp only [World.cell?, h1] <;> simpa
theorem ERow.fz {w : World} {g cap : Nat} {xs : List E} (h : ERow w g cap xs) (o : Nat) : w.frozen? ⟨g, o, none⟩ = false := by
  obtain ⟨cur, h1, _⟩ := h
  simp [World.frozen?, h1]
theorem ERow.le {w : World} {g cap : Nat} {xs : List E} (h : ERow w g cap xs) : xs.length ≤ cap := by
  obtain ⟨cur, h1, h2, h3, h4⟩ := h; exact h3
theorem ERow.block {w w' : World} {g cap : Nat} {xs : List E} (h : ERow w g cap xs) (hb : w'.heap[g]? = w.heap[g]?) : ERow w' g cap xs := by
  obtain ⟨cur, h1, h2⟩ := h
  exact ⟨cur, hb.trans h1, h2⟩
theorem ERow.later {w w' : World} {g cap : Nat} {xs : List E} (h : ERow w g cap xs) (hb : Below w.heap.size w w') : ERow w' g cap xs := h.block (hb.block g h.lt)
/-- An entry stored at a place. -/
def st4 (W : World) (g o : Nat) (x : E) : World := (((W.setCell ⟨g, o, none⟩ (.string x.k)).setCell ⟨g, o + 1, none⟩ (.int .u64 x.s)).setCell ⟨g, o + 2, none⟩ (.int .i64 x.c)).setCell ⟨g, o + 3, none⟩ (.string x.v)
theorem set_block {w : World} {g : Nat} {c : Array Value} (h : w.heap[g]? = some (.cells c 43 (0, 0))) (o : Nat) (v : Value) : (w.setCell ⟨g, o, none⟩ v).heap[g]? = some (.cells (c.setIfInBounds o v) 43 (0, 0)) := by
  simp [World.setCell, Array.getElem?_modify, h]
theorem ERow.set {w : World} {g cap : Nat} {xs : List E} (h : ERow w g cap xs) (i : Nat) (x : E) (hi : i < xs.length) : ERow (st4 w g (i * 4) x) g cap (xs.set i x) := by
  obtain ⟨cur, h1, h2, h3, h4⟩ := h
  refine ⟨_, set_block (set_block (set_block (set_block h1 _ _) _ _) _ _) _ _, by simpa using h2, by simpa using h3, ?_⟩
  intro j hj
  rw [List.length_set] at hj
  by_cases e : i = j
  · subst e
    have hx : (xs.set i x).getD i ze = x := by simp [List.getD_eq_getElem?_getD, hi]
    rw [hx]
    have q0 : i * 4 < cur.size := by omega
    have q1 : i * 4 + 1 < cur.size := by omega
    have q2 : i * 4 + 2 < cur.size := by omega
    have q3 : i * 4 + 3 < cur.size := by omega
    refine ⟨?_, ?_, ?_, ?_⟩ <;> simp [q0, q1, q2, q3]
  · have hx : (xs.set i x).getD j ze = xs.getD j ze := by simp [List.getD_eq_getElem?_getD, List.getElem?_set_ne e]
    rw [hx]
    obtain ⟨a, b, c, d⟩ := h4 j hj
    refine ⟨?_, ?_, ?_, ?_⟩ <;> simp only [Array.getElem?_setIfInBounds] <;> repeat' split
    all_goals first | assumption | omega
theorem st4_fp {g : Nat} {V W : World} (o : Nat) (x : E) (h : Fp (· = g) V W) : Fp (· = g) V (st4 W g o x) :=
  (((h.set (.inl rfl) o (.string x.k)).set (.inl rfl) (o + 1) (.int .u64 x.s)).set (.inl rfl) (o + 2) (.int .i64 x.c)).set (.inl rfl) (o + 3) (.string x.v)
theorem ERow.at_ {w : World} {g cap : Nat} {P R : List E} {x : E} (h : ERow w g cap (P ++ x :: R)) : At4 w g (P.length * 4) x := by
  have := h.cell P.length (by simp)
  rwa [Sb.get_at] at this

/-- The order of entries, whether alike or ahead. -/
def le (x y : E) : Bool := decide (cmp x.ik y.ik ≤ 0)
theorem le_tot : Tot le := fun a b => by
  unfold le
  have := cmp_anti a.ik b.ik
  by_cases h : cmp a.ik b.ik ≤ 0
  · exact .inl (decide_eq_true h)
  · exact .inr (decide_eq_true (by omega))
theorem le_trn : Trn le := fun a b c h1 h2 => by
  unfold le at *
  exact decide_eq_true (cmp_trans _ _ _ (of_decide_eq_true h1) (of_decide_eq_true h2)).1
theorem le_lt {x y : E} : le y x = false ↔ cmp x.ik y.ik < 0 := by
  unfold le
  have := cmp_anti x.ik y.ik
  rw [decide_eq_false_iff_not]
  omega
theorem le_ge {x y : E} : le y x = true ↔ ¬ cmp x.ik y.ik < 0 := by
  unfold le
  have := cmp_anti x.ik y.ik
  rw [decide_eq_true_eq]
  omega
/-- Two that stand side by side exchanged. -/
theorem swap_next (P S : List E) (u v : E) : ((P ++ u :: v :: S).set (P.length + 1) u).set P.length v = P ++ v :: u :: S := by
  have := swap_at P [] S u v
  rw [List.length_nil, Nat.add_zero] at this
  rw [List.set_comm _ _ (by omega)]
  exact this
theorem swap_next' (P S : List E) (u v : E) : ((P ++ u :: v :: S).set P.length v).set (P.length + 1) u = P ++ v :: u :: S := by
  have := swap_at P [] S u v
  rw [List.length_nil, Nat.add_zero] at this
  exact this
/-- The comparison that is handed on. -/
def cf : Value := .func (.func 55) #[] #[]
theorem cmp_any (x y : E) (w : World) : Calls Try.prog 55 #[.agg #[.string x.k, .int .u64 x.s, .int .i64 x.c, .string x.v], .agg #[.string y.k, .int .u64 y.s, .int .i64 y.c, .string y.v]] w fun e w' => e = .returned (.int .i64 (cmp x.ik y.ik)) ∧ Below w.heap.size w w' :=
  entries_any x.k x.s x.c x.v y.k y.s y.c y.v w
end Go.Proofs.Ytgjodfaliajlgaa.Ew

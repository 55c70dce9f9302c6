/- A row that is made up by a call; append's run as a step of a walk. -/
import Derived.Test.YtgjodfaliajlgaaGr
namespace Go.Proofs.Ytgjodfaliajlgaa.Ac
open Go.ChangeShapes Go.WideShapes Go.ChangeAt Go.RowKit
open Go.Proofs.Ytgjodfaliajlgaa.Gr
set_option linter.unusedVariables false
set_option linter.unusedSimpArgs false

theorem wpList_append_run {P : Program} {w w' : World} {ops : Array Oper} {rest : List Oper} {o : Oper} {a : Act} {Q : Exit → Act → World → Prop} (hg : o.guard = none) (s x : Operand) (t tx : TypeId) (hop : o.op = Op.call { callee := Callee.builtin Builtin.append, args := #[s, x], argTypes := #[t, tx] })
    (u v v' : Value) (hs : a.eval s = u) (hx : a.eval x = v) (hrun : (Builtin.append_ #[t, tx] o.type #[u, v]).run P w = .ok v' w') (hK : wpList P ops Q rest (a.put o.dst v') w') : wpList P ops Q (o :: rest) a w := by
  refine wpList_plain hg fun K' hK' => ?_
  unfold Oper.wp
  simp [execOp, hop, resolve, invoke, builtin, hs, hx, hrun, Result.andThen]
  exact hK' _ _ hK
theorem wp_append_run {P : Program} {w w' : World} {o : Oper} {a : Act} {K : Act → World → Prop} {Q : Exit → Act → World → Prop} (s x : Operand) (t tx : TypeId) (hop : o.op = Op.call { callee := Callee.builtin Builtin.append, args := #[s, x], argTypes := #[t, tx] })
    (u v v' : Value) (hs : a.eval s = u) (hx : a.eval x = v) (hrun : (Builtin.append_ #[t, tx] o.type #[u, v]).run P w = .ok v' w') (hK : K (a.put o.dst v') w') : o.wp P a w K Q := by
  unfold Oper.wp
  simp [execOp, hop, resolve, invoke, builtin, hs, hx, hrun, Result.andThen]
  exact hK
theorem below_grown {w W W' : World} {n : Nat} {row : Option Nat} (h : Below n w W) (hn : n ≤ W.heap.size) (g : W.grownBy W' row) (hr : ∀ j, row = some j → n ≤ j) : Below n w W' :=
  ⟨g.os.trans h.os, g.tape.trans h.tape, g.output.trans h.output, Nat.le_trans h.size g.size, fun j hj => (g.block j (by omega) (fun e => by have := hr j e.symm; omega)).trans (h.block j hj)⟩
/-- A row that is made up by a call. -/
structure Acc {α : Type} (E : El α) (w W : World) (v : Value) (xs : List α) : Prop where
  o : E.Own W w.heap.size v xs
  lo : Below w.heap.size w W
section
variable {α : Type} {E : El α} {w W : World} {v : Value} {xs : List α}
theorem Acc.later (h : Acc E w W v xs) {W' : World} (b : Below W.heap.size W W') : Acc E w W' v xs := ⟨h.o.later b, Below.up h.lo b⟩
theorem Acc.sz (h : Acc E w W v xs) : w.heap.size ≤ W.heap.size := h.lo.size
theorem Acc.shape (h : Acc E w W v xs) : ∃ a c, v = .slice a xs.length c := row_block h.o
theorem Acc.nn (h : Acc E w W v xs) (hx : xs ≠ []) : ∃ g c, v = .slice (some ⟨g, 0, none⟩) xs.length c := by
  rcases h.o.2 with ⟨h1, h2⟩ | ⟨g, c, cur, h1, _⟩
  · exact absurd (List.eq_nil_of_length_eq_zero h2) hx
  · exact ⟨g, c, h1⟩
theorem Acc.app1 (h : Acc E w W v xs) (x : α) (cs : Array Value) (hcs : cs = (E.cs x).toArray) (hn : (xs.length + 1) * E.by_ ≤ 140737488355328) (hn2 : xs.length + 1 ≤ 140737488355328) :
    ∃ v' W', (Builtin.append_ #[E.st, E.st] E.st #[v, .slice (some ⟨W.heap.size, 0, none⟩) 1 1]).run Try.prog (W.alloc (.cells cs E.et)) = .ok v' W' ∧ Acc E w W' v' (xs ++ [x]) := by
  obtain ⟨v', W', h1, h2, h3, h4⟩ := El.app1 E W w.heap.size v xs x cs hcs h.o hn hn2 h.sz
  exact ⟨v', W', h1, h2, below_grown h.lo h.sz h3 (fun j hj => (own_lt h.o j hj).1)⟩
theorem Acc.app (h : Acc E w W v xs) {a : Option Addr} {m c : Nat} {ys : List α} (HB : E.Sl W a m c ys) (hn : (xs.length + m) * E.by_ ≤ 140737488355328) (hn2 : xs.length + m ≤ 140737488355328) :
    ∃ v' W', (Builtin.append_ #[E.st, E.st] E.st #[v, .slice a m c]).run Try.prog W = .ok v' W' ∧ Acc E w W' v' (xs ++ ys) := by
  obtain ⟨v', W', h1, h2, h3, h4⟩ := El.app E W w.heap.size v xs h.o a m c ys HB hn hn2 h.sz
  exact ⟨v', W', h1, h2, below_grown h.lo h.sz h3 (fun j hj => (own_lt h.o j hj).1)⟩
theorem Acc.nil (E : El α) (w : World) : Acc E w w (.slice none 0 0) [] := ⟨El.Own.nil E w _, Below.refl _ _⟩
theorem Acc.made (E : El α) (w : World) : Acc E w (w.alloc (.cells #[] E.et)) (.slice (some ⟨w.heap.size, 0, none⟩) 0 0) [] := ⟨El.Own.made E w, box_below _ _⟩
theorem Acc.from_ {W1 : World} (h : Acc E W1 W v xs) (b : Below w.heap.size w W1) : Acc E w W v xs :=
  ⟨own_base h.o (fun j hj => Nat.le_trans b.size (own_lt h.o j hj).1), Below.up b h.lo⟩
theorem Acc.keep {W' : World} (h : Acc E w W v xs) (b : Below w.heap.size w W') (hb : ∀ j, v.ownBlock = some j → W'.heap[j]? = W.heap[j]?) : Acc E w W' v xs := ⟨own_blocks h.o hb, b⟩
end
end Go.Proofs.Ytgjodfaliajlgaa.Ac

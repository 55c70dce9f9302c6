/- Rows of texts. -/
import Derived.Test.YtcjlgjlediihoaaDoorGr
namespace Go.Proofs.YtcjlgjlediihoaaDoor.Es
open Go.ChangeShapes Go.WideShapes Go.ChangeAt Go.RowKit
open Go.Proofs.YtcjlgjlediihoaaDoor.Gr
set_option linter.unusedVariables false
set_option linter.unusedSimpArgs false

def eStr : El ByteArray where
  st := 39
  et := 9
  k := 1
  by_ := 16
  cs := fun x => [.string x]
  z := ByteArray.empty
  zv := .string ByteArray.empty
  len := fun _ => rfl
  one := by intro x u h; simp at h; rcases h with rfl; rfl
  und := Tryd.underlying39
  info := by kernel_rfl
  zc := rfl
  pos := by decide
  ok := fun s => s.size ≤ 281474976710656
def eInt : El Int where
  st := 108
  et := 3
  k := 1
  by_ := 8
  cs := fun x => [.int .i64 x]
  z := 0
  zv := .int .i64 0
  len := fun _ => rfl
  one := by intro x u h; simp at h; rcases h with rfl; rfl
  und := Tryd.underlying108
  info := by kernel_rfl
  zc := rfl
  pos := by decide
  ok := fun _ => True
theorem clS : ∀ xs : List ByteArray, eStr.cl xs = xs.map Value.string
  | [] => rfl
  | x :: r => by show Value.string x :: eStr.cl r = _; rw [clS r]; rfl
theorem st_at {w : World} {b o : Nat} {x : ByteArray} (h : eStr.At w b o x) : w.cell? ⟨b, o, none⟩ = some (.string x) := h 0 _ rfl
theorem get1 {α : Type} {E : El α} {w : World} {a : Option Addr} {n c : Nat} {xs : List α} (H : E.Sl w a n c xs) (i : Nat) (hi : i < n) : ∃ b o, a = some ⟨b, o, none⟩ ∧ ∀ j, j < n → E.At w b (o + j * E.k) (xs.getD j E.z) := by
  cases a with
  | none => have := (H.nil rfl).1; omega
  | some ad =>
    obtain ⟨b, o, p⟩ := ad
    obtain ⟨rfl, hat⟩ := H.cells b o p rfl (by omega)
    exact ⟨b, o, rfl, hat⟩
theorem wpList_append_run {P : Program} {w w' : World} {ops : Array Oper} {rest : List Oper} {o : Oper} {a : Act} {Q : Exit → Act → World → Prop} (hg : o.guard = none) (s x : Operand) (t tx : TypeId) (hop : o.op = Op.call { callee := Callee.builtin Builtin.append, args := #[s, x], argTypes := #[t, tx] })
    (u v v' : Value) (hs : a.eval s = u) (hx : a.eval x = v) (hrun : (Builtin.append_ #[t, tx] o.type #[u, v]).run P w = .ok v' w') (hK : wpList P ops Q rest (a.put o.dst v') w') : wpList P ops Q (o :: rest) a w := by
  refine wpList_plain hg fun K' hK' => ?_
  unfold Oper.wp
  simp [execOp, hop, resolve, invoke, builtin, hs, hx, hrun, Result.andThen]
  exact hK' _ _ hK
theorem wp_append_run {P : Program} {w w' : World} {o : Oper} {a : Act} {K : Act → World → Prop} {Q : Exit → Act → World → Prop} (s x : Operand) (t tx : TypeId) (hop : o.op = Op.call { callee := Callee.builtin Builtin.append, args := #[s, x], argTypes := #[t, tx] })
    (u v v' : Value) (hs : a.eval s = u) (hx : a.eval x = v) (hrun : (Builtin.append_ #[t, tx] o.type #[u, v]).run P w = .ok v' w') (hK : K (a.put o.dst v') w') : o.wp P a w K Q := by
  unfold Oper.wp
  simp [execOp, hop, resolve, invoke, builtin, hs, hx, hrun, Result.andThen]
  exact hK
theorem below_grown {w W W' : World} {n : Nat} {row : Option Nat} (h : Below n w W) (hn : n ≤ W.heap.size) (g : W.grownBy W' row) (hr : ∀ j, row = some j → n ≤ j) : Below n w W' :=
  ⟨g.os.trans h.os, g.tape.trans h.tape, g.output.trans h.output, Nat.le_trans h.size g.size, fun j hj => (g.block j (by omega) (fun e => by have := hr j e.symm; omega)).trans (h.block j hj)⟩
/-- A row that a call has made. -/
structure Acc {α : Type} (E : El α) (w W : World) (v : Value) (xs : List α) : Prop where
  o : E.Own W w.heap.size v xs
  lo : Below w.heap.size w W
section
variable {α : Type} {E : El α} {w W : World} {v : Value} {xs : List α}
theorem Acc.later (h : Acc E w W v xs) {W' : World} (b : Below W.heap.size W W') : Acc E w W' v xs := ⟨h.o.later b, Below.up h.lo b⟩
theorem Acc.shape (h : Acc E w W v xs) : ∃ a c, v = .slice a xs.length c := row_block h.o
theorem Acc.app1 (h : Acc E w W v xs) (x : α) (cs : Array Value) (hcs : cs = (E.cs x).toArray) (hn : (xs.length + 1) * E.by_ ≤ 140737488355328) (hn2 : xs.length + 1 ≤ 140737488355328) :
    ∃ v' W', (Builtin.append_ #[E.st, E.st] E.st #[v, .slice (some ⟨W.heap.size, 0, none⟩) 1 1]).run Tryd.prog (W.alloc (.cells cs E.et)) = .ok v' W' ∧ Acc E w W' v' (xs ++ [x]) := by
  obtain ⟨v', W', r, o, g, q⟩ := El.app1 E W w.heap.size v xs x cs hcs h.o hn hn2 h.lo.size
  exact ⟨v', W', r, o, below_grown h.lo h.lo.size g (fun j hj => (own_lt h.o j hj).1)⟩
theorem Acc.app (h : Acc E w W v xs) {a : Option Addr} {m c : Nat} {ys : List α} (HB : E.Sl W a m c ys) (hn : (xs.length + m) * E.by_ ≤ 140737488355328) (hn2 : xs.length + m ≤ 140737488355328) :
    ∃ v' W', (Builtin.append_ #[E.st, E.st] E.st #[v, .slice a m c]).run Tryd.prog W = .ok v' W' ∧ Acc E w W' v' (xs ++ ys) := by
  obtain ⟨v', W', r, o, g, q⟩ := El.app E W w.heap.size v xs h.o a m c ys HB hn hn2 h.lo.size
  exact ⟨v', W', r, o, below_grown h.lo h.lo.size g (fun j hj => (own_lt h.o j hj).1)⟩
theorem Acc.nil (E : El α) (w : World) : Acc E w w (.slice none 0 0) [] := ⟨El.Own.nil E w _, Below.refl _ _⟩
theorem Acc.made (E : El α) (w : World) : Acc E w (w.alloc (.cells #[] E.et)) (.slice (some ⟨w.heap.size, 0, none⟩) 0 0) [] := ⟨El.Own.made E w, box_below _ _⟩
theorem Acc.sl {a : Option Addr} {n c : Nat} (h : Acc E w W (.slice a n c) xs) (hok : ∀ x ∈ xs, E.ok x) : n = xs.length ∧ E.Sl W a n c xs := by
  obtain ⟨a', c', e, s, _⟩ := h.o.sl hok
  cases e
  exact ⟨rfl, s⟩
end
end Go.Proofs.YtcjlgjlediihoaaDoor.Es

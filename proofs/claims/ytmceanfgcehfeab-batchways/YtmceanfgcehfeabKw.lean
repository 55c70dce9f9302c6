/- What the walks of ranges over each lean on: blocks, what stays but one block, the items by their places. -/
import Derived.Test.YtmceanfgcehfeabIw
import Derived.Test.YtmceanfgcehfeabQi
import Derived.Laws.StructEq
import Derived.BigFrameIn
namespace Go.Proofs.Ytmceanfgcehfeab.Kw
open Go.ChangeShapes Go.WideShapes Go.ChangeAt Go.RowKit Go.Shelf
open Go.Proofs.Ytmceanfgcehfeab.By
open Go.Proofs.Ytmceanfgcehfeab.Ob
open Go.Proofs.Ytmceanfgcehfeab.Hd
open Go.Proofs.Ytmceanfgcehfeab.Rp
open Go.Proofs.Ytmceanfgcehfeab.It
open Go.Proofs.Ytmceanfgcehfeab.Iv
set_option linter.unusedVariables false
set_option linter.unusedSimpArgs false

theorem blk_lt {w : World} {g : Nat} {o : Obj} (h : w.heap[g]? = some o) : g < w.heap.size := (Array.getElem?_eq_some_iff.1 h).1
theorem new_at (w : World) (o : Obj) : (w.alloc o).heap[w.heap.size]? = some o := by show (w.heap.push o)[w.heap.size]? = _; simp
theorem new_box {W : World} {n : Nat} (h : n = W.heap.size) (t : TypeId) (v : Value) : Boxed (W.alloc (.cells #[v] t)) n t v := by rw [h]; exact Boxed.new W t v
theorem cell_of {w : World} {g : Nat} {c : Array Value} {t : TypeId} (h : w.heap[g]? = some (.cells c t)) (i : Nat) (v : Value) (hi : c[i]? = some v) : w.cell? ⟨g, i, none⟩ = some v := by
  unfold World.cell?; rw [h]; exact hi
theorem fz_of {w : World} {g : Nat} {c : Array Value} {t : TypeId} (h : w.heap[g]? = some (.cells c t)) (i : Nat) : w.frozen? ⟨g, i, none⟩ = false := by
  simp [World.frozen?, h]
theorem set_of {w : World} {g : Nat} {c : Array Value} {t : TypeId} (h : w.heap[g]? = some (.cells c t)) (i : Nat) (v : Value) : (w.setCell ⟨g, i, none⟩ v).heap[g]? = some (.cells (c.setIfInBounds i v) t) := by
  simp [World.setCell, Array.getElem?_modify, h]
theorem set_ne (w : World) (g k i : Nat) (v : Value) (h : k ≠ g) : (w.setCell ⟨g, i, none⟩ v).heap[k]? = w.heap[k]? := Below.heap_setCell w _ _ k (by simpa using h)
theorem grown_of {w w' : World} {row : Option Nat} (b : Below w.heap.size w w') : w.grownBy w' row := ⟨b.os, b.tape, b.output, b.size, fun k hk _ => b.block k hk⟩
theorem belowK_b' {n₀ : Nat} {w : World} (hn : n₀ ≤ w.heap.size) (W : World) (l : Nat) (o o' : Obj) (hl : w.heap.size ≤ l) (h : W.heap[l]? = some o) : Below n₀ W (W.putObj l o') :=
  (Below.refl n₀ W).grown (grownBy_putObj' W l o') (by have := (Array.getElem?_eq_some_iff.1 h).1; omega) (fun k e => by cases e; omega)
theorem belowN {B : Nat} {a w : World} (h : Below B a w) (n : Nat) : Below B a (w.drewN n) := ⟨h.os, h.tape, h.output, h.size, h.block⟩
/-- Nothing below a size has turned but one block. -/
structure Keep (M g : Nat) (A B : World) : Prop where
  os : B.os = A.os
  tape : B.tape = A.tape
  output : B.output = A.output
  size : A.heap.size ≤ B.heap.size
  block : ∀ q, q < M → q ≠ g → B.heap[q]? = A.heap[q]?
theorem Keep.refl (M g : Nat) (A : World) : Keep M g A A := ⟨rfl, rfl, rfl, Nat.le_refl _, fun _ _ _ => rfl⟩
theorem Keep.trans {M g : Nat} {A B C : World} (h : Keep M g A B) (k : Keep M g B C) : Keep M g A C := ⟨k.os.trans h.os, k.tape.trans h.tape, k.output.trans h.output, Nat.le_trans h.size k.size, fun q h1 h2 => (k.block q h1 h2).trans (h.block q h1 h2)⟩
theorem Keep.below {M g : Nat} {A B : World} (h : Below M A B) : Keep M g A B := ⟨h.os, h.tape, h.output, h.size, fun q h1 _ => h.block q h1⟩
theorem Keep.grown {M g : Nat} {A B C : World} {row : Option Nat} (h : Keep M g A B) (k : B.grownBy C row) (hs : M ≤ B.heap.size) (hr : ∀ q, row = some q → M ≤ q ∨ q = g) : Keep M g A C :=
  ⟨k.os.trans h.os, k.tape.trans h.tape, k.output.trans h.output, Nat.le_trans h.size k.size, fun q h1 h2 => (k.block q (by omega) (fun e => by rcases hr q e.symm with h | h <;> omega)).trans (h.block q h1 h2)⟩
theorem num_get (s : Int) : ∀ (xs : List O) (k : Nat), k < xs.length → (num s xs)[k]? = some (IntKind.u64.wrap (s + k), xs.getD k zo)
  | [], k, h => by simp at h
  | x :: r, 0, h => by simp [num]
  | x :: r, k + 1, h => by
    have := num_get (s + 1) r k (by simpa using h)
    simp only [num, List.getElem?_cons_succ]
    rw [this, show s + 1 + (k : Int) = s + ((k + 1 : Nat) : Int) from by omega]
    simp [List.getD_eq_getElem?_getD]
/-- What the items are, and what the document has found. -/
theorem pre_item {S : Int} {xs : List O} {pre : List (Int × O)} {x : Int × O} (h : pre ++ [x] <+: num S xs) : pre.length < xs.length ∧ x = (IntKind.u64.wrap (S + pre.length), xs.getD pre.length zo) := by
  have hl := h.length_le
  rw [num_len, List.length_append] at hl
  simp at hl
  refine ⟨by omega, ?_⟩
  have h1 := num_get S xs pre.length (by omega)
  obtain ⟨t, ht⟩ := h
  rw [← ht] at h1
  simp at h1
  exact h1
theorem cell_same {w w' : World} {b : Nat} (e : w'.heap[b]? = w.heap[b]?) (o : Nat) : w'.cell? ⟨b, o, none⟩ = w.cell? ⟨b, o, none⟩ := by
  unfold World.cell?; rw [e]
theorem ops_other {w w' : World} {a : Option Addr} {len cap : Nat} {xs : List O} (h : Ops w a len cap xs) (e : ∀ b o p, a = some ⟨b, o, p⟩ → 0 < len → w'.heap[b]? = w.heap[b]?) : Ops w' a len cap xs :=
  ⟨h.1, h.2.1, h.2.2.1, h.2.2.2.1, fun b o p hp hl => ⟨(h.2.2.2.2 b o p hp hl).1, fun i hi => by
    obtain ⟨c0, c1, c2⟩ := (h.2.2.2.2 b o p hp hl).2 i hi
    have q := e b o p hp hl
    exact ⟨(cell_same q _).trans c0, (cell_same q _).trans c1, (cell_same q _).trans c2⟩⟩⟩
theorem bytes_other {w w' : World} {a : Option Addr} {len cap : Nat} {zs : List Int} (h : Bytes w a len cap zs) (e : ∀ x, a = some x → 0 < len → w'.heap[x.block]? = w.heap[x.block]?) : Bytes w' a len cap zs :=
  ⟨h.1, h.2.1, h.2.2.1, h.2.2.2.1, fun x hx j hj => by
    have := h.2.2.2.2 x hx j hj
    rw [← this]
    unfold World.cell?
    rw [show (x.add j).block = x.block from by unfold Addr.add; split <;> rfl, e x hx (by omega)]⟩
theorem Keep.low {M g : Nat} {A B : World} (h : Keep M g A B) (n : Nat) (hn : n ≤ M) (hg : n ≤ g) : Below n A B := ⟨h.os, h.tape, h.output, h.size, fun q hq => h.block q (by omega) (by omega)⟩
theorem heap_drewN (w : World) (n k : Nat) : (w.drewN n).heap[k]? = w.heap[k]? := rfl
theorem keeps_drew (w : World) (n : Nat) : KeepsOthers w (w.drewN n) := ⟨Nat.le_refl _, fun _ _ h _ => h⟩
end Go.Proofs.Ytmceanfgcehfeab.Kw

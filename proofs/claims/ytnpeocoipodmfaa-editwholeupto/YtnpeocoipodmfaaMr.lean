/- What the memory of the document's Merge holds. -/
import Derived.Test.YtnpeocoipodmfaaMh
import Derived.Test.YtnpeocoipodmfaaAm
namespace Go.Proofs.Ytnpeocoipodmfaa.Mr
open Go.ChangeShapes Go.WideShapes Go.ChangeAt Go.RowKit
open Go.Proofs.Ytnpeocoipodmfaa.Gr
open Go.Proofs.Ytnpeocoipodmfaa.Ev
open Go.Proofs.Ytnpeocoipodmfaa.Ss
open Go.Proofs.Ytnpeocoipodmfaa.Le
open Go.Proofs.Ytnpeocoipodmfaa.Mg
set_option linter.unusedVariables false
set_option linter.unusedSimpArgs false

theorem wp_append_run {P : Program} {w w' : World} {o : Oper} {a : Act} {K : Act → World → Prop} {Q : Exit → Act → World → Prop} (s x : Operand) (t tx : TypeId) (hop : o.op = Op.call { callee := Callee.builtin Builtin.append, args := #[s, x], argTypes := #[t, tx] })
    (u v v' : Value) (hs : a.eval s = u) (hx : a.eval x = v) (hrun : (Builtin.append_ #[t, tx] o.type #[u, v]).run P w = .ok v' w') (hK : K (a.put o.dst v') w') : o.wp P a w K Q := by
  unfold Oper.wp
  simp [execOp, hop, resolve, invoke, builtin, hs, hx, hrun, Result.andThen]
  exact hK
structure Mr (w : World) (ga gb gr go base : Nat) (A B R : Array Value) (o0 o1 o2 : Value) (W : World) (v4 v5 : Value) (xs : List Pl) (ys : List Ad) : Prop where
  a : W.heap[ga]? = some (.cells A 26)
  b : W.heap[gb]? = some (.cells B 26)
  r : W.heap[gr]? = some (.cells R 26)
  o : W.heap[go]? = some (.cells #[o0, o1, o2, v4, v5] 26)
  x : ePl.Own W base v4 xs
  y : eAd.Own W base v5 ys
  lo : Below w.heap.size w W
  d : w.heap.size ≤ ga ∧ ga < gb ∧ gb < gr ∧ gr < go ∧ go < base ∧ base ≤ W.heap.size
section
variable {w : World} {ga gb gr go base : Nat} {A B R : Array Value} {o0 o1 o2 : Value} {W : World} {v4 v5 : Value} {xs : List Pl} {ys : List Ad}
theorem Mr.later (h : Mr w ga gb gr go base A B R o0 o1 o2 W v4 v5 xs ys) {W' : World} (b : Below W.heap.size W W') : Mr w ga gb gr go base A B R o0 o1 o2 W' v4 v5 xs ys :=
  ⟨below_blk h.a b, below_blk h.b b, below_blk h.r b, below_blk h.o b, h.x.later b, h.y.later b, Below.up h.lo b, by have := h.d; have := b.size; omega⟩
theorem set_grown (W : World) (g i : Nat) (v : Value) : W.grownBy (W.setCell ⟨g, i, none⟩ v) (some g) := ⟨rfl, rfl, rfl, by simp, fun k _ hk => set_ne _ _ _ _ _ (fun e => hk (by rw [e]))⟩
/-- A cell of the new one is set. -/
theorem Mr.setc (h : Mr w ga gb gr go base A B R o0 o1 o2 W v4 v5 xs ys) (i : Nat) (v p0 p1 p2 : Value) (hc : (#[o0, o1, o2, v4, v5].setIfInBounds i v) = #[p0, p1, p2, v4, v5]) : Mr w ga gb gr go base A B R p0 p1 p2 (W.setCell ⟨go, i, none⟩ v) v4 v5 xs ys := by
  have d := h.d
  have G := set_grown W go i v
  exact ⟨grown_blk h.a G (by rintro j e; cases e; omega), grown_blk h.b G (by rintro j e; cases e; omega), grown_blk h.r G (by rintro j e; cases e; omega), (set_of h.o i v).trans (by rw [hc]), own_grown h.x G (by rintro j e k; cases e; have := (own_lt h.x _ k).1; omega), own_grown h.y G (by rintro j e k; cases e; have := (own_lt h.y _ k).1; omega), below_grown h.lo G (by rintro j e; cases e; omega), by simp; omega⟩
theorem Mr.app4 (h : Mr w ga gb gr go base A B R o0 o1 o2 W v4 v5 xs ys) (v' : Value) (W' : World) (xs' : List Pl) (ho : ePl.Own W' base v' xs') (hg : W.grownBy W' v4.ownBlock) :
    Mr w ga gb gr go base A B R o0 o1 o2 (W'.setCell ⟨go, 3, none⟩ v') v' v5 xs' ys ∧ W'.heap[go]? = some (.cells #[o0, o1, o2, v4, v5] 26) := by
  have d := h.d
  have hne : ∀ j, v4.ownBlock = some j → base ≤ j := fun j hj => (own_lt h.x j hj).1
  have ko := grown_blk h.o hg (by intro j hj e; have := hne j hj; omega)
  have G := set_grown W' go 3 v'
  have hy := own_grown h.y hg (by intro j hj k; exact apart_rows h.x h.y (by decide) j hj k)
  refine ⟨⟨?_, ?_, ?_, (set_of ko 3 v').trans rfl, ?_, ?_, ?_, ?_⟩, ko⟩
  · exact grown_blk (grown_blk h.a hg (by intro j hj e; have := hne j hj; omega)) G (by rintro j e; cases e; omega)
  · exact grown_blk (grown_blk h.b hg (by intro j hj e; have := hne j hj; omega)) G (by rintro j e; cases e; omega)
  · exact grown_blk (grown_blk h.r hg (by intro j hj e; have := hne j hj; omega)) G (by rintro j e; cases e; omega)
  · exact own_grown ho G (by rintro j e k; cases e; have := (own_lt ho _ k).1; omega)
  · exact own_grown hy G (by rintro j e k; cases e; have := (own_lt hy _ k).1; omega)
  · exact below_grown (below_grown h.lo hg (by intro j hj; have := hne j hj; omega)) G (by rintro j e; cases e; omega)
  · have := hg.size; simp; omega
theorem Mr.app5 (h : Mr w ga gb gr go base A B R o0 o1 o2 W v4 v5 xs ys) (v' : Value) (W' : World) (ys' : List Ad) (ho : eAd.Own W' base v' ys') (hg : W.grownBy W' v5.ownBlock) :
    Mr w ga gb gr go base A B R o0 o1 o2 (W'.setCell ⟨go, 4, none⟩ v') v4 v' xs ys' ∧ W'.heap[go]? = some (.cells #[o0, o1, o2, v4, v5] 26) := by
  have d := h.d
  have hne : ∀ j, v5.ownBlock = some j → base ≤ j := fun j hj => (own_lt h.y j hj).1
  have ko := grown_blk h.o hg (by intro j hj e; have := hne j hj; omega)
  have G := set_grown W' go 4 v'
  have hx := own_grown h.x hg (by intro j hj k; exact apart_rows h.y h.x (by decide) j hj k)
  refine ⟨⟨?_, ?_, ?_, (set_of ko 4 v').trans rfl, ?_, ?_, ?_, ?_⟩, ko⟩
  · exact grown_blk (grown_blk h.a hg (by intro j hj e; have := hne j hj; omega)) G (by rintro j e; cases e; omega)
  · exact grown_blk (grown_blk h.b hg (by intro j hj e; have := hne j hj; omega)) G (by rintro j e; cases e; omega)
  · exact grown_blk (grown_blk h.r hg (by intro j hj e; have := hne j hj; omega)) G (by rintro j e; cases e; omega)
  · exact own_grown hx G (by rintro j e k; cases e; have := (own_lt hx _ k).1; omega)
  · exact own_grown ho G (by rintro j e k; cases e; have := (own_lt ho _ k).1; omega)
  · exact below_grown (below_grown h.lo hg (by intro j hj; have := hne j hj; omega)) G (by rintro j e; cases e; omega)
  · have := hg.size; simp; omega
end
end Go.Proofs.Ytnpeocoipodmfaa.Mr

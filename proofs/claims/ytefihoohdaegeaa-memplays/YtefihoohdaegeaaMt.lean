/- Blocks, boxes and rows: what the walks lean on. -/
import Derived.Test.YtefihoohdaegeaaVi
import Derived.Maps.AppendAt
import Derived.OwnWalk
import Derived.Laws.AppendOwnNone
namespace Go.Proofs.Ytefihoohdaegeaa.Mt
open Go.ChangeShapes Go.WideShapes Go.ChangeAt Go.RowKit Go.Shelf
open Go.Proofs.Ytefihoohdaegeaa.Lx
open Go.Proofs.Ytefihoohdaegeaa.Tm
open Go.Proofs.Ytefihoohdaegeaa.Vi
set_option linter.unusedVariables false
set_option linter.unusedSimpArgs false

theorem blk_lt {w : World} {g : Nat} {o : Obj} (h : w.heap[g]? = some o) : g < w.heap.size := (Array.getElem?_eq_some_iff.1 h).1
theorem new_at (w : World) (o : Obj) : (w.alloc o).heap[w.heap.size]? = some o := by show (w.heap.push o)[w.heap.size]? = _; simp
theorem size_alloc (w : World) (o : Obj) : (w.alloc o).heap.size = w.heap.size + 1 := by show (w.heap.push o).size = _; simp
theorem cell_of {w : World} {g : Nat} {c : Array Value} {t : TypeId} (h : w.heap[g]? = some (.cells c t)) (i : Nat) (v : Value) (hi : c[i]? = some v) : w.cell? ⟨g, i, none⟩ = some v := by
  unfold World.cell?; rw [h]; exact hi
theorem fz_of {w : World} {g : Nat} {c : Array Value} {t : TypeId} (h : w.heap[g]? = some (.cells c t)) (i : Nat) : w.frozen? ⟨g, i, none⟩ = false := by
  simp [World.frozen?, h]
theorem set_of {w : World} {g : Nat} {c : Array Value} {t : TypeId} (h : w.heap[g]? = some (.cells c t)) (i : Nat) (v : Value) : (w.setCell ⟨g, i, none⟩ v).heap[g]? = some (.cells (c.setIfInBounds i v) t) := by
  simp [World.setCell, Array.getElem?_modify, h]
theorem set_ne (w : World) (g k i : Nat) (v : Value) (h : k ≠ g) : (w.setCell ⟨g, i, none⟩ v).heap[k]? = w.heap[k]? := Below.heap_setCell w _ _ k (by simpa using h)
theorem grown_of {w w' : World} {row : Option Nat} (b : Below w.heap.size w w') : w.grownBy w' row := ⟨b.os, b.tape, b.output, b.size, fun k hk _ => b.block k hk⟩
theorem row_shape {w : World} {base e size : Nat} {v : Value} {n : Nat} {xs : List Value} (h : w.ownsRow base e size v n xs) : ∃ a c, v = .slice a n c ∧ (a = none ∨ ∃ g, a = some ⟨g, 0, none⟩) := by
  rcases h.2 with ⟨e, h0⟩ | ⟨g, c, cur, e, _⟩
  · rw [h0]; exact ⟨none, 0, e, .inl rfl⟩
  · exact ⟨_, c, e, .inr ⟨g, rfl⟩⟩
theorem row_later {w w' : World} {base e size : Nat} {v : Value} {n : Nat} {xs : List Value} (h : w.ownsRow base e size v n xs) (b : Below w.heap.size w w') : w'.ownsRow base e size v n xs := by
  by_cases hv : v.ownBlock = none
  · exact World.ownsRow.kept (row := none) h (grown_of b) (.inl hv)
  · exact World.ownsRow.kept (row := none) h (grown_of b) (.inr hv)
theorem row_blk {w : World} {base e size : Nat} {v : Value} {n : Nat} {xs : List Value} (h : w.ownsRow base e size v n xs) : ∀ g, v.ownBlock = some g → ∃ c f, w.heap[g]? = some (.cells c e f) := by
  intro g hg
  rcases h.2 with ⟨e, _⟩ | ⟨g', cap, cur, e, _, hgg, _⟩
  · rw [e] at hg
    simp [Value.ownBlock] at hg
  · rw [e] at hg
    simp [Value.ownBlock] at hg
    subst hg
    exact ⟨_, _, hgg⟩
theorem row_kept {w w' : World} {base e size : Nat} {v : Value} {n : Nat} {xs : List Value} {row : Option Nat} (h : w.ownsRow base e size v n xs) (g : w.grownBy w' row) (hne : ∀ k, row = some k → ∃ c t f, w.heap[k]? = some (.cells c t f) ∧ t ≠ e) : w'.ownsRow base e size v n xs := by
  by_cases hv : v.ownBlock = none
  · exact World.ownsRow.kept h g (.inl hv)
  · refine World.ownsRow.kept h g (.inr ?_)
    intro hr
    cases hb : v.ownBlock with
    | none => exact hv hb
    | some k =>
      obtain ⟨c, t, f, h1, h2⟩ := hne k (by rw [← hr, hb])
      obtain ⟨c', f', h3⟩ := row_blk h k hb
      rw [h3] at h1
      simp at h1
      exact h2 h1.2.1.symm
theorem row_grown {w w' : World} {base e size : Nat} {v : Value} {n : Nat} {xs : List Value} {row : Option Nat} (h : w.ownsRow base e size v n xs) (g : w.grownBy w' row) (hne : ∀ k, row = some k → ∀ c f, w.heap[k]? ≠ some (.cells c e f)) : w'.ownsRow base e size v n xs := by
  by_cases hv : v.ownBlock = none
  · exact World.ownsRow.kept h g (.inl hv)
  · refine World.ownsRow.kept h g (.inr ?_)
    intro hr
    cases hb : v.ownBlock with
    | none => exact hv hb
    | some k =>
      obtain ⟨c', f', h3⟩ := row_blk h k hb
      exact hne k (by rw [← hr, hb]) _ _ h3
theorem keeps_grown {W W' : World} {row : Option Nat} (K : W.grownBy W' row) (hr : ∀ k, row = some k → ∃ c t f, W.heap[k]? = some (.cells c t f)) : KeepsOthers W W' :=
  ⟨K.size, fun k o hk ho => (K.block k (blk_lt hk) (fun e => by
    obtain ⟨c, t, f, h⟩ := hr k e.symm
    rw [hk] at h; cases h; cases ho)).trans hk⟩
theorem keeps_set {W : World} {q i : Nat} {u : Value} {c : Array Value} {t : TypeId} (h : W.heap[q]? = some (.cells c t)) : KeepsOthers W (W.setCell ⟨q, i, none⟩ u) :=
  ⟨by simp, fun k o hk ho => (set_ne W q k i u (by rintro rfl; rw [hk] at h; cases h; cases ho)).trans hk⟩
theorem wpListIn_append_run {F : Fence} {n : Nat} {P : Program} {w w' : World} {ops : Array Oper} {rest : List Oper} {o : Oper} {a : Act} {Q : Exit → Act → World → Prop} (hg : o.guard = none) (s x : Operand) (t tx : TypeId) (hop : o.op = Op.call { callee := Callee.builtin Builtin.append, args := #[s, x], argTypes := #[t, tx] })
    (u v v' : Value) (hs : a.eval s = u) (hx : a.eval x = v) (hrun : (Builtin.append_ #[t, tx] o.type #[u, v]).run P w = .ok v' w') (hK : wpListIn F n P ops Q rest (a.put o.dst v') w') : wpListIn F n P ops Q (o :: rest) a w := by
  refine wpListIn_plain hg fun K hK' => ?_
  unfold Oper.wpIn
  refine ⟨?_, ?_⟩
  · simp [Oper.about, hop, resolve, Target.leads, Sem.run_pure]
  · rw [Oper.semAt_plain F _ _ (by rw [hop]; intro c hc'; cases hc')]
    simp [execOp, hop, resolve, invoke, builtin, hs, hx, hrun, Result.andThen]
    exact hK' _ _ hK
theorem own_base {w : World} {base base' e size : Nat} {v : Value} {n : Nat} {xs : List Value} (h : w.ownsRow base e size v n xs) (hb : base' ≤ base) : w.ownsRow base' e size v n xs := by
  refine ⟨h.1, ?_⟩
  rcases h.2 with h | ⟨g, c, cur, h1, h2, h3⟩
  · exact .inl h
  · exact .inr ⟨g, c, cur, h1, Nat.le_trans hb h2, h3⟩
theorem belowK_b' {n₀ : Nat} {w : World} (hn : n₀ ≤ w.heap.size) (W : World) (l : Nat) (o o' : Obj) (hl : w.heap.size ≤ l) (h : W.heap[l]? = some o) : Below n₀ W (W.putObj l o') :=
  (Below.refl n₀ W).grown (grownBy_putObj' W l o') (by have := (Array.getElem?_eq_some_iff.1 h).1; omega) (fun k e => by cases e; omega)
theorem new_box {W : World} {n : Nat} (h : n = W.heap.size) (t : TypeId) (v : Value) : Boxed (W.alloc (.cells #[v] t)) n t v := by rw [h]; exact Boxed.new W t v
/-- A block that holds a tomb. -/
def Bt (w : World) (g : Nat) (x : T) : Prop := w.heap[g]? = some (.cells #[.string x.b, .string x.e, .int .u64 x.s] 111)
theorem Bt.c0 {w : World} {g : Nat} {x : T} (h : Bt w g x) : w.cell? ⟨g, 0, none⟩ = some (.string x.b) := cell_of h 0 _ rfl
theorem Bt.c1 {w : World} {g : Nat} {x : T} (h : Bt w g x) : w.cell? ⟨g, 1, none⟩ = some (.string x.e) := cell_of h 1 _ rfl
theorem Bt.c2 {w : World} {g : Nat} {x : T} (h : Bt w g x) : w.cell? ⟨g, 2, none⟩ = some (.int .u64 x.s) := cell_of h 2 _ rfl
theorem Bt.later {w w' : World} {g : Nat} {x : T} (h : Bt w g x) (b : Below w.heap.size w w') : Bt w' g x := (b.block g (blk_lt h)).trans h
theorem Bt.kept {w w' : World} {g : Nat} {x : T} {row : Option Nat} (h : Bt w g x) (k : w.grownBy w' row) (hne : some g ≠ row) : Bt w' g x := (k.block g (blk_lt h) hne).trans h
end Go.Proofs.Ytefihoohdaegeaa.Mt

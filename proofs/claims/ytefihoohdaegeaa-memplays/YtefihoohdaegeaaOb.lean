/- Rows of numbers of the call's own: what is put behind them, written over, held against one another; Links and Trail. -/
import Derived.Test.YtefihoohdaegeaaIn
namespace Go.Proofs.Ytefihoohdaegeaa.Ob
open Go.ChangeShapes Go.WideShapes Go.ChangeAt Go.RowKit
open Go.Sort (grow)
open Go.Proofs.Ytefihoohdaegeaa.Ik
open Go.Proofs.Ytefihoohdaegeaa.Sg
open Go.Proofs.Ytefihoohdaegeaa.Cm (ik)
open Go.Proofs.Ytefihoohdaegeaa.Vl
open Go.Proofs.Ytefihoohdaegeaa.Mm
open Go.Proofs.Ytefihoohdaegeaa.Tr
open Go.Proofs.Ytefihoohdaegeaa.Li
open Go.Proofs.Ytefihoohdaegeaa.In
set_option linter.unusedVariables false
set_option linter.unusedSimpArgs false

theorem grown_of {w w' : World} {row : Option Nat} (b : Below w.heap.size w w') : w.grownBy w' row := ⟨b.os, b.tape, b.output, b.size, fun k hk _ => b.block k hk⟩
theorem row_shape {w : World} {base e size : Nat} {v : Value} {n : Nat} {xs : List Value} (h : w.ownsRow base e size v n xs) : ∃ a c, v = .slice a n c ∧ (a = none ∨ ∃ g, a = some ⟨g, 0, none⟩) := by
  rcases h.2 with ⟨e, h0⟩ | ⟨g, c, cur, e, _⟩
  · rw [h0]; exact ⟨none, 0, e, .inl rfl⟩
  · exact ⟨_, c, e, .inr ⟨g, rfl⟩⟩
theorem row_later {w w' : World} {base e size : Nat} {v : Value} {n : Nat} {xs : List Value} (h : w.ownsRow base e size v n xs) (b : Below w.heap.size w w') : w'.ownsRow base e size v n xs := by
  by_cases hv : v.ownBlock = none
  · exact World.ownsRow.kept (row := none) h (grown_of b) (.inl hv)
  · exact World.ownsRow.kept (row := none) h (grown_of b) (.inr hv)
/-- Rows of unlike kinds lie in unlike blocks. -/
theorem row_blk {w : World} {base e size : Nat} {v : Value} {n : Nat} {xs : List Value} (h : w.ownsRow base e size v n xs) : ∀ g, v.ownBlock = some g → ∃ c f, w.heap[g]? = some (.cells c e f) := by
  intro g hg
  rcases h.2 with ⟨e, _⟩ | ⟨g', cap, cur, e, _, hgg, _⟩
  · rw [e] at hg
    simp [Value.ownBlock] at hg
  · rw [e] at hg
    simp [Value.ownBlock] at hg
    subst hg
    exact ⟨_, _, hgg⟩
theorem row_kept {w w' : World} {base e size : Nat} {v : Value} {n : Nat} {xs : List Value} {row : Option Nat} (h : w.ownsRow base e size v n xs) (g : w.grownBy w' row) (hne : ∀ k, row = some k → ∃ c t f, w.heap[k]? = some (.cells c t f) ∧ t ≠ e) : w'.ownsRow base e size v n xs := by
  by_cases hv : v.ownBlock = none
  · exact World.ownsRow.kept h g (.inl hv)
  · refine World.ownsRow.kept h g (.inr ?_)
    intro hr
    cases hb : v.ownBlock with
    | none => exact hv hb
    | some k =>
      obtain ⟨c, t, f, h1, h2⟩ := hne k (by rw [← hr, hb])
      obtain ⟨c', f', h3⟩ := row_blk h k hb
      rw [h3] at h1
      simp at h1
      exact h2 h1.2.1.symm
theorem row_other {w : World} {base e size : Nat} {v : Value} {n : Nat} {xs : List Value} (h : w.ownsRow base e size v n xs) (e2 : Nat) (hne : e ≠ e2) : ∀ k, v.ownBlock = some k → ∃ c t f, w.heap[k]? = some (.cells c t f) ∧ t ≠ e2 := by
  intro k hk
  obtain ⟨c, f, h1⟩ := row_blk h k hk
  exact ⟨c, e, f, h1, hne⟩
theorem cell_new1 (w : World) (v : Value) (t : TypeId) : (w.alloc (.cells #[v] t)).cell? ⟨w.heap.size, 0, none⟩ = some v := by
  unfold World.cell?
  rw [new_at]
  rfl

theorem wpList_append_run {P : Program} {w w' : World} {ops : Array Oper} {rest : List Oper} {o : Oper} {a : Act} {Q : Exit → Act → World → Prop} (hg : o.guard = none) (s x : Operand) (t tx : TypeId) (hop : o.op = Op.call { callee := Callee.builtin Builtin.append, args := #[s, x], argTypes := #[t, tx] })
    (u v v' : Value) (hs : a.eval s = u) (hx : a.eval x = v) (hrun : (Builtin.append_ #[t, tx] o.type #[u, v]).run P w = .ok v' w') (hK : wpList P ops Q rest (a.put o.dst v') w') : wpList P ops Q (o :: rest) a w := by
  refine wpList_plain hg fun K' hK' => ?_
  unfold Oper.wp
  simp [execOp, hop, resolve, invoke, builtin, hs, hx, hrun, Result.andThen]
  exact hK' _ _ hK
end Go.Proofs.Ytefihoohdaegeaa.Ob

/- A turn that came in, opened. -/
import Derived.Test.YtgkoopciajjonabDoorOq
import Derived.Lib.SmallJoins
namespace Go.Proofs.YtgkoopciajjonabDoor.Ot
open Go.ChangeShapes Go.WideShapes Go.ChangeAt Go.RowKit Go.Joins
set_option linter.unusedVariables false

theorem cellsT : Tryd.prog.cellsOf 24 = 2 := by kernel_rfl
theorem open_turn {H : Type} {enc : TypeId × Value → H} {W : World} {base : Nat} {v : Value} {d : DataW H} {p : List MemPlace} (hv : Value.okWide Tryd.prog W .any base 24 v) (h : DataW.Trod enc Tryd.prog W 0 (fun _ => true) true 24 v d p) :
    ∃ pl by', v = .agg #[.int .i64 pl, .int .u8 by'] ∧ ((Lit.int .i64 pl).wf = true ∧ (Lit.int .u8 by').wf = true) := by
  obtain ⟨c0, c1, y0, y1, m, rfl, hd0, _, hy0, hy1⟩ := open_agg2 Tryd.underlying24 (by kernel_rfl) cellsT hv h
  obtain ⟨x, e0, _, w0⟩ := DataW.trod_int Tryd.underlying3 hy0
  obtain ⟨y, e1, _, w1⟩ := DataW.trod_int Tryd.underlying5 hy1
  simp only [List.cons.injEq, and_true] at e0 e1
  subst e0 e1
  exact ⟨x, y, rfl, w0, w1⟩
end Go.Proofs.YtgkoopciajjonabDoor.Ot

/- A put that came in, opened. -/
import Derived.Test.YtgkoopciajjonaaDoorOq
import Derived.Lib.SmallJoins
namespace Go.Proofs.YtgkoopciajjonaaDoor.Os
open Go.ChangeShapes Go.WideShapes Go.ChangeAt Go.RowKit Go.Joins
set_option linter.unusedVariables false

theorem cellsP : Tryd.prog.cellsOf 24 = 3 := by kernel_rfl
theorem open_put {H : Type} {enc : TypeId × Value → H} {W : World} {base : Nat} {v : Value} {d : DataW H} {p : List MemPlace} (hv : Value.okWide Tryd.prog W .any base 24 v) (h : DataW.Trod enc Tryd.prog W 0 (fun _ => true) true 24 v d p) :
    ∃ b s a len cap rs, v = .agg #[.int .i64 b, .int .i64 s, .slice a len cap] ∧ ((Lit.int .i64 b).wf = true ∧ (Lit.int .i64 s).wf = true ∧ Rc.Recs W a len cap rs) ∧ Wn.wt rs ≤ Rows.uptoBulk d := by
  obtain ⟨c0, c1, c2, y0, y1, y2, m, rfl, hd, _, hy0, hy1, hy2⟩ := open_agg3 Tryd.underlying24 (by kernel_rfl) cellsP hv h
  obtain ⟨x, e0, _, w0⟩ := DataW.trod_int Tryd.underlying3 hy0
  obtain ⟨y, e1, _, w1⟩ := DataW.trod_int Tryd.underlying3 hy1
  simp only [List.cons.injEq, and_true] at e0 e1
  subst e0 e1
  obtain ⟨a, len, cap, rfl⟩ : ∃ a len cap, c2 = .slice a len cap := by
    rcases Deep.open_int_rows Tryd.underlying22 Tryd.underlying31 Tryd.underlying5 (by kernel_rfl) (by kernel_rfl) hy2 with ⟨hcs, _⟩ | ⟨ad, l, c, A, L, C, Z, hcs, _⟩
    · simp at hcs; exact ⟨_, _, _, hcs⟩
    · simp at hcs; exact ⟨_, _, _, hcs⟩
  obtain ⟨d2, p2⟩ := y2
  obtain ⟨rs, R, hw⟩ := Oq.open_recs (fuel := m) (a := a) (len := len) (cap := cap) (d := d2) (p := p2) (by simpa [Value.cells] using hy2)
  refine ⟨x, y, a, len, cap, rs, rfl, ⟨w0, w1, R⟩, ?_⟩
  rw [hd]
  simp only [Rows.uptoBulk, Rows.uptoBulkAll]
  omega
end Go.Proofs.YtgkoopciajjonaaDoor.Os

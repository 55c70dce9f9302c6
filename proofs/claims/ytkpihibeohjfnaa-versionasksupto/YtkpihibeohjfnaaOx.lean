/- What a range of keys is asked by, opened. -/
import Derived.Test.YtkpihibeohjfnaaOe
namespace Go.Proofs.Ytkpihibeohjfnaa.Ox
open Go.ChangeShapes Go.WideShapes Go.ChangeAt Go.RowKit Go.Joins
open Go.Proofs.Ytkpihibeohjfnaa.Gr
open Go.Proofs.Ytkpihibeohjfnaa.Ev
open Go.Proofs.Ytkpihibeohjfnaa.Oe
set_option linter.unusedVariables false
set_option linter.unusedSimpArgs false
section
variable {H : Type} {enc : TypeId × Value → H} {W : World} {sp : Nat → Bool}
theorem cA : Try.prog.cellsOf 58 = 4 := by kernel_rfl
set_option maxRecDepth 100000 in
theorem open_ask {n : Nat} {r : Reach} {b0 : Nat} {v : Value} {x : DataW H × List MemPlace}
    (hv : Value.okWide Try.prog W r b0 58 v) (ht : DataW.trod enc Try.prog W 0 sp true n 58 v.cells.toList = some x) : ∃ (l : Int) (a b c : ByteArray), v = .agg #[.int .i64 l, .string a, .string b, .string c] ∧ bd l := by
  obtain ⟨cs, rfl, hsz⟩ := okWide_struct Try.underlying58 hv
  rw [cA] at hsz
  have ht' : DataW.trod enc Try.prog W 0 sp true n 58 cs.toList = some x := by simpa [Value.cells] using ht
  obtain ⟨y0, y1, y2, y3, m, hx, _, h0, h1, h2, h3⟩ := trod_struct4 Try.underlying58 ht'
  obtain ⟨l⟩ := cs
  have hl : l.length = 4 := by simpa using hsz
  match l, hl with
  | [d0, d1, d2, d3], _ =>
    simp only [c3, c9, List.drop_zero, List.drop_succ_cons, List.take_succ_cons, List.take_zero] at h0 h1 h2 h3
    obtain ⟨k0, e0, f0, w0⟩ := DataW.trod_int Try.underlying3 h0
    obtain ⟨k1, e1, f1, w1⟩ := DataW.trod_string Try.underlying9 h1
    obtain ⟨k2, e2, f2, w2⟩ := DataW.trod_string Try.underlying9 h2
    obtain ⟨k3, e3, f3, w3⟩ := DataW.trod_string Try.underlying9 h3
    simp only [List.cons.injEq, and_true] at e0 e1 e2 e3
    subst e0 e1 e2 e3
    exact ⟨k0, k1, k2, k3, rfl, i64_bd w0⟩
end
end Go.Proofs.Ytkpihibeohjfnaa.Ox

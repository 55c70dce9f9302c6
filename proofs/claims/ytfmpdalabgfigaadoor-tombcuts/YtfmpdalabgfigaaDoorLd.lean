/- What the listed variable, the law's mark, gives a walk; and a world in which it lies so. -/
import Derived.Test.YtfmpdalabgfigaaDoorLn
import Derived.Test.YtfmpdalabgfigaaDoorOp
import Derived.LaidMore
import Derived.Lib.LaidTab
import Derived.Stop.Joined
namespace Go.Proofs.YtfmpdalabgfigaaDoor.Ld
open Go.ChangeShapes Go.WideShapes Go.ChangeAt Go.RowKit
open Go.Proofs.YtfmpdalabgfigaaDoor.Tm
open Go.Proofs.YtfmpdalabgfigaaDoor.Ln
open Go.Proofs.YtfmpdalabgfigaaDoor.Op
set_option linter.unusedVariables false

abbrev laid : List (String × DataW Unit) := [("moraine/morainelaw09.mark", Rows.laid_moraine_morainelaw09_mark)]
theorem gT : Tryd.prog.globalNamed "moraine/morainelaw09.mark" = some 0 := by kernel_rfl
theorem door_met (os : Os) (args : Array Value) : laidMetH Tryd.prog laid ((World.doorLaid Tryd.prog 400 os).forCall (fun _ _ => 0) ⟨#[], args, []⟩).memory :=
  laidMetH_of_parts3 (fuel := 8) (laidMet_of_run' 8 (by kernel_rfl) (by kernel_rfl)) (by kernel_rfl) (by kernel_rfl)
theorem str_of {a : ByteArray} {l : List UInt8} (h : a.data.toList = l) : a = ⟨l.toArray⟩ := by
  obtain ⟨⟨x⟩⟩ := a
  simp at h
  rw [h]
set_option maxRecDepth 100000 in
theorem mk_of {W : World} (h : laidMetH Tryd.prog laid W) : Mk W := by
  rw [MakeChecks.laidMetH_plain _ _ _ (by kernel_rfl)] at h
  obtain ⟨ps, ⟨g', t', cs, fuel, p, q, hg', ht', hvar, hd, _, _⟩, _⟩ := h
  obtain rfl := Option.some.inj (gT.symm.trans hg')
  obtain rfl := Option.some.inj ((show (Tryd.prog.globals[0]?).map (·.type) = some 27 by kernel_rfl).symm.trans ht')
  obtain ⟨z0, z1, z2, m2, hx, hlen, k0, k1, k2⟩ := Deep.trod_struct3 Tryd.underlying27 hd
  rw [cellsS] at k0 k1
  rw [cellsU] at k2
  rw [cellsT] at hlen
  have hc := World.var?_cell gT hvar
  obtain ⟨cl⟩ := cs
  match cl, hlen with
  | [c0, c1, c2], _ =>
    simp only [List.drop_zero, List.drop_succ_cons, List.take_succ_cons, List.take_zero] at k0 k1 k2
    obtain ⟨k, e0, f0, w0⟩ := DataW.trod_string Tryd.underlying9 k0
    obtain ⟨v, e1, f1, w1⟩ := DataW.trod_string Tryd.underlying9 k1
    obtain ⟨s, e2, f2, w2⟩ := DataW.trod_int Tryd.underlying25 k2
    simp only [List.cons.injEq, and_true] at e0 e1 e2
    subst e0 e1 e2 f0 f1 f2
    have h1 := congrArg Prod.fst hx
    simp [Rows.laid_moraine_morainelaw09_mark] at h1
    obtain ⟨h1, h2, h3⟩ := h1
    have hk := str_of h1.symm
    have hv := str_of h2.symm
    have q0 := hc 0
    have q1 := hc 1
    have q2 := hc 2
    simp at q0 q1 q2
    refine ⟨?_, ?_, ?_⟩
    · rw [q0, hk]; rfl
    · rw [q1, hv]; rfl
    · rw [q2, ← h3]; rfl
end Go.Proofs.YtfmpdalabgfigaaDoor.Ld

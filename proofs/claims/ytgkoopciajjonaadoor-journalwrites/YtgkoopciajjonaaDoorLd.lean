/- What the listed variable, the table of half bytes, gives a walk: its sixteen words, each what a register of these bits becomes by four noughts; and a world in which it lies so. -/
import Derived.Test.YtgkoopciajjonaaDoorCk
import Derived.LaidMore
import Derived.Lib.LaidTab
import Derived.Stop.Joined
namespace Go.Proofs.YtgkoopciajjonaaDoor.Ld
open Go.ChangeShapes Go.WideShapes Go.ChangeAt Go.RowKit
open Go.Proofs.YtgkoopciajjonaaDoor.Crc
set_option linter.unusedVariables false

abbrev laid : List (String × DataW Unit) := [("moraine/check.ofHalf", Rows.laid_moraine_check_ofHalf)]
theorem gT : Tryd.prog.globalNamed "moraine/check.ofHalf" = some 0 := by kernel_rfl
theorem door_met (os : Os) (args : Array Value) : laidMetH Tryd.prog laid ((World.doorLaid Tryd.prog 400 os).forCall (fun _ _ => 0) ⟨#[], args, []⟩).memory :=
  laidMetH_of_parts3 (fuel := 8) (laidMet_of_run' 8 (by kernel_rfl) (by kernel_rfl)) (by kernel_rfl) (by kernel_rfl)

def words : List Int := [0, 274646895, 549293790, 820201905, 1098587580, 1361435347, 1640403810, 1905808397, 2197175160, 2460548119, 2722870694, 2987750089, 3280807620, 3553878443, 3811616794, 4084100981]
theorem words_eq : ∀ i : Fin 16, words.getD i.val 0 = toI (shiftZ 4 (BitVec.ofNat 32 i.val)) := by decide +kernel
theorem tab_of {W : World} (h : laidMetH Tryd.prog laid W) : Ck.Tab W := by
  rw [MakeChecks.laidMetH_plain _ _ _ (by kernel_rfl)] at h
  have hT := Lib.tabIs_of_head (zs := words) (k := .u32) (e := 77) (n := 16) gT (show (Tryd.prog.globals[0]?).map (·.type) = some 89 by kernel_rfl) Tryd.underlying89 Tryd.underlying77 (by kernel_rfl) (by kernel_rfl) h
  intro i hi
  rw [hT.cell gT i (by simpa [words] using hi), words_eq ⟨i, hi⟩]
end Go.Proofs.YtgkoopciajjonaaDoor.Ld

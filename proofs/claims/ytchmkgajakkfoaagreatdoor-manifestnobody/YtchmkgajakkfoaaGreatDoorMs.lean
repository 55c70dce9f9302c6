/- slices.Sort of no texts; List of a new disk. -/
import Derived.Test.YtchmkgajakkfoaaGreatDoorMn
namespace Go.Proofs.YtchmkgajakkfoaaGreatDoor.Ms
open Go.ChangeShapes Go.WideShapes Go.ChangeAt Go.RowKit
open Go.Proofs.YtchmkgajakkfoaaGreatDoor.Gr
open Go.Proofs.YtchmkgajakkfoaaGreatDoor.Mn
set_option linter.unusedVariables false
set_option linter.unusedSimpArgs false

set_option maxRecDepth 20000 in
set_option maxHeartbeats 400000 in
theorem len64 (w : World) : Calls Tryz.prog 167 #[.int .u64 0] w fun e w' => e = .returned (.int .i64 0) ∧ w' = w := by
  go_enter Tryz.func167, Tryz.ntmps167
  go_wp2_with fail
  go_ret
  exact ⟨by kernel_rfl, rfl⟩
theorem len0 (w : World) : Calls Tryz.prog 113 #[.int .u64 0] w fun e w' => e = .returned (.int .i64 0) ∧ w' = w := by
  have c1 := hid (len64 w)
  go_enter Tryz.func113, Tryz.ntmps113
  go_wp2_with (first | (go_at_call 167; refine c1.out.mono ?_; rintro e w1 ⟨rfl, hw1⟩; subst hw1))
  go_ret
  exact ⟨rfl, rfl⟩
theorem ins0 (a : Option Addr) (c : Nat) (w : World) : Calls Tryz.prog 157 #[.slice a 0 c, .int .i64 0, .int .i64 0] w fun e w' => e = .returned (.tuple #[]) ∧ w' = w := by
  go_enter Tryz.func157, Tryz.ntmps157
  go_wp2_with fail
  go_loopw [6] (fun jj wr => jj = .int .i64 1 ∧ wr = w) (fun jj _ => 0)
  case atStart => exact ⟨rfl, rfl⟩
  case round =>
    obtain ⟨rfl, rfl⟩ := hrel
    go_wp2_with fail
    exact bodyPost_end (results_none Tryz.results157 _ _ _) rfl ⟨rfl, rfl⟩
theorem pdq0 (a : Option Addr) (c : Nat) (w : World) : Calls Tryz.prog 112 #[.slice a 0 c, .int .i64 0, .int .i64 0, .int .i64 0] w fun e w' => e = .returned (.tuple #[]) ∧ w' = w := by
  have c1 := hid (ins0 a c w)
  go_enter Tryz.func112, Tryz.ntmps112
  go_wp2_with fail
  go_loopw [1, 2, 3, 8, 9] (fun j1 j2 j3 j8 j9 wr => j1 = .int .i64 0 ∧ j2 = .int .i64 0 ∧ wr = w) (fun _ _ _ _ _ _ => 0)
  case atStart => exact ⟨rfl, rfl, rfl⟩
  case round =>
    obtain ⟨rfl, rfl, rfl⟩ := hrel
    go_wp2_with (first | (go_at_call 157; refine c1.out.mono ?_; rintro e w1 ⟨rfl, hw1⟩; subst hw1))
    exact bodyPost_ret (v := .tuple #[]) (by simp [results, Tryz.results112, go_sem]) rfl ⟨rfl, rfl⟩
theorem sort0 (a : Option Addr) (c : Nat) (w : World) : Calls Tryz.prog 66 #[.slice a 0 c] w fun e w' => e = .returned (.tuple #[]) ∧ w' = w := by
  have c1 := hid (len0 w)
  have c2 := hid (pdq0 a c w)
  go_enter Tryz.func66, Tryz.ntmps66
  go_wp2_with (first | (go_at_call 113; refine c1.out.mono ?_; rintro e w1 ⟨rfl, hw1⟩; subst hw1) | (go_at_call 112; refine c2.out.mono ?_; rintro e w1 ⟨rfl, hw1⟩; subst hw1))
  exact bodyPost_end (results_none Tryz.results66 _ _ _) rfl ⟨rfl, rfl⟩
end Go.Proofs.YtchmkgajakkfoaaGreatDoor.Ms

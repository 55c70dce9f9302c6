/- Contracts of Zeros and Combine: what each returns, for all arguments. -/
import Derived.Test.YtkgmdhldongloabDoorLm
namespace Go.Proofs.YtkgmdhldongloabDoor.Zc
open Go.ChangeShapes Go.WideShapes Go.ChangeAt Go.RowKit
open Go.Proofs.YtkgmdhldongloabDoor.Crc
open Go.Proofs.YtkgmdhldongloabDoor.Ck
open Go.Proofs.YtkgmdhldongloabDoor.Lm
set_option linter.unusedVariables false

theorem Zeros_neg (x : BitVec 32) (n : Int) (w : World) (hn : n < 0) : Calls Tryd.prog 15 #[.int .u32 (toI x), .int .i64 n] w fun e w' => e = .returned (.tuple #[.int .u32 0, .int .i64 2]) ∧ Below w.heap.size w w' := by
  go_enter Tryd.func15, Tryd.ntmps15
  go_wp2
  go_ret2
  exact ⟨rfl, Below.refl _ _⟩
theorem Zeros_any (x : BitVec 32) (n : Nat) (w : World) (T : Hid (Tab w)) (hn : n ≤ 9223372036854775807) : Calls Tryd.prog 15 #[.int .u32 (toI x), .int .i64 n] w fun e w' => e = .returned (.tuple #[.int .u32 (toI (~~~shiftZ (8 * n) (~~~x))), .int .i64 0]) ∧ Below w.heap.size w w' := by
  have N1 := not_w x
  have N2 := not_w (shiftZ (8 * n) (~~~x))
  have S := sgn
  have h0 : ¬ (n : Int) < 0 := by omega
  go_enter Tryd.func15, Tryd.ntmps15
  go_wp2_with fail
  refine (after_any (~~~x) n _ T hn).mono ?_
  rintro e w1 ⟨rfl, b1⟩
  have B1 := hid b1
  clear b1
  go_wp2
  go_ret2
  exact ⟨rfl, B1.out⟩
theorem Combine_neg (x y : BitVec 32) (n : Int) (w : World) (hn : n < 0) : Calls Tryd.prog 10 #[.int .u32 (toI x), .int .u32 (toI y), .int .i64 n] w fun e w' => e = .returned (.tuple #[.int .u32 0, .int .i64 2]) ∧ Below w.heap.size w w' := by
  go_enter Tryd.func10, Tryd.ntmps10
  go_wp2
  go_ret2
  exact ⟨rfl, Below.refl _ _⟩
theorem Combine_any (x y : BitVec 32) (n : Nat) (w : World) (T : Hid (Tab w)) (hn : n ≤ 9223372036854775807) : Calls Tryd.prog 10 #[.int .u32 (toI x), .int .u32 (toI y), .int .i64 n] w fun e w' => e = .returned (.tuple #[.int .u32 (toI (shiftZ (8 * n) x ^^^ y)), .int .i64 0]) ∧ Below w.heap.size w w' := by
  have X := xor_i (shiftZ (8 * n) x) y
  have h0 : ¬ (n : Int) < 0 := by omega
  go_enter Tryd.func10, Tryd.ntmps10
  go_wp2_with fail
  refine (after_any x n _ T hn).mono ?_
  rintro e w1 ⟨rfl, b1⟩
  have B1 := hid b1
  clear b1
  go_wp2
  go_ret2
  exact ⟨rfl, B1.out⟩
end Go.Proofs.YtkgmdhldongloabDoor.Zc

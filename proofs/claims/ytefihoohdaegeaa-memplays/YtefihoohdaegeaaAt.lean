/- At of the program. -/
import Derived.Test.YtefihoohdaegeaaCm
namespace Go.Proofs.Ytefihoohdaegeaa.At
open Go.ChangeShapes Go.WideShapes Go.ChangeAt Go.RowKit
open Go.Proofs.Ytefihoohdaegeaa.Ik
open Go.Proofs.Ytefihoohdaegeaa.Kd
set_option linter.unusedVariables false

def atS (s : Int) : Int := if 72057594037927935 < s then 72057594037927935 else s
theorem at_any (a : ByteArray) (s : Int) (w : World) :
    Calls Try.prog 86 #[.string a, .int .u64 s] w fun e w' => e = .returned (.agg #[.string a, .int .u64 (atS s), .int .i64 255]) ∧ Below w.heap.size w w' := by
  unfold atS
  by_cases h : 72057594037927935 < s
  · rw [if_pos h]
    go_enter Try.func86, Try.ntmps86
    go_wp2
    exact bodyPost_ret (v := .agg #[.string a, .int .u64 72057594037927935, .int .i64 255]) (by simp [results, Try.results86, go_sem]; omega) rfl ⟨rfl, (Below.refl _ _).alloc (Nat.le_refl _) _⟩
  · rw [if_neg h]
    go_enter Try.func86, Try.ntmps86
    go_wp2
    exact bodyPost_ret (v := .agg #[.string a, .int .u64 s, .int .i64 255]) (by simp [results, Try.results86, go_sem]; omega) rfl ⟨rfl, (Below.refl _ _).alloc (Nat.le_refl _) _⟩
end Go.Proofs.Ytefihoohdaegeaa.At

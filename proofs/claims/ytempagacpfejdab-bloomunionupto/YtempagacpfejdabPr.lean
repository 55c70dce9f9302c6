/- Probes of both, by one contract; the names; the laws BloomProbes and BloomHashes walked. -/
import Derived.Test.YtempagacpfejdabHs
namespace Go.Proofs.Ytempagacpfejdab.Pr
open Go.ChangeShapes Go.WideShapes Go.ChangeAt Go.RowKit
open Go.Proofs.Ytempagacpfejdab.Wd
open Go.Proofs.Ytempagacpfejdab.Hs
set_option linter.unusedVariables false
set_option linter.unusedSimpArgs false

/-- How many bits a key sets. -/
def pb (b : Nat) : Nat := min (max (b * 69 / 100) 1) 30
theorem pb_bd (b : Nat) : 1 ≤ pb b ∧ pb b ≤ 30 := by unfold pb; omega
theorem pb_i (b : Int) (n : Nat) (h : b = n) : min (max (b * 69 / 100) 1) 30 = (pb n : Int) := by
  subst h; unfold pb; omega
set_option maxRecDepth 100000 in
theorem probes_ok (b : Nat) (h1 : 1 ≤ b) (h2 : b ≤ 64) (w : World) : Calls Try.prog 8 #[.int .i64 (b : Int)] w fun e w' => e = .returned (.tuple #[.int .i64 (pb b : Int), .int .i64 0]) ∧ w' = w := by
  have E := hid (pb_i (b : Int) b rfl)
  go_enter Try.func8, Try.ntmps8
  go_wp2
  go_ret2
  exact ⟨by rw [← E.out]; rfl, rfl⟩
set_option maxRecDepth 100000 in
theorem probes_no (b : Int) (h : b < 1 ∨ 64 < b) (w : World) : Calls Try.prog 8 #[.int .i64 b] w fun e w' => e = .returned (.tuple #[.int .i64 0, .int .i64 2]) ∧ w' = w := by
  rcases h with h | h
  · go_enter Try.func8, Try.ntmps8
    go_wp2
    go_ret2
    exact ⟨rfl, rfl⟩
  · have h1 : ¬ b < 1 := by omega
    go_enter Try.func8, Try.ntmps8
    go_wp2
    go_ret2
    exact ⟨rfl, rfl⟩
end Go.Proofs.Ytempagacpfejdab.Pr

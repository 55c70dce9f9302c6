/- The document's Compare, and the key of an entry. -/
import Derived.Test.YtbpgifpplnmjmaaEe
--[s3
import Derived.Test.YtbpgifpplnmjmaaCr
--]s3
namespace Go.Proofs.Ytbpgifpplnmjmaa.Cm
open Go.ChangeShapes Go.WideShapes Go.ChangeAt Go.RowKit
open Go.Proofs.Ytbpgifpplnmjmaa.Ik
open Go.Proofs.Ytbpgifpplnmjmaa.Kd
set_option linter.unusedVariables false

end Go.Proofs.Ytbpgifpplnmjmaa.Cm
namespace Go.Proofs.Ytbpgifpplnmjmaa.Rcm
open Go.ChangeShapes Go.WideShapes Go.ChangeAt Go.RowKit
open Go.Proofs.Ytbpgifpplnmjmaa.Ik
open Go.Proofs.Ytbpgifpplnmjmaa.Ee
set_option linter.unusedVariables false
theorem rkey_any (k : ByteArray) (s c : Int) (v : ByteArray) (w : World) :
    Calls Try.prog 48 #[.agg #[.string k, .int .u64 s, .int .i64 c, .string v]] w fun e w' => e = .returned (.agg #[.string k, .int .u64 s, .int .i64 c]) ∧ Below w.heap.size w w' := by
  go_enter Try.func48, Try.ntmps48
  go_wp2
  exact bodyPost_ret (v := .agg #[.string k, .int .u64 s, .int .i64 c]) (by simp [results, Try.results48, go_sem]) rfl ⟨rfl, ((Below.refl _ _).alloc (Nat.le_refl _) _).alloc (by simp) _⟩
end Go.Proofs.Ytbpgifpplnmjmaa.Rcm

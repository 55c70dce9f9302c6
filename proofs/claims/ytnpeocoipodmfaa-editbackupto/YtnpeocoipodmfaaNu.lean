/- number by its contract. -/
import Derived.Test.YtnpeocoipodmfaaCt
import Derived.Test.YtnpeocoipodmfaaLe
namespace Go.Proofs.Ytnpeocoipodmfaa.Nu
open Go.ChangeShapes Go.WideShapes Go.ChangeAt Go.RowKit
open Go.Proofs.Ytnpeocoipodmfaa.Gr
open Go.Proofs.Ytnpeocoipodmfaa.By (Row Bytes tx)
set_option linter.unusedVariables false
set_option linter.unusedSimpArgs false

/-- A number that is read as an int. -/
def nread (zs : List Int) (p : Int) : Int × Int × Int := (wrap64 (Vb.vread zs p).1, (Vb.vread zs p).2.1, (Vb.vread zs p).2.2)
theorem number_any (a : Option Addr) (len cap : Nat) (zs : List Int) (p : Int) (w : World) (H : Bytes w a len cap zs) (hcap : len ≤ 281474976710656) :
    Calls Try.prog 34 #[.slice a len cap, .int .i64 p] w fun e w' => e = .returned (.tuple #[.int .i64 (nread zs p).1, .int .i64 (nread zs p).2.1, .int .i64 (nread zs p).2.2]) ∧ w' = w := by
  have c := hid (By.varint_any a len cap zs p w H hcap)
  unfold nread
  generalize Vb.vread zs p = r at *
  obtain ⟨r1, r2, r3⟩ := r
  dsimp only at *
  clear H
  go_enter Try.func34, Try.ntmps34
  go_wp2_with fail
  refine c.out.mono ?_
  rintro e w' ⟨rfl, rfl⟩
  go_wp2_with fail
  go_ret3
  exact ⟨rfl, rfl⟩
end Go.Proofs.Ytnpeocoipodmfaa.Nu

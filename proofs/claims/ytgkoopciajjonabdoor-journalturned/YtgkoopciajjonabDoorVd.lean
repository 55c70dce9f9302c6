/- Bytes of the call's own as a text; a block that may be. -/
import Derived.Test.YtgkoopciajjonabDoorWn
namespace Go.Proofs.YtgkoopciajjonabDoor.Vd
open Go.ChangeShapes Go.WideShapes Go.ChangeAt Go.RowKit
open Go.Proofs.YtgkoopciajjonabDoor.Crc
open Go.Proofs.YtgkoopciajjonabDoor.Jm
open Go.Proofs.YtgkoopciajjonabDoor.Jn
open Go.Proofs.YtgkoopciajjonabDoor.Ck
open Go.Proofs.YtgkoopciajjonabDoor.Wt
open Go.Proofs.YtgkoopciajjonabDoor.Wc
open Go.Proofs.YtgkoopciajjonabDoor.Wa
open Go.Proofs.YtgkoopciajjonabDoor.Rc
open Go.Proofs.YtgkoopciajjonabDoor.Wn
set_option linter.unusedVariables false
set_option linter.unusedSimpArgs false

theorem own_conv {w : World} {base : Nat} {v : Value} {xs : List Int} (h : Own w base v xs) : Sem.run Tryd.prog (convert 26 9 v) w = .ok (.string (str xs)) w := by
  rcases h.2 with ⟨e, e0⟩ | ⟨g, c, cur, e, hr⟩
  · have : xs = [] := List.eq_nil_of_length_eq_zero e0
    subst this
    rw [e]
    exact (nil_bytes w).conv
  · subst e
    exact Row.conv (g := g) h
theorem valid_any (b : Int) (w : World) : Calls Tryd.prog 4 #[.int .i64 b] w fun e w' => e = .returned (.bool (decide (32 ≤ b) && decide (b ≤ 32768))) ∧ w' = w := by
  by_cases h : 32 ≤ b
  · by_cases h2 : b ≤ 32768
    all_goals
      go_enter Tryd.func4, Tryd.ntmps4
      go_wp2
      go_ret
      simp [h, h2]
  · go_enter Tryd.func4, Tryd.ntmps4
    go_wp2
    go_ret
    simp [h]
    omega
end Go.Proofs.YtgkoopciajjonabDoor.Vd

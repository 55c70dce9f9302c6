/- Bytes of the call's own as a text; a block that may be. -/
import Derived.Test.YtgkoopciajjonaaDoorWn
namespace Go.Proofs.YtgkoopciajjonaaDoor.Vd
open Go.ChangeShapes Go.WideShapes Go.ChangeAt Go.RowKit
open Go.Proofs.YtgkoopciajjonaaDoor.Crc
open Go.Proofs.YtgkoopciajjonaaDoor.Jm
open Go.Proofs.YtgkoopciajjonaaDoor.Jn
open Go.Proofs.YtgkoopciajjonaaDoor.Ck
open Go.Proofs.YtgkoopciajjonaaDoor.Wt
open Go.Proofs.YtgkoopciajjonaaDoor.Wc
open Go.Proofs.YtgkoopciajjonaaDoor.Wa
open Go.Proofs.YtgkoopciajjonaaDoor.Rc
open Go.Proofs.YtgkoopciajjonaaDoor.Wn
set_option linter.unusedVariables false
set_option linter.unusedSimpArgs false

theorem own_conv {w : World} {base : Nat} {v : Value} {xs : List Int} (h : Own w base v xs) : Sem.run Tryd.prog (convert 31 9 v) w = .ok (.string (str xs)) w := by
  rcases h.2 with ⟨e, e0⟩ | ⟨g, c, cur, e, hr⟩
  · have : xs = [] := List.eq_nil_of_length_eq_zero e0
    subst this
    rw [e]
    exact (nil_bytes w).conv
  · subst e
    exact Row.conv (g := g) h
theorem valid_any (b : Int) (w : World) : Calls Tryd.prog 24 #[.int .i64 b] w fun e w' => e = .returned (.bool (decide (32 ≤ b) && decide (b ≤ 32768))) ∧ w' = w := by
  by_cases h : 32 ≤ b
  · by_cases h2 : b ≤ 32768
    all_goals
      go_enter Tryd.func24, Tryd.ntmps24
      go_wp2
      go_ret
      simp [h, h2]
  · go_enter Tryd.func24, Tryd.ntmps24
    go_wp2
    go_ret
    simp [h]
    omega
end Go.Proofs.YtgkoopciajjonaaDoor.Vd

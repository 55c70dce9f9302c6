/- The law's 'same' of two slices that hold the same entries. -/
import Derived.Test.YtgjodfaliajlgaaEe
import Derived.BigQuiet
import Derived.Deep.QuietTactic
namespace Go.Proofs.Ytgjodfaliajlgaa.Ee
open Go.ChangeShapes Go.WideShapes Go.ChangeAt Go.RowKit
set_option linter.unusedVariables false

set_option maxHeartbeats 1000000 in
theorem same_any (a a' : Option Addr) (len cap cap' : Nat) (xs : List E) (w : World) (H : Ents w a len cap xs) (H' : Ents w a' len cap' xs) (hl : len ≤ 140737488351232) :
    Calls Try.prog 25 #[.slice a len cap, .slice a' len cap'] w fun e w' => e = .returned (.bool true) ∧ ∃ n, w' = w.drewN n := by
  have HH := hid H
  have HH' := hid H'
  clear H H'
  have t0 : ((len : Int) != (len : Int)) = false := bne_self_eq_false _
  go_enter Try.func25, Try.ntmps25
  go_wp2_with fail
  go_loopw [5] (fun i wr => ∃ k : Nat, i = .int .i64 k ∧ k ≤ len ∧ ∃ n, wr = w.drewN n) (fun i _ => len - (intOf i).toNat)
  case atStart => exact ⟨0, rfl, by omega, 0, rfl⟩
  case round =>
    obtain ⟨k, rfl, hk, n, rfl⟩ := hrel
    by_cases hlt : k < len
    · cases a with
      | none => have := (HH.out.2.2.1 rfl).1; omega
      | some ad =>
        cases a' with
        | none => have := (HH'.out.2.2.1 rfl).1; omega
        | some ad' =>
          obtain ⟨b, off, sp⟩ := ad
          obtain ⟨b', off', sp'⟩ := ad'
          obtain ⟨rfl, hat⟩ := HH.out.2.2.2.2 b off sp rfl (by omega)
          obtain ⟨rfl, hat'⟩ := HH'.out.2.2.2.2 b' off' sp' rfl (by omega)
          have hat := hat k hlt
          have hat' := hat' k hlt
          generalize xs.getD k ze = x at hat hat'
          obtain ⟨xk, xs', xc, xv⟩ := x
          obtain ⟨a1, a2, a3, a4⟩ := hat
          obtain ⟨c1, c2, c3, c4⟩ := hat'
          simp only at a1 a2 a3 a4 c1 c2 c3 c4
          have ik0 : (k : Int) < (len : Int) := by omega
          have ok0 : (0 : Int) ≤ (k : Int) := by omega
          have hlc := HH.out.2.1
          have hlc' := HH'.out.2.1
          go_wp2_with fail
          go_quiet (fail)
          go_wp2_with fail
          go_roundw
          case rel => exact ⟨k + 1, by go_num, by omega, n + nq, rfl⟩
          case measure => simp [intOf]; omega
    · go_wp2_with fail
      go_ret
      exact ⟨rfl, n, rfl⟩
end Go.Proofs.Ytgjodfaliajlgaa.Ee

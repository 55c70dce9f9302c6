/- Kinds, numbers, sizes of keys. -/
import Derived.Test.YtefihoohdaegeaaRows
import Derived.WalkKit
import Derived.ProofKit
import Derived.OpenShut
namespace Go.Proofs.Ytefihoohdaegeaa.Kd
open Go.ChangeShapes Go.WideShapes Go.ChangeAt Go.RowKit
set_option linter.unusedVariables false

def kindB (k : Int) : Bool := decide (k = 0 ∨ k = 1 ∨ k = 2 ∨ k = 255)
def sizeB (n : Int) : Bool := decide (1 ≤ n ∧ n ≤ 1024)
def seqB (v : Int) : Bool := decide (v ≤ 72057594037927935)
theorem kind_true {k : Int} (h : kindB k = true) : k = 0 ∨ k = 1 ∨ k = 2 ∨ k = 255 := of_decide_eq_true h
theorem kind_false {k : Int} (h : kindB k = false) : k ≠ 0 ∧ k ≠ 1 ∧ k ≠ 2 ∧ k ≠ 255 := by
  have := of_decide_eq_false h; omega
theorem size_true {n : Int} (h : sizeB n = true) : 1 ≤ n ∧ n ≤ 1024 := of_decide_eq_true h
theorem size_false {n : Int} (h : sizeB n = false) : n < 1 ∨ 1024 < n := by
  have := of_decide_eq_false h; omega
theorem seq_true {n : Int} (h : seqB n = true) : n ≤ 72057594037927935 := of_decide_eq_true h
theorem seq_false {n : Int} (h : seqB n = false) : 72057594037927935 < n := by
  have := of_decide_eq_false h; omega
theorem ret_bool {a b : Bool} (h : a = b) : Ending.returned (.bool a) = .returned (.bool b) := by rw [h]

theorem isSeq_any (v : Int) (w : World) : Calls Try.prog 109 #[.int .u64 v] w fun e w' => e = .returned (.bool (seqB v)) ∧ w' = w := by
  go_enter Try.func109, Try.ntmps109
  go_wp2
  go_ret
  exact ⟨rfl, rfl⟩

theorem isKeySize_any (v : Int) (w : World) : Calls Try.prog 108 #[.int .i64 v] w fun e w' => e = .returned (.bool (sizeB v)) ∧ w' = w := by
  by_cases h : 1 ≤ v
  · have E : Hid (decide (v ≤ 1024) = sizeB v) := by show _ = _; unfold sizeB; simp [h]
    go_enter Try.func108, Try.ntmps108
    go_wp2
    go_ret
    exact ⟨ret_bool E.out, rfl⟩
  · have E : Hid (false = sizeB v) := by show _ = _; unfold sizeB; simp [h]
    go_enter Try.func108, Try.ntmps108
    go_wp2
    go_ret
    exact ⟨ret_bool E.out, rfl⟩

theorem isKind_any (k : Int) (w : World) : Calls Try.prog 110 #[.int .i64 k] w fun e w' => e = .returned (.bool (kindB k)) ∧ w' = w := by
  cases hk : kindB k
  · obtain ⟨h0, h1, h2, h3⟩ := kind_false hk
    clear hk
    have e0 : (k == 0) = false := beq_eq_false_iff_ne.2 h0
    have e1 : (k == 1) = false := beq_eq_false_iff_ne.2 h1
    have e2 : (k == 2) = false := beq_eq_false_iff_ne.2 h2
    have e3 : (k == 255) = false := beq_eq_false_iff_ne.2 h3
    go_enter Try.func110, Try.ntmps110
    go_wp2
    go_ret
    exact ⟨rfl, rfl⟩
  · rcases kind_true hk with rfl | rfl | rfl | rfl
    all_goals
      clear hk
      go_enter Try.func110, Try.ntmps110
      go_wp2
      go_ret
      exact ⟨rfl, rfl⟩

end Go.Proofs.Ytefihoohdaegeaa.Kd

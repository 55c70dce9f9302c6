/- Kinds, numbers, sizes of keys. -/
import Derived.Test.YtgjodfaliajlgaaRows
import Derived.WalkKit
import Derived.ProofKit
import Derived.OpenShut
namespace Go.Proofs.Ytgjodfaliajlgaa.Kd
open Go.ChangeShapes Go.WideShapes Go.ChangeAt Go.RowKit
set_option linter.unusedVariables false

def kindB (k : Int) : Bool := decide (k = 0 ∨ k = 1 ∨ k = 2 ∨ k = 255)
def sizeB (n : Int) : Bool := decide (1 ≤ n ∧ n ≤ 1024)
def seqB (v : Int) : Bool := decide (v ≤ 72057594037927935)
theorem kind_true {k : Int} (h : kindB k = true) : k = 0 ∨ k = 1 ∨ k = 2 ∨ k = 255 := of_decide_eq_true h
theorem kind_false {k : Int} (h : kindB k = false) : k ≠ 0 ∧ k ≠ 1 ∧ k ≠ 2 ∧ k ≠ 255 := by
  have := of_decide_eq_false h; omega
theorem size_true {n : Int} (h : sizeB n = true) : 1 ≤ n ∧ n ≤ 1024 := of_decide_eq_true h
theorem size_false {n : Int} (h : sizeB n = false) : n < 1 ∨ 1024 < n := by
  have := of_decide_eq_false h; omega
theorem seq_true {n : Int} (h : seqB n = true) : n ≤ 72057594037927935 := of_decide_eq_true h
theorem seq_false {n : Int} (h : seqB n = false) : 72057594037927935 < n := by
  have := of_decide_eq_false h; omega
theorem ret_bool {a b : Bool} (h : a = b) : Ending.returned (.bool a) = .returned (.bool b) := by rw [h]

end Go.Proofs.Ytgjodfaliajlgaa.Kd

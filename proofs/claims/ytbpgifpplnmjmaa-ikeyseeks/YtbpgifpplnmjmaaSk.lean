/- At and After of the program, At and Between of the document's definition. -/
import Derived.Test.YtbpgifpplnmjmaaBt
import Derived.Test.YtbpgifpplnmjmaaKr
namespace Go.Proofs.Ytbpgifpplnmjmaa.Sk
open Go.ChangeShapes Go.WideShapes Go.ChangeAt Go.RowKit
open Go.Proofs.Ytbpgifpplnmjmaa.Ik
open Go.Proofs.Ytbpgifpplnmjmaa.Kd
open Go.Proofs.Ytbpgifpplnmjmaa.By
open Go.Proofs.Ytbpgifpplnmjmaa.Mr
open Go.Proofs.Ytbpgifpplnmjmaa.Bt
set_option linter.unusedVariables false

def atS (s : Int) : Int := if 72057594037927935 < s then 72057594037927935 else s
theorem at_any (a : ByteArray) (s : Int) (w : World) :
    Calls Try.prog 22 #[.string a, .int .u64 s] w fun e w' => e = .returned (.agg #[.string a, .int .u64 (atS s), .int .i64 255]) ∧ Below w.heap.size w w' := by
  unfold atS
  by_cases h : 72057594037927935 < s
  · rw [if_pos h]
    go_enter Try.func22, Try.ntmps22
    go_wp2
    exact bodyPost_ret (v := .agg #[.string a, .int .u64 72057594037927935, .int .i64 255]) (by simp [results, Try.results22, go_sem]) rfl ⟨rfl, (Below.refl _ _).alloc (Nat.le_refl _) _⟩
  · rw [if_neg h]
    go_enter Try.func22, Try.ntmps22
    go_wp2
    exact bodyPost_ret (v := .agg #[.string a, .int .u64 s, .int .i64 255]) (by simp [results, Try.results22, go_sem]) rfl ⟨rfl, (Below.refl _ _).alloc (Nat.le_refl _) _⟩
theorem rat_any (a : ByteArray) (s : Int) (w : World) :
    Calls Try.prog 23 #[.string a, .int .u64 s] w fun e w' => e = .returned (.agg #[.string a, .int .u64 (atS s), .int .i64 255]) ∧ Below w.heap.size w w' := by
  unfold atS
  by_cases h : 72057594037927935 < s
  · rw [if_pos h]
    go_enter Try.func23, Try.ntmps23
    go_wp2
    exact bodyPost_ret (v := .agg #[.string a, .int .u64 72057594037927935, .int .i64 255]) (by simp [results, Try.results23, go_sem]) rfl ⟨rfl, (Below.refl _ _).alloc (Nat.le_refl _) _⟩
  · rw [if_neg h]
    go_enter Try.func23, Try.ntmps23
    go_wp2
    exact bodyPost_ret (v := .agg #[.string a, .int .u64 s, .int .i64 255]) (by simp [results, Try.results23, go_sem]) rfl ⟨rfl, (Below.refl _ _).alloc (Nat.le_refl _) _⟩
theorem after_any (a : ByteArray) (w : World) (ha : a.size ≤ 140737488351232) :
    Calls Try.prog 24 #[.string a] w fun e w' => e = .returned (.string (a ++ ⟨#[0]⟩)) ∧ w' = w := by
  go_enter Try.func24, Try.ntmps24
  go_wp2
  go_ret
  exact ⟨rfl, rfl⟩
end Go.Proofs.Ytbpgifpplnmjmaa.Sk

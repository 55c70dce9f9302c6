/- The document's kinds, Pack and Unpack. -/
import Derived.Test.YtkanjbeijoeenaaKd
namespace Go.Proofs.Ytkanjbeijoeenaa.Kd
open Go.ChangeShapes Go.WideShapes Go.ChangeAt Go.RowKit
set_option linter.unusedVariables false

theorem names_any (w : World) : Calls Try.prog 10 #[] w fun e w' => e = .returned (.bool true) ∧ w' = w := by
  go_enter Try.func10, Try.ntmps10
  go_wp2
  go_ret
  exact ⟨rfl, rfl⟩

theorem rkind_any (k : Int) (w : World) : Calls Try.prog 56 #[.int .i64 k] w fun e w' => e = .returned (.bool (kindB k)) ∧ w' = w := by
  cases hk : kindB k
  · obtain ⟨h0, h1, h2, h3⟩ := kind_false hk
    clear hk
    have e0 : (k == 0) = false := beq_eq_false_iff_ne.2 h0
    have e1 : (k == 1) = false := beq_eq_false_iff_ne.2 h1
    have e2 : (k == 2) = false := beq_eq_false_iff_ne.2 h2
    have e3 : (k == 255) = false := beq_eq_false_iff_ne.2 h3
    go_enter Try.func56, Try.ntmps56
    go_wp2
    go_ret
    exact ⟨rfl, rfl⟩
  · rcases kind_true hk with rfl | rfl | rfl | rfl
    all_goals
      clear hk
      go_enter Try.func56, Try.ntmps56
      go_wp2
      go_ret
      exact ⟨rfl, rfl⟩

theorem runpack_any (v : Int) (hv : 0 ≤ v) (hv1 : v ≤ 18446744073709551615) (w : World) : Calls Try.prog 67 #[.int .u64 v] w fun e w' => e = .returned (.tuple #[.int .u64 (un0 v), .int .i64 (un1 v), .int .i64 (unE v)]) ∧ w' = w := by
  have b1 : 0 ≤ v % 256 := by omega
  have b2 : v % 256 ≤ 255 := by omega
  have W : Hid (wrap64 (v % 256) = v % 256) := by show _ = _; unfold wrap64; omega
  cases hk : kindB (v % 256)
  · have E1 : Hid (0 = un0 v ∧ 0 = un1 v ∧ 30 = unE v) := by show _ ∧ _; unfold un0 un1 unE; simp [hk]
    go_enter Try.func67, Try.ntmps67
    go_wp2_with fail
    refine (rkind_any _ _).mono ?_
    rw [hk]
    rintro e w' ⟨rfl, rfl⟩
    go_wp2_with fail
    go_ret3
    exact ⟨ret3 E1.out.1 E1.out.2.1 E1.out.2.2, rfl⟩
  · have E1 : Hid (v / 256 = un0 v ∧ v % 256 = un1 v ∧ 0 = unE v) := by show _ ∧ _; unfold un0 un1 unE; simp [hk]
    go_enter Try.func67, Try.ntmps67
    go_wp2_with fail
    refine (rkind_any _ _).mono ?_
    rw [hk]
    rintro e w' ⟨rfl, rfl⟩
    go_wp2_with fail
    go_ret3
    exact ⟨ret3 E1.out.1 E1.out.2.1 E1.out.2.2, rfl⟩
end Go.Proofs.Ytkanjbeijoeenaa.Kd

/- The document's kinds, Pack and Unpack. -/
import Derived.Test.YtbpgifpplnmjmaaKd
namespace Go.Proofs.Ytbpgifpplnmjmaa.Kd
open Go.ChangeShapes Go.WideShapes Go.ChangeAt Go.RowKit
set_option linter.unusedVariables false

theorem names_any (w : World) : Calls Try.prog 13 #[] w fun e w' => e = .returned (.bool true) ∧ w' = w := by
  go_enter Try.func13, Try.ntmps13
  go_wp2
  go_ret
  exact ⟨rfl, rfl⟩

theorem rkind_any (k : Int) (w : World) : Calls Try.prog 35 #[.int .i64 k] w fun e w' => e = .returned (.bool (kindB k)) ∧ w' = w := by
  cases hk : kindB k
  · obtain ⟨h0, h1, h2, h3⟩ := kind_false hk
    clear hk
    have e0 : (k == 0) = false := beq_eq_false_iff_ne.2 h0
    have e1 : (k == 1) = false := beq_eq_false_iff_ne.2 h1
    have e2 : (k == 2) = false := beq_eq_false_iff_ne.2 h2
    have e3 : (k == 255) = false := beq_eq_false_iff_ne.2 h3
    go_enter Try.func35, Try.ntmps35
    go_wp2
    go_ret
    exact ⟨rfl, rfl⟩
  · rcases kind_true hk with rfl | rfl | rfl | rfl
    all_goals
      clear hk
      go_enter Try.func35, Try.ntmps35
      go_wp2
      go_ret
      exact ⟨rfl, rfl⟩

theorem rpack_any (s k : Int) (hs : 0 ≤ s) (w : World) : Calls Try.prog 15 #[.int .u64 s, .int .i64 k] w fun e w' => e = .returned (.tuple #[.int .u64 (pk s k), .int .i64 (pkE s k)]) ∧ w' = w := by
  cases h : seqB s
  · have E : Hid (0 = pk s k ∧ 2 = pkE s k) := by show _ ∧ _; unfold pk pkE; simp [h]
    have h1 := seq_false h
    clear h
    go_enter Try.func15, Try.ntmps15
    go_wp2_with fail
    go_ret2
    exact ⟨ret2 E.out.1 E.out.2, rfl⟩
  · cases hk : kindB k
    · have E : Hid (0 = pk s k ∧ 2 = pkE s k) := by show _ ∧ _; unfold pk pkE; simp [hk]
      have h1 := seq_true h
      clear h
      go_enter Try.func15, Try.ntmps15
      go_wp2_with fail
      refine (rkind_any k _).mono ?_
      rw [hk]
      rintro e w' ⟨rfl, rfl⟩
      go_wp2_with fail
      go_ret2
      exact ⟨ret2 E.out.1 E.out.2, rfl⟩
    · have h1 := seq_true h
      have h2 : 0 ≤ k ∧ k ≤ 255 := by have := kind_true hk; omega
      obtain ⟨h2, h3⟩ := h2
      have E : Hid (s * 256 + k = pk s k ∧ 0 = pkE s k) := by show _ ∧ _; unfold pk pkE; simp [h, hk]
      clear h
      go_enter Try.func15, Try.ntmps15
      go_wp2_with fail
      refine (rkind_any k _).mono ?_
      rw [hk]
      rintro e w' ⟨rfl, rfl⟩
      go_wp2_with fail
      go_ret2
      exact ⟨ret2 E.out.1 E.out.2, rfl⟩

theorem runpack_any (v : Int) (hv : 0 ≤ v) (hv1 : v ≤ 18446744073709551615) (w : World) : Calls Try.prog 17 #[.int .u64 v] w fun e w' => e = .returned (.tuple #[.int .u64 (un0 v), .int .i64 (un1 v), .int .i64 (unE v)]) ∧ w' = w := by
  have b1 : 0 ≤ v % 256 := by omega
  have b2 : v % 256 ≤ 255 := by omega
  have W : Hid (wrap64 (v % 256) = v % 256) := by show _ = _; unfold wrap64; omega
  cases hk : kindB (v % 256)
  · have E1 : Hid (0 = un0 v ∧ 0 = un1 v ∧ 30 = unE v) := by show _ ∧ _; unfold un0 un1 unE; simp [hk]
    go_enter Try.func17, Try.ntmps17
    go_wp2_with fail
    refine (rkind_any _ _).mono ?_
    rw [hk]
    rintro e w' ⟨rfl, rfl⟩
    go_wp2_with fail
    go_ret3
    exact ⟨ret3 E1.out.1 E1.out.2.1 E1.out.2.2, rfl⟩
  · have E1 : Hid (v / 256 = un0 v ∧ v % 256 = un1 v ∧ 0 = unE v) := by show _ ∧ _; unfold un0 un1 unE; simp [hk]
    go_enter Try.func17, Try.ntmps17
    go_wp2_with fail
    refine (rkind_any _ _).mono ?_
    rw [hk]
    rintro e w' ⟨rfl, rfl⟩
    go_wp2_with fail
    go_ret3
    exact ⟨ret3 E1.out.1 E1.out.2.1 E1.out.2.2, rfl⟩
end Go.Proofs.Ytbpgifpplnmjmaa.Kd

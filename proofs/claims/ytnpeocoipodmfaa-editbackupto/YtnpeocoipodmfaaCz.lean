/- The codec: how many bytes a number's shortest form has. -/
import Derived.Test.YtnpeocoipodmfaaBy
namespace Go.Proofs.Ytnpeocoipodmfaa.By
open Go.ChangeShapes Go.WideShapes Go.ChangeAt Go.RowKit
set_option linter.unusedVariables false

set_option maxHeartbeats 1000000 in
set_option maxRecDepth 100000 in
theorem len64_any (x : Int) (w : World) (h0 : 0 ≤ x) (h1 : x ≤ 18446744073709551615) :
    Calls Try.prog 60 #[.int .u64 x] w fun e w' => e = .returned (.int .i64 (bitLen x.toNat)) ∧ w' = w := by
  have K : Hid (∀ (y n : Int) (b : Nat), n = b → y.toNat = x.toNat / 2 ^ b → y.toNat < 256 → (b = 0 ∨ y.toNat ≠ 0) → b ≤ 64 → wrap64 (n + wrap64 (bitLen y.toNat : Int)) = bitLen x.toNat) := fun y n b => Vb.len_close x y n b ⟨h0, h1⟩
  by_cases h2 : 4294967296 ≤ x
  · by_cases h3 : 65536 ≤ x / 4294967296
    · by_cases h4 : 256 ≤ x / 4294967296 / 65536
      · go_enter Try.func60, Try.ntmps60
        go_wp2
        go_ret
        refine ⟨ret_int ?_, rfl⟩
        rw [len8tab_get]
        exact K.out _ _ 56 rfl (by omega) (by omega) (by omega) (by omega)
      · go_enter Try.func60, Try.ntmps60
        go_wp2
        go_ret
        refine ⟨ret_int ?_, rfl⟩
        rw [len8tab_get]
        exact K.out _ _ 48 rfl (by omega) (by omega) (by omega) (by omega)
    · by_cases h4 : 256 ≤ x / 4294967296
      · go_enter Try.func60, Try.ntmps60
        go_wp2
        go_ret
        refine ⟨ret_int ?_, rfl⟩
        rw [len8tab_get]
        exact K.out _ _ 40 rfl (by omega) (by omega) (by omega) (by omega)
      · go_enter Try.func60, Try.ntmps60
        go_wp2
        go_ret
        refine ⟨ret_int ?_, rfl⟩
        rw [len8tab_get]
        exact K.out _ _ 32 rfl (by omega) (by omega) (by omega) (by omega)
  · by_cases h3 : 65536 ≤ x
    · by_cases h4 : 256 ≤ x / 65536
      · go_enter Try.func60, Try.ntmps60
        go_wp2
        go_ret
        refine ⟨ret_int ?_, rfl⟩
        rw [len8tab_get]
        exact K.out _ _ 24 rfl (by omega) (by omega) (by omega) (by omega)
      · go_enter Try.func60, Try.ntmps60
        go_wp2
        go_ret
        refine ⟨ret_int ?_, rfl⟩
        rw [len8tab_get]
        exact K.out _ _ 16 rfl (by omega) (by omega) (by omega) (by omega)
    · by_cases h4 : 256 ≤ x
      · go_enter Try.func60, Try.ntmps60
        go_wp2
        go_ret
        refine ⟨ret_int ?_, rfl⟩
        rw [len8tab_get]
        exact K.out _ _ 8 rfl (by omega) (by omega) (by omega) (by omega)
      · go_enter Try.func60, Try.ntmps60
        go_wp2
        go_ret
        refine ⟨ret_int ?_, rfl⟩
        rw [len8tab_get]
        have k := K.out x 0 0 rfl (by simp) (by omega) (by omega) (by omega)
        rw [Int.zero_add] at k
        exact k

theorem size_any (v : Int) (w : World) (h : 0 ≤ v ∧ v ≤ 18446744073709551615) :
    Calls Try.prog 50 #[.int .u64 v] w fun e w' => e = .returned (.int .i64 (Vb.vb v).length) ∧ w' = w := by
  have E : Hid (wrap64 ((wrap64 ((bitLen (if v % 2 = 0 then v + 1 else v).toNat : Int) + 6)).tdiv 7) = (Vb.vb v).length) := (Vb.size_eq v h).1
  have O : Hid (bits .or .u64 v 1 = if v % 2 = 0 then v + 1 else v) := Vb.or1 v h
  have X : 0 ≤ (if v % 2 = 0 then v + 1 else v) ∧ (if v % 2 = 0 then v + 1 else v) ≤ 18446744073709551615 := by split <;> omega
  generalize (if v % 2 = 0 then v + 1 else v) = x at E O X
  go_enter Try.func50, Try.ntmps50
  go_wp2_with fail
  rw [O.out]
  refine (len64_any x _ X.1 X.2).mono ?_
  rintro e w' ⟨rfl, rfl⟩
  generalize (bitLen x.toNat : Int) = B at E
  go_wp2
  go_ret
  exact ⟨ret_int E.out, rfl⟩
end Go.Proofs.Ytnpeocoipodmfaa.By

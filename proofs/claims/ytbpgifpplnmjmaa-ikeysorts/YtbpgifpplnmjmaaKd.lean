/- Kinds, numbers, sizes of keys; a number and a kind packed into one, and taken apart: what the program and the document's definition answer. -/
import Derived.Test.YtbpgifpplnmjmaaRows
import Derived.WalkKit
import Derived.ProofKit
import Derived.OpenShut
namespace Go.Proofs.Ytbpgifpplnmjmaa.Kd
open Go.ChangeShapes Go.WideShapes Go.ChangeAt Go.RowKit
set_option linter.unusedVariables false

def kindB (k : Int) : Bool := decide (k = 0 ∨ k = 1 ∨ k = 2 ∨ k = 255)
def sizeB (n : Int) : Bool := decide (1 ≤ n ∧ n ≤ 1024)
def seqB (v : Int) : Bool := decide (v ≤ 72057594037927935)
theorem kind_true {k : Int} (h : kindB k = true) : k = 0 ∨ k = 1 ∨ k = 2 ∨ k = 255 := of_decide_eq_true h
theorem kind_false {k : Int} (h : kindB k = false) : k ≠ 0 ∧ k ≠ 1 ∧ k ≠ 2 ∧ k ≠ 255 := by
  have := of_decide_eq_false h; omega
theorem size_true {n : Int} (h : sizeB n = true) : 1 ≤ n ∧ n ≤ 1024 := of_decide_eq_true h
theorem size_false {n : Int} (h : sizeB n = false) : n < 1 ∨ 1024 < n := by
  have := of_decide_eq_false h; omega
theorem seq_true {n : Int} (h : seqB n = true) : n ≤ 72057594037927935 := of_decide_eq_true h
theorem seq_false {n : Int} (h : seqB n = false) : 72057594037927935 < n := by
  have := of_decide_eq_false h; omega
theorem ret_bool {a b : Bool} (h : a = b) : Ending.returned (.bool a) = .returned (.bool b) := by rw [h]

theorem isSeq_any (v : Int) (w : World) : Calls Try.prog 33 #[.int .u64 v] w fun e w' => e = .returned (.bool (seqB v)) ∧ w' = w := by
  go_enter Try.func33, Try.ntmps33
  go_wp2
  go_ret
  exact ⟨rfl, rfl⟩

theorem isKeySize_any (v : Int) (w : World) : Calls Try.prog 32 #[.int .i64 v] w fun e w' => e = .returned (.bool (sizeB v)) ∧ w' = w := by
  by_cases h : 1 ≤ v
  · have E : Hid (decide (v ≤ 1024) = sizeB v) := by show _ = _; unfold sizeB; simp [h]
    go_enter Try.func32, Try.ntmps32
    go_wp2
    go_ret
    exact ⟨ret_bool E.out, rfl⟩
  · have E : Hid (false = sizeB v) := by show _ = _; unfold sizeB; simp [h]
    go_enter Try.func32, Try.ntmps32
    go_wp2
    go_ret
    exact ⟨ret_bool E.out, rfl⟩

theorem isKind_any (k : Int) (w : World) : Calls Try.prog 34 #[.int .i64 k] w fun e w' => e = .returned (.bool (kindB k)) ∧ w' = w := by
  cases hk : kindB k
  · obtain ⟨h0, h1, h2, h3⟩ := kind_false hk
    clear hk
    have e0 : (k == 0) = false := beq_eq_false_iff_ne.2 h0
    have e1 : (k == 1) = false := beq_eq_false_iff_ne.2 h1
    have e2 : (k == 2) = false := beq_eq_false_iff_ne.2 h2
    have e3 : (k == 255) = false := beq_eq_false_iff_ne.2 h3
    go_enter Try.func34, Try.ntmps34
    go_wp2
    go_ret
    exact ⟨rfl, rfl⟩
  · rcases kind_true hk with rfl | rfl | rfl | rfl
    all_goals
      clear hk
      go_enter Try.func34, Try.ntmps34
      go_wp2
      go_ret
      exact ⟨rfl, rfl⟩

theorem packed (s k : Int) (hs : 0 ≤ s) (hs1 : s ≤ 72057594037927935) (hk : 0 ≤ k) (hk1 : k ≤ 255) : bits .or .u64 (s * 256) k = s * 256 + k := by
  obtain ⟨n, rfl⟩ := Int.eq_ofNat_of_zero_le hs
  obtain ⟨m, rfl⟩ := Int.eq_ofNat_of_zero_le hk
  unfold bits
  simp only [show IntKind.u64.bits = 64 from rfl, IntKind.wrap_u64, BitVec.toNat_or, BitVec.toNat_ofInt]
  have e1 : (((n : Int) * 256) % ((2 ^ 64 : Nat) : Int)).toNat = n <<< 8 := by rw [Nat.shiftLeft_eq]; omega
  have e2 : ((m : Int) % ((2 ^ 64 : Nat) : Int)).toNat = m := by omega
  rw [e1, e2, ← Nat.shiftLeft_add_eq_or_of_lt (by omega : m < 2 ^ 8), Nat.shiftLeft_eq]
  omega
theorem and255 (v : Int) (h : 0 ≤ v) (h1 : v ≤ 18446744073709551615) : bits .and .u64 v 255 = v % 256 := by
  obtain ⟨n, rfl⟩ := Int.eq_ofNat_of_zero_le h
  unfold bits
  simp only [show IntKind.u64.bits = 64 from rfl, IntKind.wrap_u64, BitVec.toNat_and, BitVec.toNat_ofInt]
  have e1 : ((n : Int) % ((2 ^ 64 : Nat) : Int)).toNat = n := by omega
  have e2 : ((255 : Int) % ((2 ^ 64 : Nat) : Int)).toNat = 2 ^ 8 - 1 := by decide
  rw [e1, e2, Nat.and_two_pow_sub_one_eq_mod]
  omega

/-- What Pack answers. -/
def pk (s k : Int) : Int := if seqB s = true ∧ kindB k = true then s * 256 + k else 0
def pkE (s k : Int) : Int := if seqB s = true ∧ kindB k = true then 0 else 2

theorem pack_no1 (s k : Int) (h : seqB s = false) (w : World) : Calls Try.prog 14 #[.int .u64 s, .int .i64 k] w fun e w' => e = .returned (.tuple #[.int .u64 (pk s k), .int .i64 (pkE s k)]) ∧ w' = w := by
  have E : pk s k = 0 ∧ pkE s k = 2 := by unfold pk pkE; simp [h]
  rw [E.1, E.2]
  clear E
  go_enter Try.func14, Try.ntmps14
  go_wp2_with fail
  refine (isSeq_any s _).mono ?_
  rw [h]
  rintro e w' ⟨rfl, rfl⟩
  go_wp2_with fail
  go_ret2
  exact ⟨rfl, rfl⟩
theorem pack_no2 (s k : Int) (h : seqB s = true) (hk : kindB k = false) (w : World) : Calls Try.prog 14 #[.int .u64 s, .int .i64 k] w fun e w' => e = .returned (.tuple #[.int .u64 (pk s k), .int .i64 (pkE s k)]) ∧ w' = w := by
  have E : pk s k = 0 ∧ pkE s k = 2 := by unfold pk pkE; simp [h, hk]
  rw [E.1, E.2]
  clear E
  go_enter Try.func14, Try.ntmps14
  go_wp2_with fail
  refine (isSeq_any s _).mono ?_
  rw [h]
  rintro e w' ⟨rfl, rfl⟩
  go_wp2_with fail
  refine (isKind_any k _).mono ?_
  rw [hk]
  rintro e w' ⟨rfl, rfl⟩
  go_wp2_with fail
  go_ret2
  exact ⟨rfl, rfl⟩
theorem ret2 {k k' : IntKind} {a b c d : Int} (h : a = b) (h' : c = d) : Ending.returned (.tuple #[.int k a, .int k' c]) = .returned (.tuple #[.int k b, .int k' d]) := by rw [h, h']
theorem ret3 {k k' k'' : IntKind} {a b c d x y : Int} (h : a = b) (h' : c = d) (h'' : x = y) : Ending.returned (.tuple #[.int k a, .int k' c, .int k'' x]) = .returned (.tuple #[.int k b, .int k' d, .int k'' y]) := by rw [h, h', h'']
theorem pack_yes (s k : Int) (hs : 0 ≤ s) (h : seqB s = true) (hk : kindB k = true) (w : World) : Calls Try.prog 14 #[.int .u64 s, .int .i64 k] w fun e w' => e = .returned (.tuple #[.int .u64 (pk s k), .int .i64 (pkE s k)]) ∧ w' = w := by
  have h1 := seq_true h
  have h2 : 0 ≤ k ∧ k ≤ 255 := by have := kind_true hk; omega
  obtain ⟨h2, h3⟩ := h2
  have E : Hid (bits .or .u64 (s * 256) k = pk s k) := by show _ = _; rw [packed s k hs h1 h2 h3]; unfold pk; simp [h, hk]
  have E' : Hid (0 = pkE s k) := by show _ = _; unfold pkE; simp [h, hk]
  go_enter Try.func14, Try.ntmps14
  go_wp2_with fail
  refine (isSeq_any s _).mono ?_
  rw [h]
  rintro e w' ⟨rfl, rfl⟩
  go_wp2_with fail
  refine (isKind_any k _).mono ?_
  rw [hk]
  rintro e w' ⟨rfl, rfl⟩
  go_wp2_with fail
  go_ret2
  exact ⟨ret2 E.out E'.out, rfl⟩
theorem pack_any (s k : Int) (hs : 0 ≤ s) (w : World) : Calls Try.prog 14 #[.int .u64 s, .int .i64 k] w fun e w' => e = .returned (.tuple #[.int .u64 (pk s k), .int .i64 (pkE s k)]) ∧ w' = w := by
  cases h : seqB s
  · exact pack_no1 s k h w
  · cases hk : kindB k
    · exact pack_no2 s k h hk w
    · exact pack_yes s k hs h hk w

/-- What Unpack answers. -/
def un0 (v : Int) : Int := if kindB (v % 256) = true then v / 256 else 0
def un1 (v : Int) : Int := if kindB (v % 256) = true then v % 256 else 0
def unE (v : Int) : Int := if kindB (v % 256) = true then 0 else 30
theorem unpack_any (v : Int) (hv : 0 ≤ v) (hv1 : v ≤ 18446744073709551615) (w : World) : Calls Try.prog 16 #[.int .u64 v] w fun e w' => e = .returned (.tuple #[.int .u64 (un0 v), .int .i64 (un1 v), .int .i64 (unE v)]) ∧ w' = w := by
  have E : Hid (bits .and .u64 v 255 = v % 256) := and255 v hv hv1
  have b1 : 0 ≤ v % 256 := by omega
  have b2 : v % 256 ≤ 255 := by omega
  cases hk : kindB (v % 256)
  · have E1 : Hid (0 = un0 v ∧ 0 = un1 v ∧ 30 = unE v) := by show _ ∧ _; unfold un0 un1 unE; simp [hk]
    generalize hr : v % 256 = r at *
    clear hr
    have W : Hid (wrap64 r = r) := by show _ = _; unfold wrap64; omega
    go_enter Try.func16, Try.ntmps16
    go_wp2_with fail
    rw [E.out]
    go_wp2_with fail
    rw [W.out]
    refine (isKind_any _ _).mono ?_
    rw [hk]
    rintro e w' ⟨rfl, rfl⟩
    go_wp2_with fail
    go_ret3
    exact ⟨ret3 E1.out.1 E1.out.2.1 E1.out.2.2, rfl⟩
  · have E1 : Hid (v / 256 = un0 v ∧ v % 256 = un1 v ∧ 0 = unE v) := by show _ ∧ _; unfold un0 un1 unE; simp [hk]
    generalize hr : v % 256 = r at *
    clear hr
    have W : Hid (wrap64 r = r) := by show _ = _; unfold wrap64; omega
    go_enter Try.func16, Try.ntmps16
    go_wp2_with fail
    rw [E.out]
    go_wp2_with fail
    rw [W.out]
    refine (isKind_any _ _).mono ?_
    rw [hk]
    rintro e w' ⟨rfl, rfl⟩
    go_wp2_with fail
    go_ret3
    exact ⟨ret3 E1.out.1 E1.out.2.1 E1.out.2.2, rfl⟩
end Go.Proofs.Ytbpgifpplnmjmaa.Kd

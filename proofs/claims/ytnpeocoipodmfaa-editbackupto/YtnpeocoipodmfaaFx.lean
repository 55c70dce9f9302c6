/- Plain arithmetic of numbers of four and eight bytes, the lowest first: the number of bytes, its bounds, the exclusive steps by which it is put together, and the bytes of a number. -/
import Derived.Test.YtnpeocoipodmfaaVb
namespace Go.Proofs.Ytnpeocoipodmfaa.Fx
open Go.RowKit
set_option linter.unusedVariables false

def le : List Int → Int
  | [] => 0
  | y :: r => y + 256 * le r
theorem le_snoc (xs : List Int) (y : Int) : le (xs ++ [y]) = le xs + y * 256 ^ xs.length := by
  induction xs with
  | nil => simp [le]
  | cons x r ih =>
    simp only [List.cons_append, le, ih, List.length_cons, Int.pow_succ]
    rw [Int.mul_add, ← Int.mul_assoc, Int.mul_comm 256 y, Int.mul_assoc, Int.mul_comm 256 (256 ^ r.length)]
    omega
theorem le_bd (xs : List Int) (h : ∀ y ∈ xs, 0 ≤ y ∧ y ≤ 255) : 0 ≤ le xs ∧ le xs < 256 ^ xs.length := by
  induction xs with
  | nil => simp [le]
  | cons x r ih =>
    have hx := h x (by simp)
    have := ih (fun y hy => h y (by simp [hy]))
    simp only [le, List.length_cons, Int.pow_succ]
    omega
def fread (zs : List Int) (p : Int) (n : Nat) : Int × Int × Int :=
  if p < 0 ∨ (zs.length : Int) < p then (0, 0, 2) else if (zs.length : Int) - p < n then (0, 0, 10) else (le ((zs.drop p.toNat).take n), p + n, 0)

theorem pow256 (k : Nat) : (2 : Nat) ^ (8 * k) = 256 ^ k := by rw [Nat.pow_mul]
theorem ipow256 (k : Nat) : (2 : Int) ^ (8 * k) = 256 ^ k := by rw [Int.pow_mul]; rfl
theorem pow_le7 (k : Nat) (h : k ≤ 7) : (256 : Nat) ^ k ≤ 72057594037927936 := by
  have : (256 : Nat) ^ k ≤ 256 ^ 7 := Nat.pow_le_pow_right (by omega) h
  have e : (256 : Nat) ^ 7 = 72057594037927936 := by decide
  omega
theorem or_eq (u y : Int) (k : Nat) (hu : 0 ≤ u ∧ u < 256 ^ k) (hy : 0 ≤ y ∧ y ≤ 255) (hk : k ≤ 7) :
    bits .or .u64 u (IntKind.u64.wrap (y * 2 ^ (8 * k))) = u + y * 256 ^ k := by
  obtain ⟨c, hc⟩ : ∃ c : Nat, y = (c : Int) := ⟨y.toNat, by omega⟩
  obtain ⟨n, hn⟩ : ∃ n : Nat, u = (n : Int) := ⟨u.toNat, by omega⟩
  have hP : ((256 : Int) ^ k) = ((256 ^ k : Nat) : Int) := by simp
  have hP2 : ((2 : Int) ^ (8 * k)) = ((256 ^ k : Nat) : Int) := by rw [ipow256]; simp
  rw [hc, hn, hP, hP2]
  rw [hn, hP] at hu
  have hb : c * 256 ^ k + n < 18446744073709551616 := by
    have := pow_le7 k hk
    have hc1 : c ≤ 255 := by omega
    have : c * 256 ^ k ≤ 255 * 256 ^ k := Nat.mul_le_mul_right _ hc1
    omega
  rw [← Int.natCast_mul]
  have e2 : IntKind.u64.wrap ((c * 256 ^ k : Nat) : Int) = ((c * 256 ^ k : Nat) : Int) := by rw [IntKind.wrap_u64]; omega
  rw [e2]
  have := Vb.or_disj n c (8 * k) (by rw [pow256]; omega) (by rw [pow256]; exact hb)
  rw [pow256] at this
  rw [this]
  omega
theorem le_take (ys : List Int) (k : Nat) (hk : k < ys.length) : le (ys.take (k + 1)) = le (ys.take k) + ys.getD k 0 * 256 ^ k := by
  rw [List.take_succ_eq_append_getElem hk, le_snoc, List.length_take, Nat.min_eq_left (by omega)]
  rw [List.getD_eq_getElem?_getD, List.getElem?_eq_getElem hk]; rfl
theorem le_drop (ys : List Int) (k : Nat) (hk : k < ys.length) : le (ys.drop k) = ys.getD k 0 + 256 * le (ys.drop (k + 1)) := by
  rw [List.drop_eq_getElem_cons hk, le]
  rw [List.getD_eq_getElem?_getD, List.getElem?_eq_getElem hk]; rfl
theorem le_take_bd (ys : List Int) (h : ∀ y ∈ ys, 0 ≤ y ∧ y ≤ 255) (k : Nat) (hk : k ≤ ys.length) : 0 ≤ le (ys.take k) ∧ le (ys.take k) < 256 ^ k := by
  have := le_bd (ys.take k) (fun y hy => h y (List.mem_of_mem_take hy))
  rw [List.length_take, Nat.min_eq_left hk] at this
  exact this
theorem le_drop_bd (ys : List Int) (h : ∀ y ∈ ys, 0 ≤ y ∧ y ≤ 255) (k : Nat) : 0 ≤ le (ys.drop k) ∧ le (ys.drop k) < 256 ^ (ys.length - k) := by
  have := le_bd (ys.drop k) (fun y hy => h y (List.mem_of_mem_drop hy))
  rw [List.length_drop] at this
  exact this
theorem p256_8 (k : Nat) (h : k ≤ 8) : (256 : Int) ^ k ≤ 18446744073709551616 := by
  have : (256 : Nat) ^ k ≤ 256 ^ 8 := Nat.pow_le_pow_right (by omega) h
  have e : (256 : Nat) ^ 8 = 18446744073709551616 := by decide
  have c : ((256 : Int) ^ k) = ((256 ^ k : Nat) : Int) := by simp
  omega
theorem p256_4 : (256 : Int) ^ 4 = 4294967296 := by decide

theorem fread_lt4 (zs : List Int) (p : Int) (h : ∀ y ∈ zs, 0 ≤ y ∧ y ≤ 255) : 0 ≤ (fread zs p 4).1 ∧ (fread zs p 4).1 < 4294967296 := by
  unfold fread
  split
  · simp
  · split
    · simp
    · have := le_take_bd (zs.drop p.toNat) (fun y hy => h y (List.mem_of_mem_drop hy)) 4 (by rw [List.length_drop]; omega)
      rw [p256_4] at this
      exact this
end Go.Proofs.Ytnpeocoipodmfaa.Fx

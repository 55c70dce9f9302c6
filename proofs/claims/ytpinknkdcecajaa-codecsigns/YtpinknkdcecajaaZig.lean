/- Plain arithmetic of numbers with a sign told as numbers without: what the shifts and the exclusive or of Zig and Zag come to, and that each takes the other back. -/
import Derived.WalkKit
import Derived.ProofKit
import Derived.OpenShut
namespace Go.Proofs.Ytpinknkdcecajaa.Zz
open Go.RowKit

def zig (v : Int) : Int := if v < 0 then -2 * v - 1 else 2 * v
def zag (v : Int) : Int := if v % 2 = 1 then -(v / 2) - 1 else v / 2

theorem b64 {v : Int} (h : (Lit.int .i64 v).wf = true) : -9223372036854775808 ≤ v ∧ v ≤ 9223372036854775807 := by
  simpa [Lit.wf, IntKind.min, IntKind.max, IntKind.signed, IntKind.bits] using h
theorem bu64 {v : Int} (h : (Lit.int .u64 v).wf = true) : 0 ≤ v ∧ v ≤ 18446744073709551615 := by
  simpa [Lit.wf, IntKind.min, IntKind.max, IntKind.signed, IntKind.bits] using h
theorem wrap_i64 (n : Int) : IntKind.i64.wrap n = if n % 18446744073709551616 ≥ 9223372036854775808 then n % 18446744073709551616 - 18446744073709551616 else n % 18446744073709551616 := by
  simp [IntKind.wrap, IntKind.bits, IntKind.signed]
theorem xor0 (k : IntKind) (a : Int) : bits .xor k a 0 = k.wrap ((BitVec.ofInt k.bits a).toNat : Int) := by
  unfold bits; simp
theorem xor1 (k : IntKind) (a : Int) : bits .xor k a (-1) = k.wrap ((~~~(BitVec.ofInt k.bits a)).toNat : Int) := by
  unfold bits
  have e : BitVec.ofInt k.bits (-1) = BitVec.allOnes k.bits := by
    cases k <;> rfl
  simp only [e, BitVec.xor_allOnes]
theorem ofInt_emod (a : Int) : BitVec.ofInt 64 (a % 18446744073709551616) = BitVec.ofInt 64 a := by
  apply BitVec.eq_of_toNat_eq
  simp only [BitVec.toNat_ofInt]
  omega
theorem bits_xor_r (a b : Int) : bits .xor .u64 a (IntKind.u64.wrap b) = bits .xor .u64 a b := by
  rw [IntKind.wrap_u64]
  have e : BitVec.ofInt IntKind.u64.bits (b % 18446744073709551616) = BitVec.ofInt IntKind.u64.bits b := ofInt_emod b
  unfold bits
  simp only [e]

theorem zig_eq (v : Int) (h : -9223372036854775808 ≤ v ∧ v ≤ 9223372036854775807) :
    bits .xor .u64 (IntKind.u64.wrap (IntKind.u64.wrap v * 2)) (IntKind.u64.wrap (v / 9223372036854775808)) = zig v := by
  rw [bits_xor_r]
  unfold zig
  by_cases hv : v < 0
  · have e : v / 9223372036854775808 = -1 := by omega
    rw [e, xor1, if_pos hv]
    simp only [IntKind.wrap_u64, show IntKind.u64.bits = 64 from rfl, BitVec.toNat_not, BitVec.toNat_ofInt]
    omega
  · have e : v / 9223372036854775808 = 0 := by omega
    rw [e, xor0, if_neg hv]
    simp only [IntKind.wrap_u64, show IntKind.u64.bits = 64 from rfl, BitVec.toNat_ofInt]
    omega

theorem and1 (v : Int) : bits .and .u64 v 1 = v % 2 := by
  unfold bits
  simp only [show IntKind.u64.bits = 64 from rfl, IntKind.wrap_u64, BitVec.toNat_and, BitVec.toNat_ofInt]
  have e : ((1 : Int) % ((2 ^ 64 : Nat) : Int)).toNat = 1 := by decide
  rw [e, Nat.and_one_is_mod]
  omega

theorem zag_eq (v : Int) (h : 0 ≤ v ∧ v ≤ 18446744073709551615) :
    bits .xor .i64 (wrap64 (v / 2)) (wrap64 (-wrap64 (bits .and .u64 v 1))) = zag v := by
  rw [and1]
  have e1 : wrap64 (v / 2) = v / 2 := by unfold wrap64; omega
  have e2 : wrap64 (v % 2) = v % 2 := by unfold wrap64; omega
  rw [e1, e2]
  have e3 : wrap64 (-(v % 2)) = -(v % 2) := by unfold wrap64; omega
  rw [e3]
  unfold zag
  by_cases hv : v % 2 = 1
  · rw [hv, xor1, if_pos rfl, wrap_i64]
    simp only [show IntKind.i64.bits = 64 from rfl, BitVec.toNat_not, BitVec.toNat_ofInt]
    omega
  · have h0 : v % 2 = 0 := by omega
    rw [if_neg hv, h0, show (-0 : Int) = 0 from rfl, xor0, wrap_i64]
    simp only [show IntKind.i64.bits = 64 from rfl, BitVec.toNat_ofInt]
    omega

theorem zig_bd (v : Int) (h : -9223372036854775808 ≤ v ∧ v ≤ 9223372036854775807) : 0 ≤ zig v ∧ zig v ≤ 18446744073709551615 := by
  unfold zig; split <;> omega
theorem zag_bd (v : Int) (h : 0 ≤ v ∧ v ≤ 18446744073709551615) : -9223372036854775808 ≤ zag v ∧ zag v ≤ 9223372036854775807 := by
  unfold zag; split <;> omega
theorem zag_zig (v : Int) : zag (zig v) = v := by
  unfold zag zig; split <;> split <;> omega
theorem zig_zag (v : Int) (h : 0 ≤ v) : zig (zag v) = v := by
  unfold zag zig; split <;> split <;> omega
theorem zig_small (v : Int) (h : -2147483648 ≤ v) (h2 : v < 2147483648) : zig v < 4294967296 := by
  unfold zig; split <;> omega
end Go.Proofs.Ytpinknkdcecajaa.Zz

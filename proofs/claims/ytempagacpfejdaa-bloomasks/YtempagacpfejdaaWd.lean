/- Words of 32 bits as numbers; a text's bytes; the number of a key, in plain words. -/
import Derived.WalkKit
import Derived.ProofKit
import Derived.OpenShut
import Derived.Below
namespace Go.Proofs.Ytempagacpfejdaa.Wd
open Go.RowKit
set_option linter.unusedVariables false

theorem hid {p : Prop} (h : p) : Hid p := h
/-! ### Words as numbers -/
def toI (r : BitVec 32) : Int := (r.toNat : Int)
theorem toI_bd (r : BitVec 32) : 0 ≤ toI r ∧ toI r ≤ 4294967295 := by have := r.isLt; unfold toI; omega
theorem toI_inj (x y : BitVec 32) (h : toI x = toI y) : x = y := by
  apply BitVec.eq_of_toNat_eq; unfold toI at h; omega
theorem toI_ofI (a : Int) (h : 0 ≤ a ∧ a ≤ 4294967295) : toI (BitVec.ofInt 32 a) = a := by
  unfold toI; rw [BitVec.toNat_ofInt]; omega
theorem ofI_toI (x : BitVec 32) : BitVec.ofInt 32 (toI x) = x := by
  apply toI_inj; exact toI_ofI _ (toI_bd x)
theorem wrap_u32 (n : Int) : IntKind.u32.wrap n = n % 4294967296 := by simp [IntKind.wrap, IntKind.bits, IntKind.signed]
theorem wrap_toI (x : BitVec 32) : IntKind.u32.wrap (toI x) = toI x := by
  have := toI_bd x; rw [wrap_u32]; omega
theorem xor_i (x y : BitVec 32) : bits .xor .u32 (toI x) (toI y) = toI (x ^^^ y) := by
  show IntKind.u32.wrap ((BitVec.ofInt 32 (toI x) ^^^ BitVec.ofInt 32 (toI y)).toNat : Int) = _
  rw [ofI_toI, ofI_toI]; exact wrap_toI _
theorem or_i (x y : BitVec 32) : bits .or .u32 (toI x) (toI y) = toI (x ||| y) := by
  show IntKind.u32.wrap ((BitVec.ofInt 32 (toI x) ||| BitVec.ofInt 32 (toI y)).toNat : Int) = _
  rw [ofI_toI, ofI_toI]; exact wrap_toI _
theorem shr_i (x : BitVec 32) (k : Nat) : toI x / 2 ^ k = toI (x >>> k) := by
  unfold toI
  rw [BitVec.toNat_ushiftRight, Nat.shiftRight_eq_div_pow]
  simp
theorem shl_i (x : BitVec 32) (k : Nat) : IntKind.u32.wrap (toI x * 2 ^ k) = toI (x <<< k) := by
  unfold toI
  rw [wrap_u32, BitVec.toNat_shiftLeft, Nat.shiftLeft_eq]
  simp
theorem add_i (x y : BitVec 32) : IntKind.u32.wrap (toI x + toI y) = toI (x + y) := by
  unfold toI
  rw [wrap_u32, BitVec.toNat_add]
  simp
theorem mul_i (x y : BitVec 32) : IntKind.u32.wrap (toI x * toI y) = toI (x * y) := by
  unfold toI
  rw [wrap_u32, BitVec.toNat_mul]
  simp
theorem shr16 (x : BitVec 32) : toI x / (65536 : Int) = toI (x >>> 16) := shr_i x 16
theorem shr24 (x : BitVec 32) : toI x / (16777216 : Int) = toI (x >>> 24) := shr_i x 24
theorem shr17 (x : BitVec 32) : toI x / (131072 : Int) = toI (x >>> 17) := shr_i x 17
theorem shl8 (x : BitVec 32) : toI x * (256 : Int) % (4294967296 : Int) = toI (x <<< 8) := by
  have := shl_i x 8; rw [wrap_u32] at this; exact this
theorem shl16 (x : BitVec 32) : toI x * (65536 : Int) % (4294967296 : Int) = toI (x <<< 16) := by
  have := shl_i x 16; rw [wrap_u32] at this; exact this
theorem shl24 (x : BitVec 32) : toI x * (16777216 : Int) % (4294967296 : Int) = toI (x <<< 24) := by
  have := shl_i x 24; rw [wrap_u32] at this; exact this
theorem shl15 (x : BitVec 32) : toI x * (32768 : Int) % (4294967296 : Int) = toI (x <<< 15) := by
  have := shl_i x 15; rw [wrap_u32] at this; exact this
theorem add_m (x y : BitVec 32) : (toI x + toI y) % (4294967296 : Int) = toI (x + y) := by
  have := add_i x y; rw [wrap_u32] at this; exact this
def fac : BitVec 32 := 0xc6a4a793#32
theorem fac_i : (3332679571 : Int) = toI fac := by decide
theorem mul_m (x : BitVec 32) : (toI x * 3332679571) % (4294967296 : Int) = toI (x * fac) := by
  have := mul_i x fac; rw [wrap_u32, ← fac_i] at this; exact this

/-! ### Bytes -/
def bt (s : ByteArray) (j : Nat) : Nat := (s.get! j).toNat
theorem bt_lt (s : ByteArray) (j : Nat) : bt s j < 256 := (s.get! j).toNat_lt
def b8 (s : ByteArray) (j : Nat) : BitVec 32 := BitVec.ofNat 32 (bt s j)
theorem b8_i (s : ByteArray) (j : Nat) : (bt s j : Int) = toI (b8 s j) := by
  have := bt_lt s j
  unfold toI b8; rw [BitVec.toNat_ofNat]; omega

/-! ### The number of a key -/
def mix (r : Nat) (h x : BitVec 32) : BitVec 32 := ((h + x) * fac) ^^^ (((h + x) * fac) >>> r)
def n4 (s : ByteArray) (p : Nat) : BitVec 32 := ((b8 s p ||| b8 s (p + 1) <<< 8) ||| b8 s (p + 2) <<< 16) ||| b8 s (p + 3) <<< 24
/-- Behind k words. -/
def hs (s : ByteArray) (h : BitVec 32) : Nat → BitVec 32
  | 0 => h
  | k + 1 => mix 16 (hs s h k) (n4 s (4 * k))
/-- What is left: one, two or three bytes from p on. -/
def rest (s : ByteArray) (p n : Nat) (h : BitVec 32) : BitVec 32 :=
  if n = 3 then mix 24 (h + b8 s (p + 2) <<< 16 + b8 s (p + 1) <<< 8) (b8 s p)
  else if n = 2 then mix 24 (h + b8 s (p + 1) <<< 8) (b8 s p)
  else if n = 1 then mix 24 h (b8 s p) else h
def st0 (s : ByteArray) (seed : BitVec 32) : BitVec 32 := seed ^^^ (BitVec.ofNat 32 s.size * fac)
def hsh (s : ByteArray) (seed : BitVec 32) : BitVec 32 := rest s (4 * (s.size / 4)) (s.size % 4) (hs s (st0 s seed) (s.size / 4))
end Go.Proofs.Ytempagacpfejdaa.Wd

/- Plain arithmetic of varints: the bytes of a number, the number that stands in bytes, that the one takes the other back, and how many bytes there are. -/
import Derived.WalkKit
import Derived.ProofKit
import Derived.OpenShut
import Derived.Laws.MathBits
namespace Go.Proofs.Ytnpeocoipodmfaa.Vb
open Go.RowKit
set_option linter.unusedVariables false

/-- The bytes of a number, with fuel. -/
def vbF : Nat → Int → List Int
  | 0, v => [v]
  | n + 1, v => if v < 128 then [v] else (v % 128 + 128) :: vbF n (v / 128)
def vb (v : Int) : List Int := vbF 9 v
theorem vbF_small (n : Nat) (v : Int) (h : v < 128) : vbF n v = [v] := by
  cases n with
  | zero => rfl
  | succ n => simp [vbF, h]
theorem vbF_step (n : Nat) (v : Int) (h : 128 ≤ v) : vbF (n + 1) v = (v % 128 + 128) :: vbF n (v / 128) := by
  simp only [vbF]; rw [if_neg (by omega)]

/-- What is read: the number, the place behind it, the error. -/
def rd (p : Int) : Nat → Int → List Int → Int × Int × Int
  | _, _, [] => (0, 0, 10)
  | k, u, y :: r => if k = 9 ∧ 1 < y then (0, 0, 11) else if 128 ≤ y then rd p (k + 1) (u + y % 128 * 128 ^ k) r else if y = 0 ∧ 0 < k then (0, 0, 11) else (u + y % 128 * 128 ^ k, p + k + 1, 0)
def vread (zs : List Int) (p : Int) : Int × Int × Int := if p < 0 ∨ (zs.length : Int) < p then (0, 0, 2) else rd p 0 0 (zs.drop p.toNat)

theorem pow7 (k : Nat) : (2 : Int) ^ (7 * k) = 128 ^ k := by
  rw [Int.pow_mul]; rfl
theorem npow7 (k : Nat) : (2 : Nat) ^ (7 * k) = 128 ^ k := by
  rw [Nat.pow_mul]
theorem pow_le9 (k : Nat) (h : k ≤ 9) : (128 : Nat) ^ k ≤ 9223372036854775808 := by
  have : (128 : Nat) ^ k ≤ 128 ^ 9 := Nat.pow_le_pow_right (by omega) h
  have e : (128 : Nat) ^ 9 = 9223372036854775808 := by decide
  omega
theorem pow_le8 (k : Nat) (h : k < 9) : (128 : Nat) ^ k ≤ 72057594037927936 := by
  have : (128 : Nat) ^ k ≤ 128 ^ 8 := Nat.pow_le_pow_right (by omega) (by omega)
  have e : (128 : Nat) ^ 8 = 72057594037927936 := by decide
  omega

theorem and127 (y : Int) (h : 0 ≤ y ∧ y ≤ 255) : bits .and .u8 y 127 = y % 128 := by
  unfold bits
  simp only [show IntKind.u8.bits = 8 from rfl, BitVec.toNat_and, BitVec.toNat_ofInt]
  have e : ((127 : Int) % ((2 ^ 8 : Nat) : Int)).toNat = 2 ^ 7 - 1 := by decide
  rw [e, Nat.and_two_pow_sub_one_eq_mod]
  simp only [IntKind.wrap, IntKind.signed, IntKind.bits, Bool.false_and, Bool.false_eq_true, if_false]
  omega

theorem or_disj (u : Nat) (c k : Nat) (hu : u < 2 ^ k) (hs : c * 2 ^ k + u < 18446744073709551616) :
    bits .or .u64 (u : Int) ((c * 2 ^ k : Nat) : Int) = ((c * 2 ^ k + u : Nat) : Int) := by
  have h1 : (BitVec.ofInt 64 (u : Int)).toNat = u := by
    rw [BitVec.ofInt_natCast, BitVec.toNat_ofNat]; exact Nat.mod_eq_of_lt (by omega)
  have h2 : (BitVec.ofInt 64 ((c * 2 ^ k : Nat) : Int)).toNat = c * 2 ^ k := by
    rw [BitVec.ofInt_natCast, BitVec.toNat_ofNat]; exact Nat.mod_eq_of_lt (by omega)
  show IntKind.u64.wrap ((BitVec.ofInt 64 (u : Int) ||| BitVec.ofInt 64 ((c * 2 ^ k : Nat) : Int)).toNat : Int) = _
  rw [BitVec.toNat_or, h1, h2, Nat.or_comm]
  have e : c * 2 ^ k ||| u = c * 2 ^ k + u := by
    have := Nat.shiftLeft_add_eq_or_of_lt hu c
    rw [Nat.shiftLeft_eq] at this
    exact this.symm
  rw [e, IntKind.wrap_u64]
  omega

theorem or_eq (u y : Int) (k : Nat) (hu : 0 ≤ u ∧ u < 128 ^ k) (hy : 0 ≤ y ∧ y ≤ 255) (hk : k ≤ 9) (h9 : k = 9 → y ≤ 1) :
    bits .or .u64 u (IntKind.u64.wrap (IntKind.u64.wrap (bits .and .u8 y 127) * 2 ^ (7 * k))) = u + y % 128 * 128 ^ k := by
  rw [and127 y hy]
  obtain ⟨c, hc⟩ : ∃ c : Nat, y % 128 = (c : Int) := ⟨(y % 128).toNat, by omega⟩
  obtain ⟨n, hn⟩ : ∃ n : Nat, u = (n : Int) := ⟨u.toNat, by omega⟩
  have hP : ((128 : Int) ^ k) = ((128 ^ k : Nat) : Int) := by simp
  have hP2 : ((2 : Int) ^ (7 * k)) = ((128 ^ k : Nat) : Int) := by rw [pow7]; simp
  rw [hc, hn, hP, hP2]
  rw [hn, hP] at hu
  have hb : c * 128 ^ k + n < 18446744073709551616 := by
    by_cases h : k = 9
    · have := h9 h
      have hc1 : c ≤ 1 := by omega
      have := pow_le9 k hk
      have : c * 128 ^ k ≤ 1 * 128 ^ k := Nat.mul_le_mul_right _ hc1
      omega
    · have := pow_le8 k (by omega)
      have hc1 : c ≤ 127 := by omega
      have : c * 128 ^ k ≤ 127 * 128 ^ k := Nat.mul_le_mul_right _ hc1
      omega
  have e1 : IntKind.u64.wrap (c : Int) = (c : Int) := by rw [IntKind.wrap_u64]; omega
  rw [e1, ← Int.natCast_mul]
  have e2 : IntKind.u64.wrap ((c * 128 ^ k : Nat) : Int) = ((c * 128 ^ k : Nat) : Int) := by rw [IntKind.wrap_u64]; omega
  rw [e2]
  have := or_disj n c (7 * k) (by rw [npow7]; omega) (by rw [npow7]; exact hb)
  rw [npow7] at this
  rw [this]
  omega

theorem acc_lt (u y : Int) (k : Nat) (hu : 0 ≤ u ∧ u < 128 ^ k) (hy : 0 ≤ y) : 0 ≤ u + y % 128 * 128 ^ k ∧ u + y % 128 * 128 ^ k < 128 ^ (k + 1) := by
  have hp : (0 : Int) < 128 ^ k := by omega
  have h0 : 0 ≤ y % 128 := by omega
  have h1 : y % 128 ≤ 127 := by omega
  have h2 : 0 ≤ y % 128 * 128 ^ k := Int.mul_nonneg h0 (by omega)
  have h3 : y % 128 * 128 ^ k ≤ 127 * 128 ^ k := Int.mul_le_mul_of_nonneg_right h1 (by omega)
  rw [Int.pow_succ]
  omega

/-! ### How many bytes there are -/
theorem or1 (v : Int) (h : 0 ≤ v ∧ v ≤ 18446744073709551615) : bits .or .u64 v 1 = if v % 2 = 0 then v + 1 else v := by
  obtain ⟨n, hn⟩ : ∃ n : Nat, v = (n : Int) := ⟨v.toNat, by omega⟩
  subst hn
  have h1 : (BitVec.ofInt 64 (n : Int)).toNat = n := by
    rw [BitVec.ofInt_natCast, BitVec.toNat_ofNat]; exact Nat.mod_eq_of_lt (by omega)
  show IntKind.u64.wrap ((BitVec.ofInt 64 (n : Int) ||| BitVec.ofInt 64 1).toNat : Int) = _
  rw [BitVec.toNat_or, h1, show (BitVec.ofInt 64 1).toNat = 1 from rfl, IntKind.wrap_u64]
  have e : n ||| 1 = if n % 2 = 0 then n + 1 else n := by
    have hd : n = n / 2 * 2 + n % 2 := by omega
    by_cases h2 : n % 2 = 0
    · rw [if_pos h2]
      have := Nat.shiftLeft_add_eq_or_of_lt (show 1 < 2 ^ 1 by omega) (n / 2)
      rw [Nat.shiftLeft_eq] at this
      have e2 : n / 2 * 2 ^ 1 = n := by omega
      rw [e2] at this
      exact this.symm
    · rw [if_neg h2]
      have t := Nat.shiftLeft_add_eq_or_of_lt (show 1 < 2 ^ 1 by omega) (n / 2)
      rw [Nat.shiftLeft_eq] at t
      have e2 : n / 2 * 2 ^ 1 + 1 = n := by omega
      rw [e2] at t
      rw [t, Nat.or_assoc, Nat.or_self]
  rw [e]
  split <;> split <;> omega

theorem log2_or1 (v : Nat) : Nat.log2 (if v % 2 = 0 then v + 1 else v) = Nat.log2 v := by
  split
  · rename_i h
    by_cases h0 : v = 0
    · subst h0; rfl
    · obtain ⟨k, hk⟩ : ∃ k, Nat.log2 v = k := ⟨_, rfl⟩
      have hs := (Nat.log2_eq_iff h0).1 hk
      rw [hk, Nat.log2_eq_iff (by omega)]
      have e : 2 ^ (k + 1) = 2 * 2 ^ k := by rw [Nat.pow_succ]; omega
      omega
  · rfl
theorem log2_div (v : Nat) (h : 128 ≤ v) : Nat.log2 (v / 128) = Nat.log2 v - 7 ∧ 7 ≤ Nat.log2 v := by
  have h0 : v ≠ 0 := by omega
  have h7 : 7 ≤ Nat.log2 v := (Nat.le_log2 h0).2 (by omega)
  refine ⟨?_, h7⟩
  obtain ⟨k, hk⟩ : ∃ k, Nat.log2 v = k := ⟨_, rfl⟩
  have hs := (Nat.log2_eq_iff h0).1 hk
  rw [hk] at h7 ⊢
  rw [Nat.log2_eq_iff (by omega)]
  obtain ⟨j, rfl⟩ : ∃ j, k = j + 7 := ⟨k - 7, by omega⟩
  have e1 : 2 ^ (j + 7) = 2 ^ j * 128 := by rw [Nat.pow_add]
  have e2 : 2 ^ (j + 7 + 1) = 2 ^ (j + 1) * 128 := by rw [show j + 7 + 1 = (j + 1) + 7 by omega, Nat.pow_add]
  rw [e1, e2] at hs
  simp only [Nat.add_sub_cancel]
  constructor
  · omega
  · omega
theorem log2_small (v : Nat) (h : v < 128) : Nat.log2 v < 7 := by
  by_cases h0 : v = 0
  · subst h0; decide
  · exact (Nat.log2_lt h0).2 h

theorem vbF_len (n : Nat) : ∀ v : Nat, v < 2 * 128 ^ n → ((vbF n (v : Int)).length = Nat.log2 v / 7 + 1) := by
  induction n with
  | zero =>
    intro v h
    have := log2_small v (by omega)
    simp [vbF]
    omega
  | succ n ih =>
    intro v h
    by_cases hv : v < 128
    · have := log2_small v hv
      rw [vbF_small _ _ (by omega)]
      simp
      omega
    · rw [vbF_step _ _ (by omega)]
      have hd := log2_div v (by omega)
      have h2 : v / 128 < 2 * 128 ^ n := by
        rw [Nat.pow_succ] at h; omega
      have := ih (v / 128) h2
      rw [hd.1] at this
      have e : ((v : Int) / 128) = ((v / 128 : Nat) : Int) := by omega
      rw [e, List.length_cons, this]
      omega
theorem vb_len (v : Int) (h : 0 ≤ v ∧ v ≤ 18446744073709551615) : ((vb v).length = Nat.log2 v.toNat / 7 + 1) := by
  have := vbF_len 9 v.toNat (by have e : (128 : Nat) ^ 9 = 9223372036854775808 := by decide
                                omega)
  rw [show ((v.toNat : Nat) : Int) = v by omega] at this
  exact this
theorem vbF_pos (n : Nat) (v : Int) : 1 ≤ (vbF n v).length := by
  cases n with
  | zero => simp [vbF]
  | succ n => simp only [vbF]; split <;> simp
theorem vbF_le (n : Nat) : ∀ v : Int, (vbF n v).length ≤ n + 1 := by
  induction n with
  | zero => intro v; simp [vbF]
  | succ n ih => intro v; simp only [vbF]; split
                 · simp
                 · have := ih (v / 128); simp; omega
theorem vb_pos (v : Int) : 1 ≤ (vb v).length := vbF_pos 9 v
theorem vb_le (v : Int) : (vb v).length ≤ 10 := vbF_le 9 v
theorem vbF_bytes (n : Nat) : ∀ v : Int, 0 ≤ v → v < 2 * 128 ^ n → ∀ y ∈ vbF n v, 0 ≤ y ∧ y ≤ 255 := by
  induction n with
  | zero => intro v h0 h1 y hy; simp [vbF] at hy h1; omega
  | succ n ih =>
    intro v h0 h1 y hy
    by_cases hv : v < 128
    · rw [vbF_small _ _ hv] at hy; simp at hy; omega
    · rw [vbF_step _ _ (by omega)] at hy
      rcases List.mem_cons.1 hy with e | e
      · omega
      · exact ih (v / 128) (by omega) (by rw [Int.pow_succ] at h1; omega) y e
theorem two9 : (2 : Int) * 128 ^ 9 = 18446744073709551616 := by decide
theorem vb_bytes (v : Int) (h : 0 ≤ v ∧ v ≤ 18446744073709551615) : ∀ y ∈ vb v, 0 ≤ y ∧ y ≤ 255 :=
  vbF_bytes 9 v h.1 (by rw [two9]; omega)

theorem size_eq (v : Int) (h : 0 ≤ v ∧ v ≤ 18446744073709551615) :
    wrap64 ((wrap64 ((bitLen (if v % 2 = 0 then v + 1 else v).toNat : Int) + 6)).tdiv 7) = (vb v).length ∧ (bitLen (if v % 2 = 0 then v + 1 else v).toNat : Int) ≤ 64 := by
  rw [vb_len v h]
  obtain ⟨n, hn⟩ : ∃ n : Nat, v = (n : Int) := ⟨v.toNat, by omega⟩
  subst hn
  have e : (if (n : Int) % 2 = 0 then (n : Int) + 1 else (n : Int)).toNat = if n % 2 = 0 then n + 1 else n := by
    split <;> split <;> omega
  rw [e]
  have hb : bitLen (if n % 2 = 0 then n + 1 else n) = Nat.log2 n + 1 := by
    unfold bitLen
    rw [if_neg (by split <;> omega), log2_or1]
  have hl : Nat.log2 n < 64 := by
    by_cases h0 : n = 0
    · subst h0; decide
    · exact (Nat.log2_lt h0).2 (by omega)
  rw [hb]
  have ht : ((Nat.log2 n : Int) + 1 + 6).tdiv 7 = ((Nat.log2 n : Int) + 1 + 6) / 7 := Int.tdiv_eq_ediv_of_nonneg (by omega)
  have e1 : wrap64 (((Nat.log2 n + 1 : Nat) : Int) + 6) = (Nat.log2 n : Int) + 1 + 6 := by unfold wrap64; omega
  rw [e1, ht]
  unfold wrap64
  rw [Int.toNat_natCast]
  omega

theorem len_close (x y n : Int) (b : Nat) (hx : 0 ≤ x ∧ x ≤ 18446744073709551615) (hn : n = b) (hy : y.toNat = x.toNat / 2 ^ b) (h256 : y.toNat < 256) (hne : b = 0 ∨ y.toNat ≠ 0) (hb : b ≤ 64) :
    wrap64 (n + wrap64 (bitLen y.toNat : Int)) = bitLen x.toNat := by
  have l := bitLen_le8 y.toNat h256
  have s : bitLen x.toNat = b + bitLen y.toNat := by
    rcases hne with h | h
    · subst h; rw [hy]; simp
    · rw [hy] at h ⊢; exact bitLen_shift x.toNat b h
  rw [s, hn]
  unfold wrap64
  omega

/-! ### There and back -/
theorem split_pow (v P : Int) : v % 128 * P + v / 128 * (P * 128) = v * P := by
  have e : v * P = (v % 128 + 128 * (v / 128)) * P := by rw [Int.emod_add_mul_ediv]
  rw [e, Int.add_mul, Int.mul_comm P 128, ← Int.mul_assoc, Int.mul_comm (v / 128) 128]
theorem rd_err (p : Int) : ∀ (ys : List Int) (k : Nat) (u : Int), (rd p k u ys).2.2 ≠ 0 → (rd p k u ys).1 = 0 ∧ (rd p k u ys).2.1 = 0 := by
  intro ys
  induction ys with
  | nil => intro k u h; simp [rd]
  | cons y r ih =>
    intro k u h
    unfold rd at h ⊢
    split at h
    · rename_i h1; rw [if_pos h1]; simp
    · rename_i h1; rw [if_neg h1]
      split at h
      · rename_i h2; rw [if_pos h2]; exact ih _ _ h
      · rename_i h2; rw [if_neg h2]
        split at h
        · rename_i h3; rw [if_pos h3]; simp
        · simp at h
theorem rd_form (p : Int) : ∀ (ys : List Int) (k : Nat) (u : Int), k ≤ 9 → (∀ y ∈ ys, 0 ≤ y ∧ y ≤ 255) → (rd p k u ys).2.2 = 0 →
    ∃ (x : Int) (m : Nat), (rd p k u ys).1 = u + x * 128 ^ k ∧ 0 ≤ x ∧ (0 < k → 0 < x) ∧ x < 2 * 128 ^ (9 - k) ∧ 1 ≤ m ∧ m ≤ ys.length ∧ (rd p k u ys).2.1 = p + k + m ∧ ys.take m = vbF (9 - k) x := by
  intro ys
  induction ys with
  | nil => intro k u _ _ h; simp [rd] at h
  | cons y r ih =>
    intro k u hk hb h
    have hy := hb y (by simp)
    unfold rd at h ⊢
    split at h
    · simp at h
    · rename_i h1
      rw [if_neg h1]
      split at h
      · rename_i h2
        rw [if_pos h2]
        have hk9 : k < 9 := by omega
        obtain ⟨x, m, e1, x0, xp, xlt, m1, ml, e2, e3⟩ := ih (k + 1) _ (by omega) (fun z hz => hb z (by simp [hz])) h
        have hxp := xp (by omega)
        obtain ⟨j, hj⟩ : ∃ j, 9 - k = j + 1 := ⟨8 - k, by omega⟩
        have hj2 : 9 - (k + 1) = j := by omega
        rw [hj2] at xlt e3
        have hd : (y % 128 + 128 * x) / 128 = x := by omega
        have hm : (y % 128 + 128 * x) % 128 = y % 128 := by omega
        refine ⟨y % 128 + 128 * x, m + 1, ?_, by omega, fun _ => by omega, ?_, by omega, by simp; omega, ?_, ?_⟩
        · rw [e1, Int.pow_succ]
          have := split_pow (y % 128 + 128 * x) (128 ^ k)
          rw [hm, hd] at this
          omega
        · rw [hj, Int.pow_succ]; omega
        · rw [e2]; omega
        · rw [hj, vbF_step _ _ (by omega), hd, hm, List.take_succ_cons, e3]
          congr 1
          omega
      · rename_i h2
        rw [if_neg h2]
        split at h
        · simp at h
        · rename_i h3
          rw [if_neg h3]
          refine ⟨y, 1, ?_, hy.1, fun hk0 => by omega, ?_, by omega, by simp, ?_, ?_⟩
          · have : y % 128 = y := by omega
            simp [this]
          · by_cases h9 : k = 9
            · subst h9; simp; omega
            · have hp : (128 : Int) ≤ 128 ^ (9 - k) := by
                have e : (128 : Int) ^ (9 - k) = ((128 ^ (9 - k) : Nat) : Int) := by simp
                have : 128 ^ 1 ≤ 128 ^ (9 - k) := Nat.pow_le_pow_right (by omega) (by omega)
                rw [e]; omega
              omega
          · simp
          · simp; exact (vbF_small _ _ (by omega)).symm
theorem rd_back (p : Int) (rest : List Int) : ∀ (n k : Nat) (v u : Int), k + n = 9 → 0 ≤ v → v < 2 * 128 ^ n → (0 < k → 0 < v) →
    rd p k u (vbF n v ++ rest) = (u + v * 128 ^ k, p + k + (vbF n v).length, 0) := by
  intro n
  induction n with
  | zero =>
    intro k v u hk h0 h1 hp
    simp at h1
    have hk9 : k = 9 := by omega
    have hv : v % 128 = v := by omega
    have := hp (by omega)
    simp only [vbF, List.cons_append, List.nil_append, rd]
    rw [if_neg (by omega), if_neg (by omega), if_neg (by omega), hv]
    simp
  | succ n ih =>
    intro k v u hk h0 h1 hp
    by_cases hv : v < 128
    · have hv' : v % 128 = v := by omega
      rw [vbF_small _ _ hv]
      simp only [List.cons_append, List.nil_append, rd]
      rw [if_neg (by omega), if_neg (by omega), if_neg (by omega), hv']
      simp
    · rw [vbF_step _ _ (by omega)]
      simp only [List.cons_append, rd]
      rw [if_neg (by omega), if_pos (by omega)]
      have e1 : (v % 128 + 128) % 128 = v % 128 := by omega
      rw [e1, ih (k + 1) (v / 128) _ (by omega) (by omega) (by rw [Int.pow_succ] at h1; omega) (fun _ => by omega)]
      have := split_pow v (128 ^ k)
      rw [Int.pow_succ]
      simp only [Prod.mk.injEq, List.length_cons]
      refine ⟨by omega, by omega, trivial⟩

theorem vread_form (zs : List Int) (hb : ∀ y ∈ zs, 0 ≤ y ∧ y ≤ 255) (h : (vread zs 0).2.2 = 0) :
    ∃ m : Nat, 1 ≤ m ∧ m ≤ zs.length ∧ (vread zs 0).2.1 = m ∧ zs.take m = vb (vread zs 0).1 ∧ 0 ≤ (vread zs 0).1 ∧ (vread zs 0).1 ≤ 18446744073709551615 := by
  unfold vread at h ⊢
  rw [if_neg (by omega)] at h ⊢
  obtain ⟨x, m, e1, x0, _, xlt, m1, ml, e2, e3⟩ := rd_form 0 (zs.drop (0 : Int).toNat) 0 0 (by omega) (by simpa using hb) h
  have hx : x < 18446744073709551616 := by rw [show 9 - 0 = 9 from rfl, two9] at xlt; exact xlt
  refine ⟨m, m1, by simpa using ml, by rw [e2]; simp, ?_, ?_, ?_⟩
  · rw [e1]; simpa [vb] using e3
  · rw [e1]; simpa using x0
  · rw [e1]; simp; omega
theorem vread_err (zs : List Int) (p : Int) (h : (vread zs p).2.2 ≠ 0) : (vread zs p).1 = 0 ∧ (vread zs p).2.1 = 0 := by
  unfold vread at h ⊢
  split at h
  · rename_i h1; rw [if_pos h1]; simp
  · rename_i h1; rw [if_neg h1]; exact rd_err _ _ _ _ h
theorem vread_back (ahead rest : List Int) (v : Int) (h : 0 ≤ v ∧ v ≤ 18446744073709551615) :
    vread (ahead ++ (vb v ++ rest)) ahead.length = (v, ((ahead.length + (vb v).length : Nat) : Int), 0) := by
  unfold vread
  rw [if_neg (by simp; omega)]
  have e : (ahead ++ (vb v ++ rest)).drop ((ahead.length : Nat) : Int).toNat = vb v ++ rest := by simp
  rw [e]
  have := rd_back ahead.length rest 9 0 v 0 (by omega) h.1 (by rw [two9]; omega) (by omega)
  unfold vb
  rw [this]
  simp
end Go.Proofs.Ytnpeocoipodmfaa.Vb

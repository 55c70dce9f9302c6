/- Plain mathematics of registers that take bits: linear, one to one, what bits that stand one behind the other make of it, and noughts. -/
import Derived.WalkKit
import Derived.ProofKit
import Derived.OpenShut
namespace Go.Proofs.YtgkoopciajjonaaDoor.Crc
open Go.RowKit
set_option linter.unusedVariables false

def poly : BitVec 32 := 0x82f63b78#32
/-- A register takes a bit. -/
def take (r : BitVec 32) (b : Bool) : BitVec 32 := (r >>> 1) ^^^ (if (r.getLsbD 0 ^^ b) = true then poly else 0#32)
/-- It takes the bits of a list, one behind the other. -/
def overB (r : BitVec 32) : List Bool → BitVec 32
  | [] => r
  | b :: t => overB (take r b) t

theorem overB_append (r : BitVec 32) (xs ys : List Bool) : overB r (xs ++ ys) = overB (overB r xs) ys := by
  induction xs generalizing r with
  | nil => rfl
  | cons x t ih => simp only [List.cons_append, overB, ih]

theorem x4 (a b c d : BitVec 32) : (a ^^^ b) ^^^ (c ^^^ d) = (a ^^^ c) ^^^ (b ^^^ d) := by
  rw [BitVec.xor_assoc, BitVec.xor_assoc, ← BitVec.xor_assoc b c d, BitVec.xor_comm b c, BitVec.xor_assoc c b d]

/-- Linear. -/
theorem take_xor (r s : BitVec 32) (a b : Bool) : take (r ^^^ s) (a ^^ b) = take r a ^^^ take s b := by
  unfold take
  rw [BitVec.ushiftRight_xor_distrib, BitVec.getLsbD_xor, x4]
  congr 1
  generalize r.getLsbD 0 = p
  generalize s.getLsbD 0 = q
  cases p <;> cases q <;> cases a <;> cases b <;> simp
theorem overB_xor (xs : List Bool) : ∀ (ys : List Bool) (r s : BitVec 32), xs.length = ys.length → overB (r ^^^ s) (List.zipWith xor xs ys) = overB r xs ^^^ overB s ys := by
  induction xs with
  | nil =>
    intro ys r s h
    have : ys = [] := List.eq_nil_of_length_eq_zero h.symm
    subst this
    rfl
  | cons x t ih =>
    intro ys r s h
    cases ys with
    | nil => simp at h
    | cons y u =>
      simp only [List.zipWith_cons_cons, overB, take_xor]
      exact ih u _ _ (by simpa using h)

/-! ### Noughts -/
def shiftZ : Nat → BitVec 32 → BitVec 32
  | 0, r => r
  | n + 1, r => shiftZ n (take r false)
theorem overB_zeros (n : Nat) : ∀ r, overB r (List.replicate n false) = shiftZ n r := by
  induction n with
  | zero => intro r; rfl
  | succ n ih => intro r; simp only [List.replicate_succ, overB, shiftZ, ih]
theorem shiftZ_add (m n : Nat) : ∀ r, shiftZ (m + n) r = shiftZ n (shiftZ m r) := by
  induction m with
  | zero => intro r; rw [Nat.zero_add]; rfl
  | succ m ih => intro r; rw [Nat.succ_add]; simp only [shiftZ, ih]
theorem shiftZ_xor (n : Nat) : ∀ r s, shiftZ n (r ^^^ s) = shiftZ n r ^^^ shiftZ n s := by
  induction n with
  | zero => intro r s; rfl
  | succ n ih =>
    intro r s
    simp only [shiftZ]
    rw [show false = (false ^^ false) from rfl, take_xor, ih]
    rfl
theorem take_zero : take 0#32 false = 0#32 := by decide
theorem shiftZ_zero (n : Nat) : shiftZ n 0#32 = 0#32 := by
  induction n with
  | zero => rfl
  | succ n ih => simp only [shiftZ, take_zero, ih]

/-! ### One to one -/
def un (r : BitVec 32) : BitVec 32 := if r.msb = true then ((r ^^^ poly) <<< 1) ||| 1#32 else r <<< 1
theorem msb_take (r : BitVec 32) : (take r false).msb = r.getLsbD 0 := by
  unfold take
  rw [BitVec.msb_xor]
  have h : (r >>> 1).msb = false := by simp [BitVec.msb_ushiftRight]
  rw [h]
  cases hp : r.getLsbD 0
  · simp
  · simp [poly]; decide
theorem lsb_eq (r : BitVec 32) : r.getLsbD 0 = decide (r.toNat % 2 = 1) := by
  rw [BitVec.getLsbD, Nat.testBit_zero]
theorem un_take (r : BitVec 32) : un (take r false) = r := by
  unfold un
  rw [msb_take]
  unfold take
  have hr := r.isLt
  cases hp : r.getLsbD 0
  · rw [lsb_eq] at hp
    have hm : r.toNat % 2 = 0 := by simp at hp; omega
    simp only [Bool.false_eq_true, if_false, Bool.xor_false, BitVec.xor_zero]
    apply BitVec.eq_of_toNat_eq
    rw [BitVec.toNat_shiftLeft, BitVec.toNat_ushiftRight, Nat.shiftRight_eq_div_pow, Nat.shiftLeft_eq]
    omega
  · rw [lsb_eq] at hp
    have hm : r.toNat % 2 = 1 := by simpa using hp
    simp only [if_true, Bool.xor_false]
    rw [BitVec.xor_assoc, BitVec.xor_self, BitVec.xor_zero]
    apply BitVec.eq_of_toNat_eq
    rw [BitVec.toNat_or, BitVec.toNat_shiftLeft, BitVec.toNat_ushiftRight, Nat.shiftRight_eq_div_pow, Nat.shiftLeft_eq]
    have e : r.toNat / 2 ^ 1 * 2 ^ 1 % 2 ^ 32 = r.toNat / 2 * 2 ^ 1 := by omega
    have t := Nat.shiftLeft_add_eq_or_of_lt (show 1 < 2 ^ 1 by omega) (r.toNat / 2)
    rw [Nat.shiftLeft_eq] at t
    rw [e, show (1#32).toNat = 1 from rfl, ← t]
    omega
theorem take_un (r : BitVec 32) : take (un r) false = r := by
  unfold un
  have hr := r.isLt
  have key : ∀ s : BitVec 32, s.msb = false → (s <<< 1) >>> 1 = s ∧ ((s <<< 1) ||| 1#32) >>> 1 = s := by
    intro s hs
    have hl : s.toNat < 2 ^ 31 := by
      rw [BitVec.msb_eq_decide] at hs
      simp at hs
      exact hs
    constructor
    · apply BitVec.eq_of_toNat_eq
      rw [BitVec.toNat_ushiftRight, BitVec.toNat_shiftLeft, Nat.shiftRight_eq_div_pow, Nat.shiftLeft_eq]
      omega
    · apply BitVec.eq_of_toNat_eq
      rw [BitVec.toNat_ushiftRight, BitVec.toNat_or, BitVec.toNat_shiftLeft, Nat.shiftRight_eq_div_pow, Nat.shiftLeft_eq]
      have e : s.toNat * 2 ^ 1 % 2 ^ 32 = s.toNat * 2 ^ 1 := by omega
      have t := Nat.shiftLeft_add_eq_or_of_lt (show 1 < 2 ^ 1 by omega) s.toNat
      rw [Nat.shiftLeft_eq] at t
      rw [e, show (1#32).toNat = 1 from rfl, ← t]
      omega
  cases hm : r.msb
  · simp only [Bool.false_eq_true, if_false]
    unfold take
    have h0 : (r <<< 1).getLsbD 0 = false := by simp
    rw [h0, (key r hm).1]
    simp
  · simp only [if_true]
    have hs : (r ^^^ poly).msb = false := by
      rw [BitVec.msb_xor, hm]; decide
    unfold take
    have h0 : (((r ^^^ poly) <<< 1) ||| 1#32).getLsbD 0 = true := by simp
    rw [h0, (key _ hs).2]
    simp [BitVec.xor_assoc]
theorem take_inj (r s : BitVec 32) (h : take r false = take s false) : r = s := by
  rw [← un_take r, h, un_take]
theorem shiftZ_inj (n : Nat) : ∀ r s, shiftZ n r = shiftZ n s → r = s := by
  induction n with
  | zero => intro r s h; exact h
  | succ n ih => intro r s h; exact take_inj r s (ih _ _ h)

/-! ### Bits that stand one behind the other -/
def val : List Bool → Nat
  | [] => 0
  | b :: t => (if b = true then 1 else 0) + 2 * val t
theorem val_lt (bs : List Bool) : val bs < 2 ^ bs.length := by
  induction bs with
  | nil => simp [val]
  | cons b t ih => simp only [val, List.length_cons, Nat.pow_succ]; split <;> omega
theorem take_val (r : BitVec 32) (b : Bool) (t : List Bool) (h : t.length ≤ 31) :
    take (r ^^^ BitVec.ofNat 32 (val (b :: t))) false = take r b ^^^ BitVec.ofNat 32 (val t) := by
  have hv := val_lt t
  have hp : 2 ^ t.length ≤ 2 ^ 31 := Nat.pow_le_pow_right (by omega) h
  have e : take (BitVec.ofNat 32 (val (b :: t))) b = BitVec.ofNat 32 (val t) := by
    unfold take
    have h0 : (BitVec.ofNat 32 (val (b :: t))).getLsbD 0 = b := by
      rw [BitVec.getLsbD_ofNat]
      simp only [val, Nat.testBit_zero]
      cases b <;> simp <;> omega
    rw [h0]
    have h1 : BitVec.ofNat 32 (val (b :: t)) >>> 1 = BitVec.ofNat 32 (val t) := by
      apply BitVec.eq_of_toNat_eq
      rw [BitVec.toNat_ushiftRight, BitVec.toNat_ofNat, BitVec.toNat_ofNat, Nat.shiftRight_eq_div_pow]
      simp only [val]
      split <;> omega
    rw [h1]
    simp
  have := take_xor r (BitVec.ofNat 32 (val (b :: t))) b b
  rw [Bool.xor_self] at this
  rw [this, e]
/-- Taking bits is taking noughts, the bits laid into the register ahead. -/
theorem overB_val (bs : List Bool) : ∀ r, bs.length ≤ 32 → overB r bs = shiftZ bs.length (r ^^^ BitVec.ofNat 32 (val bs)) := by
  induction bs with
  | nil => intro r h; simp [overB, shiftZ, val]
  | cons b t ih =>
    intro r h
    simp only [List.length_cons] at h
    simp only [overB, List.length_cons, shiftZ]
    rw [ih (take r b) (by omega), take_val r b t (by omega)]
theorem val_zero (bs : List Bool) (h : val bs = 0) : bs = List.replicate bs.length false := by
  induction bs with
  | nil => rfl
  | cons b t ih =>
    simp only [val] at h
    have ht : val t = 0 := by split at h <;> omega
    have hb : b = false := by cases b <;> simp at h ⊢
    rw [List.length_cons, List.replicate_succ, ← ih ht, hb]
/-- A burst: noughts, at most 32 bits that are not all noughts, noughts: the register is not nought. -/
theorem burst (a c : Nat) (bs : List Bool) (h : bs.length ≤ 32) (hne : val bs ≠ 0) :
    overB 0#32 (List.replicate a false ++ (bs ++ List.replicate c false)) ≠ 0#32 := by
  rw [overB_append, overB_zeros, shiftZ_zero, overB_append, overB_zeros, overB_val bs _ h, BitVec.zero_xor]
  intro e
  have e1 := shiftZ_inj c _ _ (e.trans (shiftZ_zero c).symm)
  have e2 := shiftZ_inj bs.length _ _ (e1.trans (shiftZ_zero _).symm)
  have hv := val_lt bs
  have hp : 2 ^ bs.length ≤ 2 ^ 32 := Nat.pow_le_pow_right (by omega) h
  have := congrArg BitVec.toNat e2
  rw [BitVec.toNat_ofNat] at this
  simp at this
  omega

/-! ### Bytes -/
def bits8 (y : Int) : List Bool := [y.toNat.testBit 0, y.toNat.testBit 1, y.toNat.testBit 2, y.toNat.testBit 3, y.toNat.testBit 4, y.toNat.testBit 5, y.toNat.testBit 6, y.toNat.testBit 7]
def bitsL (zs : List Int) : List Bool := zs.flatMap bits8
theorem bitsL_append (xs ys : List Int) : bitsL (xs ++ ys) = bitsL xs ++ bitsL ys := by simp [bitsL]
theorem bitsL_len (zs : List Int) : (bitsL zs).length = 8 * zs.length := by
  induction zs with
  | nil => rfl
  | cons z t ih => simp only [bitsL, List.flatMap_cons, List.length_append, List.length_cons] at ih ⊢; rw [ih]; simp [bits8]; omega
def over (r : BitVec 32) (zs : List Int) : BitVec 32 := overB r (bitsL zs)
theorem over_append (r : BitVec 32) (xs ys : List Int) : over r (xs ++ ys) = over (over r xs) ys := by
  unfold over; rw [bitsL_append, overB_append]
theorem over_cons (r : BitVec 32) (y : Int) (t : List Int) : over r (y :: t) = over (overB r (bits8 y)) t := by
  show over r ([y] ++ t) = _
  rw [over_append]; rfl
theorem bits8_zero : bits8 0 = List.replicate 8 false := by decide
theorem over_zeros (n : Nat) (r : BitVec 32) : over r (List.replicate n 0) = shiftZ (8 * n) r := by
  have : bitsL (List.replicate n 0) = List.replicate (8 * n) false := by
    induction n with
    | zero => rfl
    | succ n ih =>
      rw [List.replicate_succ]
      show bits8 0 ++ bitsL (List.replicate n 0) = _
      rw [ih, bits8_zero, List.replicate_append_replicate]
      congr 1
      omega
  unfold over
  rw [this, overB_zeros]
def sum (zs : List Int) : BitVec 32 := ~~~(over (~~~0#32) zs)
def extend (s : BitVec 32) (zs : List Int) : BitVec 32 := ~~~(over (~~~s) zs)
theorem not_not32 (x : BitVec 32) : ~~~(~~~x) = x := BitVec.not_not
theorem extend_sum (xs ys : List Int) : extend (sum xs) ys = sum (xs ++ ys) := by
  unfold extend sum
  rw [not_not32, over_append]
/-- What stands ahead moves through what stands behind by noughts alone. -/
theorem over_split (r s : BitVec 32) (ys : List Int) : over (r ^^^ s) ys = over s ys ^^^ shiftZ (8 * ys.length) r := by
  unfold over
  have h := overB_xor (List.replicate (bitsL ys).length false) (bitsL ys) r s (by simp)
  have e : List.zipWith xor (List.replicate (bitsL ys).length false) (bitsL ys) = bitsL ys := by
    generalize bitsL ys = l
    induction l with
    | nil => rfl
    | cons b t ih => simp only [List.length_cons, List.replicate_succ, List.zipWith_cons_cons, Bool.false_xor, ih]
  rw [e] at h
  rw [h, overB_zeros, BitVec.xor_comm, bitsL_len]
theorem not_eq_xor (x : BitVec 32) : ~~~x = x ^^^ (~~~0#32) := by
  rw [show (~~~0#32 : BitVec 32) = BitVec.allOnes 32 from by decide, BitVec.xor_allOnes]
theorem xor_not (x y : BitVec 32) : ~~~(x ^^^ y) = ~~~x ^^^ y := by
  rw [not_eq_xor, not_eq_xor x, BitVec.xor_assoc, BitVec.xor_comm y, ← BitVec.xor_assoc]
/-- Combine. -/
theorem sum_append (xs ys : List Int) : sum (xs ++ ys) = shiftZ (8 * ys.length) (sum xs) ^^^ sum ys := by
  unfold sum
  rw [over_append]
  have e : over (~~~0#32) xs = ~~~(over (~~~0#32) xs) ^^^ (~~~0#32) := by
    rw [← not_eq_xor, not_not32]
  rw [e, over_split, ← e, xor_not, BitVec.xor_comm]
theorem extend_zeros (s : BitVec 32) (n : Nat) : extend s (List.replicate n 0) = ~~~(shiftZ (8 * n) (~~~s)) := by
  unfold extend
  rw [over_zeros]

/-! ### Four bytes lead anywhere -/
def back : Nat → BitVec 32 → BitVec 32
  | 0, r => r
  | n + 1, r => back n (un r)
theorem un_out (n : Nat) : ∀ r, back n (un r) = un (back n r) := by
  induction n with
  | zero => intro r; rfl
  | succ n ih => intro r; simp only [back]; rw [ih]
theorem shiftZ_back (n : Nat) : ∀ r, shiftZ n (back n r) = r := by
  induction n with
  | zero => intro r; rfl
  | succ n ih =>
    intro r
    simp only [back, shiftZ]
    rw [un_out, take_un, ih]
theorem over4 (r : BitVec 32) (a b c d : Int) :
    over r [a, b, c, d] = shiftZ 32 (r ^^^ BitVec.ofNat 32 (val (bits8 a ++ (bits8 b ++ (bits8 c ++ bits8 d))))) := by
  unfold over
  have e : bitsL [a, b, c, d] = bits8 a ++ (bits8 b ++ (bits8 c ++ bits8 d)) := by simp [bitsL]
  rw [e, overB_val _ _ (by simp [bits8])]
  rw [show (bits8 a ++ (bits8 b ++ (bits8 c ++ bits8 d))).length = 32 from by simp [bits8]]
theorem val8 (y : Nat) (h : y < 256) (t : List Bool) : val (bits8 (y : Int) ++ t) = y + 256 * val t := by
  have all : ∀ j : Fin 256, val (bits8 ((j.val : Nat) : Int)) = j.val := by decide +kernel
  have app : ∀ (bs t : List Bool), val (bs ++ t) = val bs + 2 ^ bs.length * val t := by
    intro bs
    induction bs with
    | nil => intro t; simp [val]
    | cons b u ih => intro t; simp only [List.cons_append, val, ih, List.length_cons, Nat.pow_succ]; rw [Nat.mul_add, ← Nat.mul_assoc, Nat.mul_comm 2 (2 ^ u.length), Nat.add_assoc]
  rw [app, all ⟨y, h⟩, show (bits8 (y : Int)).length = 8 from rfl]
theorem val32 (x : Nat) (h : x < 4294967296) : val (bits8 ((x % 256 : Nat) : Int) ++ (bits8 ((x / 256 % 256 : Nat) : Int) ++ (bits8 ((x / 65536 % 256 : Nat) : Int) ++ bits8 ((x / 16777216 % 256 : Nat) : Int)))) = x := by
  rw [val8 _ (by omega), val8 _ (by omega), val8 _ (by omega)]
  have e := val8 (x / 16777216 % 256) (by omega) []
  rw [List.append_nil] at e
  rw [e]
  simp only [val]
  omega
/-- The four bytes that bring a sum to another one, and no other four do. -/
theorem patch_iff (s want : BitVec 32) (x : BitVec 32) :
    extend s [((x.toNat % 256 : Nat) : Int), ((x.toNat / 256 % 256 : Nat) : Int), ((x.toNat / 65536 % 256 : Nat) : Int), ((x.toNat / 16777216 % 256 : Nat) : Int)] = want ↔ x = back 32 (~~~want) ^^^ (~~~s) := by
  unfold extend
  rw [over4, val32 _ x.isLt, BitVec.ofNat_toNat, BitVec.setWidth_eq]
  constructor
  · intro h
    have h1 : shiftZ 32 (~~~s ^^^ x) = ~~~want := by rw [← h, not_not32]
    have h2 := shiftZ_inj 32 _ _ (h1.trans (shiftZ_back 32 (~~~want)).symm)
    rw [← h2, BitVec.xor_comm (~~~s) x, BitVec.xor_assoc, BitVec.xor_self, BitVec.xor_zero]
  · intro h
    rw [h, BitVec.xor_comm (back 32 (~~~want)), ← BitVec.xor_assoc, BitVec.xor_self, BitVec.zero_xor, shiftZ_back, not_not32]

/-! ### Several bits at once: a table -/
theorem shiftZ_hi (k : Nat) : ∀ x : BitVec 32, x.toNat % 2 ^ k = 0 → shiftZ k x = x >>> k := by
  induction k with
  | zero => intro x h; simp [shiftZ]
  | succ k ih =>
    intro x h
    have h2 : x.toNat % 2 = 0 := by
      have := Nat.mod_mod_of_dvd x.toNat (show 2 ∣ 2 ^ (k + 1) from ⟨2 ^ k, by rw [Nat.pow_succ, Nat.mul_comm]⟩)
      rw [h] at this
      omega
    have ht : take x false = x >>> 1 := by
      unfold take
      rw [lsb_eq]
      simp [h2]
    simp only [shiftZ]
    rw [ht, ih]
    · rw [Nat.add_comm k 1, BitVec.shiftRight_add]
    · rw [BitVec.toNat_ushiftRight, Nat.shiftRight_eq_div_pow, Nat.pow_one]
      obtain ⟨q, hq⟩ := Nat.dvd_of_mod_eq_zero h
      have e : x.toNat = 2 * (2 ^ k * q) := by rw [hq, Nat.pow_succ, Nat.mul_comm (2 ^ k) 2, Nat.mul_assoc]
      rw [e, Nat.mul_div_cancel_left _ (by omega), Nat.mul_mod_right]
theorem shiftZ_split (k : Nat) (hk : k ≤ 32) (x : BitVec 32) : shiftZ k x = (x >>> k) ^^^ shiftZ k (BitVec.ofNat 32 (x.toNat % 2 ^ k)) := by
  obtain ⟨lo, hlo⟩ : ∃ lo, lo = BitVec.ofNat 32 (x.toNat % 2 ^ k) := ⟨_, rfl⟩
  have hlt : x.toNat % 2 ^ k < 2 ^ 32 := Nat.lt_of_le_of_lt (Nat.mod_le _ _) x.isLt
  have hn : lo.toNat = x.toNat % 2 ^ k := by rw [hlo, BitVec.toNat_ofNat, Nat.mod_eq_of_lt hlt]
  rw [← hlo]
  have e : x = (x ^^^ lo) ^^^ lo := by rw [BitVec.xor_assoc, BitVec.xor_self, BitVec.xor_zero]
  have h1 : (x ^^^ lo).toNat % 2 ^ k = 0 := by
    rw [BitVec.toNat_xor, hn, Nat.xor_mod_two_pow, Nat.mod_mod, Nat.xor_self]
  have h2 : (x ^^^ lo) >>> k = x >>> k := by
    rw [BitVec.ushiftRight_xor_distrib]
    have : lo >>> k = 0#32 := by
      apply BitVec.eq_of_toNat_eq
      rw [BitVec.toNat_ushiftRight, hn, Nat.shiftRight_eq_div_pow]
      have := Nat.mod_lt x.toNat (show 0 < 2 ^ k from Nat.pow_pos (by omega))
      rw [Nat.div_eq_of_lt this]
      rfl
    rw [this, BitVec.xor_zero]
  have h3 : shiftZ k x = shiftZ k ((x ^^^ lo) ^^^ lo) := by rw [← e]
  rw [h3, shiftZ_xor k _ _, shiftZ_hi k _ h1, h2]

/-! ### Linear maps by what they make of each bit -/
def lin (f : Nat → BitVec 32) : Nat → BitVec 32 → BitVec 32
  | 0, _ => 0#32
  | n + 1, r => lin f n r ^^^ (if r.getLsbD n = true then f n else 0#32)
def low (n : Nat) (r : BitVec 32) : BitVec 32 := BitVec.ofNat 32 (r.toNat % 2 ^ n)
theorem low_bit (n : Nat) (r : BitVec 32) (i : Nat) (hi : i < 32) : (low n r).getLsbD i = (decide (i < n) && r.getLsbD i) := by
  unfold low
  rw [BitVec.getLsbD_ofNat, Nat.testBit_mod_two_pow]
  simp [hi, BitVec.getLsbD]
theorem low_succ (n : Nat) (hn : n < 32) (r : BitVec 32) : low (n + 1) r = low n r ^^^ (if r.getLsbD n = true then BitVec.twoPow 32 n else 0#32) := by
  apply BitVec.eq_of_getLsbD_eq
  intro i hi
  rw [BitVec.getLsbD_xor, low_bit _ _ _ hi, low_bit _ _ _ hi]
  by_cases h : i = n
  · subst h
    cases hb : r.getLsbD i <;> simp [hi]
  · have h1 : decide (i < n + 1) = decide (i < n) := by simp; omega
    rw [h1]
    cases hb : r.getLsbD n <;> simp [BitVec.getLsbD_twoPow, Ne.symm h]
theorem lin_eq (g : BitVec 32 → BitVec 32) (hx : ∀ a b, g (a ^^^ b) = g a ^^^ g b) (r : BitVec 32) : lin (fun i => g (BitVec.twoPow 32 i)) 32 r = g r := by
  have h0 : g 0#32 = 0#32 := by
    have := hx 0#32 0#32
    rw [BitVec.xor_self] at this
    rw [this, BitVec.xor_self]
  have key : ∀ n, n ≤ 32 → lin (fun i => g (BitVec.twoPow 32 i)) n r = g (low n r) := by
    intro n
    induction n with
    | zero => intro _; simp [lin, low, Nat.mod_one, h0]
    | succ n ih =>
      intro hn
      rw [low_succ n (by omega), hx]
      simp only [lin]
      rw [ih (by omega)]
      congr 1
      split
      · rfl
      · exact h0.symm
  rw [key 32 (Nat.le_refl _)]
  congr 1
  unfold low
  rw [Nat.mod_eq_of_lt r.isLt, BitVec.ofNat_toNat, BitVec.setWidth_eq]

/-! ### Three lists -/
theorem bits8_xor (a b : Nat) : bits8 ((a ^^^ b : Nat) : Int) = List.zipWith xor (bits8 (a : Int)) (bits8 (b : Int)) := by
  simp only [bits8, Int.toNat_natCast, Nat.testBit_xor, List.zipWith_cons_cons, List.zipWith_nil_left]
def xorL (xs ys : List Nat) : List Nat := List.zipWith (· ^^^ ·) xs ys
def up (xs : List Nat) : List Int := xs.map fun (x : Nat) => (x : Int)
theorem bitsL_xor (xs : List Nat) : ∀ ys : List Nat, xs.length = ys.length → bitsL (up (xorL xs ys)) = List.zipWith xor (bitsL (up xs)) (bitsL (up ys)) := by
  induction xs with
  | nil => intro ys h; simp [xorL, up, bitsL]
  | cons x t ih =>
    intro ys h
    cases ys with
    | nil => simp at h
    | cons y u =>
      have := ih u (by simpa using h)
      simp only [xorL, up, bitsL, List.zipWith_cons_cons, List.map_cons, List.flatMap_cons] at this ⊢
      rw [this, bits8_xor, List.zipWith_append (by simp [bits8])]
theorem over_xor (r s : BitVec 32) (xs ys : List Nat) (h : xs.length = ys.length) : over (r ^^^ s) (up (xorL xs ys)) = over r (up xs) ^^^ over s (up ys) := by
  unfold over
  rw [bitsL_xor xs ys h]
  exact overB_xor _ _ _ _ (by rw [bitsL_len, bitsL_len]; simp [up, h])
theorem sum_three (xs ys zs : List Nat) (h1 : xs.length = ys.length) (h2 : xs.length = zs.length) :
    sum (up xs) ^^^ sum (up ys) ^^^ sum (up zs) = sum (up (xorL (xorL xs ys) zs)) := by
  have hl : (xorL xs ys).length = zs.length := by simp [xorL, h1.symm, h2]
  unfold sum
  have e := over_xor (~~~0#32 ^^^ ~~~0#32) (~~~0#32) (xorL xs ys) zs hl
  rw [over_xor _ _ xs ys h1, BitVec.xor_self, BitVec.zero_xor] at e
  rw [e, xor_not, xor_not]
  generalize over (~~~0#32) (up xs) = a
  generalize over (~~~0#32) (up ys) = b
  generalize over (~~~0#32) (up zs) = c
  rw [not_eq_xor b, not_eq_xor c]
  generalize (~~~0#32 : BitVec 32) = o
  rw [← BitVec.xor_assoc, ← BitVec.xor_assoc, BitVec.xor_assoc (~~~a ^^^ b) o c, BitVec.xor_comm o c, ← BitVec.xor_assoc, BitVec.xor_assoc _ o o, BitVec.xor_self, BitVec.xor_zero]

/-! ### Registers as numbers -/
def toI (r : BitVec 32) : Int := (r.toNat : Int)
theorem toI_bd (r : BitVec 32) : 0 ≤ toI r ∧ toI r ≤ 4294967295 := by have := r.isLt; unfold toI; omega
theorem toI_inj (x y : BitVec 32) (h : toI x = toI y) : x = y := by
  apply BitVec.eq_of_toNat_eq; unfold toI at h; omega
theorem toI_ofI (a : Int) (h : 0 ≤ a ∧ a ≤ 4294967295) : toI (BitVec.ofInt 32 a) = a := by
  unfold toI; rw [BitVec.toNat_ofInt]; omega
theorem ofI_toI (x : BitVec 32) : BitVec.ofInt 32 (toI x) = x := by
  apply toI_inj; exact toI_ofI _ (toI_bd x)
theorem wrap_u32 (n : Int) : IntKind.u32.wrap n = n % 4294967296 := by simp [IntKind.wrap, IntKind.bits, IntKind.signed]
theorem wrap_toI (x : BitVec 32) : IntKind.u32.wrap (toI x) = toI x := by
  have := toI_bd x; rw [wrap_u32]; omega
theorem xor_i (x y : BitVec 32) : bits .xor .u32 (toI x) (toI y) = toI (x ^^^ y) := by
  show IntKind.u32.wrap ((BitVec.ofInt 32 (toI x) ^^^ BitVec.ofInt 32 (toI y)).toNat : Int) = _
  rw [ofI_toI, ofI_toI]; exact wrap_toI _
theorem or_i (x y : BitVec 32) : bits .or .u32 (toI x) (toI y) = toI (x ||| y) := by
  show IntKind.u32.wrap ((BitVec.ofInt 32 (toI x) ||| BitVec.ofInt 32 (toI y)).toNat : Int) = _
  rw [ofI_toI, ofI_toI]; exact wrap_toI _
theorem and_i (x y : BitVec 32) : bits .and .u32 (toI x) (toI y) = toI (x &&& y) := by
  show IntKind.u32.wrap ((BitVec.ofInt 32 (toI x) &&& BitVec.ofInt 32 (toI y)).toNat : Int) = _
  rw [ofI_toI, ofI_toI]; exact wrap_toI _
theorem shr_i (x : BitVec 32) (k : Nat) : toI x / 2 ^ k = toI (x >>> k) := by
  unfold toI
  rw [BitVec.toNat_ushiftRight, Nat.shiftRight_eq_div_pow]
  simp
theorem shl_i (x : BitVec 32) (k : Nat) : IntKind.u32.wrap (toI x * 2 ^ k) = toI (x <<< k) := by
  unfold toI
  rw [wrap_u32, BitVec.toNat_shiftLeft, Nat.shiftLeft_eq]
  simp
theorem add_i (x y : BitVec 32) : IntKind.u32.wrap (toI x + toI y) = toI (x + y) := by
  unfold toI
  rw [wrap_u32, BitVec.toNat_add]
  simp
theorem sub_i (x y : BitVec 32) : IntKind.u32.wrap (toI x - toI y) = toI (x - y) := by
  have hx := x.isLt
  have hy := y.isLt
  unfold toI
  rw [wrap_u32, BitVec.toNat_sub]
  omega
theorem not_i (x : BitVec 32) : 4294967295 - toI x = toI (~~~x) := by
  have hx := x.isLt
  unfold toI
  rw [BitVec.toNat_not]
  omega

/-! ### Masks -/
def rotr (x : BitVec 32) : BitVec 32 := (x >>> 15) ||| (x <<< 17)
def rotl (x : BitVec 32) : BitVec 32 := (x <<< 15) ||| (x >>> 17)
theorem rotr_nat (x : BitVec 32) : (rotr x).toNat = x.toNat % 32768 * 131072 + x.toNat / 32768 := by
  have hx := x.isLt
  unfold rotr
  rw [BitVec.toNat_or, BitVec.toNat_ushiftRight, BitVec.toNat_shiftLeft, Nat.shiftRight_eq_div_pow, Nat.shiftLeft_eq, Nat.or_comm]
  have t := Nat.shiftLeft_add_eq_or_of_lt (show x.toNat / 2 ^ 15 < 2 ^ 17 by omega) (x.toNat % 32768)
  rw [Nat.shiftLeft_eq] at t
  have e : x.toNat * 2 ^ 17 % 2 ^ 32 = x.toNat % 32768 * 2 ^ 17 := by omega
  rw [e, ← t]
theorem rotl_nat (x : BitVec 32) : (rotl x).toNat = x.toNat % 131072 * 32768 + x.toNat / 131072 := by
  have hx := x.isLt
  unfold rotl
  rw [BitVec.toNat_or, BitVec.toNat_ushiftRight, BitVec.toNat_shiftLeft, Nat.shiftRight_eq_div_pow, Nat.shiftLeft_eq]
  have t := Nat.shiftLeft_add_eq_or_of_lt (show x.toNat / 2 ^ 17 < 2 ^ 15 by omega) (x.toNat % 131072)
  rw [Nat.shiftLeft_eq] at t
  have e : x.toNat * 2 ^ 15 % 2 ^ 32 = x.toNat % 131072 * 2 ^ 15 := by omega
  rw [e, ← t]
theorem rotl_rotr (x : BitVec 32) : rotl (rotr x) = x := by
  have hx := x.isLt
  apply BitVec.eq_of_toNat_eq
  rw [rotl_nat, rotr_nat]
  omega
theorem rotr_rotl (x : BitVec 32) : rotr (rotl x) = x := by
  have hx := x.isLt
  apply BitVec.eq_of_toNat_eq
  rw [rotr_nat, rotl_nat]
  omega
end Go.Proofs.YtgkoopciajjonaaDoor.Crc

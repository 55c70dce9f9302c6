/- Filters in plain words: bytes, their bits, the bits of a list set; which bits are set; how many. -/
import Derived.Test.YtempagacpfejdaaBi
namespace Go.Proofs.Ytempagacpfejdaa.Fl
open Go.RowKit
open Go.Proofs.Ytempagacpfejdaa.Wd
open Go.Proofs.Ytempagacpfejdaa.Bi
set_option linter.unusedVariables false
set_option linter.unusedSimpArgs false

abbrev B8 := BitVec 8
def setb (f : List B8) (b : Nat) : List B8 := f.set (b / 8) (f.getD (b / 8) 0#8 ||| 1#8 <<< (b % 8))
def bitT (f : List B8) (b : Nat) : Bool := (f.getD (b / 8) 0#8).getLsbD (b % 8)
def fill (f : List B8) (l : List Nat) : List B8 := l.foldl setb f
theorem setb_len (f : List B8) (b : Nat) : (setb f b).length = f.length := by simp [setb]
theorem fill_len (l : List Nat) : ∀ f : List B8, (fill f l).length = f.length := by
  induction l with
  | nil => intro f; rfl
  | cons x t ih => intro f; show (fill (setb f x) t).length = _; rw [ih, setb_len]
theorem fill_append (f : List B8) (l m : List Nat) : fill f (l ++ m) = fill (fill f l) m := by simp [fill]
theorem one_shl (j i : Nat) (hi : i < 8) (hj : j < 8) : (1#8 <<< i).getLsbD j = decide (j = i) := by
  rw [BitVec.getLsbD_shiftLeft]
  have : (1#8).getLsbD (j - i) = decide (j - i = 0) := by simp [BitVec.getLsbD_one]
  rw [this]
  by_cases h : j = i
  · simp [h, hi]
  · by_cases h2 : j < i
    · simp [h2, h]
    · have : ¬ j - i = 0 := by omega
      simp [h, this]
theorem bit_set (f : List B8) (c b : Nat) (hc : c / 8 < f.length) : bitT (setb f c) b = (bitT f b || decide (b = c)) := by
  unfold bitT setb
  by_cases h : b / 8 = c / 8
  · rw [List.getD_eq_getElem?_getD, h, List.getElem?_set_self hc]
    simp only [Option.getD_some]
    rw [BitVec.getLsbD_or, one_shl _ _ (by omega) (by omega)]
    congr 1
    simp only [decide_eq_decide]
    omega
  · rw [List.getD_eq_getElem?_getD, List.getElem?_set_ne (by omega)]
    have : decide (b = c) = false := by simp; intro e; subst e; exact h rfl
    rw [this, Bool.or_false, List.getD_eq_getElem?_getD]
theorem bit_fill (b : Nat) (l : List Nat) : ∀ f : List B8, (∀ c ∈ l, c < 8 * f.length) → bitT (fill f l) b = (bitT f b || decide (b ∈ l)) := by
  induction l with
  | nil => intro f _; simp [fill]
  | cons x t ih =>
    intro f h
    show bitT (fill (setb f x) t) b = _
    rw [ih (setb f x) (fun c hc => by rw [setb_len]; exact h c (by simp [hc])), bit_set f x b (by have := h x (by simp); omega), Bool.or_assoc]
    congr 1
    simp only [List.mem_cons, Bool.decide_or]
theorem ext_bits (f g : List B8) (hl : f.length = g.length) (h : ∀ b, b < 8 * f.length → bitT f b = bitT g b) : f = g := by
  apply List.ext_getElem hl
  intro i h1 h2
  apply BitVec.eq_of_getLsbD_eq
  intro j hj
  have := h (8 * i + j) (by omega)
  unfold bitT at this
  rw [show (8 * i + j) / 8 = i by omega, show (8 * i + j) % 8 = j by omega] at this
  simpa [List.getD_eq_getElem?_getD, h1, h2] using this
/-- How many bytes of bits. -/
def room (n b : Nat) : Nat := (max (n * b) 64 + 7) / 8
theorem room_ge (n b : Nat) : 8 ≤ room n b := by unfold room; omega
theorem room_le (n b : Nat) (h : b ≤ 64) : room n b ≤ 8 * n + 8 := by
  have : n * b ≤ n * 64 := Nat.mul_le_mul_left n h
  unfold room; omega
/-- The bits of keys. -/
def kbs (ks : List ByteArray) (r k : Nat) : List Nat := ks.flatMap fun s => kb s (8 * r) k
theorem kbs_append (a b : List ByteArray) (r k : Nat) : kbs (a ++ b) r k = kbs a r k ++ kbs b r k := by simp [kbs]
theorem kbs_lt (ks : List ByteArray) (r k : Nat) (h : 0 < r) : ∀ c ∈ kbs ks r k, c < 8 * r := by
  intro c hc
  obtain ⟨s, _, hs⟩ := List.mem_flatMap.1 hc
  exact kb_lt s (8 * r) k (by omega) c hs
/-- The bits of a filter, without its last byte. -/
def flt (ks : List ByteArray) (r k : Nat) : List B8 := fill (List.replicate r 0#8) (kbs ks r k)
theorem flt_len (ks : List ByteArray) (r k : Nat) : (flt ks r k).length = r := by unfold flt; rw [fill_len]; simp
theorem bit_zero (r b : Nat) : bitT (List.replicate r 0#8) b = false := by
  unfold bitT
  rw [List.getD_eq_getElem?_getD, List.getElem?_replicate]
  split <;> simp
theorem bit_flt (ks : List ByteArray) (r k b : Nat) (h : 0 < r) : bitT (flt ks r k) b = decide (b ∈ kbs ks r k) := by
  unfold flt
  rw [bit_fill b _ _ (fun c hc => by rw [List.length_replicate]; exact kbs_lt ks r k h c hc), bit_zero, Bool.false_or]
theorem flt_same (ks ls : List ByteArray) (r k : Nat) (h : 0 < r) (hm : ∀ s, s ∈ ks ↔ s ∈ ls) : flt ks r k = flt ls r k := by
  apply ext_bits
  · rw [flt_len, flt_len]
  · intro b _
    rw [bit_flt _ _ _ _ h, bit_flt _ _ _ _ h]
    simp only [decide_eq_decide, kbs, List.mem_flatMap, hm]
/-- The filter that Make tells. -/
def mkf (ks : List ByteArray) (b : Nat) : List B8 := flt ks (room ks.length b) (Pr.pb b) ++ [BitVec.ofNat 8 (Pr.pb b)]
theorem mkf_len (ks : List ByteArray) (b : Nat) : (mkf ks b).length = room ks.length b + 1 := by simp [mkf, flt_len]
theorem setb_last (f : List B8) (x : B8) (b : Nat) (h : b / 8 < f.length) : setb (f ++ [x]) b = setb f b ++ [x] := by
  unfold setb
  rw [List.set_append_left _ _ h, List.getD_eq_getElem?_getD, List.getElem?_append_left h, List.getD_eq_getElem?_getD]
theorem fill_last (x : B8) (l : List Nat) : ∀ f : List B8, (∀ b ∈ l, b / 8 < f.length) → fill (f ++ [x]) l = fill f l ++ [x] := by
  induction l with
  | nil => intro f _; rfl
  | cons b t ih =>
    intro f h
    show fill (setb (f ++ [x]) b) t = _
    rw [setb_last f x b (h b (by simp)), ih (setb f b) (fun c hc => by rw [setb_len]; exact h c (by simp [hc]))]
    rfl
/-! ### Bytes as values -/
def bi (x : B8) : Int := (x.toNat : Int)
def bv (x : B8) : Value := .int .u8 (bi x)
theorem bi_bd (x : B8) : 0 ≤ bi x ∧ bi x ≤ 255 := by have := x.isLt; unfold bi; omega
theorem bi_inj {x y : B8} (h : bi x = bi y) : x = y := by apply BitVec.eq_of_toNat_eq; unfold bi at h; omega
theorem wrap_u8 (n : Int) : IntKind.u8.wrap n = n % 256 := by simp [IntKind.wrap, IntKind.bits, IntKind.signed]
theorem ofI_bi (x : B8) : BitVec.ofInt 8 (bi x) = x := by
  apply bi_inj; unfold bi; rw [BitVec.toNat_ofInt]; have := x.isLt; omega
theorem wrap_bi (x : B8) : IntKind.u8.wrap (bi x) = bi x := by have := bi_bd x; rw [wrap_u8]; omega
theorem or_b (x y : B8) : bits .or .u8 (bi x) (bi y) = bi (x ||| y) := by
  show IntKind.u8.wrap ((BitVec.ofInt 8 (bi x) ||| BitVec.ofInt 8 (bi y)).toNat : Int) = _
  rw [ofI_bi, ofI_bi]; exact wrap_bi _
theorem and_b (x y : B8) : bits .and .u8 (bi x) (bi y) = bi (x &&& y) := by
  show IntKind.u8.wrap ((BitVec.ofInt 8 (bi x) &&& BitVec.ofInt 8 (bi y)).toNat : Int) = _
  rw [ofI_bi, ofI_bi]; exact wrap_bi _
theorem one_b (i : Nat) (h : i < 8) : ((2 ^ i : Nat) : Int) = bi (1#8 <<< i) := by
  unfold bi
  rw [BitVec.toNat_shiftLeft, Nat.shiftLeft_eq]
  have : 2 ^ i < 256 := Nat.pow_lt_pow_of_lt (by omega) (show i < 8 from h)
  rw [show (1#8).toNat = 1 from rfl, Nat.one_mul, Nat.mod_eq_of_lt this]
theorem shr_b (x : B8) (i : Nat) : bi x / ((2 ^ i : Nat) : Int) = bi (x >>> i) := by
  unfold bi; rw [BitVec.toNat_ushiftRight, Nat.shiftRight_eq_div_pow]; norm_cast
theorem shl1 (z : Nat) (h : z < 8) : Op.shift .shl .u8 1 .i64 (z : Int) = pure (.int .u8 (bi (1#8 <<< z))) := by
  rw [shift_shl_any _ _ _ _ (by omega), Int.toNat_natCast, show min z IntKind.u8.bits = z from by simp [IntKind.bits]; omega, Int.one_mul, ← one_b z h]
  have : 2 ^ z < 256 := Nat.pow_lt_pow_of_lt (by omega) (show z < 8 from h)
  rw [wrap_u8, show (2 : Int) ^ z = ((2 ^ z : Nat) : Int) from by norm_cast]
  generalize 2 ^ z = q at this
  congr 2
  omega
theorem shrv (v : B8) (z : Nat) (h : z < 8) : Op.shift .shr .u8 (bi v) .i64 (z : Int) = pure (.int .u8 (bi (v >>> z))) := by
  rw [shift_shr_any _ _ _ _ (by omega), Int.toNat_natCast, show min z IntKind.u8.bits = z from by simp [IntKind.bits]; omega, ← shr_b]
  norm_cast
/-- The bit that is looked at. -/
theorem look_b (x : B8) (i : Nat) : (bi ((x >>> i) &&& 1#8) == 0) = !x.getLsbD i := by
  have h : (x >>> i) &&& 1#8 = if x.getLsbD i then 1#8 else 0#8 := by
    apply BitVec.eq_of_getLsbD_eq
    intro j hj
    rw [BitVec.getLsbD_and, BitVec.getLsbD_ushiftRight, BitVec.getLsbD_one]
    by_cases h0 : j = 0
    · subst h0; cases hx : x.getLsbD i <;> simp [hx]
    · cases hx : x.getLsbD i <;> simp [h0]
  rw [h]
  cases x.getLsbD i <;> rfl
end Go.Proofs.Ytempagacpfejdaa.Fl

/- Plain facts on lists of bytes: what was laid between any bytes is read again, with the place behind it; a text's bytes as a string are the text. -/
import Derived.Test.YtpinknkdcecajaaWp
namespace Go.Proofs.Ytpinknkdcecajaa.Bk
open Go.RowKit
open Go.Proofs.Ytpinknkdcecajaa.Wr
open Go.Proofs.Ytpinknkdcecajaa.Ws
open Go.Proofs.Ytpinknkdcecajaa.Wp
open Go.Proofs.Ytpinknkdcecajaa.Rt
set_option linter.unusedVariables false

theorem le_lb (n : Nat) : ∀ v : Int, 0 ≤ v → Fx.le (lb n v) = v % 256 ^ n := by
  induction n with
  | zero => intro v h; simp [lb, Fx.le]
  | succ n ih =>
    intro v h
    simp only [lb, Fx.le]
    rw [ih (v / 256) (by omega), Int.pow_succ, Int.mul_comm (256 ^ n) 256]
    have hp : (0 : Int) < 256 ^ n := Int.pow_pos (by omega)
    have e := Int.emod_emod_of_dvd v (show (256 : Int) ∣ 256 * 256 ^ n from ⟨_, rfl⟩)
    have e2 : v % (256 * 256 ^ n) / 256 = v / 256 % 256 ^ n := by
      rw [Int.emod_def, Int.emod_def, Int.mul_assoc, Int.sub_mul_ediv_left _ _ (by omega), Int.ediv_ediv_of_nonneg (by omega)]
    omega
theorem le8 (v : Int) (h : 0 ≤ v ∧ v ≤ 18446744073709551615) : Fx.le (lb 8 v) = v := by
  rw [le_lb 8 v h.1, show (256 : Int) ^ 8 = 18446744073709551616 by decide]; omega
theorem le4 (v : Int) (h : 0 ≤ v ∧ v ≤ 4294967295) : Fx.le (lb 4 v) = v := by
  rw [le_lb 4 v h.1, show (256 : Int) ^ 4 = 4294967296 by decide]; omega
theorem fread_at (pre ys rest : List Int) (n : Nat) (h : ys.length = n) : Fx.fread (pre ++ (ys ++ rest)) pre.length n = (Fx.le ys, ((pre.length + n : Nat) : Int), 0) := by
  unfold Fx.fread
  rw [if_neg (by simp; omega), if_neg (by simp; omega)]
  have e : (pre ++ (ys ++ rest)).drop ((pre.length : Nat) : Int).toNat = ys ++ rest := by simp
  rw [e, List.take_left' h]
  simp
theorem tread_at (pre rest : List Int) (s : ByteArray) (hs : s.size ≤ 140737488351232) : tread (pre ++ (Vb.vb s.size ++ (tx s ++ rest))) pre.length = (tx s, ((pre.length + (Vb.vb s.size).length + s.size : Nat) : Int), 0) := by
  unfold tread
  rw [Vb.vread_back pre (tx s ++ rest) s.size (by omega)]
  simp only
  rw [if_neg (by simp), if_neg (by simp [tx_len]; omega)]
  have e : (pre ++ (Vb.vb s.size ++ (tx s ++ rest))).drop (((pre.length + (Vb.vb s.size).length : Nat) : Int)).toNat = tx s ++ rest := by
    rw [Int.toNat_natCast, ← List.append_assoc]
    exact List.drop_left' (by simp)
  rw [e, Int.toNat_natCast, List.take_left' (tx_len s)]
  simp
theorem str_tx (s : ByteArray) : str (tx s) = s := by
  have h : ∀ (l : List UInt8) (r : ByteArray), ((l.map fun b => (b.toNat : Int)).foldl (fun r n => r.push (UInt8.ofNat n.toNat)) r).data.toList = r.data.toList ++ l := by
    intro l
    induction l with
    | nil => intro r; simp
    | cons b t ih => intro r; simp only [List.map_cons, List.foldl_cons]; rw [ih]; simp
  apply ByteArray.ext
  apply Array.ext'
  have := h s.data.toList ByteArray.empty
  unfold str tx
  rw [this]
  simp
end Go.Proofs.Ytpinknkdcecajaa.Bk

/- Bytes of a number put together again, and a number's bytes taken apart; an internal key's bytes are read as it; what is read is put as these bytes. -/
import Derived.Test.YtkanjbeijoeenaaEn
namespace Go.Proofs.Ytkanjbeijoeenaa.En
open Go.ChangeShapes Go.WideShapes Go.ChangeAt Go.RowKit
open Go.Proofs.Ytkanjbeijoeenaa.Kd (kindB sizeB seqB kind_true kind_false size_true size_false seq_true seq_false)
open Go.Proofs.Ytkanjbeijoeenaa.By
open Go.Proofs.Ytkanjbeijoeenaa.Mr
set_option linter.unusedVariables false

theorem le_lb (n : Nat) : ∀ v : Int, 0 ≤ v → v < 256 ^ n → Fx.le (lb n v) = v := by
  induction n with
  | zero => intro v h0 h1; simp at h1; simp [lb, Fx.le]; omega
  | succ n ih =>
    intro v h0 h1
    simp only [lb, Fx.le]
    rw [Int.pow_succ] at h1
    rw [ih (v / 256) (by omega) (by omega)]
    omega
theorem lb_le (ys : List Int) (hb : ∀ y ∈ ys, 0 ≤ y ∧ y ≤ 255) : lb ys.length (Fx.le ys) = ys := by
  induction ys with
  | nil => rfl
  | cons y r ih =>
    have hy := hb y (by simp)
    simp only [List.length_cons, lb, Fx.le]
    rw [show (y + 256 * Fx.le r) % 256 = y by omega, show (y + 256 * Fx.le r) / 256 = Fx.le r by omega, ih (fun z hz => hb z (by simp [hz]))]
theorem tx_str (zs : List Int) (hb : ∀ y ∈ zs, 0 ≤ y ∧ y ≤ 255) : tx (str zs) = zs := by
  unfold tx
  rw [str_data, List.map_map]
  conv => rhs; rw [← List.map_id zs]
  apply List.map_congr_left
  intro y hy
  have := hb y hy
  simp
  omega
theorem enc_bytes (a : ByteArray) (p : Int) : ∀ y ∈ tx a ++ lb 8 p, 0 ≤ y ∧ y ≤ 255 := by
  intro y hy
  rcases List.mem_append.1 hy with h | h
  · exact tx_bytes a y h
  · exact lb_bytes 8 p y h
theorem enc_dv (a : ByteArray) (p : Int) (h0 : 0 ≤ p) (h1 : p ≤ 18446744073709551615) : dv (tx a ++ lb 8 p) = p := by
  unfold dv
  rw [List.length_append, lb_len, Nat.add_sub_cancel, List.drop_left]
  exact le_lb 8 p h0 (by have : (256 : Int) ^ 8 = 18446744073709551616 := by decide
                         omega)
/-- What is encoded is read as it was. -/
theorem enc_dec {a : ByteArray} {s k : Int} (hs : 0 ≤ s) (h : vld a s k = true) : decB (tx a ++ lb 8 (s * 256 + k)) = true ∧ str ((tx a ++ lb 8 (s * 256 + k)).take (a.size + 8 - 8)) = a ∧ dv (tx a ++ lb 8 (s * 256 + k)) / 256 = s ∧ dv (tx a ++ lb 8 (s * 256 + k)) % 256 = k := by
  obtain ⟨h1, h2, h3⟩ := vld_true h
  have hsz := size_true h1
  have hsq := seq_true h2
  have hkd := kind_true h3
  have e := enc_dv a (s * 256 + k) (by omega) (by omega)
  have e1 : (s * 256 + k) / 256 = s := by omega
  have e2 : (s * 256 + k) % 256 = k := by omega
  refine ⟨?_, ?_, by rw [e, e1], by rw [e, e2]⟩
  · unfold decB
    rw [e, e2, h3, Bool.and_true]
    rw [List.length_append, tx_len, lb_len]
    exact decide_eq_true (by omega)
  · rw [Nat.add_sub_cancel, ← tx_len a, List.take_left, str_tx]
/-- What is read is valid, and is put as the bytes that were read. -/
theorem dec_enc {zs : List Int} (hb : ∀ y ∈ zs, 0 ≤ y ∧ y ≤ 255) (h : decB zs = true) : vld (str (zs.take (zs.length - 8))) (dv zs / 256) (dv zs % 256) = true ∧ 0 ≤ dv zs / 256 ∧ tx (str (zs.take (zs.length - 8))) ++ lb 8 (dv zs / 256 * 256 + dv zs % 256) = zs ∧ (str (zs.take (zs.length - 8))).size + 8 = zs.length := by
  obtain ⟨h1, h1', h2, h3⟩ := dec_true h
  have hd := dv_bd zs hb (by omega)
  have hsz : (str (zs.take (zs.length - 8))).size = zs.length - 8 := by rw [str_size, List.length_take]; omega
  refine ⟨?_, by omega, ?_, by omega⟩
  · unfold vld
    rw [h3, hsz]
    have e1 : sizeB ((zs.length - 8 : Nat) : Int) = true := decide_eq_true (by omega)
    have e2 : seqB (dv zs / 256) = true := decide_eq_true (by omega)
    rw [e1, e2]
    rfl
  · rw [tx_str _ (fun y hy => hb y (List.mem_of_mem_take hy)), show dv zs / 256 * 256 + dv zs % 256 = dv zs by omega]
    unfold dv
    have e : (zs.drop (zs.length - 8)).length = 8 := by rw [List.length_drop]; omega
    have := lb_le (zs.drop (zs.length - 8)) (fun y hy => hb y (List.mem_of_mem_drop hy))
    rw [e] at this
    rw [this, List.take_append_drop]
end Go.Proofs.Ytkanjbeijoeenaa.En

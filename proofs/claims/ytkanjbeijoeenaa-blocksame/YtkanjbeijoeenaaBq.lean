/- How long blocks are: with restarts at each entry, and with others. -/
import Derived.Test.YtkanjbeijoeenaaBb
namespace Go.Proofs.Ytkanjbeijoeenaa.Bq
open Go.RowKit
open Go.Proofs.Ytkanjbeijoeenaa.By
open Go.Proofs.Ytkanjbeijoeenaa.Bl
open Go.Proofs.Ytkanjbeijoeenaa.Bn
open Go.Proofs.Ytkanjbeijoeenaa.Bm
open Go.Proofs.Ytkanjbeijoeenaa.Bb
open Go.Proofs.Ytkanjbeijoeenaa.Kd (size_true)
open Go.Proofs.Ytkanjbeijoeenaa.En (vld_true)
open Go.Proofs.Ytkanjbeijoeenaa.Mb (E ze)
set_option linter.unusedVariables false
set_option linter.unusedSimpArgs false

/-- How many bytes a number has. -/
def lv (n : Nat) : Nat := (Vb.vb (n : Int)).length
theorem lv_log (n : Nat) (h : n ≤ 18446744073709551615) : lv n = Nat.log2 n / 7 + 1 := by
  unfold lv
  rw [Vb.vb_len (n : Int) (by omega)]
  simp
theorem lv_small {n : Nat} (h : n < 128) : lv n = 1 := by
  unfold lv Vb.vb
  rw [Vb.vbF_small 9 _ (by omega)]
  rfl
theorem lv_step {n : Nat} (h : 128 ≤ n) (h2 : n ≤ 1000000000) : lv n = lv (n / 128) + 1 := by
  have e : lv n = (Vb.vbF 8 ((n / 128 : Nat) : Int)).length + 1 := by
    unfold lv Vb.vb
    rw [Vb.vbF_step 8 _ (by omega), List.length_cons]
    rw [show ((n : Int) / 128) = ((n / 128 : Nat) : Int) by omega]
  have e2 : (Vb.vbF 8 ((n / 128 : Nat) : Int)).length = Nat.log2 (n / 128) / 7 + 1 := Vb.vbF_len 8 (n / 128) (by
    have : (128 : Nat) ^ 8 = 72057594037927936 := by decide
    omega)
  rw [e, e2, lv_log (n / 128) (by omega)]
theorem lv_pos (n : Nat) : 1 ≤ lv n := Vb.vb_pos _
theorem lv_mid {n : Nat} (h : n < 16384) : lv n ≤ 2 := by
  by_cases h1 : n < 128
  · rw [lv_small h1]; omega
  · rw [lv_step (by omega) (by omega), lv_small (by omega)]; omega
theorem eb_length (sh : Nat) (x : E) (h : sh ≤ x.k.size + 8) : (eb sh (kbs x) x.v).length = lv sh + lv (x.k.size + 8 - sh) + lv x.v.size + (x.k.size + 8 - sh) + x.v.size := by
  unfold eb lv
  simp only [List.length_append, List.length_drop, tx_len, kbs_len]
/-- What an entry costs where it is written whole. -/
def ew (x : E) : Nat := 1 + lv (x.k.size + 8) + lv x.v.size + (x.k.size + 8) + x.v.size + 4
def ews : List E → Nat
  | [] => 0
  | x :: l => ew x + ews l
theorem ews_append : ∀ xs ys, ews (xs ++ ys) = ews xs + ews ys
  | [], ys => by simp [ews]
  | x :: l, ys => by simp [ews, ews_append l ys]; omega
theorem sh_le (S : BS) (x : E) : shd S (kbs x) ≤ x.k.size + 8 := by
  unfold shd
  split
  · omega
  · have := (shr_le S.last (kbs x)).2; rw [kbs_len] at this; exact this
theorem cost (r : Nat) : ∀ (xs : List E), (∀ x ∈ xs, may x = true) → (bst r xs).ent.length + 4 * (bst r xs).pl.length ≤ ews xs ∧ (r = 1 → (bst r xs).ent.length + 4 * (bst r xs).pl.length = ews xs) := by
  have : ∀ (xs : List E) (S : BS), (∀ x ∈ xs, may x = true) → S.r = r → (xs.foldl (fun S x => stp S (kbs x) x.v) S).ent.length + 4 * (xs.foldl (fun S x => stp S (kbs x) x.v) S).pl.length ≤ S.ent.length + 4 * S.pl.length + ews xs ∧ (r = 1 → (xs.foldl (fun S x => stp S (kbs x) x.v) S).ent.length + 4 * (xs.foldl (fun S x => stp S (kbs x) x.v) S).pl.length = S.ent.length + 4 * S.pl.length + ews xs) := by
    intro xs
    induction xs with
    | nil => intro S _ _; simp [ews]
    | cons x l ih =>
      intro S hx hr
      have hm := hx x (by simp)
      have hk := size_true (vld_true (may_vld hm).1).1
      obtain ⟨h1, h2⟩ := ih (stp S (kbs x) x.v) (fun z hz => hx z (by simp [hz])) hr
      have e1 : (stp S (kbs x) x.v).ent.length = S.ent.length + (eb (shd S (kbs x)) (kbs x) x.v).length := by
        show (S.ent ++ _).length = _
        rw [List.length_append]
      rw [eb_length _ x (sh_le S x)] at e1
      have hl0 : lv 0 = 1 := lv_small (by omega)
      have hl1 := lv_mid (n := shd S (kbs x)) (by have := sh_le S x; omega)
      have hl2 := lv_mid (n := x.k.size + 8 - shd S (kbs x)) (by omega)
      have hl3 := lv_pos (x.k.size + 8)
      have hsl := sh_le S x
      have e2 : (stp S (kbs x) x.v).pl = plS S := rfl
      simp only [List.foldl_cons, ews]
      by_cases hc : S.cnt % S.r = 0
      · have e3 : shd S (kbs x) = 0 := by unfold shd; rw [if_pos hc]
        have e4 : (plS S).length = S.pl.length + 1 := by unfold plS; rw [if_pos hc]; simp
        rw [e3] at e1
        have e5 : ew x = 1 + lv (x.k.size + 8) + lv x.v.size + (x.k.size + 8) + x.v.size + 4 := rfl
        rw [e2, e4, e1, hl0] at h1 h2
        refine ⟨by simp only [Nat.sub_zero] at h1; omega, fun hr1 => by have := h2 hr1; simp only [Nat.sub_zero] at this; omega⟩
      · have e4 : (plS S).length = S.pl.length := by unfold plS; rw [if_neg hc]
        have e5 : ew x = 1 + lv (x.k.size + 8) + lv x.v.size + (x.k.size + 8) + x.v.size + 4 := rfl
        rw [e2, e4, e1] at h1
        refine ⟨by omega, fun hr1 => ?_⟩
        rw [hr, hr1, Nat.mod_one] at hc
        exact absurd rfl hc
  intro xs hx
  have := this xs (b0 r) hx rfl
  have e1 : (b0 r).ent.length = 0 := rfl
  have e2 : (b0 r).pl.length = 0 := rfl
  rw [e1, e2] at this
  unfold bst
  refine ⟨by omega, fun hr => by have := this.2 hr; omega⟩
theorem ews_bound : ∀ xs : List E, ews xs ≤ 10 * Oi.wts xs
  | [] => by simp [ews, Oi.wts]
  | x :: l => by
    have := ews_bound l
    have h1 : lv (x.k.size + 8) ≤ 10 := Vb.vb_le _
    have h2 : lv x.v.size ≤ 10 := Vb.vb_le _
    simp only [ews, Oi.wts, ew, Oi.wt]
    omega
end Go.Proofs.Ytkanjbeijoeenaa.Bq

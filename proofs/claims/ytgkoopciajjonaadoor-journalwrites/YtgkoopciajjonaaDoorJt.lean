/- A file of blocks in which a byte is turned, as plain lists: the records ahead of it are read, nothing behind. -/
import Derived.Test.YtgkoopciajjonaaDoorJn
namespace Go.Proofs.YtgkoopciajjonaaDoor.Jt
open Go.RowKit
open Go.Proofs.YtgkoopciajjonaaDoor.Crc
open Go.Proofs.YtgkoopciajjonaaDoor.Jm
open Go.Proofs.YtgkoopciajjonaaDoor.Jn
set_option linter.unusedVariables false

theorem over_inj (r s : BitVec 32) (ys : List Int) (h : over r ys = over s ys) : r = s := by
  have h1 := over_split (r ^^^ s) s ys
  rw [BitVec.xor_assoc, BitVec.xor_self, BitVec.xor_zero, h] at h1
  have h2 : shiftZ (8 * ys.length) (r ^^^ s) = 0#32 := by
    have := congrArg (fun z => over s ys ^^^ z) h1
    simp only [← BitVec.xor_assoc, BitVec.xor_self, BitVec.zero_xor] at this
    exact this.symm
  have h3 := shiftZ_inj (8 * ys.length) (r ^^^ s) 0#32 (by rw [h2, shiftZ_zero])
  have := congrArg (fun z => z ^^^ s) h3
  simp only [BitVec.xor_assoc, BitVec.xor_self, BitVec.xor_zero, BitVec.zero_xor] at this
  exact this
theorem val_bits8 (y : Int) (h : 0 ≤ y ∧ y ≤ 255) : val (bits8 y) = y.toNat := by
  have := val8 y.toNat (by omega) []
  rw [List.append_nil, Int.toNat_of_nonneg h.1] at this
  rw [this]; simp [val]
theorem byte_inj (r : BitVec 32) (y z : Int) (hy : 0 ≤ y ∧ y ≤ 255) (hz : 0 ≤ z ∧ z ≤ 255) (h : overB r (bits8 y) = overB r (bits8 z)) : y = z := by
  rw [overB_val (bits8 y) r (by simp [bits8]), overB_val (bits8 z) r (by simp [bits8]), val_bits8 y hy, val_bits8 z hz] at h
  have h1 := shiftZ_inj _ _ _ (h.trans (by rfl))
  have h2 := congrArg (fun q => r ^^^ q) h1
  simp only [← BitVec.xor_assoc, BitVec.xor_self, BitVec.zero_xor] at h2
  have h3 := congrArg BitVec.toNat h2
  rw [BitVec.toNat_ofNat, BitVec.toNat_ofNat] at h3
  omega
theorem sum_turn (xs : List Int) (i : Nat) (v : Int) (hi : i < xs.length) (hx : ∀ y ∈ xs, 0 ≤ y ∧ y ≤ 255) (hv : 0 ≤ v ∧ v ≤ 255) (hne : v ≠ xs.getD i 0) : sum (xs.set i v) ≠ sum xs := by
  intro h
  have e1 : xs = xs.take i ++ (xs.getD i 0 :: xs.drop (i + 1)) := by
    rw [List.getD_eq_getElem?_getD, List.getElem?_eq_getElem hi, Option.getD_some, ← List.drop_eq_getElem_cons hi, List.take_append_drop]
  have e2 : xs.set i v = xs.take i ++ (v :: xs.drop (i + 1)) := List.set_eq_take_append_cons_drop .. |>.trans (by rw [if_pos hi])
  have h2 : over (~~~0#32) (xs.set i v) = over (~~~0#32) xs := by
    unfold sum at h
    have := congrArg (fun q => ~~~q) h
    simpa only [not_not32] using this
  rw [e2] at h2
  rw [show over (~~~0#32) xs = over (~~~0#32) (xs.take i ++ (xs.getD i 0 :: xs.drop (i + 1))) by rw [← e1]] at h2
  rw [over_append, over_append, over_cons, over_cons] at h2
  exact hne (byte_inj _ _ _ hv (by rw [List.getD_eq_getElem?_getD, List.getElem?_eq_getElem hi]; exact hx _ (List.getElem_mem _)) (over_inj _ _ _ h2))
theorem pc_bytes (k : Int) (d : List Int) (hk : 1 ≤ k ∧ k ≤ 4) (hd : ∀ y ∈ d, 0 ≤ y ∧ y ≤ 255) : ∀ y ∈ pc k d, 0 ≤ y ∧ y ≤ 255 := by
  intro y hy
  simp only [pc, le4, le2, List.cons_append, List.nil_append, List.mem_cons] at hy
  rcases hy with rfl | rfl | rfl | rfl | rfl | rfl | rfl | h
  · omega
  · omega
  · omega
  · omega
  · omega
  · omega
  · omega
  · exact hd y h
/-- A piece in which a byte is turned is bent. -/
theorem pa_turn (k : Int) (d t : List Int) (lf j : Nat) (v : Int) (hk : 1 ≤ k ∧ k ≤ 4) (hby : ∀ y ∈ d, 0 ≤ y ∧ y ≤ 255) (hd : d.length + 7 ≤ lf) (hl : d.length < 65536) (hj : j < 7 + d.length) (h4 : j ≠ 4) (h5 : j ≠ 5)
    (hv : 0 ≤ v ∧ v ≤ 255) (hne : v ≠ (pc k d).getD j 0) : pa ((pc k d).set j v ++ t) lf = .bad 2 := by
  have hp := pc_len k d
  have hlen : ((pc k d).set j v ++ t).length = 7 + d.length + t.length := by simp [hp]
  by_cases c7 : 7 ≤ j
  · obtain ⟨i, rfl⟩ : ∃ i, j = i + 7 := ⟨j - 7, by omega⟩
    have e : (pc k d).set (i + 7) v = le4 (ks k d) ++ (le2 d.length ++ (k :: d.set i v)) := rfl
    have g : (pc k d).getD (i + 7) 0 = d.getD i 0 := rfl
    rw [g] at hne
    have c : cnt ((pc k d).set (i + 7) v ++ t) = d.length := by
      rw [e]
      show (((d.length % 256 : Nat) : Int)).toNat + 256 * (((d.length / 256 % 256 : Nat) : Int)).toNat = d.length
      omega
    have s : sm ((pc k d).set (i + 7) v ++ t) = toI (ks k d) := by rw [e, List.append_assoc]; exact le4_val _ _
    have k6 : ((pc k d).set (i + 7) v ++ t).getD 6 0 = k := by rw [e]; rfl
    have dd : ((pc k d).set (i + 7) v ++ t).drop 7 = d.set i v ++ t := by rw [e]; rfl
    unfold pa
    rw [k6, c, s, dd, hlen, if_neg (by omega), if_neg (by omega), if_neg (by omega), List.take_left' (by simp), if_pos]
    intro h
    have := mask_inj (toI_inj _ _ h)
    exact sum_turn (k :: d) (i + 1) v (by simp; omega) (by intro y hy; rcases List.mem_cons.1 hy with rfl | h'; omega; exact hby y h') hv (by simpa using hne) this
  · by_cases c6 : j = 6
    · subst c6
      have e : (pc k d).set 6 v = le4 (ks k d) ++ (le2 d.length ++ (v :: d)) := rfl
      have g : (pc k d).getD 6 0 = k := rfl
      rw [g] at hne
      have c : cnt ((pc k d).set 6 v ++ t) = d.length := by
        rw [e]
        show (((d.length % 256 : Nat) : Int)).toNat + 256 * (((d.length / 256 % 256 : Nat) : Int)).toNat = d.length
        omega
      have s : sm ((pc k d).set 6 v ++ t) = toI (ks k d) := by rw [e, List.append_assoc]; exact le4_val _ _
      have k6 : ((pc k d).set 6 v ++ t).getD 6 0 = v := by rw [e]; rfl
      have dd : ((pc k d).set 6 v ++ t).drop 7 = d ++ t := by rw [e]; rfl
      unfold pa
      rw [k6, c, s, dd, hlen, if_neg (by omega)]
      by_cases hr : v < 1 ∨ 4 < v
      · rw [if_pos (.inl hr)]
      · rw [if_neg (by omega), if_neg (by omega), List.take_left' rfl, if_pos]
        intro h
        have := mask_inj (toI_inj _ _ h)
        exact sum_turn (k :: d) 0 v (by simp) (by intro y hy; rcases List.mem_cons.1 hy with rfl | h'; omega; exact hby y h') hv (by simpa using hne) this
    · have hj4 : j < 4 := by omega
      obtain ⟨q, hq⟩ : ∃ q, q = ks k d := ⟨_, rfl⟩
      have e : (pc k d).set j v = (le4 q).set j v ++ (le2 d.length ++ (k :: d)) := by
        rw [hq]; unfold pc; exact List.set_append_left _ _ (by simpa [le4] using hj4)
      have g : (pc k d).getD j 0 = (le4 q).getD j 0 := by
        rw [hq]; unfold pc; rw [List.getD_eq_getElem?_getD, List.getElem?_append_left (by simpa [le4] using hj4), ← List.getD_eq_getElem?_getD]
      rw [g] at hne
      have hs : sm ((pc k d).set j v ++ t) ≠ toI q := by
        rw [e, List.append_assoc]
        have h0 := le4_val q []
        have := q.isLt
        rcases (by omega : j = 0 ∨ j = 1 ∨ j = 2 ∨ j = 3) with rfl | rfl | rfl | rfl
        all_goals
          rw [← h0]
          simp only [sm, le4, List.set_cons_zero, List.set_cons_succ, List.cons_append, List.nil_append, List.getD_cons_zero, List.getD_cons_succ] at hne ⊢
          omega
      have hk6 : ((pc k d).set j v ++ t).getD 6 0 = k ∧ cnt ((pc k d).set j v ++ t) = d.length ∧ ((pc k d).set j v ++ t).drop 7 = d ++ t := by
        rw [e]
        rcases (by omega : j = 0 ∨ j = 1 ∨ j = 2 ∨ j = 3) with rfl | rfl | rfl | rfl
        all_goals
          refine ⟨rfl, ?_, rfl⟩
          show (((d.length % 256 : Nat) : Int)).toNat + 256 * (((d.length / 256 % 256 : Nat) : Int)).toNat = d.length
          omega
      unfold pa
      rw [hk6.1, hk6.2.1, hk6.2.2, hlen, if_neg (by omega), if_neg (by omega), if_neg (by omega), List.take_left' rfl, if_pos]
      rw [← hq]
      exact Ne.symm hs
end Go.Proofs.YtgkoopciajjonaaDoor.Jt

/- Contracts of the document's own answer that takes bits one by one: what each returns, for all arguments, and that memory stays as it was. -/
import Derived.Test.YtgkoopciajjonaaDoorCk
namespace Go.Proofs.YtgkoopciajjonaaDoor.Rf
open Go.ChangeShapes Go.WideShapes Go.ChangeAt Go.RowKit
open Go.Proofs.YtgkoopciajjonaaDoor.Crc
open Go.Proofs.YtgkoopciajjonaaDoor.Ck
set_option linter.unusedVariables false

theorem poly_i : (2197175160 : Int) = toI poly := by decide
theorem one_i : (1 : Int) = toI 1#32 := by decide
theorem and1 (x : BitVec 32) : bits .and .u32 (toI x) 1 = if x.getLsbD 0 = true then 1 else 0 := by
  rw [one_i, and_i]
  have : x &&& 1#32 = if x.getLsbD 0 = true then 1#32 else 0#32 := by
    rw [BitVec.and_one_eq_setWidth_ofBool_getLsbD]
    cases x.getLsbD 0 <;> rfl
  rw [this]
  split <;> rfl
theorem shr1 (x : BitVec 32) : toI x / (2 : Int) = toI (x >>> 1) := shr_i x 1

theorem take_any (x y : BitVec 32) (w : World) : Calls Tryd.prog 53 #[.int .u32 (toI x), .int .u32 (toI y)] w fun e w' => e = .returned (.int .u32 (toI (take x (y.getLsbD 0)))) ∧ w' = w := by
  have X := xor_i x y
  have A := and1 (x ^^^ y)
  rw [BitVec.getLsbD_xor] at A
  have R := shr1 x
  have P : Hid (bits .xor .u32 (toI (x >>> 1)) 2197175160 = toI (x >>> 1 ^^^ poly)) := by show _ = _; rw [poly_i, xor_i]
  cases h : (x.getLsbD 0 ^^ y.getLsbD 0)
  · have E : Hid (take x (y.getLsbD 0) = x >>> 1) := by show _ = _; unfold take; rw [h]; simp
    rw [h] at A
    simp only [Bool.false_eq_true, if_false] at A
    clear h
    generalize take x (y.getLsbD 0) = t at E ⊢
    go_enter Tryd.func53, Tryd.ntmps53
    go_wp2
    go_ret
    exact ⟨ret_int (by rw [E.out]), rfl⟩
  · have E : Hid (take x (y.getLsbD 0) = x >>> 1 ^^^ poly) := by show _ = _; unfold take; rw [h]; simp
    rw [h] at A
    simp only [if_true] at A
    clear h
    generalize take x (y.getLsbD 0) = t at E ⊢
    go_enter Tryd.func53, Tryd.ntmps53
    go_wp2
    go_ret
    exact ⟨ret_int (by rw [E.out, P.out]), rfl⟩

theorem sh_byte (y : Int) (k : Nat) (h : 0 ≤ y ∧ y ≤ 255) : y / 2 ^ k = toI (BitVec.ofNat 32 (y.toNat / 2 ^ k)) := by
  unfold toI
  rw [BitVec.toNat_ofNat]
  have h1 : y.toNat / 2 ^ k < 2 ^ 32 := Nat.lt_of_le_of_lt (Nat.div_le_self _ _) (by omega)
  rw [Nat.mod_eq_of_lt h1]
  have : y = (y.toNat : Int) := by omega
  rw [this]
  simp
theorem sh_bit (n k : Nat) (h : n < 256) : (BitVec.ofNat 32 (n / 2 ^ k)).getLsbD 0 = n.testBit k := by
  rw [BitVec.getLsbD_ofNat]
  simp [Nat.testBit, Nat.shiftRight_eq_div_pow]
theorem bits8_take (y : Int) (k : Nat) (h : k < 8) : (bits8 y).take (k + 1) = (bits8 y).take k ++ [y.toNat.testBit k] := by
  have : ∀ j : Fin 8, (bits8 y).take (j.val + 1) = (bits8 y).take j.val ++ [y.toNat.testBit j.val] := by
    intro j
    match j with
    | ⟨0, _⟩ => rfl
    | ⟨1, _⟩ => rfl
    | ⟨2, _⟩ => rfl
    | ⟨3, _⟩ => rfl
    | ⟨4, _⟩ => rfl
    | ⟨5, _⟩ => rfl
    | ⟨6, _⟩ => rfl
    | ⟨7, _⟩ => rfl
  exact this ⟨k, h⟩

set_option maxHeartbeats 1000000 in
theorem over_any (x : BitVec 32) (a : Option Addr) (len cap : Nat) (zs : List Int) (w : World) (H : Bytes w a len cap zs) (hm : len ≤ 281474976710656) :
    Calls Tryd.prog 50 #[.int .u32 (toI x), .slice a len cap] w fun e w' => e = .returned (.int .u32 (toI (over x zs))) ∧ w' = w := by
  have HH : Hid (Bytes w a len cap zs) := H
  clear H
  go_enter Tryd.func50, Tryd.ntmps50
  go_wp2
  go_loop [0, 5] (fun r i => ∃ k : Nat, k ≤ len ∧ i = .int .i64 k ∧ r = .int .u32 (toI (over x (zs.take k)))) (fun _ i => len - (intOf i).toNat)
  case atStart => exact ⟨0, Nat.zero_le _, rfl, rfl⟩
  case round =>
    obtain ⟨k, hk, rfl, rfl⟩ := hrel
    by_cases hlt : k < len
    · have hzl := HH.out.1
      obtain ⟨ad, rfl⟩ : ∃ ad, a = some ad := by
        cases a with
        | none => have := (HH.out.2.2.1 rfl).1; omega
        | some ad => exact ⟨ad, rfl⟩
      have C := HH.out.2.2.2.2 ad rfl k hlt
      have hb : 0 ≤ zs.getD k 0 ∧ zs.getD k 0 ≤ 255 := by
        rw [List.getD_eq_getElem?_getD, List.getElem?_eq_getElem (by omega)]
        exact HH.out.2.2.2.1 _ (List.getElem_mem _)
      obtain ⟨r1, hr1⟩ : ∃ r1, Hid (r1 = over x (zs.take (k + 1))) := ⟨_, rfl⟩
      have E : Hid (overB (over x (zs.take k)) (bits8 (zs.getD k 0)) = r1) := by
        show _ = _
        rw [hr1.out, over_take _ _ _ (by omega)]
      generalize over x (zs.take k) = r0 at E ⊢
      generalize zs.getD k 0 = y at C hb E
      go_wp2_with fail
      go_loop [0, 6] (fun r i => ∃ j : Nat, j ≤ 8 ∧ i = .int .i64 j ∧ r = .int .u32 (toI (overB r0 ((bits8 y).take j)))) (fun _ i => 8 - (intOf i).toNat)
      case atStart => exact ⟨0, Nat.zero_le _, rfl, rfl⟩
      case round =>
        obtain ⟨j, hj, rfl, rfl⟩ := hrel
        by_cases hj8 : j < 8
        · have Y : Hid (y / 2 ^ j = toI (BitVec.ofNat 32 (y.toNat / 2 ^ j))) := sh_byte y j hb
          have G : Hid (take (overB r0 ((bits8 y).take j)) ((BitVec.ofNat 32 (y.toNat / 2 ^ j)).getLsbD 0) = overB r0 ((bits8 y).take (j + 1))) := by
            show _ = _
            rw [sh_bit _ _ (by omega), bits8_take y j hj8, overB_append]
            rfl
          obtain ⟨q1, hq1⟩ : ∃ q1, Hid (q1 = overB r0 ((bits8 y).take (j + 1))) := ⟨_, rfl⟩
          rw [← hq1.out] at G
          generalize overB r0 ((bits8 y).take j) = q0 at G ⊢
          go_wp2_with fail
          rw [Y.out]
          refine (take_any _ _ _).mono ?_
          rintro e w' ⟨rfl, rfl⟩
          rw [G.out]
          go_wp2_with fail
          go_round
          case rel => exact ⟨j + 1, by omega, by go_num, by rw [hq1.out]⟩
          case measure => simp [intOf]; omega
        · have : j = 8 := by omega
          subst this
          have hz : (bits8 y).take 8 = bits8 y := rfl
          rw [hz, E.out]
          go_wp2_with fail
          go_round
          case rel => exact ⟨k + 1, by omega, by go_num, by rw [hr1.out]⟩
          case measure => simp [intOf]; omega
    · have : k = len := by omega
      subst this
      have hz : zs.take k = zs := List.take_of_length_le (by rw [HH.out.1]; exact Nat.le_refl _)
      rw [hz]
      go_wp2
      go_ret
      exact ⟨rfl, rfl⟩

theorem rExtend_any (x : BitVec 32) (a : Option Addr) (len cap : Nat) (zs : List Int) (w : World) (H : Bytes w a len cap zs) (hm : len ≤ 281474976710656) :
    Calls Tryd.prog 46 #[.int .u32 (toI x), .slice a len cap] w fun e w' => e = .returned (.int .u32 (toI (extend x zs))) ∧ w' = w := by
  have HH : Hid (Bytes w a len cap zs) := H
  clear H
  have N := not_w x
  have M := not_w (over (~~~x) zs)
  have S := sgn
  go_enter Tryd.func46, Tryd.ntmps46
  go_wp2_with fail
  refine (over_any (~~~x) a len cap zs _ HH.out hm).mono ?_
  rintro e w' ⟨rfl, rfl⟩
  go_wp2
  go_ret
  exact ⟨rfl, rfl⟩
theorem rSum_any (a : Option Addr) (len cap : Nat) (zs : List Int) (w : World) (H : Bytes w a len cap zs) (hm : len ≤ 281474976710656) :
    Calls Tryd.prog 39 #[.slice a len cap] w fun e w' => e = .returned (.int .u32 (toI (sum zs))) ∧ w' = w := by
  have HH : Hid (Bytes w a len cap zs) := H
  clear H
  go_enter Tryd.func39, Tryd.ntmps39
  go_wp2_with fail
  have K := rExtend_any 0#32 a len cap zs w HH.out hm
  rw [← zero_i, extend0] at K
  refine K.mono ?_
  rintro e w' ⟨rfl, rfl⟩
  go_wp2
  go_ret
  exact ⟨rfl, rfl⟩
end Go.Proofs.YtgkoopciajjonaaDoor.Rf

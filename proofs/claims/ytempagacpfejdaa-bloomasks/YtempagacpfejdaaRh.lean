/- The document's Hash by its contract: it answers the same number. -/
import Derived.Test.YtempagacpfejdaaHs
namespace Go.Proofs.Ytempagacpfejdaa.Rh
open Go.ChangeShapes Go.WideShapes Go.ChangeAt Go.RowKit
open Go.Proofs.Ytempagacpfejdaa.Wd
open Go.Proofs.Ytempagacpfejdaa.Hs
set_option linter.unusedVariables false
set_option linter.unusedSimpArgs false

/-- j of n bytes at p, the uppermost first. -/
def up (s : ByteArray) (p n : Nat) : Nat → BitVec 32
  | 0 => 0#32
  | j + 1 => (up s p n j) <<< 8 ||| b8 s (p + (n - 1 - j))
theorem zero_i : (0 : Int) = toI 0#32 := by decide
theorem up_i (x : BitVec 32) (b : Nat) (s : ByteArray) : bits .or .u32 (toI x * 256 % 4294967296) ((bt s b : Int) % 4294967296) = toI (x <<< 8 ||| b8 s b) := by
  rw [shl8, b8_m, or_i]
set_option maxRecDepth 100000 in
set_option maxHeartbeats 400000 in
theorem number_any (s : ByteArray) (p n : Nat) (h : p + n ≤ s.size) (hn : n ≤ 4) (hs0 : s.size ≤ 9223372036854775807) (w : World) : Calls Try.prog 24 #[.string s, .int .i64 (p : Int), .int .i64 (n : Int)] w fun e w' => e = .returned (.int .u32 (toI (up s p n n))) ∧ w' = w := by
  go_enter Try.func24, Try.ntmps24
  go_wp2
  go_loop [7, 8] (fun v i => ∃ j : Nat, j ≤ n ∧ v = .int .u32 (toI (up s p n j)) ∧ i = .int .i64 ((n : Int) - 1 - (j : Int))) (fun _ i => (intOf i + 1).toNat)
  case atStart => exact ⟨0, by omega, by rw [zero_i]; rfl, by simp⟩
  case round =>
    obtain ⟨j, hj, rfl, rfl⟩ := hrel
    by_cases hlt : j < n
    · obtain ⟨q, hq⟩ : ∃ q : Nat, q = n - 1 - j := ⟨_, rfl⟩
      have e1 : (n : Int) - 1 - (j : Int) = (q : Int) := by omega
      have i0 : ∀ W, Sem.run Try.prog (Instr.index 9 (.string s) (.int .i64 ((p : Int) + (q : Int)))) W = .ok (.int .u8 (bt s (p + q) : Int)) W := fun W => by
        have := ix s (p + q) (by omega) W
        rw [← this]
        norm_cast
      have hU : Hid (up s p n (j + 1) = (up s p n j) <<< 8 ||| b8 s (p + q)) := by rw [hq]; rfl
      rw [e1]
      generalize up s p n j = x at hU
      have hq' : q < n := by omega
      have hqj : Hid (q = n - 1 - j) := hq
      clear hq e1
      go_wp2_with fail
      go_round
      case rel => exact ⟨j + 1, by omega, by rw [up_i, ← hU.out], by have := hqj.out; go_num⟩
      case measure => simp [intOf]; try omega
    · have : j = n := by omega
      subst this
      have e1 : (j : Int) - 1 - (j : Int) = -1 := by omega
      rw [e1]
      go_wp2
      go_ret
      exact ⟨rfl, rfl⟩
theorem or_comm4 (a b c d : BitVec 32) : ((d ||| c) ||| b) ||| a = ((a ||| b) ||| c) ||| d := by
  rw [BitVec.or_comm (d ||| c ||| b) a, BitVec.or_comm (d ||| c) b, BitVec.or_comm d c, BitVec.or_assoc, BitVec.or_assoc]
theorem up4 (s : ByteArray) (p : Nat) : up s p 4 4 = n4 s p := by
  simp only [up, n4, BitVec.shiftLeft_or_distrib, ← BitVec.shiftLeft_add, Nat.reduceAdd, Nat.reduceSub, BitVec.zero_shiftLeft, BitVec.zero_or, Nat.add_zero]
  exact or_comm4 _ _ _ _
theorem or_add (x y : BitVec 32) (hy : y.toNat < 256) : x <<< 8 ||| y = x <<< 8 + y := by
  apply BitVec.eq_of_toNat_eq
  rw [BitVec.toNat_or, BitVec.toNat_add, BitVec.toNat_shiftLeft, Nat.shiftLeft_eq]
  have hx := x.isLt
  obtain ⟨q, hq⟩ : ∃ q, x.toNat * 2 ^ 8 % 2 ^ 32 = q * 2 ^ 8 := ⟨x.toNat % 2 ^ 24, by omega⟩
  have hq2 : q < 2 ^ 24 := by have := Nat.mod_lt (x.toNat * 2 ^ 8) (show 0 < 2 ^ 32 by omega); omega
  have t := Nat.shiftLeft_add_eq_or_of_lt (show y.toNat < 2 ^ 8 by omega) q
  rw [Nat.shiftLeft_eq] at t
  rw [hq, ← t]
  omega
theorem b8_lt (s : ByteArray) (j : Nat) : (b8 s j).toNat < 256 := by
  have := bt_lt s j; unfold b8; rw [BitVec.toNat_ofNat]; omega
theorem up1 (s : ByteArray) (p : Nat) : up s p 1 1 = b8 s p := by simp [up]
theorem up2 (s : ByteArray) (p : Nat) : up s p 2 2 = b8 s (p + 1) <<< 8 + b8 s p := by
  show (up s p 2 1) <<< 8 ||| b8 s (p + (2 - 1 - 1)) = _
  rw [or_add _ _ (b8_lt _ _)]
  simp [up]
theorem shl_add (x y : BitVec 32) : (x + y) <<< 8 = x <<< 8 + y <<< 8 := by
  apply BitVec.eq_of_toNat_eq
  simp only [BitVec.toNat_add, BitVec.toNat_shiftLeft, Nat.shiftLeft_eq]
  omega
theorem up3 (s : ByteArray) (p : Nat) : up s p 3 3 = b8 s (p + 2) <<< 16 + b8 s (p + 1) <<< 8 + b8 s p := by
  show (up s p 3 2) <<< 8 ||| b8 s (p + (3 - 1 - 2)) = _
  rw [or_add _ _ (b8_lt _ _)]
  show (((up s p 3 1) <<< 8 ||| b8 s (p + (3 - 1 - 1))) <<< 8) + b8 s (p + (3 - 1 - 2)) = _
  rw [or_add _ _ (b8_lt _ _), shl_add, ← BitVec.shiftLeft_add]
  simp [up]
theorem rest_up (s : ByteArray) (p m : Nat) (h : BitVec 32) (hm : 1 ≤ m) (hm3 : m ≤ 3) : rest s p m h = mix 24 h (up s p m m) := by
  rcases (by omega : m = 1 ∨ m = 2 ∨ m = 3) with rfl | rfl | rfl
  · rw [up1]; rfl
  · rw [up2]
    show mix 24 (h + b8 s (p + 1) <<< 8) (b8 s p) = _
    unfold mix; rw [BitVec.add_assoc]
  · rw [up3]
    show mix 24 (h + b8 s (p + 2) <<< 16 + b8 s (p + 1) <<< 8) (b8 s p) = _
    unfold mix; rw [BitVec.add_assoc, BitVec.add_assoc, ← BitVec.add_assoc (b8 s (p + 2) <<< 16)]
theorem mix_i (r : Nat) (h x : BitVec 32) : toI (((h + x) * fac) ^^^ (((h + x) * fac) >>> r)) = toI (mix r h x) := rfl
set_option maxRecDepth 100000 in
set_option maxHeartbeats 400000 in
theorem rhash_any (s : ByteArray) (seed : BitVec 32) (hs0 : s.size ≤ 9223372036854775807) (w : World) : Calls Try.prog 11 #[.string s, .int .u32 (toI seed)] w fun e w' => e = .returned (.int .u32 (toI (hsh s seed))) ∧ w' = w := by
  go_enter Try.func11, Try.ntmps11
  go_wp2
  rw [start_i]
  go_loop [6, 7] (fun hv av => ∃ k : Nat, 4 * k ≤ s.size ∧ hv = .int .u32 (toI (hs s (st0 s seed) k)) ∧ av = .int .i64 ((4 * k : Nat) : Int)) (fun _ av => s.size - (intOf av).toNat)
  case atStart => exact ⟨0, by omega, rfl, rfl⟩
  case round =>
    obtain ⟨k, hk, rfl, rfl⟩ := hrel
    by_cases hlt : 4 * k + 4 ≤ s.size
    · have hH : Hid (hs s (st0 s seed) (k + 1) = mix 16 (hs s (st0 s seed) k) (up s (4 * k) 4 4)) := by show _ = _; rw [up4]; rfl
      generalize hs s (st0 s seed) k = h at hH
      have hN := number_any s (4 * k) 4 hlt (by omega) hs0 w
      replace hN := hid hN
      have hk4 : Hid (4 * (k + 1) = 4 * k + 4) := by show _ = _; omega
      obtain ⟨q, hq⟩ : ∃ q, Hid (q = 4 * k) := ⟨_, rfl⟩
      rw [← hq.out] at hlt hN hk4 hk hH ⊢
      have g5 : (4 : Int) ≤ (s.size : Int) - (q : Int) := by omega
      go_wp2_with fail
      refine hN.out.mono ?_
      rintro e w' ⟨rfl, rfl⟩
      generalize up s q 4 4 = x at hH
      go_wp2_with fail
      go_round
      case rel => exact ⟨k + 1, by rw [hk4.out]; exact hlt, by rw [add_m, mul_m, shr16, xor_i, mix_i, ← hH.out], by rw [hk4.out]; go_num⟩
      case measure => simp [intOf]; try omega
    · have hD : s.size / 4 = k := by omega
      have hR : s.size % 4 = s.size - 4 * k := by omega
      have hV : Hid (hsh s seed = rest s (4 * k) (s.size - 4 * k) (hs s (st0 s seed) k)) := by show _ = _; unfold hsh; rw [hD, hR]
      clear hD hR
      generalize hs s (st0 s seed) k = h at hV
      obtain ⟨q, hq⟩ : ∃ q, Hid (q = 4 * k) := ⟨_, rfl⟩
      have hq2 : s.size < q + 4 := by have := hq.out; omega
      rw [← hq.out] at hk hV ⊢
      clear hlt
      by_cases h0 : q < s.size
      · have e1 : (s.size : Int) - (q : Int) = ((s.size - q : Nat) : Int) := by omega
        have hN := hid (number_any s q (s.size - q) (by omega) (by omega) hs0 w)
        rw [rest_up s q _ h (by omega) (by omega)] at hV
        obtain ⟨m, hm⟩ : ∃ m, m = s.size - q := ⟨_, rfl⟩
        rw [← hm] at e1 hN hV
        have hm4 : (m : Int) < 4 := by omega
        have g6 : ¬ (4 : Int) ≤ (s.size : Int) - (q : Int) := by omega
        have g7 : (q : Int) < (s.size : Int) := by omega
        replace hm := hid hm
        replace e1 := hid e1
        go_wp2_with fail
        rw [e1.out]
        refine hN.out.mono ?_
        rintro e w' ⟨rfl, rfl⟩
        generalize up s q m m = x at hV
        go_wp2_with fail
        go_ret
        refine ⟨ret_int ?_, rfl⟩
        rw [add_m, mul_m, shr24, xor_i, mix_i, hV.out]
      · have : q = s.size := by omega
        have hV' : Hid (hsh s seed = h) := by show _ = _; rw [hV.out, this, Nat.sub_self]; rfl
        have g6 : ¬ (4 : Int) ≤ (s.size : Int) - (q : Int) := by omega
        have g7 : ¬ (q : Int) < (s.size : Int) := by omega
        clear hV this
        go_wp2_with fail
        go_ret
        exact ⟨by rw [hV'.out]; rfl, rfl⟩
end Go.Proofs.Ytempagacpfejdaa.Rh

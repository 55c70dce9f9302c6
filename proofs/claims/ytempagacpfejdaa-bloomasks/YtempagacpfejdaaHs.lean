/- The program's Hash by its contract: it answers the number of the key. -/
import Derived.Test.YtempagacpfejdaaRows
import Derived.WalkKit
import Derived.ProofKit
import Derived.OpenShut
import Derived.WalkSpells
import Derived.WalkLawsBesides
import Derived.BigQuiet
import Derived.WalkSmall
import Derived.Lib.Walk
import Derived.Lib.Strings
import Derived.Test.YtempagacpfejdaaWd
namespace Go.Proofs.Ytempagacpfejdaa.Hs
open Go.ChangeShapes Go.WideShapes Go.ChangeAt Go.RowKit
open Go.Proofs.Ytempagacpfejdaa.Wd
set_option linter.unusedVariables false
set_option linter.unusedSimpArgs false

theorem ret_int {k : IntKind} {a b : Int} (h : a = b) : Ending.returned (.int k a) = .returned (.int k b) := by rw [h]
theorem ext_all (s : ByteArray) : s.extract 0 s.size = s := by simp
theorem ext_ext (s : ByteArray) (p : Nat) (h : p + 4 ≤ s.size) : (s.extract p s.size).extract 4 (s.size - p) = s.extract (p + 4) s.size := by
  rw [ByteArray.extract_extract]
  congr 1
  omega
theorem bt_ext (s : ByteArray) (p j : Nat) (h : p + j < s.size) : bt (s.extract p s.size) j = bt s (p + j) := by
  unfold bt
  have h1 : j < (s.extract p s.size).size := by rw [ByteArray.size_extract]; omega
  congr 1
  show (s.extract p s.size).data[j]! = s.data[p + j]!
  rw [getElem!_pos _ _ (by exact h1), getElem!_pos _ _ (by exact h)]
  simp
theorem bt_eq (s : ByteArray) (j : Nat) (h : j < s.size) : (s[j]'h).toNat = bt s j := by
  unfold bt
  show _ = (s.data[j]!).toNat
  rw [getElem!_pos _ _ (by exact h)]
  rfl
theorem ix (s : ByteArray) (j : Nat) (h : j < s.size) (W : World) : Sem.run Try.prog (Instr.index 9 (.string s) (.int .i64 (j : Int))) W = .ok (.int .u8 (bt s j : Int)) W := by
  have := run_index_string (P := Try.prog) W 9 s .i64 (j : Int) Try.underlying9
  rw [dif_pos ⟨by omega, by omega⟩] at this
  rw [← bt_eq s j h]
  exact this
theorem b8_m (s : ByteArray) (j : Nat) : (bt s j : Int) % 4294967296 = toI (b8 s j) := by
  rw [← b8_i]; have := bt_lt s j; omega
theorem b8_ext (s : ByteArray) (p j : Nat) (h : p + j < s.size) : b8 (s.extract p s.size) j = b8 s (p + j) := by
  unfold b8; rw [bt_ext s p j h]
theorem size_m (n : Nat) : (n : Int) % 4294967296 = toI (BitVec.ofNat 32 n) := by
  unfold toI; rw [BitVec.toNat_ofNat]; omega
theorem start_i (s : ByteArray) (seed : BitVec 32) : bits .xor .u32 (toI seed) ((s.size : Int) % 4294967296 * 3332679571 % 4294967296) = toI (st0 s seed) := by
  rw [size_m, mul_m, xor_i]; rfl
theorem round_i (t : ByteArray) (h : BitVec 32) : bits BinOp.xor IntKind.u32 ((toI h + bits BinOp.or IntKind.u32 (bits BinOp.or IntKind.u32 (bits BinOp.or IntKind.u32 ((bt t 0 : Int) % 4294967296) ((bt t 1 : Int) % 4294967296 * 256 % 4294967296)) ((bt t 2 : Int) % 4294967296 * 65536 % 4294967296)) ((bt t 3 : Int) % 4294967296 * 16777216 % 4294967296)) % 4294967296 * 3332679571 % 4294967296)
    ((toI h + bits BinOp.or IntKind.u32 (bits BinOp.or IntKind.u32 (bits BinOp.or IntKind.u32 ((bt t 0 : Int) % 4294967296) ((bt t 1 : Int) % 4294967296 * 256 % 4294967296)) ((bt t 2 : Int) % 4294967296 * 65536 % 4294967296)) ((bt t 3 : Int) % 4294967296 * 16777216 % 4294967296)) % 4294967296 * 3332679571 % 4294967296 / 65536) = toI (mix 16 h (n4 t 0)) := by
  simp only [b8_m, shl8, shl16, shl24, or_i, add_m, mul_m, shr16, xor_i]
  rfl
theorem n4_ext (s : ByteArray) (p : Nat) (h : p + 4 ≤ s.size) : n4 (s.extract p s.size) 0 = n4 s p := by
  unfold n4
  rw [b8_ext s p 0 (by omega), b8_ext s p (0 + 1) (by omega), b8_ext s p (0 + 2) (by omega), b8_ext s p (0 + 3) (by omega)]
  simp only [Nat.add_zero, Nat.zero_add]
theorem tail1 (t : ByteArray) (h : BitVec 32) : (toI h + (bt t 0 : Int)) % (4294967296 : Int) = toI (h + b8 t 0) := by
  rw [b8_i, add_m]
theorem tail2 (t : ByteArray) (h : BitVec 32) : (toI h + toI (b8 t 1) * (256 : Int) + (bt t 0 : Int)) % (4294967296 : Int) = toI (h + b8 t 1 <<< 8 + b8 t 0) := by
  rw [b8_i, ← add_m, ← add_m, ← shl8]; omega
theorem tail3 (t : ByteArray) (h : BitVec 32) : (toI h + toI (b8 t 2) * (65536 : Int) + toI (b8 t 1) * (256 : Int) + (bt t 0 : Int)) % (4294967296 : Int) = toI (h + b8 t 2 <<< 16 + b8 t 1 <<< 8 + b8 t 0) := by
  rw [b8_i, ← add_m, ← add_m, ← add_m, ← shl8, ← shl16]; omega
set_option maxRecDepth 100000 in
set_option maxHeartbeats 400000 in
theorem hash_any (s : ByteArray) (seed : BitVec 32) (hs0 : s.size ≤ 9223372036854775807) (w : World) : Calls Try.prog 10 #[.string s, .int .u32 (toI seed)] w fun e w' => e = .returned (.int .u32 (toI (hsh s seed))) ∧ ∃ n, w' = w.drewN n := by
  go_enter Try.func10, Try.ntmps10
  go_wp2
  go_loopw [0, 5] (fun sv hv wr => ∃ k n : Nat, 4 * k ≤ s.size ∧ sv = .string (s.extract (4 * k) s.size) ∧ hv = .int .u32 (toI (hs s (st0 s seed) k)) ∧ wr = w.drewN n)
    (fun sv _ _ => match sv with | .string t => t.size | _ => 0)
  case atStart => exact ⟨0, 0, by omega, by rw [Nat.mul_zero, ext_all], by rw [start_i]; rfl, rfl⟩
  case round =>
    obtain ⟨k, n, hk, rfl, rfl, rfl⟩ := hrel
    have hz : (s.extract (4 * k) s.size).size = s.size - 4 * k := by rw [ByteArray.size_extract]; omega
    by_cases hlt : 4 * k + 4 ≤ s.size
    · have hN := hid (n4_ext s (4 * k) hlt)
      have hE := hid (ext_ext s (4 * k) hlt)
      have hH : Hid (hs s (st0 s seed) (k + 1) = mix 16 (hs s (st0 s seed) k) (n4 s (4 * k))) := rfl
      generalize s.extract (4 * k) s.size = t at hz hN hE
      generalize hs s (st0 s seed) k = h at hH
      have i0 : ∀ W, Sem.run Try.prog (Instr.index 9 (.string t) (.int .i64 0)) W = .ok (.int .u8 (bt t 0 : Int)) W := ix t 0 (by omega)
      have i1 : ∀ W, Sem.run Try.prog (Instr.index 9 (.string t) (.int .i64 1)) W = .ok (.int .u8 (bt t 1 : Int)) W := ix t 1 (by omega)
      have i2 : ∀ W, Sem.run Try.prog (Instr.index 9 (.string t) (.int .i64 2)) W = .ok (.int .u8 (bt t 2 : Int)) W := ix t 2 (by omega)
      have i3 : ∀ W, Sem.run Try.prog (Instr.index 9 (.string t) (.int .i64 3)) W = .ok (.int .u8 (bt t 3 : Int)) W := ix t 3 (by omega)
      have g4 : 4 ≤ t.size := by omega
      have g5 : (4 : Int) ≤ (t.size : Int) := by omega
      have g6 : t.size ≤ 9223372036854775807 := by omega
      have hz' := hid hz
      have hlt' := hid hlt
      clear hlt hz
      go_wp2_with fail
      go_quiet (fail)
      go_wp2_with fail
      refine ⟨⟨k + 1, n + nq, hlt'.out, ?_, ?_, rfl⟩, ?_⟩
      · rw [hz'.out, hE.out]; rfl
      · rw [round_i, hN.out, ← hH.out]
      · show (t.extract 4 t.size).size < t.size
        rw [ByteArray.size_extract]; omega
    · have hD : s.size / 4 = k := by omega
      have hR : s.size % 4 = s.size - 4 * k := by omega
      have hV : Hid (hsh s seed = rest s (4 * k) (s.size - 4 * k) (hs s (st0 s seed) k)) := by show _ = _; unfold hsh; rw [hD, hR]
      have hB : ∀ j, 4 * k + j < s.size → b8 (s.extract (4 * k) s.size) j = b8 s (4 * k + j) := fun j hj => b8_ext s (4 * k) j hj
      clear hD hR
      replace hB := hid hB
      generalize s.extract (4 * k) s.size = t at hz hB
      generalize hs s (st0 s seed) k = h at hV
      obtain ⟨m, hm⟩ : ∃ m, m = s.size - 4 * k := ⟨_, rfl⟩
      rw [← hm] at hz hV
      have hm4 : m ≤ 3 := by omega
      have hkm : Hid (4 * k + m = s.size) := by show _ = _; omega
      clear hlt hm hk
      rcases (by omega : m = 0 ∨ m = 1 ∨ m = 2 ∨ m = 3) with rfl | rfl | rfl | rfl
      · go_wp2_with fail
        go_ret
        exact ⟨by rw [hV.out]; rfl, _, rfl⟩
      · have i0 : ∀ W, Sem.run Try.prog (Instr.index 9 (.string t) (.int .i64 0)) W = .ok (.int .u8 (bt t 0 : Int)) W := ix t 0 (by omega)
        go_wp2_with fail
        go_ret
        refine ⟨ret_int ?_, _, rfl⟩
        rw [hV.out]
        rw [tail1, mul_m, shr24, xor_i, hB.out 0 (by have := hkm.out; omega)]
        rfl
      · have i0 : ∀ W, Sem.run Try.prog (Instr.index 9 (.string t) (.int .i64 0)) W = .ok (.int .u8 (bt t 0 : Int)) W := ix t 0 (by omega)
        have i1 : ∀ W, Sem.run Try.prog (Instr.index 9 (.string t) (.int .i64 1)) W = .ok (.int .u8 (bt t 1 : Int)) W := ix t 1 (by omega)
        go_wp2_with fail
        go_ret
        refine ⟨ret_int ?_, _, rfl⟩
        rw [hV.out]
        simp only [b8_m]
        rw [tail2, mul_m, shr24, xor_i, hB.out 0 (by have := hkm.out; omega), hB.out 1 (by have := hkm.out; omega)]
        rfl
      · have i0 : ∀ W, Sem.run Try.prog (Instr.index 9 (.string t) (.int .i64 0)) W = .ok (.int .u8 (bt t 0 : Int)) W := ix t 0 (by omega)
        have i1 : ∀ W, Sem.run Try.prog (Instr.index 9 (.string t) (.int .i64 1)) W = .ok (.int .u8 (bt t 1 : Int)) W := ix t 1 (by omega)
        have i2 : ∀ W, Sem.run Try.prog (Instr.index 9 (.string t) (.int .i64 2)) W = .ok (.int .u8 (bt t 2 : Int)) W := ix t 2 (by omega)
        go_wp2_with fail
        go_ret
        refine ⟨ret_int ?_, _, rfl⟩
        rw [hV.out]
        simp only [b8_m]
        rw [tail3, mul_m, shr24, xor_i, hB.out 0 (by have := hkm.out; omega), hB.out 1 (by have := hkm.out; omega), hB.out 2 (by have := hkm.out; omega)]
        rfl
end Go.Proofs.Ytempagacpfejdaa.Hs

/- Contract of the document's own answer for the four bytes that bring a sum to another one. -/
import Derived.Test.YtkgmdhldongloaaDoorPt
namespace Go.Proofs.YtkgmdhldongloaaDoor.Rp
open Go.ChangeShapes Go.WideShapes Go.ChangeAt Go.RowKit
open Go.Proofs.YtkgmdhldongloaaDoor.Crc
open Go.Proofs.YtkgmdhldongloaaDoor.Ck
open Go.Proofs.YtkgmdhldongloaaDoor.Pt
set_option linter.unusedVariables false

theorem four_row (w : World) (x : BitVec 32) : Bytes (w.alloc (.cells #[.int .u8 (toI x % 256), .int .u8 (toI x / 256 % 256), .int .u8 (toI x / 65536 % 256), .int .u8 (toI x / 16777216 % 256)] 5)) (some ⟨w.heap.size, 0, none⟩) 4 4 (pb x) := by
  refine ⟨rfl, by omega, fun e => by simp at e, pb_bytes x, ?_⟩
  intro y hy i hi
  simp at hy
  subst hy
  rw [addr_add]
  have e : pb x = [toI x % 256, toI x / 256 % 256, toI x / 65536 % 256, toI x / 16777216 % 256] := by simp [pb, toI]
  rw [e]
  match i, hi with
  | 0, _ | 1, _ | 2, _ | 3, _ => simp [go_sem]

set_option maxHeartbeats 2000000 in
theorem rPatch_any (s want : BitVec 32) (w : World) : Calls Tryd.prog 20 #[.int .u32 (toI s), .int .u32 (toI want)] w fun e w' => e = .returned (.slice (some ⟨w.heap.size, 0, none⟩) 4 4) ∧ Bytes w' (some ⟨w.heap.size, 0, none⟩) 4 4 (pb (word s want)) ∧ Below w.heap.size w w' := by
  have N1 := not_w s
  have N2 := not_w want
  have S := sgn
  have E : bits .xor .u32 (toI (back 32 (~~~want))) (toI (~~~s)) = toI (word s want) := by rw [xor_i]; rfl
  obtain ⟨X, HX⟩ : ∃ X, Hid (X = word s want) := ⟨_, rfl⟩
  rw [← HX.out] at E ⊢
  have FR := hid (four_row w X)
  have FB : Hid (Below w.heap.size w (w.alloc (.cells #[.int .u8 (toI X % 256), .int .u8 (toI X / 256 % 256), .int .u8 (toI X / 65536 % 256), .int .u8 (toI X / 16777216 % 256)] 5))) := (Below.refl _ _).alloc (Nat.le_refl _) _
  go_enter Tryd.func20, Tryd.ntmps20
  go_wp2
  clear N2
  go_loop [5, 6] (fun r i => ∃ k : Nat, k ≤ 32 ∧ i = .int .i64 k ∧ r = .int .u32 (toI (back k (~~~want)))) (fun _ i => 32 - (intOf i).toNat)
  case atStart => exact ⟨0, Nat.zero_le _, rfl, rfl⟩
  case round =>
    obtain ⟨k, hk, rfl, rfl⟩ := hrel
    by_cases h : k < 32
    · obtain ⟨y, hy⟩ : ∃ y, Hid (y = back (k + 1) (~~~want)) := ⟨_, rfl⟩
      have U : Hid (y = un (back k (~~~want))) := by show _ = _; rw [hy.out, back_succ]
      clear E
      generalize back k (~~~want) = b at U ⊢
      have TB := top b
      cases hm : b.msb
      · rw [hm] at TB
        simp only [Bool.false_eq_true, if_false] at TB
        have V : Hid (toI b * 2 = toI y) := by
          show _ = _
          have e : toI b * 2 % 4294967296 = toI y := by rw [U.out, shl1]; unfold un; rw [hm]; rfl
          have := toI_bd b
          omega
        clear hm
        go_wp2_with fail
        go_round
        case rel => exact ⟨k + 1, by omega, by go_num, by rw [V.out, hy.out]⟩
        case measure => simp [intOf]; omega
      · rw [hm] at TB
        simp only [if_true] at TB
        have V : Hid (bits .or .u32 (bits .xor .u32 (toI b) 2197175160 * 2 % 4294967296) 1 = toI y) := by
          show _ = _
          rw [U.out, poly_i, xor_i, shl1, show (1 : Int) = toI 1#32 from by decide, or_i]
          unfold un
          rw [hm]
          rfl
        clear hm
        go_wp2_with fail
        go_round
        case rel => exact ⟨k + 1, by omega, by go_num, by rw [V.out, hy.out]⟩
        case measure => simp [intOf]; omega
    · have : k = 32 := by omega
      subst this
      go_wp2
      go_ret
      exact ⟨rfl, FR.out, FB.out⟩
end Go.Proofs.YtkgmdhldongloaaDoor.Rp

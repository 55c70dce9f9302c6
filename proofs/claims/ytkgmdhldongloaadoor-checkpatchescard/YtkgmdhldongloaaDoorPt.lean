/- Contracts of the call that tells the four bytes that bring a sum to another one, and of the register led back over bits 0. -/
import Derived.Test.YtkgmdhldongloaaDoorCk
namespace Go.Proofs.YtkgmdhldongloaaDoor.Pt
open Go.ChangeShapes Go.WideShapes Go.ChangeAt Go.RowKit
open Go.Proofs.YtkgmdhldongloaaDoor.Crc
open Go.Proofs.YtkgmdhldongloaaDoor.Ck
set_option linter.unusedVariables false

theorem poly_i : (2197175160 : Int) = toI poly := by decide
theorem top (x : BitVec 32) : toI x / (2147483648 : Int) = if x.msb = true then 1 else 0 := by
  have hx := x.isLt
  rw [BitVec.msb_eq_decide]
  unfold toI
  by_cases h : 2 ^ (32 - 1) ≤ x.toNat
  · simp only [h, decide_true, if_true]; omega
  · simp only [h, decide_false, Bool.false_eq_true, if_false]; omega
theorem shl1 (x : BitVec 32) : toI x * (2 : Int) % (4294967296 : Int) = toI (x <<< 1) := by
  have := shl_i x 1; rw [wrap_u32] at this; exact this
theorem un_w (x : BitVec 32) : bits .or .u32 (bits .xor .u32 (toI x) (toI x / 2147483648 * 2197175160 % 4294967296) * 2 % 4294967296) (toI x / 2147483648) = toI (un x) := by
  rw [top]
  unfold un
  cases h : x.msb
  · simp only [Bool.false_eq_true, if_false]
    have e : (0 * 2197175160 % 4294967296 : Int) = toI 0#32 := by decide
    rw [e, xor_i, shl1, show (0 : Int) = toI 0#32 from by decide, or_i]
    congr 1
    simp
  · simp only [if_true]
    have e : (1 * 2197175160 % 4294967296 : Int) = toI poly := by decide
    rw [e, xor_i, shl1, show (1 : Int) = toI 1#32 from by decide, or_i]
theorem back_succ (k : Nat) (x : BitVec 32) : back (k + 1) x = un (back k x) := by
  show back k (un x) = _
  rw [un_out]

set_option maxHeartbeats 1000000 in
theorem before_any (x : BitVec 32) (w : World) : Calls Tryd.prog 35 #[.int .u32 (toI x), .int .i64 32] w fun e w' => e = .returned (.int .u32 (toI (back 32 x))) ∧ w' = w := by
  go_enter Tryd.func35, Tryd.ntmps35
  go_wp2
  go_loop [0, 7] (fun r i => ∃ k : Nat, k ≤ 32 ∧ i = .int .i64 k ∧ r = .int .u32 (toI (back k x))) (fun _ i => 32 - (intOf i).toNat)
  case atStart => exact ⟨0, Nat.zero_le _, rfl, rfl⟩
  case round =>
    obtain ⟨k, hk, rfl, rfl⟩ := hrel
    by_cases h : k < 32
    · obtain ⟨y, hy⟩ : ∃ y, Hid (y = back (k + 1) x) := ⟨_, rfl⟩
      have U : Hid (bits .or .u32 (bits .xor .u32 (toI (back k x)) (toI (back k x) / 2147483648 * 2197175160 % 4294967296) * 2 % 4294967296) (toI (back k x) / 2147483648) = toI y) := by
        show _ = _
        rw [un_w, hy.out, back_succ]
      generalize back k x = b at U ⊢
      go_wp2_with fail
      go_round
      case rel => exact ⟨k + 1, by omega, by go_num, by rw [U.out, hy.out]⟩
      case measure => simp [intOf]; omega
    · have : k = 32 := by omega
      subst this
      go_wp2
      go_ret
      exact ⟨rfl, rfl⟩

/-- A word's four bytes, the lowest first. -/
def pb (x : BitVec 32) : List Int := [((x.toNat % 256 : Nat) : Int), ((x.toNat / 256 % 256 : Nat) : Int), ((x.toNat / 65536 % 256 : Nat) : Int), ((x.toNat / 16777216 % 256 : Nat) : Int)]
theorem pb_bytes (x : BitVec 32) : ∀ y ∈ pb x, 0 ≤ y ∧ y ≤ 255 := by
  intro y hy
  simp [pb] at hy
  omega
def word (s want : BitVec 32) : BitVec 32 := back 32 (~~~want) ^^^ ~~~s
theorem made4 : (madeCells #[Value.int .u8 0] 4).toList = ([0, 0, 0, 0] : List Int).map (Value.int .u8) := by
  apply List.ext_getElem?
  intro i
  match i with
  | 0 | 1 | 2 | 3 => simp [madeCells, Nat.mod_one]
  | n + 4 => simp [madeCells]
theorem pb_get (x : BitVec 32) (k : Nat) (h : k < 4) : (pb x)[k]? = some (toI x / 2 ^ (8 * k) % 256) := by
  unfold toI
  match k, h with
  | 0, _ => simp [pb]
  | 1, _ => simp [pb]
  | 2, _ => simp [pb]
  | 3, _ => simp [pb]
theorem row_set {w : World} {base g n c : Nat} {xs : List Int} (h : Row w base g n c xs) (k : Nat) (v : Int) : Row (w.setCell ⟨g, k, none⟩ (.int .u8 v)) base g n c (xs.set k v) ∧ w.grownBy (w.setCell ⟨g, k, none⟩ (.int .u8 v)) (some g) := by
  have := World.ownsRow.stored h k (.int .u8 v)
  refine ⟨?_, this.2⟩
  unfold Row
  rw [List.map_set]
  exact this.1

/-- The first k of them, noughts behind. -/
def part (L : List Int) (k : Nat) : List Int := L.take k ++ List.replicate (L.length - k) 0
theorem part_set (L : List Int) (k : Nat) (v : Int) (hk : k < L.length) (hv : L[k]? = some v) : (part L k).set k v = part L (k + 1) := by
  have hl : (L.take k).length = k := by rw [List.length_take]; omega
  obtain ⟨m, hm⟩ : ∃ m, L.length - k = m + 1 := ⟨L.length - k - 1, by omega⟩
  have hm2 : L.length - (k + 1) = m := by omega
  unfold part
  rw [hm, hm2, List.set_append_right _ _ (by omega), hl, Nat.sub_self, List.replicate_succ, List.set_cons_zero, List.take_add_one, hv]
  simp
theorem part_all (L : List Int) (k : Nat) (h : L.length ≤ k) : part L k = L := by
  unfold part
  rw [List.take_of_length_le h, show L.length - k = 0 by omega]
  simp

set_option maxHeartbeats 2000000 in
theorem Patch_any (s want : BitVec 32) (w : World) : Calls Tryd.prog 19 #[.int .u32 (toI s), .int .u32 (toI want)] w fun e w' => e = .returned (.slice (some ⟨w.heap.size, 0, none⟩) 4 4) ∧ Row w' w.heap.size w.heap.size 4 4 (pb (word s want)) ∧ Below w.heap.size w w' := by
  obtain ⟨i0, hi, hz0, hz1, hz2⟩ := info_parts info5
  have N1 := not_w s
  have N2 := not_w want
  have S := sgn
  have E : bits .xor .u32 (toI (~~~s)) (toI (back 32 (~~~want))) = toI (word s want) := by
    rw [xor_i]; unfold word; rw [BitVec.xor_comm]
  obtain ⟨X, HX⟩ : ∃ X, Hid (X = word s want) := ⟨_, rfl⟩
  rw [← HX.out] at E ⊢
  go_enter Tryd.func19, Tryd.ntmps19
  go_wp2_with fail
  refine (before_any (~~~want) _).mono ?_
  rintro e w ⟨rfl, rfl⟩
  clear N1 N2
  go_wp2_with (at_make; refine wpList_make_full _ rfl _ _ 22 rfl w.heap.size 5 i0 (.int .u8 0) 1 Tryd.underlying22 hi hz0 hz1 .i64 .i64 _ _ 4 rfl rfl rfl rfl (by rw [hz2]; omega) (by unfold maxLen; omega) (Nat.le_refl _) ?_)
  intro w4 own1 g1
  clear E
  have R1 : Hid (Row w4 w.heap.size w.heap.size 4 4 (part (pb X) 0)) := by
    show Row _ _ _ _ _ _
    rw [made4] at own1
    exact own1
  have B2 : Hid (Below w.heap.size w w4) := grown_below g1 (by simp)
  obtain ⟨g, HG⟩ : ∃ g, Hid (g = w.heap.size) := ⟨_, rfl⟩
  rw [← HG.out] at R1
  rw [← HG.out]
  clear own1 g1
  go_wp2_with fail
  go_loopw [15] (fun i wr => ∃ k : Nat, k ≤ 4 ∧ i = .int .i64 k ∧ Hid (Row wr g g 4 4 (part (pb X) k)) ∧ Hid (Below w.heap.size w wr)) (fun i _ => 4 - (intOf i).toNat)
  case atStart => exact ⟨0, by omega, rfl, R1, B2⟩
  case round =>
    obtain ⟨k, hk, rfl, hrow, hbel⟩ := hrel
    by_cases h : k < 4
    · have kr := hrow.out.cell k h
      have hfz : wr.frozen? ⟨g, k, none⟩ = false := World.ownsRow.frozenAt hrow.out k
      generalize (part (pb X) k).getD k 0 = pr at kr
      have HV := hid (pb_get X k h)
      have RS := row_set hrow.out k (toI X / 2 ^ (8 * k) % 256)
      rw [part_set (pb X) k _ h HV.out] at RS
      have R3 : Hid (Row (wr.setCell ⟨g, k, none⟩ (.int .u8 (toI X / 2 ^ (8 * k) % 256))) g g 4 4 (part (pb X) (k + 1))) := RS.1
      have B3 : Hid (Below w.heap.size w (wr.setCell ⟨g, k, none⟩ (.int .u8 (toI X / 2 ^ (8 * k) % 256)))) := hbel.out.grown RS.2 hbel.out.size (by intro j hj; simp at hj; have := HG.out; omega)
      clear RS hrow hbel
      go_wp2_with fail
      go_roundw
      case rel => exact ⟨k + 1, by omega, by go_num, R3, B3⟩
      case measure => simp [intOf]; omega
    · have : k = 4 := by omega
      subst this
      have hp : part (pb X) 4 = pb X := rfl
      rw [hp] at hrow
      go_wp2_with fail
      go_ret
      obtain rfl := HG.out
      exact ⟨rfl, hrow.out, hbel.out⟩
theorem pb_iff (s want x : BitVec 32) : extend s (pb x) = want ↔ x = word s want := patch_iff s want x
theorem pb_inj (x y : BitVec 32) (h : pb x = pb y) : x = y := by
  have hx := x.isLt
  have hy := y.isLt
  apply BitVec.eq_of_toNat_eq
  simp [pb] at h
  omega
end Go.Proofs.YtkgmdhldongloaaDoor.Pt

/- pieceAt: the piece that stands ahead. -/
import Derived.Test.YtgkoopciajjonabDoorWp
namespace Go.Proofs.YtgkoopciajjonabDoor.Pt
open Go.ChangeShapes Go.WideShapes Go.ChangeAt Go.RowKit Go.Sort
open Go.Proofs.YtgkoopciajjonabDoor.Crc
open Go.Proofs.YtgkoopciajjonabDoor.Jm
open Go.Proofs.YtgkoopciajjonabDoor.Ck
open Go.Proofs.YtgkoopciajjonabDoor.Wt
open Go.Proofs.YtgkoopciajjonabDoor.Wp
set_option linter.unusedVariables false
set_option linter.unusedSimpArgs false

theorem getD_bd {zs : List Int} (h : ∀ y ∈ zs, 0 ≤ y ∧ y ≤ 255) (i : Nat) : 0 ≤ zs.getD i 0 ∧ zs.getD i 0 ≤ 255 := by
  rw [List.getD_eq_getElem?_getD]
  cases hi : zs[i]? with
  | none => simp
  | some y => exact h y (List.mem_of_getElem? hi)
theorem or_shift (x y k : Nat) (hx : x < 2 ^ k) : x ||| y * 2 ^ k = x + y * 2 ^ k := by
  rw [← Nat.shiftLeft_eq, Nat.or_comm, ← Nat.shiftLeft_add_eq_or_of_lt hx, Nat.add_comm]
theorem or_u32 (x y : Nat) (h1 : x < 4294967296) (h2 : y < 4294967296) : bits .or .u32 (x : Int) (y : Int) = ((x ||| y : Nat) : Int) := by
  have e1 : (x : Int) = toI (BitVec.ofNat 32 x) := by unfold toI; rw [BitVec.toNat_ofNat]; omega
  have e2 : (y : Int) = toI (BitVec.ofNat 32 y) := by unfold toI; rw [BitVec.toNat_ofNat]; omega
  rw [e1, e2, or_i]
  unfold toI
  rw [BitVec.toNat_or, BitVec.toNat_ofNat, BitVec.toNat_ofNat, Nat.mod_eq_of_lt h1, Nat.mod_eq_of_lt h2]
theorem or_i64 (x y : Nat) (h1 : x < 9223372036854775808) (h2 : y < 9223372036854775808) : bits .or .i64 (x : Int) (y : Int) = ((x ||| y : Nat) : Int) := by
  show IntKind.i64.wrap ((BitVec.ofInt 64 (x : Int) ||| BitVec.ofInt 64 (y : Int)).toNat : Int) = _
  have hlt : x ||| y < 2 ^ 63 := Nat.or_lt_two_pow (by omega) (by omega)
  rw [BitVec.ofInt_natCast, BitVec.ofInt_natCast, BitVec.toNat_or, BitVec.toNat_ofNat, BitVec.toNat_ofNat, Nat.mod_eq_of_lt (by omega), Nat.mod_eq_of_lt (by omega)]
  generalize x ||| y = z at hlt
  simp [IntKind.wrap, IntKind.bits, IntKind.signed]
  omega
theorem two (a b : Int) (ha : 0 ≤ a ∧ a ≤ 255) (hb : 0 ≤ b ∧ b ≤ 255) : bits .or .i64 a (b * 256) = ((a.toNat + 256 * b.toNat : Nat) : Int) := by
  obtain ⟨a, rfl⟩ := Int.eq_ofNat_of_zero_le ha.1
  obtain ⟨b, rfl⟩ := Int.eq_ofNat_of_zero_le hb.1
  have h1 := or_shift a b 8 (by omega)
  rw [show ((b : Nat) : Int) * 256 = ((b * 2 ^ 8 : Nat) : Int) by omega, or_i64 _ _ (by omega) (by omega), h1]
  simp
  omega
/-- Four bytes put together. -/
theorem four (a b c d : Int) (ha : 0 ≤ a ∧ a ≤ 255) (hb : 0 ≤ b ∧ b ≤ 255) (hc : 0 ≤ c ∧ c ≤ 255) (hd : 0 ≤ d ∧ d ≤ 255) :
    bits .or .u32 (bits .or .u32 (bits .or .u32 a (b * 256)) (c * 65536)) (d * 16777216) = a + 256 * b + 65536 * c + 16777216 * d := by
  obtain ⟨a, rfl⟩ := Int.eq_ofNat_of_zero_le ha.1
  obtain ⟨b, rfl⟩ := Int.eq_ofNat_of_zero_le hb.1
  obtain ⟨c, rfl⟩ := Int.eq_ofNat_of_zero_le hc.1
  obtain ⟨d, rfl⟩ := Int.eq_ofNat_of_zero_le hd.1
  have h1 := or_shift a b 8 (by omega)
  have h2 := or_shift (a + b * 2 ^ 8) c 16 (by omega)
  have h3 := or_shift (a + b * 2 ^ 8 + c * 2 ^ 16) d 24 (by omega)
  rw [show ((b : Nat) : Int) * 256 = ((b * 2 ^ 8 : Nat) : Int) by omega, or_u32 _ _ (by omega) (by omega), h1, show ((c : Nat) : Int) * 65536 = ((c * 2 ^ 16 : Nat) : Int) by omega, or_u32 _ _ (by omega) (by omega), h2, show ((d : Nat) : Int) * 16777216 = ((d * 2 ^ 24 : Nat) : Int) by omega, or_u32 _ _ (by omega) (by omega), h3]
  omega
set_option maxHeartbeats 1000000 in
theorem at_short (a : Option Addr) (len cap : Nat) (lf : Int) (w : World) (h : len < 7) :
    Calls Tryd.prog 17 #[.slice a len cap, .int .i64 lf] w fun e w' => e = .returned (.tuple #[.agg #[.int .u8 0, .slice none 0 0], .int .i64 1]) ∧ Below w.heap.size w w' := by
  have h1 : (len : Int) < 7 := by omega
  go_enter Tryd.func17, Tryd.ntmps17
  go_wp2_with fail
  exact bodyPost_ret (v := .tuple #[.agg #[.int .u8 0, .slice none 0 0], .int .i64 1]) (by simp [results, Tryd.results17, go_sem]) rfl ⟨rfl, box_below _ _⟩
theorem bytes_drop {W : World} {x : Addr} {len cap : Nat} {zs : List Int} (H : Bytes W (some x) len cap zs) (c : Nat) (hc : c ≤ len) : Bytes W (some (x.add c)) (len - c) (cap - c) (zs.drop c) := by
  refine ⟨by rw [List.length_drop, H.1], by have := H.2.1; omega, fun e => by simp at e, fun y hy => H.2.2.2.1 y (List.mem_of_mem_drop hy), ?_⟩
  intro y hy i hi
  simp at hy
  subst hy
  rw [Addr.add_add, H.2.2.2.2 x rfl (c + i) (by omega)]
  simp [List.getD_eq_getElem?_getD]
abbrev zp : Obj := .cells #[.int .u8 0, .slice none 0 0] 53
theorem bw1 (w : World) (n : Nat) (o p : Obj) (u v : Value) : Below w.heap.size w (((((w.alloc o).drewN n).setCell ⟨w.heap.size, 0, none⟩ u).setCell ⟨w.heap.size, 1, none⟩ v).alloc p) := by
  have b1 : Below w.heap.size w ((w.alloc o).drewN n) := below_drewN (box_below w o) n
  have b2 := (b1.setCell (p := ⟨w.heap.size, 0, none⟩) (Nat.le_refl _) u).setCell (p := ⟨w.heap.size, 1, none⟩) (Nat.le_refl _) v
  exact b2.alloc b2.size p
theorem bw2 (w : World) (n : Nat) (o p : Obj) : Below w.heap.size w (((w.alloc o).drewN n).alloc p) := by
  have b1 : Below w.heap.size w ((w.alloc o).drewN n) := below_drewN (box_below w o) n
  exact b1.alloc b1.size p
/-- What is returned of a piece that is none. -/
abbrev nv (how : Nat) : Value := .tuple #[.agg #[.int .u8 0, .slice none 0 0], .int .i64 how]
theorem blk0 (w : World) (n : Nat) (o p : Obj) : (((w.alloc o).drewN n).alloc p).heap[w.heap.size]? = some o := by
  have b1 : Below (w.alloc o).heap.size (w.alloc o) (((w.alloc o).drewN n).alloc p) := by
    have h : Below (w.alloc o).heap.size (w.alloc o) ((w.alloc o).drewN n) := below_drewN (Below.refl _ _) n
    exact h.alloc h.size p
  rw [b1.block w.heap.size (by simp)]
  show (w.heap.push _)[w.heap.size]? = _
  simp
theorem blk1 (w : World) (n : Nat) (o p : Obj) : (((w.alloc o).drewN n).alloc p).heap[w.heap.size + 1]? = some p := by
  have hs : (w.alloc o).heap.size = w.heap.size + 1 := by simp
  show ((w.alloc o).heap.push p)[w.heap.size + 1]? = _
  rw [← hs]
  simp only [Array.getElem?_push_size]
theorem two0 (w : World) (n : Nat) (c : Array Value) (t : TypeId) (p : Obj) (i : Nat) (v : Value) (h : c[i]? = some v) : (((w.alloc (.cells c t)).drewN n).alloc p).cell? ⟨w.heap.size, i, none⟩ = some v := by
  unfold World.cell?
  rw [blk0]
  exact h
theorem two1 (w : World) (n : Nat) (o : Obj) (c : Array Value) (t : TypeId) (i : Nat) (v : Value) (h : c[i]? = some v) : (((w.alloc o).drewN n).alloc (.cells c t)).cell? ⟨w.heap.size + 1, i, none⟩ = some v := by
  unfold World.cell?
  rw [blk1]
  exact h
theorem two2 (w : World) (n : Nat) (o p : Obj) : w.heap.size < (((w.alloc o).drewN n).alloc p).heap.size := (Array.getElem?_eq_some_iff.1 (blk0 w n o p)).1
theorem two3 (w : World) (n : Nat) (c : Array Value) (t : TypeId) (p : Obj) (i : Nat) : (((w.alloc (.cells c t)).drewN n).alloc p).frozen? ⟨w.heap.size, i, none⟩ = false := by
  simp [World.frozen?, blk0]
set_option maxHeartbeats 1000000 in
theorem at_kind1 (x : Addr) (len cap : Nat) (zs : List Int) (lf : Nat) (w : World) (T : Hid (Tab w)) (H : Bytes w (some x) len cap zs) (h7 : 7 ≤ len) (hlf : lf ≤ 32768) (hl7 : 7 ≤ lf) (hcap : cap ≤ 9223372036854775807) (hk : zs.getD 6 0 < 1) :
    Calls Tryd.prog 17 #[.slice (some x) len cap, .int .i64 lf] w fun e w' => e = .returned (nv 2) ∧ Below w.heap.size w w' := by
  have hzl := H.1
  have hlc := H.2.1
  have bd := fun i => getD_bd H.2.2.2.1 i
  have k0 : (w.alloc zp).cell? x = some (.int .u8 (zs.getD 0 0)) := cell_later (box_below w zp) (H.2.2.2.2 x rfl 0 (by omega))
  have k1 : (w.alloc zp).cell? ⟨x.block, x.off + 1, none⟩ = some (.int .u8 (zs.getD 1 0)) := cell_later (box_below w zp) (H.2.2.2.2 x rfl 1 (by omega))
  have k2 : (w.alloc zp).cell? ⟨x.block, x.off + 2, none⟩ = some (.int .u8 (zs.getD 2 0)) := cell_later (box_below w zp) (H.2.2.2.2 x rfl 2 (by omega))
  have k3 : (w.alloc zp).cell? ⟨x.block, x.off + 3, none⟩ = some (.int .u8 (zs.getD 3 0)) := cell_later (box_below w zp) (H.2.2.2.2 x rfl 3 (by omega))
  have k4 : (w.alloc zp).cell? ⟨x.block, x.off + 4, none⟩ = some (.int .u8 (zs.getD 4 0)) := cell_later (box_below w zp) (H.2.2.2.2 x rfl 4 (by omega))
  have k5 : (w.alloc zp).cell? ⟨x.block, x.off + 5, none⟩ = some (.int .u8 (zs.getD 5 0)) := cell_later (box_below w zp) (H.2.2.2.2 x rfl 5 (by omega))
  have k6 : (w.alloc zp).cell? ⟨x.block, x.off + 6, none⟩ = some (.int .u8 (zs.getD 6 0)) := cell_later (box_below w zp) (H.2.2.2.2 x rfl 6 (by omega))
  have F : Hid (bits .or .u32 (bits .or .u32 (bits .or .u32 (zs.getD 0 0) (zs.getD 1 0 * 256)) (zs.getD 2 0 * 65536)) (zs.getD 3 0 * 16777216) = sm zs) := four (zs.getD 0 0) (zs.getD 1 0) (zs.getD 2 0) (zs.getD 3 0) (bd 0) (bd 1) (bd 2) (bd 3)
  have G : Hid (bits .or .i64 (zs.getD 4 0) (zs.getD 5 0 * 256) = (cnt zs : Int)) := two _ _ (bd 4) (bd 5)
  have hC : cnt zs ≤ 65535 := by have := bd 4; have := bd 5; unfold cnt; omega
  have hne : ¬ (len : Int) < 7 := by omega
  have l0 : (0 : Int) < (len : Int) := by omega
  have n0 : 0 < len := by omega
  have l1 : (1 : Int) < (len : Int) := by omega
  have n1 : 1 < len := by omega
  have l2 : (2 : Int) < (len : Int) := by omega
  have n2 : 2 < len := by omega
  have l3 : (3 : Int) < (len : Int) := by omega
  have n3 : 3 < len := by omega
  have l4 : (4 : Int) < (len : Int) := by omega
  have n4 : 4 < len := by omega
  have l5 : (5 : Int) < (len : Int) := by omega
  have n5 : 5 < len := by omega
  have l6 : (6 : Int) < (len : Int) := by omega
  have n6 : 6 < len := by omega
  obtain ⟨g0, g0'⟩ := bd 0
  obtain ⟨g1, g1'⟩ := bd 1
  obtain ⟨g2, g2'⟩ := bd 2
  obtain ⟨g3, g3'⟩ := bd 3
  obtain ⟨g4, g4'⟩ := bd 4
  obtain ⟨g5, g5'⟩ := bd 5
  obtain ⟨g6, g6'⟩ := bd 6
  have HH := hid H
  clear H bd
  generalize zs.getD 0 0 = z0 at *
  generalize zs.getD 1 0 = z1 at *
  generalize zs.getD 2 0 = z2 at *
  generalize zs.getD 3 0 = z3 at *
  generalize zs.getD 4 0 = z4 at *
  generalize zs.getD 5 0 = z5 at *
  generalize zs.getD 6 0 = z6 at *
  generalize sm zs = S at *
  generalize cnt zs = C at *
  go_enter Tryd.func17, Tryd.ntmps17
  go_wp2_with fail
  go_quiet (fail)
  go_wp2_with fail
  go_quiet (fail)
  go_wp2_with fail
  exact bodyPost_ret (v := nv 2) (by simp [results, Tryd.results17, go_sem]) rfl ⟨rfl, bw1 _ _ _ _ _ _⟩
set_option maxHeartbeats 1000000 in
theorem at_kind2 (x : Addr) (len cap : Nat) (zs : List Int) (lf : Nat) (w : World) (T : Hid (Tab w)) (H : Bytes w (some x) len cap zs) (h7 : 7 ≤ len) (hlf : lf ≤ 32768) (hl7 : 7 ≤ lf) (hcap : cap ≤ 9223372036854775807) (hk : 4 < zs.getD 6 0) :
    Calls Tryd.prog 17 #[.slice (some x) len cap, .int .i64 lf] w fun e w' => e = .returned (nv 2) ∧ Below w.heap.size w w' := by
  have hzl := H.1
  have hlc := H.2.1
  have bd := fun i => getD_bd H.2.2.2.1 i
  have k0 : (w.alloc zp).cell? x = some (.int .u8 (zs.getD 0 0)) := cell_later (box_below w zp) (H.2.2.2.2 x rfl 0 (by omega))
  have k1 : (w.alloc zp).cell? ⟨x.block, x.off + 1, none⟩ = some (.int .u8 (zs.getD 1 0)) := cell_later (box_below w zp) (H.2.2.2.2 x rfl 1 (by omega))
  have k2 : (w.alloc zp).cell? ⟨x.block, x.off + 2, none⟩ = some (.int .u8 (zs.getD 2 0)) := cell_later (box_below w zp) (H.2.2.2.2 x rfl 2 (by omega))
  have k3 : (w.alloc zp).cell? ⟨x.block, x.off + 3, none⟩ = some (.int .u8 (zs.getD 3 0)) := cell_later (box_below w zp) (H.2.2.2.2 x rfl 3 (by omega))
  have k4 : (w.alloc zp).cell? ⟨x.block, x.off + 4, none⟩ = some (.int .u8 (zs.getD 4 0)) := cell_later (box_below w zp) (H.2.2.2.2 x rfl 4 (by omega))
  have k5 : (w.alloc zp).cell? ⟨x.block, x.off + 5, none⟩ = some (.int .u8 (zs.getD 5 0)) := cell_later (box_below w zp) (H.2.2.2.2 x rfl 5 (by omega))
  have k6 : (w.alloc zp).cell? ⟨x.block, x.off + 6, none⟩ = some (.int .u8 (zs.getD 6 0)) := cell_later (box_below w zp) (H.2.2.2.2 x rfl 6 (by omega))
  have F : Hid (bits .or .u32 (bits .or .u32 (bits .or .u32 (zs.getD 0 0) (zs.getD 1 0 * 256)) (zs.getD 2 0 * 65536)) (zs.getD 3 0 * 16777216) = sm zs) := four (zs.getD 0 0) (zs.getD 1 0) (zs.getD 2 0) (zs.getD 3 0) (bd 0) (bd 1) (bd 2) (bd 3)
  have G : Hid (bits .or .i64 (zs.getD 4 0) (zs.getD 5 0 * 256) = (cnt zs : Int)) := two _ _ (bd 4) (bd 5)
  have hC : cnt zs ≤ 65535 := by have := bd 4; have := bd 5; unfold cnt; omega
  have hne : ¬ (len : Int) < 7 := by omega
  have l0 : (0 : Int) < (len : Int) := by omega
  have n0 : 0 < len := by omega
  have l1 : (1 : Int) < (len : Int) := by omega
  have n1 : 1 < len := by omega
  have l2 : (2 : Int) < (len : Int) := by omega
  have n2 : 2 < len := by omega
  have l3 : (3 : Int) < (len : Int) := by omega
  have n3 : 3 < len := by omega
  have l4 : (4 : Int) < (len : Int) := by omega
  have n4 : 4 < len := by omega
  have l5 : (5 : Int) < (len : Int) := by omega
  have n5 : 5 < len := by omega
  have l6 : (6 : Int) < (len : Int) := by omega
  have n6 : 6 < len := by omega
  obtain ⟨g0, g0'⟩ := bd 0
  obtain ⟨g1, g1'⟩ := bd 1
  obtain ⟨g2, g2'⟩ := bd 2
  obtain ⟨g3, g3'⟩ := bd 3
  obtain ⟨g4, g4'⟩ := bd 4
  obtain ⟨g5, g5'⟩ := bd 5
  obtain ⟨g6, g6'⟩ := bd 6
  have HH := hid H
  clear H bd
  generalize zs.getD 0 0 = z0 at *
  generalize zs.getD 1 0 = z1 at *
  generalize zs.getD 2 0 = z2 at *
  generalize zs.getD 3 0 = z3 at *
  generalize zs.getD 4 0 = z4 at *
  generalize zs.getD 5 0 = z5 at *
  generalize zs.getD 6 0 = z6 at *
  generalize sm zs = S at *
  generalize cnt zs = C at *
  go_enter Tryd.func17, Tryd.ntmps17
  go_wp2_with fail
  go_quiet (fail)
  go_wp2_with fail
  go_quiet (fail)
  go_wp2_with fail
  exact bodyPost_ret (v := nv 2) (by simp [results, Tryd.results17, go_sem]) rfl ⟨rfl, bw1 _ _ _ _ _ _⟩
set_option maxHeartbeats 1000000 in
theorem at_long (x : Addr) (len cap : Nat) (zs : List Int) (lf : Nat) (w : World) (T : Hid (Tab w)) (H : Bytes w (some x) len cap zs) (h7 : 7 ≤ len) (hlf : lf ≤ 32768) (hl7 : 7 ≤ lf) (hcap : cap ≤ 9223372036854775807) (hk1 : ¬ zs.getD 6 0 < 1) (hk2 : ¬ 4 < zs.getD 6 0) (hc : lf - 7 < cnt zs) :
    Calls Tryd.prog 17 #[.slice (some x) len cap, .int .i64 lf] w fun e w' => e = .returned (nv 2) ∧ Below w.heap.size w w' := by
  have hzl := H.1
  have hlc := H.2.1
  have bd := fun i => getD_bd H.2.2.2.1 i
  have k0 : (w.alloc zp).cell? x = some (.int .u8 (zs.getD 0 0)) := cell_later (box_below w zp) (H.2.2.2.2 x rfl 0 (by omega))
  have k1 : (w.alloc zp).cell? ⟨x.block, x.off + 1, none⟩ = some (.int .u8 (zs.getD 1 0)) := cell_later (box_below w zp) (H.2.2.2.2 x rfl 1 (by omega))
  have k2 : (w.alloc zp).cell? ⟨x.block, x.off + 2, none⟩ = some (.int .u8 (zs.getD 2 0)) := cell_later (box_below w zp) (H.2.2.2.2 x rfl 2 (by omega))
  have k3 : (w.alloc zp).cell? ⟨x.block, x.off + 3, none⟩ = some (.int .u8 (zs.getD 3 0)) := cell_later (box_below w zp) (H.2.2.2.2 x rfl 3 (by omega))
  have k4 : (w.alloc zp).cell? ⟨x.block, x.off + 4, none⟩ = some (.int .u8 (zs.getD 4 0)) := cell_later (box_below w zp) (H.2.2.2.2 x rfl 4 (by omega))
  have k5 : (w.alloc zp).cell? ⟨x.block, x.off + 5, none⟩ = some (.int .u8 (zs.getD 5 0)) := cell_later (box_below w zp) (H.2.2.2.2 x rfl 5 (by omega))
  have k6 : (w.alloc zp).cell? ⟨x.block, x.off + 6, none⟩ = some (.int .u8 (zs.getD 6 0)) := cell_later (box_below w zp) (H.2.2.2.2 x rfl 6 (by omega))
  have F : Hid (bits .or .u32 (bits .or .u32 (bits .or .u32 (zs.getD 0 0) (zs.getD 1 0 * 256)) (zs.getD 2 0 * 65536)) (zs.getD 3 0 * 16777216) = sm zs) := four (zs.getD 0 0) (zs.getD 1 0) (zs.getD 2 0) (zs.getD 3 0) (bd 0) (bd 1) (bd 2) (bd 3)
  have G : Hid (bits .or .i64 (zs.getD 4 0) (zs.getD 5 0 * 256) = (cnt zs : Int)) := two _ _ (bd 4) (bd 5)
  have hC : cnt zs ≤ 65535 := by have := bd 4; have := bd 5; unfold cnt; omega
  have hne : ¬ (len : Int) < 7 := by omega
  have l0 : (0 : Int) < (len : Int) := by omega
  have n0 : 0 < len := by omega
  have l1 : (1 : Int) < (len : Int) := by omega
  have n1 : 1 < len := by omega
  have l2 : (2 : Int) < (len : Int) := by omega
  have n2 : 2 < len := by omega
  have l3 : (3 : Int) < (len : Int) := by omega
  have n3 : 3 < len := by omega
  have l4 : (4 : Int) < (len : Int) := by omega
  have n4 : 4 < len := by omega
  have l5 : (5 : Int) < (len : Int) := by omega
  have n5 : 5 < len := by omega
  have l6 : (6 : Int) < (len : Int) := by omega
  have n6 : 6 < len := by omega
  obtain ⟨g0, g0'⟩ := bd 0
  obtain ⟨g1, g1'⟩ := bd 1
  obtain ⟨g2, g2'⟩ := bd 2
  obtain ⟨g3, g3'⟩ := bd 3
  obtain ⟨g4, g4'⟩ := bd 4
  obtain ⟨g5, g5'⟩ := bd 5
  obtain ⟨g6, g6'⟩ := bd 6
  have HH := hid H
  clear H bd
  generalize zs.getD 0 0 = z0 at *
  generalize zs.getD 1 0 = z1 at *
  generalize zs.getD 2 0 = z2 at *
  generalize zs.getD 3 0 = z3 at *
  generalize zs.getD 4 0 = z4 at *
  generalize zs.getD 5 0 = z5 at *
  generalize zs.getD 6 0 = z6 at *
  generalize sm zs = S at *
  generalize cnt zs = C at *
  have hc2 : (lf : Int) - 7 < (C : Int) := by omega
  go_enter Tryd.func17, Tryd.ntmps17
  go_wp2_with fail
  go_quiet (fail)
  rw [F.out]
  go_wp2_with fail
  go_quiet (fail)
  rw [G.out]
  go_wp2_with fail
  exact bodyPost_ret (v := nv 2) (by simp [results, Tryd.results17, go_sem]) rfl ⟨rfl, bw1 _ _ _ _ _ _⟩
set_option maxHeartbeats 1000000 in
theorem at_torn (x : Addr) (len cap : Nat) (zs : List Int) (lf : Nat) (w : World) (T : Hid (Tab w)) (H : Bytes w (some x) len cap zs) (h7 : 7 ≤ len) (hlf : lf ≤ 32768) (hl7 : 7 ≤ lf) (hcap : cap ≤ 9223372036854775807) (hk1 : ¬ zs.getD 6 0 < 1) (hk2 : ¬ 4 < zs.getD 6 0) (hc : ¬ lf - 7 < cnt zs) (ht : len - 7 < cnt zs) :
    Calls Tryd.prog 17 #[.slice (some x) len cap, .int .i64 lf] w fun e w' => e = .returned (nv 1) ∧ Below w.heap.size w w' := by
  have hzl := H.1
  have hlc := H.2.1
  have bd := fun i => getD_bd H.2.2.2.1 i
  have k0 : (w.alloc zp).cell? x = some (.int .u8 (zs.getD 0 0)) := cell_later (box_below w zp) (H.2.2.2.2 x rfl 0 (by omega))
  have k1 : (w.alloc zp).cell? ⟨x.block, x.off + 1, none⟩ = some (.int .u8 (zs.getD 1 0)) := cell_later (box_below w zp) (H.2.2.2.2 x rfl 1 (by omega))
  have k2 : (w.alloc zp).cell? ⟨x.block, x.off + 2, none⟩ = some (.int .u8 (zs.getD 2 0)) := cell_later (box_below w zp) (H.2.2.2.2 x rfl 2 (by omega))
  have k3 : (w.alloc zp).cell? ⟨x.block, x.off + 3, none⟩ = some (.int .u8 (zs.getD 3 0)) := cell_later (box_below w zp) (H.2.2.2.2 x rfl 3 (by omega))
  have k4 : (w.alloc zp).cell? ⟨x.block, x.off + 4, none⟩ = some (.int .u8 (zs.getD 4 0)) := cell_later (box_below w zp) (H.2.2.2.2 x rfl 4 (by omega))
  have k5 : (w.alloc zp).cell? ⟨x.block, x.off + 5, none⟩ = some (.int .u8 (zs.getD 5 0)) := cell_later (box_below w zp) (H.2.2.2.2 x rfl 5 (by omega))
  have k6 : (w.alloc zp).cell? ⟨x.block, x.off + 6, none⟩ = some (.int .u8 (zs.getD 6 0)) := cell_later (box_below w zp) (H.2.2.2.2 x rfl 6 (by omega))
  have F : Hid (bits .or .u32 (bits .or .u32 (bits .or .u32 (zs.getD 0 0) (zs.getD 1 0 * 256)) (zs.getD 2 0 * 65536)) (zs.getD 3 0 * 16777216) = sm zs) := four (zs.getD 0 0) (zs.getD 1 0) (zs.getD 2 0) (zs.getD 3 0) (bd 0) (bd 1) (bd 2) (bd 3)
  have G : Hid (bits .or .i64 (zs.getD 4 0) (zs.getD 5 0 * 256) = (cnt zs : Int)) := two _ _ (bd 4) (bd 5)
  have hC : cnt zs ≤ 65535 := by have := bd 4; have := bd 5; unfold cnt; omega
  have hne : ¬ (len : Int) < 7 := by omega
  have l0 : (0 : Int) < (len : Int) := by omega
  have n0 : 0 < len := by omega
  have l1 : (1 : Int) < (len : Int) := by omega
  have n1 : 1 < len := by omega
  have l2 : (2 : Int) < (len : Int) := by omega
  have n2 : 2 < len := by omega
  have l3 : (3 : Int) < (len : Int) := by omega
  have n3 : 3 < len := by omega
  have l4 : (4 : Int) < (len : Int) := by omega
  have n4 : 4 < len := by omega
  have l5 : (5 : Int) < (len : Int) := by omega
  have n5 : 5 < len := by omega
  have l6 : (6 : Int) < (len : Int) := by omega
  have n6 : 6 < len := by omega
  obtain ⟨g0, g0'⟩ := bd 0
  obtain ⟨g1, g1'⟩ := bd 1
  obtain ⟨g2, g2'⟩ := bd 2
  obtain ⟨g3, g3'⟩ := bd 3
  obtain ⟨g4, g4'⟩ := bd 4
  obtain ⟨g5, g5'⟩ := bd 5
  obtain ⟨g6, g6'⟩ := bd 6
  have HH := hid H
  clear H bd
  generalize zs.getD 0 0 = z0 at *
  generalize zs.getD 1 0 = z1 at *
  generalize zs.getD 2 0 = z2 at *
  generalize zs.getD 3 0 = z3 at *
  generalize zs.getD 4 0 = z4 at *
  generalize zs.getD 5 0 = z5 at *
  generalize zs.getD 6 0 = z6 at *
  generalize sm zs = S at *
  generalize cnt zs = C at *
  have hc2 : ¬ (lf : Int) - 7 < (C : Int) := by omega
  have ht2 : (len : Int) - 7 < (C : Int) := by omega
  go_enter Tryd.func17, Tryd.ntmps17
  go_wp2_with fail
  go_quiet (fail)
  rw [F.out]
  go_wp2_with fail
  go_quiet (fail)
  rw [G.out]
  go_wp2_with fail
  exact bodyPost_ret (v := nv 1) (by simp [results, Tryd.results17, go_sem]) rfl ⟨rfl, bw1 _ _ _ _ _ _⟩
set_option maxHeartbeats 1000000 in
theorem at_bad (x : Addr) (len cap : Nat) (zs : List Int) (lf : Nat) (w : World) (T : Hid (Tab w)) (H : Bytes w (some x) len cap zs) (h7 : 7 ≤ len) (hlf : lf ≤ 32768) (hl7 : 7 ≤ lf) (hcap : cap ≤ 9223372036854775807) (hk1 : ¬ zs.getD 6 0 < 1) (hk2 : ¬ 4 < zs.getD 6 0) (hc : ¬ lf - 7 < cnt zs) (ht : ¬ len - 7 < cnt zs) (h77 : 7 < cap) (hq : ¬ toI (ks (zs.getD 6 0) ((zs.drop 7).take (cnt zs))) = sm zs) :
    Calls Tryd.prog 17 #[.slice (some x) len cap, .int .i64 lf] w fun e w' => e = .returned (nv 2) ∧ Below w.heap.size w w' := by
  have hzl := H.1
  have hlc := H.2.1
  have bd := fun i => getD_bd H.2.2.2.1 i
  have k0 : (w.alloc zp).cell? x = some (.int .u8 (zs.getD 0 0)) := cell_later (box_below w zp) (H.2.2.2.2 x rfl 0 (by omega))
  have k1 : (w.alloc zp).cell? ⟨x.block, x.off + 1, none⟩ = some (.int .u8 (zs.getD 1 0)) := cell_later (box_below w zp) (H.2.2.2.2 x rfl 1 (by omega))
  have k2 : (w.alloc zp).cell? ⟨x.block, x.off + 2, none⟩ = some (.int .u8 (zs.getD 2 0)) := cell_later (box_below w zp) (H.2.2.2.2 x rfl 2 (by omega))
  have k3 : (w.alloc zp).cell? ⟨x.block, x.off + 3, none⟩ = some (.int .u8 (zs.getD 3 0)) := cell_later (box_below w zp) (H.2.2.2.2 x rfl 3 (by omega))
  have k4 : (w.alloc zp).cell? ⟨x.block, x.off + 4, none⟩ = some (.int .u8 (zs.getD 4 0)) := cell_later (box_below w zp) (H.2.2.2.2 x rfl 4 (by omega))
  have k5 : (w.alloc zp).cell? ⟨x.block, x.off + 5, none⟩ = some (.int .u8 (zs.getD 5 0)) := cell_later (box_below w zp) (H.2.2.2.2 x rfl 5 (by omega))
  have k6 : (w.alloc zp).cell? ⟨x.block, x.off + 6, none⟩ = some (.int .u8 (zs.getD 6 0)) := cell_later (box_below w zp) (H.2.2.2.2 x rfl 6 (by omega))
  have F : Hid (bits .or .u32 (bits .or .u32 (bits .or .u32 (zs.getD 0 0) (zs.getD 1 0 * 256)) (zs.getD 2 0 * 65536)) (zs.getD 3 0 * 16777216) = sm zs) := four (zs.getD 0 0) (zs.getD 1 0) (zs.getD 2 0) (zs.getD 3 0) (bd 0) (bd 1) (bd 2) (bd 3)
  have G : Hid (bits .or .i64 (zs.getD 4 0) (zs.getD 5 0 * 256) = (cnt zs : Int)) := two _ _ (bd 4) (bd 5)
  have hC : cnt zs ≤ 65535 := by have := bd 4; have := bd 5; unfold cnt; omega
  have hne : ¬ (len : Int) < 7 := by omega
  have l0 : (0 : Int) < (len : Int) := by omega
  have n0 : 0 < len := by omega
  have l1 : (1 : Int) < (len : Int) := by omega
  have n1 : 1 < len := by omega
  have l2 : (2 : Int) < (len : Int) := by omega
  have n2 : 2 < len := by omega
  have l3 : (3 : Int) < (len : Int) := by omega
  have n3 : 3 < len := by omega
  have l4 : (4 : Int) < (len : Int) := by omega
  have n4 : 4 < len := by omega
  have l5 : (5 : Int) < (len : Int) := by omega
  have n5 : 5 < len := by omega
  have l6 : (6 : Int) < (len : Int) := by omega
  have n6 : 6 < len := by omega
  obtain ⟨g0, g0'⟩ := bd 0
  obtain ⟨g1, g1'⟩ := bd 1
  obtain ⟨g2, g2'⟩ := bd 2
  obtain ⟨g3, g3'⟩ := bd 3
  obtain ⟨g4, g4'⟩ := bd 4
  obtain ⟨g5, g5'⟩ := bd 5
  obtain ⟨g6, g6'⟩ := bd 6
  have HH := hid H
  have HBd : Hid (Bytes w (some ⟨x.block, x.off + 7, none⟩) (cnt zs) (cap - 7) ((zs.drop 7).take (cnt zs))) := bytes_take (bytes_drop H 7 (by omega)) (cnt zs) (by omega) (by simp)
  generalize (zs.drop 7).take (cnt zs) = D at *
  obtain ⟨Q, hQ⟩ : ∃ Q, Q = ks (zs.getD 6 0) D := ⟨_, rfl⟩
  rw [← hQ] at hq
  have HQ := hid hQ
  clear hQ
  clear H bd
  generalize zs.getD 0 0 = z0 at *
  generalize zs.getD 1 0 = z1 at *
  generalize zs.getD 2 0 = z2 at *
  generalize zs.getD 3 0 = z3 at *
  generalize zs.getD 4 0 = z4 at *
  generalize zs.getD 5 0 = z5 at *
  generalize zs.getD 6 0 = z6 at *
  generalize sm zs = S at *
  generalize cnt zs = C at *
  have hc2 : ¬ (lf : Int) - 7 < (C : Int) := by omega
  have ht2 : ¬ (len : Int) - 7 < (C : Int) := by omega
  have s1 : (7 : Int) + (C : Int) ≤ (cap : Int) := by omega
  have s2 : 7 + C ≤ cap := by omega
  have s3 : (7 : Int) < (cap : Int) := by omega
  have hq2 : (toI Q == S) = false := by rw [beq_eq_false_iff_ne]; exact hq
  go_enter Tryd.func17, Tryd.ntmps17
  go_wp2_with fail
  go_quiet (fail)
  rw [F.out]
  go_wp2_with fail
  go_quiet (fail)
  rw [G.out]
  go_wp2_with fail
  refine (sum_any z6 (some ⟨x.block, x.off + 7, none⟩) C (cap - 7) D _ (tab_later T ?bl) (bytes_kept HBd.out ?bl) (by omega) (by omega)).mono ?_
  case bl => exact bw2 _ _ _ _
  rintro e w5 ⟨rfl, b5⟩
  rw [← HQ.out]
  have b6 : Hid (Below w.heap.size w w5) := (bw2 w _ _ _).trans (b5.mono (bw2 w _ _ _).size)
  have e0 : w5.cell? ⟨w.heap.size, 0, none⟩ = some (.int .u8 0) := cell_later b5 (two0 _ _ _ _ _ _ _ rfl)
  have e1 : w5.cell? ⟨w.heap.size, 1, none⟩ = some (.slice none 0 0) := cell_later b5 (two0 _ _ _ _ _ _ _ rfl)
  have e2 : w5.cell? ⟨w.heap.size + 1, 0, none⟩ = some (.int .u8 z6) := cell_later b5 (two1 _ _ _ _ _ _ _ rfl)
  have e3 : w5.cell? ⟨w.heap.size + 1, 1, none⟩ = some (.slice (some ⟨x.block, x.off + 7, none⟩) C (cap - 7)) := cell_later b5 (two1 _ _ _ _ _ _ _ rfl)
  have f0 : w5.frozen? ⟨w.heap.size, 0, none⟩ = false := (b5.frozen (two2 _ _ _ _)).trans (two3 _ _ _ _ _ _)
  have f1 : w5.frozen? ⟨w.heap.size, 1, none⟩ = false := (b5.frozen (two2 _ _ _ _)).trans (two3 _ _ _ _ _ _)
  clear b5
  go_wp2_with fail
  exact bodyPost_ret (v := nv 2) (by simp [results, Tryd.results17, go_sem, e0, e1]) rfl ⟨rfl, (b6.out.setCell (p := ⟨w.heap.size, 0, none⟩) (Nat.le_refl _) _).setCell (p := ⟨w.heap.size, 1, none⟩) (Nat.le_refl _) _⟩
set_option maxHeartbeats 1000000 in
theorem at_good (x : Addr) (len cap : Nat) (zs : List Int) (lf : Nat) (w : World) (T : Hid (Tab w)) (H : Bytes w (some x) len cap zs) (h7 : 7 ≤ len) (hlf : lf ≤ 32768) (hl7 : 7 ≤ lf) (hcap : cap ≤ 9223372036854775807) (hk1 : ¬ zs.getD 6 0 < 1) (hk2 : ¬ 4 < zs.getD 6 0) (hc : ¬ lf - 7 < cnt zs) (ht : ¬ len - 7 < cnt zs) (h77 : 7 < cap) (hq : toI (ks (zs.getD 6 0) ((zs.drop 7).take (cnt zs))) = sm zs) :
    Calls Tryd.prog 17 #[.slice (some x) len cap, .int .i64 lf] w fun e w' => e = .returned (.tuple #[.agg #[.int .u8 (zs.getD 6 0), .slice (some ⟨x.block, x.off + 7, none⟩) (cnt zs) (cap - 7)], .int .i64 0]) ∧ Below w.heap.size w w' := by
  have hzl := H.1
  have hlc := H.2.1
  have bd := fun i => getD_bd H.2.2.2.1 i
  have k0 : (w.alloc zp).cell? x = some (.int .u8 (zs.getD 0 0)) := cell_later (box_below w zp) (H.2.2.2.2 x rfl 0 (by omega))
  have k1 : (w.alloc zp).cell? ⟨x.block, x.off + 1, none⟩ = some (.int .u8 (zs.getD 1 0)) := cell_later (box_below w zp) (H.2.2.2.2 x rfl 1 (by omega))
  have k2 : (w.alloc zp).cell? ⟨x.block, x.off + 2, none⟩ = some (.int .u8 (zs.getD 2 0)) := cell_later (box_below w zp) (H.2.2.2.2 x rfl 2 (by omega))
  have k3 : (w.alloc zp).cell? ⟨x.block, x.off + 3, none⟩ = some (.int .u8 (zs.getD 3 0)) := cell_later (box_below w zp) (H.2.2.2.2 x rfl 3 (by omega))
  have k4 : (w.alloc zp).cell? ⟨x.block, x.off + 4, none⟩ = some (.int .u8 (zs.getD 4 0)) := cell_later (box_below w zp) (H.2.2.2.2 x rfl 4 (by omega))
  have k5 : (w.alloc zp).cell? ⟨x.block, x.off + 5, none⟩ = some (.int .u8 (zs.getD 5 0)) := cell_later (box_below w zp) (H.2.2.2.2 x rfl 5 (by omega))
  have k6 : (w.alloc zp).cell? ⟨x.block, x.off + 6, none⟩ = some (.int .u8 (zs.getD 6 0)) := cell_later (box_below w zp) (H.2.2.2.2 x rfl 6 (by omega))
  have F : Hid (bits .or .u32 (bits .or .u32 (bits .or .u32 (zs.getD 0 0) (zs.getD 1 0 * 256)) (zs.getD 2 0 * 65536)) (zs.getD 3 0 * 16777216) = sm zs) := four (zs.getD 0 0) (zs.getD 1 0) (zs.getD 2 0) (zs.getD 3 0) (bd 0) (bd 1) (bd 2) (bd 3)
  have G : Hid (bits .or .i64 (zs.getD 4 0) (zs.getD 5 0 * 256) = (cnt zs : Int)) := two _ _ (bd 4) (bd 5)
  have hC : cnt zs ≤ 65535 := by have := bd 4; have := bd 5; unfold cnt; omega
  have hne : ¬ (len : Int) < 7 := by omega
  have l0 : (0 : Int) < (len : Int) := by omega
  have n0 : 0 < len := by omega
  have l1 : (1 : Int) < (len : Int) := by omega
  have n1 : 1 < len := by omega
  have l2 : (2 : Int) < (len : Int) := by omega
  have n2 : 2 < len := by omega
  have l3 : (3 : Int) < (len : Int) := by omega
  have n3 : 3 < len := by omega
  have l4 : (4 : Int) < (len : Int) := by omega
  have n4 : 4 < len := by omega
  have l5 : (5 : Int) < (len : Int) := by omega
  have n5 : 5 < len := by omega
  have l6 : (6 : Int) < (len : Int) := by omega
  have n6 : 6 < len := by omega
  obtain ⟨g0, g0'⟩ := bd 0
  obtain ⟨g1, g1'⟩ := bd 1
  obtain ⟨g2, g2'⟩ := bd 2
  obtain ⟨g3, g3'⟩ := bd 3
  obtain ⟨g4, g4'⟩ := bd 4
  obtain ⟨g5, g5'⟩ := bd 5
  obtain ⟨g6, g6'⟩ := bd 6
  have HH := hid H
  have HBd : Hid (Bytes w (some ⟨x.block, x.off + 7, none⟩) (cnt zs) (cap - 7) ((zs.drop 7).take (cnt zs))) := bytes_take (bytes_drop H 7 (by omega)) (cnt zs) (by omega) (by simp)
  generalize (zs.drop 7).take (cnt zs) = D at *
  obtain ⟨Q, hQ⟩ : ∃ Q, Q = ks (zs.getD 6 0) D := ⟨_, rfl⟩
  rw [← hQ] at hq
  have HQ := hid hQ
  clear hQ
  clear H bd
  generalize zs.getD 0 0 = z0 at *
  generalize zs.getD 1 0 = z1 at *
  generalize zs.getD 2 0 = z2 at *
  generalize zs.getD 3 0 = z3 at *
  generalize zs.getD 4 0 = z4 at *
  generalize zs.getD 5 0 = z5 at *
  generalize zs.getD 6 0 = z6 at *
  generalize sm zs = S at *
  generalize cnt zs = C at *
  have hc2 : ¬ (lf : Int) - 7 < (C : Int) := by omega
  have ht2 : ¬ (len : Int) - 7 < (C : Int) := by omega
  have s1 : (7 : Int) + (C : Int) ≤ (cap : Int) := by omega
  have s2 : 7 + C ≤ cap := by omega
  have s3 : (7 : Int) < (cap : Int) := by omega
  have hq2 : (toI Q == S) = true := by rw [beq_iff_eq]; exact hq
  go_enter Tryd.func17, Tryd.ntmps17
  go_wp2_with fail
  go_quiet (fail)
  rw [F.out]
  go_wp2_with fail
  go_quiet (fail)
  rw [G.out]
  go_wp2_with fail
  refine (sum_any z6 (some ⟨x.block, x.off + 7, none⟩) C (cap - 7) D _ (tab_later T ?bl) (bytes_kept HBd.out ?bl) (by omega) (by omega)).mono ?_
  case bl => exact bw2 _ _ _ _
  rintro e w5 ⟨rfl, b5⟩
  rw [← HQ.out]
  have b6 : Hid (Below w.heap.size w w5) := (bw2 w _ _ _).trans (b5.mono (bw2 w _ _ _).size)
  have e0 : w5.cell? ⟨w.heap.size, 0, none⟩ = some (.int .u8 0) := cell_later b5 (two0 _ _ _ _ _ _ _ rfl)
  have e1 : w5.cell? ⟨w.heap.size, 1, none⟩ = some (.slice none 0 0) := cell_later b5 (two0 _ _ _ _ _ _ _ rfl)
  have e2 : w5.cell? ⟨w.heap.size + 1, 0, none⟩ = some (.int .u8 z6) := cell_later b5 (two1 _ _ _ _ _ _ _ rfl)
  have e3 : w5.cell? ⟨w.heap.size + 1, 1, none⟩ = some (.slice (some ⟨x.block, x.off + 7, none⟩) C (cap - 7)) := cell_later b5 (two1 _ _ _ _ _ _ _ rfl)
  have f0 : w5.frozen? ⟨w.heap.size, 0, none⟩ = false := (b5.frozen (two2 _ _ _ _)).trans (two3 _ _ _ _ _ _)
  have f1 : w5.frozen? ⟨w.heap.size, 1, none⟩ = false := (b5.frozen (two2 _ _ _ _)).trans (two3 _ _ _ _ _ _)
  clear b5
  go_wp2_with fail
  exact bodyPost_ret (v := .tuple #[.agg #[.int .u8 z6, .slice (some ⟨x.block, x.off + 7, none⟩) C (cap - 7)], .int .i64 0]) (by simp [results, Tryd.results17, go_sem, e0, e1]) rfl ⟨rfl, (b6.out.setCell (p := ⟨w.heap.size, 0, none⟩) (Nat.le_refl _) _).setCell (p := ⟨w.heap.size, 1, none⟩) (Nat.le_refl _) _⟩
set_option maxHeartbeats 1000000 in
theorem at_badf (x : Addr) (len cap : Nat) (zs : List Int) (lf : Nat) (w : World) (T : Hid (Tab w)) (H : Bytes w (some x) len cap zs) (h7 : 7 ≤ len) (hlf : lf ≤ 32768) (hl7 : 7 ≤ lf) (hcap : cap ≤ 9223372036854775807) (hk1 : ¬ zs.getD 6 0 < 1) (hk2 : ¬ 4 < zs.getD 6 0) (hc : ¬ lf - 7 < cnt zs) (ht : ¬ len - 7 < cnt zs) (h77 : cap = 7) (hq : ¬ toI (ks (zs.getD 6 0) ((zs.drop 7).take (cnt zs))) = sm zs) :
    Calls Tryd.prog 17 #[.slice (some x) len cap, .int .i64 lf] w fun e w' => e = .returned (nv 2) ∧ Below w.heap.size w w' := by
  have hzl := H.1
  have hlc := H.2.1
  have bd := fun i => getD_bd H.2.2.2.1 i
  have k0 : (w.alloc zp).cell? x = some (.int .u8 (zs.getD 0 0)) := cell_later (box_below w zp) (H.2.2.2.2 x rfl 0 (by omega))
  have k1 : (w.alloc zp).cell? ⟨x.block, x.off + 1, none⟩ = some (.int .u8 (zs.getD 1 0)) := cell_later (box_below w zp) (H.2.2.2.2 x rfl 1 (by omega))
  have k2 : (w.alloc zp).cell? ⟨x.block, x.off + 2, none⟩ = some (.int .u8 (zs.getD 2 0)) := cell_later (box_below w zp) (H.2.2.2.2 x rfl 2 (by omega))
  have k3 : (w.alloc zp).cell? ⟨x.block, x.off + 3, none⟩ = some (.int .u8 (zs.getD 3 0)) := cell_later (box_below w zp) (H.2.2.2.2 x rfl 3 (by omega))
  have k4 : (w.alloc zp).cell? ⟨x.block, x.off + 4, none⟩ = some (.int .u8 (zs.getD 4 0)) := cell_later (box_below w zp) (H.2.2.2.2 x rfl 4 (by omega))
  have k5 : (w.alloc zp).cell? ⟨x.block, x.off + 5, none⟩ = some (.int .u8 (zs.getD 5 0)) := cell_later (box_below w zp) (H.2.2.2.2 x rfl 5 (by omega))
  have k6 : (w.alloc zp).cell? ⟨x.block, x.off + 6, none⟩ = some (.int .u8 (zs.getD 6 0)) := cell_later (box_below w zp) (H.2.2.2.2 x rfl 6 (by omega))
  have F : Hid (bits .or .u32 (bits .or .u32 (bits .or .u32 (zs.getD 0 0) (zs.getD 1 0 * 256)) (zs.getD 2 0 * 65536)) (zs.getD 3 0 * 16777216) = sm zs) := four (zs.getD 0 0) (zs.getD 1 0) (zs.getD 2 0) (zs.getD 3 0) (bd 0) (bd 1) (bd 2) (bd 3)
  have G : Hid (bits .or .i64 (zs.getD 4 0) (zs.getD 5 0 * 256) = (cnt zs : Int)) := two _ _ (bd 4) (bd 5)
  have hC : cnt zs ≤ 65535 := by have := bd 4; have := bd 5; unfold cnt; omega
  have hne : ¬ (len : Int) < 7 := by omega
  have l0 : (0 : Int) < (len : Int) := by omega
  have n0 : 0 < len := by omega
  have l1 : (1 : Int) < (len : Int) := by omega
  have n1 : 1 < len := by omega
  have l2 : (2 : Int) < (len : Int) := by omega
  have n2 : 2 < len := by omega
  have l3 : (3 : Int) < (len : Int) := by omega
  have n3 : 3 < len := by omega
  have l4 : (4 : Int) < (len : Int) := by omega
  have n4 : 4 < len := by omega
  have l5 : (5 : Int) < (len : Int) := by omega
  have n5 : 5 < len := by omega
  have l6 : (6 : Int) < (len : Int) := by omega
  have n6 : 6 < len := by omega
  obtain ⟨g0, g0'⟩ := bd 0
  obtain ⟨g1, g1'⟩ := bd 1
  obtain ⟨g2, g2'⟩ := bd 2
  obtain ⟨g3, g3'⟩ := bd 3
  obtain ⟨g4, g4'⟩ := bd 4
  obtain ⟨g5, g5'⟩ := bd 5
  obtain ⟨g6, g6'⟩ := bd 6
  have HH := hid H
  have HBd : Hid (Bytes w (some ⟨x.block, x.off + 7, none⟩) (cnt zs) (cap - 7) ((zs.drop 7).take (cnt zs))) := bytes_take (bytes_drop H 7 (by omega)) (cnt zs) (by omega) (by simp)
  generalize (zs.drop 7).take (cnt zs) = D at *
  obtain ⟨Q, hQ⟩ : ∃ Q, Q = ks (zs.getD 6 0) D := ⟨_, rfl⟩
  rw [← hQ] at hq
  have HQ := hid hQ
  clear hQ
  clear H bd
  generalize zs.getD 0 0 = z0 at *
  generalize zs.getD 1 0 = z1 at *
  generalize zs.getD 2 0 = z2 at *
  generalize zs.getD 3 0 = z3 at *
  generalize zs.getD 4 0 = z4 at *
  generalize zs.getD 5 0 = z5 at *
  generalize zs.getD 6 0 = z6 at *
  generalize sm zs = S at *
  generalize cnt zs = C at *
  have hC0 : C = 0 := by omega
  subst hC0
  subst h77
  have HBe : Hid (Bytes w (some x) 0 0 D) := by
    have h0 : D = [] := List.eq_nil_of_length_eq_zero (by have := HBd.out.1; omega)
    rw [h0]
    exact ⟨rfl, Nat.le_refl _, fun e => by simp at e, by simp, fun _ _ i hi => by omega⟩
  have hc2 : ¬ (lf : Int) - 7 < ((0 : Nat) : Int) := by omega
  have ht2 : ¬ (len : Int) - 7 < ((0 : Nat) : Int) := by omega
  have hq2 : (toI Q == S) = false := by rw [beq_eq_false_iff_ne]; exact hq
  go_enter Tryd.func17, Tryd.ntmps17
  go_wp2_with fail
  go_quiet (fail)
  rw [F.out]
  go_wp2_with fail
  go_quiet (fail)
  rw [G.out]
  go_wp2_with fail
  refine (sum_any z6 (some x) 0 0 D _ (tab_later T ?bl) (bytes_kept HBe.out ?bl) (by omega) (by omega)).mono ?_
  case bl => exact bw2 _ _ _ _
  rintro e w5 ⟨rfl, b5⟩
  rw [← HQ.out]
  have b6 : Hid (Below w.heap.size w w5) := (bw2 w _ _ _).trans (b5.mono (bw2 w _ _ _).size)
  have e0 : w5.cell? ⟨w.heap.size, 0, none⟩ = some (.int .u8 0) := cell_later b5 (two0 _ _ _ _ _ _ _ rfl)
  have e1 : w5.cell? ⟨w.heap.size, 1, none⟩ = some (.slice none 0 0) := cell_later b5 (two0 _ _ _ _ _ _ _ rfl)
  have e2 : w5.cell? ⟨w.heap.size + 1, 0, none⟩ = some (.int .u8 z6) := cell_later b5 (two1 _ _ _ _ _ _ _ rfl)
  have e3 : w5.cell? ⟨w.heap.size + 1, 1, none⟩ = some (.slice (some x) 0 0) := cell_later b5 (two1 _ _ _ _ _ _ _ rfl)
  have f0 : w5.frozen? ⟨w.heap.size, 0, none⟩ = false := (b5.frozen (two2 _ _ _ _)).trans (two3 _ _ _ _ _ _)
  have f1 : w5.frozen? ⟨w.heap.size, 1, none⟩ = false := (b5.frozen (two2 _ _ _ _)).trans (two3 _ _ _ _ _ _)
  clear b5
  go_wp2_with fail
  exact bodyPost_ret (v := nv 2) (by simp [results, Tryd.results17, go_sem, e0, e1]) rfl ⟨rfl, (b6.out.setCell (p := ⟨w.heap.size, 0, none⟩) (Nat.le_refl _) _).setCell (p := ⟨w.heap.size, 1, none⟩) (Nat.le_refl _) _⟩
set_option maxHeartbeats 1000000 in
theorem at_goodf (x : Addr) (len cap : Nat) (zs : List Int) (lf : Nat) (w : World) (T : Hid (Tab w)) (H : Bytes w (some x) len cap zs) (h7 : 7 ≤ len) (hlf : lf ≤ 32768) (hl7 : 7 ≤ lf) (hcap : cap ≤ 9223372036854775807) (hk1 : ¬ zs.getD 6 0 < 1) (hk2 : ¬ 4 < zs.getD 6 0) (hc : ¬ lf - 7 < cnt zs) (ht : ¬ len - 7 < cnt zs) (h77 : cap = 7) (hq : toI (ks (zs.getD 6 0) ((zs.drop 7).take (cnt zs))) = sm zs) :
    Calls Tryd.prog 17 #[.slice (some x) len cap, .int .i64 lf] w fun e w' => e = .returned (.tuple #[.agg #[.int .u8 (zs.getD 6 0), .slice (some x) (cnt zs) 0], .int .i64 0]) ∧ Below w.heap.size w w' := by
  have hzl := H.1
  have hlc := H.2.1
  have bd := fun i => getD_bd H.2.2.2.1 i
  have k0 : (w.alloc zp).cell? x = some (.int .u8 (zs.getD 0 0)) := cell_later (box_below w zp) (H.2.2.2.2 x rfl 0 (by omega))
  have k1 : (w.alloc zp).cell? ⟨x.block, x.off + 1, none⟩ = some (.int .u8 (zs.getD 1 0)) := cell_later (box_below w zp) (H.2.2.2.2 x rfl 1 (by omega))
  have k2 : (w.alloc zp).cell? ⟨x.block, x.off + 2, none⟩ = some (.int .u8 (zs.getD 2 0)) := cell_later (box_below w zp) (H.2.2.2.2 x rfl 2 (by omega))
  have k3 : (w.alloc zp).cell? ⟨x.block, x.off + 3, none⟩ = some (.int .u8 (zs.getD 3 0)) := cell_later (box_below w zp) (H.2.2.2.2 x rfl 3 (by omega))
  have k4 : (w.alloc zp).cell? ⟨x.block, x.off + 4, none⟩ = some (.int .u8 (zs.getD 4 0)) := cell_later (box_below w zp) (H.2.2.2.2 x rfl 4 (by omega))
  have k5 : (w.alloc zp).cell? ⟨x.block, x.off + 5, none⟩ = some (.int .u8 (zs.getD 5 0)) := cell_later (box_below w zp) (H.2.2.2.2 x rfl 5 (by omega))
  have k6 : (w.alloc zp).cell? ⟨x.block, x.off + 6, none⟩ = some (.int .u8 (zs.getD 6 0)) := cell_later (box_below w zp) (H.2.2.2.2 x rfl 6 (by omega))
  have F : Hid (bits .or .u32 (bits .or .u32 (bits .or .u32 (zs.getD 0 0) (zs.getD 1 0 * 256)) (zs.getD 2 0 * 65536)) (zs.getD 3 0 * 16777216) = sm zs) := four (zs.getD 0 0) (zs.getD 1 0) (zs.getD 2 0) (zs.getD 3 0) (bd 0) (bd 1) (bd 2) (bd 3)
  have G : Hid (bits .or .i64 (zs.getD 4 0) (zs.getD 5 0 * 256) = (cnt zs : Int)) := two _ _ (bd 4) (bd 5)
  have hC : cnt zs ≤ 65535 := by have := bd 4; have := bd 5; unfold cnt; omega
  have hne : ¬ (len : Int) < 7 := by omega
  have l0 : (0 : Int) < (len : Int) := by omega
  have n0 : 0 < len := by omega
  have l1 : (1 : Int) < (len : Int) := by omega
  have n1 : 1 < len := by omega
  have l2 : (2 : Int) < (len : Int) := by omega
  have n2 : 2 < len := by omega
  have l3 : (3 : Int) < (len : Int) := by omega
  have n3 : 3 < len := by omega
  have l4 : (4 : Int) < (len : Int) := by omega
  have n4 : 4 < len := by omega
  have l5 : (5 : Int) < (len : Int) := by omega
  have n5 : 5 < len := by omega
  have l6 : (6 : Int) < (len : Int) := by omega
  have n6 : 6 < len := by omega
  obtain ⟨g0, g0'⟩ := bd 0
  obtain ⟨g1, g1'⟩ := bd 1
  obtain ⟨g2, g2'⟩ := bd 2
  obtain ⟨g3, g3'⟩ := bd 3
  obtain ⟨g4, g4'⟩ := bd 4
  obtain ⟨g5, g5'⟩ := bd 5
  obtain ⟨g6, g6'⟩ := bd 6
  have HH := hid H
  have HBd : Hid (Bytes w (some ⟨x.block, x.off + 7, none⟩) (cnt zs) (cap - 7) ((zs.drop 7).take (cnt zs))) := bytes_take (bytes_drop H 7 (by omega)) (cnt zs) (by omega) (by simp)
  generalize (zs.drop 7).take (cnt zs) = D at *
  obtain ⟨Q, hQ⟩ : ∃ Q, Q = ks (zs.getD 6 0) D := ⟨_, rfl⟩
  rw [← hQ] at hq
  have HQ := hid hQ
  clear hQ
  clear H bd
  generalize zs.getD 0 0 = z0 at *
  generalize zs.getD 1 0 = z1 at *
  generalize zs.getD 2 0 = z2 at *
  generalize zs.getD 3 0 = z3 at *
  generalize zs.getD 4 0 = z4 at *
  generalize zs.getD 5 0 = z5 at *
  generalize zs.getD 6 0 = z6 at *
  generalize sm zs = S at *
  generalize cnt zs = C at *
  have hC0 : C = 0 := by omega
  subst hC0
  subst h77
  have HBe : Hid (Bytes w (some x) 0 0 D) := by
    have h0 : D = [] := List.eq_nil_of_length_eq_zero (by have := HBd.out.1; omega)
    rw [h0]
    exact ⟨rfl, Nat.le_refl _, fun e => by simp at e, by simp, fun _ _ i hi => by omega⟩
  have hc2 : ¬ (lf : Int) - 7 < ((0 : Nat) : Int) := by omega
  have ht2 : ¬ (len : Int) - 7 < ((0 : Nat) : Int) := by omega
  have hq2 : (toI Q == S) = true := by rw [beq_iff_eq]; exact hq
  go_enter Tryd.func17, Tryd.ntmps17
  go_wp2_with fail
  go_quiet (fail)
  rw [F.out]
  go_wp2_with fail
  go_quiet (fail)
  rw [G.out]
  go_wp2_with fail
  refine (sum_any z6 (some x) 0 0 D _ (tab_later T ?bl) (bytes_kept HBe.out ?bl) (by omega) (by omega)).mono ?_
  case bl => exact bw2 _ _ _ _
  rintro e w5 ⟨rfl, b5⟩
  rw [← HQ.out]
  have b6 : Hid (Below w.heap.size w w5) := (bw2 w _ _ _).trans (b5.mono (bw2 w _ _ _).size)
  have e0 : w5.cell? ⟨w.heap.size, 0, none⟩ = some (.int .u8 0) := cell_later b5 (two0 _ _ _ _ _ _ _ rfl)
  have e1 : w5.cell? ⟨w.heap.size, 1, none⟩ = some (.slice none 0 0) := cell_later b5 (two0 _ _ _ _ _ _ _ rfl)
  have e2 : w5.cell? ⟨w.heap.size + 1, 0, none⟩ = some (.int .u8 z6) := cell_later b5 (two1 _ _ _ _ _ _ _ rfl)
  have e3 : w5.cell? ⟨w.heap.size + 1, 1, none⟩ = some (.slice (some x) 0 0) := cell_later b5 (two1 _ _ _ _ _ _ _ rfl)
  have f0 : w5.frozen? ⟨w.heap.size, 0, none⟩ = false := (b5.frozen (two2 _ _ _ _)).trans (two3 _ _ _ _ _ _)
  have f1 : w5.frozen? ⟨w.heap.size, 1, none⟩ = false := (b5.frozen (two2 _ _ _ _)).trans (two3 _ _ _ _ _ _)
  clear b5
  go_wp2_with fail
  exact bodyPost_ret (v := .tuple #[.agg #[.int .u8 z6, .slice (some x) 0 0], .int .i64 0]) (by simp [results, Tryd.results17, go_sem, e0, e1]) rfl ⟨rfl, (b6.out.setCell (p := ⟨w.heap.size, 0, none⟩) (Nat.le_refl _) _).setCell (p := ⟨w.heap.size, 1, none⟩) (Nat.le_refl _) _⟩
/-- The piece that stands ahead, where its seven bytes are there. -/
theorem at_any (x : Addr) (len cap : Nat) (zs : List Int) (lf : Nat) (w : World) (T : Hid (Tab w)) (H : Bytes w (some x) len cap zs) (h7 : 7 ≤ len) (hlf : lf ≤ 32768) (hl7 : 7 ≤ lf) (hcap : cap ≤ 9223372036854775807) :
    Calls Tryd.prog 17 #[.slice (some x) len cap, .int .i64 lf] w fun e w' => (match pa zs lf with | .bad how => e = .returned (nv how) | .ok k d => ∃ a' c', e = .returned (.tuple #[.agg #[.int .u8 k, .slice a' d.length c'], .int .i64 0]) ∧ (∀ w2, Bytes w2 (some x) len cap zs → Bytes w2 a' d.length c' d) ∧ 1 ≤ k ∧ k ≤ 4) ∧ Below w.heap.size w w' := by
  have hzl := H.1
  obtain ⟨R, hR⟩ : ∃ R, R = pa zs lf := ⟨_, rfl⟩
  rw [← hR]
  unfold pa at hR
  rw [if_neg (by omega)] at hR
  by_cases h1 : zs.getD 6 0 < 1
  · rw [if_pos (.inl (.inl h1))] at hR
    subst hR
    exact at_kind1 x len cap zs lf w T H h7 hlf hl7 hcap h1
  by_cases h2 : 4 < zs.getD 6 0
  · rw [if_pos (.inl (.inr h2))] at hR
    subst hR
    exact at_kind2 x len cap zs lf w T H h7 hlf hl7 hcap h2
  by_cases h3 : lf - 7 < cnt zs
  · rw [if_pos (.inr h3)] at hR
    subst hR
    exact at_long x len cap zs lf w T H h7 hlf hl7 hcap h1 h2 h3
  rw [if_neg (by omega)] at hR
  by_cases h4 : len - 7 < cnt zs
  · rw [if_pos (by omega)] at hR
    subst hR
    exact at_torn x len cap zs lf w T H h7 hlf hl7 hcap h1 h2 h3 h4
  rw [if_neg (by omega)] at hR
  have hlc := H.2.1
  have HD := bytes_take (bytes_drop H 7 (by omega)) (cnt zs) (by omega) (by simp)
  by_cases h5 : toI (ks (zs.getD 6 0) ((zs.drop 7).take (cnt zs))) = sm zs
  · rw [if_neg (by simpa using h5)] at hR
    subst hR
    have hl := HD.1
    by_cases h6 : cap = 7
    · refine (at_goodf x len cap zs lf w T H h7 hlf hl7 hcap h1 h2 h3 h4 h6 h5).mono ?_
      rintro e w' ⟨rfl, b⟩
      have h0 : cnt zs = 0 := by omega
      refine ⟨⟨some x, 0, ?_, ?_, by omega, by omega⟩, b⟩
      · rw [hl]
      · intro w2 _
        rw [h0] at hl ⊢
        simp only [List.take_zero, List.length_nil]
        exact ⟨rfl, Nat.le_refl _, fun e => by simp at e, by simp, fun _ _ i hi => by omega⟩
    · refine (at_good x len cap zs lf w T H h7 hlf hl7 hcap h1 h2 h3 h4 (by omega) h5).mono ?_
      rintro e w' ⟨rfl, b⟩
      refine ⟨⟨some ⟨x.block, x.off + 7, none⟩, cap - 7, ?_, ?_, by omega, by omega⟩, b⟩
      · rw [hl]
      · intro w2 H2
        rw [hl]; exact bytes_take (bytes_drop H2 7 (by omega)) (cnt zs) (by omega) (by simp)
  · rw [if_pos (by simpa using h5)] at hR
    subst hR
    by_cases h6 : cap = 7
    · exact at_badf x len cap zs lf w T H h7 hlf hl7 hcap h1 h2 h3 h4 h6 h5
    · exact at_bad x len cap zs lf w T H h7 hlf hl7 hcap h1 h2 h3 h4 (by omega) h5
end Go.Proofs.YtgkoopciajjonabDoor.Pt

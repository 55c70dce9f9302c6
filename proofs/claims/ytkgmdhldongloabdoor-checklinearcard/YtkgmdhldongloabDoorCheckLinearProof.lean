/- Proved: for all three lists of bytes, CheckLinear returns true: cut to the length of the shortest, their sums, exclusive-ored, are the sum of the lists, exclusive-ored. The listed variable (the table of half bytes) is tied to the program's text. -/
import Derived.Test.YtkgmdhldongloabDoorWk
import Derived.RegionTactic
import Derived.BigRegion
import Derived.BigQuiet
import Derived.Deep.QuietTactic
import Derived.Test.YtkgmdhldongloabDoorLd
import Derived.Test.YtkgmdhldongloabDoorCards
import Derived.Test.YtkgmdhldongloabDoorTie
import Derived.SevenTiedAt
import Derived.ShutString
import Derived.ChangeOld
import Derived.Below
import Derived.SizedLaws
import Derived.Deep.RegionWith
namespace Go.Proofs.YtkgmdhldongloabDoor.checkLinear
open Go.ChangeShapes Go.WideShapes Go.ChangeAt Go.RowKit
open Go.ChangeMaps (open_string shut_string)
open Go.Proofs.YtkgmdhldongloabDoor.Crc
open Go.Proofs.YtkgmdhldongloabDoor.Ck
open Go.Proofs.YtkgmdhldongloabDoor.Wk
set_option linter.unusedVariables false

theorem ret_bool {a b : Bool} (h : a = b) : Ending.returned (.bool a) = .returned (.bool b) := by rw [h]
theorem byte_of {xs : List Int} (h : ∀ y ∈ xs, 0 ≤ y ∧ y ≤ 255) (i : Nat) : 0 ≤ xs.getD i 0 ∧ xs.getD i 0 ≤ 255 := by
  rw [List.getD_eq_getElem?_getD]
  cases hi : xs[i]? with
  | none => simp
  | some y => exact h y (List.mem_of_getElem? hi)
theorem xor8 (a b : Int) (ha : 0 ≤ a ∧ a ≤ 255) (hb : 0 ≤ b ∧ b ≤ 255) : bits .xor .u8 a b = ((a.toNat ^^^ b.toNat : Nat) : Int) ∧ a.toNat ^^^ b.toNat ≤ 255 := by
  have e1 : a = ((a.toNat : Nat) : Int) := by omega
  have e2 : b = ((b.toNat : Nat) : Int) := by omega
  have hx := Nat.xor_lt_two_pow (show a.toNat < 2 ^ 8 by omega) (show b.toNat < 2 ^ 8 by omega)
  refine ⟨?_, by omega⟩
  show IntKind.u8.wrap ((BitVec.ofInt 8 a ^^^ BitVec.ofInt 8 b).toNat : Int) = _
  have f1 : (BitVec.ofInt 8 a).toNat = a.toNat := by
    rw [e1, BitVec.ofInt_natCast, BitVec.toNat_ofNat, Nat.mod_eq_of_lt (by omega), Int.toNat_natCast]
  have f2 : (BitVec.ofInt 8 b).toNat = b.toNat := by
    rw [e2, BitVec.ofInt_natCast, BitVec.toNat_ofNat, Nat.mod_eq_of_lt (by omega), Int.toNat_natCast]
  rw [BitVec.toNat_xor, f1, f2]
  generalize a.toNat ^^^ b.toNat = P at hx
  simp only [IntKind.wrap, IntKind.signed, IntKind.bits, Bool.false_and, Bool.false_eq_true, if_false]
  omega
theorem xor8_3 (a b c : Int) (ha : 0 ≤ a ∧ a ≤ 255) (hb : 0 ≤ b ∧ b ≤ 255) (hc : 0 ≤ c ∧ c ≤ 255) : bits .xor .u8 (bits .xor .u8 a b) c = ((a.toNat ^^^ b.toNat ^^^ c.toNat : Nat) : Int) := by
  obtain ⟨h1, h2⟩ := xor8 a b ha hb
  rw [h1, (xor8 _ c (by omega) hc).1, Int.toNat_natCast]
/-- The three lists, exclusive-ored. -/
def three (n : Nat) (x y z : List Int) : List Nat := xorL (xorL ((x.take n).map Int.toNat) ((y.take n).map Int.toNat)) ((z.take n).map Int.toNat)
theorem up_toNat (x : List Int) (h : ∀ y ∈ x, 0 ≤ y ∧ y ≤ 255) : up (x.map Int.toNat) = x := by
  induction x with
  | nil => rfl
  | cons y t ih =>
    have := ih (fun z hz => h z (List.mem_cons_of_mem _ hz))
    simp only [up, List.map_cons] at this ⊢
    rw [this]
    have := h y (List.mem_cons_self ..)
    congr 1
    omega
theorem three_len (n : Nat) (x y z : List Int) (h1 : n ≤ x.length) (h2 : n ≤ y.length) (h3 : n ≤ z.length) : (three n x y z).length = n := by
  simp [three, xorL]; omega
theorem three_sum (n : Nat) (x y z : List Int) (h1 : n ≤ x.length) (h2 : n ≤ y.length) (h3 : n ≤ z.length) (b1 : ∀ q ∈ x, 0 ≤ q ∧ q ≤ 255) (b2 : ∀ q ∈ y, 0 ≤ q ∧ q ≤ 255) (b3 : ∀ q ∈ z, 0 ≤ q ∧ q ≤ 255) :
    sum (x.take n) ^^^ sum (y.take n) ^^^ sum (z.take n) = sum (up (three n x y z)) := by
  have e1 := up_toNat (x.take n) (fun q hq => b1 q (List.mem_of_mem_take hq))
  have e2 := up_toNat (y.take n) (fun q hq => b2 q (List.mem_of_mem_take hq))
  have e3 := up_toNat (z.take n) (fun q hq => b3 q (List.mem_of_mem_take hq))
  have := sum_three ((x.take n).map Int.toNat) ((y.take n).map Int.toNat) ((z.take n).map Int.toNat) (by simp; omega) (by simp; omega)
  rw [e1, e2, e3] at this
  exact this
theorem three_get (n : Nat) (x y z : List Int) (h1 : n ≤ x.length) (h2 : n ≤ y.length) (h3 : n ≤ z.length) (k : Nat) (hk : k < n) :
    (up (three n x y z))[k]? = some (((x.getD k 0).toNat ^^^ (y.getD k 0).toNat ^^^ (z.getD k 0).toNat : Nat) : Int) := by
  simp only [up, three, xorL, List.getElem?_map, List.getElem?_zipWith, List.getElem?_take, hk, if_true, List.getD_eq_getElem?_getD, List.getElem?_eq_getElem (show k < x.length by omega), List.getElem?_eq_getElem (show k < y.length by omega), List.getElem?_eq_getElem (show k < z.length by omega), Option.map_some, Option.getD_some]
theorem three_bytes (n : Nat) (x y z : List Int) (h1 : n ≤ x.length) (h2 : n ≤ y.length) (h3 : n ≤ z.length) (b1 : ∀ q ∈ x, 0 ≤ q ∧ q ≤ 255) (b2 : ∀ q ∈ y, 0 ≤ q ∧ q ≤ 255) (b3 : ∀ q ∈ z, 0 ≤ q ∧ q ≤ 255) : ∀ q ∈ up (three n x y z), 0 ≤ q ∧ q ≤ 255 := by
  intro q hq
  obtain ⟨k, hk, rfl⟩ := List.getElem_of_mem hq
  have hkn : k < n := by simp [up, three_len n x y z h1 h2 h3] at hk; exact hk
  have e := three_get n x y z h1 h2 h3 k hkn
  rw [List.getElem?_eq_getElem hk] at e
  rw [Option.some.inj e]
  have c1 := byte_of b1 k
  have c2 := byte_of b2 k
  have c3 := byte_of b3 k
  obtain ⟨_, h⟩ := xor8 _ _ c1 c2
  obtain ⟨_, h'⟩ := xor8 (((x.getD k 0).toNat ^^^ (y.getD k 0).toNat : Nat) : Int) _ (by omega) c3
  rw [Int.toNat_natCast] at h'
  omega
/-- The first k of them, noughts behind. -/
def part (L : List Int) (k : Nat) : List Int := L.take k ++ List.replicate (L.length - k) 0
theorem part_set (L : List Int) (k : Nat) (v : Int) (hk : k < L.length) (hv : L[k]? = some v) : (part L k).set k v = part L (k + 1) := by
  have hl : (L.take k).length = k := by rw [List.length_take]; omega
  obtain ⟨m, hm⟩ : ∃ m, L.length - k = m + 1 := ⟨L.length - k - 1, by omega⟩
  have hm2 : L.length - (k + 1) = m := by omega
  unfold part
  rw [hm, hm2, List.set_append_right _ _ (by omega), hl, Nat.sub_self, List.replicate_succ, List.set_cons_zero, List.take_add_one, hv]
  simp
theorem part_all (L : List Int) (k : Nat) (h : L.length ≤ k) : part L k = L := by
  unfold part
  rw [List.take_of_length_le h, show L.length - k = 0 by omega]
  simp
theorem row_set {w : World} {base g n c : Nat} {xs : List Int} (h : Row w base g n c xs) (k : Nat) (v : Int) : Row (w.setCell ⟨g, k, none⟩ (.int .u8 v)) base g n c (xs.set k v) ∧ w.grownBy (w.setCell ⟨g, k, none⟩ (.int .u8 v)) (some g) := by
  have := World.ownsRow.stored h k (.int .u8 v)
  refine ⟨?_, this.2⟩
  unfold Row
  rw [List.map_set]
  exact this.1
theorem made_zeros (n : Nat) : (madeCells #[Value.int .u8 0] n).toList = (List.replicate n (0 : Int)).map (Value.int .u8) := by
  apply List.ext_getElem?
  intro i
  by_cases h : i < n
  · simp [madeCells, h, Nat.mod_one]
  · simp [madeCells, h]

set_option maxHeartbeats 4000000 in
set_option maxRecDepth 100000 in
theorem linear (a0 a1 a2 : Option Addr) (len0 cap0 len1 cap1 len2 cap2 : Nat) (z0 z1 z2 : List Int) (n : Nat) (w : World) (T : Hid (Tab w)) (w0 : Bytes w a0 len0 cap0 z0) (w1 : Bytes w a1 len1 cap1 z1) (w2 : Bytes w a2 len2 cap2 z2)
    (c0 : cap0 ≤ 140737488351232) (c1 : cap1 ≤ 140737488351232) (c2 : cap2 ≤ 140737488351232) (n0 : n ≤ len0) (n1 : n ≤ len1) (n2 : n ≤ len2)
    (hmin : (if (len2 : Int) < (if len1 < len0 then (len1 : Int) else (len0 : Int)) then (len2 : Int) else (if len1 < len0 then (len1 : Int) else (len0 : Int))) = (n : Int)) :
    Calls Tryd.prog 5 #[.slice a0 len0 cap0, .slice a1 len1 cap1, .slice a2 len2 cap2] w fun e w' => e = .returned (.bool true) ∧ Below w.heap.size w w' := by
  obtain ⟨i0, hi, hz0, hz1, hz2⟩ := info_parts info5
  have H0 : Hid (Bytes w a0 len0 cap0 z0) := w0
  have H1 : Hid (Bytes w a1 len1 cap1 z1) := w1
  have H2 : Hid (Bytes w a2 len2 cap2 z2) := w2
  have l0 : len0 ≤ cap0 := w0.2.1
  have l1 : len1 ≤ cap1 := w1.2.1
  have l2 : len2 ≤ cap2 := w2.2.1
  obtain ⟨L, HL⟩ : ∃ L, Hid (L = up (three n z0 z1 z2)) := ⟨_, rfl⟩
  have HLl : Hid (L.length = n) := by show _ = _; rw [HL.out]; simp [up]; exact three_len n z0 z1 z2 (by rw [w0.1]; exact n0) (by rw [w1.1]; exact n1) (by rw [w2.1]; exact n2)
  have HLb : Hid (∀ q ∈ L, 0 ≤ q ∧ q ≤ 255) := by
    show ∀ q ∈ L, 0 ≤ q ∧ q ≤ 255
    rw [HL.out]; exact three_bytes n z0 z1 z2 (by rw [w0.1]; exact n0) (by rw [w1.1]; exact n1) (by rw [w2.1]; exact n2) w0.2.2.2.1 w1.2.2.2.1 w2.2.2.2.1
  have HLs : Hid (sum (z0.take n) ^^^ sum (z1.take n) ^^^ sum (z2.take n) = sum L) := by
    show _ = _
    rw [HL.out]; exact three_sum n z0 z1 z2 (by rw [w0.1]; exact n0) (by rw [w1.1]; exact n1) (by rw [w2.1]; exact n2) w0.2.2.2.1 w1.2.2.2.1 w2.2.2.2.1
  have HLg : Hid (∀ k, k < n → L[k]? = some (((z0.getD k 0).toNat ^^^ (z1.getD k 0).toNat ^^^ (z2.getD k 0).toNat : Nat) : Int)) := by
    show ∀ k, k < n → _
    intro k hk
    rw [HL.out]; exact three_get n z0 z1 z2 (by rw [w0.1]; exact n0) (by rw [w1.1]; exact n1) (by rw [w2.1]; exact n2) k hk
  clear w0 w1 w2
  go_enter Tryd.func5, Tryd.ntmps5
  go_wp2_with fail
  refine (works_any _ T).mono ?_
  rintro e w3 ⟨rfl, b1⟩
  have B1 : Hid (Below w.heap.size w w3) := b1
  have T1 : Hid (Tab w3) := tab_later T b1
  have H0' : Hid (Bytes w3 a0 len0 cap0 z0) := bytes_kept H0.out b1
  have H1' : Hid (Bytes w3 a1 len1 cap1 z1) := bytes_kept H1.out b1
  have H2' : Hid (Bytes w3 a2 len2 cap2 z2) := bytes_kept H2.out b1
  clear b1 T H0 H1 H2
  go_wp2_with (at_make; refine wpList_make_full _ rfl _ _ 22 rfl w3.heap.size 5 i0 (.int .u8 0) 1 Tryd.underlying22 hi hz0 hz1 .i64 .i64 _ _ n rfl rfl rfl rfl (by rw [hz2]; omega) (by unfold maxLen; omega) (Nat.le_refl _) ?_)
  intro w4 own1 g1
  clear hmin
  have R1 : Hid (Row w4 w3.heap.size w3.heap.size n n (part L 0)) := by
    show Row _ _ _ _ _ _
    rw [made_zeros] at own1
    have e : part L 0 = List.replicate n 0 := by unfold part; simp [HLl.out]
    rw [e]
    exact own1
  have B2 : Hid (Below w3.heap.size w3 w4) := grown_below g1 (by simp)
  obtain ⟨g, hg⟩ : ∃ g, g = w3.heap.size := ⟨_, rfl⟩
  rw [← hg] at R1
  have hgw : g = w3.heap.size := hg
  rw [← hg]
  clear own1 g1 hg
  have HG : Hid (g = w3.heap.size) := hgw
  clear hgw
  go_wp2_with fail
  go_loopw [9] (fun i wr => ∃ k : Nat, k ≤ n ∧ i = .int .i64 k ∧ Hid (Row wr g g n n (part L k)) ∧ Hid (Below w3.heap.size w3 wr)) (fun i _ => n - (intOf i).toNat)
  case atStart => exact ⟨0, by omega, rfl, R1, B2⟩
  case round =>
    obtain ⟨k, hk, rfl, hrow, hbel⟩ := hrel
    by_cases h : k < n
    · obtain ⟨A0, rfl⟩ : ∃ A, a0 = some A := by
        cases a0 with
        | none => have := (H0'.out.2.2.1 rfl).1; omega
        | some A => exact ⟨A, rfl⟩
      obtain ⟨A1, rfl⟩ : ∃ A, a1 = some A := by
        cases a1 with
        | none => have := (H1'.out.2.2.1 rfl).1; omega
        | some A => exact ⟨A, rfl⟩
      obtain ⟨A2, rfl⟩ : ∃ A, a2 = some A := by
        cases a2 with
        | none => have := (H2'.out.2.2.1 rfl).1; omega
        | some A => exact ⟨A, rfl⟩
      have k0 := cell_later hbel.out (H0'.out.2.2.2.2 A0 rfl k (by omega))
      have k1 := cell_later hbel.out (H1'.out.2.2.2.2 A1 rfl k (by omega))
      have k2 := cell_later hbel.out (H2'.out.2.2.2.2 A2 rfl k (by omega))
      have kr := hrow.out.cell k h
      have hfz : wr.frozen? ⟨g, k, none⟩ = false := World.ownsRow.frozenAt hrow.out k
      have y0 := byte_of H0'.out.2.2.2.1 k
      have y1 := byte_of H1'.out.2.2.2.1 k
      have y2 := byte_of H2'.out.2.2.2.1 k
      have V := HLg.out k h
      generalize z0.getD k 0 = p0 at k0 y0 V
      generalize z1.getD k 0 = p1 at k1 y1 V
      generalize z2.getD k 0 = p2 at k2 y2 V
      generalize (part L k).getD k 0 = pr at kr
      have HV : Hid (L[k]? = some ((p0.toNat ^^^ p1.toNat ^^^ p2.toNat : Nat) : Int)) := V
      have HX : Hid (bits .xor .u8 (bits .xor .u8 p0 p1) p2 = ((p0.toNat ^^^ p1.toNat ^^^ p2.toNat : Nat) : Int)) := xor8_3 p0 p1 p2 y0 y1 y2
      clear V y0 y1 y2
      generalize ((p0.toNat ^^^ p1.toNat ^^^ p2.toNat : Nat) : Int) = v at HV HX
      go_wp2_with fail
      go_region
      rw [HX.out]
      have RS := row_set hrow.out k v
      rw [part_set L k v (by rw [HLl.out]; exact h) HV.out] at RS
      have R3 : Hid (Row (wr.setCell ⟨g, k, none⟩ (.int .u8 v)).drew g g n n (part L (k + 1))) := World.ownsRow.drew RS.1
      have B3 : Hid (Below w3.heap.size w3 (wr.setCell ⟨g, k, none⟩ (.int .u8 v)).drew) := (hbel.out.grown RS.2 hbel.out.size (by intro j hj; simp at hj; have := HG.out; omega)).drew
      clear RS k0 k1 k2 kr hfz hrow hbel
      generalize (wr.setCell ⟨g, k, none⟩ (.int .u8 v)).drew = W3 at R3 B3 ⊢
      go_wp2_with fail
      go_roundw
      case rel => exact ⟨k + 1, by omega, by go_num, R3, B3⟩
      case measure => simp [intOf]; omega
    · have hkn : k = n := by omega
      subst hkn
      have hp : part L k = L := part_all L k (by rw [HLl.out]; exact Nat.le_refl _)
      have LX : Hid (Bytes wr (some ⟨g, 0, none⟩) k k L) := by
        have := hrow.out
        rw [hp] at this
        exact this.bytes HLb.out
      have L0 : Hid (Bytes wr a0 k cap0 (z0.take k)) := bytes_take (bytes_kept H0'.out hbel.out) k n0 (fun e => by have := (H0'.out.2.2.1 e).1; omega)
      have L1 : Hid (Bytes wr a1 k cap1 (z1.take k)) := bytes_take (bytes_kept H1'.out hbel.out) k n1 (fun e => by have := (H1'.out.2.2.1 e).1; omega)
      have L2 : Hid (Bytes wr a2 k cap2 (z2.take k)) := bytes_take (bytes_kept H2'.out hbel.out) k n2 (fun e => by have := (H2'.out.2.2.1 e).1; omega)
      have TR : Hid (Tab wr) := tab_later T1 hbel.out
      have HB : Hid (Below w.heap.size w wr) := B1.out.trans (hbel.out.mono B1.out.size)
      have hcap : k ≤ 140737488351232 := by omega
      have F0 : Hid (∀ q, Calls Tryd.prog 9 #[.slice a0 k cap0] (wr.drewN q) fun e w' => e = .returned (.int .u32 (toI (sum (z0.take k)))) ∧ w' = wr.drewN q) := fun q => Sum_any _ _ _ _ _ (fun i hi => TR.out i hi) L0.out (by omega)
      have F1 : Hid (∀ q, Calls Tryd.prog 9 #[.slice a1 k cap1] (wr.drewN q) fun e w' => e = .returned (.int .u32 (toI (sum (z1.take k)))) ∧ w' = wr.drewN q) := fun q => Sum_any _ _ _ _ _ (fun i hi => TR.out i hi) L1.out (by omega)
      have F2 : Hid (∀ q, Calls Tryd.prog 9 #[.slice a2 k cap2] (wr.drewN q) fun e w' => e = .returned (.int .u32 (toI (sum (z2.take k)))) ∧ w' = wr.drewN q) := fun q => Sum_any _ _ _ _ _ (fun i hi => TR.out i hi) L2.out (by omega)
      have F3 : Hid (∀ q, Calls Tryd.prog 9 #[.slice (some ⟨g, 0, none⟩) k k] (wr.drewN q) fun e w' => e = .returned (.int .u32 (toI (sum L))) ∧ w' = wr.drewN q) := fun q => Sum_any _ _ _ _ _ (fun i hi => TR.out i hi) LX.out (by omega)
      have ks0 : (k : Int) ≤ (cap0 : Int) := by omega
      have ks1 : (k : Int) ≤ (cap1 : Int) := by omega
      have ks2 : (k : Int) ≤ (cap2 : Int) := by omega
      clear hrow hbel LX L0 L1 L2 H0' H1' H2' hp T1 B1
      go_wp2_with fail
      go_quiet ((go_at_call 9; first | exact Calls.quiet_of_same (F0.out _) | exact Calls.quiet_of_same (F1.out _) | exact Calls.quiet_of_same (F2.out _) | exact Calls.quiet_of_same (F3.out _)))
      go_wp2_with fail
      go_ret
      exact ⟨ret_bool (by rw [xor_i, xor_i, HLs.out]; simp), below_drewN HB.out _⟩

theorem walk (a0 : Option Addr) (len0 cap0 : Nat) (z0 : List Int) (a1 : Option Addr) (len1 cap1 : Nat) (z1 : List Int) (a2 : Option Addr) (len2 cap2 : Nat) (z2 : List Int) (w : World) (T : Hid (Tab w)) (w0 : Bytes w a0 len0 cap0 z0) (c0 : cap0 ≤ 140737488351232) (w1 : Bytes w a1 len1 cap1 z1) (c1 : cap1 ≤ 140737488351232) (w2 : Bytes w a2 len2 cap2 z2) (c2 : cap2 ≤ 140737488351232) :
    Calls Tryd.prog 5 #[.slice a0 len0 cap0, .slice a1 len1 cap1, .slice a2 len2 cap2] w fun e w' => e = .returned (.bool true) ∧ Below w.heap.size w w' := by
  obtain ⟨n, hn⟩ : ∃ n, n = min len0 (min len1 len2) := ⟨_, rfl⟩
  exact linear a0 a1 a2 len0 cap0 len1 cap1 len2 cap2 z0 z1 z2 n w T w0 w1 w2 c0 c1 c2 (by omega) (by omega) (by omega) (by split <;> split <;> omega)

theorem own : ownKnob Tryd.prog.godebug = none := by kernel_rfl
theorem laidOut : laidOutB Tryd.prog = true := by kernel_rfl
theorem bytes5 : Tryd.prog.bytesOf 5 = 1 := by kernel_rfl
theorem u8_bd {y : Int} (h : (Lit.int .u8 y).wf = true) : 0 ≤ y ∧ y ≤ 255 := by
  simpa [Lit.wf, IntKind.min, IntKind.max, IntKind.signed, IntKind.bits] using h

/-! ### The row's step -/
set_option maxRecDepth 100000 in
theorem lifted (os : Os) (started : os.Started) (H : Type) (enc : TypeId × Value → H) :
    ReturnsInHanded {} Tryd.checked os 5 .any (fun w args => (Rows.checkLinearSpec.pre enc Tryd.prog Tryd.f5 [] false w args ∧ laidMetH Tryd.prog Ld.laid w) ∧ sizedMet enc Tryd.prog Tryd.f5 (OpenSpec.ofChange Rows.checkLinearSpec) false w args)
      (Rows.checkLinearSpec.post enc Tryd.prog Tryd.f5 false true false false) := by
  refine returnsInHanded_of_change_and (C := Tryd.checked) (X := fun w _ => laidMetH Tryd.prog Ld.laid w) (fun _ _ _ hh h => h.of_heap hh) own started (by kernel_rfl) Tryd.func5
    (ChangeSpec.witness_shaped (enc := enc) (C := Tryd.checked) (os := os) (X := fun w _ => laidMetH Tryd.prog Ld.laid w) false (World.doorLaid Tryd.prog 400 os) #[.slice none 0 0, .slice none 0 0, .slice none 0 0] 8 rfl (World.shaped_of_RefB (by kernel_rfl) (by kernel_rfl)) (by kernel_rfl) (by kernel_rfl) (by kernel_rfl) (Ld.door_met os _)) ?_
  intro W base args ds gs before hval0 hW hcnd hsz0 hL _
  have T : Hid (Ck.Tab W) := Ld.tab_of hL
  have hval : ∀ (j : Nat) t v, Tryd.f5.params[j]? = some t → args[j]? = some v → Value.okWide Tryd.prog W .any base t v := hval0
  have hsz : (DataW.weightsEach Tryd.prog (Tryd.f5.params.toList ++ Rows.checkLinearSpec.plain.varTypes Tryd.prog) (ds ++ gs)).all (· ≤ reachBytes) = true := hsz0
  have hW' := hW
  obtain ⟨p, q, hA0, hV, rfl, hfz, hnd⟩ := hW
  have hA : DataW.TrodAll enc Tryd.prog W 0 (fun _ => true) true Tryd.f5.params.toList args.toList ds p := hA0
  rw [Tryd.params5] at hA hval hsz
  obtain ⟨v0, vs0, d0, ds0, p0, q0, hargs, rfl, rfl, h0, r0⟩ := trodAll_cons hA
  obtain ⟨v1, vs1, d1, ds1, p1, q1, rfl, rfl, rfl, h1, r1⟩ := trodAll_cons r0
  obtain ⟨v2, vs2, d2, ds2, p2, q2, rfl, rfl, rfl, h2, r2⟩ := trodAll_cons r1
  obtain ⟨rfl, rfl, rfl⟩ := trodAll_nil r2
  obtain rfl : args = #[v0, v1, v2] := by cases args; simp_all
  obtain ⟨rfl, rfl⟩ := trodVars_none hV
  obtain ⟨a0, len0, cap0, rfl⟩ := okWide_slice Tryd.underlying22 (hval 0 22 v0 rfl rfl)
  have k0 := h0
  have lt0 : ∀ x ∈ p0, x.block < W.heap.size := by obtain ⟨m, hm⟩ := k0; exact DataW.trod_lt m _ _ _ hm
  obtain ⟨z0, w0, c0⟩ : ∃ zs, Ck.Bytes W a0 len0 cap0 zs ∧ cap0 ≤ 140737488351232 := by
    obtain ⟨fuel, hf⟩ := h0
    rcases open_ints Tryd.underlying22 Tryd.underlying5 (by kernel_rfl) hf with ⟨hcs, _⟩ | ⟨x, l, c, zs, hcs, _, hl, hm, hz, hx, hcell, hwz⟩
    · simp [Value.cells] at hcs
      obtain ⟨rfl, rfl, rfl⟩ := hcs
      exact ⟨[], Ck.nil_bytes W, by omega⟩
    · simp [Value.cells] at hcs
      obtain ⟨rfl, rfl, rfl⟩ := hcs
      have hd : d0 = .slice (lits .u8 (zs.take len0)) (lits .u8 (zs.drop len0)) := (Prod.mk.inj hx).1
      have hz' : zs.length = cap0 := by simpa using hz
      have sz := sized_slice hsz (j := 0) (t := 22) (e := 5) rfl (by rw [hd]; rfl) Tryd.underlying22
      rw [bytes5] at sz
      simp only [lits, List.length_map, List.length_take, List.length_drop, reachBytes] at sz
      refine ⟨zs.take len0, ⟨by rw [List.length_take]; omega, hl, fun e => by simp at e, fun y hy => u8_bd (hwz y (List.mem_of_mem_take hy)), ?_⟩, by omega⟩
      intro x' hx' j hj
      simp at hx'
      subst hx'
      rw [hcell j (by omega)]
      simp [List.getD_eq_getElem?_getD, hj]
  obtain ⟨a1, len1, cap1, rfl⟩ := okWide_slice Tryd.underlying22 (hval 1 22 v1 rfl rfl)
  have k1 := h1
  have lt1 : ∀ x ∈ p1, x.block < W.heap.size := by obtain ⟨m, hm⟩ := k1; exact DataW.trod_lt m _ _ _ hm
  obtain ⟨z1, w1, c1⟩ : ∃ zs, Ck.Bytes W a1 len1 cap1 zs ∧ cap1 ≤ 140737488351232 := by
    obtain ⟨fuel, hf⟩ := h1
    rcases open_ints Tryd.underlying22 Tryd.underlying5 (by kernel_rfl) hf with ⟨hcs, _⟩ | ⟨x, l, c, zs, hcs, _, hl, hm, hz, hx, hcell, hwz⟩
    · simp [Value.cells] at hcs
      obtain ⟨rfl, rfl, rfl⟩ := hcs
      exact ⟨[], Ck.nil_bytes W, by omega⟩
    · simp [Value.cells] at hcs
      obtain ⟨rfl, rfl, rfl⟩ := hcs
      have hd : d1 = .slice (lits .u8 (zs.take len1)) (lits .u8 (zs.drop len1)) := (Prod.mk.inj hx).1
      have hz' : zs.length = cap1 := by simpa using hz
      have sz := sized_slice hsz (j := 1) (t := 22) (e := 5) rfl (by rw [hd]; rfl) Tryd.underlying22
      rw [bytes5] at sz
      simp only [lits, List.length_map, List.length_take, List.length_drop, reachBytes] at sz
      refine ⟨zs.take len1, ⟨by rw [List.length_take]; omega, hl, fun e => by simp at e, fun y hy => u8_bd (hwz y (List.mem_of_mem_take hy)), ?_⟩, by omega⟩
      intro x' hx' j hj
      simp at hx'
      subst hx'
      rw [hcell j (by omega)]
      simp [List.getD_eq_getElem?_getD, hj]
  obtain ⟨a2, len2, cap2, rfl⟩ := okWide_slice Tryd.underlying22 (hval 2 22 v2 rfl rfl)
  have k2 := h2
  have lt2 : ∀ x ∈ p2, x.block < W.heap.size := by obtain ⟨m, hm⟩ := k2; exact DataW.trod_lt m _ _ _ hm
  obtain ⟨z2, w2, c2⟩ : ∃ zs, Ck.Bytes W a2 len2 cap2 zs ∧ cap2 ≤ 140737488351232 := by
    obtain ⟨fuel, hf⟩ := h2
    rcases open_ints Tryd.underlying22 Tryd.underlying5 (by kernel_rfl) hf with ⟨hcs, _⟩ | ⟨x, l, c, zs, hcs, _, hl, hm, hz, hx, hcell, hwz⟩
    · simp [Value.cells] at hcs
      obtain ⟨rfl, rfl, rfl⟩ := hcs
      exact ⟨[], Ck.nil_bytes W, by omega⟩
    · simp [Value.cells] at hcs
      obtain ⟨rfl, rfl, rfl⟩ := hcs
      have hd : d2 = .slice (lits .u8 (zs.take len2)) (lits .u8 (zs.drop len2)) := (Prod.mk.inj hx).1
      have hz' : zs.length = cap2 := by simpa using hz
      have sz := sized_slice hsz (j := 2) (t := 22) (e := 5) rfl (by rw [hd]; rfl) Tryd.underlying22
      rw [bytes5] at sz
      simp only [lits, List.length_map, List.length_take, List.length_drop, reachBytes] at sz
      refine ⟨zs.take len2, ⟨by rw [List.length_take]; omega, hl, fun e => by simp at e, fun y hy => u8_bd (hwz y (List.mem_of_mem_take hy)), ?_⟩, by omega⟩
      intro x' hx' j hj
      simp at hx'
      subst hx'
      rw [hcell j (by omega)]
      simp [List.getD_eq_getElem?_getD, hj]
  clear hA0 hval0
  refine (walk a0 len0 cap0 z0 a1 len1 cap1 z1 a2 len2 cap2 z2 W T w0 c0 w1 c1 w2 c2).mono fun e W' ⟨he, bel⟩ => ?_
  subst he
  exact ⟨_, rfl, _, _, _, [], _, [], hW', trodAll_mk1 (shut_bool Tryd.underlying4 _), (trodAll_cons_mk (Below.trod laidOut (by kernel_rfl) (of_decide_eq_true (by kernel_rfl)) k0 bel lt0) (trodAll_cons_mk (Below.trod laidOut (by kernel_rfl) (of_decide_eq_true (by kernel_rfl)) k1 bel lt1) (trodAll_cons_mk (Below.trod laidOut (by kernel_rfl) (of_decide_eq_true (by kernel_rfl)) k2 bel lt2) trodAll_mk0))), rfl, bel.frame _, fun h => by cases h⟩

theorem over : Rows.CheckLinearSaid :=
  OpenClaim.holds_of_wide 5 Tryd.f5 rfl rfl rfl rfl rfl rfl rfl ⟨rfl, rfl, rfl, rfl, rfl⟩ rfl rfl rfl rfl rfl (by kernel_rfl) Tryd.func5 (by kernel_rfl)
    (of_decide_eq_true (by kernel_rfl)) (by unfold Func.isWrapper; first | (rw [if_pos (by decide +kernel)]; kernel_rfl) | (rw [if_neg (by decide +kernel)]; exact ⟨rfl, rfl⟩))
    (fun os started H enc _ => lifted os started H enc)

/-! ### The card: the variable tied to the program's text -/
theorem carded : Rows.CheckLinearCardSaid :=
  Claim7.holds_tied_plain_at .later [] [.data] true (true, "40d5f0ef3f12d080f7ce7cc35634a6a997fe202c446ccbe160747d56026b5374") false
    over (fun _ h => by cases h) (by kernel_rfl) (fun _ h => by cases h) checkLinear_row_tie rfl ⟨rfl, rfl⟩ (by kernel_rfl) rfl
    (fun f fn hf hfn => by
      obtain rfl : f = 5 := Option.some.inj ((show Tryd.prog.funcNamed "moraine/morainelaw02.CheckLinear" = some 5 by kernel_rfl).symm.trans hf) |>.symm
      obtain rfl : fn = Tryd.f5 := (Option.some.inj (Tryd.func5.symm.trans hfn)).symm
      exact ⟨by kernel_rfl, fun j t ht => by
        rw [Tryd.params5] at ht
        have hm : t ∈ [22] := by
          have := Array.mem_of_getElem? ht
          simp at this ⊢
          omega
        have hall : ([22].all fun u => !Tryd.prog.wantsStandIn u) = true := by kernel_rfl
        exact (show Tryd.prog.wantsStandIn t = false by simpa using List.all_eq_true.1 hall t hm)⟩)
    (by kernel_rfl)
end Go.Proofs.YtkgmdhldongloabDoor.checkLinear
namespace Go.Proofs.YtkgmdhldongloabDoor
theorem checkLinear_holds : Rows.CheckLinearCardSaid := checkLinear.carded
#print axioms checkLinear_holds
end Go.Proofs.YtkgmdhldongloabDoor

/- Contracts of the calls that sum bytes by the table of half bytes: what each returns, for all arguments, and that memory stays as it was. -/
import Derived.Test.YtgkoopciajjonaaDoorRows
import Derived.WalkKit
import Derived.ProofKit
import Derived.OpenShut
import Derived.WalkSpells
import Derived.WalkLawsBesides
import Derived.Test.YtgkoopciajjonaaDoorJm
namespace Go.Proofs.YtgkoopciajjonaaDoor.Ck
open Go.ChangeShapes Go.WideShapes Go.ChangeAt Go.RowKit
open Go.Proofs.YtgkoopciajjonaaDoor.Crc
open Go.Proofs.YtgkoopciajjonaaDoor.Jm (mask plus plus_i ks)
set_option linter.unusedVariables false

theorem hid {p : Prop} (h : p) : Hid p := h
theorem ret_int {k : IntKind} {a b : Int} (h : a = b) : Ending.returned (.int k a) = .returned (.int k b) := by rw [h]
theorem addr_add (b off n : Nat) : (⟨b, off, none⟩ : Addr).add n = ⟨b, off + n, none⟩ := by
  unfold Addr.add; split <;> simp_all

/-- A slice of bytes that can be read: its bytes are 'zs'. -/
def Bytes (w : World) (a : Option Addr) (len cap : Nat) (zs : List Int) : Prop :=
  zs.length = len ∧ len ≤ cap ∧ (a = none → len = 0 ∧ cap = 0) ∧ (∀ y ∈ zs, 0 ≤ y ∧ y ≤ 255) ∧ (∀ x, a = some x → ∀ i, i < len → w.cell? (x.add i) = some (.int .u8 (zs.getD i 0)))
theorem info5 : (Tryd.prog.info? 5).map (fun i => (i.zero, i.size, i.bytes)) = some (some (.int .u8 0), 1, 1) := by kernel_rfl
theorem grown_trans {a b c : World} {row : Option Nat} (h : a.grownBy b row) (k : b.grownBy c row) : a.grownBy c row :=
  ⟨k.os.trans h.os, k.tape.trans h.tape, k.output.trans h.output, Nat.le_trans h.size k.size, fun j hj hne => (k.block j (Nat.lt_of_lt_of_le hj h.size) hne).trans (h.block j hj hne)⟩
theorem grown_none {a b : World} {row : Option Nat} (h : a.grownBy b none) : a.grownBy b row :=
  ⟨h.os, h.tape, h.output, h.size, fun j hj hne => h.block j hj (by simp)⟩
theorem grown_below {a b : World} {row : Option Nat} (h : a.grownBy b row) (hr : ∀ k, row = some k → a.heap.size ≤ k) : Below a.heap.size a b :=
  (Below.refl _ _).grown h (Nat.le_refl _) hr

/-- A row of bytes of the call's own: block g, n bytes, room for cap. -/
def Row (w : World) (base g n cap : Nat) (xs : List Int) : Prop :=
  w.ownsRow base 5 1 (.slice (some ⟨g, 0, none⟩) n cap) n (xs.map (Value.int .u8))

theorem one_cell (xs : List Int) : ∀ u ∈ xs.map (Value.int .u8), u.oneCell' = true := by
  intro u hu
  obtain ⟨x, _, rfl⟩ := List.mem_map.1 hu
  rfl

theorem Row.len {w : World} {base g n cap : Nat} {xs : List Int} (h : Row w base g n cap xs) : xs.length = n := by
  have := h.1; simpa using this
theorem Row.cell {w : World} {base g n cap : Nat} {xs : List Int} (h : Row w base g n cap xs) (i : Nat) (hi : i < n) : w.cell? ⟨g, i, none⟩ = some (.int .u8 (xs.getD i 0)) := by
  have hl := h.len
  rw [World.ownsRow.cellAt h i (by omega), List.getElem?_map, List.getD_eq_getElem?_getD, List.getElem?_eq_getElem (by omega)]
  rfl
theorem Row.bytes {w : World} {base g n cap : Nat} {xs : List Int} (h : Row w base g n cap xs) (hb : ∀ y ∈ xs, 0 ≤ y ∧ y ≤ 255) : Bytes w (some ⟨g, 0, none⟩) n cap xs := by
  refine ⟨h.len, ?_, fun e => by simp at e, hb, ?_⟩
  · rcases h.2 with ⟨e, _⟩ | ⟨g', cap', cur, e, _, _, hn, _⟩
    · simp at e
    · simp at e; omega
  · intro x hx i hi
    simp at hx
    subst hx
    rw [addr_add, Nat.zero_add]
    exact h.cell i hi
theorem Row.lt {w : World} {base g n cap : Nat} {xs : List Int} (h : Row w base g n cap xs) : base ≤ g ∧ g < w.heap.size := World.ownsRow.lt h g rfl
theorem Row.alloc {w : World} {base g n cap : Nat} {xs : List Int} (h : Row w base g n cap xs) (o : Obj) : Row (w.alloc o) base g n cap xs := World.ownsRow.alloc h o
theorem Row.kept {w w' : World} {base g n cap : Nat} {xs : List Int} {row : Option Nat} (h : Row w base g n cap xs) (k : w.grownBy w' row) (hne : row ≠ some g) : Row w' base g n cap xs :=
  World.ownsRow.kept h k (.inr (by simpa [Value.ownBlock] using Ne.symm hne))

theorem bytes_later {w w' : World} {a : Option Addr} {len cap : Nat} {zs : List Int} (H : Bytes w a len cap zs) (hb : Below w.heap.size w w') :
    (a = none → len = 0 ∧ cap = 0) ∧ ∀ ad, a = some ad → ∀ j u, (zs.map (Value.int .u8))[j]? = some u → w'.cell? (ad.add j) = some u := by
  refine ⟨H.2.2.1, ?_⟩
  intro ad had j u hu
  rw [List.getElem?_map] at hu
  cases hj : zs[j]? with
  | none => rw [hj] at hu; simp at hu
  | some y =>
    rw [hj] at hu
    simp at hu
    have hlt : j < zs.length := (List.getElem?_eq_some_iff.1 hj).1
    have := H.2.2.2.2 ad had j (by rw [← H.1]; exact hlt)
    rw [List.getD_eq_getElem?_getD, hj] at this
    rw [← hu]
    exact cell_later hb this

/-! ### Bytes as a string -/
def str (ns : List Int) : ByteArray := ns.foldl (fun r n => r.push (UInt8.ofNat n.toNat)) ByteArray.empty
theorem nil_bytes (w : World) : Bytes w none 0 0 [] := ⟨rfl, Nat.le_refl _, fun _ => ⟨rfl, rfl⟩, by simp, by simp⟩
theorem conv_run (W : World) (a : Option Addr) (len cap : Nat) (zs : List Int) (hz : zs.length = len) (hn : a = none → len = 0 ∧ cap = 0)
    (hc : ∀ x, a = some x → ∀ i, i < len → W.cell? (x.add i) = some (.int .u8 (zs.getD i 0))) :
    Sem.run Tryd.prog (convert 31 9 (.slice a len cap)) W = .ok (.string (str zs)) W := by
  rw [run_convert_bytes_string W 31 9 5 a len cap Tryd.underlying31 Tryd.underlying5 Tryd.underlying9]
  cases a with
  | none =>
    obtain ⟨rfl, rfl⟩ := hn rfl
    have : zs = [] := List.eq_nil_of_length_eq_zero hz
    subst this
    rfl
  | some x =>
    have h := run_loadCells_list (P := Tryd.prog) (w := W) x (zs.map (Value.int .u8)) (by
      intro j u hu
      rw [List.getElem?_map] at hu
      cases hj : zs[j]? with
      | none => rw [hj] at hu; simp at hu
      | some y =>
        rw [hj] at hu
        simp at hu
        have hlt : j < zs.length := (List.getElem?_eq_some_iff.1 hj).1
        have := hc x rfl j (by omega)
        rw [List.getD_eq_getElem?_getD, hj] at this
        rw [← hu]
        exact this)
    simp only [List.length_map, hz] at h
    exact run_bytesToString W x len cap zs h
theorem Bytes.conv {W : World} {a : Option Addr} {len cap : Nat} {zs : List Int} (H : Bytes W a len cap zs) :
    Sem.run Tryd.prog (convert 31 9 (.slice a len cap)) W = .ok (.string (str zs)) W := conv_run W a len cap zs H.1 H.2.2.1 H.2.2.2.2
theorem Row.conv {W : World} {base g n cap : Nat} {xs : List Int} (h : Row W base g n cap xs) :
    Sem.run Tryd.prog (convert 31 9 (.slice (some ⟨g, 0, none⟩) n cap)) W = .ok (.string (str xs)) W :=
  conv_run W _ n cap xs h.len (fun e => by simp at e) (fun x hx i hi => by simp at hx; subst hx; rw [addr_add, Nat.zero_add]; exact h.cell i hi)
theorem bytes_kept {W W' : World} {a : Option Addr} {len cap : Nat} {zs : List Int} (H : Bytes W a len cap zs) (hb : Below W.heap.size W W') : Bytes W' a len cap zs :=
  ⟨H.1, H.2.1, H.2.2.1, H.2.2.2.1, fun x hx i hi => cell_later hb (H.2.2.2.2 x hx i hi)⟩
theorem bytes_take {W : World} {a : Option Addr} {len cap : Nat} {zs : List Int} (H : Bytes W a len cap zs) (m : Nat) (hm : m ≤ len) (ha : a = none → m = 0) : Bytes W a m cap (zs.take m) := by
  refine ⟨by rw [List.length_take, H.1]; omega, by have := H.2.1; omega, fun e => ⟨ha e, (H.2.2.1 e).2⟩, fun y hy => H.2.2.2.1 y (List.mem_of_mem_take hy), ?_⟩
  intro x hx i hi
  rw [H.2.2.2.2 x hx i (by omega)]
  simp [List.getD_eq_getElem?_getD, hi]
/-- The table of half bytes lies where the program lays it. -/
def Tab (w : World) : Prop := ∀ i, i < 16 → w.cell? ⟨0, i, none⟩ = some (.int .u32 (toI (shiftZ 4 (BitVec.ofNat 32 i))))

theorem and15 (x : BitVec 32) : bits .and .u32 (toI x) 15 = ((x.toNat % 16 : Nat) : Int) := by
  have h : (15 : Int) = toI 15#32 := by decide
  rw [h, and_i]
  unfold toI
  rw [BitVec.toNat_and]
  have e : (15#32).toNat = 2 ^ 4 - 1 := by decide
  rw [e, Nat.and_two_pow_sub_one_eq_mod]
theorem half (x : BitVec 32) : bits .xor .u32 (toI (shiftZ 4 (BitVec.ofNat 32 (x.toNat % 16)))) (toI x / 16) = toI (shiftZ 4 x) := by
  have h : toI x / (16 : Int) = toI (x >>> 4) := shr_i x 4
  rw [h, xor_i, BitVec.xor_comm]
  congr 1
  exact (shiftZ_split 4 (by omega) x).symm

set_option maxRecDepth 100000 in
theorem afterNought_any (x : BitVec 32) (w : World) (T : Hid (Tab w)) : Calls Tryd.prog 54 #[.int .u32 (toI x)] w fun e w' => e = .returned (.int .u32 (toI (shiftZ 8 x))) ∧ w' = w := by
  obtain ⟨y, hy⟩ : ∃ y, y = shiftZ 4 x := ⟨_, rfl⟩
  have A1 := and15 x
  have A2 := and15 y
  have C1 := T.out (x.toNat % 16) (Nat.mod_lt _ (by omega))
  have C2 := T.out (y.toNat % 16) (Nat.mod_lt _ (by omega))
  have B1 : x.toNat % 16 < 16 := Nat.mod_lt _ (by omega)
  have B2 : y.toNat % 16 < 16 := Nat.mod_lt _ (by omega)
  have E1 := half x
  rw [← hy] at E1
  have E2 : bits .xor .u32 (toI (shiftZ 4 (BitVec.ofNat 32 (y.toNat % 16)))) (toI y / 16) = toI (shiftZ 8 x) := by
    rw [half y, hy, ← shiftZ_add]
  clear hy
  generalize shiftZ 4 (BitVec.ofNat 32 (x.toNat % 16)) = p at C1 E1
  generalize shiftZ 4 (BitVec.ofNat 32 (y.toNat % 16)) = q at C2 E2
  generalize x.toNat % 16 = i at A1 C1 B1
  generalize y.toNat % 16 = j at A2 C2 B2
  generalize shiftZ 8 x = z at E2
  go_enter Tryd.func54, Tryd.ntmps54
  go_wp2
  refine wp_loop_rounds 3 ?_
  rw [rounds_succ]
  go_wp2
  rw [rounds_succ]
  go_wp2
  rw [rounds_succ]
  go_wp2
  go_ret
  exact ⟨rfl, rfl⟩

theorem val_bits8 (y : Int) (h : 0 ≤ y ∧ y ≤ 255) : val (bits8 y) = y.toNat := by
  have := val8 y.toNat (by omega) []
  rw [List.append_nil, Int.toNat_of_nonneg h.1] at this
  rw [this]; simp [val]
/-- A byte laid into the register, and eight noughts: the byte is taken. -/
theorem byte_step (x : BitVec 32) (y : Int) (h : 0 ≤ y ∧ y ≤ 255) : shiftZ 8 (x ^^^ BitVec.ofNat 32 y.toNat) = overB x (bits8 y) := by
  have := overB_val (bits8 y) x (by simp [bits8])
  rw [this, val_bits8 y h]
  rfl
theorem xor_byte (x : BitVec 32) (y : Int) (h : 0 ≤ y ∧ y ≤ 255) : bits .xor .u32 (toI x) y = toI (x ^^^ BitVec.ofNat 32 y.toNat) := by
  have e : y = toI (BitVec.ofNat 32 y.toNat) := by
    unfold toI; rw [BitVec.toNat_ofNat]; omega
  rw [← xor_i, ← e]
theorem over_take (x : BitVec 32) (zs : List Int) (k : Nat) (hk : k < zs.length) : over x (zs.take (k + 1)) = overB (over x (zs.take k)) (bits8 (zs.getD k 0)) := by
  rw [List.take_add_one, List.getElem?_eq_getElem hk, List.getD_eq_getElem?_getD, List.getElem?_eq_getElem hk]
  rw [show (some zs[k]).toList = [zs[k]] from rfl, over_append]
  unfold over
  simp [bitsL]

theorem not_w (x : BitVec 32) : bits .xor .u32 IntKind.u32.max (toI x) = toI (~~~x) := by
  have h : IntKind.u32.max = toI (BitVec.allOnes 32) := by decide
  rw [h, xor_i, BitVec.xor_comm, BitVec.xor_allOnes]
theorem sgn : IntKind.u32.signed = false := rfl

set_option maxHeartbeats 1000000 in
theorem extended_any (x : BitVec 32) (a : Option Addr) (len cap : Nat) (zs : List Int) (w : World) (T : Hid (Tab w)) (H : Bytes w a len cap zs) (hm : len ≤ 281474976710656) :
    Calls Tryd.prog 52 #[.int .u32 (toI x), .slice a len cap] w fun e w' => e = .returned (.int .u32 (toI (extend x zs))) ∧ w' = w := by
  have HH : Hid (Bytes w a len cap zs) := H
  have N := not_w x
  have S := sgn
  clear H
  go_enter Tryd.func52, Tryd.ntmps52
  go_wp2
  clear N
  go_loop [5, 11] (fun r i => ∃ k : Nat, k ≤ len ∧ i = .int .i64 k ∧ r = .int .u32 (toI (over (~~~x) (zs.take k)))) (fun _ i => len - (intOf i).toNat)
  case atStart => exact ⟨0, Nat.zero_le _, rfl, rfl⟩
  case round =>
    obtain ⟨k, hk, rfl, rfl⟩ := hrel
    by_cases hlt : k < len
    · have hzl := HH.out.1
      obtain ⟨ad, rfl⟩ : ∃ ad, a = some ad := by
        cases a with
        | none => have := (HH.out.2.2.1 rfl).1; omega
        | some ad => exact ⟨ad, rfl⟩
      have C := HH.out.2.2.2.2 ad rfl k hlt
      have hb : 0 ≤ zs.getD k 0 ∧ zs.getD k 0 ≤ 255 := by
        rw [List.getD_eq_getElem?_getD, List.getElem?_eq_getElem (by omega)]
        exact HH.out.2.2.2.1 _ (List.getElem_mem _)
      have E : Hid (shiftZ 8 (over (~~~x) (zs.take k) ^^^ BitVec.ofNat 32 (zs.getD k 0).toNat) = over (~~~x) (zs.take (k + 1))) := by
        show _ = _
        rw [byte_step _ _ hb, over_take _ _ _ (by omega)]
      have X : Hid (bits .xor .u32 (toI (over (~~~x) (zs.take k))) (zs.getD k 0) = toI (over (~~~x) (zs.take k) ^^^ BitVec.ofNat 32 (zs.getD k 0).toNat)) := xor_byte _ _ hb
      generalize over (~~~x) (zs.take k) = r0 at E X ⊢
      obtain ⟨r1, hr1⟩ : ∃ r1, Hid (r1 = over (~~~x) (zs.take (k + 1))) := ⟨_, rfl⟩
      rw [← hr1.out] at E
      generalize zs.getD k 0 = y at C hb E X
      go_wp2_with fail
      rw [X.out]
      refine (afterNought_any _ _ T).mono ?_
      rintro e w' ⟨rfl, rfl⟩
      rw [E.out]
      go_wp2_with fail
      go_round
      case rel => exact ⟨k + 1, by omega, by go_num, by rw [hr1.out]⟩
      case measure => simp [intOf]; omega
    · have : k = len := by omega
      subst this
      have hz : zs.take k = zs := List.take_of_length_le (by rw [HH.out.1]; exact Nat.le_refl _)
      rw [hz]
      have N := not_w (over (~~~x) zs)
      go_wp2
      go_ret
      exact ⟨rfl, rfl⟩

theorem Extend_any (x : BitVec 32) (a : Option Addr) (len cap : Nat) (zs : List Int) (w : World) (T : Hid (Tab w)) (H : Bytes w a len cap zs) (hm : len ≤ 281474976710656) :
    Calls Tryd.prog 48 #[.int .u32 (toI x), .slice a len cap] w fun e w' => e = .returned (.int .u32 (toI (extend x zs))) ∧ w' = w := by
  have HH : Hid (Bytes w a len cap zs) := H
  clear H
  go_enter Tryd.func48, Tryd.ntmps48
  go_wp2_with fail
  refine (extended_any x a len cap zs _ T HH.out hm).mono ?_
  rintro e w' ⟨rfl, rfl⟩
  go_wp2
  go_ret
  exact ⟨rfl, rfl⟩
theorem zero_i : (0 : Int) = toI 0#32 := by decide
theorem extend0 (zs : List Int) : extend 0#32 zs = sum zs := rfl
theorem Sum_any (a : Option Addr) (len cap : Nat) (zs : List Int) (w : World) (T : Hid (Tab w)) (H : Bytes w a len cap zs) (hm : len ≤ 281474976710656) :
    Calls Tryd.prog 49 #[.slice a len cap] w fun e w' => e = .returned (.int .u32 (toI (sum zs))) ∧ w' = w := by
  have HH : Hid (Bytes w a len cap zs) := H
  clear H
  go_enter Tryd.func49, Tryd.ntmps49
  go_wp2_with fail
  have K := Extend_any 0#32 a len cap zs w T HH.out hm
  rw [← zero_i, extend0] at K
  refine K.mono ?_
  rintro e w' ⟨rfl, rfl⟩
  go_wp2
  go_ret
  exact ⟨rfl, rfl⟩

/-! ### The mask -/
theorem shr15 (x : BitVec 32) : toI x / (32768 : Int) = toI (x >>> 15) := shr_i x 15
theorem shl17 (x : BitVec 32) : toI x * (131072 : Int) % (4294967296 : Int) = toI (x <<< 17) := by
  have := shl_i x 17; rw [wrap_u32] at this; exact this
theorem add_m (x y : BitVec 32) : (toI x + toI y) % (4294967296 : Int) = toI (x + y) := by
  have := add_i x y; rw [wrap_u32] at this; exact this
theorem rotr_any (x : BitVec 32) (w : World) : Calls Tryd.prog 51 #[.int .u32 (toI x), .int .i64 (-15)] w fun e w' => e = .returned (.int .u32 (toI (rotr x))) ∧ w' = w := by
  have E : Hid (bits .or .u32 (toI x * 131072 % 4294967296) (toI x / 32768) = toI (rotr x)) := by
    show _ = _
    rw [shl17, shr15, or_i, BitVec.or_comm]; rfl
  have A : bits .and .u64 (IntKind.u64.wrap (-15)) 31 = 17 := by decide
  go_enter Tryd.func51, Tryd.ntmps51
  go_wp2
  go_ret
  exact ⟨ret_int E.out, rfl⟩
theorem mask_any (x : BitVec 32) (w : World) : Calls Tryd.prog 47 #[.int .u32 (toI x)] w fun e w' => e = .returned (.int .u32 (toI (mask x))) ∧ w' = w := by
  have E : Hid ((toI (rotr x) + 2726488792) % 4294967296 = toI (mask x)) := by
    show _ = _
    rw [plus_i, add_m]; rfl
  go_enter Tryd.func47, Tryd.ntmps47
  go_wp2_with fail
  refine (rotr_any x _).mono ?_
  rintro e w' ⟨rfl, rfl⟩
  go_wp2
  go_ret
  exact ⟨ret_int E.out, rfl⟩
theorem tab_later {w w' : World} (T : Hid (Tab w)) (hb : Below w.heap.size w w') : Hid (Tab w') := fun i hi => cell_later hb (T.out i hi)
end Go.Proofs.YtgkoopciajjonaaDoor.Ck

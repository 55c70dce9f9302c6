/- Proved: for all bytes, every place and every word of bits to be turned from there on, CheckBursts returns true: the sum turns just where a bit is turned. The listed variable (the table of half bytes) is tied to the program's text. -/
import Derived.Test.YtkgmdhldongloabDoorWk
import Derived.Test.YtkgmdhldongloabDoorBu
import Derived.RegionTactic
import Derived.BigRegion
import Derived.Test.YtkgmdhldongloabDoorLd
import Derived.Test.YtkgmdhldongloabDoorCards
import Derived.Test.YtkgmdhldongloabDoorTie
import Derived.SevenTiedAt
import Derived.ShutString
import Derived.ChangeOld
import Derived.Below
import Derived.SizedLaws
import Derived.Deep.RegionWith
namespace Go.Proofs.YtkgmdhldongloabDoor.checkBursts
open Go.ChangeShapes Go.WideShapes Go.ChangeAt Go.RowKit
open Go.ChangeMaps (open_string shut_string)
open Go.Proofs.YtkgmdhldongloabDoor.Crc
open Go.Proofs.YtkgmdhldongloabDoor.Ck
open Go.Proofs.YtkgmdhldongloabDoor.Wk
set_option linter.unusedVariables false
theorem bu32 {v : Int} (h : (Lit.int .u32 v).wf = true) : 0 ≤ v ∧ v ≤ 4294967295 := by
  simpa [Lit.wf, IntKind.min, IntKind.max, IntKind.signed, IntKind.bits] using h
theorem bit_k (x : BitVec 32) (k : Nat) : bits .and .u32 (toI x / 2 ^ k) 1 = if x.getLsbD k = true then 1 else 0 := by
  rw [shr_i, show (1 : Int) = toI 1#32 from by decide, and_i]
  have : (x >>> k) &&& 1#32 = if x.getLsbD k = true then 1#32 else 0#32 := by
    rw [BitVec.and_one_eq_setWidth_ofBool_getLsbD, BitVec.getLsbD_ushiftRight, Nat.add_zero]
    cases x.getLsbD k <;> rfl
  rw [this]
  split <;> rfl

theorem xor_u8 (y : Int) (m : Nat) (hy : 0 ≤ y ∧ y ≤ 255) (hm : m < 8) : bits .xor .u8 y (2 ^ m % 256) = ((y.toNat ^^^ 2 ^ m : Nat) : Int) := by
  have hp := Bu.pow_lt8 m hm
  have e1 : ((2 : Int) ^ m % 256) = ((2 ^ m : Nat) : Int) := by
    have : ((2 : Int) ^ m) = ((2 ^ m : Nat) : Int) := by simp
    rw [this]
    generalize 2 ^ m = P at hp
    omega
  have e2 : y = ((y.toNat : Nat) : Int) := by omega
  rw [e1]
  show IntKind.u8.wrap ((BitVec.ofInt 8 y ^^^ BitVec.ofInt 8 ((2 ^ m : Nat) : Int)).toNat : Int) = _
  rw [e2, BitVec.ofInt_natCast, BitVec.ofInt_natCast, BitVec.toNat_xor, BitVec.toNat_ofNat, BitVec.toNat_ofNat, Nat.mod_eq_of_lt (by omega), Nat.mod_eq_of_lt hp]
  have := Nat.xor_lt_two_pow (show y.toNat < 2 ^ 8 by omega) hp
  simp only [IntKind.wrap, IntKind.signed, IntKind.bits, Bool.false_and, Bool.false_eq_true, if_false, Int.toNat_natCast]
  omega
theorem row_set {w : World} {base g n c : Nat} {xs : List Int} (h : Row w base g n c xs) (k : Nat) (v : Int) : Row (w.setCell ⟨g, k, none⟩ (.int .u8 v)) base g n c (xs.set k v) ∧ w.grownBy (w.setCell ⟨g, k, none⟩ (.int .u8 v)) (some g) := by
  have := World.ownsRow.stored h k (.int .u8 v)
  refine ⟨?_, this.2⟩
  unfold Row
  rw [List.map_set]
  exact this.1

theorem ret_bool {a b : Bool} (h : a = b) : Ending.returned (.bool a) = .returned (.bool b) := by rw [h]
theorem told_end {p q : BitVec 32} {tb : Bool} (h : p = q ↔ tb = false) : ((toI p != toI q) == tb) = true := by
  cases tb
  · have : p = q := h.2 rfl
    subst this; simp
  · have : ¬ p = q := fun e => by have := h.1 e; simp at this
    have h2 : toI p ≠ toI q := fun e => this (toI_inj _ _ e)
    simp [h2]

set_option maxHeartbeats 4000000 in
set_option maxRecDepth 100000 in
theorem bursts (ad : Addr) (len0 cap0 : Nat) (z0 : List Int) (a1 : Int) (x : BitVec 32) (w : World) (T : Hid (Tab w)) (w0 : Bytes w (some ad) len0 cap0 z0) (hpos : 0 < len0) (c0 : cap0 ≤ 140737488351232) :
    Calls Tryd.prog 4 #[.slice (some ad) len0 cap0, .int .i64 a1, .int .u32 (toI x)] w fun e w' => e = .returned (.bool true) ∧ Below w.heap.size w w' := by
  obtain ⟨i0, hi, hz0, hz1, hz2⟩ := info_parts info5
  have HH : Hid (Bytes w (some ad) len0 cap0 z0) := w0
  have hl : len0 ≤ cap0 := w0.2.1
  obtain ⟨A, hA⟩ : ∃ A : Nat, a1 % (8 * (len0 : Int)) = A := ⟨(a1 % (8 * (len0 : Int))).toNat, by have := Int.emod_nonneg a1 (show 8 * (len0 : Int) ≠ 0 by omega); omega⟩
  have hA2 : A < 8 * len0 := by have := Int.emod_lt_of_pos a1 (show 0 < 8 * (len0 : Int) by omega); omega
  have HA : Hid (a1 % (8 * (len0 : Int)) = A) := hA
  clear w0 hA
  go_enter Tryd.func4, Tryd.ntmps4
  go_wp2_with fail
  refine (works_any _ T).mono ?_
  rintro e w1 ⟨rfl, b1⟩
  have B1 : Hid (Below w.heap.size w w1) := b1
  have T1 : Hid (Tab w1) := tab_later T b1
  have H1 : Hid (Bytes w1 (some ad) len0 cap0 z0) := bytes_kept HH.out b1
  clear b1 T HH
  go_wp2_with fail
  refine (among_any a1 (8 * len0) _ (by omega) (by omega)).mono ?_
  rintro e w1 ⟨rfl, rfl⟩
  rw [HA.out]
  have hlen : (z0.map (Value.int .u8)).length = len0 * 1 := by simp; exact H1.out.1
  have own0 : (w1.alloc (.cells #[] 5)).ownsRow w1.heap.size 5 1 (.slice (some ⟨w1.heap.size, 0, none⟩) 0 0) 0 [] := World.ownsRow_made w1 #[] 0 (Nat.le_refl _) (by unfold maxLen; omega) rfl
  have BL := (bytes_later H1.out ((Below.refl w1.heap.size w1).alloc (Nat.le_refl _) (.cells #[] 5))).2 ad rfl
  go_wp2_with (at_builtin; refine wpList_append_own _ rfl _ _ 22 rfl w1.heap.size 5 i0 (.int .u8 0) 1 1 Tryd.underlying22 hi hz0 hz1 hz2 rfl (by decide) _ _ _ rfl own0 ad len0 cap0 (z0.map (Value.int .u8)) rfl hlen BL (one_cell z0) ?c3 ?c4 ?c5 ?_)
  case c3 => unfold maxLen; omega
  case c4 => omega
  case c5 => simp
  intro v1 w2 own1 g1 hnil1
  obtain ⟨g, c, hv1⟩ : ∃ g c, v1 = .slice (some ⟨g, 0, none⟩) len0 c := by
    rcases own1.2 with ⟨h, _⟩ | ⟨g, c, _, h, _⟩
    · exact absurd h (by simpa using hnil1)
    · exact ⟨g, c, by simpa using h⟩
  subst hv1
  have hlc : len0 ≤ c := by
    rcases own1.2 with ⟨h, h'⟩ | ⟨g, c, _, h, _, _, hn, _⟩
    · omega
    · simp at h; omega
  have R2 : Hid (Row w2 w1.heap.size g len0 c z0) := by show Row _ _ _ _ _ _; unfold Row; simpa using own1
  have b2 : Below w1.heap.size w1 w2 := by
    have b0 : Below w1.heap.size w1 (w1.alloc (.cells #[] 5)) := (Below.refl _ _).alloc (Nat.le_refl _) _
    exact b0.grown g1 b0.size (by intro k hk; simp [Value.ownBlock] at hk; omega)
  have B2 : Hid (Below w1.heap.size w1 w2) := b2
  clear own1 g1 hnil1 BL own0 hlen b2
  go_wp2_with fail
  go_loopw [8, 9] (fun t i wr => ∃ k : Nat, ∃ xs : List Int, k ≤ 32 ∧ A + k ≤ 8 * len0 ∧ i = .int .i64 k ∧ t = .bool ((Bu.fb x k).any id) ∧ Hid (Bu.Inv x A k z0 xs) ∧ Hid (Row wr w1.heap.size g len0 c xs) ∧ Hid (Below w1.heap.size w1 wr)) (fun _ i _ => 32 - (intOf i).toNat)
  case atStart => exact ⟨0, z0, by omega, by omega, rfl, rfl, Bu.inv0 _ _ _ H1.out.2.2.2.1, R2, B2⟩
  case round =>
    obtain ⟨k, xs, hk, hkl, rfl, rfl, hinv, hrow, hbel⟩ := hrel
    by_cases h : k < 32 ∧ A + k < 8 * len0
    · obtain ⟨h32, hin⟩ := h
      have BK := bit_k x k
      cases hf : x.getLsbD k
      · rw [hf] at BK
        simp only [Bool.false_eq_true, if_false] at BK
        have INV : Hid (Bu.Inv x A (k + 1) z0 xs) := Bu.inv_no x A k z0 xs hinv.out hf
        clear hinv
        go_wp2_with fail
        go_roundw
        case rel => exact ⟨k + 1, xs, by omega, by omega, by go_num, by rw [Bu.any_no x k hf], INV, hrow, hbel⟩
        case measure => simp [intOf]; omega
      · rw [hf] at BK
        simp only [if_true] at BK
        have hcell := hrow.out.cell ((A + k) / 8) (by omega)
        have hfz : wr.frozen? ⟨g, (A + k) / 8, none⟩ = false := World.ownsRow.frozenAt hrow.out ((A + k) / 8)
        obtain ⟨J, hJ⟩ : ∃ J, J = (A + k) / 8 := ⟨_, rfl⟩
        obtain ⟨m, hm⟩ : ∃ m, m = (A + k) % 8 := ⟨_, rfl⟩
        rw [← hJ] at hcell hfz
        have q1 : ((A : Int) + (k : Int)) / 8 = (J : Int) := by omega
        have q2 : ((A : Int) + (k : Int)) % 8 = (m : Int) := by omega
        have hJl : J < len0 := by omega
        have hm8 : m < 8 := by omega
        obtain ⟨y, HY⟩ : ∃ y, Hid (y = xs.getD J 0) := ⟨_, rfl⟩
        rw [← HY.out] at hcell
        have HJ : Hid (J = (A + k) / 8) := hJ
        have HM : Hid (m = (A + k) % 8) := hm
        clear hJ hm
        go_wp2_with fail
        go_region
        have hyb := Bu.byte_of hinv.out.2.1 J
        have hv : bits .xor .u8 (xs.getD J 0) (2 ^ m % 256) = (((xs.getD J 0).toNat ^^^ 2 ^ m : Nat) : Int) := xor_u8 _ _ hyb hm8
        have RS := row_set hrow.out J (((xs.getD J 0).toNat ^^^ 2 ^ m : Nat) : Int)
        have INV : Hid (Bu.Inv x A (k + 1) z0 (Bu.turn xs (A + k))) := Bu.inv_yes x A k z0 xs hinv.out hf (by rw [H1.out.1]; exact hin)
        have ET : Bu.turn xs (A + k) = xs.set J (((xs.getD J 0).toNat ^^^ 2 ^ m : Nat) : Int) := by unfold Bu.turn; rw [← HJ.out, ← HM.out]
        rw [← HY.out] at hv RS ET
        rw [hv]
        rw [ET] at INV
        have R3 : Hid (Row (wr.setCell ⟨g, J, none⟩ (.int .u8 ((y.toNat ^^^ 2 ^ m : Nat) : Int))).drew w1.heap.size g len0 c (xs.set J ((y.toNat ^^^ 2 ^ m : Nat) : Int))) := World.ownsRow.drew RS.1
        have B3 : Hid (Below w1.heap.size w1 (wr.setCell ⟨g, J, none⟩ (.int .u8 ((y.toNat ^^^ 2 ^ m : Nat) : Int))).drew) := (hbel.out.grown RS.2 hbel.out.size (by intro j hj; simp at hj; have := hrow.out.lt; omega)).drew
        clear RS hv ET hyb hcell hfz q1 q2 hrow hbel hinv
        generalize (wr.setCell ⟨g, J, none⟩ (.int .u8 ((y.toNat ^^^ 2 ^ m : Nat) : Int))).drew = W3 at R3 B3 ⊢
        go_wp2_with fail
        go_roundw
        case rel => exact ⟨k + 1, _, by omega, by omega, by go_num, by rw [Bu.any_yes x k hf], INV, R3, B3⟩
        case measure => simp [intOf]; omega
    · have HT : Hid ((sum xs = sum z0) ↔ (Bu.fb x k).any id = false) := Bu.told x A k z0 xs hinv.out hk (by rw [H1.out.1]; exact hkl)
      have LX : Hid (Bytes wr (some ⟨g, 0, none⟩) len0 c xs) := hrow.out.bytes hinv.out.2.1
      have LZ : Hid (Bytes wr (some ad) len0 cap0 z0) := bytes_kept H1.out hbel.out
      have TR : Hid (Tab wr) := tab_later T1 hbel.out
      have HB : Hid (Below w.heap.size w wr) := B1.out.trans (hbel.out.mono B1.out.size)
      generalize (Bu.fb x k).any id = tb at HT ⊢
      clear hrow hinv hbel H1 T1 B1
      by_cases h2 : k < 32
      · have h3 : ¬ (A + k < 8 * len0) := fun h3 => h ⟨h2, h3⟩
        clear h
        go_wp2_with fail
        refine (Sum_any _ _ _ _ _ TR LX.out (by omega)).mono ?_
        rintro e w' ⟨rfl, rfl⟩
        go_wp2_with fail
        refine (Sum_any _ _ _ _ _ TR LZ.out (by omega)).mono ?_
        rintro e w' ⟨rfl, rfl⟩
        go_wp2_with fail
        go_ret
        exact ⟨ret_bool (told_end HT.out), HB.out⟩
      · have h3 : k = 32 := by omega
        subst h3
        clear h
        go_wp2_with fail
        refine (Sum_any _ _ _ _ _ TR LX.out (by omega)).mono ?_
        rintro e w' ⟨rfl, rfl⟩
        go_wp2_with fail
        refine (Sum_any _ _ _ _ _ TR LZ.out (by omega)).mono ?_
        rintro e w' ⟨rfl, rfl⟩
        go_wp2_with fail
        go_ret
        exact ⟨ret_bool (told_end HT.out), HB.out⟩

theorem walk (a0 : Option Addr) (len0 cap0 : Nat) (z0 : List Int) (a1 a2 : Int) (w : World) (T : Hid (Tab w)) (w0 : Bytes w a0 len0 cap0 z0) (c0 : cap0 ≤ 140737488351232) (w1 : (Lit.int .i64 a1).wf = true) (w2 : (Lit.int .u32 a2).wf = true) :
    Calls Tryd.prog 4 #[.slice a0 len0 cap0, .int .i64 a1, .int .u32 a2] w fun e w' => e = .returned (.bool true) ∧ Below w.heap.size w w' := by
  have key : ∀ x : BitVec 32, Calls Tryd.prog 4 #[.slice a0 len0 cap0, .int .i64 a1, .int .u32 (toI x)] w fun e w' => e = .returned (.bool true) ∧ Below w.heap.size w w' := by
    intro x
    by_cases hpos : 0 < len0
    · obtain ⟨ad, rfl⟩ : ∃ ad, a0 = some ad := by
        cases a0 with
        | none => have := (w0.2.2.1 rfl).1; omega
        | some ad => exact ⟨ad, rfl⟩
      exact bursts ad len0 cap0 z0 a1 x w T w0 hpos c0
    · have h0 : len0 = 0 := by omega
      subst h0
      clear w0 w1 w2 hpos
      go_enter Tryd.func4, Tryd.ntmps4
      go_wp2_with fail
      refine (works_any _ T).mono ?_
      rintro e w1 ⟨rfl, b1⟩
      have B1 : Hid (Below w.heap.size w w1) := b1
      clear b1
      go_wp2_with fail
      go_ret
      exact ⟨rfl, B1.out⟩
  have := key (BitVec.ofInt 32 a2)
  rwa [toI_ofI a2 (bu32 w2)] at this

theorem own : ownKnob Tryd.prog.godebug = none := by kernel_rfl
theorem laidOut : laidOutB Tryd.prog = true := by kernel_rfl
theorem bytes5 : Tryd.prog.bytesOf 5 = 1 := by kernel_rfl
theorem u8_bd {y : Int} (h : (Lit.int .u8 y).wf = true) : 0 ≤ y ∧ y ≤ 255 := by
  simpa [Lit.wf, IntKind.min, IntKind.max, IntKind.signed, IntKind.bits] using h

/-! ### The row's step -/
set_option maxRecDepth 100000 in
theorem lifted (os : Os) (started : os.Started) (H : Type) (enc : TypeId × Value → H) :
    ReturnsInHanded {} Tryd.checked os 4 .any (fun w args => (Rows.checkBurstsSpec.pre enc Tryd.prog Tryd.f4 [] false w args ∧ laidMetH Tryd.prog Ld.laid w) ∧ sizedMet enc Tryd.prog Tryd.f4 (OpenSpec.ofChange Rows.checkBurstsSpec) false w args)
      (Rows.checkBurstsSpec.post enc Tryd.prog Tryd.f4 false true false false) := by
  refine returnsInHanded_of_change_and (C := Tryd.checked) (X := fun w _ => laidMetH Tryd.prog Ld.laid w) (fun _ _ _ hh h => h.of_heap hh) own started (by kernel_rfl) Tryd.func4
    (ChangeSpec.witness_shaped (enc := enc) (C := Tryd.checked) (os := os) (X := fun w _ => laidMetH Tryd.prog Ld.laid w) false (World.doorLaid Tryd.prog 400 os) #[.slice none 0 0, .int .i64 0, .int .u32 0] 8 rfl (World.shaped_of_RefB (by kernel_rfl) (by kernel_rfl)) (by kernel_rfl) (by kernel_rfl) (by kernel_rfl) (Ld.door_met os _)) ?_
  intro W base args ds gs before hval0 hW hcnd hsz0 hL _
  have T : Hid (Ck.Tab W) := Ld.tab_of hL
  have hval : ∀ (j : Nat) t v, Tryd.f4.params[j]? = some t → args[j]? = some v → Value.okWide Tryd.prog W .any base t v := hval0
  have hsz : (DataW.weightsEach Tryd.prog (Tryd.f4.params.toList ++ Rows.checkBurstsSpec.plain.varTypes Tryd.prog) (ds ++ gs)).all (· ≤ reachBytes) = true := hsz0
  have hW' := hW
  obtain ⟨p, q, hA0, hV, rfl, hfz, hnd⟩ := hW
  have hA : DataW.TrodAll enc Tryd.prog W 0 (fun _ => true) true Tryd.f4.params.toList args.toList ds p := hA0
  rw [Tryd.params4] at hA hval hsz
  obtain ⟨v0, vs0, d0, ds0, p0, q0, hargs, rfl, rfl, h0, r0⟩ := trodAll_cons hA
  obtain ⟨v1, vs1, d1, ds1, p1, q1, rfl, rfl, rfl, h1, r1⟩ := trodAll_cons r0
  obtain ⟨v2, vs2, d2, ds2, p2, q2, rfl, rfl, rfl, h2, r2⟩ := trodAll_cons r1
  obtain ⟨rfl, rfl, rfl⟩ := trodAll_nil r2
  obtain rfl : args = #[v0, v1, v2] := by cases args; simp_all
  obtain ⟨rfl, rfl⟩ := trodVars_none hV
  obtain ⟨a0, len0, cap0, rfl⟩ := okWide_slice Tryd.underlying22 (hval 0 22 v0 rfl rfl)
  have k0 := h0
  have lt0 : ∀ x ∈ p0, x.block < W.heap.size := by obtain ⟨m, hm⟩ := k0; exact DataW.trod_lt m _ _ _ hm
  obtain ⟨z0, w0, c0⟩ : ∃ zs, Ck.Bytes W a0 len0 cap0 zs ∧ cap0 ≤ 140737488351232 := by
    obtain ⟨fuel, hf⟩ := h0
    rcases open_ints Tryd.underlying22 Tryd.underlying5 (by kernel_rfl) hf with ⟨hcs, _⟩ | ⟨x, l, c, zs, hcs, _, hl, hm, hz, hx, hcell, hwz⟩
    · simp [Value.cells] at hcs
      obtain ⟨rfl, rfl, rfl⟩ := hcs
      exact ⟨[], Ck.nil_bytes W, by omega⟩
    · simp [Value.cells] at hcs
      obtain ⟨rfl, rfl, rfl⟩ := hcs
      have hd : d0 = .slice (lits .u8 (zs.take len0)) (lits .u8 (zs.drop len0)) := (Prod.mk.inj hx).1
      have hz' : zs.length = cap0 := by simpa using hz
      have sz := sized_slice hsz (j := 0) (t := 22) (e := 5) rfl (by rw [hd]; rfl) Tryd.underlying22
      rw [bytes5] at sz
      simp only [lits, List.length_map, List.length_take, List.length_drop, reachBytes] at sz
      refine ⟨zs.take len0, ⟨by rw [List.length_take]; omega, hl, fun e => by simp at e, fun y hy => u8_bd (hwz y (List.mem_of_mem_take hy)), ?_⟩, by omega⟩
      intro x' hx' j hj
      simp at hx'
      subst hx'
      rw [hcell j (by omega)]
      simp [List.getD_eq_getElem?_getD, hj]
  obtain ⟨a1, rfl, rfl, rfl, w1⟩ := open_int Tryd.underlying3 (hval 1 3 v1 rfl rfl) h1
  obtain ⟨a2, rfl, rfl, rfl, w2⟩ := open_int Tryd.underlying25 (hval 2 25 v2 rfl rfl) h2
  clear hA0 hval0
  refine (walk a0 len0 cap0 z0 a1 a2 W T w0 c0 w1 w2).mono fun e W' ⟨he, bel⟩ => ?_
  subst he
  exact ⟨_, rfl, _, _, _, [], _, [], hW', trodAll_mk1 (shut_bool Tryd.underlying4 _), (trodAll_cons_mk (Below.trod laidOut (by kernel_rfl) (of_decide_eq_true (by kernel_rfl)) k0 bel lt0) (trodAll_cons_mk (shut_int Tryd.underlying3 w1) (trodAll_cons_mk (shut_int Tryd.underlying25 w2) trodAll_mk0))), rfl, bel.frame _, fun h => by cases h⟩

theorem over : Rows.CheckBurstsSaid :=
  OpenClaim.holds_of_wide 4 Tryd.f4 rfl rfl rfl rfl rfl rfl rfl ⟨rfl, rfl, rfl, rfl, rfl⟩ rfl rfl rfl rfl rfl (by kernel_rfl) Tryd.func4 (by kernel_rfl)
    (of_decide_eq_true (by kernel_rfl)) (by unfold Func.isWrapper; first | (rw [if_pos (by decide +kernel)]; kernel_rfl) | (rw [if_neg (by decide +kernel)]; exact ⟨rfl, rfl⟩))
    (fun os started H enc _ => lifted os started H enc)

/-! ### The card: the variable tied to the program's text -/
theorem carded : Rows.CheckBurstsCardSaid :=
  Claim7.holds_tied_plain_at .later [] [.data] true (true, "40d5f0ef3f12d080f7ce7cc35634a6a997fe202c446ccbe160747d56026b5374") false
    over (fun _ h => by cases h) (by kernel_rfl) (fun _ h => by cases h) checkBursts_row_tie rfl ⟨rfl, rfl⟩ (by kernel_rfl) rfl
    (fun f fn hf hfn => by
      obtain rfl : f = 4 := Option.some.inj ((show Tryd.prog.funcNamed "moraine/morainelaw02.CheckBursts" = some 4 by kernel_rfl).symm.trans hf) |>.symm
      obtain rfl : fn = Tryd.f4 := (Option.some.inj (Tryd.func4.symm.trans hfn)).symm
      exact ⟨by kernel_rfl, fun j t ht => by
        rw [Tryd.params4] at ht
        have hm : t ∈ [22, 3, 25] := by
          have := Array.mem_of_getElem? ht
          simp at this ⊢
          omega
        have hall : ([22, 3, 25].all fun u => !Tryd.prog.wantsStandIn u) = true := by kernel_rfl
        exact (show Tryd.prog.wantsStandIn t = false by simpa using List.all_eq_true.1 hall t hm)⟩)
    (by kernel_rfl)
end Go.Proofs.YtkgmdhldongloabDoor.checkBursts
namespace Go.Proofs.YtkgmdhldongloabDoor
theorem checkBursts_holds : Rows.CheckBurstsCardSaid := checkBursts.carded
#print axioms checkBursts_holds
end Go.Proofs.YtkgmdhldongloabDoor

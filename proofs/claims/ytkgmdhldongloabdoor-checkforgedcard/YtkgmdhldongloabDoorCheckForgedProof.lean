/- Proved: for all bytes, every sum that is wanted and every other four bytes, CheckForged returns true: the four bytes that Patch tells bring the sum there, and the other four do just where they are the same. The listed variable (the table of half bytes) is tied to the program's text. -/
import Derived.Test.YtkgmdhldongloabDoorWk
import Derived.Test.YtkgmdhldongloabDoorPt
import Derived.Test.YtkgmdhldongloabDoorAp
import Derived.Test.YtkgmdhldongloabDoorLd
import Derived.Test.YtkgmdhldongloabDoorCards
import Derived.Test.YtkgmdhldongloabDoorTie
import Derived.SevenTiedAt
import Derived.ShutString
import Derived.ChangeOld
import Derived.Below
import Derived.SizedLaws
import Derived.Deep.RegionWith
namespace Go.Proofs.YtkgmdhldongloabDoor.checkForged
open Go.ChangeShapes Go.WideShapes Go.ChangeAt Go.RowKit
open Go.ChangeMaps (open_string shut_string)
open Go.Proofs.YtkgmdhldongloabDoor.Crc
open Go.Proofs.YtkgmdhldongloabDoor.Ck
open Go.Proofs.YtkgmdhldongloabDoor.Wk
open Go.Proofs.YtkgmdhldongloabDoor.Pt
open Go.Proofs.YtkgmdhldongloabDoor.Ap
set_option linter.unusedVariables false
theorem bu32 {v : Int} (h : (Lit.int .u32 v).wf = true) : 0 ≤ v ∧ v ≤ 4294967295 := by
  simpa [Lit.wf, IntKind.min, IntKind.max, IntKind.signed, IntKind.bits] using h
theorem ret_bool {a b : Bool} (h : a = b) : Ending.returned (.bool a) = .returned (.bool b) := by rw [h]

abbrev W3 (w2 : World) (other : BitVec 32) : World := w2.alloc (.cells #[.int .u8 (toI other % 256), .int .u8 (toI other / 256 % 256), .int .u8 (toI other / 65536 % 256), .int .u8 (toI other / 16777216 % 256)] 5)
/-- What stays true of every world on the way. -/
def Env (w : World) (a0 : Option Addr) (len0 cap0 : Nat) (z0 : List Int) (X other : BitVec 32) (k q : Nat) (W : World) : Prop :=
  Bytes W (some ⟨k, 0, none⟩) 4 4 (pb X) ∧ Bytes W (some ⟨q, 0, none⟩) 4 4 (pb other) ∧ Bytes W a0 len0 cap0 z0 ∧ Hid (Tab W) ∧ Below w.heap.size w W
theorem env_later {w : World} {a0 : Option Addr} {len0 cap0 : Nat} {z0 : List Int} {X other : BitVec 32} {k q : Nat} {W W' : World} (h : Env w a0 len0 cap0 z0 X other k q W) (b : Below W.heap.size W W') : Env w a0 len0 cap0 z0 X other k q W' :=
  ⟨bytes_kept h.1 b, bytes_kept h.2.1 b, bytes_kept h.2.2.1 b, tab_later h.2.2.2.1 b, h.2.2.2.2.trans (b.mono h.2.2.2.2.size)⟩
theorem other_row (w : World) (x : BitVec 32) : Bytes (w.alloc (.cells #[.int .u8 (toI x % 256), .int .u8 (toI x / 256 % 256), .int .u8 (toI x / 65536 % 256), .int .u8 (toI x / 16777216 % 256)] 5)) (some ⟨w.heap.size, 0, none⟩) 4 4 (pb x) := by
  refine ⟨rfl, by omega, fun e => by simp at e, pb_bytes x, ?_⟩
  intro y hy i hi
  simp at hy
  subst hy
  rw [addr_add]
  have e : pb x = [toI x % 256, toI x / 256 % 256, toI x / 65536 % 256, toI x / 16777216 % 256] := by simp [pb, toI]
  rw [e]
  match i, hi with
  | 0, _ | 1, _ | 2, _ | 3, _ => simp [go_sem]
theorem below_new {W w' : World} {q : Nat} (h : (W.alloc (.cells #[] 5)).grownBy w' (some q)) (hq : W.heap.size = q) : Below W.heap.size W w' := by
  have b := (Below.refl W.heap.size W).alloc (Nat.le_refl _) (.cells #[] 5)
  exact b.grown h b.size (by intro j hj; simp at hj; omega)
theorem app_bytes {zs : List Int} (h : ∀ y ∈ zs, 0 ≤ y ∧ y ≤ 255) (x : BitVec 32) : ∀ y ∈ zs ++ pb x, 0 ≤ y ∧ y ≤ 255 := by
  intro y hy
  rcases List.mem_append.1 hy with h' | h'
  · exact h y h'
  · exact pb_bytes x y h'
theorem str_data (zs : List Int) (r : ByteArray) : (zs.foldl (fun r n => r.push (UInt8.ofNat n.toNat)) r).data.toList = r.data.toList ++ zs.map (fun n => UInt8.ofNat n.toNat) := by
  induction zs generalizing r with
  | nil => simp
  | cons z t ih => simp only [List.foldl_cons]; rw [ih]; simp
theorem str_inj (xs ys : List Int) (hx : ∀ y ∈ xs, 0 ≤ y ∧ y ≤ 255) (hy : ∀ y ∈ ys, 0 ≤ y ∧ y ≤ 255) (h : str xs = str ys) : xs = ys := by
  have e := congrArg (fun b => b.data.toList) h
  simp only [str, str_data] at e
  have e2 : xs.map (fun n => UInt8.ofNat n.toNat) = ys.map (fun n => UInt8.ofNat n.toNat) := by simpa using e
  clear e h
  induction xs generalizing ys with
  | nil => cases ys with
    | nil => rfl
    | cons b u => simp at e2
  | cons a t ih => cases ys with
    | nil => simp at e2
    | cons b u =>
      simp only [List.map_cons, List.cons.injEq] at e2
      have ha := hx a (List.mem_cons_self ..)
      have hb := hy b (List.mem_cons_self ..)
      have hab : a.toNat = b.toNat := by
        have := congrArg UInt8.toNat e2.1
        simpa [UInt8.toNat_ofNat', Nat.mod_eq_of_lt (show a.toNat < 256 by omega), Nat.mod_eq_of_lt (show b.toNat < 256 by omega)] using this
      rw [ih u (fun y h => hx y (List.mem_cons_of_mem _ h)) (fun y h => hy y (List.mem_cons_of_mem _ h)) e2.2, show a = b by omega]
theorem str_like (x y : BitVec 32) : ((str (pb x)).toList == (str (pb y)).toList) = decide (y = x) := by
  by_cases h : y = x
  · subst h; simp
  · have : ¬ (str (pb x)).toList = (str (pb y)).toList := fun e => by
      rw [ByteArray.toList_eq, ByteArray.toList_eq] at e
      exact h (pb_inj _ _ (str_inj _ _ (pb_bytes x) (pb_bytes y) (ByteArray.ext (Array.ext' e)))).symm
    simp [h, this]

set_option maxHeartbeats 4000000 in
set_option maxRecDepth 100000 in
theorem forged (a0 : Option Addr) (len0 cap0 : Nat) (z0 : List Int) (want other : BitVec 32) (w : World) (T : Hid (Tab w)) (w0 : Bytes w a0 len0 cap0 z0) (c0 : cap0 ≤ 140737488351232) :
    Calls Tryd.prog 6 #[.slice a0 len0 cap0, .int .u32 (toI want), .int .u32 (toI other)] w fun e w' => e = .returned (.bool true) ∧ Below w.heap.size w w' := by
  have HH : Hid (Bytes w a0 len0 cap0 z0) := w0
  have hl : len0 ≤ cap0 := w0.2.1
  clear w0
  go_enter Tryd.func6, Tryd.ntmps6
  go_wp2_with fail
  refine (works_any _ T).mono ?_
  rintro e w1 ⟨rfl, b1⟩
  have B1 : Hid (Below w.heap.size w w1) := b1
  have T1 : Hid (Tab w1) := tab_later T b1
  have H1 : Hid (Bytes w1 a0 len0 cap0 z0) := bytes_kept HH.out b1
  clear b1 T HH
  go_wp2_with fail
  refine (Sum_any _ _ _ _ _ T1 H1.out (by omega)).mono ?_
  rintro e w1 ⟨rfl, rfl⟩
  go_wp2_with fail
  refine (Patch_any (sum z0) want _).mono ?_
  rintro e w2 ⟨rfl, R2, b2⟩
  have HR2 : Hid (Row w2 w1.heap.size w1.heap.size 4 4 (pb (word (sum z0) want))) := R2
  have B2 : Hid (Below w1.heap.size w1 w2) := b2
  clear R2 b2
  obtain ⟨X, HX⟩ : ∃ X, Hid (X = word (sum z0) want) := ⟨_, rfl⟩
  rw [← HX.out] at HR2
  obtain ⟨k, HK⟩ : ∃ k, Hid (k = w1.heap.size) := ⟨_, rfl⟩
  rw [← HK.out] at HR2 ⊢
  have ob := other_row w2 other
  have E3 : Hid (Env w a0 len0 cap0 z0 X other k w2.heap.size (W3 w2 other)) := by
    have b3 : Below w2.heap.size w2 (W3 w2 other) := (Below.refl _ _).alloc (Nat.le_refl _) _
    have bb : Below w1.heap.size w1 (W3 w2 other) := B2.out.trans (b3.mono B2.out.size)
    exact ⟨bytes_kept (HR2.out.bytes (pb_bytes X)) b3, ob, bytes_kept H1.out bb, tab_later T1 bb, B1.out.trans (bb.mono B1.out.size)⟩
  have kA := Bytes.conv E3.out.1
  have kB := Bytes.conv E3.out.2.1
  have HXW : Hid (sum (z0 ++ pb X) = want) := by show _ = _; rw [← extend_sum, pb_iff]; exact HX.out
  have HOW : Hid (sum (z0 ++ pb other) = want ↔ other = X) := by rw [← extend_sum, pb_iff, ← HX.out]; exact Iff.rfl
  have ER0 := empty_row (W3 w2 other)
  have hsz : (W3 w2 other).heap.size = w2.heap.size + 1 := by simp
  rw [hsz] at ER0
  have E4 : Hid (Env w a0 len0 cap0 z0 X other k w2.heap.size ((W3 w2 other).alloc (.cells #[] 5))) := env_later E3.out ((Below.refl _ _).alloc (Nat.le_refl _) _)
  have HS4 : Hid (((W3 w2 other).alloc (.cells #[] 5)).heap.size = w2.heap.size + 2) := by show _ = _; simp
  have HER : Hid (Row ((W3 w2 other).alloc (.cells #[] 5)) (w2.heap.size + 1) (w2.heap.size + 1) 0 0 []) := ER0
  have HS3 : Hid ((W3 w2 other).heap.size = w2.heap.size + 1) := hsz
  clear ob hsz ER0 HR2 B2 T1 H1 B1 HX
  go_wp2_with (at_builtin; refine app_own (by rfl) _ _ rfl (w2.heap.size + 1) (w2.heap.size + 1) 0 0 [] rfl HER.out a0 len0 cap0 z0 rfl E4.out.2.2.1 len0 (by omega) z0 rfl (by omega) (by rw [HS4.out]; omega) ?_)
  intro g5 c5 w5 R5 gr5
  have HR5 := hid R5
  have B5 : Hid (Below (W3 w2 other).heap.size (W3 w2 other) w5) := below_new gr5 HS3.out
  have E5 := hid (env_later E3.out B5.out)
  clear R5 gr5 HER E4 HS4 kA kB
  go_wp2_with (at_builtin; refine app_own (by rfl) _ _ rfl (w2.heap.size + 1) g5 len0 c5 z0 rfl HR5.out _ 4 4 (pb X) rfl E5.out.1 (len0 + 4) rfl (z0 ++ pb X) rfl (by omega) (by have := B5.out.size; rw [HS3.out] at this; exact this) ?_)
  intro g6 c6 w6 R6 gr6
  have HR6 := hid R6
  have B6 : Hid (Below (W3 w2 other).heap.size (W3 w2 other) w6) := B5.out.grown gr6 B5.out.size (by intro j hj; simp at hj; have := HR5.out.lt; have := HS3.out; omega)
  have E6 := hid (env_later E3.out B6.out)
  have Y6 : Hid (Bytes w6 (some ⟨g6, 0, none⟩) (len0 + 4) c6 (z0 ++ pb X)) := HR6.out.bytes (app_bytes E3.out.2.2.1.2.2.2.1 X)
  clear R6 gr6 HR6 HR5 E5 B5 E3
  go_wp2_with fail
  refine (Sum_any _ _ _ _ _ E6.out.2.2.2.1 Y6.out (by omega)).mono ?_
  rintro e w6 ⟨rfl, rfl⟩
  rw [HXW.out]
  clear Y6
  have HE6 := hid (empty_row w6)
  have E7 : Hid (Env w a0 len0 cap0 z0 X other k w2.heap.size (w6.alloc (.cells #[] 5))) := env_later E6.out ((Below.refl _ _).alloc (Nat.le_refl _) _)
  have HS7 : Hid ((w6.alloc (.cells #[] 5)).heap.size = w6.heap.size + 1) := by show _ = _; simp
  go_wp2_with (at_builtin; refine app_own (by rfl) _ _ rfl w6.heap.size w6.heap.size 0 0 [] rfl HE6.out a0 len0 cap0 z0 rfl E7.out.2.2.1 len0 (by omega) z0 rfl (by omega) (by rw [HS7.out]; omega) ?_)
  intro g8 c8 w8 R8 gr8
  have HR8 := hid R8
  have B8 : Hid (Below w6.heap.size w6 w8) := ((Below.refl w6.heap.size w6).alloc (Nat.le_refl _) (.cells #[] 5)).grown gr8 (by rw [HS7.out]; omega) (by intro j hj; simp at hj; omega)
  have E8 := hid (env_later E6.out B8.out)
  clear R8 gr8 HE6 E7
  go_wp2_with (at_builtin; refine app_own (by rfl) _ _ rfl w6.heap.size g8 len0 c8 z0 rfl HR8.out _ 4 4 (pb other) rfl E8.out.2.1 (len0 + 4) rfl (z0 ++ pb other) rfl (by omega) B8.out.size ?_)
  intro g9 c9 w9 R9 gr9
  have HR9 := hid R9
  have B9 : Hid (Below w6.heap.size w6 w9) := B8.out.grown gr9 B8.out.size (by intro j hj; simp at hj; have := HR8.out.lt; omega)
  have E9 := hid (env_later E6.out B9.out)
  have Y9 : Hid (Bytes w9 (some ⟨g9, 0, none⟩) (len0 + 4) c9 (z0 ++ pb other)) := HR9.out.bytes (app_bytes E6.out.2.2.1.2.2.2.1 other)
  clear R9 gr9 HR9 HR8 E8 B8 B9 E6
  go_wp2_with fail
  refine (Sum_any _ _ _ _ _ E9.out.2.2.2.1 Y9.out (by omega)).mono ?_
  rintro e w9 ⟨rfl, rfl⟩
  clear Y9
  generalize sum (z0 ++ pb other) = so at HOW ⊢
  go_wp2_with fail
  go_ret
  refine ⟨ret_bool ?_, E9.out.2.2.2.2⟩
  rw [str_like]
  by_cases hox : other = X
  · have := HOW.out.2 hox
    subst this; simp [hox]
  · have : ¬ so = want := fun e => hox (HOW.out.1 e)
    have h2 : toI so ≠ toI want := fun e => this (toI_inj _ _ e)
    simp [hox, h2]

theorem walk (a0 : Option Addr) (len0 cap0 : Nat) (z0 : List Int) (a1 a2 : Int) (w : World) (T : Hid (Tab w)) (w0 : Bytes w a0 len0 cap0 z0) (c0 : cap0 ≤ 140737488351232) (w1 : (Lit.int .u32 a1).wf = true) (w2 : (Lit.int .u32 a2).wf = true) :
    Calls Tryd.prog 6 #[.slice a0 len0 cap0, .int .u32 a1, .int .u32 a2] w fun e w' => e = .returned (.bool true) ∧ Below w.heap.size w w' := by
  have := forged a0 len0 cap0 z0 (BitVec.ofInt 32 a1) (BitVec.ofInt 32 a2) w T w0 c0
  rwa [toI_ofI a1 (bu32 w1), toI_ofI a2 (bu32 w2)] at this

theorem own : ownKnob Tryd.prog.godebug = none := by kernel_rfl
theorem laidOut : laidOutB Tryd.prog = true := by kernel_rfl
theorem bytes5 : Tryd.prog.bytesOf 5 = 1 := by kernel_rfl
theorem u8_bd {y : Int} (h : (Lit.int .u8 y).wf = true) : 0 ≤ y ∧ y ≤ 255 := by
  simpa [Lit.wf, IntKind.min, IntKind.max, IntKind.signed, IntKind.bits] using h

/-! ### The row's step -/
set_option maxRecDepth 100000 in
theorem lifted (os : Os) (started : os.Started) (H : Type) (enc : TypeId × Value → H) :
    ReturnsInHanded {} Tryd.checked os 6 .any (fun w args => (Rows.checkForgedSpec.pre enc Tryd.prog Tryd.f6 [] false w args ∧ laidMetH Tryd.prog Ld.laid w) ∧ sizedMet enc Tryd.prog Tryd.f6 (OpenSpec.ofChange Rows.checkForgedSpec) false w args)
      (Rows.checkForgedSpec.post enc Tryd.prog Tryd.f6 false true false false) := by
  refine returnsInHanded_of_change_and (C := Tryd.checked) (X := fun w _ => laidMetH Tryd.prog Ld.laid w) (fun _ _ _ hh h => h.of_heap hh) own started (by kernel_rfl) Tryd.func6
    (ChangeSpec.witness_shaped (enc := enc) (C := Tryd.checked) (os := os) (X := fun w _ => laidMetH Tryd.prog Ld.laid w) false (World.doorLaid Tryd.prog 400 os) #[.slice none 0 0, .int .u32 0, .int .u32 0] 8 rfl (World.shaped_of_RefB (by kernel_rfl) (by kernel_rfl)) (by kernel_rfl) (by kernel_rfl) (by kernel_rfl) (Ld.door_met os _)) ?_
  intro W base args ds gs before hval0 hW hcnd hsz0 hL _
  have T : Hid (Ck.Tab W) := Ld.tab_of hL
  have hval : ∀ (j : Nat) t v, Tryd.f6.params[j]? = some t → args[j]? = some v → Value.okWide Tryd.prog W .any base t v := hval0
  have hsz : (DataW.weightsEach Tryd.prog (Tryd.f6.params.toList ++ Rows.checkForgedSpec.plain.varTypes Tryd.prog) (ds ++ gs)).all (· ≤ reachBytes) = true := hsz0
  have hW' := hW
  obtain ⟨p, q, hA0, hV, rfl, hfz, hnd⟩ := hW
  have hA : DataW.TrodAll enc Tryd.prog W 0 (fun _ => true) true Tryd.f6.params.toList args.toList ds p := hA0
  rw [Tryd.params6] at hA hval hsz
  obtain ⟨v0, vs0, d0, ds0, p0, q0, hargs, rfl, rfl, h0, r0⟩ := trodAll_cons hA
  obtain ⟨v1, vs1, d1, ds1, p1, q1, rfl, rfl, rfl, h1, r1⟩ := trodAll_cons r0
  obtain ⟨v2, vs2, d2, ds2, p2, q2, rfl, rfl, rfl, h2, r2⟩ := trodAll_cons r1
  obtain ⟨rfl, rfl, rfl⟩ := trodAll_nil r2
  obtain rfl : args = #[v0, v1, v2] := by cases args; simp_all
  obtain ⟨rfl, rfl⟩ := trodVars_none hV
  obtain ⟨a0, len0, cap0, rfl⟩ := okWide_slice Tryd.underlying22 (hval 0 22 v0 rfl rfl)
  have k0 := h0
  have lt0 : ∀ x ∈ p0, x.block < W.heap.size := by obtain ⟨m, hm⟩ := k0; exact DataW.trod_lt m _ _ _ hm
  obtain ⟨z0, w0, c0⟩ : ∃ zs, Ck.Bytes W a0 len0 cap0 zs ∧ cap0 ≤ 140737488351232 := by
    obtain ⟨fuel, hf⟩ := h0
    rcases open_ints Tryd.underlying22 Tryd.underlying5 (by kernel_rfl) hf with ⟨hcs, _⟩ | ⟨x, l, c, zs, hcs, _, hl, hm, hz, hx, hcell, hwz⟩
    · simp [Value.cells] at hcs
      obtain ⟨rfl, rfl, rfl⟩ := hcs
      exact ⟨[], Ck.nil_bytes W, by omega⟩
    · simp [Value.cells] at hcs
      obtain ⟨rfl, rfl, rfl⟩ := hcs
      have hd : d0 = .slice (lits .u8 (zs.take len0)) (lits .u8 (zs.drop len0)) := (Prod.mk.inj hx).1
      have hz' : zs.length = cap0 := by simpa using hz
      have sz := sized_slice hsz (j := 0) (t := 22) (e := 5) rfl (by rw [hd]; rfl) Tryd.underlying22
      rw [bytes5] at sz
      simp only [lits, List.length_map, List.length_take, List.length_drop, reachBytes] at sz
      refine ⟨zs.take len0, ⟨by rw [List.length_take]; omega, hl, fun e => by simp at e, fun y hy => u8_bd (hwz y (List.mem_of_mem_take hy)), ?_⟩, by omega⟩
      intro x' hx' j hj
      simp at hx'
      subst hx'
      rw [hcell j (by omega)]
      simp [List.getD_eq_getElem?_getD, hj]
  obtain ⟨a1, rfl, rfl, rfl, w1⟩ := open_int Tryd.underlying25 (hval 1 25 v1 rfl rfl) h1
  obtain ⟨a2, rfl, rfl, rfl, w2⟩ := open_int Tryd.underlying25 (hval 2 25 v2 rfl rfl) h2
  clear hA0 hval0
  refine (walk a0 len0 cap0 z0 a1 a2 W T w0 c0 w1 w2).mono fun e W' ⟨he, bel⟩ => ?_
  subst he
  exact ⟨_, rfl, _, _, _, [], _, [], hW', trodAll_mk1 (shut_bool Tryd.underlying4 _), (trodAll_cons_mk (Below.trod laidOut (by kernel_rfl) (of_decide_eq_true (by kernel_rfl)) k0 bel lt0) (trodAll_cons_mk (shut_int Tryd.underlying25 w1) (trodAll_cons_mk (shut_int Tryd.underlying25 w2) trodAll_mk0))), rfl, bel.frame _, fun h => by cases h⟩

theorem over : Rows.CheckForgedSaid :=
  OpenClaim.holds_of_wide 6 Tryd.f6 rfl rfl rfl rfl rfl rfl rfl ⟨rfl, rfl, rfl, rfl, rfl⟩ rfl rfl rfl rfl rfl (by kernel_rfl) Tryd.func6 (by kernel_rfl)
    (of_decide_eq_true (by kernel_rfl)) (by unfold Func.isWrapper; first | (rw [if_pos (by decide +kernel)]; kernel_rfl) | (rw [if_neg (by decide +kernel)]; exact ⟨rfl, rfl⟩))
    (fun os started H enc _ => lifted os started H enc)

/-! ### The card: the variable tied to the program's text -/
theorem carded : Rows.CheckForgedCardSaid :=
  Claim7.holds_tied_plain_at .later [] [.data] true (true, "40d5f0ef3f12d080f7ce7cc35634a6a997fe202c446ccbe160747d56026b5374") false
    over (fun _ h => by cases h) (by kernel_rfl) (fun _ h => by cases h) checkForged_row_tie rfl ⟨rfl, rfl⟩ (by kernel_rfl) rfl
    (fun f fn hf hfn => by
      obtain rfl : f = 6 := Option.some.inj ((show Tryd.prog.funcNamed "moraine/morainelaw02.CheckForged" = some 6 by kernel_rfl).symm.trans hf) |>.symm
      obtain rfl : fn = Tryd.f6 := (Option.some.inj (Tryd.func6.symm.trans hfn)).symm
      exact ⟨by kernel_rfl, fun j t ht => by
        rw [Tryd.params6] at ht
        have hm : t ∈ [22, 25] := by
          have := Array.mem_of_getElem? ht
          simp at this ⊢
          omega
        have hall : ([22, 25].all fun u => !Tryd.prog.wantsStandIn u) = true := by kernel_rfl
        exact (show Tryd.prog.wantsStandIn t = false by simpa using List.all_eq_true.1 hall t hm)⟩)
    (by kernel_rfl)
end Go.Proofs.YtkgmdhldongloabDoor.checkForged
namespace Go.Proofs.YtkgmdhldongloabDoor
theorem checkForged_holds : Rows.CheckForgedCardSaid := checkForged.carded
#print axioms checkForged_holds
end Go.Proofs.YtkgmdhldongloabDoor

/- Proved: for all bytes and every place, CodecReads returns true: Varint, Fixed32, Fixed64 and Text of the program answer what the document's definition answers, and the bytes and what lies behind them stay as they were. -/
import Derived.Test.YtpinknkdcecajaaRt
import Derived.ShutString
import Derived.ChangeOld
import Derived.Below
import Derived.SizedLaws
import Derived.Deep.RegionWith
namespace Go.Proofs.Ytpinknkdcecajaa.codecReads
open Go.ChangeShapes Go.WideShapes Go.ChangeAt Go.RowKit
open Go.ChangeMaps (open_string shut_string)
open Go.Proofs.Ytpinknkdcecajaa.Rd (Bytes ret_int addr_add)
open Go.Proofs.Ytpinknkdcecajaa.Wr
open Go.Proofs.Ytpinknkdcecajaa.Rx
open Go.Proofs.Ytpinknkdcecajaa.Rt
set_option linter.unusedVariables false

set_option maxHeartbeats 2000000 in
theorem reads (a : Option Addr) (len cap : Nat) (zs : List Int) (p : Int) (w : World) (H : Bytes w a len cap zs) (hcap : cap ≤ 140737488351232) :
    Calls Try.prog 4 #[.slice a len cap, .int .i64 p] w fun e w' => e = .returned (.bool true) ∧ Below w.heap.size w w' := by
  have hl : len ≤ 140737488351232 := by have := H.2.1; omega
  have HH : Hid (Bytes w a len cap zs) := H
  have h4 := Fx.fread_lt4 zs p H.2.2.2.1
  clear H
  go_enter Try.func4, Try.ntmps4
  go_wp2_with fail
  refine (lent_any a len cap zs _ HH.out (by omega)).mono ?_
  rintro e w1 ⟨g, c, rfl, R, b1⟩
  have HR : Hid (Row w1 w.heap.size g (len + 1) c (zs ++ [90])) := R
  have HL : Hid (Bytes w1 (some ⟨g, 0, none⟩) len c zs) := lent_bytes R HH.out.2.2.2.1
  have HB : Hid (Bytes w1 a len cap zs) := bytes_kept HH.out b1
  clear R
  have C1 : Hid (∀ w, Bytes w (some ⟨g, 0, none⟩) len c zs → Calls Try.prog 21 #[.slice (some ⟨g, 0, none⟩) len c, .int .i64 p] w fun e w' => e = .returned (.tuple #[.int .u64 (Vb.vread zs p).1, .int .i64 (Vb.vread zs p).2.1, .int .i64 (Vb.vread zs p).2.2]) ∧ w' = w) := fun w h => Rd.varint_any _ len c zs p w h (by omega)
  have C2 : Hid (∀ w, Bytes w a len cap zs → Calls Try.prog 22 #[.slice a len cap, .int .i64 p] w fun e w' => e = .returned (.tuple #[.int .u64 (Vb.vread zs p).1, .int .i64 (Vb.vread zs p).2.1, .int .i64 (Vb.vread zs p).2.2]) ∧ w' = w) := fun w h => rread_any _ len cap zs p w h (by omega)
  have C3 : Hid (∀ w, Bytes w (some ⟨g, 0, none⟩) len c zs → Calls Try.prog 23 #[.slice (some ⟨g, 0, none⟩) len c, .int .i64 p] w fun e w' => e = .returned (.tuple #[.int .u32 (Fx.fread zs p 4).1, .int .i64 (Fx.fread zs p 4).2.1, .int .i64 (Fx.fread zs p 4).2.2]) ∧ w' = w) := fun w h => fixed32_any _ len c zs p w h (by omega)
  have C4 : Hid (∀ w, Bytes w a len cap zs → Calls Try.prog 24 #[.slice a len cap, .int .i64 p, .int .i64 4] w fun e w' => e = .returned (.tuple #[.int .u64 (Fx.fread zs p 4).1, .int .i64 (Fx.fread zs p 4).2.1, .int .i64 (Fx.fread zs p 4).2.2]) ∧ w' = w) := fun w h => rfixed_any _ len cap zs p 4 w h (by omega) (by omega)
  have C5 : Hid (∀ w, Bytes w (some ⟨g, 0, none⟩) len c zs → Calls Try.prog 25 #[.slice (some ⟨g, 0, none⟩) len c, .int .i64 p] w fun e w' => e = .returned (.tuple #[.int .u64 (Fx.fread zs p 8).1, .int .i64 (Fx.fread zs p 8).2.1, .int .i64 (Fx.fread zs p 8).2.2]) ∧ w' = w) := fun w h => fixed64_any _ len c zs p w h (by omega)
  have C6 : Hid (∀ w, Bytes w a len cap zs → Calls Try.prog 24 #[.slice a len cap, .int .i64 p, .int .i64 8] w fun e w' => e = .returned (.tuple #[.int .u64 (Fx.fread zs p 8).1, .int .i64 (Fx.fread zs p 8).2.1, .int .i64 (Fx.fread zs p 8).2.2]) ∧ w' = w) := fun w h => rfixed_any _ len cap zs p 8 w h (by omega) (by omega)
  have C7 : Hid (∀ w, Bytes w (some ⟨g, 0, none⟩) len c zs → Calls Try.prog 26 #[.slice (some ⟨g, 0, none⟩) len c, .int .i64 p] w fun e w' => e = .returned (.tuple #[.string (str (tread zs p).1), .int .i64 (tread zs p).2.1, .int .i64 (tread zs p).2.2]) ∧ w' = w) := fun w h => text_any _ len c zs p w h (by omega)
  have C8 : Hid (∀ w, Bytes w a len cap zs → Calls Try.prog 27 #[.slice a len cap, .int .i64 p] w fun e w' => e = .returned (.tuple #[.string (str (tread zs p).1), .int .i64 (tread zs p).2.1, .int .i64 (tread zs p).2.2]) ∧ w' = w) := fun w h => rtext_any _ len cap zs p w h (by omega)
  generalize Vb.vread zs p = r1 at C1 C2
  generalize Fx.fread zs p 4 = r2 at C3 C4 h4
  generalize Fx.fread zs p 8 = r3 at C5 C6
  generalize tread zs p = r4 at C7 C8
  obtain ⟨x1, q1, e1⟩ := r1
  obtain ⟨x2, q2, e2⟩ := r2
  obtain ⟨x3, q3, e3⟩ := r3
  obtain ⟨x4, q4, e4⟩ := r4
  obtain ⟨h40, h41⟩ := h4
  simp only at h40 h41
  go_wp2_with fail
  refine (C1.out _ HL.out).mono ?_
  rintro e w' ⟨rfl, rfl⟩
  go_wp2_with fail
  refine (C2.out _ HB.out).mono ?_
  rintro e w' ⟨rfl, rfl⟩
  go_wp2_with fail
  refine (C3.out _ HL.out).mono ?_
  rintro e w' ⟨rfl, rfl⟩
  go_wp2_with fail
  refine (C4.out _ HB.out).mono ?_
  rintro e w' ⟨rfl, rfl⟩
  go_wp2_with fail
  refine (C5.out _ HL.out).mono ?_
  rintro e w' ⟨rfl, rfl⟩
  go_wp2_with fail
  refine (C6.out _ HB.out).mono ?_
  rintro e w' ⟨rfl, rfl⟩
  go_wp2_with fail
  refine (C7.out _ HL.out).mono ?_
  rintro e w' ⟨rfl, rfl⟩
  go_wp2_with fail
  refine (C8.out _ HB.out).mono ?_
  rintro e w' ⟨rfl, rfl⟩
  go_wp2_with fail
  refine (kept_any _ g c a len cap zs _ HR.out HB.out (by omega)).mono ?_
  rintro e w' ⟨rfl, rfl⟩
  go_wp2_with fail
  refine (names_any _).mono ?_
  rintro e w' ⟨rfl, rfl⟩
  go_wp2_with fail
  go_ret
  exact ⟨rfl, b1⟩

theorem walk (a0 : Option Addr) (len0 cap0 : Nat) (z0 : List Int) (a1 : Int) (w : World) (w0 : Bytes w a0 len0 cap0 z0) (c0 : cap0 ≤ 140737488351232) (w1 : (Lit.int .i64 a1).wf = true) :
    Calls Try.prog 4 #[.slice a0 len0 cap0, .int .i64 a1] w fun e w' => e = .returned (.bool true) ∧ Below w.heap.size w w' :=
  reads a0 len0 cap0 z0 a1 w w0 c0

theorem own : ownKnob Try.prog.godebug = none := by kernel_rfl
theorem laidOut : laidOutB Try.prog = true := by kernel_rfl
theorem bytes5 : Try.prog.bytesOf 5 = 1 := by kernel_rfl
theorem u8_bd {y : Int} (h : (Lit.int .u8 y).wf = true) : 0 ≤ y ∧ y ≤ 255 := by
  simpa [Lit.wf, IntKind.min, IntKind.max, IntKind.signed, IntKind.bits] using h

/-! ### The row's step -/
set_option maxRecDepth 100000 in
theorem lifted (os : Os) (started : os.Started) (H : Type) (enc : TypeId × Value → H) :
    ReturnsInHanded {} Try.checked os 4 .any (Rows.codecReadsSpec.pre6 enc Try.prog Try.f4 Rows.codecReadsRow.domain false) (Rows.codecReadsSpec.post enc Try.prog Try.f4 false true false false) := by
  refine returnsInHanded_of_change_sized (C := Try.checked) own started (by kernel_rfl) Try.func4
    (ChangeSpec.witness6 (enc := enc) (C := Try.checked) false ⟨#[], #[.slice none 0 0, .int .i64 0], []⟩ 8 (by kernel_rfl) (by kernel_rfl) (by kernel_rfl) (by kernel_rfl)) ?_
  intro W base args ds gs before hval0 hW hcnd hsz0 _
  have hval : ∀ (j : Nat) t v, Try.f4.params[j]? = some t → args[j]? = some v → Value.okWide Try.prog W .any base t v := hval0
  have hsz : (DataW.weightsEach Try.prog (Try.f4.params.toList ++ Rows.codecReadsSpec.plain.varTypes Try.prog) (ds ++ gs)).all (· ≤ reachBytes) = true := hsz0
  have hW' := hW
  obtain ⟨p, q, hA0, hV, rfl, hfz, hnd⟩ := hW
  have hA : DataW.TrodAll enc Try.prog W 0 (fun _ => true) true Try.f4.params.toList args.toList ds p := hA0
  rw [Try.params4] at hA hval hsz
  obtain ⟨v0, vs0, d0, ds0, p0, q0, hargs, rfl, rfl, h0, r0⟩ := trodAll_cons hA
  obtain ⟨v1, vs1, d1, ds1, p1, q1, rfl, rfl, rfl, h1, r1⟩ := trodAll_cons r0
  obtain ⟨rfl, rfl, rfl⟩ := trodAll_nil r1
  obtain rfl : args = #[v0, v1] := by cases args; simp_all
  obtain ⟨rfl, rfl⟩ := trodVars_none hV
  obtain ⟨a0, len0, cap0, rfl⟩ := okWide_slice Try.underlying22 (hval 0 22 v0 rfl rfl)
  have k0 := h0
  have lt0 : ∀ x ∈ p0, x.block < W.heap.size := by obtain ⟨m, hm⟩ := k0; exact DataW.trod_lt m _ _ _ hm
  obtain ⟨z0, w0, c0⟩ : ∃ zs, Rd.Bytes W a0 len0 cap0 zs ∧ cap0 ≤ 140737488351232 := by
    obtain ⟨fuel, hf⟩ := h0
    rcases open_ints Try.underlying22 Try.underlying5 (by kernel_rfl) hf with ⟨hcs, _⟩ | ⟨x, l, c, zs, hcs, _, hl, hm, hz, hx, hcell, hwz⟩
    · simp [Value.cells] at hcs
      obtain ⟨rfl, rfl, rfl⟩ := hcs
      exact ⟨[], Wr.nil_bytes W, by omega⟩
    · simp [Value.cells] at hcs
      obtain ⟨rfl, rfl, rfl⟩ := hcs
      have hd : d0 = .slice (lits .u8 (zs.take len0)) (lits .u8 (zs.drop len0)) := (Prod.mk.inj hx).1
      have hz' : zs.length = cap0 := by simpa using hz
      have sz := sized_slice hsz (j := 0) (t := 22) (e := 5) rfl (by rw [hd]; rfl) Try.underlying22
      rw [bytes5] at sz
      simp only [lits, List.length_map, List.length_take, List.length_drop, reachBytes] at sz
      refine ⟨zs.take len0, ⟨by rw [List.length_take]; omega, hl, fun e => by simp at e, fun y hy => u8_bd (hwz y (List.mem_of_mem_take hy)), ?_⟩, by omega⟩
      intro x' hx' j hj
      simp at hx'
      subst hx'
      rw [hcell j (by omega)]
      simp [List.getD_eq_getElem?_getD, hj]
  obtain ⟨a1, rfl, rfl, rfl, w1⟩ := open_int Try.underlying3 (hval 1 3 v1 rfl rfl) h1
  clear hA0 hval0
  refine (walk a0 len0 cap0 z0 a1 W w0 c0 w1).mono fun e W' ⟨he, bel⟩ => ?_
  subst he
  exact ⟨_, rfl, _, _, _, [], _, [], hW', trodAll_mk1 (shut_bool Try.underlying4 _), (trodAll_cons_mk (Below.trod laidOut (by kernel_rfl) (of_decide_eq_true (by kernel_rfl)) k0 bel lt0) (trodAll_cons_mk (shut_int Try.underlying3 w1) trodAll_mk0)), rfl, bel.frame _, fun h => by cases h⟩

theorem over : Rows.codecReadsRow.holds Try.pinned (OpenSpec.ofChange Rows.codecReadsSpec) :=
  OpenClaim.holds_of_wide 4 Try.f4 rfl rfl rfl rfl rfl rfl rfl ⟨rfl, rfl, rfl, rfl, rfl⟩ rfl rfl rfl rfl rfl (by kernel_rfl) Try.func4 (by kernel_rfl)
    (of_decide_eq_true (by kernel_rfl)) (by unfold Func.isWrapper; first | (rw [if_pos (by decide +kernel)]; kernel_rfl) | (rw [if_neg (by decide +kernel)]; exact ⟨rfl, rfl⟩))
    (fun os started H enc _ => lifted os started H enc)
end Go.Proofs.Ytpinknkdcecajaa.codecReads
namespace Go.Proofs.Ytpinknkdcecajaa
theorem codecReads_holds : Rows.CodecReadsSaid := codecReads.over
#print axioms codecReads_holds
end Go.Proofs.Ytpinknkdcecajaa

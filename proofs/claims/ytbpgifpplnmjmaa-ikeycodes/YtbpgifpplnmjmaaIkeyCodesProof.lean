/- Proved: for every internal key and all bytes IkeyCodes returns true: Encode and Decode of the program answer what the document's definitions answer, each answer is new memory, and the bytes that were handed in stay. -/
import Derived.Test.YtbpgifpplnmjmaaCe
import Derived.ShutString
import Derived.ChangeOld
import Derived.Below
import Derived.SizedLaws
import Derived.Deep.RegionWith
import Derived.Lib.SmallJoins
namespace Go.Proofs.Ytbpgifpplnmjmaa.ikeyCodes
open Go.ChangeShapes Go.WideShapes Go.ChangeAt Go.RowKit Go.Joins
open Go.ChangeMaps (open_string shut_string)
set_option linter.unusedVariables false
open Go.Proofs.Ytbpgifpplnmjmaa.Kd (size_true names_any)
open Go.Proofs.Ytbpgifpplnmjmaa.By
open Go.Proofs.Ytbpgifpplnmjmaa.Mr
open Go.Proofs.Ytbpgifpplnmjmaa.En (vld vld_true encode_yes encode_no decode_yes decode_no rencode_yes rencode_no rdecode_yes rdecode_no decB dv one_below enc_bytes)

theorem walk (a : ByteArray) (s k : Int) (p : Option Addr) (len cap : Nat) (zs : List Int) (w : World) (ha : a.size ≤ maxLen) (hs : 0 ≤ s ∧ s ≤ 18446744073709551615) (hk : -9223372036854775808 ≤ k ∧ k ≤ 9223372036854775807) (H : Bytes w p len cap zs) (hc : cap ≤ 140737488351232) :
    Calls Try.prog 5 #[.agg #[.string a, .int .u64 s, .int .i64 k], .slice p len cap] w fun e w' => e = .returned (.bool true) ∧ Below w.heap.size w w' := by
  have hl1 : len ≤ 140737488351232 := by have := H.2.1; omega
  have hl : len ≤ 281474976710656 := by omega
  cases p with
  | none =>
    obtain ⟨rfl, rfl⟩ := H.2.2.1 rfl
    have hz : zs = [] := List.eq_nil_of_length_eq_zero H.1
    subst hz
    have X : decB [] = false := rfl
    cases V : vld a s k
    · exact walk_nnn a s k w ha hs.1 H (by omega) V X
    · exact walk_ynn a s k w ha hs.1 H (by omega) V X
  | some ad =>
    cases V : vld a s k <;> cases X : decB zs
    · exact walk_nsn a s k ad len cap zs w ha hs.1 H hl hl1 V X
    · exact walk_nsy a s k ad len cap zs w ha hs.1 H hl hl1 V X
    · exact walk_ysn a s k ad len cap zs w ha hs.1 H hl hl1 V X
    · exact walk_ysy a s k ad len cap zs w ha hs.1 H hl hl1 V X

theorem own : ownKnob Try.prog.godebug = none := by kernel_rfl
theorem laidOut : laidOutB Try.prog = true := by kernel_rfl
theorem bytes5 : Try.prog.bytesOf 5 = 1 := by kernel_rfl
theorem u8_bd {y : Int} (h : (Lit.int .u8 y).wf = true) : 0 ≤ y ∧ y ≤ 255 := by
  simpa [Lit.wf, IntKind.min, IntKind.max, IntKind.signed, IntKind.bits] using h
theorem u64_bd {v : Int} (h : (Lit.int .u64 v).wf = true) : 0 ≤ v ∧ v ≤ 18446744073709551615 := by
  simpa [Lit.wf, IntKind.min, IntKind.max, IntKind.signed, IntKind.bits] using h
theorem i64_bd {v : Int} (h : (Lit.int .i64 v).wf = true) : -9223372036854775808 ≤ v ∧ v ≤ 9223372036854775807 := by
  simpa [Lit.wf, IntKind.min, IntKind.max, IntKind.signed, IntKind.bits] using h
theorem cells24 : Try.prog.cellsOf 24 = 3 := by kernel_rfl

/-! ### The row's step -/
set_option maxRecDepth 100000 in
theorem lifted (os : Os) (started : os.Started) (H : Type) (enc : TypeId × Value → H) :
    ReturnsInHanded {} Try.checked os 5 .any (Rows.ikeyCodesSpec.pre6 enc Try.prog Try.f5 Rows.ikeyCodesRow.domain false) (Rows.ikeyCodesSpec.post enc Try.prog Try.f5 false true false false) := by
  refine returnsInHanded_of_change_sized (C := Try.checked) own started (by kernel_rfl) Try.func5
    (ChangeSpec.witness6 (enc := enc) (C := Try.checked) false ⟨#[], #[.agg #[.string ByteArray.empty, .int .u64 0, .int .i64 0], .slice none 0 0], []⟩ 8 (by kernel_rfl) (by kernel_rfl) (by kernel_rfl) (by kernel_rfl)) ?_
  intro W base args ds gs before hval0 hW hcnd hsz0 _
  have hval : ∀ (j : Nat) t v, Try.f5.params[j]? = some t → args[j]? = some v → Value.okWide Try.prog W .any base t v := hval0
  have hsz : (DataW.weightsEach Try.prog (Try.f5.params.toList ++ Rows.ikeyCodesSpec.plain.varTypes Try.prog) (ds ++ gs)).all (· ≤ reachBytes) = true := hsz0
  have hW' := hW
  obtain ⟨p, q, hA0, hV, rfl, hfz, hnd⟩ := hW
  have hA : DataW.TrodAll enc Try.prog W 0 (fun _ => true) true Try.f5.params.toList args.toList ds p := hA0
  rw [Try.params5] at hA hval hsz
  obtain ⟨v0, vs0, d0, ds0, p0, q0, hargs, rfl, rfl, h0, r0⟩ := trodAll_cons hA
  obtain ⟨v1, vs1, d1, ds1, p1, q1, rfl, rfl, rfl, h1, r1⟩ := trodAll_cons r0
  obtain ⟨rfl, rfl, rfl⟩ := trodAll_nil r1
  obtain rfl : args = #[v0, v1] := by cases args; simp_all
  obtain ⟨rfl, rfl⟩ := trodVars_none hV
  have k0 := h0
  have lt0 : ∀ x ∈ p0, x.block < W.heap.size := by obtain ⟨m, hm⟩ := k0; exact DataW.trod_lt m _ _ _ hm
  obtain ⟨c00, c01, c02, y00, y01, y02, m0, rfl, hd0, hp0, hy00, hy01, hy02⟩ := open_agg3 Try.underlying24 (by kernel_rfl) cells24 (hval 0 24 v0 rfl rfl) h0
  obtain ⟨a00, e00, f00, w00⟩ := DataW.trod_string Try.underlying9 hy00
  obtain ⟨a01, e01, f01, w01⟩ := DataW.trod_int Try.underlying22 hy01
  obtain ⟨a02, e02, f02, w02⟩ := DataW.trod_int Try.underlying3 hy02
  simp only [List.cons.injEq, and_true] at e00 e01 e02
  subst e00 e01 e02
  obtain ⟨a1, len1, cap1, rfl⟩ := okWide_slice Try.underlying39 (hval 1 39 v1 rfl rfl)
  have k1 := h1
  have lt1 : ∀ x ∈ p1, x.block < W.heap.size := by obtain ⟨m, hm⟩ := k1; exact DataW.trod_lt m _ _ _ hm
  obtain ⟨z1, w1, c1⟩ : ∃ zs, By.Bytes W a1 len1 cap1 zs ∧ cap1 ≤ 140737488351232 := by
    obtain ⟨fuel, hf⟩ := h1
    rcases open_ints Try.underlying39 Try.underlying5 (by kernel_rfl) hf with ⟨hcs, _⟩ | ⟨x, l, c, zs, hcs, _, hl, hm, hz, hx, hcell, hwz⟩
    · simp [Value.cells] at hcs
      obtain ⟨rfl, rfl, rfl⟩ := hcs
      exact ⟨[], By.nil_bytes W, by omega⟩
    · simp [Value.cells] at hcs
      obtain ⟨rfl, rfl, rfl⟩ := hcs
      have hd : d1 = .slice (lits .u8 (zs.take len1)) (lits .u8 (zs.drop len1)) := (Prod.mk.inj hx).1
      have hz' : zs.length = cap1 := by simpa using hz
      have sz := sized_slice hsz (j := 1) (t := 39) (e := 5) rfl (by rw [hd]; rfl) Try.underlying39
      rw [bytes5] at sz
      simp only [lits, List.length_map, List.length_take, List.length_drop, reachBytes] at sz
      refine ⟨zs.take len1, ⟨by rw [List.length_take]; omega, hl, fun e => by simp at e, fun y hy => u8_bd (hwz y (List.mem_of_mem_take hy)), ?_⟩, by omega⟩
      intro x' hx' j hj
      simp at hx'
      subst hx'
      rw [hcell j (by omega)]
      simp [List.getD_eq_getElem?_getD, hj]
  clear hA0 hval0
  refine (walk a00 a01 a02 a1 len1 cap1 z1 W w00 (u64_bd w01) (i64_bd w02) w1 c1).mono fun e W' ⟨he, bel⟩ => ?_
  subst he
  exact ⟨_, rfl, _, _, _, [], _, [], hW', trodAll_mk1 (shut_bool Try.underlying4 _), (trodAll_cons_mk (Below.trod laidOut (by kernel_rfl) (of_decide_eq_true (by kernel_rfl)) k0 bel lt0) (trodAll_cons_mk (Below.trod laidOut (by kernel_rfl) (of_decide_eq_true (by kernel_rfl)) k1 bel lt1) trodAll_mk0)), rfl, bel.frame _, fun h => by cases h⟩

theorem over : Rows.ikeyCodesRow.holds Try.pinned (OpenSpec.ofChange Rows.ikeyCodesSpec) :=
  OpenClaim.holds_of_wide 5 Try.f5 rfl rfl rfl rfl rfl rfl rfl ⟨rfl, rfl, rfl, rfl, rfl⟩ rfl rfl rfl rfl rfl (by kernel_rfl) Try.func5 (by kernel_rfl)
    (of_decide_eq_true (by kernel_rfl)) (by unfold Func.isWrapper; first | (rw [if_pos (by decide +kernel)]; kernel_rfl) | (rw [if_neg (by decide +kernel)]; exact ⟨rfl, rfl⟩))
    (fun os started H enc _ => lifted os started H enc)
end Go.Proofs.Ytbpgifpplnmjmaa.ikeyCodes
namespace Go.Proofs.Ytbpgifpplnmjmaa
theorem ikeyCodes_holds : Rows.IkeyCodesSaid := ikeyCodes.over
#print axioms ikeyCodes_holds
end Go.Proofs.Ytbpgifpplnmjmaa

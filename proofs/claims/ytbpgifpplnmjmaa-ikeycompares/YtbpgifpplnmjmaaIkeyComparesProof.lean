/- Proved: for any two internal keys IkeyCompares returns true: Valid and Compare of the program answer what the document's definitions answer. -/
import Derived.Test.YtbpgifpplnmjmaaCr
import Derived.ShutString
import Derived.ChangeOld
import Derived.Below
import Derived.SizedLaws
import Derived.Deep.RegionWith
import Derived.Lib.SmallJoins
namespace Go.Proofs.Ytbpgifpplnmjmaa.ikeyCompares
open Go.ChangeShapes Go.WideShapes Go.ChangeAt Go.RowKit Go.Joins
open Go.ChangeMaps (open_string shut_string)
set_option linter.unusedVariables false
open Go.Sort
open Go.Proofs.Ytbpgifpplnmjmaa.Ik
open Go.Proofs.Ytbpgifpplnmjmaa.Kd
open Go.Proofs.Ytbpgifpplnmjmaa.Cm

theorem compare_below (a : ByteArray) (s k : Int) (b : ByteArray) (t m : Int) (w : World) :
    Calls Try.prog 11 #[.agg #[.string a, .int .u64 s, .int .i64 k], .agg #[.string b, .int .u64 t, .int .i64 m]] w fun e w' => e = .returned (.int .i64 (cmp (ik a s k) (ik b t m))) ∧ Below w.heap.size w w' :=
  (compare_any a s k b t m w).mono fun e w' ⟨he, hw⟩ => ⟨he, hw ▸ two_below ..⟩
theorem names_below (w : World) : Calls Try.prog 13 #[] w fun e w' => e = .returned (.bool true) ∧ Below w.heap.size w w' :=
  (names_any w).mono fun e w' ⟨he, hw⟩ => ⟨he, hw ▸ Below.refl _ _⟩

set_option maxHeartbeats 2000000 in
theorem walk (a : ByteArray) (s k : Int) (b : ByteArray) (t m : Int) (w : World) (ha : a.size ≤ maxLen) (hs : 0 ≤ s ∧ s ≤ 18446744073709551615) (hk : -9223372036854775808 ≤ k ∧ k ≤ 9223372036854775807) (hb : b.size ≤ maxLen) (ht : 0 ≤ t ∧ t ≤ 18446744073709551615) (hm : -9223372036854775808 ≤ m ∧ m ≤ 9223372036854775807) :
    Calls Try.prog 3 #[.agg #[.string a, .int .u64 s, .int .i64 k], .agg #[.string b, .int .u64 t, .int .i64 m]] w fun e w' => e = .returned (.bool true) ∧ Below w.heap.size w w' := by
  clear hs hk ht hm
  obtain ⟨W, hW⟩ : ∃ W, W = (w.alloc (.cells #[.string a, .int .u64 s, .int .i64 k] 24)).alloc (.cells #[.string b, .int .u64 t, .int .i64 m] 24) := ⟨_, rfl⟩
  have HB : Hid (Below w.heap.size w W) := by
    rw [hW]; exact ((Below.refl _ _).alloc (Nat.le_refl _) _).alloc (by simp) _
  obtain ⟨g, hg⟩ : ∃ g, g = w.heap.size := ⟨_, rfl⟩
  have c1 : W.cell? ⟨g, 0, none⟩ = some (.string a) := by rw [hW, hg]; go_simp
  have c2 : W.cell? ⟨g, 1, none⟩ = some (.int .u64 s) := by rw [hW, hg]; go_simp
  have c3 : W.cell? ⟨g, 2, none⟩ = some (.int .i64 k) := by rw [hW, hg]; go_simp
  have c4 : W.cell? ⟨g + 1, 0, none⟩ = some (.string b) := by rw [hW, hg]; go_simp
  have c5 : W.cell? ⟨g + 1, 1, none⟩ = some (.int .u64 t) := by rw [hW, hg]; go_simp
  have c6 : W.cell? ⟨g + 1, 2, none⟩ = some (.int .i64 m) := by rw [hW, hg]; go_simp
  have d1 := fun d os => cell_regrown c1 d os
  have d2 := fun d os => cell_regrown c2 d os
  have d3 := fun d os => cell_regrown c3 d os
  have d4 := fun d os => cell_regrown c4 d os
  have d5 := fun d os => cell_regrown c5 d os
  have d6 := fun d os => cell_regrown c6 d os
  have HW : Hid (W = (w.alloc (.cells #[.string a, .int .u64 s, .int .i64 k] 24)).alloc (.cells #[.string b, .int .u64 t, .int .i64 m] 24)) := hW
  have HG : Hid (g = w.heap.size) := hg
  clear hW hg
  have cs := cmp_self (ik a s k)
  go_enter Try.func3, Try.ntmps3
  go_wp2_with fail
  rw [← HW.out, ← HG.out]
  refine wp_region_quiet_below (by kernel_rfl) (by kernel_rfl) ?_
  repeat (quiet_step (first | (go_at_call 9; exact Calls.regrown_of (valid_any _ _ _ _ (by assumption))) | (go_at_call 10; exact Calls.regrown_of (rvalid_any _ _ _ _ (by assumption))) | (go_at_call 11; exact Calls.regrown_of (compare_below _ _ _ _ _ _ _)) | (go_at_call 12; exact Calls.regrown_of (rcompare_any _ _ _ _ _ _ _)) | (go_at_call 13; exact Calls.regrown_of (names_below _))))
  refine wpQuiet_nil ?_
  intro _ hw'
  obtain ⟨⟨dq, osq⟩, hw''⟩ := hw'
  subst hw''
  obtain ⟨W1, hW1⟩ : ∃ W1, W1 = grow (redrawn W dq) osq := ⟨_, rfl⟩
  have HB1 : Hid (Below W.heap.size W W1) := by rw [hW1]; exact below_regrown W dq osq
  rw [← hW1]
  clear hW1
  go_wp2_with fail
  go_ret
  exact ⟨rfl, HB.out.trans (HB1.out.mono HB.out.size)⟩

theorem own : ownKnob Try.prog.godebug = none := by kernel_rfl
theorem laidOut : laidOutB Try.prog = true := by kernel_rfl
theorem u64_bd {v : Int} (h : (Lit.int .u64 v).wf = true) : 0 ≤ v ∧ v ≤ 18446744073709551615 := by
  simpa [Lit.wf, IntKind.min, IntKind.max, IntKind.signed, IntKind.bits] using h
theorem i64_bd {v : Int} (h : (Lit.int .i64 v).wf = true) : -9223372036854775808 ≤ v ∧ v ≤ 9223372036854775807 := by
  simpa [Lit.wf, IntKind.min, IntKind.max, IntKind.signed, IntKind.bits] using h
theorem cells24 : Try.prog.cellsOf 24 = 3 := by kernel_rfl

/-! ### The row's step -/
set_option maxRecDepth 100000 in
theorem lifted (os : Os) (started : os.Started) (H : Type) (enc : TypeId × Value → H) :
    ReturnsInHanded {} Try.checked os 3 .any (Rows.ikeyComparesSpec.pre6 enc Try.prog Try.f3 Rows.ikeyComparesRow.domain false) (Rows.ikeyComparesSpec.post enc Try.prog Try.f3 false true false false) := by
  refine returnsInHanded_of_change_sized (C := Try.checked) own started (by kernel_rfl) Try.func3
    (ChangeSpec.witness6 (enc := enc) (C := Try.checked) false ⟨#[], #[.agg #[.string ByteArray.empty, .int .u64 0, .int .i64 0], .agg #[.string ByteArray.empty, .int .u64 0, .int .i64 0]], []⟩ 8 (by kernel_rfl) (by kernel_rfl) (by kernel_rfl) (by kernel_rfl)) ?_
  intro W base args ds gs before hval0 hW hcnd hsz0 _
  have hval : ∀ (j : Nat) t v, Try.f3.params[j]? = some t → args[j]? = some v → Value.okWide Try.prog W .any base t v := hval0
  have hsz : (DataW.weightsEach Try.prog (Try.f3.params.toList ++ Rows.ikeyComparesSpec.plain.varTypes Try.prog) (ds ++ gs)).all (· ≤ reachBytes) = true := hsz0
  have hW' := hW
  obtain ⟨p, q, hA0, hV, rfl, hfz, hnd⟩ := hW
  have hA : DataW.TrodAll enc Try.prog W 0 (fun _ => true) true Try.f3.params.toList args.toList ds p := hA0
  rw [Try.params3] at hA hval hsz
  obtain ⟨v0, vs0, d0, ds0, p0, q0, hargs, rfl, rfl, h0, r0⟩ := trodAll_cons hA
  obtain ⟨v1, vs1, d1, ds1, p1, q1, rfl, rfl, rfl, h1, r1⟩ := trodAll_cons r0
  obtain ⟨rfl, rfl, rfl⟩ := trodAll_nil r1
  obtain rfl : args = #[v0, v1] := by cases args; simp_all
  obtain ⟨rfl, rfl⟩ := trodVars_none hV
  have k0 := h0
  have lt0 : ∀ x ∈ p0, x.block < W.heap.size := by obtain ⟨m, hm⟩ := k0; exact DataW.trod_lt m _ _ _ hm
  obtain ⟨c00, c01, c02, y00, y01, y02, m0, rfl, hd0, hp0, hy00, hy01, hy02⟩ := open_agg3 Try.underlying24 (by kernel_rfl) cells24 (hval 0 24 v0 rfl rfl) h0
  obtain ⟨a00, e00, f00, w00⟩ := DataW.trod_string Try.underlying9 hy00
  obtain ⟨a01, e01, f01, w01⟩ := DataW.trod_int Try.underlying22 hy01
  obtain ⟨a02, e02, f02, w02⟩ := DataW.trod_int Try.underlying3 hy02
  simp only [List.cons.injEq, and_true] at e00 e01 e02
  subst e00 e01 e02
  have k1 := h1
  have lt1 : ∀ x ∈ p1, x.block < W.heap.size := by obtain ⟨m, hm⟩ := k1; exact DataW.trod_lt m _ _ _ hm
  obtain ⟨c10, c11, c12, y10, y11, y12, m1, rfl, hd1, hp1, hy10, hy11, hy12⟩ := open_agg3 Try.underlying24 (by kernel_rfl) cells24 (hval 1 24 v1 rfl rfl) h1
  obtain ⟨a10, e10, f10, w10⟩ := DataW.trod_string Try.underlying9 hy10
  obtain ⟨a11, e11, f11, w11⟩ := DataW.trod_int Try.underlying22 hy11
  obtain ⟨a12, e12, f12, w12⟩ := DataW.trod_int Try.underlying3 hy12
  simp only [List.cons.injEq, and_true] at e10 e11 e12
  subst e10 e11 e12
  clear hA0 hval0
  refine (walk a00 a01 a02 a10 a11 a12 W w00 (u64_bd w01) (i64_bd w02) w10 (u64_bd w11) (i64_bd w12)).mono fun e W' ⟨he, bel⟩ => ?_
  subst he
  exact ⟨_, rfl, _, _, _, [], _, [], hW', trodAll_mk1 (shut_bool Try.underlying4 _), (trodAll_cons_mk (Below.trod laidOut (by kernel_rfl) (of_decide_eq_true (by kernel_rfl)) k0 bel lt0) (trodAll_cons_mk (Below.trod laidOut (by kernel_rfl) (of_decide_eq_true (by kernel_rfl)) k1 bel lt1) trodAll_mk0)), rfl, bel.frame _, fun h => by cases h⟩

theorem over : Rows.ikeyComparesRow.holds Try.pinned (OpenSpec.ofChange Rows.ikeyComparesSpec) :=
  OpenClaim.holds_of_wide 3 Try.f3 rfl rfl rfl rfl rfl rfl rfl ⟨rfl, rfl, rfl, rfl, rfl⟩ rfl rfl rfl rfl rfl (by kernel_rfl) Try.func3 (by kernel_rfl)
    (of_decide_eq_true (by kernel_rfl)) (by unfold Func.isWrapper; first | (rw [if_pos (by decide +kernel)]; kernel_rfl) | (rw [if_neg (by decide +kernel)]; exact ⟨rfl, rfl⟩))
    (fun os started H enc _ => lifted os started H enc)
end Go.Proofs.Ytbpgifpplnmjmaa.ikeyCompares
namespace Go.Proofs.Ytbpgifpplnmjmaa
theorem ikeyCompares_holds : Rows.IkeyComparesSaid := ikeyCompares.over
#print axioms ikeyCompares_holds
end Go.Proofs.Ytbpgifpplnmjmaa

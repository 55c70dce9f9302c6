/- Proved: for every number with a sign and every number without, CodecSigns returns true: Zig and Zag of the program answer what Zig and Zag of the document's definition answer. -/
import Derived.Test.YtpinknkdcecajaaRows
import Derived.WalkKit
import Derived.ProofKit
import Derived.OpenShut
import Derived.Test.YtpinknkdcecajaaZig
namespace Go.Proofs.Ytpinknkdcecajaa.codecSigns
open Go.ChangeShapes Go.WideShapes Go.ChangeAt Go.RowKit
set_option linter.unusedVariables false      -- a walk need not use every 'w<i>' (that an integer argument fits its kind)

theorem own : ownKnob Try.prog.godebug = none := by kernel_rfl

theorem ret_int {k : IntKind} {a b : Int} (h : a = b) : Ending.returned (.int k a) = .returned (.int k b) := by rw [h]

theorem zig_any (v : Int) (w0 : (Lit.int .i64 v).wf = true) (w : World) :
    Calls Try.prog 28 #[.int .i64 v] w fun e w' => e = .returned (.int .u64 (Zz.zig v)) ∧ w' = w := by
  have E : Hid (bits .xor .u64 (IntKind.u64.wrap (IntKind.u64.wrap v * 2)) (IntKind.u64.wrap (v / 9223372036854775808)) = Zz.zig v) := Zz.zig_eq v (Zz.b64 w0)
  go_enter Try.func28, Try.ntmps28
  go_wp2
  go_ret
  exact ⟨ret_int E.out, rfl⟩

theorem zag_any (v : Int) (w0 : (Lit.int .u64 v).wf = true) (w : World) :
    Calls Try.prog 30 #[.int .u64 v] w fun e w' => e = .returned (.int .i64 (Zz.zag v)) ∧ w' = w := by
  have E : Hid (bits .xor .i64 (wrap64 (v / 2)) (wrap64 (-wrap64 (bits .and .u64 v 1))) = Zz.zag v) := Zz.zag_eq v (Zz.bu64 w0)
  go_enter Try.func30, Try.ntmps30
  go_wp2
  go_ret
  exact ⟨ret_int E.out, rfl⟩

theorem rzig_any (v : Int) (w0 : (Lit.int .i64 v).wf = true) (w : World) :
    Calls Try.prog 29 #[.int .i64 v] w fun e w' => e = .returned (.int .u64 (Zz.zig v)) ∧ w' = w := by
  have hb := Zz.b64 w0
  by_cases h : v < 0
  · have E : Hid (-(v + 1) * 2 + 1 = Zz.zig v) := by show _ = _; unfold Zz.zig; rw [if_pos h]; omega
    go_enter Try.func29, Try.ntmps29
    go_wp2
    go_ret
    exact ⟨ret_int E.out, rfl⟩
  · have E : Hid (v * 2 = Zz.zig v) := by show _ = _; unfold Zz.zig; rw [if_neg h]; omega
    go_enter Try.func29, Try.ntmps29
    go_wp2
    go_ret
    exact ⟨ret_int E.out, rfl⟩

theorem rzag_any (v : Int) (w0 : (Lit.int .u64 v).wf = true) (w : World) :
    Calls Try.prog 31 #[.int .u64 v] w fun e w' => e = .returned (.int .i64 (Zz.zag v)) ∧ w' = w := by
  have hb := Zz.bu64 w0
  by_cases h : v % 2 = 1
  · have E : Hid (-(v / 2) - 1 = Zz.zag v) := by show _ = _; unfold Zz.zag; rw [if_pos h]
    go_enter Try.func31, Try.ntmps31
    go_wp2
    go_ret
    exact ⟨ret_int E.out, rfl⟩
  · have E : Hid (v / 2 = Zz.zag v) := by show _ = _; unfold Zz.zag; rw [if_neg h]
    go_enter Try.func31, Try.ntmps31
    go_wp2
    go_ret
    exact ⟨ret_int E.out, rfl⟩

set_option maxHeartbeats 400000 in
theorem walk (a0 : Int) (a1 : Int) (w0 : (Lit.int .i64 a0).wf = true) (w1 : (Lit.int .u64 a1).wf = true) (w : World) :
    Calls Try.prog 5 #[.int .i64 a0, .int .u64 a1] w fun e w' => e = .returned (.bool true) ∧ Grown w w' := by
  go_enter Try.func5, Try.ntmps5
  go_wp2_with fail
  refine (zig_any a0 w0 _).mono ?_
  rintro e w' ⟨rfl, rfl⟩
  go_wp2_with fail
  refine (rzig_any a0 w0 _).mono ?_
  rintro e w' ⟨rfl, rfl⟩
  go_wp2_with fail
  refine (zag_any a1 w1 _).mono ?_
  rintro e w' ⟨rfl, rfl⟩
  go_wp2_with fail
  refine (rzag_any a1 w1 _).mono ?_
  rintro e w' ⟨rfl, rfl⟩
  go_wp2_with fail
  go_ret
  exact ⟨rfl, Grown.refl _⟩

/-! ### THE ROW's STEP: WRITTEN OUT: LEAVE IT -/
set_option maxRecDepth 100000 in
theorem lifted (os : Os) (started : os.Started) (H : Type) (enc : TypeId × Value → H) :
    ReturnsInHanded {} Try.checked os 5 .any (Rows.codecSignsSpec.pre6 enc Try.prog Try.f5 Rows.codecSignsRow.domain false) (Rows.codecSignsSpec.post enc Try.prog Try.f5 false true false false) := by
  refine returnsInHanded_of_change (C := Try.checked) own started (by kernel_rfl) Try.func5
    (ChangeSpec.witness6 (enc := enc) (C := Try.checked) false ⟨#[], #[.int .i64 0, .int .u64 0], []⟩ 8 (by kernel_rfl) (by kernel_rfl) (by kernel_rfl) (by kernel_rfl)) ?_
  intro W base args ds gs before hval0 hW hcnd _
  have hval : ∀ (j : Nat) t v, Try.f5.params[j]? = some t → args[j]? = some v → Value.okWide Try.prog W .any base t v := hval0
  have hW' := hW
  obtain ⟨p, q, hA0, hV, rfl, hfz, hnd⟩ := hW
  have hA : DataW.TrodAll enc Try.prog W 0 (fun _ => true) true Try.f5.params.toList args.toList ds p := hA0
  rw [Try.params5] at hA hval
  obtain ⟨v0, vs0, d0, ds0, p0, q0, hargs, rfl, rfl, h0, r0⟩ := trodAll_cons hA
  obtain ⟨v1, vs1, d1, ds1, p1, q1, rfl, rfl, rfl, h1, r1⟩ := trodAll_cons r0
  obtain ⟨rfl, rfl, rfl⟩ := trodAll_nil r1
  obtain rfl : args = #[v0, v1] := by cases args; simp_all
  obtain ⟨rfl, rfl⟩ := trodVars_none hV
  obtain ⟨a0, rfl, rfl, rfl, w0⟩ := open_int Try.underlying2 (hval 0 2 v0 rfl rfl) h0
  obtain ⟨a1, rfl, rfl, rfl, w1⟩ := open_int Try.underlying23 (hval 1 23 v1 rfl rfl) h1
  clear hA0 hval0
  simp only [List.append_nil] at hW'
  refine (walk a0 a1 w0 w1 W).mono fun e W' ⟨he, hg⟩ => ?_
  subst he
  exact ⟨_, rfl, post_of_same (pa := []) (pv := []) hW' (fun _ _ _ => (trodAll_cons_mk (shut_bool Try.underlying4 _) trodAll_mk0)) (fun sp _ => (trodAll_cons_mk (shut_int Try.underlying2 w0) (trodAll_cons_mk (shut_int Try.underlying23 w1) trodAll_mk0))) (fun _ _ => rfl) rfl
    (hg.frame _) hg.2.1 (ok_one (by kernel_rfl) rfl (okWide_bool_mk Try.underlying4 _))⟩

theorem over : Rows.codecSignsRow.holds Try.pinned (OpenSpec.ofChange Rows.codecSignsSpec) :=
  OpenClaim.holds_of_wide 5 Try.f5 rfl rfl rfl rfl rfl rfl rfl ⟨rfl, rfl, rfl, rfl, rfl⟩ rfl rfl rfl rfl rfl (by kernel_rfl) Try.func5 (by kernel_rfl)
    (of_decide_eq_true (by kernel_rfl)) (by unfold Func.isWrapper; first | (rw [if_pos (by decide +kernel)]; kernel_rfl) | (rw [if_neg (by decide +kernel)]; exact ⟨rfl, rfl⟩))
    (fun os started H enc _ => lifted os started H enc)

/-- ████ THE STATEMENT ████ -/
theorem proved : Rows.CodecSignsSaid :=
  over
end Go.Proofs.Ytpinknkdcecajaa.codecSigns
namespace Go.Proofs.Ytpinknkdcecajaa
theorem codecSigns_holds : Rows.CodecSignsSaid := codecSigns.proved
#print axioms codecSigns_holds
end Go.Proofs.Ytpinknkdcecajaa

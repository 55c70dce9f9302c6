/- Proved: for every sum, CheckMasks returns true: Mask and Unmask of the program answer what the document's definition answers, and each takes the other back. -/
import Derived.Test.YtkgmdhldongloaaRows
import Derived.WalkKit
import Derived.ProofKit
import Derived.OpenShut
import Derived.WalkSpells
import Derived.WalkLawsBesides
import Derived.Test.YtkgmdhldongloaaCrc
namespace Go.Proofs.Ytkgmdhldongloaa.checkMasks
open Go.ChangeShapes Go.WideShapes Go.ChangeAt Go.RowKit
open Go.Proofs.Ytkgmdhldongloaa.Crc
set_option linter.unusedVariables false

theorem own : ownKnob Try.prog.godebug = none := by kernel_rfl
theorem ret_int {k : IntKind} {a b : Int} (h : a = b) : Ending.returned (.int k a) = .returned (.int k b) := by rw [h]
theorem bu32 {v : Int} (h : (Lit.int .u32 v).wf = true) : 0 ≤ v ∧ v ≤ 4294967295 := by
  simpa [Lit.wf, IntKind.min, IntKind.max, IntKind.signed, IntKind.bits] using h

def plus : BitVec 32 := 2726488792#32
theorem plus_i : (2726488792 : Int) = toI plus := by decide
def mask (x : BitVec 32) : BitVec 32 := rotr x + plus
def unmask (x : BitVec 32) : BitVec 32 := rotl (x - plus)
theorem un_mask (x : BitVec 32) : unmask (mask x) = x := by
  unfold unmask mask; rw [BitVec.add_sub_cancel, rotl_rotr]
theorem mask_un (x : BitVec 32) : mask (unmask x) = x := by
  unfold unmask mask; rw [rotr_rotl, BitVec.sub_add_cancel]
theorem shr15 (x : BitVec 32) : toI x / (32768 : Int) = toI (x >>> 15) := shr_i x 15
theorem shr17 (x : BitVec 32) : toI x / (131072 : Int) = toI (x >>> 17) := shr_i x 17
theorem shl15 (x : BitVec 32) : toI x * (32768 : Int) % (4294967296 : Int) = toI (x <<< 15) := by
  have := shl_i x 15; rw [wrap_u32] at this; exact this
theorem shl17 (x : BitVec 32) : toI x * (131072 : Int) % (4294967296 : Int) = toI (x <<< 17) := by
  have := shl_i x 17; rw [wrap_u32] at this; exact this
theorem add_m (x y : BitVec 32) : (toI x + toI y) % (4294967296 : Int) = toI (x + y) := by
  have := add_i x y; rw [wrap_u32] at this; exact this
theorem sub_m (x y : BitVec 32) : (toI x - toI y) % (4294967296 : Int) = toI (x - y) := by
  have := sub_i x y; rw [wrap_u32] at this; exact this

theorem rotl_any (x : BitVec 32) (w : World) : Calls Try.prog 8 #[.int .u32 (toI x), .int .i64 15] w fun e w' => e = .returned (.int .u32 (toI (rotl x))) ∧ w' = w := by
  have E : Hid (bits .or .u32 (toI x * 32768 % 4294967296) (toI x / 131072) = toI (rotl x)) := by
    show _ = _
    rw [shl15, shr17, or_i]; rfl
  have A : bits .and .u64 15 31 = 15 := by decide
  go_enter Try.func8, Try.ntmps8
  go_wp2
  go_ret
  exact ⟨ret_int E.out, rfl⟩
theorem rotr_any (x : BitVec 32) (w : World) : Calls Try.prog 8 #[.int .u32 (toI x), .int .i64 (-15)] w fun e w' => e = .returned (.int .u32 (toI (rotr x))) ∧ w' = w := by
  have E : Hid (bits .or .u32 (toI x * 131072 % 4294967296) (toI x / 32768) = toI (rotr x)) := by
    show _ = _
    rw [shl17, shr15, or_i, BitVec.or_comm]; rfl
  have A : bits .and .u64 (IntKind.u64.wrap (-15)) 31 = 17 := by decide
  go_enter Try.func8, Try.ntmps8
  go_wp2
  go_ret
  exact ⟨ret_int E.out, rfl⟩
theorem mask_any (x : BitVec 32) (w : World) : Calls Try.prog 4 #[.int .u32 (toI x)] w fun e w' => e = .returned (.int .u32 (toI (mask x))) ∧ w' = w := by
  have E : Hid ((toI (rotr x) + 2726488792) % 4294967296 = toI (mask x)) := by
    show _ = _
    rw [plus_i, add_m]; rfl
  go_enter Try.func4, Try.ntmps4
  go_wp2_with fail
  refine (rotr_any x _).mono ?_
  rintro e w' ⟨rfl, rfl⟩
  go_wp2
  go_ret
  exact ⟨ret_int E.out, rfl⟩
theorem unmask_any (x : BitVec 32) (w : World) : Calls Try.prog 5 #[.int .u32 (toI x)] w fun e w' => e = .returned (.int .u32 (toI (unmask x))) ∧ w' = w := by
  have E : Hid ((toI x - 2726488792) % 4294967296 = toI (x - plus)) := by
    show _ = _
    rw [plus_i, sub_m]
  go_enter Try.func5, Try.ntmps5
  go_wp2_with fail
  rw [E.out]
  refine (rotl_any (x - plus) _).mono ?_
  rintro e w' ⟨rfl, rfl⟩
  go_wp2
  go_ret
  exact ⟨rfl, rfl⟩
theorem rmask_any (x : BitVec 32) (w : World) : Calls Try.prog 6 #[.int .u32 (toI x)] w fun e w' => e = .returned (.int .u32 (toI (mask x))) ∧ w' = w := by
  have E : Hid ((bits .or .u32 (toI x / 32768) (toI x * 131072 % 4294967296) + 2726488792) % 4294967296 = toI (mask x)) := by
    show _ = _
    rw [shr15, shl17, or_i, plus_i, add_m]; rfl
  go_enter Try.func6, Try.ntmps6
  go_wp2
  go_ret
  exact ⟨ret_int E.out, rfl⟩
theorem runmask_any (x : BitVec 32) (w : World) : Calls Try.prog 7 #[.int .u32 (toI x)] w fun e w' => e = .returned (.int .u32 (toI (unmask x))) ∧ w' = w := by
  have E : Hid (bits .or .u32 ((toI x - 2726488792) % 4294967296 * 32768 % 4294967296) ((toI x - 2726488792) % 4294967296 / 131072) = toI (unmask x)) := by
    show _ = _
    rw [plus_i, sub_m, shl15, shr17, or_i]; rfl
  go_enter Try.func7, Try.ntmps7
  go_wp2
  go_ret
  exact ⟨ret_int E.out, rfl⟩

theorem walk0 (x : BitVec 32) (w : World) :
    Calls Try.prog 3 #[.int .u32 (toI x)] w fun e w' => e = .returned (.bool true) ∧ Grown w w' := by
  have U : Hid (unmask (mask x) = x) := un_mask x
  have V : Hid (mask (unmask x) = x) := mask_un x
  go_enter Try.func3, Try.ntmps3
  go_wp2_with fail
  refine (mask_any x _).mono ?_
  rintro e w' ⟨rfl, rfl⟩
  go_wp2_with fail
  refine (unmask_any x _).mono ?_
  rintro e w' ⟨rfl, rfl⟩
  go_wp2_with fail
  refine (rmask_any x _).mono ?_
  rintro e w' ⟨rfl, rfl⟩
  go_wp2_with fail
  refine (runmask_any x _).mono ?_
  rintro e w' ⟨rfl, rfl⟩
  go_wp2_with fail
  refine (unmask_any (mask x) _).mono ?_
  rintro e w' ⟨rfl, rfl⟩
  rw [U.out]
  go_wp2_with fail
  refine (mask_any (unmask x) _).mono ?_
  rintro e w' ⟨rfl, rfl⟩
  rw [V.out]
  go_wp2_with fail
  go_ret
  exact ⟨rfl, Grown.refl _⟩
theorem walk (a0 : Int) (w0 : (Lit.int .u32 a0).wf = true) (w : World) :
    Calls Try.prog 3 #[.int .u32 a0] w fun e w' => e = .returned (.bool true) ∧ Grown w w' := by
  have := walk0 (BitVec.ofInt 32 a0) w
  rwa [toI_ofI a0 (bu32 w0)] at this

set_option maxRecDepth 100000 in
theorem lifted (os : Os) (started : os.Started) (H : Type) (enc : TypeId × Value → H) :
    ReturnsInHanded {} Try.checked os 3 .any (Rows.checkMasksSpec.pre6 enc Try.prog Try.f3 Rows.checkMasksRow.domain false) (Rows.checkMasksSpec.post enc Try.prog Try.f3 false true false false) := by
  refine returnsInHanded_of_change (C := Try.checked) own started (by kernel_rfl) Try.func3
    (ChangeSpec.witness6 (enc := enc) (C := Try.checked) false ⟨#[], #[.int .u32 0], []⟩ 8 (by kernel_rfl) (by kernel_rfl) (by kernel_rfl) (by kernel_rfl)) ?_
  intro W base args ds gs before hval0 hW hcnd _
  have hval : ∀ (j : Nat) t v, Try.f3.params[j]? = some t → args[j]? = some v → Value.okWide Try.prog W .any base t v := hval0
  have hW' := hW
  obtain ⟨p, q, hA0, hV, rfl, hfz, hnd⟩ := hW
  have hA : DataW.TrodAll enc Try.prog W 0 (fun _ => true) true Try.f3.params.toList args.toList ds p := hA0
  rw [Try.params3] at hA hval
  obtain ⟨v0, vs0, d0, ds0, p0, q0, hargs, rfl, rfl, h0, r0⟩ := trodAll_cons hA
  obtain ⟨rfl, rfl, rfl⟩ := trodAll_nil r0
  obtain rfl : args = #[v0] := by cases args; simp_all
  obtain ⟨rfl, rfl⟩ := trodVars_none hV
  obtain ⟨a0, rfl, rfl, rfl, w0⟩ := open_int Try.underlying22 (hval 0 22 v0 rfl rfl) h0
  clear hA0 hval0
  simp only [List.append_nil] at hW'
  refine (walk a0 w0 W).mono fun e W' ⟨he, hg⟩ => ?_
  subst he
  exact ⟨_, rfl, post_of_same (pa := []) (pv := []) hW' (fun _ _ _ => (trodAll_cons_mk (shut_bool Try.underlying4 _) trodAll_mk0)) (fun sp _ => (trodAll_cons_mk (shut_int Try.underlying22 w0) trodAll_mk0)) (fun _ _ => rfl) rfl
    (hg.frame _) hg.2.1 (ok_one (by kernel_rfl) rfl (okWide_bool_mk Try.underlying4 _))⟩

theorem over : Rows.checkMasksRow.holds Try.pinned (OpenSpec.ofChange Rows.checkMasksSpec) :=
  OpenClaim.holds_of_wide 3 Try.f3 rfl rfl rfl rfl rfl rfl rfl ⟨rfl, rfl, rfl, rfl, rfl⟩ rfl rfl rfl rfl rfl (by kernel_rfl) Try.func3 (by kernel_rfl)
    (of_decide_eq_true (by kernel_rfl)) (by unfold Func.isWrapper; first | (rw [if_pos (by decide +kernel)]; kernel_rfl) | (rw [if_neg (by decide +kernel)]; exact ⟨rfl, rfl⟩))
    (fun os started H enc _ => lifted os started H enc)
end Go.Proofs.Ytkgmdhldongloaa.checkMasks
namespace Go.Proofs.Ytkgmdhldongloaa
theorem checkMasks_holds : Rows.CheckMasksSaid := checkMasks.over
#print axioms checkMasks_holds
end Go.Proofs.Ytkgmdhldongloaa

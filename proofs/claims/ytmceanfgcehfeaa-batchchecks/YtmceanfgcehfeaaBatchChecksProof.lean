/- Proved: for all operations BatchChecks returns true: Check and Size of the program tell what the document's definition tells, and what was handed in stays as it was. -/
import Derived.Test.YtmceanfgcehfeaaOc
import Derived.Test.YtmceanfgcehfeaaOo
import Derived.ShutString
import Derived.ChangeOld
import Derived.Below
import Derived.SizedLaws
import Derived.Deep.RegionWith
import Derived.Lib.SmallJoins
namespace Go.Proofs.Ytmceanfgcehfeaa.batchChecks
open Go.Proofs.Ytmceanfgcehfeaa
open Go.Proofs.Ytmceanfgcehfeaa.Ob
open Go.ChangeShapes Go.WideShapes Go.ChangeAt Go.RowKit Go.Joins
open Go.ChangeMaps (open_string shut_string)
set_option linter.unusedVariables false

set_option maxHeartbeats 2000000 in
theorem walk (a : Option Addr) (len cap : Nat) (xs : List O) (w : World) (H : Ops w a len cap xs) (hl : len ≤ 140737488351232 / 40) :
    Calls Try.prog 3 #[.slice a len cap] w fun e w' => e = .returned (.bool true) ∧ Below w.heap.size w w' := by
  have hl' : len ≤ 140737488351232 := by omega
  have HH := hid H
  have hok := hid H.2.2.2.1
  clear H
  have e1 : ((chk xs).1 == (chk xs).1) = true := beq_self_eq_true _
  have e2 : ((chk xs).2 == (chk xs).2) = true := beq_self_eq_true _
  have e3 : ((szr xs).1 == (szr xs).1) = true := beq_self_eq_true _
  have e4 : ((szr xs).2 == (szr xs).2) = true := beq_self_eq_true _
  generalize hC : chk xs = C at e1 e2
  obtain ⟨C1, C2⟩ := C
  generalize hZ : szr xs = Z at e3 e4
  obtain ⟨Z1, Z2⟩ := Z
  have HC := hid hC
  have HZ := hid hZ
  clear hC hZ
  simp only at e1 e2 e3 e4
  go_enter Try.func3, Try.ntmps3
  go_wp2_with fail
  refine (names_any _).mono ?_
  rintro e w' ⟨rfl, rfl⟩
  go_wp2_with fail
  refine (copied_any a len cap xs w' HH.out (by omega)).mono ?_
  rintro e w1 ⟨g, c, rfl, R1, b1⟩
  have HR1 := hid R1
  have HB1 := hid b1
  clear R1 b1
  go_wp2_with fail
  refine (check_any (some ⟨g, 0, none⟩) len c xs w1 (marked_ops HR1.out hok.out) hl').mono ?_
  rintro e w2 ⟨rfl, b2⟩
  have HB2 : Hid (Below w'.heap.size w' w2) := HB1.out.trans (b2.mono HB1.out.size)
  have HR2 := hid (HR1.out.later b2)
  rw [HC.out]
  clear HR1 HB1 b2
  go_wp2_with fail
  refine (rcheck_any a len cap xs w2 (HH.out.later HB2.out) hl').mono ?_
  rintro e w3 ⟨rfl, b3⟩
  have HB3 : Hid (Below w'.heap.size w' w3) := HB2.out.trans (b3.mono HB2.out.size)
  have HR3 := hid (HR2.out.later b3)
  rw [HC.out]
  clear HR2 HB2 b3
  go_wp2_with fail
  refine (size_any (some ⟨g, 0, none⟩) len c xs w3 (marked_ops HR3.out hok.out) hl').mono ?_
  rintro e w4 ⟨rfl, b4⟩
  have HB4 : Hid (Below w'.heap.size w' w4) := HB3.out.trans (b4.mono HB3.out.size)
  have HR4 := hid (HR3.out.later b4)
  rw [HZ.out]
  clear HR3 HB3 b4
  go_wp2_with fail
  refine (rsizes_any a len cap xs w4 (HH.out.later HB4.out) hl').mono ?_
  rintro e w5 ⟨rfl, b5⟩
  have HB5 : Hid (Below w'.heap.size w' w5) := HB4.out.trans (b5.mono HB4.out.size)
  have HR5 := hid (HR4.out.later b5)
  rw [HZ.out]
  clear HR4 HB4 b5
  go_wp2_with fail
  refine (stay_any _ g c a len cap xs w5 HR5.out (HH.out.later HB5.out) hl').mono ?_
  rintro e w6 ⟨rfl, n, rfl⟩
  go_wp2_with fail
  go_ret
  exact ⟨rfl, below_drewN HB5.out n⟩

theorem own : ownKnob Try.prog.godebug = none := by kernel_rfl
theorem laidOut : laidOutB Try.prog = true := by kernel_rfl
theorem u64_bd {v : Int} (h : (Lit.int .u64 v).wf = true) : 0 ≤ v ∧ v ≤ 18446744073709551615 := by
  simpa [Lit.wf, IntKind.min, IntKind.max, IntKind.signed, IntKind.bits] using h
theorem i64_bd {v : Int} (h : (Lit.int .i64 v).wf = true) : -9223372036854775808 ≤ v ∧ v ≤ 9223372036854775807 := by
  simpa [Lit.wf, IntKind.min, IntKind.max, IntKind.signed, IntKind.bits] using h

/-! ### The row's step -/
set_option maxRecDepth 100000 in
theorem lifted (os : Os) (started : os.Started) (H : Type) (enc : TypeId × Value → H) :
    ReturnsInHanded {} Try.checked os 3 .any (Rows.batchChecksSpec.pre6 enc Try.prog Try.f3 Rows.batchChecksRow.domain false) (Rows.batchChecksSpec.post enc Try.prog Try.f3 false true false false) := by
  refine returnsInHanded_of_change_sized (C := Try.checked) own started (by kernel_rfl) Try.func3
    (ChangeSpec.witness6 (enc := enc) (C := Try.checked) false ⟨#[], #[.slice none 0 0], []⟩ 8 (by kernel_rfl) (by kernel_rfl) (by kernel_rfl) (by kernel_rfl)) ?_
  intro W base args ds gs before hval0 hW hcnd hsz0 _
  have hval : ∀ (j : Nat) t v, Try.f3.params[j]? = some t → args[j]? = some v → Value.okWide Try.prog W .any base t v := hval0
  have hsz : (DataW.weightsEach Try.prog (Try.f3.params.toList ++ Rows.batchChecksSpec.plain.varTypes Try.prog) (ds ++ gs)).all (· ≤ reachBytes) = true := hsz0
  have hW' := hW
  obtain ⟨p, q, hA0, hV, rfl, hfz, hnd⟩ := hW
  have hA : DataW.TrodAll enc Try.prog W 0 (fun _ => true) true Try.f3.params.toList args.toList ds p := hA0
  rw [Try.params3] at hA hval hsz
  obtain ⟨v0, vs0, d0, ds0, p0, q0, hargs, rfl, rfl, h0, r0⟩ := trodAll_cons hA
  obtain ⟨rfl, rfl, rfl⟩ := trodAll_nil r0
  obtain rfl : args = #[v0] := by cases args; simp_all
  obtain ⟨rfl, rfl⟩ := trodVars_none hV
  obtain ⟨a0, len0, cap0, rfl⟩ := okWide_slice Try.underlying22 (hval 0 22 v0 rfl rfl)
  have k0 := h0
  have lt0 : ∀ x ∈ p0, x.block < W.heap.size := by obtain ⟨m, hm⟩ := k0; exact DataW.trod_lt m _ _ _ hm
  obtain ⟨z0, w0, c0⟩ : ∃ zs, Ob.Ops W a0 len0 cap0 zs ∧ len0 ≤ 140737488351232 / 40 := by
    obtain ⟨fuel, hf⟩ := h0
    obtain ⟨⟨zs, hz⟩, hd⟩ := Ob.open_ops (by simpa [Value.cells] using hf)
    refine ⟨zs, hz, ?_⟩
    rcases hd with ⟨rfl, rfl⟩ | ⟨l, r, hd, hll⟩
    · omega
    · have sz := sized_slice hsz (j := 0) (t := 22) (e := 50) rfl (by simp only [List.cons_append, List.getElem?_cons_zero]; rw [show d0 = _ from hd]) Try.underlying22
      rw [show Try.prog.bytesOf 50 = 40 from by kernel_rfl] at sz
      simp only [reachBytes] at sz
      omega
  clear hA0 hval0
  refine (walk a0 len0 cap0 z0 W w0 c0).mono fun e W' ⟨he, bel⟩ => ?_
  subst he
  exact ⟨_, rfl, _, _, _, [], _, [], hW', trodAll_mk1 (shut_bool Try.underlying4 _), (trodAll_cons_mk (Below.trod laidOut (by kernel_rfl) (of_decide_eq_true (by kernel_rfl)) k0 bel lt0) trodAll_mk0), rfl, bel.frame _, fun h => by cases h⟩

theorem over : Rows.batchChecksRow.holds Try.pinned (OpenSpec.ofChange Rows.batchChecksSpec) :=
  OpenClaim.holds_of_wide 3 Try.f3 rfl rfl rfl rfl rfl rfl rfl ⟨rfl, rfl, rfl, rfl, rfl⟩ rfl rfl rfl rfl rfl (by kernel_rfl) Try.func3 (by kernel_rfl)
    (of_decide_eq_true (by kernel_rfl)) (by unfold Func.isWrapper; first | (rw [if_pos (by decide +kernel)]; kernel_rfl) | (rw [if_neg (by decide +kernel)]; exact ⟨rfl, rfl⟩))
    (fun os started H enc _ => lifted os started H enc)
end Go.Proofs.Ytmceanfgcehfeaa.batchChecks
namespace Go.Proofs.Ytmceanfgcehfeaa
theorem batchChecks_holds : Rows.BatchChecksSaid := batchChecks.over
#print axioms batchChecks_holds
end Go.Proofs.Ytmceanfgcehfeaa

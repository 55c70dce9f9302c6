/- Proved: for every number and all operations BatchWays returns true: what a Builder is given by calls and what is encoded at once has the same bytes, with the size and the head that are told, and going through them tells the operations, numbered on. No condition. -/
import Derived.Test.YtmceanfgcehfeabWx
import Derived.Test.YtmceanfgcehfeabWy
import Derived.Test.YtmceanfgcehfeabOo
import Derived.ShutString
import Derived.ChangeOld
import Derived.Below
import Derived.SizedLaws
import Derived.Deep.RegionWith
import Derived.Lib.SmallJoins
namespace Go.Proofs.Ytmceanfgcehfeab.batchWays
open Go.Proofs.Ytmceanfgcehfeab
open Go.Proofs.Ytmceanfgcehfeab.Ob
open Go.Proofs.Ytmceanfgcehfeab.En
open Go.ChangeShapes Go.WideShapes Go.ChangeAt Go.RowKit Go.Joins
open Go.ChangeMaps (open_string shut_string)
set_option linter.unusedVariables false

theorem walk (s : Int) (a : Option Addr) (len cap : Nat) (xs : List O) (w : World) (hs : 0 ≤ s ∧ s ≤ 18446744073709551615) (H : Ops w a len cap xs) (hl : len ≤ 140737488351232 / 40) :
    Calls Try.prog 7 #[.int .u64 s, .slice a len cap] w fun e w' => e = .returned (.bool true) ∧ Below w.heap.size w w' := by
  by_cases h : encE s xs = 0
  · exact callsIn_wide.1 (Wx.ways_ok s a len cap xs w H (by omega) hs h)
  · exact callsIn_wide.1 (Wy.ways_no s a len cap xs w H (by omega) hs h)
theorem own : ownKnob Try.prog.godebug = none := by kernel_rfl
theorem laidOut : laidOutB Try.prog = true := by kernel_rfl
theorem u64_bd {v : Int} (h : (Lit.int .u64 v).wf = true) : 0 ≤ v ∧ v ≤ 18446744073709551615 := by
  simpa [Lit.wf, IntKind.min, IntKind.max, IntKind.signed, IntKind.bits] using h
theorem i64_bd {v : Int} (h : (Lit.int .i64 v).wf = true) : -9223372036854775808 ≤ v ∧ v ≤ 9223372036854775807 := by
  simpa [Lit.wf, IntKind.min, IntKind.max, IntKind.signed, IntKind.bits] using h

/-! ### The row's step -/
set_option maxRecDepth 100000 in
theorem lifted (os : Os) (started : os.Started) (H : Type) (enc : TypeId × Value → H) :
    ReturnsInHanded {} Try.checked os 7 .any (Rows.batchWaysSpec.pre6 enc Try.prog Try.f7 Rows.batchWaysRow.domain false) (Rows.batchWaysSpec.post enc Try.prog Try.f7 false true false false) := by
  refine returnsInHanded_of_change_sized (C := Try.checked) own started (by kernel_rfl) Try.func7
    (ChangeSpec.witness6 (enc := enc) (C := Try.checked) false ⟨#[], #[.int .u64 0, .slice none 0 0], []⟩ 8 (by kernel_rfl) (by kernel_rfl) (by kernel_rfl) (by kernel_rfl)) ?_
  intro W base args ds gs before hval0 hW hcnd hsz0 _
  have hval : ∀ (j : Nat) t v, Try.f7.params[j]? = some t → args[j]? = some v → Value.okWide Try.prog W .any base t v := hval0
  have hsz : (DataW.weightsEach Try.prog (Try.f7.params.toList ++ Rows.batchWaysSpec.plain.varTypes Try.prog) (ds ++ gs)).all (· ≤ reachBytes) = true := hsz0
  have hW' := hW
  obtain ⟨p, q, hA0, hV, rfl, hfz, hnd⟩ := hW
  have hA : DataW.TrodAll enc Try.prog W 0 (fun _ => true) true Try.f7.params.toList args.toList ds p := hA0
  rw [Try.params7] at hA hval hsz
  obtain ⟨v0, vs0, d0, ds0, p0, q0, hargs, rfl, rfl, h0, r0⟩ := trodAll_cons hA
  obtain ⟨v1, vs1, d1, ds1, p1, q1, rfl, rfl, rfl, h1, r1⟩ := trodAll_cons r0
  obtain ⟨rfl, rfl, rfl⟩ := trodAll_nil r1
  obtain rfl : args = #[v0, v1] := by cases args; simp_all
  obtain ⟨rfl, rfl⟩ := trodVars_none hV
  obtain ⟨a0, rfl, rfl, rfl, w0⟩ := open_int Try.underlying28 (hval 0 28 v0 rfl rfl) h0
  obtain ⟨a1, len1, cap1, rfl⟩ := okWide_slice Try.underlying26 (hval 1 26 v1 rfl rfl)
  have k1 := h1
  have lt1 : ∀ x ∈ p1, x.block < W.heap.size := by obtain ⟨m, hm⟩ := k1; exact DataW.trod_lt m _ _ _ hm
  obtain ⟨z1, w1, c1⟩ : ∃ zs, Ob.Ops W a1 len1 cap1 zs ∧ len1 ≤ 140737488351232 / 40 := by
    obtain ⟨fuel, hf⟩ := h1
    obtain ⟨⟨zs, hz⟩, hd⟩ := Ob.open_ops (by simpa [Value.cells] using hf)
    refine ⟨zs, hz, ?_⟩
    rcases hd with ⟨rfl, rfl⟩ | ⟨l, r, hd, hll⟩
    · omega
    · have sz := sized_slice hsz (j := 1) (t := 26) (e := 60) rfl (by simp only [List.cons_append, List.getElem?_cons_succ, List.getElem?_cons_zero]; rw [show d1 = _ from hd]) Try.underlying26
      rw [show Try.prog.bytesOf 60 = 40 from by kernel_rfl] at sz
      simp only [reachBytes] at sz
      omega
  clear hA0 hval0
  refine (walk a0 a1 len1 cap1 z1 W (u64_bd w0) w1 c1).mono fun e W' ⟨he, bel⟩ => ?_
  subst he
  exact ⟨_, rfl, _, _, _, [], _, [], hW', trodAll_mk1 (shut_bool Try.underlying4 _), (trodAll_cons_mk (shut_int Try.underlying28 w0) (trodAll_cons_mk (Below.trod laidOut (by kernel_rfl) (of_decide_eq_true (by kernel_rfl)) k1 bel lt1) trodAll_mk0)), rfl, bel.frame _, fun h => by cases h⟩

theorem over : Rows.batchWaysRow.holds Try.pinned (OpenSpec.ofChange Rows.batchWaysSpec) :=
  OpenClaim.holds_of_wide 7 Try.f7 rfl rfl rfl rfl rfl rfl rfl ⟨rfl, rfl, rfl, rfl, rfl⟩ rfl rfl rfl rfl rfl (by kernel_rfl) Try.func7 (by kernel_rfl)
    (of_decide_eq_true (by kernel_rfl)) (by unfold Func.isWrapper; first | (rw [if_pos (by decide +kernel)]; kernel_rfl) | (rw [if_neg (by decide +kernel)]; exact ⟨rfl, rfl⟩))
    (fun os started H enc _ => lifted os started H enc)
end Go.Proofs.Ytmceanfgcehfeab.batchWays
namespace Go.Proofs.Ytmceanfgcehfeab
theorem batchWays_holds : Rows.BatchWaysSaid := batchWays.over
#print axioms batchWays_holds
end Go.Proofs.Ytmceanfgcehfeab

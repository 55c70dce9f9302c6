/- MemOrder, whatever the operations, the turn and the one that asks: the operations that were taken are all taken again in another order and with other heights, and the entries, the answers, the sizes and the numbers are the same. No condition. -/
import Derived.Test.YtefihoohdaegeaaMo
import Derived.Test.YtefihoohdaegeaaOa
import Derived.Deep.RegionWith
namespace Go.Proofs.Ytefihoohdaegeaa.memOrder
open Go.ChangeShapes Go.WideShapes Go.ChangeAt Go.RowKit Go.Joins
open Go.Proofs.Ytefihoohdaegeaa.Fl
open Go.Proofs.Ytefihoohdaegeaa.Oa
set_option linter.unusedVariables false
set_option linter.unusedSimpArgs false

theorem own : ownKnob Try.prog.godebug = none := by kernel_rfl
theorem laidOut : laidOutB Try.prog = true := by kernel_rfl

/-! ### The row's step -/
set_option maxRecDepth 100000 in
theorem lifted (os : Os) (started : os.Started) (H : Type) (enc : TypeId × Value → H) :
    ReturnsInHanded {} Try.checked os 7 .any (Rows.memOrderSpec.pre6 enc Try.prog Try.f7 Rows.memOrderRow.domain false) (Rows.memOrderSpec.post enc Try.prog Try.f7 false true false false) := by
  refine returnsInHanded_of_change_sized (C := Try.checked) own started (by kernel_rfl) Try.func7
    (ChangeSpec.witness6 (enc := enc) (C := Try.checked) false ⟨#[], #[.slice none 0 0, .int .i64 0, .agg #[.int .i64 0, .int .i64 0, .int .u64 0, .int .i64 0, .string ByteArray.empty, .string ByteArray.empty]], []⟩ 8 (by kernel_rfl) (by kernel_rfl) (by kernel_rfl) (by kernel_rfl)) ?_
  intro W base args ds gs before hval0 hW hcnd hsz0 _
  have hval : ∀ (j : Nat) t v, Try.f7.params[j]? = some t → args[j]? = some v → Value.okWide Try.prog W .any base t v := hval0
  have hsz : (DataW.weightsEach Try.prog (Try.f7.params.toList ++ Rows.memOrderSpec.plain.varTypes Try.prog) (ds ++ gs)).all (· ≤ reachBytes) = true := hsz0
  have hW' := hW
  obtain ⟨p, q, hA0, hV, rfl, hfz, hnd⟩ := hW
  have hA : DataW.TrodAll enc Try.prog W 0 (fun _ => true) true Try.f7.params.toList args.toList ds p := hA0
  rw [Try.params7] at hA hval hsz
  obtain ⟨v0, vs0, d0, ds0, p0, q0, hargs, rfl, rfl, h0, r0⟩ := trodAll_cons hA
  obtain ⟨v1, vs1, d1, ds1, p1, q1, rfl, rfl, rfl, h1, r1⟩ := trodAll_cons r0
  obtain ⟨v2, vs2, d2, ds2, p2, q2, rfl, rfl, rfl, h2, r2⟩ := trodAll_cons r1
  obtain ⟨rfl, rfl, rfl⟩ := trodAll_nil r2
  obtain rfl : args = #[v0, v1, v2] := by cases args; simp_all
  obtain ⟨rfl, rfl⟩ := trodVars_none hV
  obtain ⟨a0, len0, cap0, rfl⟩ := okWide_slice Try.underlying22 (hval 0 22 v0 rfl rfl)
  have k0 := h0
  have lt0 : ∀ x ∈ p0, x.block < W.heap.size := by obtain ⟨m, hm⟩ := k0; exact DataW.trod_lt m _ _ _ hm
  obtain ⟨z0, w0, c0⟩ : ∃ zs, Acts W a0 len0 cap0 zs ∧ len0 ≤ 2199023255552 := by
    obtain ⟨fuel, hf⟩ := h0
    obtain ⟨⟨zs, hz⟩, hd⟩ := open_acts (by simpa [Value.cells] using hf)
    refine ⟨zs, hz, ?_⟩
    rcases hd with ⟨rfl, rfl⟩ | ⟨l, r, hd, hll⟩
    · omega
    · have sz := sized_slice hsz (j := 0) (t := 22) (e := 34) rfl (by simp only [List.cons_append, List.getElem?_cons_zero, List.getElem?_cons_succ]; rw [show d0 = _ from hd]) Try.underlying22
      rw [show Try.prog.bytesOf 34 = 64 from by kernel_rfl] at sz
      simp only [reachBytes] at sz
      omega
  obtain ⟨a1, rfl, rfl, rfl, w1⟩ := open_int Try.underlying3 (hval 1 3 v1 rfl rfl) h1
  have k2 := h2
  have lt2 : ∀ x ∈ p2, x.block < W.heap.size := by obtain ⟨m, hm⟩ := k2; exact DataW.trod_lt m _ _ _ hm
  obtain ⟨z2, w2, rfl⟩ : ∃ e : A6, e.ok ∧ v2 = .agg #[.int .i64 e.kd, .int .i64 e.ht, .int .u64 e.sq, .int .i64 e.c, .string e.k, .string e.v] := by
    obtain ⟨m, hm⟩ := k2
    exact act_value (hval 2 34 v2 rfl rfl) hm
  clear hA0 hval0
  refine (Mo.order_any a0 len0 cap0 z0 a1 z2 W w0 (by omega) w2).mono fun e W' ⟨he, bel⟩ => ?_
  subst he
  exact ⟨_, rfl, _, _, _, [], _, [], hW', trodAll_mk1 (shut_bool Try.underlying4 _), (trodAll_cons_mk (Below.trod laidOut (by kernel_rfl) (of_decide_eq_true (by kernel_rfl)) k0 bel lt0) (trodAll_cons_mk (shut_int Try.underlying3 w1) (trodAll_cons_mk (Below.trod laidOut (by kernel_rfl) (of_decide_eq_true (by kernel_rfl)) k2 bel lt2) trodAll_mk0))), rfl, bel.frame _, fun h => by cases h⟩

theorem over : Rows.memOrderRow.holds Try.pinned (OpenSpec.ofChange Rows.memOrderSpec) :=
  OpenClaim.holds_of_wide 7 Try.f7 rfl rfl rfl rfl rfl rfl rfl ⟨rfl, rfl, rfl, rfl, rfl⟩ rfl rfl rfl rfl rfl (by kernel_rfl) Try.func7 (by kernel_rfl)
    (of_decide_eq_true (by kernel_rfl)) (by unfold Func.isWrapper; first | (rw [if_pos (by decide +kernel)]; kernel_rfl) | (rw [if_neg (by decide +kernel)]; exact ⟨rfl, rfl⟩))
    (fun os started H enc _ => lifted os started H enc)
end Go.Proofs.Ytefihoohdaegeaa.memOrder
namespace Go.Proofs.Ytefihoohdaegeaa
theorem memOrder_holds : Rows.MemOrderSaid := memOrder.over
#print axioms memOrder_holds
end Go.Proofs.Ytefihoohdaegeaa

/- Proved: for every quota, every list of calls of a disk, and every two lists that go on, one on the disk and one on a clone of it, DiskClones returns true: a clone is the same as its disk; behind each call of the one or the other the answers are the document's, Same tells just what the document's Same tells, both ways about; at the end all that can be seen of both is what the document's disks show; no disk is the same as none. No condition. -/
import Derived.Test.YtgffojafdjcdoaaQr
import Derived.Test.YtgffojafdjcdoaaOt
import Derived.Deep.RegionWith
namespace Go.Proofs.Ytgffojafdjcdoaa.diskClones
open Go.ChangeShapes Go.WideShapes Go.ChangeAt Go.RowKit Go.Joins
open Go.ChangeMaps (open_string shut_string)
open Go.Proofs.Ytgffojafdjcdoaa.Ac
open Go.Proofs.Ytgffojafdjcdoaa.Df
open Go.Proofs.Ytgffojafdjcdoaa.Dk
open Go.Proofs.Ytgffojafdjcdoaa.Ll
set_option linter.unusedVariables false

theorem open_actsw {H : Type} {enc : TypeId × Value → H} {W : World} {v : Value} {fuel : Nat} {y : DataW H × List MemPlace} (hf : DataW.trod enc Try.prog W 0 (fun _ => true) true fuel 22 [v] = some y) (hs : ∀ m ∈ y.1.weights Try.prog 22, m ≤ reachBytes) :
    ∃ a len cap, v = .slice a len cap ∧ (∃ xs, Acts W a len cap xs) ∧ len ≤ 140737488351232 := by
  rcases Deep.open_slice Try.underlying22 hf with ⟨hcs, hx⟩ | ⟨ad, l, c, m, n, D, Pl, hcs, hb, hl, hm, hmm, hx, hcell⟩
  · simp at hcs
    subst hcs
    exact ⟨none, 0, 0, rfl, Ot.open_acts hf hs⟩
  · simp at hcs
    subst hcs
    exact ⟨some ad, l, c, rfl, Ot.open_acts hf hs⟩

theorem walk (q : Int) (a : Option Addr) (len cap : Nat) (xs : List A) (am : Option Addr) (lm cm : Nat) (ms : List A) (ao_ : Option Addr) (lo_ co_ : Nat) (os : List A) (w : World) (hq : -9223372036854775808 ≤ q ∧ q ≤ 9223372036854775807) (H : Acts w a len cap xs) (hl : len ≤ 140737488351232) (HM : Acts w am lm cm ms) (hlm : lm ≤ 140737488351232) (HO : Acts w ao_ lo_ co_ os) (hlo : lo_ ≤ 140737488351232) :
    Calls Try.prog 4 #[.int .i64 q, .slice a len cap, .agg #[.slice am lm cm, .slice ao_ lo_ co_]] w fun e w' => e = .returned (.bool true) ∧ Below w.heap.size w w' := by
  cases h : isQ q with
  | false => exact Qr.clones_no q a len cap xs am lm cm ms ao_ lo_ co_ os w H hl HM hlm HO hlo h
  | true => exact Qq.clones_yes q a len cap xs am lm cm ms ao_ lo_ co_ os w H hl HM hlm HO hlo h
theorem own : ownKnob Try.prog.godebug = none := by kernel_rfl
theorem laidOut : laidOutB Try.prog = true := by kernel_rfl
theorem u64_bd {v : Int} (h : (Lit.int .u64 v).wf = true) : 0 ≤ v ∧ v ≤ 18446744073709551615 := by
  simpa [Lit.wf, IntKind.min, IntKind.max, IntKind.signed, IntKind.bits] using h
theorem i64_bd {v : Int} (h : (Lit.int .i64 v).wf = true) : -9223372036854775808 ≤ v ∧ v ≤ 9223372036854775807 := by
  simpa [Lit.wf, IntKind.min, IntKind.max, IntKind.signed, IntKind.bits] using h

/-! ### The row's step -/
set_option maxRecDepth 100000 in
theorem lifted (os : Os) (started : os.Started) (H : Type) (enc : TypeId × Value → H) :
    ReturnsInHanded {} Try.checked os 4 .any (Rows.diskClonesSpec.pre6 enc Try.prog Try.f4 Rows.diskClonesRow.domain false) (Rows.diskClonesSpec.post enc Try.prog Try.f4 false true false false) := by
  refine returnsInHanded_of_change_sized (C := Try.checked) own started (by kernel_rfl) Try.func4
    (ChangeSpec.witness6 (enc := enc) (C := Try.checked) false ⟨#[], #[.int .i64 0, .slice none 0 0, .agg #[.slice none 0 0, .slice none 0 0]], []⟩ 8 (by kernel_rfl) (by kernel_rfl) (by kernel_rfl) (by kernel_rfl)) ?_
  intro W base args ds gs before hval0 hW hcnd hsz0 _
  have hval : ∀ (j : Nat) t v, Try.f4.params[j]? = some t → args[j]? = some v → Value.okWide Try.prog W .any base t v := hval0
  have hsz : (DataW.weightsEach Try.prog (Try.f4.params.toList ++ Rows.diskClonesSpec.plain.varTypes Try.prog) (ds ++ gs)).all (· ≤ reachBytes) = true := hsz0
  have hW' := hW
  obtain ⟨p, q, hA0, hV, rfl, hfz, hnd⟩ := hW
  have hA : DataW.TrodAll enc Try.prog W 0 (fun _ => true) true Try.f4.params.toList args.toList ds p := hA0
  rw [Try.params4] at hA hval hsz
  obtain ⟨v0, vs0, d0, ds0, p0, q0, hargs, rfl, rfl, h0, r0⟩ := trodAll_cons hA
  obtain ⟨v1, vs1, d1, ds1, p1, q1, rfl, rfl, rfl, h1, r1⟩ := trodAll_cons r0
  obtain ⟨v2, vs2, d2, ds2, p2, q2, rfl, rfl, rfl, h2, r2⟩ := trodAll_cons r1
  obtain ⟨rfl, rfl, rfl⟩ := trodAll_nil r2
  obtain rfl : args = #[v0, v1, v2] := by cases args; simp_all
  obtain ⟨rfl, rfl⟩ := trodVars_none hV
  obtain ⟨a0, rfl, rfl, rfl, w0⟩ := open_int Try.underlying3 (hval 0 3 v0 rfl rfl) h0
  have k1 := h1
  have lt1 : ∀ x ∈ p1, x.block < W.heap.size := by obtain ⟨m, hm⟩ := k1; exact DataW.trod_lt m _ _ _ hm
  have hws1 : ∀ m ∈ d1.weights Try.prog 22, m ≤ reachBytes := fun m hm => by
    have := List.all_eq_true.1 hsz m (DataW.weights_mem_each (j := 1) (t := 22) (d := d1) rfl rfl m hm)
    simpa using this
  obtain ⟨a1, len1, cap1, rfl⟩ := okWide_slice Try.underlying22 (hval 1 22 v1 rfl rfl)
  obtain ⟨⟨z1, w1⟩, c1⟩ : (∃ xs, Ll.Acts W a1 len1 cap1 xs) ∧ len1 ≤ 140737488351232 := by
    obtain ⟨fuel, hf⟩ := h1
    exact Ot.open_acts (by simpa [Value.cells] using hf) hws1
  have k2 := h2
  have lt2 : ∀ x ∈ p2, x.block < W.heap.size := by obtain ⟨m, hm⟩ := k2; exact DataW.trod_lt m _ _ _ hm
  have hws2 : ∀ m ∈ d2.weights Try.prog 40, m ≤ reachBytes := fun m hm => by
    have := List.all_eq_true.1 hsz m (DataW.weights_mem_each (j := 2) (t := 40) (d := d2) rfl rfl m hm)
    simpa using this
  obtain ⟨c20, c21, y20, y21, m2, rfl, hd2, hp2, hy20, hy21⟩ := open_agg2 Try.underlying40 (by kernel_rfl) (by kernel_rfl) (hval 2 40 v2 rfl rfl) h2
  obtain ⟨a20, l20, k20, rfl, ⟨x20, o20⟩, b20⟩ := open_actsw hy20 (fun q hq => hws2 q (by rw [hd2]; simp only [DataW.weights, Try.underlying40]; exact DataW.weights_mem_each (j := 0) (d := y20.1) rfl rfl q hq))
  obtain ⟨a21, l21, k21, rfl, ⟨x21, o21⟩, b21⟩ := open_actsw hy21 (fun q hq => hws2 q (by rw [hd2]; simp only [DataW.weights, Try.underlying40]; exact DataW.weights_mem_each (j := 1) (d := y21.1) rfl rfl q hq))
  clear hA0 hval0
  refine (walk a0 a1 len1 cap1 z1 a20 l20 k20 x20 a21 l21 k21 x21 W (i64_bd w0) w1 c1 o20 b20 o21 b21).mono fun e W' ⟨he, bel⟩ => ?_
  subst he
  exact ⟨_, rfl, _, _, _, [], _, [], hW', trodAll_mk1 (shut_bool Try.underlying4 _), (trodAll_cons_mk (shut_int Try.underlying3 w0) (trodAll_cons_mk (Below.trod laidOut (by kernel_rfl) (of_decide_eq_true (by kernel_rfl)) k1 bel lt1) (trodAll_cons_mk (Below.trod laidOut (by kernel_rfl) (of_decide_eq_true (by kernel_rfl)) k2 bel lt2) trodAll_mk0))), rfl, bel.frame _, fun h => by cases h⟩

theorem over : Rows.diskClonesRow.holds Try.pinned (OpenSpec.ofChange Rows.diskClonesSpec) :=
  OpenClaim.holds_of_wide 4 Try.f4 rfl rfl rfl rfl rfl rfl rfl ⟨rfl, rfl, rfl, rfl, rfl⟩ rfl rfl rfl rfl rfl (by kernel_rfl) Try.func4 (by kernel_rfl)
    (of_decide_eq_true (by kernel_rfl)) (by unfold Func.isWrapper; first | (rw [if_pos (by decide +kernel)]; kernel_rfl) | (rw [if_neg (by decide +kernel)]; exact ⟨rfl, rfl⟩))
    (fun os started H enc _ => lifted os started H enc)
end Go.Proofs.Ytgffojafdjcdoaa.diskClones
namespace Go.Proofs.Ytgffojafdjcdoaa
theorem diskClones_holds : Rows.DiskClonesSaid := diskClones.over
#print axioms diskClones_holds
end Go.Proofs.Ytgffojafdjcdoaa

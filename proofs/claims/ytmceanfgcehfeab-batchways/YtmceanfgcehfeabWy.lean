/- BatchWays, walked: where Encode refuses. -/
import Derived.Test.YtmceanfgcehfeabWz
import Derived.Test.YtmceanfgcehfeabEd
import Derived.Test.YtmceanfgcehfeabWk
import Derived.Laws.StructEq
namespace Go.Proofs.Ytmceanfgcehfeab.Wy
open Go.ChangeShapes Go.WideShapes Go.ChangeAt Go.RowKit Go.Shelf
open Go.Proofs.Ytmceanfgcehfeab.By
open Go.Proofs.Ytmceanfgcehfeab.Ob
open Go.Proofs.Ytmceanfgcehfeab.En
open Go.Proofs.Ytmceanfgcehfeab.Iv
set_option linter.unusedVariables false
set_option linter.unusedSimpArgs false
attribute [local go_sem] Oper.semAt_some
theorem new_box {W : World} {n : Nat} (h : n = W.heap.size) (t : TypeId) (v : Value) : Boxed (W.alloc (.cells #[v] t)) n t v := by rw [h]; exact Boxed.new W t v
set_option maxRecDepth 100000 in
set_option maxHeartbeats 4000000 in
theorem ways_no (s : Int) (a : Option Addr) (len cap : Nat) (xs : List O) (w : World) (H : Ops w a len cap xs) (hl : len ≤ 140737488351232) (hs : 0 ≤ s ∧ s ≤ 18446744073709551615) (hE : encE s xs ≠ 0) :
    CallsIn Fence.wide 8 Try.prog 7 #[.int .u64 s, .slice a len cap] w fun r w' => r = .returned (.bool true) ∧ Below w.heap.size w w' := by
  refine callsIn_of_wp_marks Try.func7 rfl trivial ?_ rfl
  simp only [Try.ntmps7, List.size_toArray, List.length_cons, List.length_nil, Nat.reduceAdd, Nat.reduceSub, Array.replicate_succ, Array.replicate_zero, List.push_toArray, List.append_toArray, List.nil_append, List.cons_append]
  obtain ⟨n0, hn0⟩ : ∃ n0, n0 = w.heap.size := ⟨_, rfl⟩
  obtain ⟨W2, hW2⟩ : ∃ W, W = ((w.alloc (.cells #[.int .u64 s] 28)).alloc (.cells #[.slice a len cap] 26)).alloc (.cells #[.bool false] 4) := ⟨_, rfl⟩
  have s2 : W2.heap.size = n0 + 3 := by rw [hW2, hn0]; simp
  have B2 : Below n0 w W2 := by rw [hW2, hn0]; exact ((box_below w _).alloc (by simp) _).alloc (by simp; omega) _
  have k0 : Boxed W2 n0 28 (.int .u64 s) := by rw [hW2]; exact ((new_box hn0 _ _).alloc _).alloc _
  have k1 : Boxed W2 (n0 + 1) 26 (.slice a len cap) := by rw [hW2]; exact (new_box (by simp; omega) _ _).alloc _
  have k2 : Boxed W2 (n0 + 1 + 1) 4 (.bool false) := by rw [hW2]; exact new_box (by simp; omega) _ _
  have HO := hid (H.later (by rw [hn0] at B2; exact B2) : Ops W2 a len cap xs)
  have nz : (encE s xs != 0) = true := by simpa using hE
  replace H := hid H
  replace k0 := hid k0
  replace k1 := hid k1
  replace k2 := hid k2
  replace B2 := hid B2
  replace hW2 := hid hW2
  replace hn0 := hid hn0
  replace s2 := hid s2
  gi_wp2_with fail
  rw [← hn0.out, ← hW2.out]
  refine ⟨trivial, (callsIn_wide.2 (Wk.works_any _)).mono ?_⟩
  rintro r w3 ⟨rfl, b3⟩
  have c0 := (show Boxed w3 _ _ _ from (b3.block _ k0.out.lt).trans k0.out).cell
  have c1 := (show Boxed w3 _ _ _ from (b3.block _ k1.out.lt).trans k1.out).cell
  have HO3 := hid (HO.out.later b3)
  replace b3 := hid b3
  gi_wp2_with fail
  refine ⟨trivial, (callsIn_wide.2 (encode_no s a len cap xs _ HO3.out hl hs hE)).mono ?_⟩
  rintro r w4 ⟨rfl, b4⟩
  have B4 : Below n0 w w4 := B2.out.trans ((b3.out.trans (b4.mono b3.out.size)).mono (by have := s2.out; omega))
  have b24 : Below W2.heap.size W2 w4 := b3.out.trans (b4.mono b3.out.size)
  have kb : Boxed w4 (n0 + 1 + 1) 4 (.bool false) := (b24.block _ k2.out.lt).trans k2.out
  have cb := kb.cell
  have fb := kb.frozen
  have kc := hid (Boxed.set (.bool true) kb)
  have BF := hid (B4.setCell (p := ⟨n0 + 1 + 1, 0, none⟩) (show n0 ≤ n0 + 1 + 1 by omega) (.bool true))
  clear B4 b24 kb b4
  gi_wp2_with fail
  refine ⟨.bool true, ?_, rfl, ?_⟩
  · simp [results, Try.results7, go_sem, kc.out.cell]
  · rw [← hn0.out]; exact BF.out
end Go.Proofs.Ytmceanfgcehfeab.Wy

/- What a list that is none answers: nil, or as it is declared. -/
import Derived.Test.YtgjodfaliajlgaaLq9
namespace Go.Proofs.Ytgjodfaliajlgaa.No9
open Go.ChangeShapes Go.WideShapes Go.ChangeAt Go.RowKit
open Go.Sort (grow)
open Go.Proofs.Ytgjodfaliajlgaa.Gr hiding hid addr_add
open Go.Proofs.Ytgjodfaliajlgaa.Ik
open Go.Proofs.Ytgjodfaliajlgaa.Ee
open Go.Proofs.Ytgjodfaliajlgaa.Ls9
open Go.Proofs.Ytgjodfaliajlgaa.Sk9
open Go.Proofs.Ytgjodfaliajlgaa.Lq9
open Go.Proofs.Ytgjodfaliajlgaa.Cm (ik)
set_option linter.unusedVariables false
set_option linter.unusedSimpArgs false

/-- The pointer's block. -/
def Pv (v : Value) (j : Nat) : Prop := v = .pointer (some ⟨j, 0, none⟩)
def Nl (w : World) (v : Value) : Prop := v = .pointer none ∨ ∃ g i, v = .pointer (some ⟨g, 0, none⟩) ∧ Lp w g 0 0 i [] ∧ -1 ≤ i ∧ i ≤ ((0 : Nat) : Int)
theorem Nl.later {w w' : World} {v : Value} (h : Nl w v) (b : Below w.heap.size w w') : Nl w' v := by
  rcases h with h | ⟨g, i, h1, h2, h3⟩
  · exact .inl h
  · exact .inr ⟨g, i, h1, h2.later b, h3⟩
theorem pv_wide {g : Nat} {w w' : World} (h : Fp (· = g) w w') : Fp (Pv (.pointer (some ⟨g, 0, none⟩))) w w' := h.wide (fun j _ h => by rw [h]; rfl)
theorem hb0 (j : Int) : hb 0 j = false := by
  unfold hb
  by_cases h : 0 ≤ j
  · have : ¬ j < ((0 : Nat) : Int) := by omega
    simp [this]
  · simp [h]
theorem cut0 (k : ByteArray) (s c : Int) : Cut [] (ik k s c) 0 := by
  first | exact ⟨Nat.le_refl _, fun j hj => by omega, fun j h1 h2 => by simp at h2⟩ | (constructor <;> simp)
set_option maxHeartbeats 1000000 in
set_option maxRecDepth 20000 in
theorem nl_Here (v : Value) (w : World) (h : Nl w v) : Calls Try.prog 16 #[v] w fun e w' => e = .returned (.tuple #[.agg (c4 ze), .bool false]) ∧ Below w.heap.size w w' := by
  rcases h with rfl | ⟨g, i, rfl, h2, _⟩
  · obtain ⟨W0, hW0⟩ : ∃ W, W = w.alloc (.cells #[.string ⟨#[]⟩, .int .u64 0, .int .i64 0, .string ⟨#[]⟩] 43) := ⟨_, rfl⟩
    have B0 : Below w.heap.size w W0 := by rw [hW0]; exact box_below _ _
    obtain ⟨gr, hgr⟩ : ∃ n, n = w.heap.size := ⟨_, rfl⟩
    have kR : W0.heap[gr]? = some (.cells #[.string ⟨#[]⟩, .int .u64 0, .int .i64 0, .string ⟨#[]⟩] 43) := by rw [hW0, hgr]; exact new_at _ _
    have z0 := cell_of kR 0 (.string ⟨#[]⟩) rfl
    have z1 := cell_of kR 1 (.int .u64 0) rfl
    have z2 := cell_of kR 2 (.int .i64 0) rfl
    have z3 := cell_of kR 3 (.string ⟨#[]⟩) rfl
    have f0 := fz_of kR 0
    have f1 := fz_of kR 1
    have f2 := fz_of kR 2
    have f3 := fz_of kR 3
    replace hW0 := hid hW0
    replace hgr := hid hgr
    replace B0 := hid B0
    replace kR := hid kR
    have hfin : Hid (∀ q, Below W0.heap.size W0 (W0.drewN q)) := fun q => drewN_below _ _
    unfold c4 ze
    dsimp only
    go_enter Try.func16, Try.ntmps16
    go_wp2_with fail
    rw [← hW0.out, ← hgr.out]
    go_quiet (fail)
    go_wp2_with fail
    have bD := hfin.out nq
    generalize W0.drewN nq = D at *
    have kD := (bD.block gr (blk_lt kR.out)).trans kR.out
    have k4 := set_of (set_of (set_of (set_of kD 0 (.string ⟨#[]⟩)) 1 (.int .u64 0)) 2 (.int .i64 0)) 3 (.string ⟨#[]⟩)
    have BF : Below w.heap.size w ((((D.setCell ⟨gr, 0, none⟩ (.string ⟨#[]⟩)).setCell ⟨gr, 1, none⟩ (.int .u64 0)).setCell ⟨gr, 2, none⟩ (.int .i64 0)).setCell ⟨gr, 3, none⟩ (.string ⟨#[]⟩)) := by
      have h0 := Below.up B0.out bD
      have hg : w.heap.size ≤ gr := by rw [hgr.out]; exact Nat.le_refl _
      exact (((h0.setCell hg _).setCell hg _).setCell hg _).setCell hg _
    generalize hWF : (((D.setCell ⟨gr, 0, none⟩ (.string ⟨#[]⟩)).setCell ⟨gr, 1, none⟩ (.int .u64 0)).setCell ⟨gr, 2, none⟩ (.int .i64 0)).setCell ⟨gr, 3, none⟩ (.string ⟨#[]⟩) = WF at *
    have q0 := cell_of k4 0 (.string ⟨#[]⟩) rfl
    have q1 := cell_of k4 1 (.int .u64 0) rfl
    have q2 := cell_of k4 2 (.int .i64 0) rfl
    have q3 := cell_of k4 3 (.string ⟨#[]⟩) rfl
    exact bodyPost_ret (v := .tuple #[.agg #[.string ⟨#[]⟩, .int .u64 0, .int .i64 0, .string ⟨#[]⟩], .bool false]) (by simp [results, Try.results16, go_sem, q0, q1, q2, q3]) rfl ⟨rfl, BF⟩
  · have := lhere_any g 0 0 i [] w h2
    rw [hb0] at this
    exact this.mono (fun e w' h => ⟨by rw [h.1]; unfold hv hr; rw [if_neg (by simp <;> omega)]; rfl, h.2⟩)
set_option maxHeartbeats 1000000 in
set_option maxRecDepth 20000 in
theorem nl_First (v : Value) (w : World) (h : Nl w v) : Calls Try.prog 17 #[v] w fun e w' => e = .returned (.bool false) ∧ Nl w' v ∧ Fp (Pv v) w w' := by
  rcases h with rfl | ⟨g, i, rfl, h2, h3⟩
  · go_enter Try.func17, Try.ntmps17
    go_wp2_with fail
    go_ret
    exact ⟨rfl, .inl rfl, Fp.refl _ _⟩
  · have := first_any g 0 0 i [] w h2 h3 (by omega)
    rw [hb0] at this
    exact this.mono (fun e w' h => ⟨h.1, .inr ⟨g, _, rfl, h.2.1, by omega, by omega⟩, pv_wide h.2.2⟩)
set_option maxHeartbeats 1000000 in
set_option maxRecDepth 20000 in
theorem nl_Last (v : Value) (w : World) (h : Nl w v) : Calls Try.prog 18 #[v] w fun e w' => e = .returned (.bool false) ∧ Nl w' v ∧ Fp (Pv v) w w' := by
  rcases h with rfl | ⟨g, i, rfl, h2, h3⟩
  · go_enter Try.func18, Try.ntmps18
    go_wp2_with fail
    go_ret
    exact ⟨rfl, .inl rfl, Fp.refl _ _⟩
  · have := last_any g 0 0 i [] w h2 h3 (by omega)
    rw [hb0] at this
    exact this.mono (fun e w' h => ⟨h.1, .inr ⟨g, _, rfl, h.2.1, by omega, by omega⟩, pv_wide h.2.2⟩)
set_option maxHeartbeats 1000000 in
set_option maxRecDepth 20000 in
theorem nl_Next (v : Value) (w : World) (h : Nl w v) : Calls Try.prog 20 #[v] w fun e w' => e = .returned (.bool false) ∧ Nl w' v ∧ Fp (Pv v) w w' := by
  rcases h with rfl | ⟨g, i, rfl, h2, h3⟩
  · go_enter Try.func20, Try.ntmps20
    go_wp2_with fail
    refine region_tail 15 (by kernel_rfl) (by kernel_rfl) ?_
    simp only [List.take_succ_cons, List.take_zero, List.drop_succ_cons, List.drop_zero]
    repeat still_step
    refine wpStill_nil ?_
    go_wp2_with fail
    go_ret
    exact ⟨rfl, .inl rfl, Fp.of (drew_below _)⟩
  · have := next_any g 0 0 i [] w h2 h3 (by omega)
    rw [hb0] at this
    exact this.mono (fun e w' h => ⟨h.1, .inr ⟨g, _, rfl, h.2.1, by omega, by omega⟩, pv_wide h.2.2⟩)
set_option maxHeartbeats 1000000 in
set_option maxRecDepth 20000 in
theorem nl_Prev (v : Value) (w : World) (h : Nl w v) : Calls Try.prog 21 #[v] w fun e w' => e = .returned (.bool false) ∧ Nl w' v ∧ Fp (Pv v) w w' := by
  rcases h with rfl | ⟨g, i, rfl, h2, h3⟩
  · go_enter Try.func21, Try.ntmps21
    go_wp2_with fail
    go_ret
    exact ⟨rfl, .inl rfl, Fp.refl _ _⟩
  · have := prev_any g 0 0 i [] w h2 h3 (by omega)
    rw [hb0] at this
    exact this.mono (fun e w' h => ⟨h.1, .inr ⟨g, _, rfl, h.2.1, by omega, by omega⟩, pv_wide h.2.2⟩)
set_option maxHeartbeats 1000000 in
set_option maxRecDepth 20000 in
theorem nl_Seek (v : Value) (k : ByteArray) (s c : Int) (w : World) (h : Nl w v) : Calls Try.prog 19 #[v, .agg #[.string k, .int .u64 s, .int .i64 c]] w fun e w' => e = .returned (.bool false) ∧ Nl w' v ∧ Fp (Pv v) w w' := by
  rcases h with rfl | ⟨g, i, rfl, h2, h3⟩
  · have BF := hid (box_below w (.cells #[.string k, .int .u64 s, .int .i64 c] 33))
    go_enter Try.func19, Try.ntmps19
    go_wp2_with fail
    go_ret
    exact ⟨rfl, .inl rfl, Fp.of BF.out⟩
  · have := seek_any g 0 0 0 i [] k s c w h2 (by omega) (cut0 _ _ _)
    rw [hb0] at this
    exact this.mono (fun e w' h => ⟨h.1, .inr ⟨g, _, rfl, h.2.1, by omega, by omega⟩, pv_wide h.2.2⟩)
end Go.Proofs.Ytgjodfaliajlgaa.No9

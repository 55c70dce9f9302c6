/- Cursors of a memtable: Cursor, Here, stand, walk, Next, Prev. -/
import Derived.Test.YtefihoohdaegeaaEt
namespace Go.Proofs.Ytefihoohdaegeaa.Cr
open Go.ChangeShapes Go.WideShapes Go.ChangeAt Go.RowKit Go.Shelf
open Go.Sort (grow)
open Go.Proofs.Ytefihoohdaegeaa.Lx (hid)
open Go.Proofs.Ytefihoohdaegeaa.Ee (E ze)
open Go.Proofs.Ytefihoohdaegeaa.Nw (c4)
open Go.Proofs.Ytefihoohdaegeaa.Sg
open Go.Proofs.Ytefihoohdaegeaa.In
open Go.Proofs.Ytefihoohdaegeaa.Fm
open Go.Proofs.Ytefihoohdaegeaa.Tb
open Go.Proofs.Ytefihoohdaegeaa.Eo
open Go.Proofs.Ytefihoohdaegeaa.Pt (region_tail)
open Go.Proofs.Ytefihoohdaegeaa.Mm (box_below)
open Go.Proofs.Ytefihoohdaegeaa.Tr (new_at cell_of size_alloc blk_lt set_of fz_of)
set_option linter.unusedVariables false
set_option linter.unusedSimpArgs false

/-- A cursor's block: its list, where it stands. -/
def Cb (w : World) (gc gl : Nat) (i : Int) : Prop := w.heap[gc]? = some (.cells #[.pointer (some ⟨gl, 0, none⟩), .int .i64 i] 88)
theorem Cb.c0 {w : World} {gc gl : Nat} {i : Int} (h : Cb w gc gl i) : w.cell? ⟨gc, 0, none⟩ = some (.pointer (some ⟨gl, 0, none⟩)) := cell_of h 0 _ rfl
theorem Cb.c1 {w : World} {gc gl : Nat} {i : Int} (h : Cb w gc gl i) : w.cell? ⟨gc, 1, none⟩ = some (.int .i64 i) := cell_of h 1 _ rfl
theorem Cb.lt {w : World} {gc gl : Nat} {i : Int} (h : Cb w gc gl i) : gc < w.heap.size := blk_lt h
theorem Cb.later {w w' : World} {gc gl : Nat} {i : Int} (h : Cb w gc gl i) (b : Below w.heap.size w w') : Cb w' gc gl i := (b.block gc h.lt).trans h
theorem Cb.set {w : World} {gc gl : Nat} {i : Int} (h : Cb w gc gl i) (j : Int) : Cb (w.setCell ⟨gc, 1, none⟩ (.int .i64 j)) gc gl j := by
  unfold Cb at h ⊢
  rw [set_of h]
  rfl
theorem cisnone_any (gc gl : Nat) (i : Int) (w : World) (H : Cb w gc gl i) : Calls Try.prog 59 #[.pointer (some ⟨gc, 0, none⟩)] w fun e w' => e = .returned (.bool false) ∧ w' = w := by
  have c0 := H.c0
  clear H
  go_enter Try.func59, Try.ntmps59
  go_wp2
  go_ret
  exact ⟨rfl, rfl⟩
theorem cursor_any (g gl gs bm : Nat) (S : St) (w : World) (H : Tc w g (S.cells gl gs bm)) : Calls Try.prog 15 #[.pointer (some ⟨g, 0, none⟩)] w fun e w' => e = .returned (.pointer (some ⟨w.heap.size, 0, none⟩)) ∧ Cb w' w.heap.size gl 0 ∧ Below w.heap.size w w' := by
  have HN := hid (isnone_any g gl gs bm S w H)
  have c2 : w.cell? ⟨g, 2, none⟩ = some (.pointer (some ⟨gl, 0, none⟩)) := H.cell 2
  clear H
  go_enter Try.func15, Try.ntmps15
  go_wp2_with fail
  refine HN.out.mono ?_
  rintro e w1 ⟨rfl, rfl⟩
  go_wp2_with fail
  go_ret
  exact ⟨rfl, new_at _ _, box_below _ _⟩
/-- Where a cursor stands behind a step. -/
def std (n e : Int) : Int := if n = 0 then e else n
/-- It stands at one. -/
def nz (n : Int) : Bool := decide (n ≠ 0)
theorem stand_any (gc gl : Nat) (i n e : Int) (w : World) (H : Cb w gc gl i) : Calls Try.prog 71 #[.pointer (some ⟨gc, 0, none⟩), .int .i64 n, .int .i64 e] w fun r w' => r = .returned (.bool (nz n)) ∧ w' = w.setCell ⟨gc, 1, none⟩ (.int .i64 (std n e)) := by
  have c1 := H.c1
  have f1 : w.frozen? ⟨gc, 1, none⟩ = false := fz_of H 1
  clear H
  unfold std nz
  by_cases hn : n = 0
  · rw [if_pos hn, show decide (n ≠ 0) = false by simp [hn]]
    subst hn
    go_enter Try.func71, Try.ntmps71
    go_wp2
    go_ret
    exact ⟨rfl, rfl⟩
  · rw [if_neg hn, show decide (n ≠ 0) = true by simp [hn]]
    have h0 : (n == 0) = false := by simpa using hn
    go_enter Try.func71, Try.ntmps71
    go_wp2
    go_ret
    exact ⟨rfl, rfl⟩

set_option maxHeartbeats 2000000 in
set_option maxRecDepth 100000 in
theorem here_any (base gc gl bl : Nat) (ns : List N) (ord : List Nat) (n : Int) (m : Nat) (x : ByteArray) (hx : (nd ns m).v = .string x ∨ m = 0) (hn : (n = (m : Int) ∧ m ≤ ns.length) ∨ (m = 0 ∧ (n < 1 ∨ (ns.length : Int) < n))) (w : World) (H : Cb w gc gl n) (HS : SL w base gl bl 1048576 ns ord) :
    Calls Try.prog 18 #[.pointer (some ⟨gc, 0, none⟩)] w fun e w' => e = .returned (.tuple #[.agg (c4 (entN ns m)), .bool (decide (m ≠ 0))]) ∧ Below w.heap.size w w' := by
  obtain ⟨W0, hW0⟩ : ∃ W, W = w.alloc (.cells #[.string ⟨#[]⟩, .int .u64 0, .int .i64 0, .string ⟨#[]⟩] 56) := ⟨_, rfl⟩
  have B0 : Below w.heap.size w W0 := by rw [hW0]; exact box_below _ _
  obtain ⟨gr, hgr⟩ : ∃ n, n = w.heap.size := ⟨_, rfl⟩
  have kR : W0.heap[gr]? = some (.cells #[.string ⟨#[]⟩, .int .u64 0, .int .i64 0, .string ⟨#[]⟩] 56) := by rw [hW0, hgr]; exact new_at _ _
  have HN := hid (cisnone_any gc gl n W0 (H.later B0))
  obtain ⟨D, hD⟩ : ∃ D, D = World.drew W0 := ⟨_, rfl⟩
  have BD : Below w.heap.size w D := by rw [hD]; exact B0.drew
  have kD : D.heap[gr]? = some (.cells #[.string ⟨#[]⟩, .int .u64 0, .int .i64 0, .string ⟨#[]⟩] 56) := by rw [hD]; exact kR
  have HE := entryof_any base gl bl ns ord n m x hx hn D (HS.later BD)
  obtain ⟨⟨y1, y2, y3, y4⟩, hy⟩ : ∃ e : E, e = entN ns m := ⟨_, rfl⟩
  rw [← hy] at HE ⊢
  unfold c4 at HE ⊢
  dsimp only at HE ⊢
  have HCD := H.later BD
  have c0 := HCD.c0
  have c1 := HCD.c1
  have hBs : Hid (∀ W, Below w.heap.size w W → ∀ i v, Below w.heap.size w (W.setCell ⟨gr, i, none⟩ v)) := fun W hW i v => hW.setCell (by show w.heap.size ≤ gr; rw [hgr]; exact Nat.le_refl _) v
  generalize decide (m ≠ 0) = ok at *
  replace HE := hid HE
  replace hW0 := hid hW0
  replace hgr := hid hgr
  replace hD := hid hD
  replace BD := hid BD
  replace kD := hid kD
  clear B0 kR H HS HCD hx hn hy
  go_enter Try.func18, Try.ntmps18
  go_wp2_with fail
  rw [← hW0.out, ← hgr.out]
  refine HN.out.mono ?_
  rintro e w1 ⟨rfl, rfl⟩
  go_wp2_with fail
  refine wp_region_any (by kernel_rfl) ?_
  change wpAny _ _ _ _ _ _ _ (World.drew _)
  rw [← hD.out]
  refine wpAny_take (i := 0) (v := ?v1) rfl (by kernel_rfl) (by kernel_rfl) (by kernel_rfl) (fun _ _ _ h => h) (Or.inl ⟨by rfl, ?h1⟩) ?_
  case h1 => (intro w; go_simp; try (with_reducible rfl))
  go_simp
  refine wpAny_take (i := 1) (v := ?v2) rfl (by kernel_rfl) (by kernel_rfl) (by kernel_rfl) (fun _ _ _ h => h) (Or.inl ⟨by rfl, ?h2⟩) ?_
  case h2 => (intro w; go_simp; try (with_reducible rfl))
  go_simp
  refine wpAny_take (i := 2) (v := ?v3) rfl (by kernel_rfl) (by kernel_rfl) (by kernel_rfl) (fun _ _ _ h => h) (Or.inl ⟨by rfl, ?h3⟩) ?_
  case h3 => (intro w; go_simp; try (with_reducible rfl))
  go_simp
  refine wpAny_take (i := 4) (v := ?v4) rfl (by kernel_rfl) (by kernel_rfl) (by kernel_rfl) (fun _ _ _ h => h) (Or.inl ⟨by rfl, ?h4⟩) ?_
  case h4 => (intro w; go_simp; try (with_reducible rfl))
  go_simp
  refine wpAny_take (i := 5) (v := ?v5) rfl (by kernel_rfl) (by kernel_rfl) (by kernel_rfl) (fun _ _ _ h => h) (Or.inl ⟨by rfl, ?h5⟩) ?_
  case h5 => (intro w; go_simp; try (with_reducible rfl))
  go_simp
  refine wpAny_take (i := 6) (v := ?v6) rfl (by kernel_rfl) (by kernel_rfl) (by kernel_rfl) (fun _ _ _ h => h) (Or.inl ⟨by rfl, ?h6⟩) ?_
  case h6 => (intro w; go_simp; try (with_reducible rfl))
  go_simp
  refine wpAny_ready (rs := [3, 7]) (by kernel_rfl) (by simp) ?_
  refine AllReady.cons rfl (fun K hK => ?_) ?_
  · go_simp
    refine hK _ _ ?_
    clear hK K
    refine wpAny_ready (rs := [7]) (by kernel_rfl) (by simp) ?_
    refine AllReady.cons rfl (fun K hK => ?_) ?_
    · go_simp
      refine hK _ _ ?_
      clear hK K
      refine wpAny_ready (rs := [8]) (by kernel_rfl) (by simp) ?_
      refine AllReady.cons rfl (fun K hK => ?_) ?_
      · go_simp
        go_wp2_with fail
        refine HE.out.mono ?_
        rintro e w2 ⟨rfl, b2⟩
        have k2 := (b2.block gr (blk_lt kD.out)).trans kD.out
        have z0 := cell_of k2 0 (.string ⟨#[]⟩) rfl
        have z1 := cell_of k2 1 (.int .u64 0) rfl
        have z2 := cell_of k2 2 (.int .i64 0) rfl
        have z3 := cell_of k2 3 (.string ⟨#[]⟩) rfl
        have f0 := fz_of k2 0
        have f1 := fz_of k2 1
        have f2 := fz_of k2 2
        have f3 := fz_of k2 3
        have B2 := hid (BD.out.trans (b2.mono BD.out.size))
        have k4 := hid (set_of (set_of (set_of (set_of k2 0 (.string y1)) 1 (.int .u64 y2)) 2 (.int .i64 y3)) 3 (.string y4))
        clear b2 k2
        go_wp2_with fail
        refine wpAny_take (i := 9) (v := ?v7) rfl (by kernel_rfl) (by kernel_rfl) (by kernel_rfl) (fun _ _ _ h => h) (Or.inl ⟨by rfl, ?h7⟩) ?_
        case h7 => (intro w; go_simp; try (with_reducible rfl))
        go_simp
        refine wpAny_take (i := 10) (v := ?v8) rfl (by kernel_rfl) (by kernel_rfl) (by kernel_rfl) (fun _ _ _ h => h) (Or.inl ⟨by rfl, ?h8⟩) ?_
        case h8 => (intro w; go_simp; try (with_reducible rfl))
        go_simp
        refine wpAny_ready (rs := [11]) (by kernel_rfl) (by simp) ?_
        refine AllReady.cons rfl (fun K hK => ?_) ?_
        · go_simp
          refine hK _ _ ?_
          clear hK K
          refine wpAny_take (i := 12) (v := ?v9) rfl (by kernel_rfl) (by kernel_rfl) (by kernel_rfl) (fun _ _ _ h => h) (Or.inl ⟨by rfl, ?h9⟩) ?_
          case h9 => (intro w; go_simp; try (with_reducible rfl))
          go_simp
          refine wpAny_done (by kernel_rfl) ?_ _
          go_wp2_with fail
          generalize hWF : (((w2.setCell ⟨gr, 0, none⟩ (.string y1)).setCell ⟨gr, 1, none⟩ (.int .u64 y2)).setCell ⟨gr, 2, none⟩ (.int .i64 y3)).setCell ⟨gr, 3, none⟩ (.string y4) = WF at *
          have q0 := cell_of k4.out 0 (.string y1) rfl
          have q1 := cell_of k4.out 1 (.int .u64 y2) rfl
          have q2 := cell_of k4.out 2 (.int .i64 y3) rfl
          have q3 := cell_of k4.out 3 (.string y4) rfl
          have BF : Hid (Below w.heap.size w WF) := by rw [← hWF]; exact hBs.out _ (hBs.out _ (hBs.out _ (hBs.out _ B2.out _ _) _ _) _ _) _ _
          exact bodyPost_ret (v := .tuple #[.agg #[.string y1, .int .u64 y2, .int .i64 y3, .string y4], .bool ok]) (by simp [results, Try.results18, go_sem, q0, q1, q2, q3]) rfl ⟨rfl, BF.out⟩
        exact AllReady.nil
      exact AllReady.nil
    exact AllReady.nil
  refine AllReady.cons rfl (fun K hK => ?_) ?_
  · go_simp
    refine hK _ _ ?_
    clear hK K
    refine wpAny_ready (rs := [3]) (by kernel_rfl) (by simp) ?_
    refine AllReady.cons rfl (fun K hK => ?_) ?_
    · go_simp
      refine hK _ _ ?_
      clear hK K
      refine wpAny_ready (rs := [8]) (by kernel_rfl) (by simp) ?_
      refine AllReady.cons rfl (fun K hK => ?_) ?_
      · go_simp
        go_wp2_with fail
        refine HE.out.mono ?_
        rintro e w2 ⟨rfl, b2⟩
        have k2 := (b2.block gr (blk_lt kD.out)).trans kD.out
        have z0 := cell_of k2 0 (.string ⟨#[]⟩) rfl
        have z1 := cell_of k2 1 (.int .u64 0) rfl
        have z2 := cell_of k2 2 (.int .i64 0) rfl
        have z3 := cell_of k2 3 (.string ⟨#[]⟩) rfl
        have f0 := fz_of k2 0
        have f1 := fz_of k2 1
        have f2 := fz_of k2 2
        have f3 := fz_of k2 3
        have B2 := hid (BD.out.trans (b2.mono BD.out.size))
        have k4 := hid (set_of (set_of (set_of (set_of k2 0 (.string y1)) 1 (.int .u64 y2)) 2 (.int .i64 y3)) 3 (.string y4))
        clear b2 k2
        go_wp2_with fail
        refine wpAny_take (i := 9) (v := ?v10) rfl (by kernel_rfl) (by kernel_rfl) (by kernel_rfl) (fun _ _ _ h => h) (Or.inl ⟨by rfl, ?h10⟩) ?_
        case h10 => (intro w; go_simp; try (with_reducible rfl))
        go_simp
        refine wpAny_take (i := 10) (v := ?v11) rfl (by kernel_rfl) (by kernel_rfl) (by kernel_rfl) (fun _ _ _ h => h) (Or.inl ⟨by rfl, ?h11⟩) ?_
        case h11 => (intro w; go_simp; try (with_reducible rfl))
        go_simp
        refine wpAny_ready (rs := [11]) (by kernel_rfl) (by simp) ?_
        refine AllReady.cons rfl (fun K hK => ?_) ?_
        · go_simp
          refine hK _ _ ?_
          clear hK K
          refine wpAny_take (i := 12) (v := ?v12) rfl (by kernel_rfl) (by kernel_rfl) (by kernel_rfl) (fun _ _ _ h => h) (Or.inl ⟨by rfl, ?h12⟩) ?_
          case h12 => (intro w; go_simp; try (with_reducible rfl))
          go_simp
          refine wpAny_done (by kernel_rfl) ?_ _
          go_wp2_with fail
          generalize hWF : (((w2.setCell ⟨gr, 0, none⟩ (.string y1)).setCell ⟨gr, 1, none⟩ (.int .u64 y2)).setCell ⟨gr, 2, none⟩ (.int .i64 y3)).setCell ⟨gr, 3, none⟩ (.string y4) = WF at *
          have q0 := cell_of k4.out 0 (.string y1) rfl
          have q1 := cell_of k4.out 1 (.int .u64 y2) rfl
          have q2 := cell_of k4.out 2 (.int .i64 y3) rfl
          have q3 := cell_of k4.out 3 (.string y4) rfl
          have BF : Hid (Below w.heap.size w WF) := by rw [← hWF]; exact hBs.out _ (hBs.out _ (hBs.out _ (hBs.out _ B2.out _ _) _ _) _ _) _ _
          exact bodyPost_ret (v := .tuple #[.agg #[.string y1, .int .u64 y2, .int .i64 y3, .string y4], .bool ok]) (by simp [results, Try.results18, go_sem, q0, q1, q2, q3]) rfl ⟨rfl, BF.out⟩
        exact AllReady.nil
      exact AllReady.nil
    exact AllReady.nil
  exact AllReady.nil

set_option maxHeartbeats 2000000 in
set_option maxRecDepth 100000 in
theorem walk_from (gc gl fa fb : Nat) (i fr to s0 : Int) (w : World) (H : Cb w gc gl i) (ea : ∀ args w, (callFunc fa args).run Try.prog w = .ok (.enter fa args) w) (eb : ∀ args w, (callFunc fb args).run Try.prog w = .ok (.enter fb args) w) (hi : i = fr)
    (HF : ∀ W, Below w.heap.size w W → Calls Try.prog fa #[.pointer (some ⟨gl, 0, none⟩)] W fun e w' => e = .returned (.int .i64 s0) ∧ Below W.heap.size W w') :
    Calls Try.prog 75 #[.pointer (some ⟨gc, 0, none⟩), .agg #[.func (.func fa) #[.pointer (some ⟨gl, 0, none⟩)] #[], .func (.func fb) #[.pointer (some ⟨gl, 0, none⟩)] #[], .int .i64 fr, .int .i64 to]] w fun e w' => e = .returned (.bool (nz s0)) ∧ ∃ w2, Below w.heap.size w w2 ∧ w' = w2.setCell ⟨gc, 1, none⟩ (.int .i64 (std s0 to)) := by
  obtain ⟨W0, hW0⟩ : ∃ W, W = w.alloc (.cells #[.func (.func fa) #[.pointer (some ⟨gl, 0, none⟩)] #[], .func (.func fb) #[.pointer (some ⟨gl, 0, none⟩)] #[], .int .i64 fr, .int .i64 to] 132) := ⟨_, rfl⟩
  have B0 : Below w.heap.size w W0 := by rw [hW0]; exact box_below _ _
  obtain ⟨gd, hgd⟩ : ∃ n, n = w.heap.size := ⟨_, rfl⟩
  have kR : W0.heap[gd]? = some (.cells #[.func (.func fa) #[.pointer (some ⟨gl, 0, none⟩)] #[], .func (.func fb) #[.pointer (some ⟨gl, 0, none⟩)] #[], .int .i64 fr, .int .i64 to] 132) := by rw [hW0, hgd]; exact new_at _ _
  obtain ⟨D, hD⟩ : ∃ D, D = World.drew W0 := ⟨_, rfl⟩
  have BD : Below w.heap.size w D := by rw [hD]; exact B0.drew
  have kD : D.heap[gd]? = some (.cells #[.func (.func fa) #[.pointer (some ⟨gl, 0, none⟩)] #[], .func (.func fb) #[.pointer (some ⟨gl, 0, none⟩)] #[], .int .i64 fr, .int .i64 to] 132) := by rw [hD]; exact kR
  have HC0 := H.later B0
  have HCD := H.later BD
  replace HF := hid (HF D BD)
  have a1 := HC0.c1
  rw [hW0] at a1
  have e2 := cell_of kR 2 (.int .i64 fr) rfl
  have e3 := cell_of kR 3 (.int .i64 to) rfl
  have d0 := cell_of kD 0 (.func (.func fa) #[.pointer (some ⟨gl, 0, none⟩)] #[]) rfl
  have d1 := cell_of kD 1 (.func (.func fb) #[.pointer (some ⟨gl, 0, none⟩)] #[]) rfl
  have d3 := cell_of kD 3 (.int .i64 to) rfl
  have g1 := HCD.c1
  replace hW0 := hid hW0
  replace hgd := hid hgd
  replace hD := hid hD
  replace BD := hid BD
  replace HCD := hid HCD
  have hif : (i == fr) = true := by simpa using hi
  replace hi := hid hi
  clear B0 kR H HC0 kD
  go_enter Try.func75, Try.ntmps75
  go_wp2_with fail
  rw [← hW0.out, ← hgd.out]
  refine wp_region_any (by kernel_rfl) ?_
  change wpAny _ _ _ _ _ _ _ (World.drew _)
  rw [← hD.out]
  refine wpAny_take (i := 0) (v := ?v13) rfl (by kernel_rfl) (by kernel_rfl) (by kernel_rfl) (fun _ _ _ h => h) (Or.inl ⟨by rfl, ?h13⟩) ?_
  case h13 => (intro w; go_simp; try (with_reducible rfl))
  go_simp
  refine wpAny_take (i := 1) (v := ?v14) rfl (by kernel_rfl) (by kernel_rfl) (by kernel_rfl) (fun _ _ _ h => h) (Or.inl ⟨by rfl, ?h14⟩) ?_
  case h14 => (intro w; go_simp; try (with_reducible rfl))
  go_simp
  refine wpAny_take (i := 4) (v := ?v15) rfl (by kernel_rfl) (by kernel_rfl) (by kernel_rfl) (fun _ _ _ h => h) (Or.inl ⟨by rfl, ?h15⟩) ?_
  case h15 => (intro w; go_simp; try (with_reducible rfl))
  go_simp
  refine wpAny_ready (rs := [2, 5]) (by kernel_rfl) (by simp) ?_
  refine AllReady.cons rfl (fun K hK => ?_) ?_
  · go_simp
    refine hK _ _ ?_
    clear hK K
    refine wpAny_ready (rs := [3, 5]) (by kernel_rfl) (by simp) ?_
    refine AllReady.cons rfl (fun K hK => ?_) ?_
    · go_simp
      go_wp2_with fail
      refine HF.out.mono ?_
      rintro e w2 ⟨rfl, b2⟩
      have u3 := (b2.cell (block_lt_of_cell d3)).trans d3
      have HSt := hid (stand_any gc gl i s0 to w2 (HCD.out.later b2))
      have B2 := hid (BD.out.trans (b2.mono BD.out.size))
      clear b2
      go_wp2_with fail
      refine wpAny_ready (rs := [5]) (by kernel_rfl) (by simp) ?_
      refine AllReady.cons rfl (fun K hK => ?_) ?_
      · go_simp
        refine hK _ _ ?_
        clear hK K
        refine wpAny_ready (rs := [6]) (by kernel_rfl) (by simp) ?_
        refine AllReady.cons rfl (fun K hK => ?_) ?_
        · go_simp
          go_wp2_with fail
          refine HSt.out.mono ?_
          rintro e w3 ⟨rfl, rfl⟩
          go_wp2_with fail
          refine wpAny_take (i := 7) (v := ?v16) rfl (by kernel_rfl) (by kernel_rfl) (by kernel_rfl) (fun _ _ _ h => h) (Or.inl ⟨by rfl, ?h16⟩) ?_
          case h16 => (intro w; go_simp; try (with_reducible rfl))
          go_simp
          refine wpAny_done (by kernel_rfl) ?_ _
          go_wp2_with fail
          go_ret
          exact ⟨rfl, w2, B2.out, rfl⟩
        exact AllReady.nil
      exact AllReady.nil
    refine AllReady.cons rfl (fun K hK => ?_) ?_
    · go_simp
      refine hK _ _ ?_
      clear hK K
      refine wpAny_ready (rs := [3]) (by kernel_rfl) (by simp) ?_
      refine AllReady.cons rfl (fun K hK => ?_) ?_
      · go_simp
        go_wp2_with fail
        refine HF.out.mono ?_
        rintro e w2 ⟨rfl, b2⟩
        have u3 := (b2.cell (block_lt_of_cell d3)).trans d3
        have HSt := hid (stand_any gc gl i s0 to w2 (HCD.out.later b2))
        have B2 := hid (BD.out.trans (b2.mono BD.out.size))
        clear b2
        go_wp2_with fail
        refine wpAny_ready (rs := [6]) (by kernel_rfl) (by simp) ?_
        refine AllReady.cons rfl (fun K hK => ?_) ?_
        · go_simp
          go_wp2_with fail
          refine HSt.out.mono ?_
          rintro e w3 ⟨rfl, rfl⟩
          go_wp2_with fail
          refine wpAny_take (i := 7) (v := ?v17) rfl (by kernel_rfl) (by kernel_rfl) (by kernel_rfl) (fun _ _ _ h => h) (Or.inl ⟨by rfl, ?h17⟩) ?_
          case h17 => (intro w; go_simp; try (with_reducible rfl))
          go_simp
          refine wpAny_done (by kernel_rfl) ?_ _
          go_wp2_with fail
          go_ret
          exact ⟨rfl, w2, B2.out, rfl⟩
        exact AllReady.nil
      exact AllReady.nil
    exact AllReady.nil
  refine AllReady.cons rfl (fun K hK => ?_) ?_
  · go_simp
    refine hK _ _ ?_
    clear hK K
    refine wpAny_ready (rs := [2]) (by kernel_rfl) (by simp) ?_
    refine AllReady.cons rfl (fun K hK => ?_) ?_
    · go_simp
      refine hK _ _ ?_
      clear hK K
      refine wpAny_ready (rs := [3]) (by kernel_rfl) (by simp) ?_
      refine AllReady.cons rfl (fun K hK => ?_) ?_
      · go_simp
        go_wp2_with fail
        refine HF.out.mono ?_
        rintro e w2 ⟨rfl, b2⟩
        have u3 := (b2.cell (block_lt_of_cell d3)).trans d3
        have HSt := hid (stand_any gc gl i s0 to w2 (HCD.out.later b2))
        have B2 := hid (BD.out.trans (b2.mono BD.out.size))
        clear b2
        go_wp2_with fail
        refine wpAny_ready (rs := [6]) (by kernel_rfl) (by simp) ?_
        refine AllReady.cons rfl (fun K hK => ?_) ?_
        · go_simp
          go_wp2_with fail
          refine HSt.out.mono ?_
          rintro e w3 ⟨rfl, rfl⟩
          go_wp2_with fail
          refine wpAny_take (i := 7) (v := ?v18) rfl (by kernel_rfl) (by kernel_rfl) (by kernel_rfl) (fun _ _ _ h => h) (Or.inl ⟨by rfl, ?h18⟩) ?_
          case h18 => (intro w; go_simp; try (with_reducible rfl))
          go_simp
          refine wpAny_done (by kernel_rfl) ?_ _
          go_wp2_with fail
          go_ret
          exact ⟨rfl, w2, B2.out, rfl⟩
        exact AllReady.nil
      exact AllReady.nil
    exact AllReady.nil
  exact AllReady.nil

set_option maxHeartbeats 2000000 in
set_option maxRecDepth 100000 in
theorem walk_on (gc gl fa fb : Nat) (i fr to s0 : Int) (w : World) (H : Cb w gc gl i) (ea : ∀ args w, (callFunc fa args).run Try.prog w = .ok (.enter fa args) w) (eb : ∀ args w, (callFunc fb args).run Try.prog w = .ok (.enter fb args) w) (hi : i ≠ fr) (hj : i ≠ to)
    (HF : ∀ W, Below w.heap.size w W → Calls Try.prog fb #[.pointer (some ⟨gl, 0, none⟩), .int .i64 i] W fun e w' => e = .returned (.int .i64 s0) ∧ Below W.heap.size W w') :
    Calls Try.prog 75 #[.pointer (some ⟨gc, 0, none⟩), .agg #[.func (.func fa) #[.pointer (some ⟨gl, 0, none⟩)] #[], .func (.func fb) #[.pointer (some ⟨gl, 0, none⟩)] #[], .int .i64 fr, .int .i64 to]] w fun e w' => e = .returned (.bool (nz s0)) ∧ ∃ w2, Below w.heap.size w w2 ∧ w' = w2.setCell ⟨gc, 1, none⟩ (.int .i64 (std s0 to)) := by
  obtain ⟨W0, hW0⟩ : ∃ W, W = w.alloc (.cells #[.func (.func fa) #[.pointer (some ⟨gl, 0, none⟩)] #[], .func (.func fb) #[.pointer (some ⟨gl, 0, none⟩)] #[], .int .i64 fr, .int .i64 to] 132) := ⟨_, rfl⟩
  have B0 : Below w.heap.size w W0 := by rw [hW0]; exact box_below _ _
  obtain ⟨gd, hgd⟩ : ∃ n, n = w.heap.size := ⟨_, rfl⟩
  have kR : W0.heap[gd]? = some (.cells #[.func (.func fa) #[.pointer (some ⟨gl, 0, none⟩)] #[], .func (.func fb) #[.pointer (some ⟨gl, 0, none⟩)] #[], .int .i64 fr, .int .i64 to] 132) := by rw [hW0, hgd]; exact new_at _ _
  obtain ⟨D, hD⟩ : ∃ D, D = World.drew W0 := ⟨_, rfl⟩
  have BD : Below w.heap.size w D := by rw [hD]; exact B0.drew
  have kD : D.heap[gd]? = some (.cells #[.func (.func fa) #[.pointer (some ⟨gl, 0, none⟩)] #[], .func (.func fb) #[.pointer (some ⟨gl, 0, none⟩)] #[], .int .i64 fr, .int .i64 to] 132) := by rw [hD]; exact kR
  have HC0 := H.later B0
  have HCD := H.later BD
  replace HF := hid (HF D BD)
  have a1 := HC0.c1
  rw [hW0] at a1
  have e2 := cell_of kR 2 (.int .i64 fr) rfl
  have e3 := cell_of kR 3 (.int .i64 to) rfl
  have d0 := cell_of kD 0 (.func (.func fa) #[.pointer (some ⟨gl, 0, none⟩)] #[]) rfl
  have d1 := cell_of kD 1 (.func (.func fb) #[.pointer (some ⟨gl, 0, none⟩)] #[]) rfl
  have d3 := cell_of kD 3 (.int .i64 to) rfl
  have g1 := HCD.c1
  replace hW0 := hid hW0
  replace hgd := hid hgd
  replace hD := hid hD
  replace BD := hid BD
  replace HCD := hid HCD
  have hif : (i == fr) = false := by simpa using hi
  have hjt : (i == to) = false := by simpa using hj
  replace hi := hid hi
  replace hj := hid hj
  clear B0 kR H HC0 kD
  go_enter Try.func75, Try.ntmps75
  go_wp2_with fail
  rw [← hW0.out, ← hgd.out]
  refine wp_region_any (by kernel_rfl) ?_
  change wpAny _ _ _ _ _ _ _ (World.drew _)
  rw [← hD.out]
  refine wpAny_take (i := 0) (v := ?v19) rfl (by kernel_rfl) (by kernel_rfl) (by kernel_rfl) (fun _ _ _ h => h) (Or.inl ⟨by rfl, ?h19⟩) ?_
  case h19 => (intro w; go_simp; try (with_reducible rfl))
  go_simp
  refine wpAny_take (i := 1) (v := ?v20) rfl (by kernel_rfl) (by kernel_rfl) (by kernel_rfl) (fun _ _ _ h => h) (Or.inl ⟨by rfl, ?h20⟩) ?_
  case h20 => (intro w; go_simp; try (with_reducible rfl))
  go_simp
  refine wpAny_take (i := 3) (v := ?v21) rfl (by kernel_rfl) (by kernel_rfl) (by kernel_rfl) (fun _ _ _ h => h) (Or.inl ⟨by rfl, ?h21⟩) ?_
  case h21 => (intro w; go_simp; try (with_reducible rfl))
  go_simp
  refine wpAny_take (i := 4) (v := ?v22) rfl (by kernel_rfl) (by kernel_rfl) (by kernel_rfl) (fun _ _ _ h => h) (Or.inl ⟨by rfl, ?h22⟩) ?_
  case h22 => (intro w; go_simp; try (with_reducible rfl))
  go_simp
  refine wpAny_take (i := 5) (v := ?v23) rfl (by kernel_rfl) (by kernel_rfl) (by kernel_rfl) (fun _ _ _ h => h) (Or.inl ⟨by rfl, ?h23⟩) ?_
  case h23 => (intro w; go_simp; try (with_reducible rfl))
  go_simp
  refine wpAny_take (i := 8) (v := ?v24) rfl (by kernel_rfl) (by kernel_rfl) (by kernel_rfl) (fun _ _ _ h => h) (Or.inl ⟨by rfl, ?h24⟩) ?_
  case h24 => (intro w; go_simp; try (with_reducible rfl))
  go_simp
  refine wpAny_ready (rs := [2, 6, 9]) (by kernel_rfl) (by simp) ?_
  refine AllReady.cons rfl (fun K hK => ?_) ?_
  · go_simp
    refine hK _ _ ?_
    clear hK K
    refine wpAny_ready (rs := [6, 9]) (by kernel_rfl) (by simp) ?_
    refine AllReady.cons rfl (fun K hK => ?_) ?_
    · go_simp
      refine hK _ _ ?_
      clear hK K
      refine wpAny_ready (rs := [7, 9]) (by kernel_rfl) (by simp) ?_
      refine AllReady.cons rfl (fun K hK => ?_) ?_
      · go_simp
        go_wp2_with fail
        refine HF.out.mono ?_
        rintro e w2 ⟨rfl, b2⟩
        have u3 := (b2.cell (block_lt_of_cell d3)).trans d3
        have HSt := hid (stand_any gc gl i s0 to w2 (HCD.out.later b2))
        have B2 := hid (BD.out.trans (b2.mono BD.out.size))
        clear b2
        go_wp2_with fail
        refine wpAny_ready (rs := [9]) (by kernel_rfl) (by simp) ?_
        refine AllReady.cons rfl (fun K hK => ?_) ?_
        · go_simp
          refine hK _ _ ?_
          clear hK K
          refine wpAny_ready (rs := [10]) (by kernel_rfl) (by simp) ?_
          refine AllReady.cons rfl (fun K hK => ?_) ?_
          · go_simp
            go_wp2_with fail
            refine HSt.out.mono ?_
            rintro e w3 ⟨rfl, rfl⟩
            go_wp2_with fail
            refine wpAny_take (i := 11) (v := ?v25) rfl (by kernel_rfl) (by kernel_rfl) (by kernel_rfl) (fun _ _ _ h => h) (Or.inl ⟨by rfl, ?h25⟩) ?_
            case h25 => (intro w; go_simp; try (with_reducible rfl))
            go_simp
            refine wpAny_done (by kernel_rfl) ?_ _
            go_wp2_with fail
            go_ret
            exact ⟨rfl, w2, B2.out, rfl⟩
          exact AllReady.nil
        exact AllReady.nil
      refine AllReady.cons rfl (fun K hK => ?_) ?_
      · go_simp
        refine hK _ _ ?_
        clear hK K
        refine wpAny_ready (rs := [7]) (by kernel_rfl) (by simp) ?_
        refine AllReady.cons rfl (fun K hK => ?_) ?_
        · go_simp
          go_wp2_with fail
          refine HF.out.mono ?_
          rintro e w2 ⟨rfl, b2⟩
          have u3 := (b2.cell (block_lt_of_cell d3)).trans d3
          have HSt := hid (stand_any gc gl i s0 to w2 (HCD.out.later b2))
          have B2 := hid (BD.out.trans (b2.mono BD.out.size))
          clear b2
          go_wp2_with fail
          refine wpAny_ready (rs := [10]) (by kernel_rfl) (by simp) ?_
          refine AllReady.cons rfl (fun K hK => ?_) ?_
          · go_simp
            go_wp2_with fail
            refine HSt.out.mono ?_
            rintro e w3 ⟨rfl, rfl⟩
            go_wp2_with fail
            refine wpAny_take (i := 11) (v := ?v26) rfl (by kernel_rfl) (by kernel_rfl) (by kernel_rfl) (fun _ _ _ h => h) (Or.inl ⟨by rfl, ?h26⟩) ?_
            case h26 => (intro w; go_simp; try (with_reducible rfl))
            go_simp
            refine wpAny_done (by kernel_rfl) ?_ _
            go_wp2_with fail
            go_ret
            exact ⟨rfl, w2, B2.out, rfl⟩
          exact AllReady.nil
        exact AllReady.nil
      exact AllReady.nil
    refine AllReady.cons rfl (fun K hK => ?_) ?_
    · go_simp
      refine hK _ _ ?_
      clear hK K
      refine wpAny_ready (rs := [6]) (by kernel_rfl) (by simp) ?_
      refine AllReady.cons rfl (fun K hK => ?_) ?_
      · go_simp
        refine hK _ _ ?_
        clear hK K
        refine wpAny_ready (rs := [7]) (by kernel_rfl) (by simp) ?_
        refine AllReady.cons rfl (fun K hK => ?_) ?_
        · go_simp
          go_wp2_with fail
          refine HF.out.mono ?_
          rintro e w2 ⟨rfl, b2⟩
          have u3 := (b2.cell (block_lt_of_cell d3)).trans d3
          have HSt := hid (stand_any gc gl i s0 to w2 (HCD.out.later b2))
          have B2 := hid (BD.out.trans (b2.mono BD.out.size))
          clear b2
          go_wp2_with fail
          refine wpAny_ready (rs := [10]) (by kernel_rfl) (by simp) ?_
          refine AllReady.cons rfl (fun K hK => ?_) ?_
          · go_simp
            go_wp2_with fail
            refine HSt.out.mono ?_
            rintro e w3 ⟨rfl, rfl⟩
            go_wp2_with fail
            refine wpAny_take (i := 11) (v := ?v27) rfl (by kernel_rfl) (by kernel_rfl) (by kernel_rfl) (fun _ _ _ h => h) (Or.inl ⟨by rfl, ?h27⟩) ?_
            case h27 => (intro w; go_simp; try (with_reducible rfl))
            go_simp
            refine wpAny_done (by kernel_rfl) ?_ _
            go_wp2_with fail
            go_ret
            exact ⟨rfl, w2, B2.out, rfl⟩
          exact AllReady.nil
        exact AllReady.nil
      exact AllReady.nil
    exact AllReady.nil
  refine AllReady.cons rfl (fun K hK => ?_) ?_
  · go_simp
    refine hK _ _ ?_
    clear hK K
    refine wpAny_ready (rs := [2, 9]) (by kernel_rfl) (by simp) ?_
    refine AllReady.cons rfl (fun K hK => ?_) ?_
    · go_simp
      refine hK _ _ ?_
      clear hK K
      refine wpAny_ready (rs := [7, 9]) (by kernel_rfl) (by simp) ?_
      refine AllReady.cons rfl (fun K hK => ?_) ?_
      · go_simp
        go_wp2_with fail
        refine HF.out.mono ?_
        rintro e w2 ⟨rfl, b2⟩
        have u3 := (b2.cell (block_lt_of_cell d3)).trans d3
        have HSt := hid (stand_any gc gl i s0 to w2 (HCD.out.later b2))
        have B2 := hid (BD.out.trans (b2.mono BD.out.size))
        clear b2
        go_wp2_with fail
        refine wpAny_ready (rs := [9]) (by kernel_rfl) (by simp) ?_
        refine AllReady.cons rfl (fun K hK => ?_) ?_
        · go_simp
          refine hK _ _ ?_
          clear hK K
          refine wpAny_ready (rs := [10]) (by kernel_rfl) (by simp) ?_
          refine AllReady.cons rfl (fun K hK => ?_) ?_
          · go_simp
            go_wp2_with fail
            refine HSt.out.mono ?_
            rintro e w3 ⟨rfl, rfl⟩
            go_wp2_with fail
            refine wpAny_take (i := 11) (v := ?v28) rfl (by kernel_rfl) (by kernel_rfl) (by kernel_rfl) (fun _ _ _ h => h) (Or.inl ⟨by rfl, ?h28⟩) ?_
            case h28 => (intro w; go_simp; try (with_reducible rfl))
            go_simp
            refine wpAny_done (by kernel_rfl) ?_ _
            go_wp2_with fail
            go_ret
            exact ⟨rfl, w2, B2.out, rfl⟩
          exact AllReady.nil
        exact AllReady.nil
      refine AllReady.cons rfl (fun K hK => ?_) ?_
      · go_simp
        refine hK _ _ ?_
        clear hK K
        refine wpAny_ready (rs := [7]) (by kernel_rfl) (by simp) ?_
        refine AllReady.cons rfl (fun K hK => ?_) ?_
        · go_simp
          go_wp2_with fail
          refine HF.out.mono ?_
          rintro e w2 ⟨rfl, b2⟩
          have u3 := (b2.cell (block_lt_of_cell d3)).trans d3
          have HSt := hid (stand_any gc gl i s0 to w2 (HCD.out.later b2))
          have B2 := hid (BD.out.trans (b2.mono BD.out.size))
          clear b2
          go_wp2_with fail
          refine wpAny_ready (rs := [10]) (by kernel_rfl) (by simp) ?_
          refine AllReady.cons rfl (fun K hK => ?_) ?_
          · go_simp
            go_wp2_with fail
            refine HSt.out.mono ?_
            rintro e w3 ⟨rfl, rfl⟩
            go_wp2_with fail
            refine wpAny_take (i := 11) (v := ?v29) rfl (by kernel_rfl) (by kernel_rfl) (by kernel_rfl) (fun _ _ _ h => h) (Or.inl ⟨by rfl, ?h29⟩) ?_
            case h29 => (intro w; go_simp; try (with_reducible rfl))
            go_simp
            refine wpAny_done (by kernel_rfl) ?_ _
            go_wp2_with fail
            go_ret
            exact ⟨rfl, w2, B2.out, rfl⟩
          exact AllReady.nil
        exact AllReady.nil
      exact AllReady.nil
    refine AllReady.cons rfl (fun K hK => ?_) ?_
    · go_simp
      refine hK _ _ ?_
      clear hK K
      refine wpAny_ready (rs := [2]) (by kernel_rfl) (by simp) ?_
      refine AllReady.cons rfl (fun K hK => ?_) ?_
      · go_simp
        refine hK _ _ ?_
        clear hK K
        refine wpAny_ready (rs := [7]) (by kernel_rfl) (by simp) ?_
        refine AllReady.cons rfl (fun K hK => ?_) ?_
        · go_simp
          go_wp2_with fail
          refine HF.out.mono ?_
          rintro e w2 ⟨rfl, b2⟩
          have u3 := (b2.cell (block_lt_of_cell d3)).trans d3
          have HSt := hid (stand_any gc gl i s0 to w2 (HCD.out.later b2))
          have B2 := hid (BD.out.trans (b2.mono BD.out.size))
          clear b2
          go_wp2_with fail
          refine wpAny_ready (rs := [10]) (by kernel_rfl) (by simp) ?_
          refine AllReady.cons rfl (fun K hK => ?_) ?_
          · go_simp
            go_wp2_with fail
            refine HSt.out.mono ?_
            rintro e w3 ⟨rfl, rfl⟩
            go_wp2_with fail
            refine wpAny_take (i := 11) (v := ?v30) rfl (by kernel_rfl) (by kernel_rfl) (by kernel_rfl) (fun _ _ _ h => h) (Or.inl ⟨by rfl, ?h30⟩) ?_
            case h30 => (intro w; go_simp; try (with_reducible rfl))
            go_simp
            refine wpAny_done (by kernel_rfl) ?_ _
            go_wp2_with fail
            go_ret
            exact ⟨rfl, w2, B2.out, rfl⟩
          exact AllReady.nil
        exact AllReady.nil
      exact AllReady.nil
    exact AllReady.nil
  refine AllReady.cons rfl (fun K hK => ?_) ?_
  · go_simp
    refine hK _ _ ?_
    clear hK K
    refine wpAny_ready (rs := [2, 6]) (by kernel_rfl) (by simp) ?_
    refine AllReady.cons rfl (fun K hK => ?_) ?_
    · go_simp
      refine hK _ _ ?_
      clear hK K
      refine wpAny_ready (rs := [6]) (by kernel_rfl) (by simp) ?_
      refine AllReady.cons rfl (fun K hK => ?_) ?_
      · go_simp
        refine hK _ _ ?_
        clear hK K
        refine wpAny_ready (rs := [7]) (by kernel_rfl) (by simp) ?_
        refine AllReady.cons rfl (fun K hK => ?_) ?_
        · go_simp
          go_wp2_with fail
          refine HF.out.mono ?_
          rintro e w2 ⟨rfl, b2⟩
          have u3 := (b2.cell (block_lt_of_cell d3)).trans d3
          have HSt := hid (stand_any gc gl i s0 to w2 (HCD.out.later b2))
          have B2 := hid (BD.out.trans (b2.mono BD.out.size))
          clear b2
          go_wp2_with fail
          refine wpAny_ready (rs := [10]) (by kernel_rfl) (by simp) ?_
          refine AllReady.cons rfl (fun K hK => ?_) ?_
          · go_simp
            go_wp2_with fail
            refine HSt.out.mono ?_
            rintro e w3 ⟨rfl, rfl⟩
            go_wp2_with fail
            refine wpAny_take (i := 11) (v := ?v31) rfl (by kernel_rfl) (by kernel_rfl) (by kernel_rfl) (fun _ _ _ h => h) (Or.inl ⟨by rfl, ?h31⟩) ?_
            case h31 => (intro w; go_simp; try (with_reducible rfl))
            go_simp
            refine wpAny_done (by kernel_rfl) ?_ _
            go_wp2_with fail
            go_ret
            exact ⟨rfl, w2, B2.out, rfl⟩
          exact AllReady.nil
        exact AllReady.nil
      exact AllReady.nil
    refine AllReady.cons rfl (fun K hK => ?_) ?_
    · go_simp
      refine hK _ _ ?_
      clear hK K
      refine wpAny_ready (rs := [2]) (by kernel_rfl) (by simp) ?_
      refine AllReady.cons rfl (fun K hK => ?_) ?_
      · go_simp
        refine hK _ _ ?_
        clear hK K
        refine wpAny_ready (rs := [7]) (by kernel_rfl) (by simp) ?_
        refine AllReady.cons rfl (fun K hK => ?_) ?_
        · go_simp
          go_wp2_with fail
          refine HF.out.mono ?_
          rintro e w2 ⟨rfl, b2⟩
          have u3 := (b2.cell (block_lt_of_cell d3)).trans d3
          have HSt := hid (stand_any gc gl i s0 to w2 (HCD.out.later b2))
          have B2 := hid (BD.out.trans (b2.mono BD.out.size))
          clear b2
          go_wp2_with fail
          refine wpAny_ready (rs := [10]) (by kernel_rfl) (by simp) ?_
          refine AllReady.cons rfl (fun K hK => ?_) ?_
          · go_simp
            go_wp2_with fail
            refine HSt.out.mono ?_
            rintro e w3 ⟨rfl, rfl⟩
            go_wp2_with fail
            refine wpAny_take (i := 11) (v := ?v32) rfl (by kernel_rfl) (by kernel_rfl) (by kernel_rfl) (fun _ _ _ h => h) (Or.inl ⟨by rfl, ?h32⟩) ?_
            case h32 => (intro w; go_simp; try (with_reducible rfl))
            go_simp
            refine wpAny_done (by kernel_rfl) ?_ _
            go_wp2_with fail
            go_ret
            exact ⟨rfl, w2, B2.out, rfl⟩
          exact AllReady.nil
        exact AllReady.nil
      exact AllReady.nil
    exact AllReady.nil
  exact AllReady.nil

set_option maxHeartbeats 2000000 in
set_option maxRecDepth 100000 in
theorem nextc (gc gl : Nat) (i : Int) (r : Bool) (Q : World → Prop) (w : World) (H : Cb w gc gl i)
    (HW : ∀ W, Below w.heap.size w W → Calls Try.prog 75 #[.pointer (some ⟨gc, 0, none⟩), .agg #[.func (.func 72) #[.pointer (some ⟨gl, 0, none⟩)] #[], .func (.func 76) #[.pointer (some ⟨gl, 0, none⟩)] #[], .int .i64 0, .int .i64 (-1)]] W fun e w' => e = .returned (.bool r) ∧ Q w') :
    Calls Try.prog 35 #[.pointer (some ⟨gc, 0, none⟩)] w fun e w' => e = .returned (.bool r) ∧ Q w' := by
  have hmf : ∀ (fn : Fn) (first cap : Array Value) (w : World), (Instr.makeFunc fn first cap).run Try.prog w = .ok (.func fn first cap) w := fun _ _ _ _ => rfl
  have cd : Below w.heap.size w w.drew := (Below.refl _ _).drew
  have HN := hid (cisnone_any gc gl i w.drew (H.later cd))
  have c0 : w.drew.cell? ⟨gc, 0, none⟩ = some (.pointer (some ⟨gl, 0, none⟩)) := H.c0
  have HX := hid (HW w.drew cd)
  clear H HW cd
  go_enter Try.func35, Try.ntmps35
  go_wp2_with fail
  refine region_tail 16 (by kernel_rfl) (by kernel_rfl) ?_
  simp only [List.take_succ_cons, List.take_zero, List.drop_succ_cons, List.drop_zero]
  repeat still_step
  still_call HN.out
  repeat still_step
  refine wpStill_nil ?_
  go_wp2_with fail
  refine HX.out.mono ?_
  rintro e w2 ⟨rfl, q2⟩
  replace q2 := hid q2
  go_wp2_with fail
  go_ret
  exact ⟨rfl, q2.out⟩

set_option maxHeartbeats 2000000 in
set_option maxRecDepth 100000 in
theorem prevc (gc gl : Nat) (i : Int) (r : Bool) (Q : World → Prop) (w : World) (H : Cb w gc gl i)
    (HW : ∀ W, Below w.heap.size w W → Calls Try.prog 75 #[.pointer (some ⟨gc, 0, none⟩), .agg #[.func (.func 73) #[.pointer (some ⟨gl, 0, none⟩)] #[], .func (.func 77) #[.pointer (some ⟨gl, 0, none⟩)] #[], .int .i64 (-1), .int .i64 0]] W fun e w' => e = .returned (.bool r) ∧ Q w') :
    Calls Try.prog 36 #[.pointer (some ⟨gc, 0, none⟩)] w fun e w' => e = .returned (.bool r) ∧ Q w' := by
  have hmf : ∀ (fn : Fn) (first cap : Array Value) (w : World), (Instr.makeFunc fn first cap).run Try.prog w = .ok (.func fn first cap) w := fun _ _ _ _ => rfl
  have cd : Below w.heap.size w w.drew := (Below.refl _ _).drew
  have HN := hid (cisnone_any gc gl i w.drew (H.later cd))
  have c0 : w.drew.cell? ⟨gc, 0, none⟩ = some (.pointer (some ⟨gl, 0, none⟩)) := H.c0
  have HX := hid (HW w.drew cd)
  clear H HW cd
  go_enter Try.func36, Try.ntmps36
  go_wp2_with fail
  refine region_tail 16 (by kernel_rfl) (by kernel_rfl) ?_
  simp only [List.take_succ_cons, List.take_zero, List.drop_succ_cons, List.drop_zero]
  repeat still_step
  still_call HN.out
  repeat still_step
  refine wpStill_nil ?_
  go_wp2_with fail
  refine HX.out.mono ?_
  rintro e w2 ⟨rfl, q2⟩
  replace q2 := hid q2
  go_wp2_with fail
  go_ret
  exact ⟨rfl, q2.out⟩
end Go.Proofs.Ytefihoohdaegeaa.Cr

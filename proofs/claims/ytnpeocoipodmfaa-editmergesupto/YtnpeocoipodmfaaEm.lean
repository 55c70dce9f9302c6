/- EditMerges walked. -/
import Derived.Test.YtnpeocoipodmfaaEs
import Derived.Test.YtnpeocoipodmfaaSl
import Derived.Test.YtnpeocoipodmfaaRm
import Derived.Deep.Cut
import Derived.Deep.CutRange
namespace Go.Proofs.Ytnpeocoipodmfaa.Em
open Go.ChangeShapes Go.WideShapes Go.ChangeAt Go.RowKit
open Go.Proofs.Ytnpeocoipodmfaa.Gr
open Go.Proofs.Ytnpeocoipodmfaa.Ev
open Go.Proofs.Ytnpeocoipodmfaa.Ss
open Go.Proofs.Ytnpeocoipodmfaa.Le
open Go.Proofs.Ytnpeocoipodmfaa.Mg
open Go.Proofs.Ytnpeocoipodmfaa.Mh
open Go.Proofs.Ytnpeocoipodmfaa.Es
open Go.Proofs.Ytnpeocoipodmfaa.Sl
open Go.Proofs.Ytnpeocoipodmfaa.Rm
set_option linter.unusedVariables false
set_option linter.unusedSimpArgs false

set_option maxHeartbeats 4000000 in
set_option maxRecDepth 100000 in
theorem merges_any (va vb : Value) (x y : Ed) (w : World) (HA : EV w va x) (HB : EV w vb y) (hl : x.go.length + y.go.length ≤ 1099511627776) (hl' : x.co.length + y.co.length ≤ 1099511627776) :
    Calls Try.prog 4 #[va, vb] w fun e w' => e = .returned (.bool true) ∧ Below w.heap.size w w' := by
  have HA0 := HA
  have HB0 := HB
  obtain ⟨hokx, xa, xc, xb, xd, rfl, -, -⟩ := HA
  obtain ⟨hoky, ya, yc, yb, yd, rfl, -, -⟩ := HB
  obtain ⟨W2, g2, g3, hW2, hg2, hg3, K1, K2, LO⟩ := boxes2 w #[.int .i64 x.log, .int .i64 x.nx, .int .u64 x.sq, .slice xa x.go.length xc, .slice xb x.co.length xd] #[.int .i64 y.log, .int .i64 y.nx, .int .u64 y.sq, .slice ya y.go.length yc, .slice yb y.co.length yd] 26 26
  obtain ⟨E, hE⟩ : ∃ E, E = mrg x y := ⟨_, rfl⟩
  have HX : Hid (∀ W, Below w.heap.size w W → EV W (ev x xa xc xb xd) x) := fun W b => HA0.later b
  have HY : Hid (∀ W, Below w.heap.size w W → EV W (ev y ya yc yb yd) y) := fun W b => HB0.later b
  have C1 : Hid (∀ W, Below W2.heap.size W2 W → Calls Try.prog 8 #[ev x xa xc xb xd] W fun e w' => ∃ v', e = .returned v' ∧ EO w' W.heap.size v' x ∧ Below W.heap.size W w') := fun W b => lent_any _ x W (HX.out W (Below.up LO b))
  have C2 : Hid (∀ W, Below W2.heap.size W2 W → Calls Try.prog 8 #[ev y ya yc yb yd] W fun e w' => ∃ v', e = .returned v' ∧ EO w' W.heap.size v' y ∧ Below W.heap.size W w') := fun W b => lent_any _ y W (HY.out W (Below.up LO b))
  have HMe : Hid (∀ v v' W, EV W v x → EV W v' y → Calls Try.prog 18 #[v, v'] W fun e w' => ∃ v', e = .returned v' ∧ EO w' W.heap.size v' E ∧ Below W.heap.size W w') := fun v v' W h h' => by
    rw [hE]; exact merge_any _ _ x y W h h' hl hl'
  have HRm : Hid (∀ W, Below w.heap.size w W → Calls Try.prog 19 #[ev x xa xc xb xd, ev y ya yc yb yd] W fun e w' => ∃ v', e = .returned v' ∧ EO w' W.heap.size v' E ∧ Below W.heap.size W w') := fun W b => by
    rw [hE]; exact rmerge_any _ _ x y W (HX.out W b) (HY.out W b) hl hl'
  replace hW2 := hid hW2
  replace hg2 := hid hg2
  replace hg3 := hid hg3
  replace K1 := hid K1
  replace K2 := hid K2
  replace LO := hid LO
  replace hE := hid hE
  clear HA0 HB0 hokx hoky hl hl'
  unfold ev
  go_enter Try.func4, Try.ntmps4
  go_upto_region 1 with fail
  rw [← hW2.out, ← hg2.out, ← hg3.out]
  go_cut [5, 6] from 10 to 13 (fun s t wx => ∃ g5 g6 a5 c5 b5 d5 a6 c6 b6 d6 u5 u6, s = .pointer (some ⟨g5, 0, none⟩) ∧ t = .pointer (some ⟨g6, 0, none⟩) ∧ wx.heap[g5]? = some (.cells #[.int .i64 x.log, .int .i64 x.nx, .int .u64 x.sq, .slice a5 x.go.length c5, .slice b5 x.co.length d5] 26) ∧ wx.heap[g6]? = some (.cells #[.int .i64 y.log, .int .i64 y.nx, .int .u64 y.sq, .slice a6 y.go.length c6, .slice b6 y.co.length d6] 26) ∧ EO wx u5 (ev x a5 c5 b5 d5) x ∧ EO wx u6 (ev y a6 c6 b6 d6) y ∧ Below W2.heap.size W2 wx)
  case first =>
    refine wp_region_held_drew (S := fun W => Below W2.heap.size W2 W) (by kernel_rfl) (drew_below _) (fun hS => ?_)
    generalize World.drew W2 = D at *
    refine wpAnyH_take (i := 0) (v := ?v1) rfl (by kernel_rfl) (by kernel_rfl) (by kernel_rfl) (fun _ _ _ h => h) (Or.inl ⟨by rfl, ?h1⟩) hS ?_
    case h1 => (intro W hW; have cc0 := cell_of (below_blk K1.out hW) 0 _ rfl; have cc1 := cell_of (below_blk K1.out hW) 1 _ rfl; have cc2 := cell_of (below_blk K1.out hW) 2 _ rfl; have cc3 := cell_of (below_blk K1.out hW) 3 _ rfl; have cc4 := cell_of (below_blk K1.out hW) 4 _ rfl; go_simp; try (with_reducible rfl))
    go_simp
    refine wpAnyH_take (i := 2) (v := ?v2) rfl (by kernel_rfl) (by kernel_rfl) (by kernel_rfl) (fun _ _ _ h => h) (Or.inl ⟨by rfl, ?h2⟩) hS ?_
    case h2 => (intro W hW; have cc0 := cell_of (below_blk K2.out hW) 0 _ rfl; have cc1 := cell_of (below_blk K2.out hW) 1 _ rfl; have cc2 := cell_of (below_blk K2.out hW) 2 _ rfl; have cc3 := cell_of (below_blk K2.out hW) 3 _ rfl; have cc4 := cell_of (below_blk K2.out hW) 4 _ rfl; go_simp; try (with_reducible rfl))
    go_simp
    refine wpAnyH_ready (rs := [1, 4, 5]) (by kernel_rfl) (by simp) ?_
    refine AllReadyH.cons rfl (fun K hK => ?_) ?_
    · go_simp
      have lo1 : Hid (W2.heap.size ≤ D.heap.size) := hS.size
      go_wp2_with fail
      refine (C1.out D hS).mono ?_
      rintro e y1 ⟨v1, rfl, EO1, bb1⟩
      obtain ⟨a1, c1, b1, d1, he1⟩ := EO_shape EO1
      subst he1
      replace EO1 := hid EO1
      have hS' := hid (Below.up hS bb1)
      clear bb1
      unfold ev at EO1
      unfold ev
      refine hK.out _ _ hS'.out (fun hS => ?_)
      clear hK K hS'
      refine wpAnyH_ready (rs := [3, 4, 5]) (by kernel_rfl) (by simp) ?_
      refine AllReadyH.cons rfl (fun K hK => ?_) ?_
      · go_simp
        have lo3 : Hid (W2.heap.size ≤ y1.heap.size) := hS.size
        have up1_3 : Hid (∀ j, blks (ev x a1 c1 b1 d1) j → j < y1.heap.size) := fun j h => (EO1.out.lt j h).2
        go_wp2_with fail
        refine (C2.out y1 hS).mono ?_
        rintro e y3 ⟨v3, rfl, EO3, bb3⟩
        obtain ⟨a3, c3, b3, d3, he3⟩ := EO_shape EO3
        subst he3
        replace EO3 := hid EO3
        replace EO1 := hid (EO1.out.later bb3)
        have hS' := hid (Below.up hS bb3)
        clear bb3
        unfold ev at EO3
        unfold ev
        refine hK.out _ _ hS'.out (fun hS => ?_)
        clear hK K hS'
        refine wpAnyH_ready (rs := [4, 5]) (by kernel_rfl) (by simp) ?_
        refine AllReadyH.cons rfl (fun K hK => ?_) ?_
        · go_simp
          have h0 : (y3.alloc (.cells #[.int .i64 0, .int .i64 0, .int .u64 0, .slice none 0 0, .slice none 0 0] 26)).heap[y3.heap.size]? = some (.cells #[.int .i64 0, .int .i64 0, .int .u64 0, .slice none 0 0, .slice none 0 0] 26) := new_at _ _
          have hb4 : Hid (W2.heap.size ≤ y3.heap.size) := hS.size
          have bb := box_below y3 (.cells #[.int .i64 0, .int .i64 0, .int .u64 0, .slice none 0 0, .slice none 0 0] 26)
          replace EO1 := hid (EO1.out.later bb)
          replace EO3 := hid (EO3.out.later bb)
          have hS' := hid (Below.up hS bb)
          clear bb
          refine hK.out _ _ hS'.out (fun hS => ?_)
          clear hK K hS'
          generalize y3.alloc (.cells #[.int .i64 0, .int .i64 0, .int .u64 0, .slice none 0 0, .slice none 0 0] 26) = y4 at *
          generalize y3.heap.size = g4 at *
          have k4 := hid h0
          clear h0
          refine wpAnyH_ready (rs := [5]) (by kernel_rfl) (by simp) ?_
          refine AllReadyH.cons rfl (fun K hK => ?_) ?_
          · go_simp
            have h0 : (y4.alloc (.cells #[.int .i64 0, .int .i64 0, .int .u64 0, .slice none 0 0, .slice none 0 0] 26)).heap[y4.heap.size]? = some (.cells #[.int .i64 0, .int .i64 0, .int .u64 0, .slice none 0 0, .slice none 0 0] 26) := new_at _ _
            have hb5 : Hid (W2.heap.size ≤ y4.heap.size) := hS.size
            have bb := box_below y4 (.cells #[.int .i64 0, .int .i64 0, .int .u64 0, .slice none 0 0, .slice none 0 0] 26)
            replace EO1 := hid (EO1.out.later bb)
            replace EO3 := hid (EO3.out.later bb)
            have ne4_5 : Hid (g4 < y4.heap.size) := blk_lt k4.out
            replace k4 := hid (below_blk k4.out bb)
            have hS' := hid (Below.up hS bb)
            clear bb
            refine hK.out _ _ hS'.out (fun hS => ?_)
            clear hK K hS'
            generalize y4.alloc (.cells #[.int .i64 0, .int .i64 0, .int .u64 0, .slice none 0 0, .slice none 0 0] 26) = y5 at *
            generalize y4.heap.size = g5 at *
            have k5 := hid h0
            clear h0
            refine wpAnyH_ready (rs := [6]) (by kernel_rfl) (by simp) ?_
            refine AllReadyH.cons rfl (fun K hK => ?_) ?_
            · have q0 := cell_of k4.out 0 (.int .i64 0) rfl
              have f0 := fz_of k4.out 0
              have q1 := cell_of k4.out 1 (.int .i64 0) rfl
              have f1 := fz_of k4.out 1
              have q2 := cell_of k4.out 2 (.int .u64 0) rfl
              have f2 := fz_of k4.out 2
              have q3 := cell_of k4.out 3 (.slice none 0 0) rfl
              have f3 := fz_of k4.out 3
              have q4 := cell_of k4.out 4 (.slice none 0 0) rfl
              have f4 := fz_of k4.out 4
              have P5 := put5 k4.out (.int .i64 x.log) (.int .i64 x.nx) (.int .u64 x.sq) (.slice a1 x.go.length c1) (.slice b1 x.co.length d1)
              have hS' : Hid (Below W2.heap.size W2 (((((y5.setCell ⟨g4, 0, none⟩ (.int .i64 x.log)).setCell ⟨g4, 1, none⟩ (.int .i64 x.nx)).setCell ⟨g4, 2, none⟩ (.int .u64 x.sq)).setCell ⟨g4, 3, none⟩ (.slice a1 x.go.length c1)).setCell ⟨g4, 4, none⟩ (.slice b1 x.co.length d1))) := ((Fp.of (P := fun j => W2.heap.size ≤ j) hS).tr (P5.2.wide (fun j _ h => .inl (by show W2.heap.size ≤ j; have := hb4.out; omega)))).base (Nat.le_refl _) (fun _ h => h)
              have EN1 := hid (EO1.out.fp P5.2 (fun j hj e => EO_ne EO1.out k4.out j hj e))
              have EN3 := hid (EO3.out.fp P5.2 (fun j hj e => EO_ne EO3.out k4.out j hj e))
              have kn5 := hid ((P5.2.block g5 (blk_lt k5.out) (fun e => by have := ne4_5.out; omega)).trans k5.out)
              have kn4 := hid P5.1
              clear P5
              go_simp
              refine hK.out _ _ hS'.out (fun hS => ?_)
              clear hK K hS' q0 q1 q2 q3 q4 f0 f1 f2 f3 f4
              generalize (((((y5.setCell ⟨g4, 0, none⟩ (.int .i64 x.log)).setCell ⟨g4, 1, none⟩ (.int .i64 x.nx)).setCell ⟨g4, 2, none⟩ (.int .u64 x.sq)).setCell ⟨g4, 3, none⟩ (.slice a1 x.go.length c1)).setCell ⟨g4, 4, none⟩ (.slice b1 x.co.length d1)) = y6 at *
              clear EO1
              have EO1 := EN1
              clear EN1
              clear EO3
              have EO3 := EN3
              clear EN3
              clear k4
              have k4 := kn4
              clear kn4
              clear k5
              have k5 := kn5
              clear kn5
              refine wpAnyH_ready (rs := [7]) (by kernel_rfl) (by simp) ?_
              refine AllReadyH.cons rfl (fun K hK => ?_) ?_
              · have q0 := cell_of k5.out 0 (.int .i64 0) rfl
                have f0 := fz_of k5.out 0
                have q1 := cell_of k5.out 1 (.int .i64 0) rfl
                have f1 := fz_of k5.out 1
                have q2 := cell_of k5.out 2 (.int .u64 0) rfl
                have f2 := fz_of k5.out 2
                have q3 := cell_of k5.out 3 (.slice none 0 0) rfl
                have f3 := fz_of k5.out 3
                have q4 := cell_of k5.out 4 (.slice none 0 0) rfl
                have f4 := fz_of k5.out 4
                have P5 := put5 k5.out (.int .i64 y.log) (.int .i64 y.nx) (.int .u64 y.sq) (.slice a3 y.go.length c3) (.slice b3 y.co.length d3)
                have hS' : Hid (Below W2.heap.size W2 (((((y6.setCell ⟨g5, 0, none⟩ (.int .i64 y.log)).setCell ⟨g5, 1, none⟩ (.int .i64 y.nx)).setCell ⟨g5, 2, none⟩ (.int .u64 y.sq)).setCell ⟨g5, 3, none⟩ (.slice a3 y.go.length c3)).setCell ⟨g5, 4, none⟩ (.slice b3 y.co.length d3))) := ((Fp.of (P := fun j => W2.heap.size ≤ j) hS).tr (P5.2.wide (fun j _ h => .inl (by show W2.heap.size ≤ j; have := hb5.out; omega)))).base (Nat.le_refl _) (fun _ h => h)
                have EN1 := hid (EO1.out.fp P5.2 (fun j hj e => EO_ne EO1.out k5.out j hj e))
                have EN3 := hid (EO3.out.fp P5.2 (fun j hj e => EO_ne EO3.out k5.out j hj e))
                have kn4 := hid ((P5.2.block g4 (blk_lt k4.out) (fun e => by have := ne4_5.out; omega)).trans k4.out)
                have kn5 := hid P5.1
                clear P5
                go_simp
                refine hK.out _ _ hS'.out (fun hS => ?_)
                clear hK K hS' q0 q1 q2 q3 q4 f0 f1 f2 f3 f4
                generalize (((((y6.setCell ⟨g5, 0, none⟩ (.int .i64 y.log)).setCell ⟨g5, 1, none⟩ (.int .i64 y.nx)).setCell ⟨g5, 2, none⟩ (.int .u64 y.sq)).setCell ⟨g5, 3, none⟩ (.slice a3 y.go.length c3)).setCell ⟨g5, 4, none⟩ (.slice b3 y.co.length d3)) = y7 at *
                clear EO1
                have EO1 := EN1
                clear EN1
                clear EO3
                have EO3 := EN3
                clear EN3
                clear k4
                have k4 := kn4
                clear kn4
                clear k5
                have k5 := kn5
                clear kn5
                refine wpAnyH_done (by kernel_rfl) ?_ _
                go_wp2_with fail
                go_meet
                case rel => exact ⟨g4, g5, a1, c1, b1, d1, a3, c3, b3, d3, _, _, rfl, rfl, k4.out, k5.out, EO1.out, EO3.out, hS⟩
              exact AllReadyH.nil
            exact AllReadyH.nil
          exact AllReadyH.nil
        refine AllReadyH.cons rfl (fun K hK => ?_) ?_
        · go_simp
          have h0 : (y3.alloc (.cells #[.int .i64 0, .int .i64 0, .int .u64 0, .slice none 0 0, .slice none 0 0] 26)).heap[y3.heap.size]? = some (.cells #[.int .i64 0, .int .i64 0, .int .u64 0, .slice none 0 0, .slice none 0 0] 26) := new_at _ _
          have hb5 : Hid (W2.heap.size ≤ y3.heap.size) := hS.size
          have bb := box_below y3 (.cells #[.int .i64 0, .int .i64 0, .int .u64 0, .slice none 0 0, .slice none 0 0] 26)
          replace EO1 := hid (EO1.out.later bb)
          replace EO3 := hid (EO3.out.later bb)
          have hS' := hid (Below.up hS bb)
          clear bb
          refine hK.out _ _ hS'.out (fun hS => ?_)
          clear hK K hS'
          generalize y3.alloc (.cells #[.int .i64 0, .int .i64 0, .int .u64 0, .slice none 0 0, .slice none 0 0] 26) = y5 at *
          generalize y3.heap.size = g5 at *
          have k5 := hid h0
          clear h0
          refine wpAnyH_ready (rs := [4]) (by kernel_rfl) (by simp) ?_
          refine AllReadyH.cons rfl (fun K hK => ?_) ?_
          · go_simp
            have h0 : (y5.alloc (.cells #[.int .i64 0, .int .i64 0, .int .u64 0, .slice none 0 0, .slice none 0 0] 26)).heap[y5.heap.size]? = some (.cells #[.int .i64 0, .int .i64 0, .int .u64 0, .slice none 0 0, .slice none 0 0] 26) := new_at _ _
            have hb4 : Hid (W2.heap.size ≤ y5.heap.size) := hS.size
            have bb := box_below y5 (.cells #[.int .i64 0, .int .i64 0, .int .u64 0, .slice none 0 0, .slice none 0 0] 26)
            replace EO1 := hid (EO1.out.later bb)
            replace EO3 := hid (EO3.out.later bb)
            have ne5_4 : Hid (g5 < y5.heap.size) := blk_lt k5.out
            replace k5 := hid (below_blk k5.out bb)
            have hS' := hid (Below.up hS bb)
            clear bb
            refine hK.out _ _ hS'.out (fun hS => ?_)
            clear hK K hS'
            generalize y5.alloc (.cells #[.int .i64 0, .int .i64 0, .int .u64 0, .slice none 0 0, .slice none 0 0] 26) = y4 at *
            generalize y5.heap.size = g4 at *
            have k4 := hid h0
            clear h0
            refine wpAnyH_ready (rs := [6]) (by kernel_rfl) (by simp) ?_
            refine AllReadyH.cons rfl (fun K hK => ?_) ?_
            · have q0 := cell_of k4.out 0 (.int .i64 0) rfl
              have f0 := fz_of k4.out 0
              have q1 := cell_of k4.out 1 (.int .i64 0) rfl
              have f1 := fz_of k4.out 1
              have q2 := cell_of k4.out 2 (.int .u64 0) rfl
              have f2 := fz_of k4.out 2
              have q3 := cell_of k4.out 3 (.slice none 0 0) rfl
              have f3 := fz_of k4.out 3
              have q4 := cell_of k4.out 4 (.slice none 0 0) rfl
              have f4 := fz_of k4.out 4
              have P5 := put5 k4.out (.int .i64 x.log) (.int .i64 x.nx) (.int .u64 x.sq) (.slice a1 x.go.length c1) (.slice b1 x.co.length d1)
              have hS' : Hid (Below W2.heap.size W2 (((((y4.setCell ⟨g4, 0, none⟩ (.int .i64 x.log)).setCell ⟨g4, 1, none⟩ (.int .i64 x.nx)).setCell ⟨g4, 2, none⟩ (.int .u64 x.sq)).setCell ⟨g4, 3, none⟩ (.slice a1 x.go.length c1)).setCell ⟨g4, 4, none⟩ (.slice b1 x.co.length d1))) := ((Fp.of (P := fun j => W2.heap.size ≤ j) hS).tr (P5.2.wide (fun j _ h => .inl (by show W2.heap.size ≤ j; have := hb4.out; omega)))).base (Nat.le_refl _) (fun _ h => h)
              have EN1 := hid (EO1.out.fp P5.2 (fun j hj e => EO_ne EO1.out k4.out j hj e))
              have EN3 := hid (EO3.out.fp P5.2 (fun j hj e => EO_ne EO3.out k4.out j hj e))
              have kn5 := hid ((P5.2.block g5 (blk_lt k5.out) (fun e => by have := ne5_4.out; omega)).trans k5.out)
              have kn4 := hid P5.1
              clear P5
              go_simp
              refine hK.out _ _ hS'.out (fun hS => ?_)
              clear hK K hS' q0 q1 q2 q3 q4 f0 f1 f2 f3 f4
              generalize (((((y4.setCell ⟨g4, 0, none⟩ (.int .i64 x.log)).setCell ⟨g4, 1, none⟩ (.int .i64 x.nx)).setCell ⟨g4, 2, none⟩ (.int .u64 x.sq)).setCell ⟨g4, 3, none⟩ (.slice a1 x.go.length c1)).setCell ⟨g4, 4, none⟩ (.slice b1 x.co.length d1)) = y6 at *
              clear EO1
              have EO1 := EN1
              clear EN1
              clear EO3
              have EO3 := EN3
              clear EN3
              clear k5
              have k5 := kn5
              clear kn5
              clear k4
              have k4 := kn4
              clear kn4
              refine wpAnyH_ready (rs := [7]) (by kernel_rfl) (by simp) ?_
              refine AllReadyH.cons rfl (fun K hK => ?_) ?_
              · have q0 := cell_of k5.out 0 (.int .i64 0) rfl
                have f0 := fz_of k5.out 0
                have q1 := cell_of k5.out 1 (.int .i64 0) rfl
                have f1 := fz_of k5.out 1
                have q2 := cell_of k5.out 2 (.int .u64 0) rfl
                have f2 := fz_of k5.out 2
                have q3 := cell_of k5.out 3 (.slice none 0 0) rfl
                have f3 := fz_of k5.out 3
                have q4 := cell_of k5.out 4 (.slice none 0 0) rfl
                have f4 := fz_of k5.out 4
                have P5 := put5 k5.out (.int .i64 y.log) (.int .i64 y.nx) (.int .u64 y.sq) (.slice a3 y.go.length c3) (.slice b3 y.co.length d3)
                have hS' : Hid (Below W2.heap.size W2 (((((y6.setCell ⟨g5, 0, none⟩ (.int .i64 y.log)).setCell ⟨g5, 1, none⟩ (.int .i64 y.nx)).setCell ⟨g5, 2, none⟩ (.int .u64 y.sq)).setCell ⟨g5, 3, none⟩ (.slice a3 y.go.length c3)).setCell ⟨g5, 4, none⟩ (.slice b3 y.co.length d3))) := ((Fp.of (P := fun j => W2.heap.size ≤ j) hS).tr (P5.2.wide (fun j _ h => .inl (by show W2.heap.size ≤ j; have := hb5.out; omega)))).base (Nat.le_refl _) (fun _ h => h)
                have EN1 := hid (EO1.out.fp P5.2 (fun j hj e => EO_ne EO1.out k5.out j hj e))
                have EN3 := hid (EO3.out.fp P5.2 (fun j hj e => EO_ne EO3.out k5.out j hj e))
                have kn4 := hid ((P5.2.block g4 (blk_lt k4.out) (fun e => by have := ne5_4.out; omega)).trans k4.out)
                have kn5 := hid P5.1
                clear P5
                go_simp
                refine hK.out _ _ hS'.out (fun hS => ?_)
                clear hK K hS' q0 q1 q2 q3 q4 f0 f1 f2 f3 f4
                generalize (((((y6.setCell ⟨g5, 0, none⟩ (.int .i64 y.log)).setCell ⟨g5, 1, none⟩ (.int .i64 y.nx)).setCell ⟨g5, 2, none⟩ (.int .u64 y.sq)).setCell ⟨g5, 3, none⟩ (.slice a3 y.go.length c3)).setCell ⟨g5, 4, none⟩ (.slice b3 y.co.length d3)) = y7 at *
                clear EO1
                have EO1 := EN1
                clear EN1
                clear EO3
                have EO3 := EN3
                clear EN3
                clear k5
                have k5 := kn5
                clear kn5
                clear k4
                have k4 := kn4
                clear kn4
                refine wpAnyH_done (by kernel_rfl) ?_ _
                go_wp2_with fail
                go_meet
                case rel => exact ⟨g4, g5, a1, c1, b1, d1, a3, c3, b3, d3, _, _, rfl, rfl, k4.out, k5.out, EO1.out, EO3.out, hS⟩
              exact AllReadyH.nil
            exact AllReadyH.nil
          exact AllReadyH.nil
        exact AllReadyH.nil
      refine AllReadyH.cons rfl (fun K hK => ?_) ?_
      · go_simp
        have h0 : (y1.alloc (.cells #[.int .i64 0, .int .i64 0, .int .u64 0, .slice none 0 0, .slice none 0 0] 26)).heap[y1.heap.size]? = some (.cells #[.int .i64 0, .int .i64 0, .int .u64 0, .slice none 0 0, .slice none 0 0] 26) := new_at _ _
        have hb4 : Hid (W2.heap.size ≤ y1.heap.size) := hS.size
        have bb := box_below y1 (.cells #[.int .i64 0, .int .i64 0, .int .u64 0, .slice none 0 0, .slice none 0 0] 26)
        replace EO1 := hid (EO1.out.later bb)
        have hS' := hid (Below.up hS bb)
        clear bb
        refine hK.out _ _ hS'.out (fun hS => ?_)
        clear hK K hS'
        generalize y1.alloc (.cells #[.int .i64 0, .int .i64 0, .int .u64 0, .slice none 0 0, .slice none 0 0] 26) = y4 at *
        generalize y1.heap.size = g4 at *
        have k4 := hid h0
        clear h0
        refine wpAnyH_ready (rs := [3, 5]) (by kernel_rfl) (by simp) ?_
        refine AllReadyH.cons rfl (fun K hK => ?_) ?_
        · go_simp
          have lo3 : Hid (W2.heap.size ≤ y4.heap.size) := hS.size
          have up1_3 : Hid (∀ j, blks (ev x a1 c1 b1 d1) j → j < y4.heap.size) := fun j h => (EO1.out.lt j h).2
          go_wp2_with fail
          refine (C2.out y4 hS).mono ?_
          rintro e y3 ⟨v3, rfl, EO3, bb3⟩
          obtain ⟨a3, c3, b3, d3, he3⟩ := EO_shape EO3
          subst he3
          replace EO3 := hid EO3
          replace EO1 := hid (EO1.out.later bb3)
          replace k4 := hid (below_blk k4.out bb3)
          have hS' := hid (Below.up hS bb3)
          clear bb3
          unfold ev at EO3
          unfold ev
          refine hK.out _ _ hS'.out (fun hS => ?_)
          clear hK K hS'
          refine wpAnyH_ready (rs := [5]) (by kernel_rfl) (by simp) ?_
          refine AllReadyH.cons rfl (fun K hK => ?_) ?_
          · go_simp
            have h0 : (y3.alloc (.cells #[.int .i64 0, .int .i64 0, .int .u64 0, .slice none 0 0, .slice none 0 0] 26)).heap[y3.heap.size]? = some (.cells #[.int .i64 0, .int .i64 0, .int .u64 0, .slice none 0 0, .slice none 0 0] 26) := new_at _ _
            have hb5 : Hid (W2.heap.size ≤ y3.heap.size) := hS.size
            have bb := box_below y3 (.cells #[.int .i64 0, .int .i64 0, .int .u64 0, .slice none 0 0, .slice none 0 0] 26)
            replace EO1 := hid (EO1.out.later bb)
            replace EO3 := hid (EO3.out.later bb)
            have ne4_5 : Hid (g4 < y3.heap.size) := blk_lt k4.out
            replace k4 := hid (below_blk k4.out bb)
            have hS' := hid (Below.up hS bb)
            clear bb
            refine hK.out _ _ hS'.out (fun hS => ?_)
            clear hK K hS'
            generalize y3.alloc (.cells #[.int .i64 0, .int .i64 0, .int .u64 0, .slice none 0 0, .slice none 0 0] 26) = y5 at *
            generalize y3.heap.size = g5 at *
            have k5 := hid h0
            clear h0
            refine wpAnyH_ready (rs := [6]) (by kernel_rfl) (by simp) ?_
            refine AllReadyH.cons rfl (fun K hK => ?_) ?_
            · have q0 := cell_of k4.out 0 (.int .i64 0) rfl
              have f0 := fz_of k4.out 0
              have q1 := cell_of k4.out 1 (.int .i64 0) rfl
              have f1 := fz_of k4.out 1
              have q2 := cell_of k4.out 2 (.int .u64 0) rfl
              have f2 := fz_of k4.out 2
              have q3 := cell_of k4.out 3 (.slice none 0 0) rfl
              have f3 := fz_of k4.out 3
              have q4 := cell_of k4.out 4 (.slice none 0 0) rfl
              have f4 := fz_of k4.out 4
              have P5 := put5 k4.out (.int .i64 x.log) (.int .i64 x.nx) (.int .u64 x.sq) (.slice a1 x.go.length c1) (.slice b1 x.co.length d1)
              have hS' : Hid (Below W2.heap.size W2 (((((y5.setCell ⟨g4, 0, none⟩ (.int .i64 x.log)).setCell ⟨g4, 1, none⟩ (.int .i64 x.nx)).setCell ⟨g4, 2, none⟩ (.int .u64 x.sq)).setCell ⟨g4, 3, none⟩ (.slice a1 x.go.length c1)).setCell ⟨g4, 4, none⟩ (.slice b1 x.co.length d1))) := ((Fp.of (P := fun j => W2.heap.size ≤ j) hS).tr (P5.2.wide (fun j _ h => .inl (by show W2.heap.size ≤ j; have := hb4.out; omega)))).base (Nat.le_refl _) (fun _ h => h)
              have EN1 := hid (EO1.out.fp P5.2 (fun j hj e => EO_ne EO1.out k4.out j hj e))
              have EN3 := hid (EO3.out.fp P5.2 (fun j hj e => EO_ne EO3.out k4.out j hj e))
              have kn5 := hid ((P5.2.block g5 (blk_lt k5.out) (fun e => by have := ne4_5.out; omega)).trans k5.out)
              have kn4 := hid P5.1
              clear P5
              go_simp
              refine hK.out _ _ hS'.out (fun hS => ?_)
              clear hK K hS' q0 q1 q2 q3 q4 f0 f1 f2 f3 f4
              generalize (((((y5.setCell ⟨g4, 0, none⟩ (.int .i64 x.log)).setCell ⟨g4, 1, none⟩ (.int .i64 x.nx)).setCell ⟨g4, 2, none⟩ (.int .u64 x.sq)).setCell ⟨g4, 3, none⟩ (.slice a1 x.go.length c1)).setCell ⟨g4, 4, none⟩ (.slice b1 x.co.length d1)) = y6 at *
              clear EO1
              have EO1 := EN1
              clear EN1
              clear EO3
              have EO3 := EN3
              clear EN3
              clear k4
              have k4 := kn4
              clear kn4
              clear k5
              have k5 := kn5
              clear kn5
              refine wpAnyH_ready (rs := [7]) (by kernel_rfl) (by simp) ?_
              refine AllReadyH.cons rfl (fun K hK => ?_) ?_
              · have q0 := cell_of k5.out 0 (.int .i64 0) rfl
                have f0 := fz_of k5.out 0
                have q1 := cell_of k5.out 1 (.int .i64 0) rfl
                have f1 := fz_of k5.out 1
                have q2 := cell_of k5.out 2 (.int .u64 0) rfl
                have f2 := fz_of k5.out 2
                have q3 := cell_of k5.out 3 (.slice none 0 0) rfl
                have f3 := fz_of k5.out 3
                have q4 := cell_of k5.out 4 (.slice none 0 0) rfl
                have f4 := fz_of k5.out 4
                have P5 := put5 k5.out (.int .i64 y.log) (.int .i64 y.nx) (.int .u64 y.sq) (.slice a3 y.go.length c3) (.slice b3 y.co.length d3)
                have hS' : Hid (Below W2.heap.size W2 (((((y6.setCell ⟨g5, 0, none⟩ (.int .i64 y.log)).setCell ⟨g5, 1, none⟩ (.int .i64 y.nx)).setCell ⟨g5, 2, none⟩ (.int .u64 y.sq)).setCell ⟨g5, 3, none⟩ (.slice a3 y.go.length c3)).setCell ⟨g5, 4, none⟩ (.slice b3 y.co.length d3))) := ((Fp.of (P := fun j => W2.heap.size ≤ j) hS).tr (P5.2.wide (fun j _ h => .inl (by show W2.heap.size ≤ j; have := hb5.out; omega)))).base (Nat.le_refl _) (fun _ h => h)
                have EN1 := hid (EO1.out.fp P5.2 (fun j hj e => EO_ne EO1.out k5.out j hj e))
                have EN3 := hid (EO3.out.fp P5.2 (fun j hj e => EO_ne EO3.out k5.out j hj e))
                have kn4 := hid ((P5.2.block g4 (blk_lt k4.out) (fun e => by have := ne4_5.out; omega)).trans k4.out)
                have kn5 := hid P5.1
                clear P5
                go_simp
                refine hK.out _ _ hS'.out (fun hS => ?_)
                clear hK K hS' q0 q1 q2 q3 q4 f0 f1 f2 f3 f4
                generalize (((((y6.setCell ⟨g5, 0, none⟩ (.int .i64 y.log)).setCell ⟨g5, 1, none⟩ (.int .i64 y.nx)).setCell ⟨g5, 2, none⟩ (.int .u64 y.sq)).setCell ⟨g5, 3, none⟩ (.slice a3 y.go.length c3)).setCell ⟨g5, 4, none⟩ (.slice b3 y.co.length d3)) = y7 at *
                clear EO1
                have EO1 := EN1
                clear EN1
                clear EO3
                have EO3 := EN3
                clear EN3
                clear k4
                have k4 := kn4
                clear kn4
                clear k5
                have k5 := kn5
                clear kn5
                refine wpAnyH_done (by kernel_rfl) ?_ _
                go_wp2_with fail
                go_meet
                case rel => exact ⟨g4, g5, a1, c1, b1, d1, a3, c3, b3, d3, _, _, rfl, rfl, k4.out, k5.out, EO1.out, EO3.out, hS⟩
              exact AllReadyH.nil
            exact AllReadyH.nil
          exact AllReadyH.nil
        refine AllReadyH.cons rfl (fun K hK => ?_) ?_
        · go_simp
          have h0 : (y4.alloc (.cells #[.int .i64 0, .int .i64 0, .int .u64 0, .slice none 0 0, .slice none 0 0] 26)).heap[y4.heap.size]? = some (.cells #[.int .i64 0, .int .i64 0, .int .u64 0, .slice none 0 0, .slice none 0 0] 26) := new_at _ _
          have hb5 : Hid (W2.heap.size ≤ y4.heap.size) := hS.size
          have bb := box_below y4 (.cells #[.int .i64 0, .int .i64 0, .int .u64 0, .slice none 0 0, .slice none 0 0] 26)
          replace EO1 := hid (EO1.out.later bb)
          have ne4_5 : Hid (g4 < y4.heap.size) := blk_lt k4.out
          replace k4 := hid (below_blk k4.out bb)
          have hS' := hid (Below.up hS bb)
          clear bb
          refine hK.out _ _ hS'.out (fun hS => ?_)
          clear hK K hS'
          generalize y4.alloc (.cells #[.int .i64 0, .int .i64 0, .int .u64 0, .slice none 0 0, .slice none 0 0] 26) = y5 at *
          generalize y4.heap.size = g5 at *
          have k5 := hid h0
          clear h0
          refine wpAnyH_ready (rs := [3]) (by kernel_rfl) (by simp) ?_
          refine AllReadyH.cons rfl (fun K hK => ?_) ?_
          · go_simp
            have lo3 : Hid (W2.heap.size ≤ y5.heap.size) := hS.size
            have up1_3 : Hid (∀ j, blks (ev x a1 c1 b1 d1) j → j < y5.heap.size) := fun j h => (EO1.out.lt j h).2
            go_wp2_with fail
            refine (C2.out y5 hS).mono ?_
            rintro e y3 ⟨v3, rfl, EO3, bb3⟩
            obtain ⟨a3, c3, b3, d3, he3⟩ := EO_shape EO3
            subst he3
            replace EO3 := hid EO3
            replace EO1 := hid (EO1.out.later bb3)
            replace k4 := hid (below_blk k4.out bb3)
            replace k5 := hid (below_blk k5.out bb3)
            have hS' := hid (Below.up hS bb3)
            clear bb3
            unfold ev at EO3
            unfold ev
            refine hK.out _ _ hS'.out (fun hS => ?_)
            clear hK K hS'
            refine wpAnyH_ready (rs := [6]) (by kernel_rfl) (by simp) ?_
            refine AllReadyH.cons rfl (fun K hK => ?_) ?_
            · have q0 := cell_of k4.out 0 (.int .i64 0) rfl
              have f0 := fz_of k4.out 0
              have q1 := cell_of k4.out 1 (.int .i64 0) rfl
              have f1 := fz_of k4.out 1
              have q2 := cell_of k4.out 2 (.int .u64 0) rfl
              have f2 := fz_of k4.out 2
              have q3 := cell_of k4.out 3 (.slice none 0 0) rfl
              have f3 := fz_of k4.out 3
              have q4 := cell_of k4.out 4 (.slice none 0 0) rfl
              have f4 := fz_of k4.out 4
              have P5 := put5 k4.out (.int .i64 x.log) (.int .i64 x.nx) (.int .u64 x.sq) (.slice a1 x.go.length c1) (.slice b1 x.co.length d1)
              have hS' : Hid (Below W2.heap.size W2 (((((y3.setCell ⟨g4, 0, none⟩ (.int .i64 x.log)).setCell ⟨g4, 1, none⟩ (.int .i64 x.nx)).setCell ⟨g4, 2, none⟩ (.int .u64 x.sq)).setCell ⟨g4, 3, none⟩ (.slice a1 x.go.length c1)).setCell ⟨g4, 4, none⟩ (.slice b1 x.co.length d1))) := ((Fp.of (P := fun j => W2.heap.size ≤ j) hS).tr (P5.2.wide (fun j _ h => .inl (by show W2.heap.size ≤ j; have := hb4.out; omega)))).base (Nat.le_refl _) (fun _ h => h)
              have EN1 := hid (EO1.out.fp P5.2 (fun j hj e => EO_ne EO1.out k4.out j hj e))
              have EN3 := hid (EO3.out.fp P5.2 (fun j hj e => EO_ne EO3.out k4.out j hj e))
              have kn5 := hid ((P5.2.block g5 (blk_lt k5.out) (fun e => by have := ne4_5.out; omega)).trans k5.out)
              have kn4 := hid P5.1
              clear P5
              go_simp
              refine hK.out _ _ hS'.out (fun hS => ?_)
              clear hK K hS' q0 q1 q2 q3 q4 f0 f1 f2 f3 f4
              generalize (((((y3.setCell ⟨g4, 0, none⟩ (.int .i64 x.log)).setCell ⟨g4, 1, none⟩ (.int .i64 x.nx)).setCell ⟨g4, 2, none⟩ (.int .u64 x.sq)).setCell ⟨g4, 3, none⟩ (.slice a1 x.go.length c1)).setCell ⟨g4, 4, none⟩ (.slice b1 x.co.length d1)) = y6 at *
              clear EO1
              have EO1 := EN1
              clear EN1
              clear EO3
              have EO3 := EN3
              clear EN3
              clear k4
              have k4 := kn4
              clear kn4
              clear k5
              have k5 := kn5
              clear kn5
              refine wpAnyH_ready (rs := [7]) (by kernel_rfl) (by simp) ?_
              refine AllReadyH.cons rfl (fun K hK => ?_) ?_
              · have q0 := cell_of k5.out 0 (.int .i64 0) rfl
                have f0 := fz_of k5.out 0
                have q1 := cell_of k5.out 1 (.int .i64 0) rfl
                have f1 := fz_of k5.out 1
                have q2 := cell_of k5.out 2 (.int .u64 0) rfl
                have f2 := fz_of k5.out 2
                have q3 := cell_of k5.out 3 (.slice none 0 0) rfl
                have f3 := fz_of k5.out 3
                have q4 := cell_of k5.out 4 (.slice none 0 0) rfl
                have f4 := fz_of k5.out 4
                have P5 := put5 k5.out (.int .i64 y.log) (.int .i64 y.nx) (.int .u64 y.sq) (.slice a3 y.go.length c3) (.slice b3 y.co.length d3)
                have hS' : Hid (Below W2.heap.size W2 (((((y6.setCell ⟨g5, 0, none⟩ (.int .i64 y.log)).setCell ⟨g5, 1, none⟩ (.int .i64 y.nx)).setCell ⟨g5, 2, none⟩ (.int .u64 y.sq)).setCell ⟨g5, 3, none⟩ (.slice a3 y.go.length c3)).setCell ⟨g5, 4, none⟩ (.slice b3 y.co.length d3))) := ((Fp.of (P := fun j => W2.heap.size ≤ j) hS).tr (P5.2.wide (fun j _ h => .inl (by show W2.heap.size ≤ j; have := hb5.out; omega)))).base (Nat.le_refl _) (fun _ h => h)
                have EN1 := hid (EO1.out.fp P5.2 (fun j hj e => EO_ne EO1.out k5.out j hj e))
                have EN3 := hid (EO3.out.fp P5.2 (fun j hj e => EO_ne EO3.out k5.out j hj e))
                have kn4 := hid ((P5.2.block g4 (blk_lt k4.out) (fun e => by have := ne4_5.out; omega)).trans k4.out)
                have kn5 := hid P5.1
                clear P5
                go_simp
                refine hK.out _ _ hS'.out (fun hS => ?_)
                clear hK K hS' q0 q1 q2 q3 q4 f0 f1 f2 f3 f4
                generalize (((((y6.setCell ⟨g5, 0, none⟩ (.int .i64 y.log)).setCell ⟨g5, 1, none⟩ (.int .i64 y.nx)).setCell ⟨g5, 2, none⟩ (.int .u64 y.sq)).setCell ⟨g5, 3, none⟩ (.slice a3 y.go.length c3)).setCell ⟨g5, 4, none⟩ (.slice b3 y.co.length d3)) = y7 at *
                clear EO1
                have EO1 := EN1
                clear EN1
                clear EO3
                have EO3 := EN3
                clear EN3
                clear k4
                have k4 := kn4
                clear kn4
                clear k5
                have k5 := kn5
                clear kn5
                refine wpAnyH_done (by kernel_rfl) ?_ _
                go_wp2_with fail
                go_meet
                case rel => exact ⟨g4, g5, a1, c1, b1, d1, a3, c3, b3, d3, _, _, rfl, rfl, k4.out, k5.out, EO1.out, EO3.out, hS⟩
              exact AllReadyH.nil
            exact AllReadyH.nil
          exact AllReadyH.nil
        exact AllReadyH.nil
      refine AllReadyH.cons rfl (fun K hK => ?_) ?_
      · go_simp
        have h0 : (y1.alloc (.cells #[.int .i64 0, .int .i64 0, .int .u64 0, .slice none 0 0, .slice none 0 0] 26)).heap[y1.heap.size]? = some (.cells #[.int .i64 0, .int .i64 0, .int .u64 0, .slice none 0 0, .slice none 0 0] 26) := new_at _ _
        have hb5 : Hid (W2.heap.size ≤ y1.heap.size) := hS.size
        have bb := box_below y1 (.cells #[.int .i64 0, .int .i64 0, .int .u64 0, .slice none 0 0, .slice none 0 0] 26)
        replace EO1 := hid (EO1.out.later bb)
        have hS' := hid (Below.up hS bb)
        clear bb
        refine hK.out _ _ hS'.out (fun hS => ?_)
        clear hK K hS'
        generalize y1.alloc (.cells #[.int .i64 0, .int .i64 0, .int .u64 0, .slice none 0 0, .slice none 0 0] 26) = y5 at *
        generalize y1.heap.size = g5 at *
        have k5 := hid h0
        clear h0
        refine wpAnyH_ready (rs := [3, 4]) (by kernel_rfl) (by simp) ?_
        refine AllReadyH.cons rfl (fun K hK => ?_) ?_
        · go_simp
          have lo3 : Hid (W2.heap.size ≤ y5.heap.size) := hS.size
          have up1_3 : Hid (∀ j, blks (ev x a1 c1 b1 d1) j → j < y5.heap.size) := fun j h => (EO1.out.lt j h).2
          go_wp2_with fail
          refine (C2.out y5 hS).mono ?_
          rintro e y3 ⟨v3, rfl, EO3, bb3⟩
          obtain ⟨a3, c3, b3, d3, he3⟩ := EO_shape EO3
          subst he3
          replace EO3 := hid EO3
          replace EO1 := hid (EO1.out.later bb3)
          replace k5 := hid (below_blk k5.out bb3)
          have hS' := hid (Below.up hS bb3)
          clear bb3
          unfold ev at EO3
          unfold ev
          refine hK.out _ _ hS'.out (fun hS => ?_)
          clear hK K hS'
          refine wpAnyH_ready (rs := [4]) (by kernel_rfl) (by simp) ?_
          refine AllReadyH.cons rfl (fun K hK => ?_) ?_
          · go_simp
            have h0 : (y3.alloc (.cells #[.int .i64 0, .int .i64 0, .int .u64 0, .slice none 0 0, .slice none 0 0] 26)).heap[y3.heap.size]? = some (.cells #[.int .i64 0, .int .i64 0, .int .u64 0, .slice none 0 0, .slice none 0 0] 26) := new_at _ _
            have hb4 : Hid (W2.heap.size ≤ y3.heap.size) := hS.size
            have bb := box_below y3 (.cells #[.int .i64 0, .int .i64 0, .int .u64 0, .slice none 0 0, .slice none 0 0] 26)
            replace EO1 := hid (EO1.out.later bb)
            replace EO3 := hid (EO3.out.later bb)
            have ne5_4 : Hid (g5 < y3.heap.size) := blk_lt k5.out
            replace k5 := hid (below_blk k5.out bb)
            have hS' := hid (Below.up hS bb)
            clear bb
            refine hK.out _ _ hS'.out (fun hS => ?_)
            clear hK K hS'
            generalize y3.alloc (.cells #[.int .i64 0, .int .i64 0, .int .u64 0, .slice none 0 0, .slice none 0 0] 26) = y4 at *
            generalize y3.heap.size = g4 at *
            have k4 := hid h0
            clear h0
            refine wpAnyH_ready (rs := [6]) (by kernel_rfl) (by simp) ?_
            refine AllReadyH.cons rfl (fun K hK => ?_) ?_
            · have q0 := cell_of k4.out 0 (.int .i64 0) rfl
              have f0 := fz_of k4.out 0
              have q1 := cell_of k4.out 1 (.int .i64 0) rfl
              have f1 := fz_of k4.out 1
              have q2 := cell_of k4.out 2 (.int .u64 0) rfl
              have f2 := fz_of k4.out 2
              have q3 := cell_of k4.out 3 (.slice none 0 0) rfl
              have f3 := fz_of k4.out 3
              have q4 := cell_of k4.out 4 (.slice none 0 0) rfl
              have f4 := fz_of k4.out 4
              have P5 := put5 k4.out (.int .i64 x.log) (.int .i64 x.nx) (.int .u64 x.sq) (.slice a1 x.go.length c1) (.slice b1 x.co.length d1)
              have hS' : Hid (Below W2.heap.size W2 (((((y4.setCell ⟨g4, 0, none⟩ (.int .i64 x.log)).setCell ⟨g4, 1, none⟩ (.int .i64 x.nx)).setCell ⟨g4, 2, none⟩ (.int .u64 x.sq)).setCell ⟨g4, 3, none⟩ (.slice a1 x.go.length c1)).setCell ⟨g4, 4, none⟩ (.slice b1 x.co.length d1))) := ((Fp.of (P := fun j => W2.heap.size ≤ j) hS).tr (P5.2.wide (fun j _ h => .inl (by show W2.heap.size ≤ j; have := hb4.out; omega)))).base (Nat.le_refl _) (fun _ h => h)
              have EN1 := hid (EO1.out.fp P5.2 (fun j hj e => EO_ne EO1.out k4.out j hj e))
              have EN3 := hid (EO3.out.fp P5.2 (fun j hj e => EO_ne EO3.out k4.out j hj e))
              have kn5 := hid ((P5.2.block g5 (blk_lt k5.out) (fun e => by have := ne5_4.out; omega)).trans k5.out)
              have kn4 := hid P5.1
              clear P5
              go_simp
              refine hK.out _ _ hS'.out (fun hS => ?_)
              clear hK K hS' q0 q1 q2 q3 q4 f0 f1 f2 f3 f4
              generalize (((((y4.setCell ⟨g4, 0, none⟩ (.int .i64 x.log)).setCell ⟨g4, 1, none⟩ (.int .i64 x.nx)).setCell ⟨g4, 2, none⟩ (.int .u64 x.sq)).setCell ⟨g4, 3, none⟩ (.slice a1 x.go.length c1)).setCell ⟨g4, 4, none⟩ (.slice b1 x.co.length d1)) = y6 at *
              clear EO1
              have EO1 := EN1
              clear EN1
              clear EO3
              have EO3 := EN3
              clear EN3
              clear k5
              have k5 := kn5
              clear kn5
              clear k4
              have k4 := kn4
              clear kn4
              refine wpAnyH_ready (rs := [7]) (by kernel_rfl) (by simp) ?_
              refine AllReadyH.cons rfl (fun K hK => ?_) ?_
              · have q0 := cell_of k5.out 0 (.int .i64 0) rfl
                have f0 := fz_of k5.out 0
                have q1 := cell_of k5.out 1 (.int .i64 0) rfl
                have f1 := fz_of k5.out 1
                have q2 := cell_of k5.out 2 (.int .u64 0) rfl
                have f2 := fz_of k5.out 2
                have q3 := cell_of k5.out 3 (.slice none 0 0) rfl
                have f3 := fz_of k5.out 3
                have q4 := cell_of k5.out 4 (.slice none 0 0) rfl
                have f4 := fz_of k5.out 4
                have P5 := put5 k5.out (.int .i64 y.log) (.int .i64 y.nx) (.int .u64 y.sq) (.slice a3 y.go.length c3) (.slice b3 y.co.length d3)
                have hS' : Hid (Below W2.heap.size W2 (((((y6.setCell ⟨g5, 0, none⟩ (.int .i64 y.log)).setCell ⟨g5, 1, none⟩ (.int .i64 y.nx)).setCell ⟨g5, 2, none⟩ (.int .u64 y.sq)).setCell ⟨g5, 3, none⟩ (.slice a3 y.go.length c3)).setCell ⟨g5, 4, none⟩ (.slice b3 y.co.length d3))) := ((Fp.of (P := fun j => W2.heap.size ≤ j) hS).tr (P5.2.wide (fun j _ h => .inl (by show W2.heap.size ≤ j; have := hb5.out; omega)))).base (Nat.le_refl _) (fun _ h => h)
                have EN1 := hid (EO1.out.fp P5.2 (fun j hj e => EO_ne EO1.out k5.out j hj e))
                have EN3 := hid (EO3.out.fp P5.2 (fun j hj e => EO_ne EO3.out k5.out j hj e))
                have kn4 := hid ((P5.2.block g4 (blk_lt k4.out) (fun e => by have := ne5_4.out; omega)).trans k4.out)
                have kn5 := hid P5.1
                clear P5
                go_simp
                refine hK.out _ _ hS'.out (fun hS => ?_)
                clear hK K hS' q0 q1 q2 q3 q4 f0 f1 f2 f3 f4
                generalize (((((y6.setCell ⟨g5, 0, none⟩ (.int .i64 y.log)).setCell ⟨g5, 1, none⟩ (.int .i64 y.nx)).setCell ⟨g5, 2, none⟩ (.int .u64 y.sq)).setCell ⟨g5, 3, none⟩ (.slice a3 y.go.length c3)).setCell ⟨g5, 4, none⟩ (.slice b3 y.co.length d3)) = y7 at *
                clear EO1
                have EO1 := EN1
                clear EN1
                clear EO3
                have EO3 := EN3
                clear EN3
                clear k5
                have k5 := kn5
                clear kn5
                clear k4
                have k4 := kn4
                clear kn4
                refine wpAnyH_done (by kernel_rfl) ?_ _
                go_wp2_with fail
                go_meet
                case rel => exact ⟨g4, g5, a1, c1, b1, d1, a3, c3, b3, d3, _, _, rfl, rfl, k4.out, k5.out, EO1.out, EO3.out, hS⟩
              exact AllReadyH.nil
            exact AllReadyH.nil
          exact AllReadyH.nil
        refine AllReadyH.cons rfl (fun K hK => ?_) ?_
        · go_simp
          have h0 : (y5.alloc (.cells #[.int .i64 0, .int .i64 0, .int .u64 0, .slice none 0 0, .slice none 0 0] 26)).heap[y5.heap.size]? = some (.cells #[.int .i64 0, .int .i64 0, .int .u64 0, .slice none 0 0, .slice none 0 0] 26) := new_at _ _
          have hb4 : Hid (W2.heap.size ≤ y5.heap.size) := hS.size
          have bb := box_below y5 (.cells #[.int .i64 0, .int .i64 0, .int .u64 0, .slice none 0 0, .slice none 0 0] 26)
          replace EO1 := hid (EO1.out.later bb)
          have ne5_4 : Hid (g5 < y5.heap.size) := blk_lt k5.out
          replace k5 := hid (below_blk k5.out bb)
          have hS' := hid (Below.up hS bb)
          clear bb
          refine hK.out _ _ hS'.out (fun hS => ?_)
          clear hK K hS'
          generalize y5.alloc (.cells #[.int .i64 0, .int .i64 0, .int .u64 0, .slice none 0 0, .slice none 0 0] 26) = y4 at *
          generalize y5.heap.size = g4 at *
          have k4 := hid h0
          clear h0
          refine wpAnyH_ready (rs := [3]) (by kernel_rfl) (by simp) ?_
          refine AllReadyH.cons rfl (fun K hK => ?_) ?_
          · go_simp
            have lo3 : Hid (W2.heap.size ≤ y4.heap.size) := hS.size
            have up1_3 : Hid (∀ j, blks (ev x a1 c1 b1 d1) j → j < y4.heap.size) := fun j h => (EO1.out.lt j h).2
            go_wp2_with fail
            refine (C2.out y4 hS).mono ?_
            rintro e y3 ⟨v3, rfl, EO3, bb3⟩
            obtain ⟨a3, c3, b3, d3, he3⟩ := EO_shape EO3
            subst he3
            replace EO3 := hid EO3
            replace EO1 := hid (EO1.out.later bb3)
            replace k5 := hid (below_blk k5.out bb3)
            replace k4 := hid (below_blk k4.out bb3)
            have hS' := hid (Below.up hS bb3)
            clear bb3
            unfold ev at EO3
            unfold ev
            refine hK.out _ _ hS'.out (fun hS => ?_)
            clear hK K hS'
            refine wpAnyH_ready (rs := [6]) (by kernel_rfl) (by simp) ?_
            refine AllReadyH.cons rfl (fun K hK => ?_) ?_
            · have q0 := cell_of k4.out 0 (.int .i64 0) rfl
              have f0 := fz_of k4.out 0
              have q1 := cell_of k4.out 1 (.int .i64 0) rfl
              have f1 := fz_of k4.out 1
              have q2 := cell_of k4.out 2 (.int .u64 0) rfl
              have f2 := fz_of k4.out 2
              have q3 := cell_of k4.out 3 (.slice none 0 0) rfl
              have f3 := fz_of k4.out 3
              have q4 := cell_of k4.out 4 (.slice none 0 0) rfl
              have f4 := fz_of k4.out 4
              have P5 := put5 k4.out (.int .i64 x.log) (.int .i64 x.nx) (.int .u64 x.sq) (.slice a1 x.go.length c1) (.slice b1 x.co.length d1)
              have hS' : Hid (Below W2.heap.size W2 (((((y3.setCell ⟨g4, 0, none⟩ (.int .i64 x.log)).setCell ⟨g4, 1, none⟩ (.int .i64 x.nx)).setCell ⟨g4, 2, none⟩ (.int .u64 x.sq)).setCell ⟨g4, 3, none⟩ (.slice a1 x.go.length c1)).setCell ⟨g4, 4, none⟩ (.slice b1 x.co.length d1))) := ((Fp.of (P := fun j => W2.heap.size ≤ j) hS).tr (P5.2.wide (fun j _ h => .inl (by show W2.heap.size ≤ j; have := hb4.out; omega)))).base (Nat.le_refl _) (fun _ h => h)
              have EN1 := hid (EO1.out.fp P5.2 (fun j hj e => EO_ne EO1.out k4.out j hj e))
              have EN3 := hid (EO3.out.fp P5.2 (fun j hj e => EO_ne EO3.out k4.out j hj e))
              have kn5 := hid ((P5.2.block g5 (blk_lt k5.out) (fun e => by have := ne5_4.out; omega)).trans k5.out)
              have kn4 := hid P5.1
              clear P5
              go_simp
              refine hK.out _ _ hS'.out (fun hS => ?_)
              clear hK K hS' q0 q1 q2 q3 q4 f0 f1 f2 f3 f4
              generalize (((((y3.setCell ⟨g4, 0, none⟩ (.int .i64 x.log)).setCell ⟨g4, 1, none⟩ (.int .i64 x.nx)).setCell ⟨g4, 2, none⟩ (.int .u64 x.sq)).setCell ⟨g4, 3, none⟩ (.slice a1 x.go.length c1)).setCell ⟨g4, 4, none⟩ (.slice b1 x.co.length d1)) = y6 at *
              clear EO1
              have EO1 := EN1
              clear EN1
              clear EO3
              have EO3 := EN3
              clear EN3
              clear k5
              have k5 := kn5
              clear kn5
              clear k4
              have k4 := kn4
              clear kn4
              refine wpAnyH_ready (rs := [7]) (by kernel_rfl) (by simp) ?_
              refine AllReadyH.cons rfl (fun K hK => ?_) ?_
              · have q0 := cell_of k5.out 0 (.int .i64 0) rfl
                have f0 := fz_of k5.out 0
                have q1 := cell_of k5.out 1 (.int .i64 0) rfl
                have f1 := fz_of k5.out 1
                have q2 := cell_of k5.out 2 (.int .u64 0) rfl
                have f2 := fz_of k5.out 2
                have q3 := cell_of k5.out 3 (.slice none 0 0) rfl
                have f3 := fz_of k5.out 3
                have q4 := cell_of k5.out 4 (.slice none 0 0) rfl
                have f4 := fz_of k5.out 4
                have P5 := put5 k5.out (.int .i64 y.log) (.int .i64 y.nx) (.int .u64 y.sq) (.slice a3 y.go.length c3) (.slice b3 y.co.length d3)
                have hS' : Hid (Below W2.heap.size W2 (((((y6.setCell ⟨g5, 0, none⟩ (.int .i64 y.log)).setCell ⟨g5, 1, none⟩ (.int .i64 y.nx)).setCell ⟨g5, 2, none⟩ (.int .u64 y.sq)).setCell ⟨g5, 3, none⟩ (.slice a3 y.go.length c3)).setCell ⟨g5, 4, none⟩ (.slice b3 y.co.length d3))) := ((Fp.of (P := fun j => W2.heap.size ≤ j) hS).tr (P5.2.wide (fun j _ h => .inl (by show W2.heap.size ≤ j; have := hb5.out; omega)))).base (Nat.le_refl _) (fun _ h => h)
                have EN1 := hid (EO1.out.fp P5.2 (fun j hj e => EO_ne EO1.out k5.out j hj e))
                have EN3 := hid (EO3.out.fp P5.2 (fun j hj e => EO_ne EO3.out k5.out j hj e))
                have kn4 := hid ((P5.2.block g4 (blk_lt k4.out) (fun e => by have := ne5_4.out; omega)).trans k4.out)
                have kn5 := hid P5.1
                clear P5
                go_simp
                refine hK.out _ _ hS'.out (fun hS => ?_)
                clear hK K hS' q0 q1 q2 q3 q4 f0 f1 f2 f3 f4
                generalize (((((y6.setCell ⟨g5, 0, none⟩ (.int .i64 y.log)).setCell ⟨g5, 1, none⟩ (.int .i64 y.nx)).setCell ⟨g5, 2, none⟩ (.int .u64 y.sq)).setCell ⟨g5, 3, none⟩ (.slice a3 y.go.length c3)).setCell ⟨g5, 4, none⟩ (.slice b3 y.co.length d3)) = y7 at *
                clear EO1
                have EO1 := EN1
                clear EN1
                clear EO3
                have EO3 := EN3
                clear EN3
                clear k5
                have k5 := kn5
                clear kn5
                clear k4
                have k4 := kn4
                clear kn4
                refine wpAnyH_done (by kernel_rfl) ?_ _
                go_wp2_with fail
                go_meet
                case rel => exact ⟨g4, g5, a1, c1, b1, d1, a3, c3, b3, d3, _, _, rfl, rfl, k4.out, k5.out, EO1.out, EO3.out, hS⟩
              exact AllReadyH.nil
            exact AllReadyH.nil
          exact AllReadyH.nil
        exact AllReadyH.nil
      exact AllReadyH.nil
    refine AllReadyH.cons rfl (fun K hK => ?_) ?_
    · go_simp
      have h0 : (D.alloc (.cells #[.int .i64 0, .int .i64 0, .int .u64 0, .slice none 0 0, .slice none 0 0] 26)).heap[D.heap.size]? = some (.cells #[.int .i64 0, .int .i64 0, .int .u64 0, .slice none 0 0, .slice none 0 0] 26) := new_at _ _
      have hb4 : Hid (W2.heap.size ≤ D.heap.size) := hS.size
      have bb := box_below D (.cells #[.int .i64 0, .int .i64 0, .int .u64 0, .slice none 0 0, .slice none 0 0] 26)
      have hS' := hid (Below.up hS bb)
      clear bb
      refine hK.out _ _ hS'.out (fun hS => ?_)
      clear hK K hS'
      generalize D.alloc (.cells #[.int .i64 0, .int .i64 0, .int .u64 0, .slice none 0 0, .slice none 0 0] 26) = y4 at *
      generalize D.heap.size = g4 at *
      have k4 := hid h0
      clear h0
      refine wpAnyH_ready (rs := [1, 5]) (by kernel_rfl) (by simp) ?_
      refine AllReadyH.cons rfl (fun K hK => ?_) ?_
      · go_simp
        have lo1 : Hid (W2.heap.size ≤ y4.heap.size) := hS.size
        go_wp2_with fail
        refine (C1.out y4 hS).mono ?_
        rintro e y1 ⟨v1, rfl, EO1, bb1⟩
        obtain ⟨a1, c1, b1, d1, he1⟩ := EO_shape EO1
        subst he1
        replace EO1 := hid EO1
        replace k4 := hid (below_blk k4.out bb1)
        have hS' := hid (Below.up hS bb1)
        clear bb1
        unfold ev at EO1
        unfold ev
        refine hK.out _ _ hS'.out (fun hS => ?_)
        clear hK K hS'
        refine wpAnyH_ready (rs := [3, 5]) (by kernel_rfl) (by simp) ?_
        refine AllReadyH.cons rfl (fun K hK => ?_) ?_
        · go_simp
          have lo3 : Hid (W2.heap.size ≤ y1.heap.size) := hS.size
          have up1_3 : Hid (∀ j, blks (ev x a1 c1 b1 d1) j → j < y1.heap.size) := fun j h => (EO1.out.lt j h).2
          go_wp2_with fail
          refine (C2.out y1 hS).mono ?_
          rintro e y3 ⟨v3, rfl, EO3, bb3⟩
          obtain ⟨a3, c3, b3, d3, he3⟩ := EO_shape EO3
          subst he3
          replace EO3 := hid EO3
          replace EO1 := hid (EO1.out.later bb3)
          replace k4 := hid (below_blk k4.out bb3)
          have hS' := hid (Below.up hS bb3)
          clear bb3
          unfold ev at EO3
          unfold ev
          refine hK.out _ _ hS'.out (fun hS => ?_)
          clear hK K hS'
          refine wpAnyH_ready (rs := [5]) (by kernel_rfl) (by simp) ?_
          refine AllReadyH.cons rfl (fun K hK => ?_) ?_
          · go_simp
            have h0 : (y3.alloc (.cells #[.int .i64 0, .int .i64 0, .int .u64 0, .slice none 0 0, .slice none 0 0] 26)).heap[y3.heap.size]? = some (.cells #[.int .i64 0, .int .i64 0, .int .u64 0, .slice none 0 0, .slice none 0 0] 26) := new_at _ _
            have hb5 : Hid (W2.heap.size ≤ y3.heap.size) := hS.size
            have bb := box_below y3 (.cells #[.int .i64 0, .int .i64 0, .int .u64 0, .slice none 0 0, .slice none 0 0] 26)
            replace EO1 := hid (EO1.out.later bb)
            replace EO3 := hid (EO3.out.later bb)
            have ne4_5 : Hid (g4 < y3.heap.size) := blk_lt k4.out
            replace k4 := hid (below_blk k4.out bb)
            have hS' := hid (Below.up hS bb)
            clear bb
            refine hK.out _ _ hS'.out (fun hS => ?_)
            clear hK K hS'
            generalize y3.alloc (.cells #[.int .i64 0, .int .i64 0, .int .u64 0, .slice none 0 0, .slice none 0 0] 26) = y5 at *
            generalize y3.heap.size = g5 at *
            have k5 := hid h0
            clear h0
            refine wpAnyH_ready (rs := [6]) (by kernel_rfl) (by simp) ?_
            refine AllReadyH.cons rfl (fun K hK => ?_) ?_
            · have q0 := cell_of k4.out 0 (.int .i64 0) rfl
              have f0 := fz_of k4.out 0
              have q1 := cell_of k4.out 1 (.int .i64 0) rfl
              have f1 := fz_of k4.out 1
              have q2 := cell_of k4.out 2 (.int .u64 0) rfl
              have f2 := fz_of k4.out 2
              have q3 := cell_of k4.out 3 (.slice none 0 0) rfl
              have f3 := fz_of k4.out 3
              have q4 := cell_of k4.out 4 (.slice none 0 0) rfl
              have f4 := fz_of k4.out 4
              have P5 := put5 k4.out (.int .i64 x.log) (.int .i64 x.nx) (.int .u64 x.sq) (.slice a1 x.go.length c1) (.slice b1 x.co.length d1)
              have hS' : Hid (Below W2.heap.size W2 (((((y5.setCell ⟨g4, 0, none⟩ (.int .i64 x.log)).setCell ⟨g4, 1, none⟩ (.int .i64 x.nx)).setCell ⟨g4, 2, none⟩ (.int .u64 x.sq)).setCell ⟨g4, 3, none⟩ (.slice a1 x.go.length c1)).setCell ⟨g4, 4, none⟩ (.slice b1 x.co.length d1))) := ((Fp.of (P := fun j => W2.heap.size ≤ j) hS).tr (P5.2.wide (fun j _ h => .inl (by show W2.heap.size ≤ j; have := hb4.out; omega)))).base (Nat.le_refl _) (fun _ h => h)
              have EN1 := hid (EO1.out.fp P5.2 (fun j hj e => EO_ne EO1.out k4.out j hj e))
              have EN3 := hid (EO3.out.fp P5.2 (fun j hj e => EO_ne EO3.out k4.out j hj e))
              have kn5 := hid ((P5.2.block g5 (blk_lt k5.out) (fun e => by have := ne4_5.out; omega)).trans k5.out)
              have kn4 := hid P5.1
              clear P5
              go_simp
              refine hK.out _ _ hS'.out (fun hS => ?_)
              clear hK K hS' q0 q1 q2 q3 q4 f0 f1 f2 f3 f4
              generalize (((((y5.setCell ⟨g4, 0, none⟩ (.int .i64 x.log)).setCell ⟨g4, 1, none⟩ (.int .i64 x.nx)).setCell ⟨g4, 2, none⟩ (.int .u64 x.sq)).setCell ⟨g4, 3, none⟩ (.slice a1 x.go.length c1)).setCell ⟨g4, 4, none⟩ (.slice b1 x.co.length d1)) = y6 at *
              clear EO1
              have EO1 := EN1
              clear EN1
              clear EO3
              have EO3 := EN3
              clear EN3
              clear k4
              have k4 := kn4
              clear kn4
              clear k5
              have k5 := kn5
              clear kn5
              refine wpAnyH_ready (rs := [7]) (by kernel_rfl) (by simp) ?_
              refine AllReadyH.cons rfl (fun K hK => ?_) ?_
              · have q0 := cell_of k5.out 0 (.int .i64 0) rfl
                have f0 := fz_of k5.out 0
                have q1 := cell_of k5.out 1 (.int .i64 0) rfl
                have f1 := fz_of k5.out 1
                have q2 := cell_of k5.out 2 (.int .u64 0) rfl
                have f2 := fz_of k5.out 2
                have q3 := cell_of k5.out 3 (.slice none 0 0) rfl
                have f3 := fz_of k5.out 3
                have q4 := cell_of k5.out 4 (.slice none 0 0) rfl
                have f4 := fz_of k5.out 4
                have P5 := put5 k5.out (.int .i64 y.log) (.int .i64 y.nx) (.int .u64 y.sq) (.slice a3 y.go.length c3) (.slice b3 y.co.length d3)
                have hS' : Hid (Below W2.heap.size W2 (((((y6.setCell ⟨g5, 0, none⟩ (.int .i64 y.log)).setCell ⟨g5, 1, none⟩ (.int .i64 y.nx)).setCell ⟨g5, 2, none⟩ (.int .u64 y.sq)).setCell ⟨g5, 3, none⟩ (.slice a3 y.go.length c3)).setCell ⟨g5, 4, none⟩ (.slice b3 y.co.length d3))) := ((Fp.of (P := fun j => W2.heap.size ≤ j) hS).tr (P5.2.wide (fun j _ h => .inl (by show W2.heap.size ≤ j; have := hb5.out; omega)))).base (Nat.le_refl _) (fun _ h => h)
                have EN1 := hid (EO1.out.fp P5.2 (fun j hj e => EO_ne EO1.out k5.out j hj e))
                have EN3 := hid (EO3.out.fp P5.2 (fun j hj e => EO_ne EO3.out k5.out j hj e))
                have kn4 := hid ((P5.2.block g4 (blk_lt k4.out) (fun e => by have := ne4_5.out; omega)).trans k4.out)
                have kn5 := hid P5.1
                clear P5
                go_simp
                refine hK.out _ _ hS'.out (fun hS => ?_)
                clear hK K hS' q0 q1 q2 q3 q4 f0 f1 f2 f3 f4
                generalize (((((y6.setCell ⟨g5, 0, none⟩ (.int .i64 y.log)).setCell ⟨g5, 1, none⟩ (.int .i64 y.nx)).setCell ⟨g5, 2, none⟩ (.int .u64 y.sq)).setCell ⟨g5, 3, none⟩ (.slice a3 y.go.length c3)).setCell ⟨g5, 4, none⟩ (.slice b3 y.co.length d3)) = y7 at *
                clear EO1
                have EO1 := EN1
                clear EN1
                clear EO3
                have EO3 := EN3
                clear EN3
                clear k4
                have k4 := kn4
                clear kn4
                clear k5
                have k5 := kn5
                clear kn5
                refine wpAnyH_done (by kernel_rfl) ?_ _
                go_wp2_with fail
                go_meet
                case rel => exact ⟨g4, g5, a1, c1, b1, d1, a3, c3, b3, d3, _, _, rfl, rfl, k4.out, k5.out, EO1.out, EO3.out, hS⟩
              exact AllReadyH.nil
            exact AllReadyH.nil
          exact AllReadyH.nil
        refine AllReadyH.cons rfl (fun K hK => ?_) ?_
        · go_simp
          have h0 : (y1.alloc (.cells #[.int .i64 0, .int .i64 0, .int .u64 0, .slice none 0 0, .slice none 0 0] 26)).heap[y1.heap.size]? = some (.cells #[.int .i64 0, .int .i64 0, .int .u64 0, .slice none 0 0, .slice none 0 0] 26) := new_at _ _
          have hb5 : Hid (W2.heap.size ≤ y1.heap.size) := hS.size
          have bb := box_below y1 (.cells #[.int .i64 0, .int .i64 0, .int .u64 0, .slice none 0 0, .slice none 0 0] 26)
          replace EO1 := hid (EO1.out.later bb)
          have ne4_5 : Hid (g4 < y1.heap.size) := blk_lt k4.out
          replace k4 := hid (below_blk k4.out bb)
          have hS' := hid (Below.up hS bb)
          clear bb
          refine hK.out _ _ hS'.out (fun hS => ?_)
          clear hK K hS'
          generalize y1.alloc (.cells #[.int .i64 0, .int .i64 0, .int .u64 0, .slice none 0 0, .slice none 0 0] 26) = y5 at *
          generalize y1.heap.size = g5 at *
          have k5 := hid h0
          clear h0
          refine wpAnyH_ready (rs := [3]) (by kernel_rfl) (by simp) ?_
          refine AllReadyH.cons rfl (fun K hK => ?_) ?_
          · go_simp
            have lo3 : Hid (W2.heap.size ≤ y5.heap.size) := hS.size
            have up1_3 : Hid (∀ j, blks (ev x a1 c1 b1 d1) j → j < y5.heap.size) := fun j h => (EO1.out.lt j h).2
            go_wp2_with fail
            refine (C2.out y5 hS).mono ?_
            rintro e y3 ⟨v3, rfl, EO3, bb3⟩
            obtain ⟨a3, c3, b3, d3, he3⟩ := EO_shape EO3
            subst he3
            replace EO3 := hid EO3
            replace EO1 := hid (EO1.out.later bb3)
            replace k4 := hid (below_blk k4.out bb3)
            replace k5 := hid (below_blk k5.out bb3)
            have hS' := hid (Below.up hS bb3)
            clear bb3
            unfold ev at EO3
            unfold ev
            refine hK.out _ _ hS'.out (fun hS => ?_)
            clear hK K hS'
            refine wpAnyH_ready (rs := [6]) (by kernel_rfl) (by simp) ?_
            refine AllReadyH.cons rfl (fun K hK => ?_) ?_
            · have q0 := cell_of k4.out 0 (.int .i64 0) rfl
              have f0 := fz_of k4.out 0
              have q1 := cell_of k4.out 1 (.int .i64 0) rfl
              have f1 := fz_of k4.out 1
              have q2 := cell_of k4.out 2 (.int .u64 0) rfl
              have f2 := fz_of k4.out 2
              have q3 := cell_of k4.out 3 (.slice none 0 0) rfl
              have f3 := fz_of k4.out 3
              have q4 := cell_of k4.out 4 (.slice none 0 0) rfl
              have f4 := fz_of k4.out 4
              have P5 := put5 k4.out (.int .i64 x.log) (.int .i64 x.nx) (.int .u64 x.sq) (.slice a1 x.go.length c1) (.slice b1 x.co.length d1)
              have hS' : Hid (Below W2.heap.size W2 (((((y3.setCell ⟨g4, 0, none⟩ (.int .i64 x.log)).setCell ⟨g4, 1, none⟩ (.int .i64 x.nx)).setCell ⟨g4, 2, none⟩ (.int .u64 x.sq)).setCell ⟨g4, 3, none⟩ (.slice a1 x.go.length c1)).setCell ⟨g4, 4, none⟩ (.slice b1 x.co.length d1))) := ((Fp.of (P := fun j => W2.heap.size ≤ j) hS).tr (P5.2.wide (fun j _ h => .inl (by show W2.heap.size ≤ j; have := hb4.out; omega)))).base (Nat.le_refl _) (fun _ h => h)
              have EN1 := hid (EO1.out.fp P5.2 (fun j hj e => EO_ne EO1.out k4.out j hj e))
              have EN3 := hid (EO3.out.fp P5.2 (fun j hj e => EO_ne EO3.out k4.out j hj e))
              have kn5 := hid ((P5.2.block g5 (blk_lt k5.out) (fun e => by have := ne4_5.out; omega)).trans k5.out)
              have kn4 := hid P5.1
              clear P5
              go_simp
              refine hK.out _ _ hS'.out (fun hS => ?_)
              clear hK K hS' q0 q1 q2 q3 q4 f0 f1 f2 f3 f4
              generalize (((((y3.setCell ⟨g4, 0, none⟩ (.int .i64 x.log)).setCell ⟨g4, 1, none⟩ (.int .i64 x.nx)).setCell ⟨g4, 2, none⟩ (.int .u64 x.sq)).setCell ⟨g4, 3, none⟩ (.slice a1 x.go.length c1)).setCell ⟨g4, 4, none⟩ (.slice b1 x.co.length d1)) = y6 at *
              clear EO1
              have EO1 := EN1
              clear EN1
              clear EO3
              have EO3 := EN3
              clear EN3
              clear k4
              have k4 := kn4
              clear kn4
              clear k5
              have k5 := kn5
              clear kn5
              refine wpAnyH_ready (rs := [7]) (by kernel_rfl) (by simp) ?_
              refine AllReadyH.cons rfl (fun K hK => ?_) ?_
              · have q0 := cell_of k5.out 0 (.int .i64 0) rfl
                have f0 := fz_of k5.out 0
                have q1 := cell_of k5.out 1 (.int .i64 0) rfl
                have f1 := fz_of k5.out 1
                have q2 := cell_of k5.out 2 (.int .u64 0) rfl
                have f2 := fz_of k5.out 2
                have q3 := cell_of k5.out 3 (.slice none 0 0) rfl
                have f3 := fz_of k5.out 3
                have q4 := cell_of k5.out 4 (.slice none 0 0) rfl
                have f4 := fz_of k5.out 4
                have P5 := put5 k5.out (.int .i64 y.log) (.int .i64 y.nx) (.int .u64 y.sq) (.slice a3 y.go.length c3) (.slice b3 y.co.length d3)
                have hS' : Hid (Below W2.heap.size W2 (((((y6.setCell ⟨g5, 0, none⟩ (.int .i64 y.log)).setCell ⟨g5, 1, none⟩ (.int .i64 y.nx)).setCell ⟨g5, 2, none⟩ (.int .u64 y.sq)).setCell ⟨g5, 3, none⟩ (.slice a3 y.go.length c3)).setCell ⟨g5, 4, none⟩ (.slice b3 y.co.length d3))) := ((Fp.of (P := fun j => W2.heap.size ≤ j) hS).tr (P5.2.wide (fun j _ h => .inl (by show W2.heap.size ≤ j; have := hb5.out; omega)))).base (Nat.le_refl _) (fun _ h => h)
                have EN1 := hid (EO1.out.fp P5.2 (fun j hj e => EO_ne EO1.out k5.out j hj e))
                have EN3 := hid (EO3.out.fp P5.2 (fun j hj e => EO_ne EO3.out k5.out j hj e))
                have kn4 := hid ((P5.2.block g4 (blk_lt k4.out) (fun e => by have := ne4_5.out; omega)).trans k4.out)
                have kn5 := hid P5.1
                clear P5
                go_simp
                refine hK.out _ _ hS'.out (fun hS => ?_)
                clear hK K hS' q0 q1 q2 q3 q4 f0 f1 f2 f3 f4
                generalize (((((y6.setCell ⟨g5, 0, none⟩ (.int .i64 y.log)).setCell ⟨g5, 1, none⟩ (.int .i64 y.nx)).setCell ⟨g5, 2, none⟩ (.int .u64 y.sq)).setCell ⟨g5, 3, none⟩ (.slice a3 y.go.length c3)).setCell ⟨g5, 4, none⟩ (.slice b3 y.co.length d3)) = y7 at *
                clear EO1
                have EO1 := EN1
                clear EN1
                clear EO3
                have EO3 := EN3
                clear EN3
                clear k4
                have k4 := kn4
                clear kn4
                clear k5
                have k5 := kn5
                clear kn5
                refine wpAnyH_done (by kernel_rfl) ?_ _
                go_wp2_with fail
                go_meet
                case rel => exact ⟨g4, g5, a1, c1, b1, d1, a3, c3, b3, d3, _, _, rfl, rfl, k4.out, k5.out, EO1.out, EO3.out, hS⟩
              exact AllReadyH.nil
            exact AllReadyH.nil
          exact AllReadyH.nil
        exact AllReadyH.nil
      refine AllReadyH.cons rfl (fun K hK => ?_) ?_
      · go_simp
        have h0 : (y4.alloc (.cells #[.int .i64 0, .int .i64 0, .int .u64 0, .slice none 0 0, .slice none 0 0] 26)).heap[y4.heap.size]? = some (.cells #[.int .i64 0, .int .i64 0, .int .u64 0, .slice none 0 0, .slice none 0 0] 26) := new_at _ _
        have hb5 : Hid (W2.heap.size ≤ y4.heap.size) := hS.size
        have bb := box_below y4 (.cells #[.int .i64 0, .int .i64 0, .int .u64 0, .slice none 0 0, .slice none 0 0] 26)
        have ne4_5 : Hid (g4 < y4.heap.size) := blk_lt k4.out
        replace k4 := hid (below_blk k4.out bb)
        have hS' := hid (Below.up hS bb)
        clear bb
        refine hK.out _ _ hS'.out (fun hS => ?_)
        clear hK K hS'
        generalize y4.alloc (.cells #[.int .i64 0, .int .i64 0, .int .u64 0, .slice none 0 0, .slice none 0 0] 26) = y5 at *
        generalize y4.heap.size = g5 at *
        have k5 := hid h0
        clear h0
        refine wpAnyH_ready (rs := [1]) (by kernel_rfl) (by simp) ?_
        refine AllReadyH.cons rfl (fun K hK => ?_) ?_
        · go_simp
          have lo1 : Hid (W2.heap.size ≤ y5.heap.size) := hS.size
          go_wp2_with fail
          refine (C1.out y5 hS).mono ?_
          rintro e y1 ⟨v1, rfl, EO1, bb1⟩
          obtain ⟨a1, c1, b1, d1, he1⟩ := EO_shape EO1
          subst he1
          replace EO1 := hid EO1
          replace k4 := hid (below_blk k4.out bb1)
          replace k5 := hid (below_blk k5.out bb1)
          have hS' := hid (Below.up hS bb1)
          clear bb1
          unfold ev at EO1
          unfold ev
          refine hK.out _ _ hS'.out (fun hS => ?_)
          clear hK K hS'
          refine wpAnyH_ready (rs := [3]) (by kernel_rfl) (by simp) ?_
          refine AllReadyH.cons rfl (fun K hK => ?_) ?_
          · go_simp
            have lo3 : Hid (W2.heap.size ≤ y1.heap.size) := hS.size
            have up1_3 : Hid (∀ j, blks (ev x a1 c1 b1 d1) j → j < y1.heap.size) := fun j h => (EO1.out.lt j h).2
            go_wp2_with fail
            refine (C2.out y1 hS).mono ?_
            rintro e y3 ⟨v3, rfl, EO3, bb3⟩
            obtain ⟨a3, c3, b3, d3, he3⟩ := EO_shape EO3
            subst he3
            replace EO3 := hid EO3
            replace EO1 := hid (EO1.out.later bb3)
            replace k4 := hid (below_blk k4.out bb3)
            replace k5 := hid (below_blk k5.out bb3)
            have hS' := hid (Below.up hS bb3)
            clear bb3
            unfold ev at EO3
            unfold ev
            refine hK.out _ _ hS'.out (fun hS => ?_)
            clear hK K hS'
            refine wpAnyH_ready (rs := [6]) (by kernel_rfl) (by simp) ?_
            refine AllReadyH.cons rfl (fun K hK => ?_) ?_
            · have q0 := cell_of k4.out 0 (.int .i64 0) rfl
              have f0 := fz_of k4.out 0
              have q1 := cell_of k4.out 1 (.int .i64 0) rfl
              have f1 := fz_of k4.out 1
              have q2 := cell_of k4.out 2 (.int .u64 0) rfl
              have f2 := fz_of k4.out 2
              have q3 := cell_of k4.out 3 (.slice none 0 0) rfl
              have f3 := fz_of k4.out 3
              have q4 := cell_of k4.out 4 (.slice none 0 0) rfl
              have f4 := fz_of k4.out 4
              have P5 := put5 k4.out (.int .i64 x.log) (.int .i64 x.nx) (.int .u64 x.sq) (.slice a1 x.go.length c1) (.slice b1 x.co.length d1)
              have hS' : Hid (Below W2.heap.size W2 (((((y3.setCell ⟨g4, 0, none⟩ (.int .i64 x.log)).setCell ⟨g4, 1, none⟩ (.int .i64 x.nx)).setCell ⟨g4, 2, none⟩ (.int .u64 x.sq)).setCell ⟨g4, 3, none⟩ (.slice a1 x.go.length c1)).setCell ⟨g4, 4, none⟩ (.slice b1 x.co.length d1))) := ((Fp.of (P := fun j => W2.heap.size ≤ j) hS).tr (P5.2.wide (fun j _ h => .inl (by show W2.heap.size ≤ j; have := hb4.out; omega)))).base (Nat.le_refl _) (fun _ h => h)
              have EN1 := hid (EO1.out.fp P5.2 (fun j hj e => EO_ne EO1.out k4.out j hj e))
              have EN3 := hid (EO3.out.fp P5.2 (fun j hj e => EO_ne EO3.out k4.out j hj e))
              have kn5 := hid ((P5.2.block g5 (blk_lt k5.out) (fun e => by have := ne4_5.out; omega)).trans k5.out)
              have kn4 := hid P5.1
              clear P5
              go_simp
              refine hK.out _ _ hS'.out (fun hS => ?_)
              clear hK K hS' q0 q1 q2 q3 q4 f0 f1 f2 f3 f4
              generalize (((((y3.setCell ⟨g4, 0, none⟩ (.int .i64 x.log)).setCell ⟨g4, 1, none⟩ (.int .i64 x.nx)).setCell ⟨g4, 2, none⟩ (.int .u64 x.sq)).setCell ⟨g4, 3, none⟩ (.slice a1 x.go.length c1)).setCell ⟨g4, 4, none⟩ (.slice b1 x.co.length d1)) = y6 at *
              clear EO1
              have EO1 := EN1
              clear EN1
              clear EO3
              have EO3 := EN3
              clear EN3
              clear k4
              have k4 := kn4
              clear kn4
              clear k5
              have k5 := kn5
              clear kn5
              refine wpAnyH_ready (rs := [7]) (by kernel_rfl) (by simp) ?_
              refine AllReadyH.cons rfl (fun K hK => ?_) ?_
              · have q0 := cell_of k5.out 0 (.int .i64 0) rfl
                have f0 := fz_of k5.out 0
                have q1 := cell_of k5.out 1 (.int .i64 0) rfl
                have f1 := fz_of k5.out 1
                have q2 := cell_of k5.out 2 (.int .u64 0) rfl
                have f2 := fz_of k5.out 2
                have q3 := cell_of k5.out 3 (.slice none 0 0) rfl
                have f3 := fz_of k5.out 3
                have q4 := cell_of k5.out 4 (.slice none 0 0) rfl
                have f4 := fz_of k5.out 4
                have P5 := put5 k5.out (.int .i64 y.log) (.int .i64 y.nx) (.int .u64 y.sq) (.slice a3 y.go.length c3) (.slice b3 y.co.length d3)
                have hS' : Hid (Below W2.heap.size W2 (((((y6.setCell ⟨g5, 0, none⟩ (.int .i64 y.log)).setCell ⟨g5, 1, none⟩ (.int .i64 y.nx)).setCell ⟨g5, 2, none⟩ (.int .u64 y.sq)).setCell ⟨g5, 3, none⟩ (.slice a3 y.go.length c3)).setCell ⟨g5, 4, none⟩ (.slice b3 y.co.length d3))) := ((Fp.of (P := fun j => W2.heap.size ≤ j) hS).tr (P5.2.wide (fun j _ h => .inl (by show W2.heap.size ≤ j; have := hb5.out; omega)))).base (Nat.le_refl _) (fun _ h => h)
                have EN1 := hid (EO1.out.fp P5.2 (fun j hj e => EO_ne EO1.out k5.out j hj e))
                have EN3 := hid (EO3.out.fp P5.2 (fun j hj e => EO_ne EO3.out k5.out j hj e))
                have kn4 := hid ((P5.2.block g4 (blk_lt k4.out) (fun e => by have := ne4_5.out; omega)).trans k4.out)
                have kn5 := hid P5.1
                clear P5
                go_simp
                refine hK.out _ _ hS'.out (fun hS => ?_)
                clear hK K hS' q0 q1 q2 q3 q4 f0 f1 f2 f3 f4
                generalize (((((y6.setCell ⟨g5, 0, none⟩ (.int .i64 y.log)).setCell ⟨g5, 1, none⟩ (.int .i64 y.nx)).setCell ⟨g5, 2, none⟩ (.int .u64 y.sq)).setCell ⟨g5, 3, none⟩ (.slice a3 y.go.length c3)).setCell ⟨g5, 4, none⟩ (.slice b3 y.co.length d3)) = y7 at *
                clear EO1
                have EO1 := EN1
                clear EN1
                clear EO3
                have EO3 := EN3
                clear EN3
                clear k4
                have k4 := kn4
                clear kn4
                clear k5
                have k5 := kn5
                clear kn5
                refine wpAnyH_done (by kernel_rfl) ?_ _
                go_wp2_with fail
                go_meet
                case rel => exact ⟨g4, g5, a1, c1, b1, d1, a3, c3, b3, d3, _, _, rfl, rfl, k4.out, k5.out, EO1.out, EO3.out, hS⟩
              exact AllReadyH.nil
            exact AllReadyH.nil
          exact AllReadyH.nil
        exact AllReadyH.nil
      exact AllReadyH.nil
    refine AllReadyH.cons rfl (fun K hK => ?_) ?_
    · go_simp
      have h0 : (D.alloc (.cells #[.int .i64 0, .int .i64 0, .int .u64 0, .slice none 0 0, .slice none 0 0] 26)).heap[D.heap.size]? = some (.cells #[.int .i64 0, .int .i64 0, .int .u64 0, .slice none 0 0, .slice none 0 0] 26) := new_at _ _
      have hb5 : Hid (W2.heap.size ≤ D.heap.size) := hS.size
      have bb := box_below D (.cells #[.int .i64 0, .int .i64 0, .int .u64 0, .slice none 0 0, .slice none 0 0] 26)
      have hS' := hid (Below.up hS bb)
      clear bb
      refine hK.out _ _ hS'.out (fun hS => ?_)
      clear hK K hS'
      generalize D.alloc (.cells #[.int .i64 0, .int .i64 0, .int .u64 0, .slice none 0 0, .slice none 0 0] 26) = y5 at *
      generalize D.heap.size = g5 at *
      have k5 := hid h0
      clear h0
      refine wpAnyH_ready (rs := [1, 4]) (by kernel_rfl) (by simp) ?_
      refine AllReadyH.cons rfl (fun K hK => ?_) ?_
      · go_simp
        have lo1 : Hid (W2.heap.size ≤ y5.heap.size) := hS.size
        go_wp2_with fail
        refine (C1.out y5 hS).mono ?_
        rintro e y1 ⟨v1, rfl, EO1, bb1⟩
        obtain ⟨a1, c1, b1, d1, he1⟩ := EO_shape EO1
        subst he1
        replace EO1 := hid EO1
        replace k5 := hid (below_blk k5.out bb1)
        have hS' := hid (Below.up hS bb1)
        clear bb1
        unfold ev at EO1
        unfold ev
        refine hK.out _ _ hS'.out (fun hS => ?_)
        clear hK K hS'
        refine wpAnyH_ready (rs := [3, 4]) (by kernel_rfl) (by simp) ?_
        refine AllReadyH.cons rfl (fun K hK => ?_) ?_
        · go_simp
          have lo3 : Hid (W2.heap.size ≤ y1.heap.size) := hS.size
          have up1_3 : Hid (∀ j, blks (ev x a1 c1 b1 d1) j → j < y1.heap.size) := fun j h => (EO1.out.lt j h).2
          go_wp2_with fail
          refine (C2.out y1 hS).mono ?_
          rintro e y3 ⟨v3, rfl, EO3, bb3⟩
          obtain ⟨a3, c3, b3, d3, he3⟩ := EO_shape EO3
          subst he3
          replace EO3 := hid EO3
          replace EO1 := hid (EO1.out.later bb3)
          replace k5 := hid (below_blk k5.out bb3)
          have hS' := hid (Below.up hS bb3)
          clear bb3
          unfold ev at EO3
          unfold ev
          refine hK.out _ _ hS'.out (fun hS => ?_)
          clear hK K hS'
          refine wpAnyH_ready (rs := [4]) (by kernel_rfl) (by simp) ?_
          refine AllReadyH.cons rfl (fun K hK => ?_) ?_
          · go_simp
            have h0 : (y3.alloc (.cells #[.int .i64 0, .int .i64 0, .int .u64 0, .slice none 0 0, .slice none 0 0] 26)).heap[y3.heap.size]? = some (.cells #[.int .i64 0, .int .i64 0, .int .u64 0, .slice none 0 0, .slice none 0 0] 26) := new_at _ _
            have hb4 : Hid (W2.heap.size ≤ y3.heap.size) := hS.size
            have bb := box_below y3 (.cells #[.int .i64 0, .int .i64 0, .int .u64 0, .slice none 0 0, .slice none 0 0] 26)
            replace EO1 := hid (EO1.out.later bb)
            replace EO3 := hid (EO3.out.later bb)
            have ne5_4 : Hid (g5 < y3.heap.size) := blk_lt k5.out
            replace k5 := hid (below_blk k5.out bb)
            have hS' := hid (Below.up hS bb)
            clear bb
            refine hK.out _ _ hS'.out (fun hS => ?_)
            clear hK K hS'
            generalize y3.alloc (.cells #[.int .i64 0, .int .i64 0, .int .u64 0, .slice none 0 0, .slice none 0 0] 26) = y4 at *
            generalize y3.heap.size = g4 at *
            have k4 := hid h0
            clear h0
            refine wpAnyH_ready (rs := [6]) (by kernel_rfl) (by simp) ?_
            refine AllReadyH.cons rfl (fun K hK => ?_) ?_
            · have q0 := cell_of k4.out 0 (.int .i64 0) rfl
              have f0 := fz_of k4.out 0
              have q1 := cell_of k4.out 1 (.int .i64 0) rfl
              have f1 := fz_of k4.out 1
              have q2 := cell_of k4.out 2 (.int .u64 0) rfl
              have f2 := fz_of k4.out 2
              have q3 := cell_of k4.out 3 (.slice none 0 0) rfl
              have f3 := fz_of k4.out 3
              have q4 := cell_of k4.out 4 (.slice none 0 0) rfl
              have f4 := fz_of k4.out 4
              have P5 := put5 k4.out (.int .i64 x.log) (.int .i64 x.nx) (.int .u64 x.sq) (.slice a1 x.go.length c1) (.slice b1 x.co.length d1)
              have hS' : Hid (Below W2.heap.size W2 (((((y4.setCell ⟨g4, 0, none⟩ (.int .i64 x.log)).setCell ⟨g4, 1, none⟩ (.int .i64 x.nx)).setCell ⟨g4, 2, none⟩ (.int .u64 x.sq)).setCell ⟨g4, 3, none⟩ (.slice a1 x.go.length c1)).setCell ⟨g4, 4, none⟩ (.slice b1 x.co.length d1))) := ((Fp.of (P := fun j => W2.heap.size ≤ j) hS).tr (P5.2.wide (fun j _ h => .inl (by show W2.heap.size ≤ j; have := hb4.out; omega)))).base (Nat.le_refl _) (fun _ h => h)
              have EN1 := hid (EO1.out.fp P5.2 (fun j hj e => EO_ne EO1.out k4.out j hj e))
              have EN3 := hid (EO3.out.fp P5.2 (fun j hj e => EO_ne EO3.out k4.out j hj e))
              have kn5 := hid ((P5.2.block g5 (blk_lt k5.out) (fun e => by have := ne5_4.out; omega)).trans k5.out)
              have kn4 := hid P5.1
              clear P5
              go_simp
              refine hK.out _ _ hS'.out (fun hS => ?_)
              clear hK K hS' q0 q1 q2 q3 q4 f0 f1 f2 f3 f4
              generalize (((((y4.setCell ⟨g4, 0, none⟩ (.int .i64 x.log)).setCell ⟨g4, 1, none⟩ (.int .i64 x.nx)).setCell ⟨g4, 2, none⟩ (.int .u64 x.sq)).setCell ⟨g4, 3, none⟩ (.slice a1 x.go.length c1)).setCell ⟨g4, 4, none⟩ (.slice b1 x.co.length d1)) = y6 at *
              clear EO1
              have EO1 := EN1
              clear EN1
              clear EO3
              have EO3 := EN3
              clear EN3
              clear k5
              have k5 := kn5
              clear kn5
              clear k4
              have k4 := kn4
              clear kn4
              refine wpAnyH_ready (rs := [7]) (by kernel_rfl) (by simp) ?_
              refine AllReadyH.cons rfl (fun K hK => ?_) ?_
              · have q0 := cell_of k5.out 0 (.int .i64 0) rfl
                have f0 := fz_of k5.out 0
                have q1 := cell_of k5.out 1 (.int .i64 0) rfl
                have f1 := fz_of k5.out 1
                have q2 := cell_of k5.out 2 (.int .u64 0) rfl
                have f2 := fz_of k5.out 2
                have q3 := cell_of k5.out 3 (.slice none 0 0) rfl
                have f3 := fz_of k5.out 3
                have q4 := cell_of k5.out 4 (.slice none 0 0) rfl
                have f4 := fz_of k5.out 4
                have P5 := put5 k5.out (.int .i64 y.log) (.int .i64 y.nx) (.int .u64 y.sq) (.slice a3 y.go.length c3) (.slice b3 y.co.length d3)
                have hS' : Hid (Below W2.heap.size W2 (((((y6.setCell ⟨g5, 0, none⟩ (.int .i64 y.log)).setCell ⟨g5, 1, none⟩ (.int .i64 y.nx)).setCell ⟨g5, 2, none⟩ (.int .u64 y.sq)).setCell ⟨g5, 3, none⟩ (.slice a3 y.go.length c3)).setCell ⟨g5, 4, none⟩ (.slice b3 y.co.length d3))) := ((Fp.of (P := fun j => W2.heap.size ≤ j) hS).tr (P5.2.wide (fun j _ h => .inl (by show W2.heap.size ≤ j; have := hb5.out; omega)))).base (Nat.le_refl _) (fun _ h => h)
                have EN1 := hid (EO1.out.fp P5.2 (fun j hj e => EO_ne EO1.out k5.out j hj e))
                have EN3 := hid (EO3.out.fp P5.2 (fun j hj e => EO_ne EO3.out k5.out j hj e))
                have kn4 := hid ((P5.2.block g4 (blk_lt k4.out) (fun e => by have := ne5_4.out; omega)).trans k4.out)
                have kn5 := hid P5.1
                clear P5
                go_simp
                refine hK.out _ _ hS'.out (fun hS => ?_)
                clear hK K hS' q0 q1 q2 q3 q4 f0 f1 f2 f3 f4
                generalize (((((y6.setCell ⟨g5, 0, none⟩ (.int .i64 y.log)).setCell ⟨g5, 1, none⟩ (.int .i64 y.nx)).setCell ⟨g5, 2, none⟩ (.int .u64 y.sq)).setCell ⟨g5, 3, none⟩ (.slice a3 y.go.length c3)).setCell ⟨g5, 4, none⟩ (.slice b3 y.co.length d3)) = y7 at *
                clear EO1
                have EO1 := EN1
                clear EN1
                clear EO3
                have EO3 := EN3
                clear EN3
                clear k5
                have k5 := kn5
                clear kn5
                clear k4
                have k4 := kn4
                clear kn4
                refine wpAnyH_done (by kernel_rfl) ?_ _
                go_wp2_with fail
                go_meet
                case rel => exact ⟨g4, g5, a1, c1, b1, d1, a3, c3, b3, d3, _, _, rfl, rfl, k4.out, k5.out, EO1.out, EO3.out, hS⟩
              exact AllReadyH.nil
            exact AllReadyH.nil
          exact AllReadyH.nil
        refine AllReadyH.cons rfl (fun K hK => ?_) ?_
        · go_simp
          have h0 : (y1.alloc (.cells #[.int .i64 0, .int .i64 0, .int .u64 0, .slice none 0 0, .slice none 0 0] 26)).heap[y1.heap.size]? = some (.cells #[.int .i64 0, .int .i64 0, .int .u64 0, .slice none 0 0, .slice none 0 0] 26) := new_at _ _
          have hb4 : Hid (W2.heap.size ≤ y1.heap.size) := hS.size
          have bb := box_below y1 (.cells #[.int .i64 0, .int .i64 0, .int .u64 0, .slice none 0 0, .slice none 0 0] 26)
          replace EO1 := hid (EO1.out.later bb)
          have ne5_4 : Hid (g5 < y1.heap.size) := blk_lt k5.out
          replace k5 := hid (below_blk k5.out bb)
          have hS' := hid (Below.up hS bb)
          clear bb
          refine hK.out _ _ hS'.out (fun hS => ?_)
          clear hK K hS'
          generalize y1.alloc (.cells #[.int .i64 0, .int .i64 0, .int .u64 0, .slice none 0 0, .slice none 0 0] 26) = y4 at *
          generalize y1.heap.size = g4 at *
          have k4 := hid h0
          clear h0
          refine wpAnyH_ready (rs := [3]) (by kernel_rfl) (by simp) ?_
          refine AllReadyH.cons rfl (fun K hK => ?_) ?_
          · go_simp
            have lo3 : Hid (W2.heap.size ≤ y4.heap.size) := hS.size
            have up1_3 : Hid (∀ j, blks (ev x a1 c1 b1 d1) j → j < y4.heap.size) := fun j h => (EO1.out.lt j h).2
            go_wp2_with fail
            refine (C2.out y4 hS).mono ?_
            rintro e y3 ⟨v3, rfl, EO3, bb3⟩
            obtain ⟨a3, c3, b3, d3, he3⟩ := EO_shape EO3
            subst he3
            replace EO3 := hid EO3
            replace EO1 := hid (EO1.out.later bb3)
            replace k5 := hid (below_blk k5.out bb3)
            replace k4 := hid (below_blk k4.out bb3)
            have hS' := hid (Below.up hS bb3)
            clear bb3
            unfold ev at EO3
            unfold ev
            refine hK.out _ _ hS'.out (fun hS => ?_)
            clear hK K hS'
            refine wpAnyH_ready (rs := [6]) (by kernel_rfl) (by simp) ?_
            refine AllReadyH.cons rfl (fun K hK => ?_) ?_
            · have q0 := cell_of k4.out 0 (.int .i64 0) rfl
              have f0 := fz_of k4.out 0
              have q1 := cell_of k4.out 1 (.int .i64 0) rfl
              have f1 := fz_of k4.out 1
              have q2 := cell_of k4.out 2 (.int .u64 0) rfl
              have f2 := fz_of k4.out 2
              have q3 := cell_of k4.out 3 (.slice none 0 0) rfl
              have f3 := fz_of k4.out 3
              have q4 := cell_of k4.out 4 (.slice none 0 0) rfl
              have f4 := fz_of k4.out 4
              have P5 := put5 k4.out (.int .i64 x.log) (.int .i64 x.nx) (.int .u64 x.sq) (.slice a1 x.go.length c1) (.slice b1 x.co.length d1)
              have hS' : Hid (Below W2.heap.size W2 (((((y3.setCell ⟨g4, 0, none⟩ (.int .i64 x.log)).setCell ⟨g4, 1, none⟩ (.int .i64 x.nx)).setCell ⟨g4, 2, none⟩ (.int .u64 x.sq)).setCell ⟨g4, 3, none⟩ (.slice a1 x.go.length c1)).setCell ⟨g4, 4, none⟩ (.slice b1 x.co.length d1))) := ((Fp.of (P := fun j => W2.heap.size ≤ j) hS).tr (P5.2.wide (fun j _ h => .inl (by show W2.heap.size ≤ j; have := hb4.out; omega)))).base (Nat.le_refl _) (fun _ h => h)
              have EN1 := hid (EO1.out.fp P5.2 (fun j hj e => EO_ne EO1.out k4.out j hj e))
              have EN3 := hid (EO3.out.fp P5.2 (fun j hj e => EO_ne EO3.out k4.out j hj e))
              have kn5 := hid ((P5.2.block g5 (blk_lt k5.out) (fun e => by have := ne5_4.out; omega)).trans k5.out)
              have kn4 := hid P5.1
              clear P5
              go_simp
              refine hK.out _ _ hS'.out (fun hS => ?_)
              clear hK K hS' q0 q1 q2 q3 q4 f0 f1 f2 f3 f4
              generalize (((((y3.setCell ⟨g4, 0, none⟩ (.int .i64 x.log)).setCell ⟨g4, 1, none⟩ (.int .i64 x.nx)).setCell ⟨g4, 2, none⟩ (.int .u64 x.sq)).setCell ⟨g4, 3, none⟩ (.slice a1 x.go.length c1)).setCell ⟨g4, 4, none⟩ (.slice b1 x.co.length d1)) = y6 at *
              clear EO1
              have EO1 := EN1
              clear EN1
              clear EO3
              have EO3 := EN3
              clear EN3
              clear k5
              have k5 := kn5
              clear kn5
              clear k4
              have k4 := kn4
              clear kn4
              refine wpAnyH_ready (rs := [7]) (by kernel_rfl) (by simp) ?_
              refine AllReadyH.cons rfl (fun K hK => ?_) ?_
              · have q0 := cell_of k5.out 0 (.int .i64 0) rfl
                have f0 := fz_of k5.out 0
                have q1 := cell_of k5.out 1 (.int .i64 0) rfl
                have f1 := fz_of k5.out 1
                have q2 := cell_of k5.out 2 (.int .u64 0) rfl
                have f2 := fz_of k5.out 2
                have q3 := cell_of k5.out 3 (.slice none 0 0) rfl
                have f3 := fz_of k5.out 3
                have q4 := cell_of k5.out 4 (.slice none 0 0) rfl
                have f4 := fz_of k5.out 4
                have P5 := put5 k5.out (.int .i64 y.log) (.int .i64 y.nx) (.int .u64 y.sq) (.slice a3 y.go.length c3) (.slice b3 y.co.length d3)
                have hS' : Hid (Below W2.heap.size W2 (((((y6.setCell ⟨g5, 0, none⟩ (.int .i64 y.log)).setCell ⟨g5, 1, none⟩ (.int .i64 y.nx)).setCell ⟨g5, 2, none⟩ (.int .u64 y.sq)).setCell ⟨g5, 3, none⟩ (.slice a3 y.go.length c3)).setCell ⟨g5, 4, none⟩ (.slice b3 y.co.length d3))) := ((Fp.of (P := fun j => W2.heap.size ≤ j) hS).tr (P5.2.wide (fun j _ h => .inl (by show W2.heap.size ≤ j; have := hb5.out; omega)))).base (Nat.le_refl _) (fun _ h => h)
                have EN1 := hid (EO1.out.fp P5.2 (fun j hj e => EO_ne EO1.out k5.out j hj e))
                have EN3 := hid (EO3.out.fp P5.2 (fun j hj e => EO_ne EO3.out k5.out j hj e))
                have kn4 := hid ((P5.2.block g4 (blk_lt k4.out) (fun e => by have := ne5_4.out; omega)).trans k4.out)
                have kn5 := hid P5.1
                clear P5
                go_simp
                refine hK.out _ _ hS'.out (fun hS => ?_)
                clear hK K hS' q0 q1 q2 q3 q4 f0 f1 f2 f3 f4
                generalize (((((y6.setCell ⟨g5, 0, none⟩ (.int .i64 y.log)).setCell ⟨g5, 1, none⟩ (.int .i64 y.nx)).setCell ⟨g5, 2, none⟩ (.int .u64 y.sq)).setCell ⟨g5, 3, none⟩ (.slice a3 y.go.length c3)).setCell ⟨g5, 4, none⟩ (.slice b3 y.co.length d3)) = y7 at *
                clear EO1
                have EO1 := EN1
                clear EN1
                clear EO3
                have EO3 := EN3
                clear EN3
                clear k5
                have k5 := kn5
                clear kn5
                clear k4
                have k4 := kn4
                clear kn4
                refine wpAnyH_done (by kernel_rfl) ?_ _
                go_wp2_with fail
                go_meet
                case rel => exact ⟨g4, g5, a1, c1, b1, d1, a3, c3, b3, d3, _, _, rfl, rfl, k4.out, k5.out, EO1.out, EO3.out, hS⟩
              exact AllReadyH.nil
            exact AllReadyH.nil
          exact AllReadyH.nil
        exact AllReadyH.nil
      refine AllReadyH.cons rfl (fun K hK => ?_) ?_
      · go_simp
        have h0 : (y5.alloc (.cells #[.int .i64 0, .int .i64 0, .int .u64 0, .slice none 0 0, .slice none 0 0] 26)).heap[y5.heap.size]? = some (.cells #[.int .i64 0, .int .i64 0, .int .u64 0, .slice none 0 0, .slice none 0 0] 26) := new_at _ _
        have hb4 : Hid (W2.heap.size ≤ y5.heap.size) := hS.size
        have bb := box_below y5 (.cells #[.int .i64 0, .int .i64 0, .int .u64 0, .slice none 0 0, .slice none 0 0] 26)
        have ne5_4 : Hid (g5 < y5.heap.size) := blk_lt k5.out
        replace k5 := hid (below_blk k5.out bb)
        have hS' := hid (Below.up hS bb)
        clear bb
        refine hK.out _ _ hS'.out (fun hS => ?_)
        clear hK K hS'
        generalize y5.alloc (.cells #[.int .i64 0, .int .i64 0, .int .u64 0, .slice none 0 0, .slice none 0 0] 26) = y4 at *
        generalize y5.heap.size = g4 at *
        have k4 := hid h0
        clear h0
        refine wpAnyH_ready (rs := [1]) (by kernel_rfl) (by simp) ?_
        refine AllReadyH.cons rfl (fun K hK => ?_) ?_
        · go_simp
          have lo1 : Hid (W2.heap.size ≤ y4.heap.size) := hS.size
          go_wp2_with fail
          refine (C1.out y4 hS).mono ?_
          rintro e y1 ⟨v1, rfl, EO1, bb1⟩
          obtain ⟨a1, c1, b1, d1, he1⟩ := EO_shape EO1
          subst he1
          replace EO1 := hid EO1
          replace k5 := hid (below_blk k5.out bb1)
          replace k4 := hid (below_blk k4.out bb1)
          have hS' := hid (Below.up hS bb1)
          clear bb1
          unfold ev at EO1
          unfold ev
          refine hK.out _ _ hS'.out (fun hS => ?_)
          clear hK K hS'
          refine wpAnyH_ready (rs := [3]) (by kernel_rfl) (by simp) ?_
          refine AllReadyH.cons rfl (fun K hK => ?_) ?_
          · go_simp
            have lo3 : Hid (W2.heap.size ≤ y1.heap.size) := hS.size
            have up1_3 : Hid (∀ j, blks (ev x a1 c1 b1 d1) j → j < y1.heap.size) := fun j h => (EO1.out.lt j h).2
            go_wp2_with fail
            refine (C2.out y1 hS).mono ?_
            rintro e y3 ⟨v3, rfl, EO3, bb3⟩
            obtain ⟨a3, c3, b3, d3, he3⟩ := EO_shape EO3
            subst he3
            replace EO3 := hid EO3
            replace EO1 := hid (EO1.out.later bb3)
            replace k5 := hid (below_blk k5.out bb3)
            replace k4 := hid (below_blk k4.out bb3)
            have hS' := hid (Below.up hS bb3)
            clear bb3
            unfold ev at EO3
            unfold ev
            refine hK.out _ _ hS'.out (fun hS => ?_)
            clear hK K hS'
            refine wpAnyH_ready (rs := [6]) (by kernel_rfl) (by simp) ?_
            refine AllReadyH.cons rfl (fun K hK => ?_) ?_
            · have q0 := cell_of k4.out 0 (.int .i64 0) rfl
              have f0 := fz_of k4.out 0
              have q1 := cell_of k4.out 1 (.int .i64 0) rfl
              have f1 := fz_of k4.out 1
              have q2 := cell_of k4.out 2 (.int .u64 0) rfl
              have f2 := fz_of k4.out 2
              have q3 := cell_of k4.out 3 (.slice none 0 0) rfl
              have f3 := fz_of k4.out 3
              have q4 := cell_of k4.out 4 (.slice none 0 0) rfl
              have f4 := fz_of k4.out 4
              have P5 := put5 k4.out (.int .i64 x.log) (.int .i64 x.nx) (.int .u64 x.sq) (.slice a1 x.go.length c1) (.slice b1 x.co.length d1)
              have hS' : Hid (Below W2.heap.size W2 (((((y3.setCell ⟨g4, 0, none⟩ (.int .i64 x.log)).setCell ⟨g4, 1, none⟩ (.int .i64 x.nx)).setCell ⟨g4, 2, none⟩ (.int .u64 x.sq)).setCell ⟨g4, 3, none⟩ (.slice a1 x.go.length c1)).setCell ⟨g4, 4, none⟩ (.slice b1 x.co.length d1))) := ((Fp.of (P := fun j => W2.heap.size ≤ j) hS).tr (P5.2.wide (fun j _ h => .inl (by show W2.heap.size ≤ j; have := hb4.out; omega)))).base (Nat.le_refl _) (fun _ h => h)
              have EN1 := hid (EO1.out.fp P5.2 (fun j hj e => EO_ne EO1.out k4.out j hj e))
              have EN3 := hid (EO3.out.fp P5.2 (fun j hj e => EO_ne EO3.out k4.out j hj e))
              have kn5 := hid ((P5.2.block g5 (blk_lt k5.out) (fun e => by have := ne5_4.out; omega)).trans k5.out)
              have kn4 := hid P5.1
              clear P5
              go_simp
              refine hK.out _ _ hS'.out (fun hS => ?_)
              clear hK K hS' q0 q1 q2 q3 q4 f0 f1 f2 f3 f4
              generalize (((((y3.setCell ⟨g4, 0, none⟩ (.int .i64 x.log)).setCell ⟨g4, 1, none⟩ (.int .i64 x.nx)).setCell ⟨g4, 2, none⟩ (.int .u64 x.sq)).setCell ⟨g4, 3, none⟩ (.slice a1 x.go.length c1)).setCell ⟨g4, 4, none⟩ (.slice b1 x.co.length d1)) = y6 at *
              clear EO1
              have EO1 := EN1
              clear EN1
              clear EO3
              have EO3 := EN3
              clear EN3
              clear k5
              have k5 := kn5
              clear kn5
              clear k4
              have k4 := kn4
              clear kn4
              refine wpAnyH_ready (rs := [7]) (by kernel_rfl) (by simp) ?_
              refine AllReadyH.cons rfl (fun K hK => ?_) ?_
              · have q0 := cell_of k5.out 0 (.int .i64 0) rfl
                have f0 := fz_of k5.out 0
                have q1 := cell_of k5.out 1 (.int .i64 0) rfl
                have f1 := fz_of k5.out 1
                have q2 := cell_of k5.out 2 (.int .u64 0) rfl
                have f2 := fz_of k5.out 2
                have q3 := cell_of k5.out 3 (.slice none 0 0) rfl
                have f3 := fz_of k5.out 3
                have q4 := cell_of k5.out 4 (.slice none 0 0) rfl
                have f4 := fz_of k5.out 4
                have P5 := put5 k5.out (.int .i64 y.log) (.int .i64 y.nx) (.int .u64 y.sq) (.slice a3 y.go.length c3) (.slice b3 y.co.length d3)
                have hS' : Hid (Below W2.heap.size W2 (((((y6.setCell ⟨g5, 0, none⟩ (.int .i64 y.log)).setCell ⟨g5, 1, none⟩ (.int .i64 y.nx)).setCell ⟨g5, 2, none⟩ (.int .u64 y.sq)).setCell ⟨g5, 3, none⟩ (.slice a3 y.go.length c3)).setCell ⟨g5, 4, none⟩ (.slice b3 y.co.length d3))) := ((Fp.of (P := fun j => W2.heap.size ≤ j) hS).tr (P5.2.wide (fun j _ h => .inl (by show W2.heap.size ≤ j; have := hb5.out; omega)))).base (Nat.le_refl _) (fun _ h => h)
                have EN1 := hid (EO1.out.fp P5.2 (fun j hj e => EO_ne EO1.out k5.out j hj e))
                have EN3 := hid (EO3.out.fp P5.2 (fun j hj e => EO_ne EO3.out k5.out j hj e))
                have kn4 := hid ((P5.2.block g4 (blk_lt k4.out) (fun e => by have := ne5_4.out; omega)).trans k4.out)
                have kn5 := hid P5.1
                clear P5
                go_simp
                refine hK.out _ _ hS'.out (fun hS => ?_)
                clear hK K hS' q0 q1 q2 q3 q4 f0 f1 f2 f3 f4
                generalize (((((y6.setCell ⟨g5, 0, none⟩ (.int .i64 y.log)).setCell ⟨g5, 1, none⟩ (.int .i64 y.nx)).setCell ⟨g5, 2, none⟩ (.int .u64 y.sq)).setCell ⟨g5, 3, none⟩ (.slice a3 y.go.length c3)).setCell ⟨g5, 4, none⟩ (.slice b3 y.co.length d3)) = y7 at *
                clear EO1
                have EO1 := EN1
                clear EN1
                clear EO3
                have EO3 := EN3
                clear EN3
                clear k5
                have k5 := kn5
                clear kn5
                clear k4
                have k4 := kn4
                clear kn4
                refine wpAnyH_done (by kernel_rfl) ?_ _
                go_wp2_with fail
                go_meet
                case rel => exact ⟨g4, g5, a1, c1, b1, d1, a3, c3, b3, d3, _, _, rfl, rfl, k4.out, k5.out, EO1.out, EO3.out, hS⟩
              exact AllReadyH.nil
            exact AllReadyH.nil
          exact AllReadyH.nil
        exact AllReadyH.nil
      exact AllReadyH.nil
    exact AllReadyH.nil
  case rest =>
    obtain ⟨g5, g6, a5, c5, b5, d5, a6, c6, b6, d6, u5_, u6_, rfl, rfl, L5, L6, O5, O6, B1⟩ := hcut
    obtain ⟨w1, hw1⟩ : ∃ W, W = wc := ⟨_, rfl⟩
    rw [← hw1] at L5 L6 O5 O6 B1 ⊢
    clear hw1 wc
    have BW1 := hid (Below.up LO.out B1)
    have P1 := hid (below_blk K1.out B1)
    have P2 := hid (below_blk K2.out B1)
    have C3 : Hid (∀ W, Below w1.heap.size w1 W → Calls Try.prog 18 #[ev x a5 c5 b5 d5, ev y a6 c6 b6 d6] W fun e w' => ∃ v', e = .returned v' ∧ EO w' W.heap.size v' E ∧ Below W.heap.size W w') := fun W b => HMe.out _ _ W (O5.ev.later b) (O6.ev.later b)
    replace L5 := hid L5
    replace L6 := hid L6
    replace O5 := hid O5
    replace O6 := hid O6
    clear B1 K1 K2 C1 C2 HMe
    unfold ev at C3
    go_upto_region 2 with fail
    go_cut [7, 8] from 14 to 19 (fun s t wx => ∃ g7 g8 a7 c7 b7 d7 a8 c8 b8 d8 u7 u8, s = .pointer (some ⟨g7, 0, none⟩) ∧ t = .pointer (some ⟨g8, 0, none⟩) ∧ wx.heap[g7]? = some (.cells #[.int .i64 E.log, .int .i64 E.nx, .int .u64 E.sq, .slice a7 E.go.length c7, .slice b7 E.co.length d7] 26) ∧ wx.heap[g8]? = some (.cells #[.int .i64 E.log, .int .i64 E.nx, .int .u64 E.sq, .slice a8 E.go.length c8, .slice b8 E.co.length d8] 26) ∧ EO wx u7 (ev E a7 c7 b7 d7) E ∧ EO wx u8 (ev E a8 c8 b8 d8) E ∧ w1.heap.size ≤ u7 ∧ (∀ j, blks (ev E a7 c7 b7 d7) j → j < u8) ∧ Below w1.heap.size w1 wx)
    case first =>
      refine wp_region_held_drew (S := fun W => Below w1.heap.size w1 W) (by kernel_rfl) (drew_below _) (fun hS => ?_)
      generalize World.drew w1 = D at *
      refine wpAnyH_take (i := 0) (v := ?v3) rfl (by kernel_rfl) (by kernel_rfl) (by kernel_rfl) (fun _ _ _ h => h) (Or.inl ⟨by rfl, ?h3⟩) hS ?_
      case h3 => (intro W hW; have cc0 := cell_of (below_blk L5.out hW) 0 _ rfl; have cc1 := cell_of (below_blk L5.out hW) 1 _ rfl; have cc2 := cell_of (below_blk L5.out hW) 2 _ rfl; have cc3 := cell_of (below_blk L5.out hW) 3 _ rfl; have cc4 := cell_of (below_blk L5.out hW) 4 _ rfl; go_simp; try (with_reducible rfl))
      go_simp
      refine wpAnyH_take (i := 1) (v := ?v4) rfl (by kernel_rfl) (by kernel_rfl) (by kernel_rfl) (fun _ _ _ h => h) (Or.inl ⟨by rfl, ?h4⟩) hS ?_
      case h4 => (intro W hW; have cc0 := cell_of (below_blk L6.out hW) 0 _ rfl; have cc1 := cell_of (below_blk L6.out hW) 1 _ rfl; have cc2 := cell_of (below_blk L6.out hW) 2 _ rfl; have cc3 := cell_of (below_blk L6.out hW) 3 _ rfl; have cc4 := cell_of (below_blk L6.out hW) 4 _ rfl; go_simp; try (with_reducible rfl))
      go_simp
      refine wpAnyH_take (i := 3) (v := ?v5) rfl (by kernel_rfl) (by kernel_rfl) (by kernel_rfl) (fun _ _ _ h => h) (Or.inl ⟨by rfl, ?h5⟩) hS ?_
      case h5 => (intro W hW; have cc0 := cell_of (below_blk L5.out hW) 0 _ rfl; have cc1 := cell_of (below_blk L5.out hW) 1 _ rfl; have cc2 := cell_of (below_blk L5.out hW) 2 _ rfl; have cc3 := cell_of (below_blk L5.out hW) 3 _ rfl; have cc4 := cell_of (below_blk L5.out hW) 4 _ rfl; go_simp; try (with_reducible rfl))
      go_simp
      refine wpAnyH_take (i := 4) (v := ?v6) rfl (by kernel_rfl) (by kernel_rfl) (by kernel_rfl) (fun _ _ _ h => h) (Or.inl ⟨by rfl, ?h6⟩) hS ?_
      case h6 => (intro W hW; have cc0 := cell_of (below_blk L6.out hW) 0 _ rfl; have cc1 := cell_of (below_blk L6.out hW) 1 _ rfl; have cc2 := cell_of (below_blk L6.out hW) 2 _ rfl; have cc3 := cell_of (below_blk L6.out hW) 3 _ rfl; have cc4 := cell_of (below_blk L6.out hW) 4 _ rfl; go_simp; try (with_reducible rfl))
      go_simp
      refine wpAnyH_ready (rs := [2, 6, 7]) (by kernel_rfl) (by simp) ?_
      refine AllReadyH.cons rfl (fun K hK => ?_) ?_
      · go_simp
        have lo2 : Hid (w1.heap.size ≤ D.heap.size) := hS.size
        go_wp2_with fail
        refine (C3.out D hS).mono ?_
        rintro e y2 ⟨v2, rfl, EO2, bb2⟩
        obtain ⟨a2, c2, b2, d2, he2⟩ := EO_shape EO2
        subst he2
        replace EO2 := hid EO2
        have hS' := hid (Below.up hS bb2)
        clear bb2
        unfold ev at EO2
        unfold ev
        refine hK.out _ _ hS'.out (fun hS => ?_)
        clear hK K hS'
        refine wpAnyH_ready (rs := [5, 6, 7]) (by kernel_rfl) (by simp) ?_
        refine AllReadyH.cons rfl (fun K hK => ?_) ?_
        · go_simp
          have lo5 : Hid (w1.heap.size ≤ y2.heap.size) := hS.size
          have up2_5 : Hid (∀ j, blks (ev E a2 c2 b2 d2) j → j < y2.heap.size) := fun j h => (EO2.out.lt j h).2
          go_wp2_with fail
          refine (C3.out y2 hS).mono ?_
          rintro e y5 ⟨v5, rfl, EO5, bb5⟩
          obtain ⟨a5, c5, b5, d5, he5⟩ := EO_shape EO5
          subst he5
          replace EO5 := hid EO5
          replace EO2 := hid (EO2.out.later bb5)
          have hS' := hid (Below.up hS bb5)
          clear bb5
          unfold ev at EO5
          unfold ev
          refine hK.out _ _ hS'.out (fun hS => ?_)
          clear hK K hS'
          refine wpAnyH_ready (rs := [6, 7]) (by kernel_rfl) (by simp) ?_
          refine AllReadyH.cons rfl (fun K hK => ?_) ?_
          · go_simp
            have h0 : (y5.alloc (.cells #[.int .i64 0, .int .i64 0, .int .u64 0, .slice none 0 0, .slice none 0 0] 26)).heap[y5.heap.size]? = some (.cells #[.int .i64 0, .int .i64 0, .int .u64 0, .slice none 0 0, .slice none 0 0] 26) := new_at _ _
            have hb6 : Hid (w1.heap.size ≤ y5.heap.size) := hS.size
            have bb := box_below y5 (.cells #[.int .i64 0, .int .i64 0, .int .u64 0, .slice none 0 0, .slice none 0 0] 26)
            replace EO2 := hid (EO2.out.later bb)
            replace EO5 := hid (EO5.out.later bb)
            have hS' := hid (Below.up hS bb)
            clear bb
            refine hK.out _ _ hS'.out (fun hS => ?_)
            clear hK K hS'
            generalize y5.alloc (.cells #[.int .i64 0, .int .i64 0, .int .u64 0, .slice none 0 0, .slice none 0 0] 26) = y6 at *
            generalize y5.heap.size = g6 at *
            have k6 := hid h0
            clear h0
            refine wpAnyH_ready (rs := [7]) (by kernel_rfl) (by simp) ?_
            refine AllReadyH.cons rfl (fun K hK => ?_) ?_
            · go_simp
              have h0 : (y6.alloc (.cells #[.int .i64 0, .int .i64 0, .int .u64 0, .slice none 0 0, .slice none 0 0] 26)).heap[y6.heap.size]? = some (.cells #[.int .i64 0, .int .i64 0, .int .u64 0, .slice none 0 0, .slice none 0 0] 26) := new_at _ _
              have hb7 : Hid (w1.heap.size ≤ y6.heap.size) := hS.size
              have bb := box_below y6 (.cells #[.int .i64 0, .int .i64 0, .int .u64 0, .slice none 0 0, .slice none 0 0] 26)
              replace EO2 := hid (EO2.out.later bb)
              replace EO5 := hid (EO5.out.later bb)
              have ne6_7 : Hid (g6 < y6.heap.size) := blk_lt k6.out
              replace k6 := hid (below_blk k6.out bb)
              have hS' := hid (Below.up hS bb)
              clear bb
              refine hK.out _ _ hS'.out (fun hS => ?_)
              clear hK K hS'
              generalize y6.alloc (.cells #[.int .i64 0, .int .i64 0, .int .u64 0, .slice none 0 0, .slice none 0 0] 26) = y7 at *
              generalize y6.heap.size = g7 at *
              have k7 := hid h0
              clear h0
              refine wpAnyH_ready (rs := [8]) (by kernel_rfl) (by simp) ?_
              refine AllReadyH.cons rfl (fun K hK => ?_) ?_
              · have q0 := cell_of k6.out 0 (.int .i64 0) rfl
                have f0 := fz_of k6.out 0
                have q1 := cell_of k6.out 1 (.int .i64 0) rfl
                have f1 := fz_of k6.out 1
                have q2 := cell_of k6.out 2 (.int .u64 0) rfl
                have f2 := fz_of k6.out 2
                have q3 := cell_of k6.out 3 (.slice none 0 0) rfl
                have f3 := fz_of k6.out 3
                have q4 := cell_of k6.out 4 (.slice none 0 0) rfl
                have f4 := fz_of k6.out 4
                have P5 := put5 k6.out (.int .i64 E.log) (.int .i64 E.nx) (.int .u64 E.sq) (.slice a2 E.go.length c2) (.slice b2 E.co.length d2)
                have hS' : Hid (Below w1.heap.size w1 (((((y7.setCell ⟨g6, 0, none⟩ (.int .i64 E.log)).setCell ⟨g6, 1, none⟩ (.int .i64 E.nx)).setCell ⟨g6, 2, none⟩ (.int .u64 E.sq)).setCell ⟨g6, 3, none⟩ (.slice a2 E.go.length c2)).setCell ⟨g6, 4, none⟩ (.slice b2 E.co.length d2))) := ((Fp.of (P := fun j => w1.heap.size ≤ j) hS).tr (P5.2.wide (fun j _ h => .inl (by show w1.heap.size ≤ j; have := hb6.out; omega)))).base (Nat.le_refl _) (fun _ h => h)
                have EN2 := hid (EO2.out.fp P5.2 (fun j hj e => EO_ne EO2.out k6.out j hj e))
                have EN5 := hid (EO5.out.fp P5.2 (fun j hj e => EO_ne EO5.out k6.out j hj e))
                have kn7 := hid ((P5.2.block g7 (blk_lt k7.out) (fun e => by have := ne6_7.out; omega)).trans k7.out)
                have kn6 := hid P5.1
                clear P5
                go_simp
                refine hK.out _ _ hS'.out (fun hS => ?_)
                clear hK K hS' q0 q1 q2 q3 q4 f0 f1 f2 f3 f4
                generalize (((((y7.setCell ⟨g6, 0, none⟩ (.int .i64 E.log)).setCell ⟨g6, 1, none⟩ (.int .i64 E.nx)).setCell ⟨g6, 2, none⟩ (.int .u64 E.sq)).setCell ⟨g6, 3, none⟩ (.slice a2 E.go.length c2)).setCell ⟨g6, 4, none⟩ (.slice b2 E.co.length d2)) = y8 at *
                clear EO2
                have EO2 := EN2
                clear EN2
                clear EO5
                have EO5 := EN5
                clear EN5
                clear k6
                have k6 := kn6
                clear kn6
                clear k7
                have k7 := kn7
                clear kn7
                refine wpAnyH_ready (rs := [9]) (by kernel_rfl) (by simp) ?_
                refine AllReadyH.cons rfl (fun K hK => ?_) ?_
                · have q0 := cell_of k7.out 0 (.int .i64 0) rfl
                  have f0 := fz_of k7.out 0
                  have q1 := cell_of k7.out 1 (.int .i64 0) rfl
                  have f1 := fz_of k7.out 1
                  have q2 := cell_of k7.out 2 (.int .u64 0) rfl
                  have f2 := fz_of k7.out 2
                  have q3 := cell_of k7.out 3 (.slice none 0 0) rfl
                  have f3 := fz_of k7.out 3
                  have q4 := cell_of k7.out 4 (.slice none 0 0) rfl
                  have f4 := fz_of k7.out 4
                  have P5 := put5 k7.out (.int .i64 E.log) (.int .i64 E.nx) (.int .u64 E.sq) (.slice a5 E.go.length c5) (.slice b5 E.co.length d5)
                  have hS' : Hid (Below w1.heap.size w1 (((((y8.setCell ⟨g7, 0, none⟩ (.int .i64 E.log)).setCell ⟨g7, 1, none⟩ (.int .i64 E.nx)).setCell ⟨g7, 2, none⟩ (.int .u64 E.sq)).setCell ⟨g7, 3, none⟩ (.slice a5 E.go.length c5)).setCell ⟨g7, 4, none⟩ (.slice b5 E.co.length d5))) := ((Fp.of (P := fun j => w1.heap.size ≤ j) hS).tr (P5.2.wide (fun j _ h => .inl (by show w1.heap.size ≤ j; have := hb7.out; omega)))).base (Nat.le_refl _) (fun _ h => h)
                  have EN2 := hid (EO2.out.fp P5.2 (fun j hj e => EO_ne EO2.out k7.out j hj e))
                  have EN5 := hid (EO5.out.fp P5.2 (fun j hj e => EO_ne EO5.out k7.out j hj e))
                  have kn6 := hid ((P5.2.block g6 (blk_lt k6.out) (fun e => by have := ne6_7.out; omega)).trans k6.out)
                  have kn7 := hid P5.1
                  clear P5
                  go_simp
                  refine hK.out _ _ hS'.out (fun hS => ?_)
                  clear hK K hS' q0 q1 q2 q3 q4 f0 f1 f2 f3 f4
                  generalize (((((y8.setCell ⟨g7, 0, none⟩ (.int .i64 E.log)).setCell ⟨g7, 1, none⟩ (.int .i64 E.nx)).setCell ⟨g7, 2, none⟩ (.int .u64 E.sq)).setCell ⟨g7, 3, none⟩ (.slice a5 E.go.length c5)).setCell ⟨g7, 4, none⟩ (.slice b5 E.co.length d5)) = y9 at *
                  clear EO2
                  have EO2 := EN2
                  clear EN2
                  clear EO5
                  have EO5 := EN5
                  clear EN5
                  clear k6
                  have k6 := kn6
                  clear kn6
                  clear k7
                  have k7 := kn7
                  clear kn7
                  refine wpAnyH_done (by kernel_rfl) ?_ _
                  go_wp2_with fail
                  go_meet
                  case rel => exact ⟨g6, g7, a2, c2, b2, d2, a5, c5, b5, d5, _, _, rfl, rfl, k6.out, k7.out, EO2.out, EO5.out, lo2.out, up2_5.out, hS⟩
                exact AllReadyH.nil
              exact AllReadyH.nil
            exact AllReadyH.nil
          refine AllReadyH.cons rfl (fun K hK => ?_) ?_
          · go_simp
            have h0 : (y5.alloc (.cells #[.int .i64 0, .int .i64 0, .int .u64 0, .slice none 0 0, .slice none 0 0] 26)).heap[y5.heap.size]? = some (.cells #[.int .i64 0, .int .i64 0, .int .u64 0, .slice none 0 0, .slice none 0 0] 26) := new_at _ _
            have hb7 : Hid (w1.heap.size ≤ y5.heap.size) := hS.size
            have bb := box_below y5 (.cells #[.int .i64 0, .int .i64 0, .int .u64 0, .slice none 0 0, .slice none 0 0] 26)
            replace EO2 := hid (EO2.out.later bb)
            replace EO5 := hid (EO5.out.later bb)
            have hS' := hid (Below.up hS bb)
            clear bb
            refine hK.out _ _ hS'.out (fun hS => ?_)
            clear hK K hS'
            generalize y5.alloc (.cells #[.int .i64 0, .int .i64 0, .int .u64 0, .slice none 0 0, .slice none 0 0] 26) = y7 at *
            generalize y5.heap.size = g7 at *
            have k7 := hid h0
            clear h0
            refine wpAnyH_ready (rs := [6]) (by kernel_rfl) (by simp) ?_
            refine AllReadyH.cons rfl (fun K hK => ?_) ?_
            · go_simp
              have h0 : (y7.alloc (.cells #[.int .i64 0, .int .i64 0, .int .u64 0, .slice none 0 0, .slice none 0 0] 26)).heap[y7.heap.size]? = some (.cells #[.int .i64 0, .int .i64 0, .int .u64 0, .slice none 0 0, .slice none 0 0] 26) := new_at _ _
              have hb6 : Hid (w1.heap.size ≤ y7.heap.size) := hS.size
              have bb := box_below y7 (.cells #[.int .i64 0, .int .i64 0, .int .u64 0, .slice none 0 0, .slice none 0 0] 26)
              replace EO2 := hid (EO2.out.later bb)
              replace EO5 := hid (EO5.out.later bb)
              have ne7_6 : Hid (g7 < y7.heap.size) := blk_lt k7.out
              replace k7 := hid (below_blk k7.out bb)
              have hS' := hid (Below.up hS bb)
              clear bb
              refine hK.out _ _ hS'.out (fun hS => ?_)
              clear hK K hS'
              generalize y7.alloc (.cells #[.int .i64 0, .int .i64 0, .int .u64 0, .slice none 0 0, .slice none 0 0] 26) = y6 at *
              generalize y7.heap.size = g6 at *
              have k6 := hid h0
              clear h0
              refine wpAnyH_ready (rs := [8]) (by kernel_rfl) (by simp) ?_
              refine AllReadyH.cons rfl (fun K hK => ?_) ?_
              · have q0 := cell_of k6.out 0 (.int .i64 0) rfl
                have f0 := fz_of k6.out 0
                have q1 := cell_of k6.out 1 (.int .i64 0) rfl
                have f1 := fz_of k6.out 1
                have q2 := cell_of k6.out 2 (.int .u64 0) rfl
                have f2 := fz_of k6.out 2
                have q3 := cell_of k6.out 3 (.slice none 0 0) rfl
                have f3 := fz_of k6.out 3
                have q4 := cell_of k6.out 4 (.slice none 0 0) rfl
                have f4 := fz_of k6.out 4
                have P5 := put5 k6.out (.int .i64 E.log) (.int .i64 E.nx) (.int .u64 E.sq) (.slice a2 E.go.length c2) (.slice b2 E.co.length d2)
                have hS' : Hid (Below w1.heap.size w1 (((((y6.setCell ⟨g6, 0, none⟩ (.int .i64 E.log)).setCell ⟨g6, 1, none⟩ (.int .i64 E.nx)).setCell ⟨g6, 2, none⟩ (.int .u64 E.sq)).setCell ⟨g6, 3, none⟩ (.slice a2 E.go.length c2)).setCell ⟨g6, 4, none⟩ (.slice b2 E.co.length d2))) := ((Fp.of (P := fun j => w1.heap.size ≤ j) hS).tr (P5.2.wide (fun j _ h => .inl (by show w1.heap.size ≤ j; have := hb6.out; omega)))).base (Nat.le_refl _) (fun _ h => h)
                have EN2 := hid (EO2.out.fp P5.2 (fun j hj e => EO_ne EO2.out k6.out j hj e))
                have EN5 := hid (EO5.out.fp P5.2 (fun j hj e => EO_ne EO5.out k6.out j hj e))
                have kn7 := hid ((P5.2.block g7 (blk_lt k7.out) (fun e => by have := ne7_6.out; omega)).trans k7.out)
                have kn6 := hid P5.1
                clear P5
                go_simp
                refine hK.out _ _ hS'.out (fun hS => ?_)
                clear hK K hS' q0 q1 q2 q3 q4 f0 f1 f2 f3 f4
                generalize (((((y6.setCell ⟨g6, 0, none⟩ (.int .i64 E.log)).setCell ⟨g6, 1, none⟩ (.int .i64 E.nx)).setCell ⟨g6, 2, none⟩ (.int .u64 E.sq)).setCell ⟨g6, 3, none⟩ (.slice a2 E.go.length c2)).setCell ⟨g6, 4, none⟩ (.slice b2 E.co.length d2)) = y8 at *
                clear EO2
                have EO2 := EN2
                clear EN2
                clear EO5
                have EO5 := EN5
                clear EN5
                clear k7
                have k7 := kn7
                clear kn7
                clear k6
                have k6 := kn6
                clear kn6
                refine wpAnyH_ready (rs := [9]) (by kernel_rfl) (by simp) ?_
                refine AllReadyH.cons rfl (fun K hK => ?_) ?_
                · have q0 := cell_of k7.out 0 (.int .i64 0) rfl
                  have f0 := fz_of k7.out 0
                  have q1 := cell_of k7.out 1 (.int .i64 0) rfl
                  have f1 := fz_of k7.out 1
                  have q2 := cell_of k7.out 2 (.int .u64 0) rfl
                  have f2 := fz_of k7.out 2
                  have q3 := cell_of k7.out 3 (.slice none 0 0) rfl
                  have f3 := fz_of k7.out 3
                  have q4 := cell_of k7.out 4 (.slice none 0 0) rfl
                  have f4 := fz_of k7.out 4
                  have P5 := put5 k7.out (.int .i64 E.log) (.int .i64 E.nx) (.int .u64 E.sq) (.slice a5 E.go.length c5) (.slice b5 E.co.length d5)
                  have hS' : Hid (Below w1.heap.size w1 (((((y8.setCell ⟨g7, 0, none⟩ (.int .i64 E.log)).setCell ⟨g7, 1, none⟩ (.int .i64 E.nx)).setCell ⟨g7, 2, none⟩ (.int .u64 E.sq)).setCell ⟨g7, 3, none⟩ (.slice a5 E.go.length c5)).setCell ⟨g7, 4, none⟩ (.slice b5 E.co.length d5))) := ((Fp.of (P := fun j => w1.heap.size ≤ j) hS).tr (P5.2.wide (fun j _ h => .inl (by show w1.heap.size ≤ j; have := hb7.out; omega)))).base (Nat.le_refl _) (fun _ h => h)
                  have EN2 := hid (EO2.out.fp P5.2 (fun j hj e => EO_ne EO2.out k7.out j hj e))
                  have EN5 := hid (EO5.out.fp P5.2 (fun j hj e => EO_ne EO5.out k7.out j hj e))
                  have kn6 := hid ((P5.2.block g6 (blk_lt k6.out) (fun e => by have := ne7_6.out; omega)).trans k6.out)
                  have kn7 := hid P5.1
                  clear P5
                  go_simp
                  refine hK.out _ _ hS'.out (fun hS => ?_)
                  clear hK K hS' q0 q1 q2 q3 q4 f0 f1 f2 f3 f4
                  generalize (((((y8.setCell ⟨g7, 0, none⟩ (.int .i64 E.log)).setCell ⟨g7, 1, none⟩ (.int .i64 E.nx)).setCell ⟨g7, 2, none⟩ (.int .u64 E.sq)).setCell ⟨g7, 3, none⟩ (.slice a5 E.go.length c5)).setCell ⟨g7, 4, none⟩ (.slice b5 E.co.length d5)) = y9 at *
                  clear EO2
                  have EO2 := EN2
                  clear EN2
                  clear EO5
                  have EO5 := EN5
                  clear EN5
                  clear k7
                  have k7 := kn7
                  clear kn7
                  clear k6
                  have k6 := kn6
                  clear kn6
                  refine wpAnyH_done (by kernel_rfl) ?_ _
                  go_wp2_with fail
                  go_meet
                  case rel => exact ⟨g6, g7, a2, c2, b2, d2, a5, c5, b5, d5, _, _, rfl, rfl, k6.out, k7.out, EO2.out, EO5.out, lo2.out, up2_5.out, hS⟩
                exact AllReadyH.nil
              exact AllReadyH.nil
            exact AllReadyH.nil
          exact AllReadyH.nil
        refine AllReadyH.cons rfl (fun K hK => ?_) ?_
        · go_simp
          have h0 : (y2.alloc (.cells #[.int .i64 0, .int .i64 0, .int .u64 0, .slice none 0 0, .slice none 0 0] 26)).heap[y2.heap.size]? = some (.cells #[.int .i64 0, .int .i64 0, .int .u64 0, .slice none 0 0, .slice none 0 0] 26) := new_at _ _
          have hb6 : Hid (w1.heap.size ≤ y2.heap.size) := hS.size
          have bb := box_below y2 (.cells #[.int .i64 0, .int .i64 0, .int .u64 0, .slice none 0 0, .slice none 0 0] 26)
          replace EO2 := hid (EO2.out.later bb)
          have hS' := hid (Below.up hS bb)
          clear bb
          refine hK.out _ _ hS'.out (fun hS => ?_)
          clear hK K hS'
          generalize y2.alloc (.cells #[.int .i64 0, .int .i64 0, .int .u64 0, .slice none 0 0, .slice none 0 0] 26) = y6 at *
          generalize y2.heap.size = g6 at *
          have k6 := hid h0
          clear h0
          refine wpAnyH_ready (rs := [5, 7]) (by kernel_rfl) (by simp) ?_
          refine AllReadyH.cons rfl (fun K hK => ?_) ?_
          · go_simp
            have lo5 : Hid (w1.heap.size ≤ y6.heap.size) := hS.size
            have up2_5 : Hid (∀ j, blks (ev E a2 c2 b2 d2) j → j < y6.heap.size) := fun j h => (EO2.out.lt j h).2
            go_wp2_with fail
            refine (C3.out y6 hS).mono ?_
            rintro e y5 ⟨v5, rfl, EO5, bb5⟩
            obtain ⟨a5, c5, b5, d5, he5⟩ := EO_shape EO5
            subst he5
            replace EO5 := hid EO5
            replace EO2 := hid (EO2.out.later bb5)
            replace k6 := hid (below_blk k6.out bb5)
            have hS' := hid (Below.up hS bb5)
            clear bb5
            unfold ev at EO5
            unfold ev
            refine hK.out _ _ hS'.out (fun hS => ?_)
            clear hK K hS'
            refine wpAnyH_ready (rs := [7]) (by kernel_rfl) (by simp) ?_
            refine AllReadyH.cons rfl (fun K hK => ?_) ?_
            · go_simp
              have h0 : (y5.alloc (.cells #[.int .i64 0, .int .i64 0, .int .u64 0, .slice none 0 0, .slice none 0 0] 26)).heap[y5.heap.size]? = some (.cells #[.int .i64 0, .int .i64 0, .int .u64 0, .slice none 0 0, .slice none 0 0] 26) := new_at _ _
              have hb7 : Hid (w1.heap.size ≤ y5.heap.size) := hS.size
              have bb := box_below y5 (.cells #[.int .i64 0, .int .i64 0, .int .u64 0, .slice none 0 0, .slice none 0 0] 26)
              replace EO2 := hid (EO2.out.later bb)
              replace EO5 := hid (EO5.out.later bb)
              have ne6_7 : Hid (g6 < y5.heap.size) := blk_lt k6.out
              replace k6 := hid (below_blk k6.out bb)
              have hS' := hid (Below.up hS bb)
              clear bb
              refine hK.out _ _ hS'.out (fun hS => ?_)
              clear hK K hS'
              generalize y5.alloc (.cells #[.int .i64 0, .int .i64 0, .int .u64 0, .slice none 0 0, .slice none 0 0] 26) = y7 at *
              generalize y5.heap.size = g7 at *
              have k7 := hid h0
              clear h0
              refine wpAnyH_ready (rs := [8]) (by kernel_rfl) (by simp) ?_
              refine AllReadyH.cons rfl (fun K hK => ?_) ?_
              · have q0 := cell_of k6.out 0 (.int .i64 0) rfl
                have f0 := fz_of k6.out 0
                have q1 := cell_of k6.out 1 (.int .i64 0) rfl
                have f1 := fz_of k6.out 1
                have q2 := cell_of k6.out 2 (.int .u64 0) rfl
                have f2 := fz_of k6.out 2
                have q3 := cell_of k6.out 3 (.slice none 0 0) rfl
                have f3 := fz_of k6.out 3
                have q4 := cell_of k6.out 4 (.slice none 0 0) rfl
                have f4 := fz_of k6.out 4
                have P5 := put5 k6.out (.int .i64 E.log) (.int .i64 E.nx) (.int .u64 E.sq) (.slice a2 E.go.length c2) (.slice b2 E.co.length d2)
                have hS' : Hid (Below w1.heap.size w1 (((((y7.setCell ⟨g6, 0, none⟩ (.int .i64 E.log)).setCell ⟨g6, 1, none⟩ (.int .i64 E.nx)).setCell ⟨g6, 2, none⟩ (.int .u64 E.sq)).setCell ⟨g6, 3, none⟩ (.slice a2 E.go.length c2)).setCell ⟨g6, 4, none⟩ (.slice b2 E.co.length d2))) := ((Fp.of (P := fun j => w1.heap.size ≤ j) hS).tr (P5.2.wide (fun j _ h => .inl (by show w1.heap.size ≤ j; have := hb6.out; omega)))).base (Nat.le_refl _) (fun _ h => h)
                have EN2 := hid (EO2.out.fp P5.2 (fun j hj e => EO_ne EO2.out k6.out j hj e))
                have EN5 := hid (EO5.out.fp P5.2 (fun j hj e => EO_ne EO5.out k6.out j hj e))
                have kn7 := hid ((P5.2.block g7 (blk_lt k7.out) (fun e => by have := ne6_7.out; omega)).trans k7.out)
                have kn6 := hid P5.1
                clear P5
                go_simp
                refine hK.out _ _ hS'.out (fun hS => ?_)
                clear hK K hS' q0 q1 q2 q3 q4 f0 f1 f2 f3 f4
                generalize (((((y7.setCell ⟨g6, 0, none⟩ (.int .i64 E.log)).setCell ⟨g6, 1, none⟩ (.int .i64 E.nx)).setCell ⟨g6, 2, none⟩ (.int .u64 E.sq)).setCell ⟨g6, 3, none⟩ (.slice a2 E.go.length c2)).setCell ⟨g6, 4, none⟩ (.slice b2 E.co.length d2)) = y8 at *
                clear EO2
                have EO2 := EN2
                clear EN2
                clear EO5
                have EO5 := EN5
                clear EN5
                clear k6
                have k6 := kn6
                clear kn6
                clear k7
                have k7 := kn7
                clear kn7
                refine wpAnyH_ready (rs := [9]) (by kernel_rfl) (by simp) ?_
                refine AllReadyH.cons rfl (fun K hK => ?_) ?_
                · have q0 := cell_of k7.out 0 (.int .i64 0) rfl
                  have f0 := fz_of k7.out 0
                  have q1 := cell_of k7.out 1 (.int .i64 0) rfl
                  have f1 := fz_of k7.out 1
                  have q2 := cell_of k7.out 2 (.int .u64 0) rfl
                  have f2 := fz_of k7.out 2
                  have q3 := cell_of k7.out 3 (.slice none 0 0) rfl
                  have f3 := fz_of k7.out 3
                  have q4 := cell_of k7.out 4 (.slice none 0 0) rfl
                  have f4 := fz_of k7.out 4
                  have P5 := put5 k7.out (.int .i64 E.log) (.int .i64 E.nx) (.int .u64 E.sq) (.slice a5 E.go.length c5) (.slice b5 E.co.length d5)
                  have hS' : Hid (Below w1.heap.size w1 (((((y8.setCell ⟨g7, 0, none⟩ (.int .i64 E.log)).setCell ⟨g7, 1, none⟩ (.int .i64 E.nx)).setCell ⟨g7, 2, none⟩ (.int .u64 E.sq)).setCell ⟨g7, 3, none⟩ (.slice a5 E.go.length c5)).setCell ⟨g7, 4, none⟩ (.slice b5 E.co.length d5))) := ((Fp.of (P := fun j => w1.heap.size ≤ j) hS).tr (P5.2.wide (fun j _ h => .inl (by show w1.heap.size ≤ j; have := hb7.out; omega)))).base (Nat.le_refl _) (fun _ h => h)
                  have EN2 := hid (EO2.out.fp P5.2 (fun j hj e => EO_ne EO2.out k7.out j hj e))
                  have EN5 := hid (EO5.out.fp P5.2 (fun j hj e => EO_ne EO5.out k7.out j hj e))
                  have kn6 := hid ((P5.2.block g6 (blk_lt k6.out) (fun e => by have := ne6_7.out; omega)).trans k6.out)
                  have kn7 := hid P5.1
                  clear P5
                  go_simp
                  refine hK.out _ _ hS'.out (fun hS => ?_)
                  clear hK K hS' q0 q1 q2 q3 q4 f0 f1 f2 f3 f4
                  generalize (((((y8.setCell ⟨g7, 0, none⟩ (.int .i64 E.log)).setCell ⟨g7, 1, none⟩ (.int .i64 E.nx)).setCell ⟨g7, 2, none⟩ (.int .u64 E.sq)).setCell ⟨g7, 3, none⟩ (.slice a5 E.go.length c5)).setCell ⟨g7, 4, none⟩ (.slice b5 E.co.length d5)) = y9 at *
                  clear EO2
                  have EO2 := EN2
                  clear EN2
                  clear EO5
                  have EO5 := EN5
                  clear EN5
                  clear k6
                  have k6 := kn6
                  clear kn6
                  clear k7
                  have k7 := kn7
                  clear kn7
                  refine wpAnyH_done (by kernel_rfl) ?_ _
                  go_wp2_with fail
                  go_meet
                  case rel => exact ⟨g6, g7, a2, c2, b2, d2, a5, c5, b5, d5, _, _, rfl, rfl, k6.out, k7.out, EO2.out, EO5.out, lo2.out, up2_5.out, hS⟩
                exact AllReadyH.nil
              exact AllReadyH.nil
            exact AllReadyH.nil
          refine AllReadyH.cons rfl (fun K hK => ?_) ?_
          · go_simp
            have h0 : (y6.alloc (.cells #[.int .i64 0, .int .i64 0, .int .u64 0, .slice none 0 0, .slice none 0 0] 26)).heap[y6.heap.size]? = some (.cells #[.int .i64 0, .int .i64 0, .int .u64 0, .slice none 0 0, .slice none 0 0] 26) := new_at _ _
            have hb7 : Hid (w1.heap.size ≤ y6.heap.size) := hS.size
            have bb := box_below y6 (.cells #[.int .i64 0, .int .i64 0, .int .u64 0, .slice none 0 0, .slice none 0 0] 26)
            replace EO2 := hid (EO2.out.later bb)
            have ne6_7 : Hid (g6 < y6.heap.size) := blk_lt k6.out
            replace k6 := hid (below_blk k6.out bb)
            have hS' := hid (Below.up hS bb)
            clear bb
            refine hK.out _ _ hS'.out (fun hS => ?_)
            clear hK K hS'
            generalize y6.alloc (.cells #[.int .i64 0, .int .i64 0, .int .u64 0, .slice none 0 0, .slice none 0 0] 26) = y7 at *
            generalize y6.heap.size = g7 at *
            have k7 := hid h0
            clear h0
            refine wpAnyH_ready (rs := [5]) (by kernel_rfl) (by simp) ?_
            refine AllReadyH.cons rfl (fun K hK => ?_) ?_
            · go_simp
              have lo5 : Hid (w1.heap.size ≤ y7.heap.size) := hS.size
              have up2_5 : Hid (∀ j, blks (ev E a2 c2 b2 d2) j → j < y7.heap.size) := fun j h => (EO2.out.lt j h).2
              go_wp2_with fail
              refine (C3.out y7 hS).mono ?_
              rintro e y5 ⟨v5, rfl, EO5, bb5⟩
              obtain ⟨a5, c5, b5, d5, he5⟩ := EO_shape EO5
              subst he5
              replace EO5 := hid EO5
              replace EO2 := hid (EO2.out.later bb5)
              replace k6 := hid (below_blk k6.out bb5)
              replace k7 := hid (below_blk k7.out bb5)
              have hS' := hid (Below.up hS bb5)
              clear bb5
              unfold ev at EO5
              unfold ev
              refine hK.out _ _ hS'.out (fun hS => ?_)
              clear hK K hS'
              refine wpAnyH_ready (rs := [8]) (by kernel_rfl) (by simp) ?_
              refine AllReadyH.cons rfl (fun K hK => ?_) ?_
              · have q0 := cell_of k6.out 0 (.int .i64 0) rfl
                have f0 := fz_of k6.out 0
                have q1 := cell_of k6.out 1 (.int .i64 0) rfl
                have f1 := fz_of k6.out 1
                have q2 := cell_of k6.out 2 (.int .u64 0) rfl
                have f2 := fz_of k6.out 2
                have q3 := cell_of k6.out 3 (.slice none 0 0) rfl
                have f3 := fz_of k6.out 3
                have q4 := cell_of k6.out 4 (.slice none 0 0) rfl
                have f4 := fz_of k6.out 4
                have P5 := put5 k6.out (.int .i64 E.log) (.int .i64 E.nx) (.int .u64 E.sq) (.slice a2 E.go.length c2) (.slice b2 E.co.length d2)
                have hS' : Hid (Below w1.heap.size w1 (((((y5.setCell ⟨g6, 0, none⟩ (.int .i64 E.log)).setCell ⟨g6, 1, none⟩ (.int .i64 E.nx)).setCell ⟨g6, 2, none⟩ (.int .u64 E.sq)).setCell ⟨g6, 3, none⟩ (.slice a2 E.go.length c2)).setCell ⟨g6, 4, none⟩ (.slice b2 E.co.length d2))) := ((Fp.of (P := fun j => w1.heap.size ≤ j) hS).tr (P5.2.wide (fun j _ h => .inl (by show w1.heap.size ≤ j; have := hb6.out; omega)))).base (Nat.le_refl _) (fun _ h => h)
                have EN2 := hid (EO2.out.fp P5.2 (fun j hj e => EO_ne EO2.out k6.out j hj e))
                have EN5 := hid (EO5.out.fp P5.2 (fun j hj e => EO_ne EO5.out k6.out j hj e))
                have kn7 := hid ((P5.2.block g7 (blk_lt k7.out) (fun e => by have := ne6_7.out; omega)).trans k7.out)
                have kn6 := hid P5.1
                clear P5
                go_simp
                refine hK.out _ _ hS'.out (fun hS => ?_)
                clear hK K hS' q0 q1 q2 q3 q4 f0 f1 f2 f3 f4
                generalize (((((y5.setCell ⟨g6, 0, none⟩ (.int .i64 E.log)).setCell ⟨g6, 1, none⟩ (.int .i64 E.nx)).setCell ⟨g6, 2, none⟩ (.int .u64 E.sq)).setCell ⟨g6, 3, none⟩ (.slice a2 E.go.length c2)).setCell ⟨g6, 4, none⟩ (.slice b2 E.co.length d2)) = y8 at *
                clear EO2
                have EO2 := EN2
                clear EN2
                clear EO5
                have EO5 := EN5
                clear EN5
                clear k6
                have k6 := kn6
                clear kn6
                clear k7
                have k7 := kn7
                clear kn7
                refine wpAnyH_ready (rs := [9]) (by kernel_rfl) (by simp) ?_
                refine AllReadyH.cons rfl (fun K hK => ?_) ?_
                · have q0 := cell_of k7.out 0 (.int .i64 0) rfl
                  have f0 := fz_of k7.out 0
                  have q1 := cell_of k7.out 1 (.int .i64 0) rfl
                  have f1 := fz_of k7.out 1
                  have q2 := cell_of k7.out 2 (.int .u64 0) rfl
                  have f2 := fz_of k7.out 2
                  have q3 := cell_of k7.out 3 (.slice none 0 0) rfl
                  have f3 := fz_of k7.out 3
                  have q4 := cell_of k7.out 4 (.slice none 0 0) rfl
                  have f4 := fz_of k7.out 4
                  have P5 := put5 k7.out (.int .i64 E.log) (.int .i64 E.nx) (.int .u64 E.sq) (.slice a5 E.go.length c5) (.slice b5 E.co.length d5)
                  have hS' : Hid (Below w1.heap.size w1 (((((y8.setCell ⟨g7, 0, none⟩ (.int .i64 E.log)).setCell ⟨g7, 1, none⟩ (.int .i64 E.nx)).setCell ⟨g7, 2, none⟩ (.int .u64 E.sq)).setCell ⟨g7, 3, none⟩ (.slice a5 E.go.length c5)).setCell ⟨g7, 4, none⟩ (.slice b5 E.co.length d5))) := ((Fp.of (P := fun j => w1.heap.size ≤ j) hS).tr (P5.2.wide (fun j _ h => .inl (by show w1.heap.size ≤ j; have := hb7.out; omega)))).base (Nat.le_refl _) (fun _ h => h)
                  have EN2 := hid (EO2.out.fp P5.2 (fun j hj e => EO_ne EO2.out k7.out j hj e))
                  have EN5 := hid (EO5.out.fp P5.2 (fun j hj e => EO_ne EO5.out k7.out j hj e))
                  have kn6 := hid ((P5.2.block g6 (blk_lt k6.out) (fun e => by have := ne6_7.out; omega)).trans k6.out)
                  have kn7 := hid P5.1
                  clear P5
                  go_simp
                  refine hK.out _ _ hS'.out (fun hS => ?_)
                  clear hK K hS' q0 q1 q2 q3 q4 f0 f1 f2 f3 f4
                  generalize (((((y8.setCell ⟨g7, 0, none⟩ (.int .i64 E.log)).setCell ⟨g7, 1, none⟩ (.int .i64 E.nx)).setCell ⟨g7, 2, none⟩ (.int .u64 E.sq)).setCell ⟨g7, 3, none⟩ (.slice a5 E.go.length c5)).setCell ⟨g7, 4, none⟩ (.slice b5 E.co.length d5)) = y9 at *
                  clear EO2
                  have EO2 := EN2
                  clear EN2
                  clear EO5
                  have EO5 := EN5
                  clear EN5
                  clear k6
                  have k6 := kn6
                  clear kn6
                  clear k7
                  have k7 := kn7
                  clear kn7
                  refine wpAnyH_done (by kernel_rfl) ?_ _
                  go_wp2_with fail
                  go_meet
                  case rel => exact ⟨g6, g7, a2, c2, b2, d2, a5, c5, b5, d5, _, _, rfl, rfl, k6.out, k7.out, EO2.out, EO5.out, lo2.out, up2_5.out, hS⟩
                exact AllReadyH.nil
              exact AllReadyH.nil
            exact AllReadyH.nil
          exact AllReadyH.nil
        refine AllReadyH.cons rfl (fun K hK => ?_) ?_
        · go_simp
          have h0 : (y2.alloc (.cells #[.int .i64 0, .int .i64 0, .int .u64 0, .slice none 0 0, .slice none 0 0] 26)).heap[y2.heap.size]? = some (.cells #[.int .i64 0, .int .i64 0, .int .u64 0, .slice none 0 0, .slice none 0 0] 26) := new_at _ _
          have hb7 : Hid (w1.heap.size ≤ y2.heap.size) := hS.size
          have bb := box_below y2 (.cells #[.int .i64 0, .int .i64 0, .int .u64 0, .slice none 0 0, .slice none 0 0] 26)
          replace EO2 := hid (EO2.out.later bb)
          have hS' := hid (Below.up hS bb)
          clear bb
          refine hK.out _ _ hS'.out (fun hS => ?_)
          clear hK K hS'
          generalize y2.alloc (.cells #[.int .i64 0, .int .i64 0, .int .u64 0, .slice none 0 0, .slice none 0 0] 26) = y7 at *
          generalize y2.heap.size = g7 at *
          have k7 := hid h0
          clear h0
          refine wpAnyH_ready (rs := [5, 6]) (by kernel_rfl) (by simp) ?_
          refine AllReadyH.cons rfl (fun K hK => ?_) ?_
          · go_simp
            have lo5 : Hid (w1.heap.size ≤ y7.heap.size) := hS.size
            have up2_5 : Hid (∀ j, blks (ev E a2 c2 b2 d2) j → j < y7.heap.size) := fun j h => (EO2.out.lt j h).2
            go_wp2_with fail
            refine (C3.out y7 hS).mono ?_
            rintro e y5 ⟨v5, rfl, EO5, bb5⟩
            obtain ⟨a5, c5, b5, d5, he5⟩ := EO_shape EO5
            subst he5
            replace EO5 := hid EO5
            replace EO2 := hid (EO2.out.later bb5)
            replace k7 := hid (below_blk k7.out bb5)
            have hS' := hid (Below.up hS bb5)
            clear bb5
            unfold ev at EO5
            unfold ev
            refine hK.out _ _ hS'.out (fun hS => ?_)
            clear hK K hS'
            refine wpAnyH_ready (rs := [6]) (by kernel_rfl) (by simp) ?_
            refine AllReadyH.cons rfl (fun K hK => ?_) ?_
            · go_simp
              have h0 : (y5.alloc (.cells #[.int .i64 0, .int .i64 0, .int .u64 0, .slice none 0 0, .slice none 0 0] 26)).heap[y5.heap.size]? = some (.cells #[.int .i64 0, .int .i64 0, .int .u64 0, .slice none 0 0, .slice none 0 0] 26) := new_at _ _
              have hb6 : Hid (w1.heap.size ≤ y5.heap.size) := hS.size
              have bb := box_below y5 (.cells #[.int .i64 0, .int .i64 0, .int .u64 0, .slice none 0 0, .slice none 0 0] 26)
              replace EO2 := hid (EO2.out.later bb)
              replace EO5 := hid (EO5.out.later bb)
              have ne7_6 : Hid (g7 < y5.heap.size) := blk_lt k7.out
              replace k7 := hid (below_blk k7.out bb)
              have hS' := hid (Below.up hS bb)
              clear bb
              refine hK.out _ _ hS'.out (fun hS => ?_)
              clear hK K hS'
              generalize y5.alloc (.cells #[.int .i64 0, .int .i64 0, .int .u64 0, .slice none 0 0, .slice none 0 0] 26) = y6 at *
              generalize y5.heap.size = g6 at *
              have k6 := hid h0
              clear h0
              refine wpAnyH_ready (rs := [8]) (by kernel_rfl) (by simp) ?_
              refine AllReadyH.cons rfl (fun K hK => ?_) ?_
              · have q0 := cell_of k6.out 0 (.int .i64 0) rfl
                have f0 := fz_of k6.out 0
                have q1 := cell_of k6.out 1 (.int .i64 0) rfl
                have f1 := fz_of k6.out 1
                have q2 := cell_of k6.out 2 (.int .u64 0) rfl
                have f2 := fz_of k6.out 2
                have q3 := cell_of k6.out 3 (.slice none 0 0) rfl
                have f3 := fz_of k6.out 3
                have q4 := cell_of k6.out 4 (.slice none 0 0) rfl
                have f4 := fz_of k6.out 4
                have P5 := put5 k6.out (.int .i64 E.log) (.int .i64 E.nx) (.int .u64 E.sq) (.slice a2 E.go.length c2) (.slice b2 E.co.length d2)
                have hS' : Hid (Below w1.heap.size w1 (((((y6.setCell ⟨g6, 0, none⟩ (.int .i64 E.log)).setCell ⟨g6, 1, none⟩ (.int .i64 E.nx)).setCell ⟨g6, 2, none⟩ (.int .u64 E.sq)).setCell ⟨g6, 3, none⟩ (.slice a2 E.go.length c2)).setCell ⟨g6, 4, none⟩ (.slice b2 E.co.length d2))) := ((Fp.of (P := fun j => w1.heap.size ≤ j) hS).tr (P5.2.wide (fun j _ h => .inl (by show w1.heap.size ≤ j; have := hb6.out; omega)))).base (Nat.le_refl _) (fun _ h => h)
                have EN2 := hid (EO2.out.fp P5.2 (fun j hj e => EO_ne EO2.out k6.out j hj e))
                have EN5 := hid (EO5.out.fp P5.2 (fun j hj e => EO_ne EO5.out k6.out j hj e))
                have kn7 := hid ((P5.2.block g7 (blk_lt k7.out) (fun e => by have := ne7_6.out; omega)).trans k7.out)
                have kn6 := hid P5.1
                clear P5
                go_simp
                refine hK.out _ _ hS'.out (fun hS => ?_)
                clear hK K hS' q0 q1 q2 q3 q4 f0 f1 f2 f3 f4
                generalize (((((y6.setCell ⟨g6, 0, none⟩ (.int .i64 E.log)).setCell ⟨g6, 1, none⟩ (.int .i64 E.nx)).setCell ⟨g6, 2, none⟩ (.int .u64 E.sq)).setCell ⟨g6, 3, none⟩ (.slice a2 E.go.length c2)).setCell ⟨g6, 4, none⟩ (.slice b2 E.co.length d2)) = y8 at *
                clear EO2
                have EO2 := EN2
                clear EN2
                clear EO5
                have EO5 := EN5
                clear EN5
                clear k7
                have k7 := kn7
                clear kn7
                clear k6
                have k6 := kn6
                clear kn6
                refine wpAnyH_ready (rs := [9]) (by kernel_rfl) (by simp) ?_
                refine AllReadyH.cons rfl (fun K hK => ?_) ?_
                · have q0 := cell_of k7.out 0 (.int .i64 0) rfl
                  have f0 := fz_of k7.out 0
                  have q1 := cell_of k7.out 1 (.int .i64 0) rfl
                  have f1 := fz_of k7.out 1
                  have q2 := cell_of k7.out 2 (.int .u64 0) rfl
                  have f2 := fz_of k7.out 2
                  have q3 := cell_of k7.out 3 (.slice none 0 0) rfl
                  have f3 := fz_of k7.out 3
                  have q4 := cell_of k7.out 4 (.slice none 0 0) rfl
                  have f4 := fz_of k7.out 4
                  have P5 := put5 k7.out (.int .i64 E.log) (.int .i64 E.nx) (.int .u64 E.sq) (.slice a5 E.go.length c5) (.slice b5 E.co.length d5)
                  have hS' : Hid (Below w1.heap.size w1 (((((y8.setCell ⟨g7, 0, none⟩ (.int .i64 E.log)).setCell ⟨g7, 1, none⟩ (.int .i64 E.nx)).setCell ⟨g7, 2, none⟩ (.int .u64 E.sq)).setCell ⟨g7, 3, none⟩ (.slice a5 E.go.length c5)).setCell ⟨g7, 4, none⟩ (.slice b5 E.co.length d5))) := ((Fp.of (P := fun j => w1.heap.size ≤ j) hS).tr (P5.2.wide (fun j _ h => .inl (by show w1.heap.size ≤ j; have := hb7.out; omega)))).base (Nat.le_refl _) (fun _ h => h)
                  have EN2 := hid (EO2.out.fp P5.2 (fun j hj e => EO_ne EO2.out k7.out j hj e))
                  have EN5 := hid (EO5.out.fp P5.2 (fun j hj e => EO_ne EO5.out k7.out j hj e))
                  have kn6 := hid ((P5.2.block g6 (blk_lt k6.out) (fun e => by have := ne7_6.out; omega)).trans k6.out)
                  have kn7 := hid P5.1
                  clear P5
                  go_simp
                  refine hK.out _ _ hS'.out (fun hS => ?_)
                  clear hK K hS' q0 q1 q2 q3 q4 f0 f1 f2 f3 f4
                  generalize (((((y8.setCell ⟨g7, 0, none⟩ (.int .i64 E.log)).setCell ⟨g7, 1, none⟩ (.int .i64 E.nx)).setCell ⟨g7, 2, none⟩ (.int .u64 E.sq)).setCell ⟨g7, 3, none⟩ (.slice a5 E.go.length c5)).setCell ⟨g7, 4, none⟩ (.slice b5 E.co.length d5)) = y9 at *
                  clear EO2
                  have EO2 := EN2
                  clear EN2
                  clear EO5
                  have EO5 := EN5
                  clear EN5
                  clear k7
                  have k7 := kn7
                  clear kn7
                  clear k6
                  have k6 := kn6
                  clear kn6
                  refine wpAnyH_done (by kernel_rfl) ?_ _
                  go_wp2_with fail
                  go_meet
                  case rel => exact ⟨g6, g7, a2, c2, b2, d2, a5, c5, b5, d5, _, _, rfl, rfl, k6.out, k7.out, EO2.out, EO5.out, lo2.out, up2_5.out, hS⟩
                exact AllReadyH.nil
              exact AllReadyH.nil
            exact AllReadyH.nil
          refine AllReadyH.cons rfl (fun K hK => ?_) ?_
          · go_simp
            have h0 : (y7.alloc (.cells #[.int .i64 0, .int .i64 0, .int .u64 0, .slice none 0 0, .slice none 0 0] 26)).heap[y7.heap.size]? = some (.cells #[.int .i64 0, .int .i64 0, .int .u64 0, .slice none 0 0, .slice none 0 0] 26) := new_at _ _
            have hb6 : Hid (w1.heap.size ≤ y7.heap.size) := hS.size
            have bb := box_below y7 (.cells #[.int .i64 0, .int .i64 0, .int .u64 0, .slice none 0 0, .slice none 0 0] 26)
            replace EO2 := hid (EO2.out.later bb)
            have ne7_6 : Hid (g7 < y7.heap.size) := blk_lt k7.out
            replace k7 := hid (below_blk k7.out bb)
            have hS' := hid (Below.up hS bb)
            clear bb
            refine hK.out _ _ hS'.out (fun hS => ?_)
            clear hK K hS'
            generalize y7.alloc (.cells #[.int .i64 0, .int .i64 0, .int .u64 0, .slice none 0 0, .slice none 0 0] 26) = y6 at *
            generalize y7.heap.size = g6 at *
            have k6 := hid h0
            clear h0
            refine wpAnyH_ready (rs := [5]) (by kernel_rfl) (by simp) ?_
            refine AllReadyH.cons rfl (fun K hK => ?_) ?_
            · go_simp
              have lo5 : Hid (w1.heap.size ≤ y6.heap.size) := hS.size
              have up2_5 : Hid (∀ j, blks (ev E a2 c2 b2 d2) j → j < y6.heap.size) := fun j h => (EO2.out.lt j h).2
              go_wp2_with fail
              refine (C3.out y6 hS).mono ?_
              rintro e y5 ⟨v5, rfl, EO5, bb5⟩
              obtain ⟨a5, c5, b5, d5, he5⟩ := EO_shape EO5
              subst he5
              replace EO5 := hid EO5
              replace EO2 := hid (EO2.out.later bb5)
              replace k7 := hid (below_blk k7.out bb5)
              replace k6 := hid (below_blk k6.out bb5)
              have hS' := hid (Below.up hS bb5)
              clear bb5
              unfold ev at EO5
              unfold ev
              refine hK.out _ _ hS'.out (fun hS => ?_)
              clear hK K hS'
              refine wpAnyH_ready (rs := [8]) (by kernel_rfl) (by simp) ?_
              refine AllReadyH.cons rfl (fun K hK => ?_) ?_
              · have q0 := cell_of k6.out 0 (.int .i64 0) rfl
                have f0 := fz_of k6.out 0
                have q1 := cell_of k6.out 1 (.int .i64 0) rfl
                have f1 := fz_of k6.out 1
                have q2 := cell_of k6.out 2 (.int .u64 0) rfl
                have f2 := fz_of k6.out 2
                have q3 := cell_of k6.out 3 (.slice none 0 0) rfl
                have f3 := fz_of k6.out 3
                have q4 := cell_of k6.out 4 (.slice none 0 0) rfl
                have f4 := fz_of k6.out 4
                have P5 := put5 k6.out (.int .i64 E.log) (.int .i64 E.nx) (.int .u64 E.sq) (.slice a2 E.go.length c2) (.slice b2 E.co.length d2)
                have hS' : Hid (Below w1.heap.size w1 (((((y5.setCell ⟨g6, 0, none⟩ (.int .i64 E.log)).setCell ⟨g6, 1, none⟩ (.int .i64 E.nx)).setCell ⟨g6, 2, none⟩ (.int .u64 E.sq)).setCell ⟨g6, 3, none⟩ (.slice a2 E.go.length c2)).setCell ⟨g6, 4, none⟩ (.slice b2 E.co.length d2))) := ((Fp.of (P := fun j => w1.heap.size ≤ j) hS).tr (P5.2.wide (fun j _ h => .inl (by show w1.heap.size ≤ j; have := hb6.out; omega)))).base (Nat.le_refl _) (fun _ h => h)
                have EN2 := hid (EO2.out.fp P5.2 (fun j hj e => EO_ne EO2.out k6.out j hj e))
                have EN5 := hid (EO5.out.fp P5.2 (fun j hj e => EO_ne EO5.out k6.out j hj e))
                have kn7 := hid ((P5.2.block g7 (blk_lt k7.out) (fun e => by have := ne7_6.out; omega)).trans k7.out)
                have kn6 := hid P5.1
                clear P5
                go_simp
                refine hK.out _ _ hS'.out (fun hS => ?_)
                clear hK K hS' q0 q1 q2 q3 q4 f0 f1 f2 f3 f4
                generalize (((((y5.setCell ⟨g6, 0, none⟩ (.int .i64 E.log)).setCell ⟨g6, 1, none⟩ (.int .i64 E.nx)).setCell ⟨g6, 2, none⟩ (.int .u64 E.sq)).setCell ⟨g6, 3, none⟩ (.slice a2 E.go.length c2)).setCell ⟨g6, 4, none⟩ (.slice b2 E.co.length d2)) = y8 at *
                clear EO2
                have EO2 := EN2
                clear EN2
                clear EO5
                have EO5 := EN5
                clear EN5
                clear k7
                have k7 := kn7
                clear kn7
                clear k6
                have k6 := kn6
                clear kn6
                refine wpAnyH_ready (rs := [9]) (by kernel_rfl) (by simp) ?_
                refine AllReadyH.cons rfl (fun K hK => ?_) ?_
                · have q0 := cell_of k7.out 0 (.int .i64 0) rfl
                  have f0 := fz_of k7.out 0
                  have q1 := cell_of k7.out 1 (.int .i64 0) rfl
                  have f1 := fz_of k7.out 1
                  have q2 := cell_of k7.out 2 (.int .u64 0) rfl
                  have f2 := fz_of k7.out 2
                  have q3 := cell_of k7.out 3 (.slice none 0 0) rfl
                  have f3 := fz_of k7.out 3
                  have q4 := cell_of k7.out 4 (.slice none 0 0) rfl
                  have f4 := fz_of k7.out 4
                  have P5 := put5 k7.out (.int .i64 E.log) (.int .i64 E.nx) (.int .u64 E.sq) (.slice a5 E.go.length c5) (.slice b5 E.co.length d5)
                  have hS' : Hid (Below w1.heap.size w1 (((((y8.setCell ⟨g7, 0, none⟩ (.int .i64 E.log)).setCell ⟨g7, 1, none⟩ (.int .i64 E.nx)).setCell ⟨g7, 2, none⟩ (.int .u64 E.sq)).setCell ⟨g7, 3, none⟩ (.slice a5 E.go.length c5)).setCell ⟨g7, 4, none⟩ (.slice b5 E.co.length d5))) := ((Fp.of (P := fun j => w1.heap.size ≤ j) hS).tr (P5.2.wide (fun j _ h => .inl (by show w1.heap.size ≤ j; have := hb7.out; omega)))).base (Nat.le_refl _) (fun _ h => h)
                  have EN2 := hid (EO2.out.fp P5.2 (fun j hj e => EO_ne EO2.out k7.out j hj e))
                  have EN5 := hid (EO5.out.fp P5.2 (fun j hj e => EO_ne EO5.out k7.out j hj e))
                  have kn6 := hid ((P5.2.block g6 (blk_lt k6.out) (fun e => by have := ne7_6.out; omega)).trans k6.out)
                  have kn7 := hid P5.1
                  clear P5
                  go_simp
                  refine hK.out _ _ hS'.out (fun hS => ?_)
                  clear hK K hS' q0 q1 q2 q3 q4 f0 f1 f2 f3 f4
                  generalize (((((y8.setCell ⟨g7, 0, none⟩ (.int .i64 E.log)).setCell ⟨g7, 1, none⟩ (.int .i64 E.nx)).setCell ⟨g7, 2, none⟩ (.int .u64 E.sq)).setCell ⟨g7, 3, none⟩ (.slice a5 E.go.length c5)).setCell ⟨g7, 4, none⟩ (.slice b5 E.co.length d5)) = y9 at *
                  clear EO2
                  have EO2 := EN2
                  clear EN2
                  clear EO5
                  have EO5 := EN5
                  clear EN5
                  clear k7
                  have k7 := kn7
                  clear kn7
                  clear k6
                  have k6 := kn6
                  clear kn6
                  refine wpAnyH_done (by kernel_rfl) ?_ _
                  go_wp2_with fail
                  go_meet
                  case rel => exact ⟨g6, g7, a2, c2, b2, d2, a5, c5, b5, d5, _, _, rfl, rfl, k6.out, k7.out, EO2.out, EO5.out, lo2.out, up2_5.out, hS⟩
                exact AllReadyH.nil
              exact AllReadyH.nil
            exact AllReadyH.nil
          exact AllReadyH.nil
        exact AllReadyH.nil
      refine AllReadyH.cons rfl (fun K hK => ?_) ?_
      · go_simp
        have h0 : (D.alloc (.cells #[.int .i64 0, .int .i64 0, .int .u64 0, .slice none 0 0, .slice none 0 0] 26)).heap[D.heap.size]? = some (.cells #[.int .i64 0, .int .i64 0, .int .u64 0, .slice none 0 0, .slice none 0 0] 26) := new_at _ _
        have hb6 : Hid (w1.heap.size ≤ D.heap.size) := hS.size
        have bb := box_below D (.cells #[.int .i64 0, .int .i64 0, .int .u64 0, .slice none 0 0, .slice none 0 0] 26)
        have hS' := hid (Below.up hS bb)
        clear bb
        refine hK.out _ _ hS'.out (fun hS => ?_)
        clear hK K hS'
        generalize D.alloc (.cells #[.int .i64 0, .int .i64 0, .int .u64 0, .slice none 0 0, .slice none 0 0] 26) = y6 at *
        generalize D.heap.size = g6 at *
        have k6 := hid h0
        clear h0
        refine wpAnyH_ready (rs := [2, 7]) (by kernel_rfl) (by simp) ?_
        refine AllReadyH.cons rfl (fun K hK => ?_) ?_
        · go_simp
          have lo2 : Hid (w1.heap.size ≤ y6.heap.size) := hS.size
          go_wp2_with fail
          refine (C3.out y6 hS).mono ?_
          rintro e y2 ⟨v2, rfl, EO2, bb2⟩
          obtain ⟨a2, c2, b2, d2, he2⟩ := EO_shape EO2
          subst he2
          replace EO2 := hid EO2
          replace k6 := hid (below_blk k6.out bb2)
          have hS' := hid (Below.up hS bb2)
          clear bb2
          unfold ev at EO2
          unfold ev
          refine hK.out _ _ hS'.out (fun hS => ?_)
          clear hK K hS'
          refine wpAnyH_ready (rs := [5, 7]) (by kernel_rfl) (by simp) ?_
          refine AllReadyH.cons rfl (fun K hK => ?_) ?_
          · go_simp
            have lo5 : Hid (w1.heap.size ≤ y2.heap.size) := hS.size
            have up2_5 : Hid (∀ j, blks (ev E a2 c2 b2 d2) j → j < y2.heap.size) := fun j h => (EO2.out.lt j h).2
            go_wp2_with fail
            refine (C3.out y2 hS).mono ?_
            rintro e y5 ⟨v5, rfl, EO5, bb5⟩
            obtain ⟨a5, c5, b5, d5, he5⟩ := EO_shape EO5
            subst he5
            replace EO5 := hid EO5
            replace EO2 := hid (EO2.out.later bb5)
            replace k6 := hid (below_blk k6.out bb5)
            have hS' := hid (Below.up hS bb5)
            clear bb5
            unfold ev at EO5
            unfold ev
            refine hK.out _ _ hS'.out (fun hS => ?_)
            clear hK K hS'
            refine wpAnyH_ready (rs := [7]) (by kernel_rfl) (by simp) ?_
            refine AllReadyH.cons rfl (fun K hK => ?_) ?_
            · go_simp
              have h0 : (y5.alloc (.cells #[.int .i64 0, .int .i64 0, .int .u64 0, .slice none 0 0, .slice none 0 0] 26)).heap[y5.heap.size]? = some (.cells #[.int .i64 0, .int .i64 0, .int .u64 0, .slice none 0 0, .slice none 0 0] 26) := new_at _ _
              have hb7 : Hid (w1.heap.size ≤ y5.heap.size) := hS.size
              have bb := box_below y5 (.cells #[.int .i64 0, .int .i64 0, .int .u64 0, .slice none 0 0, .slice none 0 0] 26)
              replace EO2 := hid (EO2.out.later bb)
              replace EO5 := hid (EO5.out.later bb)
              have ne6_7 : Hid (g6 < y5.heap.size) := blk_lt k6.out
              replace k6 := hid (below_blk k6.out bb)
              have hS' := hid (Below.up hS bb)
              clear bb
              refine hK.out _ _ hS'.out (fun hS => ?_)
              clear hK K hS'
              generalize y5.alloc (.cells #[.int .i64 0, .int .i64 0, .int .u64 0, .slice none 0 0, .slice none 0 0] 26) = y7 at *
              generalize y5.heap.size = g7 at *
              have k7 := hid h0
              clear h0
              refine wpAnyH_ready (rs := [8]) (by kernel_rfl) (by simp) ?_
              refine AllReadyH.cons rfl (fun K hK => ?_) ?_
              · have q0 := cell_of k6.out 0 (.int .i64 0) rfl
                have f0 := fz_of k6.out 0
                have q1 := cell_of k6.out 1 (.int .i64 0) rfl
                have f1 := fz_of k6.out 1
                have q2 := cell_of k6.out 2 (.int .u64 0) rfl
                have f2 := fz_of k6.out 2
                have q3 := cell_of k6.out 3 (.slice none 0 0) rfl
                have f3 := fz_of k6.out 3
                have q4 := cell_of k6.out 4 (.slice none 0 0) rfl
                have f4 := fz_of k6.out 4
                have P5 := put5 k6.out (.int .i64 E.log) (.int .i64 E.nx) (.int .u64 E.sq) (.slice a2 E.go.length c2) (.slice b2 E.co.length d2)
                have hS' : Hid (Below w1.heap.size w1 (((((y7.setCell ⟨g6, 0, none⟩ (.int .i64 E.log)).setCell ⟨g6, 1, none⟩ (.int .i64 E.nx)).setCell ⟨g6, 2, none⟩ (.int .u64 E.sq)).setCell ⟨g6, 3, none⟩ (.slice a2 E.go.length c2)).setCell ⟨g6, 4, none⟩ (.slice b2 E.co.length d2))) := ((Fp.of (P := fun j => w1.heap.size ≤ j) hS).tr (P5.2.wide (fun j _ h => .inl (by show w1.heap.size ≤ j; have := hb6.out; omega)))).base (Nat.le_refl _) (fun _ h => h)
                have EN2 := hid (EO2.out.fp P5.2 (fun j hj e => EO_ne EO2.out k6.out j hj e))
                have EN5 := hid (EO5.out.fp P5.2 (fun j hj e => EO_ne EO5.out k6.out j hj e))
                have kn7 := hid ((P5.2.block g7 (blk_lt k7.out) (fun e => by have := ne6_7.out; omega)).trans k7.out)
                have kn6 := hid P5.1
                clear P5
                go_simp
                refine hK.out _ _ hS'.out (fun hS => ?_)
                clear hK K hS' q0 q1 q2 q3 q4 f0 f1 f2 f3 f4
                generalize (((((y7.setCell ⟨g6, 0, none⟩ (.int .i64 E.log)).setCell ⟨g6, 1, none⟩ (.int .i64 E.nx)).setCell ⟨g6, 2, none⟩ (.int .u64 E.sq)).setCell ⟨g6, 3, none⟩ (.slice a2 E.go.length c2)).setCell ⟨g6, 4, none⟩ (.slice b2 E.co.length d2)) = y8 at *
                clear EO2
                have EO2 := EN2
                clear EN2
                clear EO5
                have EO5 := EN5
                clear EN5
                clear k6
                have k6 := kn6
                clear kn6
                clear k7
                have k7 := kn7
                clear kn7
                refine wpAnyH_ready (rs := [9]) (by kernel_rfl) (by simp) ?_
                refine AllReadyH.cons rfl (fun K hK => ?_) ?_
                · have q0 := cell_of k7.out 0 (.int .i64 0) rfl
                  have f0 := fz_of k7.out 0
                  have q1 := cell_of k7.out 1 (.int .i64 0) rfl
                  have f1 := fz_of k7.out 1
                  have q2 := cell_of k7.out 2 (.int .u64 0) rfl
                  have f2 := fz_of k7.out 2
                  have q3 := cell_of k7.out 3 (.slice none 0 0) rfl
                  have f3 := fz_of k7.out 3
                  have q4 := cell_of k7.out 4 (.slice none 0 0) rfl
                  have f4 := fz_of k7.out 4
                  have P5 := put5 k7.out (.int .i64 E.log) (.int .i64 E.nx) (.int .u64 E.sq) (.slice a5 E.go.length c5) (.slice b5 E.co.length d5)
                  have hS' : Hid (Below w1.heap.size w1 (((((y8.setCell ⟨g7, 0, none⟩ (.int .i64 E.log)).setCell ⟨g7, 1, none⟩ (.int .i64 E.nx)).setCell ⟨g7, 2, none⟩ (.int .u64 E.sq)).setCell ⟨g7, 3, none⟩ (.slice a5 E.go.length c5)).setCell ⟨g7, 4, none⟩ (.slice b5 E.co.length d5))) := ((Fp.of (P := fun j => w1.heap.size ≤ j) hS).tr (P5.2.wide (fun j _ h => .inl (by show w1.heap.size ≤ j; have := hb7.out; omega)))).base (Nat.le_refl _) (fun _ h => h)
                  have EN2 := hid (EO2.out.fp P5.2 (fun j hj e => EO_ne EO2.out k7.out j hj e))
                  have EN5 := hid (EO5.out.fp P5.2 (fun j hj e => EO_ne EO5.out k7.out j hj e))
                  have kn6 := hid ((P5.2.block g6 (blk_lt k6.out) (fun e => by have := ne6_7.out; omega)).trans k6.out)
                  have kn7 := hid P5.1
                  clear P5
                  go_simp
                  refine hK.out _ _ hS'.out (fun hS => ?_)
                  clear hK K hS' q0 q1 q2 q3 q4 f0 f1 f2 f3 f4
                  generalize (((((y8.setCell ⟨g7, 0, none⟩ (.int .i64 E.log)).setCell ⟨g7, 1, none⟩ (.int .i64 E.nx)).setCell ⟨g7, 2, none⟩ (.int .u64 E.sq)).setCell ⟨g7, 3, none⟩ (.slice a5 E.go.length c5)).setCell ⟨g7, 4, none⟩ (.slice b5 E.co.length d5)) = y9 at *
                  clear EO2
                  have EO2 := EN2
                  clear EN2
                  clear EO5
                  have EO5 := EN5
                  clear EN5
                  clear k6
                  have k6 := kn6
                  clear kn6
                  clear k7
                  have k7 := kn7
                  clear kn7
                  refine wpAnyH_done (by kernel_rfl) ?_ _
                  go_wp2_with fail
                  go_meet
                  case rel => exact ⟨g6, g7, a2, c2, b2, d2, a5, c5, b5, d5, _, _, rfl, rfl, k6.out, k7.out, EO2.out, EO5.out, lo2.out, up2_5.out, hS⟩
                exact AllReadyH.nil
              exact AllReadyH.nil
            exact AllReadyH.nil
          refine AllReadyH.cons rfl (fun K hK => ?_) ?_
          · go_simp
            have h0 : (y2.alloc (.cells #[.int .i64 0, .int .i64 0, .int .u64 0, .slice none 0 0, .slice none 0 0] 26)).heap[y2.heap.size]? = some (.cells #[.int .i64 0, .int .i64 0, .int .u64 0, .slice none 0 0, .slice none 0 0] 26) := new_at _ _
            have hb7 : Hid (w1.heap.size ≤ y2.heap.size) := hS.size
            have bb := box_below y2 (.cells #[.int .i64 0, .int .i64 0, .int .u64 0, .slice none 0 0, .slice none 0 0] 26)
            replace EO2 := hid (EO2.out.later bb)
            have ne6_7 : Hid (g6 < y2.heap.size) := blk_lt k6.out
            replace k6 := hid (below_blk k6.out bb)
            have hS' := hid (Below.up hS bb)
            clear bb
            refine hK.out _ _ hS'.out (fun hS => ?_)
            clear hK K hS'
            generalize y2.alloc (.cells #[.int .i64 0, .int .i64 0, .int .u64 0, .slice none 0 0, .slice none 0 0] 26) = y7 at *
            generalize y2.heap.size = g7 at *
            have k7 := hid h0
            clear h0
            refine wpAnyH_ready (rs := [5]) (by kernel_rfl) (by simp) ?_
            refine AllReadyH.cons rfl (fun K hK => ?_) ?_
            · go_simp
              have lo5 : Hid (w1.heap.size ≤ y7.heap.size) := hS.size
              have up2_5 : Hid (∀ j, blks (ev E a2 c2 b2 d2) j → j < y7.heap.size) := fun j h => (EO2.out.lt j h).2
              go_wp2_with fail
              refine (C3.out y7 hS).mono ?_
              rintro e y5 ⟨v5, rfl, EO5, bb5⟩
              obtain ⟨a5, c5, b5, d5, he5⟩ := EO_shape EO5
              subst he5
              replace EO5 := hid EO5
              replace EO2 := hid (EO2.out.later bb5)
              replace k6 := hid (below_blk k6.out bb5)
              replace k7 := hid (below_blk k7.out bb5)
              have hS' := hid (Below.up hS bb5)
              clear bb5
              unfold ev at EO5
              unfold ev
              refine hK.out _ _ hS'.out (fun hS => ?_)
              clear hK K hS'
              refine wpAnyH_ready (rs := [8]) (by kernel_rfl) (by simp) ?_
              refine AllReadyH.cons rfl (fun K hK => ?_) ?_
              · have q0 := cell_of k6.out 0 (.int .i64 0) rfl
                have f0 := fz_of k6.out 0
                have q1 := cell_of k6.out 1 (.int .i64 0) rfl
                have f1 := fz_of k6.out 1
                have q2 := cell_of k6.out 2 (.int .u64 0) rfl
                have f2 := fz_of k6.out 2
                have q3 := cell_of k6.out 3 (.slice none 0 0) rfl
                have f3 := fz_of k6.out 3
                have q4 := cell_of k6.out 4 (.slice none 0 0) rfl
                have f4 := fz_of k6.out 4
                have P5 := put5 k6.out (.int .i64 E.log) (.int .i64 E.nx) (.int .u64 E.sq) (.slice a2 E.go.length c2) (.slice b2 E.co.length d2)
                have hS' : Hid (Below w1.heap.size w1 (((((y5.setCell ⟨g6, 0, none⟩ (.int .i64 E.log)).setCell ⟨g6, 1, none⟩ (.int .i64 E.nx)).setCell ⟨g6, 2, none⟩ (.int .u64 E.sq)).setCell ⟨g6, 3, none⟩ (.slice a2 E.go.length c2)).setCell ⟨g6, 4, none⟩ (.slice b2 E.co.length d2))) := ((Fp.of (P := fun j => w1.heap.size ≤ j) hS).tr (P5.2.wide (fun j _ h => .inl (by show w1.heap.size ≤ j; have := hb6.out; omega)))).base (Nat.le_refl _) (fun _ h => h)
                have EN2 := hid (EO2.out.fp P5.2 (fun j hj e => EO_ne EO2.out k6.out j hj e))
                have EN5 := hid (EO5.out.fp P5.2 (fun j hj e => EO_ne EO5.out k6.out j hj e))
                have kn7 := hid ((P5.2.block g7 (blk_lt k7.out) (fun e => by have := ne6_7.out; omega)).trans k7.out)
                have kn6 := hid P5.1
                clear P5
                go_simp
                refine hK.out _ _ hS'.out (fun hS => ?_)
                clear hK K hS' q0 q1 q2 q3 q4 f0 f1 f2 f3 f4
                generalize (((((y5.setCell ⟨g6, 0, none⟩ (.int .i64 E.log)).setCell ⟨g6, 1, none⟩ (.int .i64 E.nx)).setCell ⟨g6, 2, none⟩ (.int .u64 E.sq)).setCell ⟨g6, 3, none⟩ (.slice a2 E.go.length c2)).setCell ⟨g6, 4, none⟩ (.slice b2 E.co.length d2)) = y8 at *
                clear EO2
                have EO2 := EN2
                clear EN2
                clear EO5
                have EO5 := EN5
                clear EN5
                clear k6
                have k6 := kn6
                clear kn6
                clear k7
                have k7 := kn7
                clear kn7
                refine wpAnyH_ready (rs := [9]) (by kernel_rfl) (by simp) ?_
                refine AllReadyH.cons rfl (fun K hK => ?_) ?_
                · have q0 := cell_of k7.out 0 (.int .i64 0) rfl
                  have f0 := fz_of k7.out 0
                  have q1 := cell_of k7.out 1 (.int .i64 0) rfl
                  have f1 := fz_of k7.out 1
                  have q2 := cell_of k7.out 2 (.int .u64 0) rfl
                  have f2 := fz_of k7.out 2
                  have q3 := cell_of k7.out 3 (.slice none 0 0) rfl
                  have f3 := fz_of k7.out 3
                  have q4 := cell_of k7.out 4 (.slice none 0 0) rfl
                  have f4 := fz_of k7.out 4
                  have P5 := put5 k7.out (.int .i64 E.log) (.int .i64 E.nx) (.int .u64 E.sq) (.slice a5 E.go.length c5) (.slice b5 E.co.length d5)
                  have hS' : Hid (Below w1.heap.size w1 (((((y8.setCell ⟨g7, 0, none⟩ (.int .i64 E.log)).setCell ⟨g7, 1, none⟩ (.int .i64 E.nx)).setCell ⟨g7, 2, none⟩ (.int .u64 E.sq)).setCell ⟨g7, 3, none⟩ (.slice a5 E.go.length c5)).setCell ⟨g7, 4, none⟩ (.slice b5 E.co.length d5))) := ((Fp.of (P := fun j => w1.heap.size ≤ j) hS).tr (P5.2.wide (fun j _ h => .inl (by show w1.heap.size ≤ j; have := hb7.out; omega)))).base (Nat.le_refl _) (fun _ h => h)
                  have EN2 := hid (EO2.out.fp P5.2 (fun j hj e => EO_ne EO2.out k7.out j hj e))
                  have EN5 := hid (EO5.out.fp P5.2 (fun j hj e => EO_ne EO5.out k7.out j hj e))
                  have kn6 := hid ((P5.2.block g6 (blk_lt k6.out) (fun e => by have := ne6_7.out; omega)).trans k6.out)
                  have kn7 := hid P5.1
                  clear P5
                  go_simp
                  refine hK.out _ _ hS'.out (fun hS => ?_)
                  clear hK K hS' q0 q1 q2 q3 q4 f0 f1 f2 f3 f4
                  generalize (((((y8.setCell ⟨g7, 0, none⟩ (.int .i64 E.log)).setCell ⟨g7, 1, none⟩ (.int .i64 E.nx)).setCell ⟨g7, 2, none⟩ (.int .u64 E.sq)).setCell ⟨g7, 3, none⟩ (.slice a5 E.go.length c5)).setCell ⟨g7, 4, none⟩ (.slice b5 E.co.length d5)) = y9 at *
                  clear EO2
                  have EO2 := EN2
                  clear EN2
                  clear EO5
                  have EO5 := EN5
                  clear EN5
                  clear k6
                  have k6 := kn6
                  clear kn6
                  clear k7
                  have k7 := kn7
                  clear kn7
                  refine wpAnyH_done (by kernel_rfl) ?_ _
                  go_wp2_with fail
                  go_meet
                  case rel => exact ⟨g6, g7, a2, c2, b2, d2, a5, c5, b5, d5, _, _, rfl, rfl, k6.out, k7.out, EO2.out, EO5.out, lo2.out, up2_5.out, hS⟩
                exact AllReadyH.nil
              exact AllReadyH.nil
            exact AllReadyH.nil
          exact AllReadyH.nil
        refine AllReadyH.cons rfl (fun K hK => ?_) ?_
        · go_simp
          have h0 : (y6.alloc (.cells #[.int .i64 0, .int .i64 0, .int .u64 0, .slice none 0 0, .slice none 0 0] 26)).heap[y6.heap.size]? = some (.cells #[.int .i64 0, .int .i64 0, .int .u64 0, .slice none 0 0, .slice none 0 0] 26) := new_at _ _
          have hb7 : Hid (w1.heap.size ≤ y6.heap.size) := hS.size
          have bb := box_below y6 (.cells #[.int .i64 0, .int .i64 0, .int .u64 0, .slice none 0 0, .slice none 0 0] 26)
          have ne6_7 : Hid (g6 < y6.heap.size) := blk_lt k6.out
          replace k6 := hid (below_blk k6.out bb)
          have hS' := hid (Below.up hS bb)
          clear bb
          refine hK.out _ _ hS'.out (fun hS => ?_)
          clear hK K hS'
          generalize y6.alloc (.cells #[.int .i64 0, .int .i64 0, .int .u64 0, .slice none 0 0, .slice none 0 0] 26) = y7 at *
          generalize y6.heap.size = g7 at *
          have k7 := hid h0
          clear h0
          refine wpAnyH_ready (rs := [2]) (by kernel_rfl) (by simp) ?_
          refine AllReadyH.cons rfl (fun K hK => ?_) ?_
          · go_simp
            have lo2 : Hid (w1.heap.size ≤ y7.heap.size) := hS.size
            go_wp2_with fail
            refine (C3.out y7 hS).mono ?_
            rintro e y2 ⟨v2, rfl, EO2, bb2⟩
            obtain ⟨a2, c2, b2, d2, he2⟩ := EO_shape EO2
            subst he2
            replace EO2 := hid EO2
            replace k6 := hid (below_blk k6.out bb2)
            replace k7 := hid (below_blk k7.out bb2)
            have hS' := hid (Below.up hS bb2)
            clear bb2
            unfold ev at EO2
            unfold ev
            refine hK.out _ _ hS'.out (fun hS => ?_)
            clear hK K hS'
            refine wpAnyH_ready (rs := [5]) (by kernel_rfl) (by simp) ?_
            refine AllReadyH.cons rfl (fun K hK => ?_) ?_
            · go_simp
              have lo5 : Hid (w1.heap.size ≤ y2.heap.size) := hS.size
              have up2_5 : Hid (∀ j, blks (ev E a2 c2 b2 d2) j → j < y2.heap.size) := fun j h => (EO2.out.lt j h).2
              go_wp2_with fail
              refine (C3.out y2 hS).mono ?_
              rintro e y5 ⟨v5, rfl, EO5, bb5⟩
              obtain ⟨a5, c5, b5, d5, he5⟩ := EO_shape EO5
              subst he5
              replace EO5 := hid EO5
              replace EO2 := hid (EO2.out.later bb5)
              replace k6 := hid (below_blk k6.out bb5)
              replace k7 := hid (below_blk k7.out bb5)
              have hS' := hid (Below.up hS bb5)
              clear bb5
              unfold ev at EO5
              unfold ev
              refine hK.out _ _ hS'.out (fun hS => ?_)
              clear hK K hS'
              refine wpAnyH_ready (rs := [8]) (by kernel_rfl) (by simp) ?_
              refine AllReadyH.cons rfl (fun K hK => ?_) ?_
              · have q0 := cell_of k6.out 0 (.int .i64 0) rfl
                have f0 := fz_of k6.out 0
                have q1 := cell_of k6.out 1 (.int .i64 0) rfl
                have f1 := fz_of k6.out 1
                have q2 := cell_of k6.out 2 (.int .u64 0) rfl
                have f2 := fz_of k6.out 2
                have q3 := cell_of k6.out 3 (.slice none 0 0) rfl
                have f3 := fz_of k6.out 3
                have q4 := cell_of k6.out 4 (.slice none 0 0) rfl
                have f4 := fz_of k6.out 4
                have P5 := put5 k6.out (.int .i64 E.log) (.int .i64 E.nx) (.int .u64 E.sq) (.slice a2 E.go.length c2) (.slice b2 E.co.length d2)
                have hS' : Hid (Below w1.heap.size w1 (((((y5.setCell ⟨g6, 0, none⟩ (.int .i64 E.log)).setCell ⟨g6, 1, none⟩ (.int .i64 E.nx)).setCell ⟨g6, 2, none⟩ (.int .u64 E.sq)).setCell ⟨g6, 3, none⟩ (.slice a2 E.go.length c2)).setCell ⟨g6, 4, none⟩ (.slice b2 E.co.length d2))) := ((Fp.of (P := fun j => w1.heap.size ≤ j) hS).tr (P5.2.wide (fun j _ h => .inl (by show w1.heap.size ≤ j; have := hb6.out; omega)))).base (Nat.le_refl _) (fun _ h => h)
                have EN2 := hid (EO2.out.fp P5.2 (fun j hj e => EO_ne EO2.out k6.out j hj e))
                have EN5 := hid (EO5.out.fp P5.2 (fun j hj e => EO_ne EO5.out k6.out j hj e))
                have kn7 := hid ((P5.2.block g7 (blk_lt k7.out) (fun e => by have := ne6_7.out; omega)).trans k7.out)
                have kn6 := hid P5.1
                clear P5
                go_simp
                refine hK.out _ _ hS'.out (fun hS => ?_)
                clear hK K hS' q0 q1 q2 q3 q4 f0 f1 f2 f3 f4
                generalize (((((y5.setCell ⟨g6, 0, none⟩ (.int .i64 E.log)).setCell ⟨g6, 1, none⟩ (.int .i64 E.nx)).setCell ⟨g6, 2, none⟩ (.int .u64 E.sq)).setCell ⟨g6, 3, none⟩ (.slice a2 E.go.length c2)).setCell ⟨g6, 4, none⟩ (.slice b2 E.co.length d2)) = y8 at *
                clear EO2
                have EO2 := EN2
                clear EN2
                clear EO5
                have EO5 := EN5
                clear EN5
                clear k6
                have k6 := kn6
                clear kn6
                clear k7
                have k7 := kn7
                clear kn7
                refine wpAnyH_ready (rs := [9]) (by kernel_rfl) (by simp) ?_
                refine AllReadyH.cons rfl (fun K hK => ?_) ?_
                · have q0 := cell_of k7.out 0 (.int .i64 0) rfl
                  have f0 := fz_of k7.out 0
                  have q1 := cell_of k7.out 1 (.int .i64 0) rfl
                  have f1 := fz_of k7.out 1
                  have q2 := cell_of k7.out 2 (.int .u64 0) rfl
                  have f2 := fz_of k7.out 2
                  have q3 := cell_of k7.out 3 (.slice none 0 0) rfl
                  have f3 := fz_of k7.out 3
                  have q4 := cell_of k7.out 4 (.slice none 0 0) rfl
                  have f4 := fz_of k7.out 4
                  have P5 := put5 k7.out (.int .i64 E.log) (.int .i64 E.nx) (.int .u64 E.sq) (.slice a5 E.go.length c5) (.slice b5 E.co.length d5)
                  have hS' : Hid (Below w1.heap.size w1 (((((y8.setCell ⟨g7, 0, none⟩ (.int .i64 E.log)).setCell ⟨g7, 1, none⟩ (.int .i64 E.nx)).setCell ⟨g7, 2, none⟩ (.int .u64 E.sq)).setCell ⟨g7, 3, none⟩ (.slice a5 E.go.length c5)).setCell ⟨g7, 4, none⟩ (.slice b5 E.co.length d5))) := ((Fp.of (P := fun j => w1.heap.size ≤ j) hS).tr (P5.2.wide (fun j _ h => .inl (by show w1.heap.size ≤ j; have := hb7.out; omega)))).base (Nat.le_refl _) (fun _ h => h)
                  have EN2 := hid (EO2.out.fp P5.2 (fun j hj e => EO_ne EO2.out k7.out j hj e))
                  have EN5 := hid (EO5.out.fp P5.2 (fun j hj e => EO_ne EO5.out k7.out j hj e))
                  have kn6 := hid ((P5.2.block g6 (blk_lt k6.out) (fun e => by have := ne6_7.out; omega)).trans k6.out)
                  have kn7 := hid P5.1
                  clear P5
                  go_simp
                  refine hK.out _ _ hS'.out (fun hS => ?_)
                  clear hK K hS' q0 q1 q2 q3 q4 f0 f1 f2 f3 f4
                  generalize (((((y8.setCell ⟨g7, 0, none⟩ (.int .i64 E.log)).setCell ⟨g7, 1, none⟩ (.int .i64 E.nx)).setCell ⟨g7, 2, none⟩ (.int .u64 E.sq)).setCell ⟨g7, 3, none⟩ (.slice a5 E.go.length c5)).setCell ⟨g7, 4, none⟩ (.slice b5 E.co.length d5)) = y9 at *
                  clear EO2
                  have EO2 := EN2
                  clear EN2
                  clear EO5
                  have EO5 := EN5
                  clear EN5
                  clear k6
                  have k6 := kn6
                  clear kn6
                  clear k7
                  have k7 := kn7
                  clear kn7
                  refine wpAnyH_done (by kernel_rfl) ?_ _
                  go_wp2_with fail
                  go_meet
                  case rel => exact ⟨g6, g7, a2, c2, b2, d2, a5, c5, b5, d5, _, _, rfl, rfl, k6.out, k7.out, EO2.out, EO5.out, lo2.out, up2_5.out, hS⟩
                exact AllReadyH.nil
              exact AllReadyH.nil
            exact AllReadyH.nil
          exact AllReadyH.nil
        exact AllReadyH.nil
      refine AllReadyH.cons rfl (fun K hK => ?_) ?_
      · go_simp
        have h0 : (D.alloc (.cells #[.int .i64 0, .int .i64 0, .int .u64 0, .slice none 0 0, .slice none 0 0] 26)).heap[D.heap.size]? = some (.cells #[.int .i64 0, .int .i64 0, .int .u64 0, .slice none 0 0, .slice none 0 0] 26) := new_at _ _
        have hb7 : Hid (w1.heap.size ≤ D.heap.size) := hS.size
        have bb := box_below D (.cells #[.int .i64 0, .int .i64 0, .int .u64 0, .slice none 0 0, .slice none 0 0] 26)
        have hS' := hid (Below.up hS bb)
        clear bb
        refine hK.out _ _ hS'.out (fun hS => ?_)
        clear hK K hS'
        generalize D.alloc (.cells #[.int .i64 0, .int .i64 0, .int .u64 0, .slice none 0 0, .slice none 0 0] 26) = y7 at *
        generalize D.heap.size = g7 at *
        have k7 := hid h0
        clear h0
        refine wpAnyH_ready (rs := [2, 6]) (by kernel_rfl) (by simp) ?_
        refine AllReadyH.cons rfl (fun K hK => ?_) ?_
        · go_simp
          have lo2 : Hid (w1.heap.size ≤ y7.heap.size) := hS.size
          go_wp2_with fail
          refine (C3.out y7 hS).mono ?_
          rintro e y2 ⟨v2, rfl, EO2, bb2⟩
          obtain ⟨a2, c2, b2, d2, he2⟩ := EO_shape EO2
          subst he2
          replace EO2 := hid EO2
          replace k7 := hid (below_blk k7.out bb2)
          have hS' := hid (Below.up hS bb2)
          clear bb2
          unfold ev at EO2
          unfold ev
          refine hK.out _ _ hS'.out (fun hS => ?_)
          clear hK K hS'
          refine wpAnyH_ready (rs := [5, 6]) (by kernel_rfl) (by simp) ?_
          refine AllReadyH.cons rfl (fun K hK => ?_) ?_
          · go_simp
            have lo5 : Hid (w1.heap.size ≤ y2.heap.size) := hS.size
            have up2_5 : Hid (∀ j, blks (ev E a2 c2 b2 d2) j → j < y2.heap.size) := fun j h => (EO2.out.lt j h).2
            go_wp2_with fail
            refine (C3.out y2 hS).mono ?_
            rintro e y5 ⟨v5, rfl, EO5, bb5⟩
            obtain ⟨a5, c5, b5, d5, he5⟩ := EO_shape EO5
            subst he5
            replace EO5 := hid EO5
            replace EO2 := hid (EO2.out.later bb5)
            replace k7 := hid (below_blk k7.out bb5)
            have hS' := hid (Below.up hS bb5)
            clear bb5
            unfold ev at EO5
            unfold ev
            refine hK.out _ _ hS'.out (fun hS => ?_)
            clear hK K hS'
            refine wpAnyH_ready (rs := [6]) (by kernel_rfl) (by simp) ?_
            refine AllReadyH.cons rfl (fun K hK => ?_) ?_
            · go_simp
              have h0 : (y5.alloc (.cells #[.int .i64 0, .int .i64 0, .int .u64 0, .slice none 0 0, .slice none 0 0] 26)).heap[y5.heap.size]? = some (.cells #[.int .i64 0, .int .i64 0, .int .u64 0, .slice none 0 0, .slice none 0 0] 26) := new_at _ _
              have hb6 : Hid (w1.heap.size ≤ y5.heap.size) := hS.size
              have bb := box_below y5 (.cells #[.int .i64 0, .int .i64 0, .int .u64 0, .slice none 0 0, .slice none 0 0] 26)
              replace EO2 := hid (EO2.out.later bb)
              replace EO5 := hid (EO5.out.later bb)
              have ne7_6 : Hid (g7 < y5.heap.size) := blk_lt k7.out
              replace k7 := hid (below_blk k7.out bb)
              have hS' := hid (Below.up hS bb)
              clear bb
              refine hK.out _ _ hS'.out (fun hS => ?_)
              clear hK K hS'
              generalize y5.alloc (.cells #[.int .i64 0, .int .i64 0, .int .u64 0, .slice none 0 0, .slice none 0 0] 26) = y6 at *
              generalize y5.heap.size = g6 at *
              have k6 := hid h0
              clear h0
              refine wpAnyH_ready (rs := [8]) (by kernel_rfl) (by simp) ?_
              refine AllReadyH.cons rfl (fun K hK => ?_) ?_
              · have q0 := cell_of k6.out 0 (.int .i64 0) rfl
                have f0 := fz_of k6.out 0
                have q1 := cell_of k6.out 1 (.int .i64 0) rfl
                have f1 := fz_of k6.out 1
                have q2 := cell_of k6.out 2 (.int .u64 0) rfl
                have f2 := fz_of k6.out 2
                have q3 := cell_of k6.out 3 (.slice none 0 0) rfl
                have f3 := fz_of k6.out 3
                have q4 := cell_of k6.out 4 (.slice none 0 0) rfl
                have f4 := fz_of k6.out 4
                have P5 := put5 k6.out (.int .i64 E.log) (.int .i64 E.nx) (.int .u64 E.sq) (.slice a2 E.go.length c2) (.slice b2 E.co.length d2)
                have hS' : Hid (Below w1.heap.size w1 (((((y6.setCell ⟨g6, 0, none⟩ (.int .i64 E.log)).setCell ⟨g6, 1, none⟩ (.int .i64 E.nx)).setCell ⟨g6, 2, none⟩ (.int .u64 E.sq)).setCell ⟨g6, 3, none⟩ (.slice a2 E.go.length c2)).setCell ⟨g6, 4, none⟩ (.slice b2 E.co.length d2))) := ((Fp.of (P := fun j => w1.heap.size ≤ j) hS).tr (P5.2.wide (fun j _ h => .inl (by show w1.heap.size ≤ j; have := hb6.out; omega)))).base (Nat.le_refl _) (fun _ h => h)
                have EN2 := hid (EO2.out.fp P5.2 (fun j hj e => EO_ne EO2.out k6.out j hj e))
                have EN5 := hid (EO5.out.fp P5.2 (fun j hj e => EO_ne EO5.out k6.out j hj e))
                have kn7 := hid ((P5.2.block g7 (blk_lt k7.out) (fun e => by have := ne7_6.out; omega)).trans k7.out)
                have kn6 := hid P5.1
                clear P5
                go_simp
                refine hK.out _ _ hS'.out (fun hS => ?_)
                clear hK K hS' q0 q1 q2 q3 q4 f0 f1 f2 f3 f4
                generalize (((((y6.setCell ⟨g6, 0, none⟩ (.int .i64 E.log)).setCell ⟨g6, 1, none⟩ (.int .i64 E.nx)).setCell ⟨g6, 2, none⟩ (.int .u64 E.sq)).setCell ⟨g6, 3, none⟩ (.slice a2 E.go.length c2)).setCell ⟨g6, 4, none⟩ (.slice b2 E.co.length d2)) = y8 at *
                clear EO2
                have EO2 := EN2
                clear EN2
                clear EO5
                have EO5 := EN5
                clear EN5
                clear k7
                have k7 := kn7
                clear kn7
                clear k6
                have k6 := kn6
                clear kn6
                refine wpAnyH_ready (rs := [9]) (by kernel_rfl) (by simp) ?_
                refine AllReadyH.cons rfl (fun K hK => ?_) ?_
                · have q0 := cell_of k7.out 0 (.int .i64 0) rfl
                  have f0 := fz_of k7.out 0
                  have q1 := cell_of k7.out 1 (.int .i64 0) rfl
                  have f1 := fz_of k7.out 1
                  have q2 := cell_of k7.out 2 (.int .u64 0) rfl
                  have f2 := fz_of k7.out 2
                  have q3 := cell_of k7.out 3 (.slice none 0 0) rfl
                  have f3 := fz_of k7.out 3
                  have q4 := cell_of k7.out 4 (.slice none 0 0) rfl
                  have f4 := fz_of k7.out 4
                  have P5 := put5 k7.out (.int .i64 E.log) (.int .i64 E.nx) (.int .u64 E.sq) (.slice a5 E.go.length c5) (.slice b5 E.co.length d5)
                  have hS' : Hid (Below w1.heap.size w1 (((((y8.setCell ⟨g7, 0, none⟩ (.int .i64 E.log)).setCell ⟨g7, 1, none⟩ (.int .i64 E.nx)).setCell ⟨g7, 2, none⟩ (.int .u64 E.sq)).setCell ⟨g7, 3, none⟩ (.slice a5 E.go.length c5)).setCell ⟨g7, 4, none⟩ (.slice b5 E.co.length d5))) := ((Fp.of (P := fun j => w1.heap.size ≤ j) hS).tr (P5.2.wide (fun j _ h => .inl (by show w1.heap.size ≤ j; have := hb7.out; omega)))).base (Nat.le_refl _) (fun _ h => h)
                  have EN2 := hid (EO2.out.fp P5.2 (fun j hj e => EO_ne EO2.out k7.out j hj e))
                  have EN5 := hid (EO5.out.fp P5.2 (fun j hj e => EO_ne EO5.out k7.out j hj e))
                  have kn6 := hid ((P5.2.block g6 (blk_lt k6.out) (fun e => by have := ne7_6.out; omega)).trans k6.out)
                  have kn7 := hid P5.1
                  clear P5
                  go_simp
                  refine hK.out _ _ hS'.out (fun hS => ?_)
                  clear hK K hS' q0 q1 q2 q3 q4 f0 f1 f2 f3 f4
                  generalize (((((y8.setCell ⟨g7, 0, none⟩ (.int .i64 E.log)).setCell ⟨g7, 1, none⟩ (.int .i64 E.nx)).setCell ⟨g7, 2, none⟩ (.int .u64 E.sq)).setCell ⟨g7, 3, none⟩ (.slice a5 E.go.length c5)).setCell ⟨g7, 4, none⟩ (.slice b5 E.co.length d5)) = y9 at *
                  clear EO2
                  have EO2 := EN2
                  clear EN2
                  clear EO5
                  have EO5 := EN5
                  clear EN5
                  clear k7
                  have k7 := kn7
                  clear kn7
                  clear k6
                  have k6 := kn6
                  clear kn6
                  refine wpAnyH_done (by kernel_rfl) ?_ _
                  go_wp2_with fail
                  go_meet
                  case rel => exact ⟨g6, g7, a2, c2, b2, d2, a5, c5, b5, d5, _, _, rfl, rfl, k6.out, k7.out, EO2.out, EO5.out, lo2.out, up2_5.out, hS⟩
                exact AllReadyH.nil
              exact AllReadyH.nil
            exact AllReadyH.nil
          refine AllReadyH.cons rfl (fun K hK => ?_) ?_
          · go_simp
            have h0 : (y2.alloc (.cells #[.int .i64 0, .int .i64 0, .int .u64 0, .slice none 0 0, .slice none 0 0] 26)).heap[y2.heap.size]? = some (.cells #[.int .i64 0, .int .i64 0, .int .u64 0, .slice none 0 0, .slice none 0 0] 26) := new_at _ _
            have hb6 : Hid (w1.heap.size ≤ y2.heap.size) := hS.size
            have bb := box_below y2 (.cells #[.int .i64 0, .int .i64 0, .int .u64 0, .slice none 0 0, .slice none 0 0] 26)
            replace EO2 := hid (EO2.out.later bb)
            have ne7_6 : Hid (g7 < y2.heap.size) := blk_lt k7.out
            replace k7 := hid (below_blk k7.out bb)
            have hS' := hid (Below.up hS bb)
            clear bb
            refine hK.out _ _ hS'.out (fun hS => ?_)
            clear hK K hS'
            generalize y2.alloc (.cells #[.int .i64 0, .int .i64 0, .int .u64 0, .slice none 0 0, .slice none 0 0] 26) = y6 at *
            generalize y2.heap.size = g6 at *
            have k6 := hid h0
            clear h0
            refine wpAnyH_ready (rs := [5]) (by kernel_rfl) (by simp) ?_
            refine AllReadyH.cons rfl (fun K hK => ?_) ?_
            · go_simp
              have lo5 : Hid (w1.heap.size ≤ y6.heap.size) := hS.size
              have up2_5 : Hid (∀ j, blks (ev E a2 c2 b2 d2) j → j < y6.heap.size) := fun j h => (EO2.out.lt j h).2
              go_wp2_with fail
              refine (C3.out y6 hS).mono ?_
              rintro e y5 ⟨v5, rfl, EO5, bb5⟩
              obtain ⟨a5, c5, b5, d5, he5⟩ := EO_shape EO5
              subst he5
              replace EO5 := hid EO5
              replace EO2 := hid (EO2.out.later bb5)
              replace k7 := hid (below_blk k7.out bb5)
              replace k6 := hid (below_blk k6.out bb5)
              have hS' := hid (Below.up hS bb5)
              clear bb5
              unfold ev at EO5
              unfold ev
              refine hK.out _ _ hS'.out (fun hS => ?_)
              clear hK K hS'
              refine wpAnyH_ready (rs := [8]) (by kernel_rfl) (by simp) ?_
              refine AllReadyH.cons rfl (fun K hK => ?_) ?_
              · have q0 := cell_of k6.out 0 (.int .i64 0) rfl
                have f0 := fz_of k6.out 0
                have q1 := cell_of k6.out 1 (.int .i64 0) rfl
                have f1 := fz_of k6.out 1
                have q2 := cell_of k6.out 2 (.int .u64 0) rfl
                have f2 := fz_of k6.out 2
                have q3 := cell_of k6.out 3 (.slice none 0 0) rfl
                have f3 := fz_of k6.out 3
                have q4 := cell_of k6.out 4 (.slice none 0 0) rfl
                have f4 := fz_of k6.out 4
                have P5 := put5 k6.out (.int .i64 E.log) (.int .i64 E.nx) (.int .u64 E.sq) (.slice a2 E.go.length c2) (.slice b2 E.co.length d2)
                have hS' : Hid (Below w1.heap.size w1 (((((y5.setCell ⟨g6, 0, none⟩ (.int .i64 E.log)).setCell ⟨g6, 1, none⟩ (.int .i64 E.nx)).setCell ⟨g6, 2, none⟩ (.int .u64 E.sq)).setCell ⟨g6, 3, none⟩ (.slice a2 E.go.length c2)).setCell ⟨g6, 4, none⟩ (.slice b2 E.co.length d2))) := ((Fp.of (P := fun j => w1.heap.size ≤ j) hS).tr (P5.2.wide (fun j _ h => .inl (by show w1.heap.size ≤ j; have := hb6.out; omega)))).base (Nat.le_refl _) (fun _ h => h)
                have EN2 := hid (EO2.out.fp P5.2 (fun j hj e => EO_ne EO2.out k6.out j hj e))
                have EN5 := hid (EO5.out.fp P5.2 (fun j hj e => EO_ne EO5.out k6.out j hj e))
                have kn7 := hid ((P5.2.block g7 (blk_lt k7.out) (fun e => by have := ne7_6.out; omega)).trans k7.out)
                have kn6 := hid P5.1
                clear P5
                go_simp
                refine hK.out _ _ hS'.out (fun hS => ?_)
                clear hK K hS' q0 q1 q2 q3 q4 f0 f1 f2 f3 f4
                generalize (((((y5.setCell ⟨g6, 0, none⟩ (.int .i64 E.log)).setCell ⟨g6, 1, none⟩ (.int .i64 E.nx)).setCell ⟨g6, 2, none⟩ (.int .u64 E.sq)).setCell ⟨g6, 3, none⟩ (.slice a2 E.go.length c2)).setCell ⟨g6, 4, none⟩ (.slice b2 E.co.length d2)) = y8 at *
                clear EO2
                have EO2 := EN2
                clear EN2
                clear EO5
                have EO5 := EN5
                clear EN5
                clear k7
                have k7 := kn7
                clear kn7
                clear k6
                have k6 := kn6
                clear kn6
                refine wpAnyH_ready (rs := [9]) (by kernel_rfl) (by simp) ?_
                refine AllReadyH.cons rfl (fun K hK => ?_) ?_
                · have q0 := cell_of k7.out 0 (.int .i64 0) rfl
                  have f0 := fz_of k7.out 0
                  have q1 := cell_of k7.out 1 (.int .i64 0) rfl
                  have f1 := fz_of k7.out 1
                  have q2 := cell_of k7.out 2 (.int .u64 0) rfl
                  have f2 := fz_of k7.out 2
                  have q3 := cell_of k7.out 3 (.slice none 0 0) rfl
                  have f3 := fz_of k7.out 3
                  have q4 := cell_of k7.out 4 (.slice none 0 0) rfl
                  have f4 := fz_of k7.out 4
                  have P5 := put5 k7.out (.int .i64 E.log) (.int .i64 E.nx) (.int .u64 E.sq) (.slice a5 E.go.length c5) (.slice b5 E.co.length d5)
                  have hS' : Hid (Below w1.heap.size w1 (((((y8.setCell ⟨g7, 0, none⟩ (.int .i64 E.log)).setCell ⟨g7, 1, none⟩ (.int .i64 E.nx)).setCell ⟨g7, 2, none⟩ (.int .u64 E.sq)).setCell ⟨g7, 3, none⟩ (.slice a5 E.go.length c5)).setCell ⟨g7, 4, none⟩ (.slice b5 E.co.length d5))) := ((Fp.of (P := fun j => w1.heap.size ≤ j) hS).tr (P5.2.wide (fun j _ h => .inl (by show w1.heap.size ≤ j; have := hb7.out; omega)))).base (Nat.le_refl _) (fun _ h => h)
                  have EN2 := hid (EO2.out.fp P5.2 (fun j hj e => EO_ne EO2.out k7.out j hj e))
                  have EN5 := hid (EO5.out.fp P5.2 (fun j hj e => EO_ne EO5.out k7.out j hj e))
                  have kn6 := hid ((P5.2.block g6 (blk_lt k6.out) (fun e => by have := ne7_6.out; omega)).trans k6.out)
                  have kn7 := hid P5.1
                  clear P5
                  go_simp
                  refine hK.out _ _ hS'.out (fun hS => ?_)
                  clear hK K hS' q0 q1 q2 q3 q4 f0 f1 f2 f3 f4
                  generalize (((((y8.setCell ⟨g7, 0, none⟩ (.int .i64 E.log)).setCell ⟨g7, 1, none⟩ (.int .i64 E.nx)).setCell ⟨g7, 2, none⟩ (.int .u64 E.sq)).setCell ⟨g7, 3, none⟩ (.slice a5 E.go.length c5)).setCell ⟨g7, 4, none⟩ (.slice b5 E.co.length d5)) = y9 at *
                  clear EO2
                  have EO2 := EN2
                  clear EN2
                  clear EO5
                  have EO5 := EN5
                  clear EN5
                  clear k7
                  have k7 := kn7
                  clear kn7
                  clear k6
                  have k6 := kn6
                  clear kn6
                  refine wpAnyH_done (by kernel_rfl) ?_ _
                  go_wp2_with fail
                  go_meet
                  case rel => exact ⟨g6, g7, a2, c2, b2, d2, a5, c5, b5, d5, _, _, rfl, rfl, k6.out, k7.out, EO2.out, EO5.out, lo2.out, up2_5.out, hS⟩
                exact AllReadyH.nil
              exact AllReadyH.nil
            exact AllReadyH.nil
          exact AllReadyH.nil
        refine AllReadyH.cons rfl (fun K hK => ?_) ?_
        · go_simp
          have h0 : (y7.alloc (.cells #[.int .i64 0, .int .i64 0, .int .u64 0, .slice none 0 0, .slice none 0 0] 26)).heap[y7.heap.size]? = some (.cells #[.int .i64 0, .int .i64 0, .int .u64 0, .slice none 0 0, .slice none 0 0] 26) := new_at _ _
          have hb6 : Hid (w1.heap.size ≤ y7.heap.size) := hS.size
          have bb := box_below y7 (.cells #[.int .i64 0, .int .i64 0, .int .u64 0, .slice none 0 0, .slice none 0 0] 26)
          have ne7_6 : Hid (g7 < y7.heap.size) := blk_lt k7.out
          replace k7 := hid (below_blk k7.out bb)
          have hS' := hid (Below.up hS bb)
          clear bb
          refine hK.out _ _ hS'.out (fun hS => ?_)
          clear hK K hS'
          generalize y7.alloc (.cells #[.int .i64 0, .int .i64 0, .int .u64 0, .slice none 0 0, .slice none 0 0] 26) = y6 at *
          generalize y7.heap.size = g6 at *
          have k6 := hid h0
          clear h0
          refine wpAnyH_ready (rs := [2]) (by kernel_rfl) (by simp) ?_
          refine AllReadyH.cons rfl (fun K hK => ?_) ?_
          · go_simp
            have lo2 : Hid (w1.heap.size ≤ y6.heap.size) := hS.size
            go_wp2_with fail
            refine (C3.out y6 hS).mono ?_
            rintro e y2 ⟨v2, rfl, EO2, bb2⟩
            obtain ⟨a2, c2, b2, d2, he2⟩ := EO_shape EO2
            subst he2
            replace EO2 := hid EO2
            replace k7 := hid (below_blk k7.out bb2)
            replace k6 := hid (below_blk k6.out bb2)
            have hS' := hid (Below.up hS bb2)
            clear bb2
            unfold ev at EO2
            unfold ev
            refine hK.out _ _ hS'.out (fun hS => ?_)
            clear hK K hS'
            refine wpAnyH_ready (rs := [5]) (by kernel_rfl) (by simp) ?_
            refine AllReadyH.cons rfl (fun K hK => ?_) ?_
            · go_simp
              have lo5 : Hid (w1.heap.size ≤ y2.heap.size) := hS.size
              have up2_5 : Hid (∀ j, blks (ev E a2 c2 b2 d2) j → j < y2.heap.size) := fun j h => (EO2.out.lt j h).2
              go_wp2_with fail
              refine (C3.out y2 hS).mono ?_
              rintro e y5 ⟨v5, rfl, EO5, bb5⟩
              obtain ⟨a5, c5, b5, d5, he5⟩ := EO_shape EO5
              subst he5
              replace EO5 := hid EO5
              replace EO2 := hid (EO2.out.later bb5)
              replace k7 := hid (below_blk k7.out bb5)
              replace k6 := hid (below_blk k6.out bb5)
              have hS' := hid (Below.up hS bb5)
              clear bb5
              unfold ev at EO5
              unfold ev
              refine hK.out _ _ hS'.out (fun hS => ?_)
              clear hK K hS'
              refine wpAnyH_ready (rs := [8]) (by kernel_rfl) (by simp) ?_
              refine AllReadyH.cons rfl (fun K hK => ?_) ?_
              · have q0 := cell_of k6.out 0 (.int .i64 0) rfl
                have f0 := fz_of k6.out 0
                have q1 := cell_of k6.out 1 (.int .i64 0) rfl
                have f1 := fz_of k6.out 1
                have q2 := cell_of k6.out 2 (.int .u64 0) rfl
                have f2 := fz_of k6.out 2
                have q3 := cell_of k6.out 3 (.slice none 0 0) rfl
                have f3 := fz_of k6.out 3
                have q4 := cell_of k6.out 4 (.slice none 0 0) rfl
                have f4 := fz_of k6.out 4
                have P5 := put5 k6.out (.int .i64 E.log) (.int .i64 E.nx) (.int .u64 E.sq) (.slice a2 E.go.length c2) (.slice b2 E.co.length d2)
                have hS' : Hid (Below w1.heap.size w1 (((((y5.setCell ⟨g6, 0, none⟩ (.int .i64 E.log)).setCell ⟨g6, 1, none⟩ (.int .i64 E.nx)).setCell ⟨g6, 2, none⟩ (.int .u64 E.sq)).setCell ⟨g6, 3, none⟩ (.slice a2 E.go.length c2)).setCell ⟨g6, 4, none⟩ (.slice b2 E.co.length d2))) := ((Fp.of (P := fun j => w1.heap.size ≤ j) hS).tr (P5.2.wide (fun j _ h => .inl (by show w1.heap.size ≤ j; have := hb6.out; omega)))).base (Nat.le_refl _) (fun _ h => h)
                have EN2 := hid (EO2.out.fp P5.2 (fun j hj e => EO_ne EO2.out k6.out j hj e))
                have EN5 := hid (EO5.out.fp P5.2 (fun j hj e => EO_ne EO5.out k6.out j hj e))
                have kn7 := hid ((P5.2.block g7 (blk_lt k7.out) (fun e => by have := ne7_6.out; omega)).trans k7.out)
                have kn6 := hid P5.1
                clear P5
                go_simp
                refine hK.out _ _ hS'.out (fun hS => ?_)
                clear hK K hS' q0 q1 q2 q3 q4 f0 f1 f2 f3 f4
                generalize (((((y5.setCell ⟨g6, 0, none⟩ (.int .i64 E.log)).setCell ⟨g6, 1, none⟩ (.int .i64 E.nx)).setCell ⟨g6, 2, none⟩ (.int .u64 E.sq)).setCell ⟨g6, 3, none⟩ (.slice a2 E.go.length c2)).setCell ⟨g6, 4, none⟩ (.slice b2 E.co.length d2)) = y8 at *
                clear EO2
                have EO2 := EN2
                clear EN2
                clear EO5
                have EO5 := EN5
                clear EN5
                clear k7
                have k7 := kn7
                clear kn7
                clear k6
                have k6 := kn6
                clear kn6
                refine wpAnyH_ready (rs := [9]) (by kernel_rfl) (by simp) ?_
                refine AllReadyH.cons rfl (fun K hK => ?_) ?_
                · have q0 := cell_of k7.out 0 (.int .i64 0) rfl
                  have f0 := fz_of k7.out 0
                  have q1 := cell_of k7.out 1 (.int .i64 0) rfl
                  have f1 := fz_of k7.out 1
                  have q2 := cell_of k7.out 2 (.int .u64 0) rfl
                  have f2 := fz_of k7.out 2
                  have q3 := cell_of k7.out 3 (.slice none 0 0) rfl
                  have f3 := fz_of k7.out 3
                  have q4 := cell_of k7.out 4 (.slice none 0 0) rfl
                  have f4 := fz_of k7.out 4
                  have P5 := put5 k7.out (.int .i64 E.log) (.int .i64 E.nx) (.int .u64 E.sq) (.slice a5 E.go.length c5) (.slice b5 E.co.length d5)
                  have hS' : Hid (Below w1.heap.size w1 (((((y8.setCell ⟨g7, 0, none⟩ (.int .i64 E.log)).setCell ⟨g7, 1, none⟩ (.int .i64 E.nx)).setCell ⟨g7, 2, none⟩ (.int .u64 E.sq)).setCell ⟨g7, 3, none⟩ (.slice a5 E.go.length c5)).setCell ⟨g7, 4, none⟩ (.slice b5 E.co.length d5))) := ((Fp.of (P := fun j => w1.heap.size ≤ j) hS).tr (P5.2.wide (fun j _ h => .inl (by show w1.heap.size ≤ j; have := hb7.out; omega)))).base (Nat.le_refl _) (fun _ h => h)
                  have EN2 := hid (EO2.out.fp P5.2 (fun j hj e => EO_ne EO2.out k7.out j hj e))
                  have EN5 := hid (EO5.out.fp P5.2 (fun j hj e => EO_ne EO5.out k7.out j hj e))
                  have kn6 := hid ((P5.2.block g6 (blk_lt k6.out) (fun e => by have := ne7_6.out; omega)).trans k6.out)
                  have kn7 := hid P5.1
                  clear P5
                  go_simp
                  refine hK.out _ _ hS'.out (fun hS => ?_)
                  clear hK K hS' q0 q1 q2 q3 q4 f0 f1 f2 f3 f4
                  generalize (((((y8.setCell ⟨g7, 0, none⟩ (.int .i64 E.log)).setCell ⟨g7, 1, none⟩ (.int .i64 E.nx)).setCell ⟨g7, 2, none⟩ (.int .u64 E.sq)).setCell ⟨g7, 3, none⟩ (.slice a5 E.go.length c5)).setCell ⟨g7, 4, none⟩ (.slice b5 E.co.length d5)) = y9 at *
                  clear EO2
                  have EO2 := EN2
                  clear EN2
                  clear EO5
                  have EO5 := EN5
                  clear EN5
                  clear k7
                  have k7 := kn7
                  clear kn7
                  clear k6
                  have k6 := kn6
                  clear kn6
                  refine wpAnyH_done (by kernel_rfl) ?_ _
                  go_wp2_with fail
                  go_meet
                  case rel => exact ⟨g6, g7, a2, c2, b2, d2, a5, c5, b5, d5, _, _, rfl, rfl, k6.out, k7.out, EO2.out, EO5.out, lo2.out, up2_5.out, hS⟩
                exact AllReadyH.nil
              exact AllReadyH.nil
            exact AllReadyH.nil
          exact AllReadyH.nil
        exact AllReadyH.nil
      exact AllReadyH.nil
    case rest =>
      obtain ⟨g7, g8, a7, c7, b7, d7, a8, c8, b8, d8, u7_, u8_, rfl, rfl, k7, k8, O7, O8, hu7, hu8, B2⟩ := hcut
      obtain ⟨w2, hw2⟩ : ∃ W, W = wc := ⟨_, rfl⟩
      rw [← hw2] at k7 k8 O7 O8 B2 ⊢
      clear hw2 wc
      have BW2 := hid (Below.up BW1.out B2)
      have Q1 := hid (below_blk P1.out B2)
      have Q2 := hid (below_blk P2.out B2)
      have Q5 := hid (below_blk L5.out B2)
      have Q6 := hid (below_blk L6.out B2)
      have hx5 : Hid (∀ j, blks (ev x a5 c5 b5 d5) j → j < w1.heap.size) := fun j h => (O5.out.lt j h).2
      have hx6 : Hid (∀ j, blks (ev y a6 c6 b6 d6) j → j < w1.heap.size) := fun j h => (O6.out.lt j h).2
      have O52 := hid (O5.out.later B2)
      have O62 := hid (O6.out.later B2)
      have hlo7 : Hid (∀ j, blks (ev E a7 c7 b7 d7) j → w1.heap.size ≤ j) := fun j h => Nat.le_trans hu7 (O7.lt j h).1
      have hlt7 : Hid (∀ j, blks (ev E a7 c7 b7 d7) j → j < w2.heap.size) := fun j h => (O7.lt j h).2
      have hlo8 : Hid (∀ j, blks (ev E a8 c8 b8 d8) j → u8_ ≤ j) := fun j h => (O8.lt j h).1
      have HR := hid (HRm.out w2 BW2.out)
      have xs0 := Q1.out
      have xs1 := Q2.out
      have x10 := cell_of xs0 0 _ rfl
      have x20 := cell_of xs1 0 _ rfl
      have x11 := cell_of xs0 1 _ rfl
      have x21 := cell_of xs1 1 _ rfl
      have x12 := cell_of xs0 2 _ rfl
      have x22 := cell_of xs1 2 _ rfl
      have x13 := cell_of xs0 3 _ rfl
      have x23 := cell_of xs1 3 _ rfl
      have x14 := cell_of xs0 4 _ rfl
      have x24 := cell_of xs1 4 _ rfl
      replace k7 := hid k7
      replace k8 := hid k8
      replace O7 := hid O7
      replace O8 := hid O8
      replace hu7 := hid hu7
      replace hu8 := hid hu8
      clear xs0 xs1 B2 P1 P2 L5 L6 O5 O6 C3 HRm
      unfold ev at HR
      go_wp2_with fail
      refine HR.out.mono ?_
      rintro e w3 ⟨v9, rfl, O9, b3⟩
      obtain ⟨a9, c9, b9, d9, he9⟩ := EO_shape O9
      subst he9
      have hlo9 : Hid (∀ j, blks (ev E a9 c9 b9 d9) j → w2.heap.size ≤ j) := fun j h => (O9.lt j h).1
      have m7 := below_blk k7.out b3
      have y70 := cell_of m7 0 _ rfl
      have y71 := cell_of m7 1 _ rfl
      have y72 := cell_of m7 2 _ rfl
      have y73 := cell_of m7 3 _ rfl
      have y74 := cell_of m7 4 _ rfl
      have l7 : g7 < w3.heap.size := blk_lt m7
      obtain ⟨w4, hw4⟩ : ∃ W, W = w3.alloc (.cells #[.int .i64 E.log, .int .i64 E.nx, .int .u64 E.sq, .slice a9 E.go.length c9, .slice b9 E.co.length d9] 26) := ⟨_, rfl⟩
      have bb4 : Below w3.heap.size w3 w4 := by rw [hw4]; exact box_below _ _
      have k9 : w4.heap[w3.heap.size]? = some (.cells #[.int .i64 E.log, .int .i64 E.nx, .int .u64 E.sq, .slice a9 E.go.length c9, .slice b9 E.co.length d9] 26) := by rw [hw4]; exact new_at _ _
      have B24 := Below.up b3 bb4
      have O74 := hid (O7.out.later B24)
      have O84 := hid (O8.out.later B24)
      have O94 := hid (O9.later bb4)
      have O54 := hid (O52.out.later B24)
      have O64 := hid (O62.out.later B24)
      have k74 := hid (below_blk k7.out B24)
      have k84 := hid (below_blk k8.out B24)
      have Q14 := hid (below_blk Q1.out B24)
      have Q24 := hid (below_blk Q2.out B24)
      have Q54 := hid (below_blk Q5.out B24)
      have Q64 := hid (below_blk Q6.out B24)
      have BW4 := hid (Below.up BW2.out B24)
      have HS := hid (same_any _ _ E w4 O74.out.ev O94.out.ev)
      replace k9 := hid k9
      replace hw4 := hid hw4
      replace O9 := hid O9
      clear m7 b3 bb4 B24 x10 x11 x12 x13 x14 x20 x21 x22 x23 x24 HR
      unfold ev
      unfold ev at HS
      go_wp2_with fail
      rw [← hw4.out]
      refine HS.out.mono ?_
      rintro e w5 ⟨rfl, b5'⟩
      have m7 := below_blk k74.out b5'
      have z70 := cell_of m7 0 _ rfl
      have z71 := cell_of m7 1 _ rfl
      have z72 := cell_of m7 2 _ rfl
      have z73 := cell_of m7 3 _ rfl
      have z74 := cell_of m7 4 _ rfl
      have O75 := O74.out.later b5'
      have HSp := hid (spoil_any _ E _ w5 O75)
      have k85 := hid (below_blk k84.out b5')
      have k95 := hid (below_blk k9.out b5')
      have Q15 := hid (below_blk Q14.out b5')
      have Q25 := hid (below_blk Q24.out b5')
      have Q55 := hid (below_blk Q54.out b5')
      have Q65 := hid (below_blk Q64.out b5')
      have O85 := hid (O84.out.later b5')
      have O95 := hid (O94.out.later b5')
      have O55 := hid (O54.out.later b5')
      have O65 := hid (O64.out.later b5')
      have BW5 := hid (Below.up BW4.out b5')
      replace O75 := hid O75
      unfold ev at HSp
      clear m7 b5' y70 y71 y72 y73 y74 l7
      go_wp2_with fail
      refine HSp.out.mono ?_
      rintro e w6 ⟨⟨_, rfl⟩, F6⟩
      have ne8 := EO_ne O75.out k85.out
      have ne9 := EO_ne O75.out k95.out
      have ne1 := EO_ne O75.out Q15.out
      have ne2 := EO_ne O75.out Q25.out
      have ne5 := EO_ne O75.out Q55.out
      have ne6 := EO_ne O75.out Q65.out
      have k86 := (F6.block g8 (blk_lt k85.out) (fun h => ne8 _ h rfl)).trans k85.out
      have k96 := (F6.block w3.heap.size (blk_lt k95.out) (fun h => ne9 _ h rfl)).trans k95.out
      have Q16 := (F6.block g2 (blk_lt Q15.out) (fun h => ne1 _ h rfl)).trans Q15.out
      have Q26 := (F6.block g3 (blk_lt Q25.out) (fun h => ne2 _ h rfl)).trans Q25.out
      have Q56 := (F6.block g5 (blk_lt Q55.out) (fun h => ne5 _ h rfl)).trans Q55.out
      have Q66 := (F6.block g6 (blk_lt Q65.out) (fun h => ne6 _ h rfl)).trans Q65.out
      have O86 := O85.out.fp F6 (fun j h h' => by have h1 := hlo8.out j h; have h2 := hu8.out j h'; omega)
      have O96 := O95.out.fp F6 (fun j h h' => by have h1 := hlo9.out j h; have h2 := hlt7.out j h'; omega)
      have O56 := O55.out.fp F6 (fun j h h' => by have h1 := hx5.out j h; have h2 := hlo7.out j h'; omega)
      have O66 := O65.out.fp F6 (fun j h h' => by have h1 := hx6.out j h; have h2 := hlo7.out j h'; omega)
      have hw01 : w.heap.size ≤ w1.heap.size := BW1.out.size
      have BW6 : Below w.heap.size w w6 := ((Fp.of (P := fun j => w.heap.size ≤ j) BW5.out).tr (F6.wide (fun j _ h => .inl (by show w.heap.size ≤ j; have := hlo7.out j h; omega)))).base (Nat.le_refl _) (fun _ h => h)
      have HS1 := hid (same_any _ _ E w6 O86.ev O96.ev)
      have V5 := hid O56.ev
      have V6 := hid O66.ev
      have V1 := hid (HX.out w6 BW6)
      have V2 := hid (HY.out w6 BW6)
      have p80 := cell_of k86 0 _ rfl
      have p90 := cell_of k96 0 _ rfl
      have p81 := cell_of k86 1 _ rfl
      have p91 := cell_of k96 1 _ rfl
      have p82 := cell_of k86 2 _ rfl
      have p92 := cell_of k96 2 _ rfl
      have p83 := cell_of k86 3 _ rfl
      have p93 := cell_of k96 3 _ rfl
      have p84 := cell_of k86 4 _ rfl
      have p94 := cell_of k96 4 _ rfl
      replace Q16 := hid Q16
      replace Q26 := hid Q26
      replace Q56 := hid Q56
      replace Q66 := hid Q66
      replace BW6 := hid BW6
      clear F6 ne8 ne9 ne1 ne2 ne5 ne6 k86 k96 O86 O96 O56 O66 hw01 z70 z71 z72 z73 z74
      unfold ev at HS1
      go_wp2_with fail
      refine HS1.out.mono ?_
      rintro e w7 ⟨rfl, b7'⟩
      have R5 := below_blk Q56.out b7'
      have R1 := below_blk Q16.out b7'
      have r50 := cell_of R5 0 _ rfl
      have r10 := cell_of R1 0 _ rfl
      have r51 := cell_of R5 1 _ rfl
      have r11 := cell_of R1 1 _ rfl
      have r52 := cell_of R5 2 _ rfl
      have r12 := cell_of R1 2 _ rfl
      have r53 := cell_of R5 3 _ rfl
      have r13 := cell_of R1 3 _ rfl
      have r54 := cell_of R5 4 _ rfl
      have r14 := cell_of R1 4 _ rfl
      have R6 := hid (below_blk Q66.out b7')
      have R2 := hid (below_blk Q26.out b7')
      have HS2 := hid (same_any _ _ x w7 (V5.out.later b7') (V1.out.later b7'))
      have V67 := hid (V6.out.later b7')
      have V27 := hid (V2.out.later b7')
      have BW7 := hid (Below.up BW6.out b7')
      clear b7' R5 R1 p80 p81 p82 p83 p84 p90 p91 p92 p93 p94
      unfold ev at HS2
      go_wp2_with fail
      refine HS2.out.mono ?_
      rintro e w8 ⟨rfl, b8'⟩
      have T6 := below_blk R6.out b8'
      have T2 := below_blk R2.out b8'
      have t60 := cell_of T6 0 _ rfl
      have t20 := cell_of T2 0 _ rfl
      have t61 := cell_of T6 1 _ rfl
      have t21 := cell_of T2 1 _ rfl
      have t62 := cell_of T6 2 _ rfl
      have t22 := cell_of T2 2 _ rfl
      have t63 := cell_of T6 3 _ rfl
      have t23 := cell_of T2 3 _ rfl
      have t64 := cell_of T6 4 _ rfl
      have t24 := cell_of T2 4 _ rfl
      have HS3 := hid (same_any _ _ y w8 (V67.out.later b8') (V27.out.later b8'))
      have BW8 := hid (Below.up BW7.out b8')
      clear b8' T6 T2 r50 r51 r52 r53 r54 r10 r11 r12 r13 r14
      unfold ev at HS3
      go_wp2_with fail
      refine HS3.out.mono ?_
      rintro e w9 ⟨rfl, b9'⟩
      have BF := hid (Below.up BW8.out b9')
      clear b9' t60 t61 t62 t63 t64 t20 t21 t22 t23 t24
      go_wp2_with fail
      go_ret
      exact ⟨rfl, by first | exact BF.out | (rw [hg2.out]; exact BF.out)⟩
end Go.Proofs.Ytnpeocoipodmfaa.Em

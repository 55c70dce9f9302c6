/- EditThree walked. -/
import Derived.Test.YtnpeocoipodmfaaEs
import Derived.Deep.Cut
import Derived.Deep.CutRange
namespace Go.Proofs.Ytnpeocoipodmfaa.Et
open Go.ChangeShapes Go.WideShapes Go.ChangeAt Go.RowKit
open Go.Proofs.Ytnpeocoipodmfaa.Gr
open Go.Proofs.Ytnpeocoipodmfaa.Ev
open Go.Proofs.Ytnpeocoipodmfaa.Ss
open Go.Proofs.Ytnpeocoipodmfaa.Le
open Go.Proofs.Ytnpeocoipodmfaa.Mg
open Go.Proofs.Ytnpeocoipodmfaa.Mh
open Go.Proofs.Ytnpeocoipodmfaa.Ap
open Go.Proofs.Ytnpeocoipodmfaa.Th
open Go.Proofs.Ytnpeocoipodmfaa.Es
set_option linter.unusedVariables false
set_option linter.unusedSimpArgs false

theorem row3 {W : World} {g : Nat} {t : TypeId} (h1 h2 h3 : Hd) (k : W.heap[g]? = some (.cells (eEd.cs h1 ++ (eEd.cs h2 ++ eEd.cs h3)).toArray t)) : eEd.Sl W (some ⟨g, 0, none⟩) 3 3 [h1, h2, h3] := by
  refine ⟨rfl, Nat.le_refl _, (fun e => by cases e), fun _ _ => trivial, fun b o p hp _ => ?_⟩
  simp at hp; obtain ⟨rfl, rfl, rfl⟩ := hp
  refine ⟨rfl, fun i hi j u hu => ?_⟩
  have hj : j < 5 := (List.getElem?_eq_some_iff.1 hu).1
  refine cell_of k _ _ ?_
  simp only [List.getElem?_toArray, Nat.zero_add]
  match i, hi with
  | 0, _ =>
    have hu' : (eEd.cs h1)[j]? = some u := hu
    rw [show 0 * eEd.k + j = j by simp, List.getElem?_append_left (by rw [eEd.len]; exact hj)]
    exact hu'
  | 1, _ =>
    have hu' : (eEd.cs h2)[j]? = some u := hu
    rw [show 1 * eEd.k + j = 5 + j from rfl, List.getElem?_append_right (by rw [eEd.len]; show 5 ≤ _; omega), show 5 + j - (eEd.cs h1).length = j by rw [eEd.len]; show 5 + j - 5 = j; omega, List.getElem?_append_left (by rw [eEd.len]; exact hj)]
    exact hu'
  | 2, _ =>
    have hu' : (eEd.cs h3)[j]? = some u := hu
    rw [show 2 * eEd.k + j = 10 + j from rfl, List.getElem?_append_right (by rw [eEd.len]; show 5 ≤ _; omega), show 10 + j - (eEd.cs h1).length = 5 + j by rw [eEd.len]; show 10 + j - 5 = 5 + j; omega, List.getElem?_append_right (by rw [eEd.len]; show 5 ≤ _; omega), show 5 + j - (eEd.cs h2).length = j by rw [eEd.len]; show 5 + j - 5 = j; omega]
    exact hu'
set_option maxHeartbeats 4000000 in
set_option maxRecDepth 100000 in
theorem three_any (va vb vc : Value) (x y z : Ed) (w : World) (HA : EV w va x) (HB : EV w vb y) (HC : EV w vc z) (hl : x.go.length + y.go.length + z.go.length ≤ 1099511627776) (hl' : x.co.length + y.co.length + z.co.length ≤ 1099511627776) :
    Calls Try.prog 7 #[va, vb, vc] w fun e w' => e = .returned (.bool true) ∧ Below w.heap.size w w' := by
  have HA0 := HA
  have HB0 := HB
  have HC0 := HC
  obtain ⟨hokx, xa, xc, xb, xd, rfl, A1, A2⟩ := HA
  obtain ⟨hoky, ya, yc, yb, yd, rfl, B1, B2⟩ := HB
  obtain ⟨hokz, za, zc, zb, zd, rfl, D1, D2⟩ := HC
  obtain ⟨ga, hga⟩ : ∃ m, w.heap.size = m := ⟨_, rfl⟩
  obtain ⟨gb, hgb⟩ : ∃ m, ga + 1 = m := ⟨_, rfl⟩
  obtain ⟨gc, hgc⟩ : ∃ m, gb + 1 = m := ⟨_, rfl⟩
  obtain ⟨gd, hgd⟩ : ∃ m, gc + 1 = m := ⟨_, rfl⟩
  obtain ⟨W3, hW3, K1, K2, K3, LO, hs3⟩ := boxes3e w #[.int .i64 x.log, .int .i64 x.nx, .int .u64 x.sq, .slice xa x.go.length xc, .slice xb x.co.length xd] #[.int .i64 y.log, .int .i64 y.nx, .int .u64 y.sq, .slice ya y.go.length yc, .slice yb y.co.length yd] #[.int .i64 z.log, .int .i64 z.nx, .int .u64 z.sq, .slice za z.go.length zc, .slice zb z.co.length zd] ga gb gc gd hga hgb hgc hgd
  have HX : Hid (∀ W, Below W3.heap.size W3 W → EV W (ev x xa xc xb xd) x) := fun W b => (HA0.later LO).later b
  have HY : Hid (∀ W, Below W3.heap.size W3 W → EV W (ev y ya yc yb yd) y) := fun W b => (HB0.later LO).later b
  have HZ : Hid (∀ W, Below W3.heap.size W3 W → EV W (ev z za zc zb zd) z) := fun W b => (HC0.later LO).later b
  obtain ⟨E1, hE1⟩ : ∃ E, E = mrg x y := ⟨_, rfl⟩
  obtain ⟨E2, hE2⟩ : ∃ E, E = mrg E1 z := ⟨_, rfl⟩
  obtain ⟨E3, hE3⟩ : ∃ E, E = mrg y z := ⟨_, rfl⟩
  obtain ⟨E4, hE4⟩ : ∃ E, E = mrg x E3 := ⟨_, rfl⟩
  have m1 := mrg_len x y
  have m3 := mrg_len y z
  rw [← hE1] at m1
  rw [← hE3] at m3
  have C1 : Hid (∀ W, Below W3.heap.size W3 W → Calls Try.prog 18 #[ev x xa xc xb xd, ev y ya yc yb yd] W fun e w' => ∃ v', e = .returned v' ∧ EO w' W.heap.size v' E1 ∧ Below W.heap.size W w') := fun W b => by
    rw [hE1]; exact merge_any _ _ x y W (HX.out W b) (HY.out W b) (by omega) (by omega)
  have C2 : Hid (∀ W a c b d, Below W3.heap.size W3 W → EV W (ev E1 a c b d) E1 → Calls Try.prog 18 #[ev E1 a c b d, ev z za zc zb zd] W fun e w' => ∃ v', e = .returned v' ∧ EO w' W.heap.size v' E2 ∧ Below W.heap.size W w') := fun W a c b d bb h => by
    rw [hE2]; exact merge_any _ _ E1 z W h (HZ.out W bb) (by omega) (by omega)
  have C3 : Hid (∀ W, Below W3.heap.size W3 W → Calls Try.prog 18 #[ev y ya yc yb yd, ev z za zc zb zd] W fun e w' => ∃ v', e = .returned v' ∧ EO w' W.heap.size v' E3 ∧ Below W.heap.size W w') := fun W b => by
    rw [hE3]; exact merge_any _ _ y z W (HY.out W b) (HZ.out W b) (by omega) (by omega)
  have C4 : Hid (∀ W a c b d, Below W3.heap.size W3 W → EV W (ev E3 a c b d) E3 → Calls Try.prog 18 #[ev x xa xc xb xd, ev E3 a c b d] W fun e w' => ∃ v', e = .returned v' ∧ EO w' W.heap.size v' E4 ∧ Below W.heap.size W w') := fun W a c b d bb h => by
    rw [hE4]; exact merge_any _ _ x E3 W (HX.out W bb) h (by omega) (by omega)
  have C5 : Hid (∀ W, Calls Try.prog 18 #[.agg #[.int .i64 3, .int .i64 0, .int .u64 0, .slice none 0 0, .slice none 0 0], .agg #[.int .i64 0, .int .i64 4, .int .u64 0, .slice none 0 0, .slice none 0 0]] W fun e w' => ∃ a c b d, e = .returned (.agg #[.int .i64 3, .int .i64 4, .int .u64 0, .slice a 0 c, .slice b 0 d]) ∧ Below W.heap.size W w') := fun W => by
    refine (merge_any _ _ ⟨3, 0, 0, [], []⟩ ⟨0, 4, 0, [], []⟩ W ⟨⟨by unfold bd; decide, by unfold bd; decide, by unfold bu; decide, by decide, by decide⟩, none, 0, none, 0, rfl, El.Sl.none _ _, El.Sl.none _ _⟩ ⟨⟨by unfold bd; decide, by unfold bd; decide, by unfold bu; decide, by decide, by decide⟩, none, 0, none, 0, rfl, El.Sl.none _ _, El.Sl.none _ _⟩ (by decide) (by decide)).mono ?_
    rintro e w' ⟨v', rfl, h, b⟩
    obtain ⟨a, c, a', c', rfl⟩ := EO_shape h
    exact ⟨a, c, a', c', rfl, b⟩
  have HAp : Hid (∀ W g, Below W3.heap.size W3 W → W.heap[g]? = some (.cells #[.int .i64 x.log, .int .i64 x.nx, .int .u64 x.sq, .slice xa x.go.length xc, .slice xb x.co.length xd, .int .i64 y.log, .int .i64 y.nx, .int .u64 y.sq, .slice ya y.go.length yc, .slice yb y.co.length yd, .int .i64 z.log, .int .i64 z.nx, .int .u64 z.sq, .slice za z.go.length zc, .slice zb z.co.length zd] 26) → Calls Try.prog 22 #[.slice (some ⟨g, 0, none⟩) 3 3] W fun e w' => ∃ B : Bool, e = .returned (.bool B) ∧ (B = true → E2 = E4) ∧ Below W.heap.size W w') := fun W g bb hk => by
    refine (apart_any g 3 [⟨x.log, x.nx, x.sq, xa, x.go.length, xc, xb, x.co.length, xd⟩, ⟨y.log, y.nx, y.sq, ya, y.go.length, yc, yb, y.co.length, yd⟩, ⟨z.log, z.nx, z.sq, za, z.go.length, zc, zb, z.co.length, zd⟩] [x, y, z] W (row3 _ _ _ hk) rfl (by decide) ?_ ?_ ?_).mono ?_
    · have b1 := Below.up LO bb
      intro i hi
      match i, hi with
      | 0, _ => exact ⟨rfl, rfl, A1.later b1, A2.later b1⟩
      | 1, _ => exact ⟨rfl, rfl, B1.later b1, B2.later b1⟩
      | 2, _ => exact ⟨rfl, rfl, D1.later b1, D2.later b1⟩
    · show (x.go ++ (y.go ++ (z.go ++ []))).length ≤ _
      simp only [List.length_append, List.length_nil]; omega
    · show (x.co.map (fun a : Ad => a.f.n) ++ (y.co.map (fun a : Ad => a.f.n) ++ (z.co.map (fun a : Ad => a.f.n) ++ []))).length ≤ _
      simp only [List.length_append, List.length_nil, List.length_map]; omega
    · rintro e w' ⟨B, rfl, h, b⟩
      refine ⟨B, rfl, fun hB => ?_, b⟩
      obtain ⟨h1, h2⟩ := h hB
      rw [hE2, hE1, hE4, hE3]
      exact three x y z h1 h2
  replace hW3 := hid hW3
  replace hs3 := hid hs3
  replace K1 := hid K1
  replace K2 := hid K2
  replace K3 := hid K3
  replace LO := hid LO
  replace hga := hid hga
  replace hgb := hid hgb
  replace hgc := hid hgc
  replace hgd := hid hgd
  clear HA0 HB0 HC0 hokx hoky hokz A1 A2 B1 B2 D1 D2 hl hl' hE1 hE2 hE3 hE4 m1 m3
  unfold ev
  go_enter Try.func7, Try.ntmps7
  go_upto_region 1 with fail
  rw [← hW3.out, hga.out, hgb.out, hgc.out]
  go_cut [7] from 10 to 14 (fun s wx => ∃ g a c b d, s = .pointer (some ⟨g, 0, none⟩) ∧ wx.heap[g]? = some (.cells #[.int .i64 E2.log, .int .i64 E2.nx, .int .u64 E2.sq, .slice a E2.go.length c, .slice b E2.co.length d] 26) ∧ EV wx (ev E2 a c b d) E2 ∧ Below W3.heap.size W3 wx)
  case first =>
    refine wp_region_held_drew (S := fun W => Below W3.heap.size W3 W) (by kernel_rfl) (drew_below _) (fun hS => ?_)
    generalize World.drew W3 = D at *
    refine wpAnyH_take (i := 0) (v := ?v1) rfl (by kernel_rfl) (by kernel_rfl) (by kernel_rfl) (fun _ _ _ h => h) (Or.inl ⟨by rfl, ?h1⟩) hS ?_
    case h1 => (intro W hW; have cc0 := cell_of (below_blk K1.out hW) 0 _ rfl; have cc1 := cell_of (below_blk K1.out hW) 1 _ rfl; have cc2 := cell_of (below_blk K1.out hW) 2 _ rfl; have cc3 := cell_of (below_blk K1.out hW) 3 _ rfl; have cc4 := cell_of (below_blk K1.out hW) 4 _ rfl; go_simp; try (with_reducible rfl))
    go_simp
    refine wpAnyH_take (i := 1) (v := ?v2) rfl (by kernel_rfl) (by kernel_rfl) (by kernel_rfl) (fun _ _ _ h => h) (Or.inl ⟨by rfl, ?h2⟩) hS ?_
    case h2 => (intro W hW; have cc0 := cell_of (below_blk K2.out hW) 0 _ rfl; have cc1 := cell_of (below_blk K2.out hW) 1 _ rfl; have cc2 := cell_of (below_blk K2.out hW) 2 _ rfl; have cc3 := cell_of (below_blk K2.out hW) 3 _ rfl; have cc4 := cell_of (below_blk K2.out hW) 4 _ rfl; go_simp; try (with_reducible rfl))
    go_simp
    refine wpAnyH_take (i := 3) (v := ?v3) rfl (by kernel_rfl) (by kernel_rfl) (by kernel_rfl) (fun _ _ _ h => h) (Or.inl ⟨by rfl, ?h3⟩) hS ?_
    case h3 => (intro W hW; have cc0 := cell_of (below_blk K3.out hW) 0 _ rfl; have cc1 := cell_of (below_blk K3.out hW) 1 _ rfl; have cc2 := cell_of (below_blk K3.out hW) 2 _ rfl; have cc3 := cell_of (below_blk K3.out hW) 3 _ rfl; have cc4 := cell_of (below_blk K3.out hW) 4 _ rfl; go_simp; try (with_reducible rfl))
    go_simp
    refine wpAnyH_ready (rs := [2, 5]) (by kernel_rfl) (by simp) ?_
    refine AllReadyH.cons rfl (fun K hK => ?_) ?_
    · go_simp
      go_wp2_with fail
      refine (C1.out D hS).mono ?_
      rintro e y2 ⟨v2, rfl, EO2, bb2⟩
      obtain ⟨a2, c2, b2, d2, he2⟩ := EO_shape EO2
      subst he2
      replace EO2 := hid EO2
      have hS' := hid (Below.up hS bb2)
      clear bb2
      unfold ev at EO2
      unfold ev
      refine hK.out _ _ hS'.out (fun hS => ?_)
      clear hK K hS'
      refine wpAnyH_ready (rs := [4, 5]) (by kernel_rfl) (by simp) ?_
      refine AllReadyH.cons rfl (fun K hK => ?_) ?_
      · go_simp
        go_wp2_with fail
        refine (C2.out y2 _ _ _ _ hS EO2.out.ev).mono ?_
        rintro e y4 ⟨v4, rfl, EO4, bb4⟩
        obtain ⟨a4, c4, b4, d4, he4⟩ := EO_shape EO4
        subst he4
        replace EO4 := hid EO4
        replace EO2 := hid (EO2.out.later bb4)
        have hS' := hid (Below.up hS bb4)
        clear bb4
        unfold ev at EO4
        unfold ev
        refine hK.out _ _ hS'.out (fun hS => ?_)
        clear hK K hS'
        refine wpAnyH_ready (rs := [5]) (by kernel_rfl) (by simp) ?_
        refine AllReadyH.cons rfl (fun K hK => ?_) ?_
        · go_simp
          have h0 : (y4.alloc (.cells #[.int .i64 0, .int .i64 0, .int .u64 0, .slice none 0 0, .slice none 0 0] 26)).heap[y4.heap.size]? = some (.cells #[.int .i64 0, .int .i64 0, .int .u64 0, .slice none 0 0, .slice none 0 0] 26) := new_at _ _
          have hb5 : Hid (W3.heap.size ≤ y4.heap.size) := hS.size
          have bb := box_below y4 (.cells #[.int .i64 0, .int .i64 0, .int .u64 0, .slice none 0 0, .slice none 0 0] 26)
          replace EO2 := hid (EO2.out.later bb)
          replace EO4 := hid (EO4.out.later bb)
          have hS' := hid (Below.up hS bb)
          clear bb
          refine hK.out _ _ hS'.out (fun hS => ?_)
          clear hK K hS'
          generalize y4.alloc (.cells #[.int .i64 0, .int .i64 0, .int .u64 0, .slice none 0 0, .slice none 0 0] 26) = y5 at *
          generalize y4.heap.size = g5 at *
          have k5 := hid h0
          clear h0
          refine wpAnyH_ready (rs := [6]) (by kernel_rfl) (by simp) ?_
          refine AllReadyH.cons rfl (fun K hK => ?_) ?_
          · have q0 := cell_of k5.out 0 (.int .i64 0) rfl
            have f0 := fz_of k5.out 0
            have q1 := cell_of k5.out 1 (.int .i64 0) rfl
            have f1 := fz_of k5.out 1
            have q2 := cell_of k5.out 2 (.int .u64 0) rfl
            have f2 := fz_of k5.out 2
            have q3 := cell_of k5.out 3 (.slice none 0 0) rfl
            have f3 := fz_of k5.out 3
            have q4 := cell_of k5.out 4 (.slice none 0 0) rfl
            have f4 := fz_of k5.out 4
            have P5 := put5 k5.out (.int .i64 E2.log) (.int .i64 E2.nx) (.int .u64 E2.sq) (.slice a4 E2.go.length c4) (.slice b4 E2.co.length d4)
            have hS' : Hid (Below W3.heap.size W3 (((((y5.setCell ⟨g5, 0, none⟩ (.int .i64 E2.log)).setCell ⟨g5, 1, none⟩ (.int .i64 E2.nx)).setCell ⟨g5, 2, none⟩ (.int .u64 E2.sq)).setCell ⟨g5, 3, none⟩ (.slice a4 E2.go.length c4)).setCell ⟨g5, 4, none⟩ (.slice b4 E2.co.length d4))) := ((Fp.of (P := fun j => W3.heap.size ≤ j) hS).tr (P5.2.wide (fun j _ h => .inl (by show W3.heap.size ≤ j; have := hb5.out; omega)))).base (Nat.le_refl _) (fun _ h => h)
            have EN2 := hid (EO2.out.fp P5.2 (fun j hj e => EO_ne EO2.out k5.out j hj e))
            have EN4 := hid (EO4.out.fp P5.2 (fun j hj e => EO_ne EO4.out k5.out j hj e))
            have kn5 := hid P5.1
            clear P5
            go_simp
            refine hK.out _ _ hS'.out (fun hS => ?_)
            clear hK K hS' q0 q1 q2 q3 q4 f0 f1 f2 f3 f4
            generalize (((((y5.setCell ⟨g5, 0, none⟩ (.int .i64 E2.log)).setCell ⟨g5, 1, none⟩ (.int .i64 E2.nx)).setCell ⟨g5, 2, none⟩ (.int .u64 E2.sq)).setCell ⟨g5, 3, none⟩ (.slice a4 E2.go.length c4)).setCell ⟨g5, 4, none⟩ (.slice b4 E2.co.length d4)) = y6 at *
            clear EO2
            have EO2 := EN2
            clear EN2
            clear EO4
            have EO4 := EN4
            clear EN4
            clear k5
            have k5 := kn5
            clear kn5
            refine wpAnyH_done (by kernel_rfl) ?_ _
            go_wp2_with fail
            go_meet
            case rel => exact ⟨g5, a4, c4, b4, d4, rfl, k5.out, EO4.out.ev, hS⟩
          exact AllReadyH.nil
        exact AllReadyH.nil
      refine AllReadyH.cons rfl (fun K hK => ?_) ?_
      · go_simp
        have h0 : (y2.alloc (.cells #[.int .i64 0, .int .i64 0, .int .u64 0, .slice none 0 0, .slice none 0 0] 26)).heap[y2.heap.size]? = some (.cells #[.int .i64 0, .int .i64 0, .int .u64 0, .slice none 0 0, .slice none 0 0] 26) := new_at _ _
        have hb5 : Hid (W3.heap.size ≤ y2.heap.size) := hS.size
        have bb := box_below y2 (.cells #[.int .i64 0, .int .i64 0, .int .u64 0, .slice none 0 0, .slice none 0 0] 26)
        replace EO2 := hid (EO2.out.later bb)
        have hS' := hid (Below.up hS bb)
        clear bb
        refine hK.out _ _ hS'.out (fun hS => ?_)
        clear hK K hS'
        generalize y2.alloc (.cells #[.int .i64 0, .int .i64 0, .int .u64 0, .slice none 0 0, .slice none 0 0] 26) = y5 at *
        generalize y2.heap.size = g5 at *
        have k5 := hid h0
        clear h0
        refine wpAnyH_ready (rs := [4]) (by kernel_rfl) (by simp) ?_
        refine AllReadyH.cons rfl (fun K hK => ?_) ?_
        · go_simp
          go_wp2_with fail
          refine (C2.out y5 _ _ _ _ hS EO2.out.ev).mono ?_
          rintro e y4 ⟨v4, rfl, EO4, bb4⟩
          obtain ⟨a4, c4, b4, d4, he4⟩ := EO_shape EO4
          subst he4
          replace EO4 := hid EO4
          replace EO2 := hid (EO2.out.later bb4)
          replace k5 := hid (below_blk k5.out bb4)
          have hS' := hid (Below.up hS bb4)
          clear bb4
          unfold ev at EO4
          unfold ev
          refine hK.out _ _ hS'.out (fun hS => ?_)
          clear hK K hS'
          refine wpAnyH_ready (rs := [6]) (by kernel_rfl) (by simp) ?_
          refine AllReadyH.cons rfl (fun K hK => ?_) ?_
          · have q0 := cell_of k5.out 0 (.int .i64 0) rfl
            have f0 := fz_of k5.out 0
            have q1 := cell_of k5.out 1 (.int .i64 0) rfl
            have f1 := fz_of k5.out 1
            have q2 := cell_of k5.out 2 (.int .u64 0) rfl
            have f2 := fz_of k5.out 2
            have q3 := cell_of k5.out 3 (.slice none 0 0) rfl
            have f3 := fz_of k5.out 3
            have q4 := cell_of k5.out 4 (.slice none 0 0) rfl
            have f4 := fz_of k5.out 4
            have P5 := put5 k5.out (.int .i64 E2.log) (.int .i64 E2.nx) (.int .u64 E2.sq) (.slice a4 E2.go.length c4) (.slice b4 E2.co.length d4)
            have hS' : Hid (Below W3.heap.size W3 (((((y4.setCell ⟨g5, 0, none⟩ (.int .i64 E2.log)).setCell ⟨g5, 1, none⟩ (.int .i64 E2.nx)).setCell ⟨g5, 2, none⟩ (.int .u64 E2.sq)).setCell ⟨g5, 3, none⟩ (.slice a4 E2.go.length c4)).setCell ⟨g5, 4, none⟩ (.slice b4 E2.co.length d4))) := ((Fp.of (P := fun j => W3.heap.size ≤ j) hS).tr (P5.2.wide (fun j _ h => .inl (by show W3.heap.size ≤ j; have := hb5.out; omega)))).base (Nat.le_refl _) (fun _ h => h)
            have EN2 := hid (EO2.out.fp P5.2 (fun j hj e => EO_ne EO2.out k5.out j hj e))
            have EN4 := hid (EO4.out.fp P5.2 (fun j hj e => EO_ne EO4.out k5.out j hj e))
            have kn5 := hid P5.1
            clear P5
            go_simp
            refine hK.out _ _ hS'.out (fun hS => ?_)
            clear hK K hS' q0 q1 q2 q3 q4 f0 f1 f2 f3 f4
            generalize (((((y4.setCell ⟨g5, 0, none⟩ (.int .i64 E2.log)).setCell ⟨g5, 1, none⟩ (.int .i64 E2.nx)).setCell ⟨g5, 2, none⟩ (.int .u64 E2.sq)).setCell ⟨g5, 3, none⟩ (.slice a4 E2.go.length c4)).setCell ⟨g5, 4, none⟩ (.slice b4 E2.co.length d4)) = y6 at *
            clear EO2
            have EO2 := EN2
            clear EN2
            clear EO4
            have EO4 := EN4
            clear EN4
            clear k5
            have k5 := kn5
            clear kn5
            refine wpAnyH_done (by kernel_rfl) ?_ _
            go_wp2_with fail
            go_meet
            case rel => exact ⟨g5, a4, c4, b4, d4, rfl, k5.out, EO4.out.ev, hS⟩
          exact AllReadyH.nil
        exact AllReadyH.nil
      exact AllReadyH.nil
    refine AllReadyH.cons rfl (fun K hK => ?_) ?_
    · go_simp
      have h0 : (D.alloc (.cells #[.int .i64 0, .int .i64 0, .int .u64 0, .slice none 0 0, .slice none 0 0] 26)).heap[D.heap.size]? = some (.cells #[.int .i64 0, .int .i64 0, .int .u64 0, .slice none 0 0, .slice none 0 0] 26) := new_at _ _
      have hb5 : Hid (W3.heap.size ≤ D.heap.size) := hS.size
      have bb := box_below D (.cells #[.int .i64 0, .int .i64 0, .int .u64 0, .slice none 0 0, .slice none 0 0] 26)
      have hS' := hid (Below.up hS bb)
      clear bb
      refine hK.out _ _ hS'.out (fun hS => ?_)
      clear hK K hS'
      generalize D.alloc (.cells #[.int .i64 0, .int .i64 0, .int .u64 0, .slice none 0 0, .slice none 0 0] 26) = y5 at *
      generalize D.heap.size = g5 at *
      have k5 := hid h0
      clear h0
      refine wpAnyH_ready (rs := [2]) (by kernel_rfl) (by simp) ?_
      refine AllReadyH.cons rfl (fun K hK => ?_) ?_
      · go_simp
        go_wp2_with fail
        refine (C1.out y5 hS).mono ?_
        rintro e y2 ⟨v2, rfl, EO2, bb2⟩
        obtain ⟨a2, c2, b2, d2, he2⟩ := EO_shape EO2
        subst he2
        replace EO2 := hid EO2
        replace k5 := hid (below_blk k5.out bb2)
        have hS' := hid (Below.up hS bb2)
        clear bb2
        unfold ev at EO2
        unfold ev
        refine hK.out _ _ hS'.out (fun hS => ?_)
        clear hK K hS'
        refine wpAnyH_ready (rs := [4]) (by kernel_rfl) (by simp) ?_
        refine AllReadyH.cons rfl (fun K hK => ?_) ?_
        · go_simp
          go_wp2_with fail
          refine (C2.out y2 _ _ _ _ hS EO2.out.ev).mono ?_
          rintro e y4 ⟨v4, rfl, EO4, bb4⟩
          obtain ⟨a4, c4, b4, d4, he4⟩ := EO_shape EO4
          subst he4
          replace EO4 := hid EO4
          replace EO2 := hid (EO2.out.later bb4)
          replace k5 := hid (below_blk k5.out bb4)
          have hS' := hid (Below.up hS bb4)
          clear bb4
          unfold ev at EO4
          unfold ev
          refine hK.out _ _ hS'.out (fun hS => ?_)
          clear hK K hS'
          refine wpAnyH_ready (rs := [6]) (by kernel_rfl) (by simp) ?_
          refine AllReadyH.cons rfl (fun K hK => ?_) ?_
          · have q0 := cell_of k5.out 0 (.int .i64 0) rfl
            have f0 := fz_of k5.out 0
            have q1 := cell_of k5.out 1 (.int .i64 0) rfl
            have f1 := fz_of k5.out 1
            have q2 := cell_of k5.out 2 (.int .u64 0) rfl
            have f2 := fz_of k5.out 2
            have q3 := cell_of k5.out 3 (.slice none 0 0) rfl
            have f3 := fz_of k5.out 3
            have q4 := cell_of k5.out 4 (.slice none 0 0) rfl
            have f4 := fz_of k5.out 4
            have P5 := put5 k5.out (.int .i64 E2.log) (.int .i64 E2.nx) (.int .u64 E2.sq) (.slice a4 E2.go.length c4) (.slice b4 E2.co.length d4)
            have hS' : Hid (Below W3.heap.size W3 (((((y4.setCell ⟨g5, 0, none⟩ (.int .i64 E2.log)).setCell ⟨g5, 1, none⟩ (.int .i64 E2.nx)).setCell ⟨g5, 2, none⟩ (.int .u64 E2.sq)).setCell ⟨g5, 3, none⟩ (.slice a4 E2.go.length c4)).setCell ⟨g5, 4, none⟩ (.slice b4 E2.co.length d4))) := ((Fp.of (P := fun j => W3.heap.size ≤ j) hS).tr (P5.2.wide (fun j _ h => .inl (by show W3.heap.size ≤ j; have := hb5.out; omega)))).base (Nat.le_refl _) (fun _ h => h)
            have EN2 := hid (EO2.out.fp P5.2 (fun j hj e => EO_ne EO2.out k5.out j hj e))
            have EN4 := hid (EO4.out.fp P5.2 (fun j hj e => EO_ne EO4.out k5.out j hj e))
            have kn5 := hid P5.1
            clear P5
            go_simp
            refine hK.out _ _ hS'.out (fun hS => ?_)
            clear hK K hS' q0 q1 q2 q3 q4 f0 f1 f2 f3 f4
            generalize (((((y4.setCell ⟨g5, 0, none⟩ (.int .i64 E2.log)).setCell ⟨g5, 1, none⟩ (.int .i64 E2.nx)).setCell ⟨g5, 2, none⟩ (.int .u64 E2.sq)).setCell ⟨g5, 3, none⟩ (.slice a4 E2.go.length c4)).setCell ⟨g5, 4, none⟩ (.slice b4 E2.co.length d4)) = y6 at *
            clear EO2
            have EO2 := EN2
            clear EN2
            clear EO4
            have EO4 := EN4
            clear EN4
            clear k5
            have k5 := kn5
            clear kn5
            refine wpAnyH_done (by kernel_rfl) ?_ _
            go_wp2_with fail
            go_meet
            case rel => exact ⟨g5, a4, c4, b4, d4, rfl, k5.out, EO4.out.ev, hS⟩
          exact AllReadyH.nil
        exact AllReadyH.nil
      exact AllReadyH.nil
    exact AllReadyH.nil
  case rest =>
    obtain ⟨g7, a7, c7, b7, d7, rfl, k7, EV7, B7⟩ := hcut
    obtain ⟨w1, hw1⟩ : ∃ W, W = wc := ⟨_, rfl⟩
    rw [← hw1] at k7 EV7 B7 ⊢
    clear hw1 wc
    have L1 := hid (below_blk K1.out B7)
    have L2 := hid (below_blk K2.out B7)
    have L3 := hid (below_blk K3.out B7)
    replace C3 : Hid (∀ W, Below w1.heap.size w1 W → _) := fun W b => C3.out W (Below.up B7 b)
    replace C4 : Hid (∀ W a c b' d, Below w1.heap.size w1 W → EV W (ev E3 a c b' d) E3 → _) := fun W a c b' d b => C4.out W a c b' d (Below.up B7 b)
    replace k7 := hid k7
    replace EV7 := hid EV7
    replace B7 := hid B7
    go_upto_region 2 with fail
    go_cut [8] from 15 to 19 (fun s wx => ∃ g a c b d, s = .pointer (some ⟨g, 0, none⟩) ∧ wx.heap[g]? = some (.cells #[.int .i64 E4.log, .int .i64 E4.nx, .int .u64 E4.sq, .slice a E4.go.length c, .slice b E4.co.length d] 26) ∧ EV wx (ev E4 a c b d) E4 ∧ Below w1.heap.size w1 wx)
    case first =>
      refine wp_region_held_drew (S := fun W => Below w1.heap.size w1 W) (by kernel_rfl) (drew_below _) (fun hS => ?_)
      generalize World.drew w1 = D at *
      refine wpAnyH_take (i := 0) (v := ?v4) rfl (by kernel_rfl) (by kernel_rfl) (by kernel_rfl) (fun _ _ _ h => h) (Or.inl ⟨by rfl, ?h4⟩) hS ?_
      case h4 => (intro W hW; have cc0 := cell_of (below_blk L1.out hW) 0 _ rfl; have cc1 := cell_of (below_blk L1.out hW) 1 _ rfl; have cc2 := cell_of (below_blk L1.out hW) 2 _ rfl; have cc3 := cell_of (below_blk L1.out hW) 3 _ rfl; have cc4 := cell_of (below_blk L1.out hW) 4 _ rfl; go_simp; try (with_reducible rfl))
      go_simp
      refine wpAnyH_take (i := 1) (v := ?v5) rfl (by kernel_rfl) (by kernel_rfl) (by kernel_rfl) (fun _ _ _ h => h) (Or.inl ⟨by rfl, ?h5⟩) hS ?_
      case h5 => (intro W hW; have cc0 := cell_of (below_blk L2.out hW) 0 _ rfl; have cc1 := cell_of (below_blk L2.out hW) 1 _ rfl; have cc2 := cell_of (below_blk L2.out hW) 2 _ rfl; have cc3 := cell_of (below_blk L2.out hW) 3 _ rfl; have cc4 := cell_of (below_blk L2.out hW) 4 _ rfl; go_simp; try (with_reducible rfl))
      go_simp
      refine wpAnyH_take (i := 2) (v := ?v6) rfl (by kernel_rfl) (by kernel_rfl) (by kernel_rfl) (fun _ _ _ h => h) (Or.inl ⟨by rfl, ?h6⟩) hS ?_
      case h6 => (intro W hW; have cc0 := cell_of (below_blk L3.out hW) 0 _ rfl; have cc1 := cell_of (below_blk L3.out hW) 1 _ rfl; have cc2 := cell_of (below_blk L3.out hW) 2 _ rfl; have cc3 := cell_of (below_blk L3.out hW) 3 _ rfl; have cc4 := cell_of (below_blk L3.out hW) 4 _ rfl; go_simp; try (with_reducible rfl))
      go_simp
      refine wpAnyH_ready (rs := [3, 5]) (by kernel_rfl) (by simp) ?_
      refine AllReadyH.cons rfl (fun K hK => ?_) ?_
      · go_simp
        go_wp2_with fail
        refine (C3.out D hS).mono ?_
        rintro e y3 ⟨v3, rfl, EO3, bb3⟩
        obtain ⟨a3, c3, b3, d3, he3⟩ := EO_shape EO3
        subst he3
        replace EO3 := hid EO3
        have hS' := hid (Below.up hS bb3)
        clear bb3
        unfold ev at EO3
        unfold ev
        refine hK.out _ _ hS'.out (fun hS => ?_)
        clear hK K hS'
        refine wpAnyH_ready (rs := [4, 5]) (by kernel_rfl) (by simp) ?_
        refine AllReadyH.cons rfl (fun K hK => ?_) ?_
        · go_simp
          go_wp2_with fail
          refine (C4.out y3 _ _ _ _ hS EO3.out.ev).mono ?_
          rintro e y4 ⟨v4, rfl, EO4, bb4⟩
          obtain ⟨a4, c4, b4, d4, he4⟩ := EO_shape EO4
          subst he4
          replace EO4 := hid EO4
          replace EO3 := hid (EO3.out.later bb4)
          have hS' := hid (Below.up hS bb4)
          clear bb4
          unfold ev at EO4
          unfold ev
          refine hK.out _ _ hS'.out (fun hS => ?_)
          clear hK K hS'
          refine wpAnyH_ready (rs := [5]) (by kernel_rfl) (by simp) ?_
          refine AllReadyH.cons rfl (fun K hK => ?_) ?_
          · go_simp
            have h0 : (y4.alloc (.cells #[.int .i64 0, .int .i64 0, .int .u64 0, .slice none 0 0, .slice none 0 0] 26)).heap[y4.heap.size]? = some (.cells #[.int .i64 0, .int .i64 0, .int .u64 0, .slice none 0 0, .slice none 0 0] 26) := new_at _ _
            have hb5 : Hid (w1.heap.size ≤ y4.heap.size) := hS.size
            have bb := box_below y4 (.cells #[.int .i64 0, .int .i64 0, .int .u64 0, .slice none 0 0, .slice none 0 0] 26)
            replace EO3 := hid (EO3.out.later bb)
            replace EO4 := hid (EO4.out.later bb)
            have hS' := hid (Below.up hS bb)
            clear bb
            refine hK.out _ _ hS'.out (fun hS => ?_)
            clear hK K hS'
            generalize y4.alloc (.cells #[.int .i64 0, .int .i64 0, .int .u64 0, .slice none 0 0, .slice none 0 0] 26) = y5 at *
            generalize y4.heap.size = g5 at *
            have k5 := hid h0
            clear h0
            refine wpAnyH_ready (rs := [6]) (by kernel_rfl) (by simp) ?_
            refine AllReadyH.cons rfl (fun K hK => ?_) ?_
            · have q0 := cell_of k5.out 0 (.int .i64 0) rfl
              have f0 := fz_of k5.out 0
              have q1 := cell_of k5.out 1 (.int .i64 0) rfl
              have f1 := fz_of k5.out 1
              have q2 := cell_of k5.out 2 (.int .u64 0) rfl
              have f2 := fz_of k5.out 2
              have q3 := cell_of k5.out 3 (.slice none 0 0) rfl
              have f3 := fz_of k5.out 3
              have q4 := cell_of k5.out 4 (.slice none 0 0) rfl
              have f4 := fz_of k5.out 4
              have P5 := put5 k5.out (.int .i64 E4.log) (.int .i64 E4.nx) (.int .u64 E4.sq) (.slice a4 E4.go.length c4) (.slice b4 E4.co.length d4)
              have hS' : Hid (Below w1.heap.size w1 (((((y5.setCell ⟨g5, 0, none⟩ (.int .i64 E4.log)).setCell ⟨g5, 1, none⟩ (.int .i64 E4.nx)).setCell ⟨g5, 2, none⟩ (.int .u64 E4.sq)).setCell ⟨g5, 3, none⟩ (.slice a4 E4.go.length c4)).setCell ⟨g5, 4, none⟩ (.slice b4 E4.co.length d4))) := ((Fp.of (P := fun j => w1.heap.size ≤ j) hS).tr (P5.2.wide (fun j _ h => .inl (by show w1.heap.size ≤ j; have := hb5.out; omega)))).base (Nat.le_refl _) (fun _ h => h)
              have EN3 := hid (EO3.out.fp P5.2 (fun j hj e => EO_ne EO3.out k5.out j hj e))
              have EN4 := hid (EO4.out.fp P5.2 (fun j hj e => EO_ne EO4.out k5.out j hj e))
              have kn5 := hid P5.1
              clear P5
              go_simp
              refine hK.out _ _ hS'.out (fun hS => ?_)
              clear hK K hS' q0 q1 q2 q3 q4 f0 f1 f2 f3 f4
              generalize (((((y5.setCell ⟨g5, 0, none⟩ (.int .i64 E4.log)).setCell ⟨g5, 1, none⟩ (.int .i64 E4.nx)).setCell ⟨g5, 2, none⟩ (.int .u64 E4.sq)).setCell ⟨g5, 3, none⟩ (.slice a4 E4.go.length c4)).setCell ⟨g5, 4, none⟩ (.slice b4 E4.co.length d4)) = y6 at *
              clear EO3
              have EO3 := EN3
              clear EN3
              clear EO4
              have EO4 := EN4
              clear EN4
              clear k5
              have k5 := kn5
              clear kn5
              refine wpAnyH_done (by kernel_rfl) ?_ _
              go_wp2_with fail
              go_meet
              case rel => exact ⟨g5, a4, c4, b4, d4, rfl, k5.out, EO4.out.ev, hS⟩
            exact AllReadyH.nil
          exact AllReadyH.nil
        refine AllReadyH.cons rfl (fun K hK => ?_) ?_
        · go_simp
          have h0 : (y3.alloc (.cells #[.int .i64 0, .int .i64 0, .int .u64 0, .slice none 0 0, .slice none 0 0] 26)).heap[y3.heap.size]? = some (.cells #[.int .i64 0, .int .i64 0, .int .u64 0, .slice none 0 0, .slice none 0 0] 26) := new_at _ _
          have hb5 : Hid (w1.heap.size ≤ y3.heap.size) := hS.size
          have bb := box_below y3 (.cells #[.int .i64 0, .int .i64 0, .int .u64 0, .slice none 0 0, .slice none 0 0] 26)
          replace EO3 := hid (EO3.out.later bb)
          have hS' := hid (Below.up hS bb)
          clear bb
          refine hK.out _ _ hS'.out (fun hS => ?_)
          clear hK K hS'
          generalize y3.alloc (.cells #[.int .i64 0, .int .i64 0, .int .u64 0, .slice none 0 0, .slice none 0 0] 26) = y5 at *
          generalize y3.heap.size = g5 at *
          have k5 := hid h0
          clear h0
          refine wpAnyH_ready (rs := [4]) (by kernel_rfl) (by simp) ?_
          refine AllReadyH.cons rfl (fun K hK => ?_) ?_
          · go_simp
            go_wp2_with fail
            refine (C4.out y5 _ _ _ _ hS EO3.out.ev).mono ?_
            rintro e y4 ⟨v4, rfl, EO4, bb4⟩
            obtain ⟨a4, c4, b4, d4, he4⟩ := EO_shape EO4
            subst he4
            replace EO4 := hid EO4
            replace EO3 := hid (EO3.out.later bb4)
            replace k5 := hid (below_blk k5.out bb4)
            have hS' := hid (Below.up hS bb4)
            clear bb4
            unfold ev at EO4
            unfold ev
            refine hK.out _ _ hS'.out (fun hS => ?_)
            clear hK K hS'
            refine wpAnyH_ready (rs := [6]) (by kernel_rfl) (by simp) ?_
            refine AllReadyH.cons rfl (fun K hK => ?_) ?_
            · have q0 := cell_of k5.out 0 (.int .i64 0) rfl
              have f0 := fz_of k5.out 0
              have q1 := cell_of k5.out 1 (.int .i64 0) rfl
              have f1 := fz_of k5.out 1
              have q2 := cell_of k5.out 2 (.int .u64 0) rfl
              have f2 := fz_of k5.out 2
              have q3 := cell_of k5.out 3 (.slice none 0 0) rfl
              have f3 := fz_of k5.out 3
              have q4 := cell_of k5.out 4 (.slice none 0 0) rfl
              have f4 := fz_of k5.out 4
              have P5 := put5 k5.out (.int .i64 E4.log) (.int .i64 E4.nx) (.int .u64 E4.sq) (.slice a4 E4.go.length c4) (.slice b4 E4.co.length d4)
              have hS' : Hid (Below w1.heap.size w1 (((((y4.setCell ⟨g5, 0, none⟩ (.int .i64 E4.log)).setCell ⟨g5, 1, none⟩ (.int .i64 E4.nx)).setCell ⟨g5, 2, none⟩ (.int .u64 E4.sq)).setCell ⟨g5, 3, none⟩ (.slice a4 E4.go.length c4)).setCell ⟨g5, 4, none⟩ (.slice b4 E4.co.length d4))) := ((Fp.of (P := fun j => w1.heap.size ≤ j) hS).tr (P5.2.wide (fun j _ h => .inl (by show w1.heap.size ≤ j; have := hb5.out; omega)))).base (Nat.le_refl _) (fun _ h => h)
              have EN3 := hid (EO3.out.fp P5.2 (fun j hj e => EO_ne EO3.out k5.out j hj e))
              have EN4 := hid (EO4.out.fp P5.2 (fun j hj e => EO_ne EO4.out k5.out j hj e))
              have kn5 := hid P5.1
              clear P5
              go_simp
              refine hK.out _ _ hS'.out (fun hS => ?_)
              clear hK K hS' q0 q1 q2 q3 q4 f0 f1 f2 f3 f4
              generalize (((((y4.setCell ⟨g5, 0, none⟩ (.int .i64 E4.log)).setCell ⟨g5, 1, none⟩ (.int .i64 E4.nx)).setCell ⟨g5, 2, none⟩ (.int .u64 E4.sq)).setCell ⟨g5, 3, none⟩ (.slice a4 E4.go.length c4)).setCell ⟨g5, 4, none⟩ (.slice b4 E4.co.length d4)) = y6 at *
              clear EO3
              have EO3 := EN3
              clear EN3
              clear EO4
              have EO4 := EN4
              clear EN4
              clear k5
              have k5 := kn5
              clear kn5
              refine wpAnyH_done (by kernel_rfl) ?_ _
              go_wp2_with fail
              go_meet
              case rel => exact ⟨g5, a4, c4, b4, d4, rfl, k5.out, EO4.out.ev, hS⟩
            exact AllReadyH.nil
          exact AllReadyH.nil
        exact AllReadyH.nil
      refine AllReadyH.cons rfl (fun K hK => ?_) ?_
      · go_simp
        have h0 : (D.alloc (.cells #[.int .i64 0, .int .i64 0, .int .u64 0, .slice none 0 0, .slice none 0 0] 26)).heap[D.heap.size]? = some (.cells #[.int .i64 0, .int .i64 0, .int .u64 0, .slice none 0 0, .slice none 0 0] 26) := new_at _ _
        have hb5 : Hid (w1.heap.size ≤ D.heap.size) := hS.size
        have bb := box_below D (.cells #[.int .i64 0, .int .i64 0, .int .u64 0, .slice none 0 0, .slice none 0 0] 26)
        have hS' := hid (Below.up hS bb)
        clear bb
        refine hK.out _ _ hS'.out (fun hS => ?_)
        clear hK K hS'
        generalize D.alloc (.cells #[.int .i64 0, .int .i64 0, .int .u64 0, .slice none 0 0, .slice none 0 0] 26) = y5 at *
        generalize D.heap.size = g5 at *
        have k5 := hid h0
        clear h0
        refine wpAnyH_ready (rs := [3]) (by kernel_rfl) (by simp) ?_
        refine AllReadyH.cons rfl (fun K hK => ?_) ?_
        · go_simp
          go_wp2_with fail
          refine (C3.out y5 hS).mono ?_
          rintro e y3 ⟨v3, rfl, EO3, bb3⟩
          obtain ⟨a3, c3, b3, d3, he3⟩ := EO_shape EO3
          subst he3
          replace EO3 := hid EO3
          replace k5 := hid (below_blk k5.out bb3)
          have hS' := hid (Below.up hS bb3)
          clear bb3
          unfold ev at EO3
          unfold ev
          refine hK.out _ _ hS'.out (fun hS => ?_)
          clear hK K hS'
          refine wpAnyH_ready (rs := [4]) (by kernel_rfl) (by simp) ?_
          refine AllReadyH.cons rfl (fun K hK => ?_) ?_
          · go_simp
            go_wp2_with fail
            refine (C4.out y3 _ _ _ _ hS EO3.out.ev).mono ?_
            rintro e y4 ⟨v4, rfl, EO4, bb4⟩
            obtain ⟨a4, c4, b4, d4, he4⟩ := EO_shape EO4
            subst he4
            replace EO4 := hid EO4
            replace EO3 := hid (EO3.out.later bb4)
            replace k5 := hid (below_blk k5.out bb4)
            have hS' := hid (Below.up hS bb4)
            clear bb4
            unfold ev at EO4
            unfold ev
            refine hK.out _ _ hS'.out (fun hS => ?_)
            clear hK K hS'
            refine wpAnyH_ready (rs := [6]) (by kernel_rfl) (by simp) ?_
            refine AllReadyH.cons rfl (fun K hK => ?_) ?_
            · have q0 := cell_of k5.out 0 (.int .i64 0) rfl
              have f0 := fz_of k5.out 0
              have q1 := cell_of k5.out 1 (.int .i64 0) rfl
              have f1 := fz_of k5.out 1
              have q2 := cell_of k5.out 2 (.int .u64 0) rfl
              have f2 := fz_of k5.out 2
              have q3 := cell_of k5.out 3 (.slice none 0 0) rfl
              have f3 := fz_of k5.out 3
              have q4 := cell_of k5.out 4 (.slice none 0 0) rfl
              have f4 := fz_of k5.out 4
              have P5 := put5 k5.out (.int .i64 E4.log) (.int .i64 E4.nx) (.int .u64 E4.sq) (.slice a4 E4.go.length c4) (.slice b4 E4.co.length d4)
              have hS' : Hid (Below w1.heap.size w1 (((((y4.setCell ⟨g5, 0, none⟩ (.int .i64 E4.log)).setCell ⟨g5, 1, none⟩ (.int .i64 E4.nx)).setCell ⟨g5, 2, none⟩ (.int .u64 E4.sq)).setCell ⟨g5, 3, none⟩ (.slice a4 E4.go.length c4)).setCell ⟨g5, 4, none⟩ (.slice b4 E4.co.length d4))) := ((Fp.of (P := fun j => w1.heap.size ≤ j) hS).tr (P5.2.wide (fun j _ h => .inl (by show w1.heap.size ≤ j; have := hb5.out; omega)))).base (Nat.le_refl _) (fun _ h => h)
              have EN3 := hid (EO3.out.fp P5.2 (fun j hj e => EO_ne EO3.out k5.out j hj e))
              have EN4 := hid (EO4.out.fp P5.2 (fun j hj e => EO_ne EO4.out k5.out j hj e))
              have kn5 := hid P5.1
              clear P5
              go_simp
              refine hK.out _ _ hS'.out (fun hS => ?_)
              clear hK K hS' q0 q1 q2 q3 q4 f0 f1 f2 f3 f4
              generalize (((((y4.setCell ⟨g5, 0, none⟩ (.int .i64 E4.log)).setCell ⟨g5, 1, none⟩ (.int .i64 E4.nx)).setCell ⟨g5, 2, none⟩ (.int .u64 E4.sq)).setCell ⟨g5, 3, none⟩ (.slice a4 E4.go.length c4)).setCell ⟨g5, 4, none⟩ (.slice b4 E4.co.length d4)) = y6 at *
              clear EO3
              have EO3 := EN3
              clear EN3
              clear EO4
              have EO4 := EN4
              clear EN4
              clear k5
              have k5 := kn5
              clear kn5
              refine wpAnyH_done (by kernel_rfl) ?_ _
              go_wp2_with fail
              go_meet
              case rel => exact ⟨g5, a4, c4, b4, d4, rfl, k5.out, EO4.out.ev, hS⟩
            exact AllReadyH.nil
          exact AllReadyH.nil
        exact AllReadyH.nil
      exact AllReadyH.nil
    case rest =>
      obtain ⟨g8, a8, c8, b8, d8, rfl, k8, EV8, B8⟩ := hcut
      obtain ⟨w2, hw2⟩ : ∃ W, W = wc := ⟨_, rfl⟩
      rw [← hw2] at k8 EV8 B8 ⊢
      clear hw2 wc
      have BA := hid (Below.up B7.out B8)
      have k7' := hid (below_blk k7.out B8)
      have EV7' := hid (EV7.out.later B8)
      replace k8 := hid k8
      replace EV8 := hid EV8
      replace B8 := hid B8
      clear k7 EV7 L1 L2 L3 C1 C2 C3 C4
      go_wp2_with fail
      refine (C5.out _).mono ?_
      rintro e w3 ⟨a9, c9, b9, d9, rfl, bb3⟩
      have P1 := below_blk (below_blk K1.out BA.out) bb3
      have P2 := below_blk (below_blk K2.out BA.out) bb3
      have P3 := below_blk (below_blk K3.out BA.out) bb3
      have x10 := cell_of P1 0 _ rfl
      have x11 := cell_of P1 1 _ rfl
      have x12 := cell_of P1 2 _ rfl
      have x13 := cell_of P1 3 _ rfl
      have x14 := cell_of P1 4 _ rfl
      have x20 := cell_of P2 0 _ rfl
      have x21 := cell_of P2 1 _ rfl
      have x22 := cell_of P2 2 _ rfl
      have x23 := cell_of P2 3 _ rfl
      have x24 := cell_of P2 4 _ rfl
      have x30 := cell_of P3 0 _ rfl
      have x31 := cell_of P3 1 _ rfl
      have x32 := cell_of P3 2 _ rfl
      have x33 := cell_of P3 3 _ rfl
      have x34 := cell_of P3 4 _ rfl
      have l1 : ga < w3.heap.size := blk_lt P1
      have l2 : gb < w3.heap.size := blk_lt P2
      have l3 : gc < w3.heap.size := blk_lt P3
      obtain ⟨w4, hw4⟩ : ∃ W, W = w3.alloc (.cells #[.int .i64 3, .int .i64 4, .int .u64 0, .slice a9 0 c9, .slice b9 0 d9] 26) := ⟨_, rfl⟩
      have bb4 : Below w3.heap.size w3 w4 := by rw [hw4]; exact box_below _ _
      have sz4 : w4.heap.size = w3.heap.size + 1 := by rw [hw4]; exact size_alloc _ _
      obtain ⟨w5, hw5⟩ : ∃ W, W = w4.alloc (.cells #[.int .i64 x.log, .int .i64 x.nx, .int .u64 x.sq, .slice xa x.go.length xc, .slice xb x.co.length xd, .int .i64 y.log, .int .i64 y.nx, .int .u64 y.sq, .slice ya y.go.length yc, .slice yb y.co.length yd, .int .i64 z.log, .int .i64 z.nx, .int .u64 z.sq, .slice za z.go.length zc, .slice zb z.co.length zd] 26) := ⟨_, rfl⟩
      have bb5 : Below w4.heap.size w4 w5 := by rw [hw5]; exact box_below _ _
      have kk5 : w5.heap[w3.heap.size + 1]? = some (.cells #[.int .i64 x.log, .int .i64 x.nx, .int .u64 x.sq, .slice xa x.go.length xc, .slice xb x.co.length xd, .int .i64 y.log, .int .i64 y.nx, .int .u64 y.sq, .slice ya y.go.length yc, .slice yb y.co.length yd, .int .i64 z.log, .int .i64 z.nx, .int .u64 z.sq, .slice za z.go.length zc, .slice zb z.co.length zd] 26) := by rw [hw5, ← sz4]; exact new_at _ _
      have B35 := Below.up (Below.up bb3 bb4) bb5
      have HA5 := hid (HAp.out w5 (w3.heap.size + 1) (Below.up BA.out B35) kk5)
      have k75 := hid (below_blk k7'.out B35)
      have k85 := hid (below_blk k8.out B35)
      have EV75 := hid (EV7'.out.later B35)
      have EV85 := hid (EV8.out.later B35)
      have BZ := hid (Below.up (Below.up LO.out BA.out) B35)
      rw [hw4] at hw5
      replace hw5 := hid hw5
      clear P1 P2 P3 bb3 bb4 bb5 sz4 kk5 B35 hw4 k7' k8 EV7' EV8 HAp C5
      go_wp2_with fail
      rw [← hw5.out]
      refine HA5.out.mono ?_
      rintro e w6 ⟨B, rfl, hB, b6⟩
      cases B with
      | false =>
        replace hB := hid hB
        have BF := hid (Below.up BZ.out b6)
        clear b6
        go_wp2_with fail
        go_ret
        exact ⟨rfl, BF.out⟩
      | true =>
        have hEE := hB rfl
        subst hEE
        have P7 := below_blk k75.out b6
        have P8 := below_blk k85.out b6
        have y70 := cell_of P7 0 _ rfl
        have y71 := cell_of P7 1 _ rfl
        have y72 := cell_of P7 2 _ rfl
        have y73 := cell_of P7 3 _ rfl
        have y74 := cell_of P7 4 _ rfl
        have y80 := cell_of P8 0 _ rfl
        have y81 := cell_of P8 1 _ rfl
        have y82 := cell_of P8 2 _ rfl
        have y83 := cell_of P8 3 _ rfl
        have y84 := cell_of P8 4 _ rfl
        have HSa := hid (same_any _ _ E2 w6 (EV75.out.later b6) (EV85.out.later b6))
        have BF := hid (Below.up BZ.out b6)
        clear P7 P8 b6 hB
        unfold ev at HSa
        go_wp2_with fail
        refine HSa.out.mono ?_
        rintro e w7 ⟨rfl, b7⟩
        have BG := hid (Below.up BF.out b7)
        clear b7
        go_wp2_with fail
        go_ret
        exact ⟨rfl, BG.out⟩
end Go.Proofs.Ytnpeocoipodmfaa.Et

/- Merge by its contract. -/
import Derived.Test.YtnpeocoipodmfaaMg
import Derived.Deep.Cut
import Derived.Deep.CutRange
namespace Go.Proofs.Ytnpeocoipodmfaa.Mh
open Go.ChangeShapes Go.WideShapes Go.ChangeAt Go.RowKit
open Go.Proofs.Ytnpeocoipodmfaa.Gr
open Go.Proofs.Ytnpeocoipodmfaa.Ev
open Go.Proofs.Ytnpeocoipodmfaa.Ss
open Go.Proofs.Ytnpeocoipodmfaa.Le
open Go.Proofs.Ytnpeocoipodmfaa.Km
open Go.Proofs.Ytnpeocoipodmfaa.Mg
set_option linter.unusedVariables false
set_option linter.unusedSimpArgs false

/-- The boxes of Merge. -/
structure M3 (w : World) (ga gb gr go : Nat) (A B R O : Array Value) (W : World) : Prop where
  a : W.heap[ga]? = some (.cells A 26)
  b : W.heap[gb]? = some (.cells B 26)
  r : W.heap[gr]? = some (.cells R 26)
  o : W.heap[go]? = some (.cells O 26)
  lo : Below w.heap.size w W
  s : W.heap.size = go + 1
theorem boxes3 (w : World) (A B R : Array Value) (ga gb gr go : Nat) (h1 : w.heap.size = ga) (h2 : ga + 1 = gb) (h3 : gb + 1 = gr) (h4 : gr + 1 = go) : ∃ W, W = ((w.alloc (.cells A 26)).alloc (.cells B 26)).alloc (.cells R 26) ∧ W.heap[ga]? = some (.cells A 26) ∧ W.heap[gb]? = some (.cells B 26) ∧ W.heap[gr]? = some (.cells R 26) ∧ Below w.heap.size w W ∧ W.heap.size = go := by
  refine ⟨_, rfl, ?_⟩
  have b1 := box_below w (.cells A 26)
  have k1 := new_at w (.cells A 26)
  have s1 := size_alloc w (.cells A 26)
  generalize w.alloc (.cells A 26) = W1 at *
  have b2 := box_below W1 (.cells B 26)
  have k2 := new_at W1 (.cells B 26)
  have s2 := size_alloc W1 (.cells B 26)
  generalize W1.alloc (.cells B 26) = W2 at *
  have b3 := box_below W2 (.cells R 26)
  have k3 := new_at W2 (.cells R 26)
  have s3 := size_alloc W2 (.cells R 26)
  generalize W2.alloc (.cells R 26) = W3 at *
  have e1 : W1.heap.size = gb := by omega
  have e2 : W2.heap.size = gr := by omega
  rw [e2] at k3
  rw [e1] at k2
  rw [h1] at k1
  exact ⟨below_blk (below_blk k1 b2) b3, below_blk k2 b3, k3, Below.up (Below.up b1 b2) b3, by omega⟩
theorem Ms.start {w : World} {A B R : Array Value} {log nx sq : Value} {ga gb gr go m6 m7 : Nat} {W : World} (H : M3 w ga gb gr go A B R #[log, nx, sq, .slice none 0 0, .slice none 0 0] W) (h1 : w.heap.size = ga) (h2 : ga + 1 = gb) (h3 : gb + 1 = gr) (h4 : gr + 1 = go) (h5 : go + 1 = m6) (h6 : m6 + 1 = m7) :
    Ms w ga gb gr go m6 m7 (m7 + 1) A B R log nx sq ((W.alloc (.map #[] 0)).alloc (.map #[] 0)) (.slice none 0 0) (.slice none 0 0) [] [] [] [] := by
  obtain ⟨k1, k2, k3, k4, lo, s4⟩ := H
  have b5 := box_below W (.map #[] 0)
  have k5 := Ks.Mp.made kP W
  have s5 := size_alloc W (.map #[] 0)
  generalize W.alloc (.map #[] 0) = W5 at *
  have b6 := box_below W5 (.map #[] 0)
  have k6 := Ks.Mp.made kP W5
  have s6 := size_alloc W5 (.map #[] 0)
  generalize W5.alloc (.map #[] 0) = W6 at *
  have e4 : W.heap.size = m6 := by omega
  have e5 : W5.heap.size = m7 := by omega
  rw [e5] at k6
  rw [e4] at k5
  exact ⟨below_blk (below_blk k1 b5) b6, below_blk (below_blk k2 b5) b6, below_blk (below_blk k3 b5) b6, below_blk (below_blk k4 b5) b6, k5.later b6, k6, El.Own.nil _ _ _, El.Own.nil _ _ _, Below.up (Below.up lo b5) b6, by omega⟩
theorem mk_run (t : TypeId) (w : World) : Sem.run Try.prog (Instr.makeMap t none) w = .ok (.map (some w.heap.size)) (w.alloc (.map #[] 0)) := by
  kernel_rfl
theorem row_any {w : World} {base e size n : Nat} {v : Value} {xs : List Value} (h : w.ownsRow base e size v n xs) : ∃ a m c, v = .slice a m c := by
  obtain ⟨a, c, h⟩ := row_block h
  exact ⟨a, n, c, h⟩
theorem filter_snoc {α : Type} (p : α → Bool) (l : List α) (x : α) : (l ++ [x]).filter p = if p x = true then l.filter p ++ [x] else l.filter p := by
  rw [List.filter_append]
  by_cases h : p x = true
  · rw [if_pos h]; simp [h]
  · rw [if_neg h]; simp [h]
set_option maxHeartbeats 4000000 in
set_option maxRecDepth 100000 in
theorem merge_any (va vb : Value) (x y : Ed) (w : World) (HA : EV w va x) (HB : EV w vb y) (hl : x.go.length + y.go.length ≤ 1099511627776) (hl' : x.co.length + y.co.length ≤ 1099511627776) :
    Calls Try.prog 18 #[va, vb] w fun e w' => ∃ v', e = .returned v' ∧ EO w' w.heap.size v' (mrg x y) ∧ Below w.heap.size w w' := by
  obtain ⟨hokx, a, c, a', c', rfl, A1, A2⟩ := HA
  obtain ⟨hoky, b, d, b', d', rfl, B1, B2⟩ := HB
  have xk1 := A1.ok
  have xk2 := A2.ok
  have yk1 := B1.ok
  have yk2 := B2.ok
  obtain ⟨xl, xn, xq, xg, xc⟩ := x
  obtain ⟨yl, yn, yq, yg, yc⟩ := y
  unfold ev
  dsimp only at A1 A2 B1 B2 hl hl' ⊢
  obtain ⟨ga, hga⟩ : ∃ m, w.heap.size = m := ⟨_, rfl⟩
  obtain ⟨gb, hgb⟩ : ∃ m, ga + 1 = m := ⟨_, rfl⟩
  obtain ⟨gr, hgr⟩ : ∃ m, gb + 1 = m := ⟨_, rfl⟩
  obtain ⟨go, hgo⟩ : ∃ m, gr + 1 = m := ⟨_, rfl⟩
  obtain ⟨m6, hm6⟩ : ∃ m, go + 1 = m := ⟨_, rfl⟩
  obtain ⟨m7, hm7⟩ : ∃ m, m6 + 1 = m := ⟨_, rfl⟩
  obtain ⟨base, hbase⟩ : ∃ m, m7 + 1 = m := ⟨_, rfl⟩
  obtain ⟨W3, hW3, K1, K2, K3, LO, hs3⟩ := boxes3 w #[.int .i64 xl, .int .i64 xn, .int .u64 xq, .slice a xg.length c, .slice a' xc.length c'] #[.int .i64 yl, .int .i64 yn, .int .u64 yq, .slice b yg.length d, .slice b' yc.length d'] #[.int .i64 0, .int .i64 0, .int .u64 0, .slice none 0 0, .slice none 0 0] ga gb gr go hga hgb hgr hgo
  have HL1 := hid (fun W => later_int xl yl W)
  have HL2 := hid (fun W => later_int xn yn W)
  have HL3 := hid (fun W => later_u64 xq yq W)
  replace A1 := hid (fun W hb => A1.later (w' := W) hb)
  replace A2 := hid (fun W hb => A2.later (w' := W) hb)
  replace B1 := hid (fun W hb => B1.later (w' := W) hb)
  replace B2 := hid (fun W hb => B2.later (w' := W) hb)
  replace hokx := hid hokx
  replace hoky := hid hoky
  replace xk1 := hid xk1
  replace xk2 := hid xk2
  replace yk1 := hid yk1
  replace yk2 := hid yk2
  replace hW3 := hid hW3
  replace hs3 := hid hs3
  replace K1 := hid K1
  replace K2 := hid K2
  replace K3 := hid K3
  replace LO := hid LO
  replace hga := hid hga
  replace hgb := hid hgb
  replace hgr := hid hgr
  replace hgo := hid hgo
  replace hm6 := hid hm6
  replace hm7 := hid hm7
  replace hbase := hid hbase
  replace hl := hid hl
  replace hl' := hid hl'
  generalize hxg : xg.length = nxg at *
  generalize hxc : xc.length = nxc at *
  generalize hyg : yg.length = nyg at *
  generalize hyc : yc.length = nyc at *
  have hbx : nxc ≤ 1099511627776 := by have := hl'.out; omega
  have hby : nyg ≤ 1099511627776 := by have := hl.out; omega
  replace hxg := hid hxg
  replace hxc := hid hxc
  replace hyg := hid hyg
  replace hyc := hid hyc
  go_enter Try.func18, Try.ntmps18
  go_upto_region 1 with fail
  rw [← hW3.out, hga.out, hgb.out, hgr.out]
  go_cut [5] from 18 to 33 (fun s wx => s = .pointer (some ⟨go, 0, none⟩) ∧ M3 w ga gb gr go #[.int .i64 xl, .int .i64 xn, .int .u64 xq, .slice a nxg c, .slice a' nxc c'] #[.int .i64 yl, .int .i64 yn, .int .u64 yq, .slice b nyg d, .slice b' nyc d'] #[.int .i64 0, .int .i64 0, .int .u64 0, .slice none 0 0, .slice none 0 0] #[.int .i64 (lat xl yl), .int .i64 (lat xn yn), .int .u64 (lat xq yq), .slice none 0 0, .slice none 0 0] wx)
  case first =>
    refine wp_region_held_drew (S := fun W => Below W3.heap.size W3 W) (by kernel_rfl) (drew_below _) (fun hS => ?_)
    have hsD : Hid (W3.drew.heap.size = go) := hs3.out
    generalize World.drew W3 = D at *
    refine wpAnyH_take (i := 0) (v := ?v1) rfl (by kernel_rfl) (by kernel_rfl) (by kernel_rfl) (fun _ _ _ h => h) (Or.inl ⟨by rfl, ?h1⟩) hS ?_
    case h1 => (intro W hW; go_simp; try (with_reducible rfl))
    go_simp
    refine wpAnyH_take (i := 1) (v := ?v2) rfl (by kernel_rfl) (by kernel_rfl) (by kernel_rfl) (fun _ _ _ h => h) (Or.inl ⟨by rfl, ?h2⟩) hS ?_
    case h2 => (intro W hW; have cc := cell_of (below_blk K1.out hW) 0 _ rfl; go_simp; try (with_reducible rfl))
    go_simp
    refine wpAnyH_take (i := 2) (v := ?v3) rfl (by kernel_rfl) (by kernel_rfl) (by kernel_rfl) (fun _ _ _ h => h) (Or.inl ⟨by rfl, ?h3⟩) hS ?_
    case h3 => (intro W hW; go_simp; try (with_reducible rfl))
    go_simp
    refine wpAnyH_take (i := 3) (v := ?v4) rfl (by kernel_rfl) (by kernel_rfl) (by kernel_rfl) (fun _ _ _ h => h) (Or.inl ⟨by rfl, ?h4⟩) hS ?_
    case h4 => (intro W hW; have cc := cell_of (below_blk K2.out hW) 0 _ rfl; go_simp; try (with_reducible rfl))
    go_simp
    refine wpAnyH_take (i := 5) (v := ?v5) rfl (by kernel_rfl) (by kernel_rfl) (by kernel_rfl) (fun _ _ _ h => h) (Or.inl ⟨by rfl, ?h5⟩) hS ?_
    case h5 => (intro W hW; go_simp; try (with_reducible rfl))
    go_simp
    refine wpAnyH_take (i := 6) (v := ?v6) rfl (by kernel_rfl) (by kernel_rfl) (by kernel_rfl) (fun _ _ _ h => h) (Or.inl ⟨by rfl, ?h6⟩) hS ?_
    case h6 => (intro W hW; have cc := cell_of (below_blk K1.out hW) 1 _ rfl; go_simp; try (with_reducible rfl))
    go_simp
    refine wpAnyH_take (i := 7) (v := ?v7) rfl (by kernel_rfl) (by kernel_rfl) (by kernel_rfl) (fun _ _ _ h => h) (Or.inl ⟨by rfl, ?h7⟩) hS ?_
    case h7 => (intro W hW; go_simp; try (with_reducible rfl))
    go_simp
    refine wpAnyH_take (i := 8) (v := ?v8) rfl (by kernel_rfl) (by kernel_rfl) (by kernel_rfl) (fun _ _ _ h => h) (Or.inl ⟨by rfl, ?h8⟩) hS ?_
    case h8 => (intro W hW; have cc := cell_of (below_blk K2.out hW) 1 _ rfl; go_simp; try (with_reducible rfl))
    go_simp
    refine wpAnyH_take (i := 10) (v := ?v9) rfl (by kernel_rfl) (by kernel_rfl) (by kernel_rfl) (fun _ _ _ h => h) (Or.inl ⟨by rfl, ?h9⟩) hS ?_
    case h9 => (intro W hW; go_simp; try (with_reducible rfl))
    go_simp
    refine wpAnyH_take (i := 11) (v := ?v10) rfl (by kernel_rfl) (by kernel_rfl) (by kernel_rfl) (fun _ _ _ h => h) (Or.inl ⟨by rfl, ?h10⟩) hS ?_
    case h10 => (intro W hW; have cc := cell_of (below_blk K1.out hW) 2 _ rfl; go_simp; try (with_reducible rfl))
    go_simp
    refine wpAnyH_take (i := 12) (v := ?v11) rfl (by kernel_rfl) (by kernel_rfl) (by kernel_rfl) (fun _ _ _ h => h) (Or.inl ⟨by rfl, ?h11⟩) hS ?_
    case h11 => (intro W hW; go_simp; try (with_reducible rfl))
    go_simp
    refine wpAnyH_take (i := 13) (v := ?v12) rfl (by kernel_rfl) (by kernel_rfl) (by kernel_rfl) (fun _ _ _ h => h) (Or.inl ⟨by rfl, ?h12⟩) hS ?_
    case h12 => (intro W hW; have cc := cell_of (below_blk K2.out hW) 2 _ rfl; go_simp; try (with_reducible rfl))
    go_simp
    refine wpAnyH_ready (rs := [4, 16]) (by kernel_rfl) (by simp) ?_
    refine AllReadyH.cons rfl (fun K hK => ?_) ?_
    · go_simp
      go_wp2_with fail
      refine (HL1.out _).mono ?_
      rintro e w_ ⟨rfl, hw_⟩
      replace hw_ := hw_.symm
      subst hw_
      refine hK.out _ _ hS (fun hS => ?_)
      clear hK K
      refine wpAnyH_ready (rs := [9, 16]) (by kernel_rfl) (by simp) ?_
      refine AllReadyH.cons rfl (fun K hK => ?_) ?_
      · go_simp
        go_wp2_with fail
        refine (HL2.out _).mono ?_
        rintro e w_ ⟨rfl, hw_⟩
        replace hw_ := hw_.symm
        subst hw_
        refine hK.out _ _ hS (fun hS => ?_)
        clear hK K
        refine wpAnyH_ready (rs := [14, 16]) (by kernel_rfl) (by simp) ?_
        refine AllReadyH.cons rfl (fun K hK => ?_) ?_
        · go_simp
          go_wp2_with fail
          refine (HL3.out _).mono ?_
          rintro e w_ ⟨rfl, hw_⟩
          replace hw_ := hw_.symm
          subst hw_
          refine hK.out _ _ hS (fun hS => ?_)
          clear hK K
          refine wpAnyH_take (i := 15) (v := ?v13) rfl (by kernel_rfl) (by kernel_rfl) (by kernel_rfl) (fun _ _ _ h => h) (Or.inl ⟨by rfl, ?h13⟩) hS ?_
          case h13 => (intro W hW; go_simp; try (with_reducible rfl))
          go_simp
          refine wpAnyH_ready (rs := [16]) (by kernel_rfl) (by simp) ?_
          refine AllReadyH.cons rfl (fun K hK => ?_) ?_
          · go_simp
            have h12 : (D.alloc (.cells #[.int .i64 0, .int .i64 0, .int .u64 0, .slice none 0 0, .slice none 0 0] 26)).heap[D.heap.size]? = some (.cells #[.int .i64 0, .int .i64 0, .int .u64 0, .slice none 0 0, .slice none 0 0] 26) := new_at _ _
            have hsz : (D.alloc (.cells #[.int .i64 0, .int .i64 0, .int .u64 0, .slice none 0 0, .slice none 0 0] 26)).heap.size = D.heap.size + 1 := size_alloc _ _
            refine hK.out _ _ (hS.alloc hS.size _) (fun hS => ?_)
            clear hK K
            rw [hsD.out] at h12 hsz ⊢
            generalize D.alloc (.cells #[.int .i64 0, .int .i64 0, .int .u64 0, .slice none 0 0, .slice none 0 0] 26) = zo at *
            refine wpAnyH_ready (rs := [17]) (by kernel_rfl) (by simp) ?_
            refine AllReadyH.cons rfl (fun K hK => ?_) ?_
            · have q0 := cell_of h12 0 (.int .i64 0) rfl
              have f0 := fz_of h12 0
              have q1 := cell_of h12 1 (.int .i64 0) rfl
              have f1 := fz_of h12 1
              have q2 := cell_of h12 2 (.int .u64 0) rfl
              have f2 := fz_of h12 2
              have q3 := cell_of h12 3 (.slice none 0 0) rfl
              have f3 := fz_of h12 3
              have q4 := cell_of h12 4 (.slice none 0 0) rfl
              have f4 := fz_of h12 4
              have P5 := put5 h12 (.int .i64 (lat xl yl)) (.int .i64 (lat xn yn)) (.int .u64 (lat xq yq)) (.slice none 0 0) (.slice none 0 0)
              have hSF : Below W3.heap.size W3 (((((zo.setCell ⟨go, 0, none⟩ (.int .i64 (lat xl yl))).setCell ⟨go, 1, none⟩ (.int .i64 (lat xn yn))).setCell ⟨go, 2, none⟩ (.int .u64 (lat xq yq))).setCell ⟨go, 3, none⟩ (.slice none 0 0)).setCell ⟨go, 4, none⟩ (.slice none 0 0)) := ((Fp.of (P := fun j => W3.heap.size ≤ j) hS).tr (P5.2.wide (fun j _ h => .inl (by show W3.heap.size ≤ j; have := hs3.out; omega)))).base (Nat.le_refl _) (fun _ h => h)
              have PM : Hid (M3 w ga gb gr go #[.int .i64 xl, .int .i64 xn, .int .u64 xq, .slice a nxg c, .slice a' nxc c'] #[.int .i64 yl, .int .i64 yn, .int .u64 yq, .slice b nyg d, .slice b' nyc d'] #[.int .i64 0, .int .i64 0, .int .u64 0, .slice none 0 0, .slice none 0 0] #[.int .i64 (lat xl yl), .int .i64 (lat xn yn), .int .u64 (lat xq yq), .slice none 0 0, .slice none 0 0] (((((zo.setCell ⟨go, 0, none⟩ (.int .i64 (lat xl yl))).setCell ⟨go, 1, none⟩ (.int .i64 (lat xn yn))).setCell ⟨go, 2, none⟩ (.int .u64 (lat xq yq))).setCell ⟨go, 3, none⟩ (.slice none 0 0)).setCell ⟨go, 4, none⟩ (.slice none 0 0))) := ⟨below_blk K1.out hSF, below_blk K2.out hSF, below_blk K3.out hSF, P5.1, Below.up LO.out hSF, by simpa using hsz⟩
              replace P5 := hid P5
              replace hsz := hid hsz
              replace h12 := hid h12
              go_simp
              refine hK.out _ _ hSF (fun hS => ?_)
              clear hK K
              refine wpAnyH_done (by kernel_rfl) ?_ _
              go_wp2_with fail
              go_meet
              case rel => exact ⟨rfl, PM.out⟩
            exact AllReadyH.nil
          exact AllReadyH.nil
        refine AllReadyH.cons rfl (fun K hK => ?_) ?_
        · go_simp
          have h12 : (D.alloc (.cells #[.int .i64 0, .int .i64 0, .int .u64 0, .slice none 0 0, .slice none 0 0] 26)).heap[D.heap.size]? = some (.cells #[.int .i64 0, .int .i64 0, .int .u64 0, .slice none 0 0, .slice none 0 0] 26) := new_at _ _
          have hsz : (D.alloc (.cells #[.int .i64 0, .int .i64 0, .int .u64 0, .slice none 0 0, .slice none 0 0] 26)).heap.size = D.heap.size + 1 := size_alloc _ _
          refine hK.out _ _ (hS.alloc hS.size _) (fun hS => ?_)
          clear hK K
          rw [hsD.out] at h12 hsz ⊢
          generalize D.alloc (.cells #[.int .i64 0, .int .i64 0, .int .u64 0, .slice none 0 0, .slice none 0 0] 26) = zo at *
          refine wpAnyH_ready (rs := [14]) (by kernel_rfl) (by simp) ?_
          refine AllReadyH.cons rfl (fun K hK => ?_) ?_
          · go_simp
            go_wp2_with fail
            refine (HL3.out _).mono ?_
            rintro e w_ ⟨rfl, hw_⟩
            replace hw_ := hw_.symm
            subst hw_
            refine hK.out _ _ hS (fun hS => ?_)
            clear hK K
            refine wpAnyH_take (i := 15) (v := ?v14) rfl (by kernel_rfl) (by kernel_rfl) (by kernel_rfl) (fun _ _ _ h => h) (Or.inl ⟨by rfl, ?h14⟩) hS ?_
            case h14 => (intro W hW; go_simp; try (with_reducible rfl))
            go_simp
            refine wpAnyH_ready (rs := [17]) (by kernel_rfl) (by simp) ?_
            refine AllReadyH.cons rfl (fun K hK => ?_) ?_
            · have q0 := cell_of h12 0 (.int .i64 0) rfl
              have f0 := fz_of h12 0
              have q1 := cell_of h12 1 (.int .i64 0) rfl
              have f1 := fz_of h12 1
              have q2 := cell_of h12 2 (.int .u64 0) rfl
              have f2 := fz_of h12 2
              have q3 := cell_of h12 3 (.slice none 0 0) rfl
              have f3 := fz_of h12 3
              have q4 := cell_of h12 4 (.slice none 0 0) rfl
              have f4 := fz_of h12 4
              have P5 := put5 h12 (.int .i64 (lat xl yl)) (.int .i64 (lat xn yn)) (.int .u64 (lat xq yq)) (.slice none 0 0) (.slice none 0 0)
              have hSF : Below W3.heap.size W3 (((((zo.setCell ⟨go, 0, none⟩ (.int .i64 (lat xl yl))).setCell ⟨go, 1, none⟩ (.int .i64 (lat xn yn))).setCell ⟨go, 2, none⟩ (.int .u64 (lat xq yq))).setCell ⟨go, 3, none⟩ (.slice none 0 0)).setCell ⟨go, 4, none⟩ (.slice none 0 0)) := ((Fp.of (P := fun j => W3.heap.size ≤ j) hS).tr (P5.2.wide (fun j _ h => .inl (by show W3.heap.size ≤ j; have := hs3.out; omega)))).base (Nat.le_refl _) (fun _ h => h)
              have PM : Hid (M3 w ga gb gr go #[.int .i64 xl, .int .i64 xn, .int .u64 xq, .slice a nxg c, .slice a' nxc c'] #[.int .i64 yl, .int .i64 yn, .int .u64 yq, .slice b nyg d, .slice b' nyc d'] #[.int .i64 0, .int .i64 0, .int .u64 0, .slice none 0 0, .slice none 0 0] #[.int .i64 (lat xl yl), .int .i64 (lat xn yn), .int .u64 (lat xq yq), .slice none 0 0, .slice none 0 0] (((((zo.setCell ⟨go, 0, none⟩ (.int .i64 (lat xl yl))).setCell ⟨go, 1, none⟩ (.int .i64 (lat xn yn))).setCell ⟨go, 2, none⟩ (.int .u64 (lat xq yq))).setCell ⟨go, 3, none⟩ (.slice none 0 0)).setCell ⟨go, 4, none⟩ (.slice none 0 0))) := ⟨below_blk K1.out hSF, below_blk K2.out hSF, below_blk K3.out hSF, P5.1, Below.up LO.out hSF, by simpa using hsz⟩
              replace P5 := hid P5
              replace hsz := hid hsz
              replace h12 := hid h12
              go_simp
              refine hK.out _ _ hSF (fun hS => ?_)
              clear hK K
              refine wpAnyH_done (by kernel_rfl) ?_ _
              go_wp2_with fail
              go_meet
              case rel => exact ⟨rfl, PM.out⟩
            exact AllReadyH.nil
          exact AllReadyH.nil
        exact AllReadyH.nil
      refine AllReadyH.cons rfl (fun K hK => ?_) ?_
      · go_simp
        have h12 : (D.alloc (.cells #[.int .i64 0, .int .i64 0, .int .u64 0, .slice none 0 0, .slice none 0 0] 26)).heap[D.heap.size]? = some (.cells #[.int .i64 0, .int .i64 0, .int .u64 0, .slice none 0 0, .slice none 0 0] 26) := new_at _ _
        have hsz : (D.alloc (.cells #[.int .i64 0, .int .i64 0, .int .u64 0, .slice none 0 0, .slice none 0 0] 26)).heap.size = D.heap.size + 1 := size_alloc _ _
        refine hK.out _ _ (hS.alloc hS.size _) (fun hS => ?_)
        clear hK K
        rw [hsD.out] at h12 hsz ⊢
        generalize D.alloc (.cells #[.int .i64 0, .int .i64 0, .int .u64 0, .slice none 0 0, .slice none 0 0] 26) = zo at *
        refine wpAnyH_ready (rs := [9]) (by kernel_rfl) (by simp) ?_
        refine AllReadyH.cons rfl (fun K hK => ?_) ?_
        · go_simp
          go_wp2_with fail
          refine (HL2.out _).mono ?_
          rintro e w_ ⟨rfl, hw_⟩
          replace hw_ := hw_.symm
          subst hw_
          refine hK.out _ _ hS (fun hS => ?_)
          clear hK K
          refine wpAnyH_ready (rs := [14]) (by kernel_rfl) (by simp) ?_
          refine AllReadyH.cons rfl (fun K hK => ?_) ?_
          · go_simp
            go_wp2_with fail
            refine (HL3.out _).mono ?_
            rintro e w_ ⟨rfl, hw_⟩
            replace hw_ := hw_.symm
            subst hw_
            refine hK.out _ _ hS (fun hS => ?_)
            clear hK K
            refine wpAnyH_take (i := 15) (v := ?v15) rfl (by kernel_rfl) (by kernel_rfl) (by kernel_rfl) (fun _ _ _ h => h) (Or.inl ⟨by rfl, ?h15⟩) hS ?_
            case h15 => (intro W hW; go_simp; try (with_reducible rfl))
            go_simp
            refine wpAnyH_ready (rs := [17]) (by kernel_rfl) (by simp) ?_
            refine AllReadyH.cons rfl (fun K hK => ?_) ?_
            · have q0 := cell_of h12 0 (.int .i64 0) rfl
              have f0 := fz_of h12 0
              have q1 := cell_of h12 1 (.int .i64 0) rfl
              have f1 := fz_of h12 1
              have q2 := cell_of h12 2 (.int .u64 0) rfl
              have f2 := fz_of h12 2
              have q3 := cell_of h12 3 (.slice none 0 0) rfl
              have f3 := fz_of h12 3
              have q4 := cell_of h12 4 (.slice none 0 0) rfl
              have f4 := fz_of h12 4
              have P5 := put5 h12 (.int .i64 (lat xl yl)) (.int .i64 (lat xn yn)) (.int .u64 (lat xq yq)) (.slice none 0 0) (.slice none 0 0)
              have hSF : Below W3.heap.size W3 (((((zo.setCell ⟨go, 0, none⟩ (.int .i64 (lat xl yl))).setCell ⟨go, 1, none⟩ (.int .i64 (lat xn yn))).setCell ⟨go, 2, none⟩ (.int .u64 (lat xq yq))).setCell ⟨go, 3, none⟩ (.slice none 0 0)).setCell ⟨go, 4, none⟩ (.slice none 0 0)) := ((Fp.of (P := fun j => W3.heap.size ≤ j) hS).tr (P5.2.wide (fun j _ h => .inl (by show W3.heap.size ≤ j; have := hs3.out; omega)))).base (Nat.le_refl _) (fun _ h => h)
              have PM : Hid (M3 w ga gb gr go #[.int .i64 xl, .int .i64 xn, .int .u64 xq, .slice a nxg c, .slice a' nxc c'] #[.int .i64 yl, .int .i64 yn, .int .u64 yq, .slice b nyg d, .slice b' nyc d'] #[.int .i64 0, .int .i64 0, .int .u64 0, .slice none 0 0, .slice none 0 0] #[.int .i64 (lat xl yl), .int .i64 (lat xn yn), .int .u64 (lat xq yq), .slice none 0 0, .slice none 0 0] (((((zo.setCell ⟨go, 0, none⟩ (.int .i64 (lat xl yl))).setCell ⟨go, 1, none⟩ (.int .i64 (lat xn yn))).setCell ⟨go, 2, none⟩ (.int .u64 (lat xq yq))).setCell ⟨go, 3, none⟩ (.slice none 0 0)).setCell ⟨go, 4, none⟩ (.slice none 0 0))) := ⟨below_blk K1.out hSF, below_blk K2.out hSF, below_blk K3.out hSF, P5.1, Below.up LO.out hSF, by simpa using hsz⟩
              replace P5 := hid P5
              replace hsz := hid hsz
              replace h12 := hid h12
              go_simp
              refine hK.out _ _ hSF (fun hS => ?_)
              clear hK K
              refine wpAnyH_done (by kernel_rfl) ?_ _
              go_wp2_with fail
              go_meet
              case rel => exact ⟨rfl, PM.out⟩
            exact AllReadyH.nil
          exact AllReadyH.nil
        exact AllReadyH.nil
      exact AllReadyH.nil
    refine AllReadyH.cons rfl (fun K hK => ?_) ?_
    · go_simp
      have h12 : (D.alloc (.cells #[.int .i64 0, .int .i64 0, .int .u64 0, .slice none 0 0, .slice none 0 0] 26)).heap[D.heap.size]? = some (.cells #[.int .i64 0, .int .i64 0, .int .u64 0, .slice none 0 0, .slice none 0 0] 26) := new_at _ _
      have hsz : (D.alloc (.cells #[.int .i64 0, .int .i64 0, .int .u64 0, .slice none 0 0, .slice none 0 0] 26)).heap.size = D.heap.size + 1 := size_alloc _ _
      refine hK.out _ _ (hS.alloc hS.size _) (fun hS => ?_)
      clear hK K
      rw [hsD.out] at h12 hsz ⊢
      generalize D.alloc (.cells #[.int .i64 0, .int .i64 0, .int .u64 0, .slice none 0 0, .slice none 0 0] 26) = zo at *
      refine wpAnyH_ready (rs := [4]) (by kernel_rfl) (by simp) ?_
      refine AllReadyH.cons rfl (fun K hK => ?_) ?_
      · go_simp
        go_wp2_with fail
        refine (HL1.out _).mono ?_
        rintro e w_ ⟨rfl, hw_⟩
        replace hw_ := hw_.symm
        subst hw_
        refine hK.out _ _ hS (fun hS => ?_)
        clear hK K
        refine wpAnyH_ready (rs := [9]) (by kernel_rfl) (by simp) ?_
        refine AllReadyH.cons rfl (fun K hK => ?_) ?_
        · go_simp
          go_wp2_with fail
          refine (HL2.out _).mono ?_
          rintro e w_ ⟨rfl, hw_⟩
          replace hw_ := hw_.symm
          subst hw_
          refine hK.out _ _ hS (fun hS => ?_)
          clear hK K
          refine wpAnyH_ready (rs := [14]) (by kernel_rfl) (by simp) ?_
          refine AllReadyH.cons rfl (fun K hK => ?_) ?_
          · go_simp
            go_wp2_with fail
            refine (HL3.out _).mono ?_
            rintro e w_ ⟨rfl, hw_⟩
            replace hw_ := hw_.symm
            subst hw_
            refine hK.out _ _ hS (fun hS => ?_)
            clear hK K
            refine wpAnyH_take (i := 15) (v := ?v16) rfl (by kernel_rfl) (by kernel_rfl) (by kernel_rfl) (fun _ _ _ h => h) (Or.inl ⟨by rfl, ?h16⟩) hS ?_
            case h16 => (intro W hW; go_simp; try (with_reducible rfl))
            go_simp
            refine wpAnyH_ready (rs := [17]) (by kernel_rfl) (by simp) ?_
            refine AllReadyH.cons rfl (fun K hK => ?_) ?_
            · have q0 := cell_of h12 0 (.int .i64 0) rfl
              have f0 := fz_of h12 0
              have q1 := cell_of h12 1 (.int .i64 0) rfl
              have f1 := fz_of h12 1
              have q2 := cell_of h12 2 (.int .u64 0) rfl
              have f2 := fz_of h12 2
              have q3 := cell_of h12 3 (.slice none 0 0) rfl
              have f3 := fz_of h12 3
              have q4 := cell_of h12 4 (.slice none 0 0) rfl
              have f4 := fz_of h12 4
              have P5 := put5 h12 (.int .i64 (lat xl yl)) (.int .i64 (lat xn yn)) (.int .u64 (lat xq yq)) (.slice none 0 0) (.slice none 0 0)
              have hSF : Below W3.heap.size W3 (((((zo.setCell ⟨go, 0, none⟩ (.int .i64 (lat xl yl))).setCell ⟨go, 1, none⟩ (.int .i64 (lat xn yn))).setCell ⟨go, 2, none⟩ (.int .u64 (lat xq yq))).setCell ⟨go, 3, none⟩ (.slice none 0 0)).setCell ⟨go, 4, none⟩ (.slice none 0 0)) := ((Fp.of (P := fun j => W3.heap.size ≤ j) hS).tr (P5.2.wide (fun j _ h => .inl (by show W3.heap.size ≤ j; have := hs3.out; omega)))).base (Nat.le_refl _) (fun _ h => h)
              have PM : Hid (M3 w ga gb gr go #[.int .i64 xl, .int .i64 xn, .int .u64 xq, .slice a nxg c, .slice a' nxc c'] #[.int .i64 yl, .int .i64 yn, .int .u64 yq, .slice b nyg d, .slice b' nyc d'] #[.int .i64 0, .int .i64 0, .int .u64 0, .slice none 0 0, .slice none 0 0] #[.int .i64 (lat xl yl), .int .i64 (lat xn yn), .int .u64 (lat xq yq), .slice none 0 0, .slice none 0 0] (((((zo.setCell ⟨go, 0, none⟩ (.int .i64 (lat xl yl))).setCell ⟨go, 1, none⟩ (.int .i64 (lat xn yn))).setCell ⟨go, 2, none⟩ (.int .u64 (lat xq yq))).setCell ⟨go, 3, none⟩ (.slice none 0 0)).setCell ⟨go, 4, none⟩ (.slice none 0 0))) := ⟨below_blk K1.out hSF, below_blk K2.out hSF, below_blk K3.out hSF, P5.1, Below.up LO.out hSF, by simpa using hsz⟩
              replace P5 := hid P5
              replace hsz := hid hsz
              replace h12 := hid h12
              go_simp
              refine hK.out _ _ hSF (fun hS => ?_)
              clear hK K
              refine wpAnyH_done (by kernel_rfl) ?_ _
              go_wp2_with fail
              go_meet
              case rel => exact ⟨rfl, PM.out⟩
            exact AllReadyH.nil
          exact AllReadyH.nil
        exact AllReadyH.nil
      exact AllReadyH.nil
    exact AllReadyH.nil
  case rest =>
    --STOP1
    obtain ⟨rfl, M⟩ := hcut
    have hsc : Hid (wc.heap.size = m6) := by show _ = _; rw [M.s]; exact hm6.out
    have M0 := Ms.start M hga.out hgb.out hgr.out hgo.out hm6.out hm7.out
    rw [hbase.out] at M0
    clear M
    obtain ⟨W0, hW0⟩ : ∃ W0, W0 = (wc.alloc (.map #[] 0)).alloc (.map #[] 0) := ⟨_, rfl⟩
    rw [← hW0] at M0
    obtain ⟨v4, W1, r1, o1, w1, q1⟩ := El.app ePl W0 base _ [] M0.x a nxg c xg (A1.out W0 M0.lo) (by have := hl.out; show (0 + nxg) * 16 ≤ _; omega) (by have := hl.out; show 0 + nxg ≤ _; omega) (by have := M0.d; omega)
    rw [List.nil_append] at o1
    obtain ⟨va, vn, vc, rfl⟩ := row_any o1
    obtain ⟨M1, kg1⟩ := M0.app4 _ W1 xg o1 w1 q1
    have z3 := cell_of kg1 3 _ rfl
    have f3 := fz_of kg1 3
    have l0 := cell_of M0.a 3 _ rfl
    have l1 := cell_of M0.o 3 _ rfl
    have nag : ga ≠ go := by have := M0.d; omega
    have l2 : W1.cell? ⟨ga, 4, none⟩ = some (.slice a' nxc c') := cell_of ((set_ne W1 go ga 3 _ nag).symm.trans M1.a) 4 _ rfl
    obtain ⟨W2, hW2⟩ : ∃ W2, W2 = W1.setCell ⟨go, 3, none⟩ (.slice va vn vc) := ⟨_, rfl⟩
    rw [← hW2] at M1
    rw [hW0] at l0 l1
    replace M1 := hid M1
    replace r1 := hid r1
    replace hW0 := hid hW0
    replace hW2 := hid hW2
    have mk1 := mk_run 87 wc
    have mk2 := mk_run 87 (wc.alloc (.map #[] 0))
    rw [size_alloc] at mk2
    clear M0 o1 w1 q1 kg1 K1 K2 K3 LO HL1 HL2 HL3
    go_wp2_with (first | (at_builtin; rw [← hW0.out, hsc.out, hm7.out]; refine wpList_append_run rfl (.tmp 37) (.tmp 39) 23 23 rfl (.slice none 0 0) (.slice a nxg c) (.slice va vn vc) rfl rfl r1.out ?_))
    rw [← hW2.out]
    clear z3 f3 l0 l1 l2 r1 hW0 hW2 mk1 mk2
    go_loopw [45] (fun i wr => ∃ k : Nat, i = .int .i64 k ∧ k ≤ nxc ∧ ∃ k6, (∀ p, p ∈ k6 ↔ p ∈ (xc.take k).map Ad.pl) ∧ Ms w ga gb gr go m6 m7 base #[.int .i64 xl, .int .i64 xn, .int .u64 xq, .slice a nxg c, .slice a' nxc c'] #[.int .i64 yl, .int .i64 yn, .int .u64 yq, .slice b nyg d, .slice b' nyc d'] #[.int .i64 0, .int .i64 0, .int .u64 0, .slice none 0 0, .slice none 0 0] (.int .i64 (lat xl yl)) (.int .i64 (lat xn yn)) (.int .u64 (lat xq yq)) wr (.slice va vn vc) (.slice none 0 0) k6 [] xg []) (fun i _ => nxc - (intOf i).toNat)
    case atStart => exact ⟨0, rfl, by omega, [], by simp, M1.out⟩
    case round =>
      obtain ⟨k, rfl, hk, k6, hk6, M⟩ := hrel
      replace hk6 := hid hk6
      by_cases hlt : k < nxc
      · have AA := A2.out wr M.lo
        cases a' with
        | none => have := (AA.nil rfl).1; omega
        | some ad =>
          obtain ⟨p, off, sp⟩ := ad
          obtain ⟨rfl, hat⟩ := AA.cells p off sp rfl (by omega)
          have hat := ad_at (hat k hlt)
          have hlc := AA.c
          obtain ⟨y, hy⟩ : ∃ y, y = xc.getD k eAd.z := ⟨_, rfl⟩
          rw [← hy] at hat
          obtain ⟨el, en, ez, ea, eb, elo, ehi⟩ := y
          obtain ⟨e1, e2, e3, e4, e5, e6, e7⟩ := hat
          simp only [show eAd.k = 7 from rfl] at e1 e2 e3 e4 e5 e6 e7
          have ik0 : (k : Int) < (nxc : Int) := by omega
          have ok0 : (0 : Int) ≤ (k : Int) := by omega
          replace hy := hid hy
          have HP := hid (place_any el en ez ea eb elo ehi (wr.alloc (.cells #[.int .i64 el, .int .i64 en, .int .i64 ez, .string ea, .string eb, .int .u64 elo, .int .u64 ehi] 60)))
          have MA := hid (M.later (box_below wr (.cells #[.int .i64 el, .int .i64 en, .int .i64 ez, .string ea, .string eb, .int .u64 elo, .int .u64 ehi] 60)))
          replace AA := hid AA
          replace M := hid M
          go_wp2_with fail
          refine HP.out.mono ?_
          rintro e w1 ⟨rfl, b2⟩
          obtain ⟨W', r', M', -⟩ := (MA.out.later b2).put6 ⟨el, en⟩
          unfold kvP at r' ⊢
          replace M' := hid M'
          dsimp only at r' ⊢
          clear HP MA b2 M e1 e2 e3 e4 e5 e6 e7
          go_wp2_with fail
          go_roundw
          case rel =>
            refine ⟨k + 1, by go_num, by omega, _, ?_, M'.out⟩
            intro q
            rw [mem_ins, hk6.out q, El.take_snoc (E := eAd) (by rw [hxc.out]; exact hlt), ← hy.out]
            simp [Ad.pl]
          case measure => simp [intOf]; omega
      · have hke : k = nxc := by omega
        subst hke
        have hk6' : Hid (∀ p, p ∈ k6 ↔ p ∈ xc.map Ad.pl) := by
          intro p
          have := hk6.out p
          rwa [← hxc.out, List.take_length] at this
        clear hk6
        have u1 := cell_of M.b 3 _ rfl
        replace M := hid M
        go_wp2_with fail
        --STOP2
        go_loopw [57] (fun i wr => ∃ k2 : Nat, i = .int .i64 k2 ∧ k2 ≤ nyg ∧ ∃ v4 k7, (∀ p, p ∈ k7 ↔ p ∈ yg.take k2) ∧ Ms w ga gb gr go m6 m7 base #[.int .i64 xl, .int .i64 xn, .int .u64 xq, .slice a nxg c, .slice a' k c'] #[.int .i64 yl, .int .i64 yn, .int .u64 yq, .slice b nyg d, .slice b' nyc d'] #[.int .i64 0, .int .i64 0, .int .u64 0, .slice none 0 0, .slice none 0 0] (.int .i64 (lat xl yl)) (.int .i64 (lat xn yn)) (.int .u64 (lat xq yq)) wr v4 (.slice none 0 0) k6 k7 (xg ++ (yg.take k2).filter (fun p => !decide (p ∈ xc.map Ad.pl))) []) (fun i _ => nyg - (intOf i).toNat)
        case atStart => exact ⟨0, rfl, by omega, _, [], by simp, by simpa using M.out⟩
        case round =>
          clear M
          obtain ⟨k2, rfl, hk2, v4, k7, hk7, M⟩ := hrel
          replace hk7 := hid hk7
          by_cases hlt : k2 < nyg
          · have AA := B1.out wr M.lo
            cases b with
            | none => have := (AA.nil rfl).1; omega
            | some ad =>
              obtain ⟨p, off, sp⟩ := ad
              obtain ⟨rfl, hat⟩ := AA.cells p off sp rfl (by omega)
              have hat := pl_at (hat k2 hlt)
              have hlc := AA.c
              obtain ⟨y, hy⟩ : ∃ y, y = yg.getD k2 ePl.z := ⟨_, rfl⟩
              rw [← hy] at hat
              obtain ⟨el, en⟩ := y
              obtain ⟨e1, e2⟩ := hat
              simp only [show ePl.k = 2 from rfl] at e1 e2
              have ik0 : (k2 : Int) < (nyg : Int) := by omega
              have ok0 : (0 : Int) ≤ (k2 : Int) := by omega
              have htk : Hid (yg.take (k2 + 1) = yg.take k2 ++ [⟨el, en⟩]) := by show _ = _; rw [El.take_snoc (E := ePl) (by rw [hyg.out]; exact hlt), ← hy]
              have b1 := box_below wr (.cells #[.int .i64 el, .int .i64 en] 57)
              obtain ⟨W', r', M', gr'⟩ := (M.later b1).put7 ⟨el, en⟩
              have kB := grown_blk (new_at wr (.cells #[.int .i64 el, .int .i64 en] 57)) gr' (by rintro j e; cases e; have := M.d; omega)
              have x0 := cell_of kB 0 _ rfl
              have x1 := cell_of kB 1 _ rfl
              have hgB : wr.heap.size < W'.heap.size := blk_lt kB
              have look := M'.c.look ⟨el, en⟩
              have hk7' : Hid (∀ p, p ∈ ins k7 ⟨el, en⟩ ↔ p ∈ yg.take (k2 + 1)) := by
                intro p
                rw [mem_ins, htk.out, hk7.out p, List.mem_append, List.mem_singleton]
              have nm : wr.heap.size ≠ m7 := by have := M.d; omega
              simp only [show kP.mt = 87 from rfl, show kP.kv = kvP from rfl, kvP] at look r'
              have MB := hid (M'.later (box_below W' (.cells #[] 88)))
              have sB := size_alloc W' (.cells #[] 88)
              by_cases hin : (⟨el, en⟩ : Pl) ∈ k6
              · rw [decide_eq_true hin] at look
                have hfl : Hid ((yg.take (k2 + 1)).filter (fun p => !decide (p ∈ xc.map Ad.pl)) = (yg.take k2).filter (fun p => !decide (p ∈ xc.map Ad.pl))) := by
                  show _ = _
                  rw [htk.out, filter_snoc, if_neg (fun h => by simp only [Bool.not_eq_true', decide_eq_false_iff_not] at h; exact h ((hk6'.out _).1 hin))]
                replace M := hid M
                replace M' := hid M'
                replace AA := hid AA
                clear b1 gr' kB hgB nm sB hin
                go_wp2_with fail
                go_roundw
                case rel => exact ⟨k2 + 1, by go_num, by omega, _, _, hk7'.out, by rw [hfl.out]; exact MB.out⟩
                case measure => simp [intOf]; omega
              · rw [decide_eq_false hin] at look
                have hfl : Hid ((yg.take (k2 + 1)).filter (fun p => !decide (p ∈ xc.map Ad.pl)) = (yg.take k2).filter (fun p => !decide (p ∈ xc.map Ad.pl)) ++ [⟨el, en⟩]) := by
                  show _ = _
                  rw [htk.out, filter_snoc, if_pos (by simp only [Bool.not_eq_true', decide_eq_false_iff_not]; exact fun h => hin ((hk6'.out _).2 h))]
                obtain ⟨W8, hW8⟩ : ∃ W8, W8 = W'.alloc (.cells #[] 88) := ⟨_, rfl⟩
                rw [← hW8] at MB sB
                have kB8 : W8.heap[wr.heap.size]? = some (.cells #[.int .i64 el, .int .i64 en] 57) := by rw [hW8]; exact below_blk kB (box_below _ _)
                have l3 := cell_of MB.out.o 3 _ rfl
                obtain ⟨ua, un, uc, rfl⟩ := row_any M.x
                obtain ⟨v9, W9, r9, o9, w9, q9⟩ := El.app1 ePl W8 base _ _ ⟨el, en⟩ #[.int .i64 el, .int .i64 en] rfl MB.out.x (by show (_ + 1) * 16 ≤ _; have := hl.out; have h1 := List.length_filter_le (fun p => !decide (p ∈ xc.map Ad.pl)) (yg.take k2); rw [List.length_append]; rw [List.length_take] at h1; have := hxg.out; omega) (by have := hl.out; have h1 := List.length_filter_le (fun p => !decide (p ∈ xc.map Ad.pl)) (yg.take k2); rw [List.length_append]; rw [List.length_take] at h1; have := hxg.out; omega) (by have := MB.out.d; omega)
                rw [List.append_assoc, ← hfl.out] at o9
                obtain ⟨va9, vn9, vc9, rfl⟩ := row_any o9
                obtain ⟨M9, kg9⟩ := MB.out.app4 _ W9 _ o9 w9 q9
                have z3 := cell_of kg9 3 _ rfl
                have f3 := fz_of kg9 3
                rw [hW8] at r9 l3
                rw [size_alloc] at r9
                simp only [show ePl.st = 23 from rfl, show ePl.et = 57 from rfl] at r9
                replace r9 := hid r9
                replace M9 := hid M9
                replace M := hid M
                replace M' := hid M'
                replace AA := hid AA
                replace hW8 := hid hW8
                clear b1 gr' kB kB8 nm sB hin MB o9 w9 q9 kg9
                go_wp2_with (first | (at_builtin; refine wpList_append_run rfl (.tmp 73) (.tmp 75) 23 23 rfl (.slice ua un uc) (.slice (some ⟨W'.heap.size + 1, 0, none⟩) 1 1) (.slice va9 vn9 vc9) rfl rfl r9.out ?_))
                go_roundw
                case rel => exact ⟨k2 + 1, by go_num, by omega, _, _, hk7'.out, M9.out⟩
                case measure => simp [intOf]; omega
          · have hke : k2 = nyg := by omega
            subst hke
            have hk7' : Hid (∀ p, p ∈ k7 ↔ p ∈ yg) := by
              intro p
              have := hk7.out p
              rwa [← hyg.out, List.take_length] at this
            rw [show yg.take k2 = yg by rw [← hyg.out, List.take_length]] at M
            clear hk7
            have u1 := cell_of M.a 4 _ rfl
            replace M := hid M
            go_wp2_with fail
            --STOP3
            go_loopw [82] (fun i wr => ∃ k3 : Nat, i = .int .i64 k3 ∧ k3 ≤ k ∧ ∃ v5, Ms w ga gb gr go m6 m7 base #[.int .i64 xl, .int .i64 xn, .int .u64 xq, .slice a nxg c, .slice a' k c'] #[.int .i64 yl, .int .i64 yn, .int .u64 yq, .slice b k2 d, .slice b' nyc d'] #[.int .i64 0, .int .i64 0, .int .u64 0, .slice none 0 0, .slice none 0 0] (.int .i64 (lat xl yl)) (.int .i64 (lat xn yn)) (.int .u64 (lat xq yq)) wr v4 v5 k6 k7 (xg ++ yg.filter (fun p => !decide (p ∈ xc.map Ad.pl))) ((xc.take k3).filter (fun a => !decide (a.pl ∈ yg)))) (fun i _ => k - (intOf i).toNat)
            case atStart => exact ⟨0, rfl, by omega, _, by simpa using M.out⟩
            case round =>
              clear M
              obtain ⟨k3, rfl, hk3, v5, M⟩ := hrel
              by_cases hlt : k3 < k
              · have AA := A2.out wr M.lo
                cases a' with
                | none => have := (AA.nil rfl).1; omega
                | some ad =>
                  obtain ⟨p, off, sp⟩ := ad
                  obtain ⟨rfl, hat⟩ := AA.cells p off sp rfl (by omega)
                  have hat := ad_at (hat k3 hlt)
                  have hlc := AA.c
                  obtain ⟨y, hy⟩ : ∃ y, y = xc.getD k3 eAd.z := ⟨_, rfl⟩
                  rw [← hy] at hat
                  obtain ⟨el, en, ez, ea, eb, elo, ehi⟩ := y
                  obtain ⟨e1, e2, e3, e4, e5, e6, e7⟩ := hat
                  simp only [show eAd.k = 7 from rfl] at e1 e2 e3 e4 e5 e6 e7
                  have ik0 : (k3 : Int) < (k : Int) := by omega
                  have ok0 : (0 : Int) ≤ (k3 : Int) := by omega
                  have htk : Hid (xc.take (k3 + 1) = xc.take k3 ++ [⟨el, en, ez, ea, eb, elo, ehi⟩]) := by show _ = _; rw [El.take_snoc (E := eAd) (by rw [hxc.out]; exact hlt), ← hy]
                  have HP := hid (place_any el en ez ea eb elo ehi (wr.alloc (.cells #[.int .i64 el, .int .i64 en, .int .i64 ez, .string ea, .string eb, .int .u64 elo, .int .u64 ehi] 60)))
                  have MA := hid (M.later (box_below wr (.cells #[.int .i64 el, .int .i64 en, .int .i64 ez, .string ea, .string eb, .int .u64 elo, .int .u64 ehi] 60)))
                  have kA := hid (new_at wr (.cells #[.int .i64 el, .int .i64 en, .int .i64 ez, .string ea, .string eb, .int .u64 elo, .int .u64 ehi] 60))
                  replace AA := hid AA
                  replace M := hid M
                  replace hy := hid hy
                  go_wp2_with fail
                  refine HP.out.mono ?_
                  rintro e w1 ⟨rfl, b2⟩
                  have M' := MA.out.later b2
                  have kB := below_blk kA.out b2
                  have look := M'.g.look ⟨el, en⟩
                  simp only [show kP.mt = 87 from rfl, show kP.kv = kvP from rfl, kvP] at look ⊢
                  have MB := hid (M'.later (box_below w1 (.cells #[] 88)))
                  have sB := size_alloc w1 (.cells #[] 88)
                  have hgB : wr.heap.size < w1.heap.size := blk_lt kB
                  by_cases hin : (⟨el, en⟩ : Pl) ∈ k7
                  · rw [decide_eq_true hin] at look
                    have hfl : Hid ((xc.take (k3 + 1)).filter (fun a => !decide (a.pl ∈ yg)) = (xc.take k3).filter (fun a => !decide (a.pl ∈ yg))) := by
                      show _ = _
                      rw [htk.out, filter_snoc, if_neg (fun h => by simp only [Bool.not_eq_true', decide_eq_false_iff_not] at h; exact h ((hk7'.out _).1 hin))]
                    replace M' := hid M'
                    clear b2 kB kA sB hin HP MA
                    go_wp2_with fail
                    go_roundw
                    case rel => exact ⟨k3 + 1, by go_num, by omega, _, by rw [hfl.out]; exact MB.out⟩
                    case measure => simp [intOf]; omega
                  · rw [decide_eq_false hin] at look
                    have hfl : Hid ((xc.take (k3 + 1)).filter (fun a => !decide (a.pl ∈ yg)) = (xc.take k3).filter (fun a => !decide (a.pl ∈ yg)) ++ [⟨el, en, ez, ea, eb, elo, ehi⟩]) := by
                      show _ = _
                      rw [htk.out, filter_snoc, if_pos (by simp only [Bool.not_eq_true', decide_eq_false_iff_not]; exact fun h => hin ((hk7'.out _).2 h))]
                    obtain ⟨W8, hW8⟩ : ∃ W8, W8 = w1.alloc (.cells #[] 88) := ⟨_, rfl⟩
                    rw [← hW8] at MB sB
                    have x0 := cell_of kB 0 _ rfl
                    have x1 := cell_of kB 1 _ rfl
                    have x2 := cell_of kB 2 _ rfl
                    have x3 := cell_of kB 3 _ rfl
                    have x4 := cell_of kB 4 _ rfl
                    have x5 := cell_of kB 5 _ rfl
                    have x6 := cell_of kB 6 _ rfl
                    have l4 := cell_of MB.out.o 4 _ rfl
                    obtain ⟨ua, un, uc, rfl⟩ := row_any M.out.y
                    obtain ⟨v9, W9, r9, o9, w9, q9⟩ := El.app1 eAd W8 base _ _ ⟨el, en, ez, ea, eb, elo, ehi⟩ #[.int .i64 el, .int .i64 en, .int .i64 ez, .string ea, .string eb, .int .u64 elo, .int .u64 ehi] rfl MB.out.y (by show (_ + 1) * 72 ≤ _; have := hl'.out; have h1 := List.length_filter_le (fun a => !decide (a.pl ∈ yg)) (xc.take k3); rw [List.length_take] at h1; omega) (by have := hl'.out; have h1 := List.length_filter_le (fun a => !decide (a.pl ∈ yg)) (xc.take k3); rw [List.length_take] at h1; omega) (by have := MB.out.d; omega)
                    rw [← hfl.out] at o9
                    obtain ⟨va9, vn9, vc9, rfl⟩ := row_any o9
                    obtain ⟨M9, kg9⟩ := MB.out.app5 _ W9 _ o9 w9 q9
                    have z3 := cell_of kg9 4 _ rfl
                    have f3 := fz_of kg9 4
                    rw [hW8] at r9 l4
                    rw [size_alloc] at r9
                    simp only [show eAd.st = 24 from rfl, show eAd.et = 60 from rfl] at r9
                    replace r9 := hid r9
                    replace M9 := hid M9
                    replace M' := hid M'
                    replace hW8 := hid hW8
                    clear b2 kB kA sB hin MB o9 w9 q9 kg9 HP MA
                    go_wp2_with (first | (at_builtin; refine wpList_append_run rfl (.tmp 96) (.tmp 98) 24 24 rfl (.slice ua un uc) (.slice (some ⟨w1.heap.size + 1, 0, none⟩) 1 1) (.slice va9 vn9 vc9) rfl rfl r9.out ?_))
                    go_roundw
                    case rel => exact ⟨k3 + 1, by go_num, by omega, _, M9.out⟩
                    case measure => simp [intOf]; omega
              · have hke : k3 = k := by omega
                subst hke
                rw [show xc.take k3 = xc by rw [← hxc.out, List.take_length]] at M
                obtain ⟨ua, un, uc, rfl⟩ := row_any M.y
                obtain ⟨ua4, un4, uc4, rfl⟩ := row_any M.x
                have l4 := cell_of M.o 4 _ rfl
                have l5 := cell_of M.b 4 _ rfl
                obtain ⟨v9, W9, r9, o9, w9, q9⟩ := El.app eAd wr base _ _ M.y b' nyc d' yc (B2.out wr M.lo) (by show (_ + _) * 72 ≤ _; have := hl'.out; have h1 := List.length_filter_le (fun a => !decide (a.pl ∈ yg)) xc; have := hxc.out; omega) (by have := hl'.out; have h1 := List.length_filter_le (fun a => !decide (a.pl ∈ yg)) xc; have := hxc.out; omega) (by have := M.d; omega)
                obtain ⟨va9, vn9, vc9, rfl⟩ := row_any o9
                obtain ⟨M9, kg9⟩ := M.app5 _ W9 _ o9 w9 q9
                have z3 := cell_of kg9 4 _ rfl
                have f3 := fz_of kg9 4
                obtain ⟨WA, hWA⟩ : ∃ WA, WA = W9.setCell ⟨go, 4, none⟩ (.slice va9 vn9 vc9) := ⟨_, rfl⟩
                rw [← hWA] at M9
                have P5 := put5 M9.r (.int .i64 (lat xl yl)) (.int .i64 (lat xn yn)) (.int .u64 (lat xq yq)) (.slice ua4 un4 uc4) (.slice va9 vn9 vc9)
                obtain ⟨WB, hWB⟩ : ∃ WB, WB = ((((WA.setCell ⟨gr, 0, none⟩ (.int .i64 (lat xl yl))).setCell ⟨gr, 1, none⟩ (.int .i64 (lat xn yn))).setCell ⟨gr, 2, none⟩ (.int .u64 (lat xq yq))).setCell ⟨gr, 3, none⟩ (.slice ua4 un4 uc4)).setCell ⟨gr, 4, none⟩ (.slice va9 vn9 vc9) := ⟨_, rfl⟩
                rw [← hWB] at P5
                have dd := M9.d
                have ngr : gr ≠ go := by omega
                have ngr' : go ≠ gr := by omega
                have kr9 : W9.heap[gr]? = some (.cells #[.int .i64 0, .int .i64 0, .int .u64 0, .slice none 0 0, .slice none 0 0] 26) := by
                  rw [← set_ne W9 go gr 4 (.slice va9 vn9 vc9) ngr, ← hWA]
                  exact M9.r
                have y0 := cell_of kg9 0 _ rfl
                have y1 := cell_of kg9 1 _ rfl
                have y2 := cell_of kg9 2 _ rfl
                have y3 := cell_of kg9 3 _ rfl
                have s0 := cell_of kr9 0 _ rfl
                have s1 := cell_of kr9 1 _ rfl
                have s2 := cell_of kr9 2 _ rfl
                have s3 := cell_of kr9 3 _ rfl
                have s4 := cell_of kr9 4 _ rfl
                have t0 := fz_of kr9 0
                have t1 := fz_of kr9 1
                have t2 := fz_of kr9 2
                have t3 := fz_of kr9 3
                have t4 := fz_of kr9 4
                have E1 : un4 = (xg ++ yg.filter (fun p => !decide (p ∈ xc.map Ad.pl))).length := by obtain ⟨_, _, e⟩ := row_block M.x; cases e; rfl
                have E2 : vn9 = (xc.filter (fun a => !decide (a.pl ∈ yg)) ++ yc).length := by obtain ⟨_, _, e⟩ := row_block o9; cases e; rfl
                have OX : ePl.Own WB base (.slice ua4 un4 uc4) (xg ++ yg.filter (fun p => !decide (p ∈ xc.map Ad.pl))) := own_blocks M9.x (fun j hj => P5.2.block j (own_lt M9.x j hj).2 (fun e => by have := (own_lt M9.x j hj).1; omega))
                have OY : eAd.Own WB base (.slice va9 vn9 vc9) (xc.filter (fun a => !decide (a.pl ∈ yg)) ++ yc) := own_blocks M9.y (fun j hj => P5.2.block j (own_lt M9.y j hj).2 (fun e => by have := (own_lt M9.y j hj).1; omega))
                have BB : Hid (Below w.heap.size w WB) := ((Fp.of (P := fun j => w.heap.size ≤ j) M9.lo).tr (P5.2.wide (fun j _ h => .inl (by show w.heap.size ≤ j; omega)))).base (Nat.le_refl _) (fun _ h => h)
                have EE : Hid (EO WB w.heap.size (.agg #[.int .i64 (lat xl yl), .int .i64 (lat xn yn), .int .u64 (lat xq yq), .slice ua4 un4 uc4, .slice va9 vn9 vc9]) (mrg ⟨xl, xn, xq, xg, xc⟩ ⟨yl, yn, yq, yg, yc⟩)) := by
                  refine ⟨?_, ?_, ?_, ua4, uc4, va9, vc9, ?_, ?_, ?_⟩
                  · refine ⟨?_, ?_, ?_, ?_, ?_⟩
                    · show bd (lat xl yl); unfold lat; split; exact hokx.out.1; exact hoky.out.1
                    · show bd (lat xn yn); unfold lat; split; exact hokx.out.2.1; exact hoky.out.2.1
                    · show bu (lat xq yq); unfold lat; split; exact hokx.out.2.2.1; exact hoky.out.2.2.1
                    · show (xg ++ yg.filter (fun p => !decide (p ∈ xc.map Ad.pl))).length ≤ _
                      have := hl.out; have h1 := List.length_filter_le (fun p => !decide (p ∈ xc.map Ad.pl)) yg; have := hxg.out; have := hyg.out; rw [List.length_append]; omega
                    · show (xc.filter (fun a => !decide (a.pl ∈ yg)) ++ yc).length ≤ _
                      have := hl'.out; have h1 := List.length_filter_le (fun a => !decide (a.pl ∈ yg)) xc; have := hxc.out; have := hyc.out; rw [List.length_append]; omega
                  · intro x hx
                    rcases List.mem_append.1 (show x ∈ (xg ++ yg.filter (fun p => !decide (p ∈ xc.map Ad.pl))) from hx) with h | h
                    · exact xk1.out x h
                    · exact yk1.out x (List.mem_filter.1 h).1
                  · intro x hx
                    rcases List.mem_append.1 (show x ∈ xc.filter (fun a => !decide (a.pl ∈ yg)) ++ yc from hx) with h | h
                    · exact xk2.out x (List.mem_filter.1 h).1
                    · exact yk2.out x h
                  · rw [E1, E2]; rfl
                  · have : (mrg ⟨xl, xn, xq, xg, xc⟩ ⟨yl, yn, yq, yg, yc⟩).go.length = un4 := E1.symm
                    rw [this]
                    exact own_base OX (fun j hj => by have := (own_lt OX j hj).1; omega)
                  · have : (mrg ⟨xl, xn, xq, xg, xc⟩ ⟨yl, yn, yq, yg, yc⟩).co.length = vn9 := E2.symm
                    rw [this]
                    exact own_base OY (fun j hj => by have := (own_lt OY j hj).1; omega)
                have KK := hid P5.1
                rw [hWB, hWA] at BB EE KK
                replace r9 := hid r9
                clear M o9 w9 q9 M9 kg9 hWA hWB P5 dd kr9 OX OY E1 E2
                go_wp2_with (first | (at_builtin; refine wpList_append_run rfl (.tmp 103) (.tmp 105) 24 24 rfl (.slice ua un uc) (.slice b' nyc d') (.slice va9 vn9 vc9) rfl rfl r9.out ?_))
                --STOP4
                have KG := KK.out
                have BG := BB.out
                have EG := EE.out
                generalize ((((((W9.setCell ⟨go, 4, none⟩ (.slice va9 vn9 vc9)).setCell ⟨gr, 0, none⟩ (.int .i64 (lat xl yl))).setCell ⟨gr, 1, none⟩ (.int .i64 (lat xn yn))).setCell ⟨gr, 2, none⟩ (.int .u64 (lat xq yq))).setCell ⟨gr, 3, none⟩ (.slice ua4 un4 uc4)).setCell ⟨gr, 4, none⟩ (.slice va9 vn9 vc9)) = WG at *
                have q0 := cell_of KG 0 _ rfl
                have q1 := cell_of KG 1 _ rfl
                have q2 := cell_of KG 2 _ rfl
                have q3 := cell_of KG 3 _ rfl
                have q4 := cell_of KG 4 _ rfl
                exact bodyPost_ret (v := .agg #[.int .i64 (lat xl yl), .int .i64 (lat xn yn), .int .u64 (lat xq yq), .slice ua4 un4 uc4, .slice va9 vn9 vc9]) (by simp [results, Try.results18, go_sem, q0, q1, q2, q3, q4]) rfl ⟨_, rfl, EG, BG⟩
end Go.Proofs.Ytnpeocoipodmfaa.Mh

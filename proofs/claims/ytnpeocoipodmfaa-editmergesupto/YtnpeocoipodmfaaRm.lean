/- The document's Merge by its contract. -/
import Derived.Test.YtnpeocoipodmfaaMr
import Derived.Deep.Cut
import Derived.Deep.CutRange
namespace Go.Proofs.Ytnpeocoipodmfaa.Rm
open Go.ChangeShapes Go.WideShapes Go.ChangeAt Go.RowKit
open Go.Sort (grow)
open Go.Proofs.Ytnpeocoipodmfaa.Gr
open Go.Proofs.Ytnpeocoipodmfaa.Ev
open Go.Proofs.Ytnpeocoipodmfaa.Ss
open Go.Proofs.Ytnpeocoipodmfaa.Le
open Go.Proofs.Ytnpeocoipodmfaa.Mg
open Go.Proofs.Ytnpeocoipodmfaa.Mh (M3 boxes3 row_any filter_snoc)
open Go.Proofs.Ytnpeocoipodmfaa.Am
open Go.Proofs.Ytnpeocoipodmfaa.Mr
set_option linter.unusedVariables false
set_option linter.unusedSimpArgs false

set_option maxHeartbeats 4000000 in
set_option maxRecDepth 100000 in
theorem rmerge_any (va vb : Value) (x y : Ed) (w : World) (HA : EV w va x) (HB : EV w vb y) (hl : x.go.length + y.go.length ≤ 1099511627776) (hl' : x.co.length + y.co.length ≤ 1099511627776) :
    Calls Try.prog 19 #[va, vb] w fun e w' => ∃ v', e = .returned v' ∧ EO w' w.heap.size v' (mrg x y) ∧ Below w.heap.size w w' := by
  obtain ⟨hokx, a, c, a', c', rfl, A1, A2⟩ := HA
  obtain ⟨hoky, b, d, b', d', rfl, B1, B2⟩ := HB
  have xk1 := A1.ok
  have xk2 := A2.ok
  have yk1 := B1.ok
  have yk2 := B2.ok
  obtain ⟨xl, xn, xq, xg, xc⟩ := x
  obtain ⟨yl, yn, yq, yg, yc⟩ := y
  unfold ev
  dsimp only at A1 A2 B1 B2 xk1 xk2 yk1 yk2 hl hl' ⊢
  obtain ⟨ga, hga⟩ : ∃ m, w.heap.size = m := ⟨_, rfl⟩
  obtain ⟨gb, hgb⟩ : ∃ m, ga + 1 = m := ⟨_, rfl⟩
  obtain ⟨gr, hgr⟩ : ∃ m, gb + 1 = m := ⟨_, rfl⟩
  obtain ⟨go, hgo⟩ : ∃ m, gr + 1 = m := ⟨_, rfl⟩
  obtain ⟨base, hbase⟩ : ∃ m, go + 1 = m := ⟨_, rfl⟩
  obtain ⟨W3, hW3, K1, K2, K3, LO, hs3⟩ := boxes3 w #[.int .i64 xl, .int .i64 xn, .int .u64 xq, .slice a xg.length c, .slice a' xc.length c'] #[.int .i64 yl, .int .i64 yn, .int .u64 yq, .slice b yg.length d, .slice b' yc.length d'] #[.int .i64 0, .int .i64 0, .int .u64 0, .slice none 0 0, .slice none 0 0] ga gb gr go hga hgb hgr hgo
  replace A1 := hid (fun W hb => A1.later (w' := W) hb)
  replace A2 := hid (fun W hb => A2.later (w' := W) hb)
  replace B1 := hid (fun W hb => B1.later (w' := W) hb)
  replace B2 := hid (fun W hb => B2.later (w' := W) hb)
  generalize hxg : xg.length = nxg at *
  generalize hxc : xc.length = nxc at *
  generalize hyg : yg.length = nyg at *
  generalize hyc : yc.length = nyc at *
  have hbx : nxc ≤ 1099511627776 := by omega
  have hby : nyg ≤ 1099511627776 := by omega
  obtain ⟨W4, hW4⟩ : ∃ W, W = W3.alloc (.cells #[.int .i64 xl, .int .i64 xn, .int .u64 xq, .slice a nxg c, .slice a' nxc c'] 26) := ⟨_, rfl⟩
  have b4 : Below W3.heap.size W3 W4 := by rw [hW4]; exact box_below _ _
  have k4 : W4.heap[go]? = some (.cells #[.int .i64 xl, .int .i64 xn, .int .u64 xq, .slice a nxg c, .slice a' nxc c'] 26) := by rw [hW4, ← hs3]; exact new_at _ _
  have s4 : W4.heap.size = base := by rw [hW4, size_alloc, hs3, hbase]
  have LO4 := Below.up LO b4
  obtain ⟨W5, hW5⟩ : ∃ W, W = W4.alloc (.cells #[] 57) := ⟨_, rfl⟩
  have b5 : Below W4.heap.size W4 W5 := by rw [hW5]; exact box_below _ _
  have o5 : ePl.Own W5 W4.heap.size (.slice (some ⟨W4.heap.size, 0, none⟩) 0 0) [] := by rw [hW5]; exact El.Own.made ePl W4
  rw [s4] at o5
  obtain ⟨v4, W6, r6, o6, w6, q6⟩ := El.app ePl W5 base _ [] o5 a nxg c xg (A1.out W5 (Below.up LO4 b5)) (by show (0 + nxg) * 16 ≤ _; omega) (by show 0 + nxg ≤ _; omega) (by have := b5.size; omega)
  rw [List.nil_append] at o6
  obtain ⟨va, vn, vc, rfl⟩ := row_any o6
  have hrow : ∀ j, (Value.slice (some (⟨base, 0, none⟩ : Addr)) 0 0).ownBlock = some j → base ≤ j := by intro j hj; cases hj; exact Nat.le_refl _
  have p1 := grown_blk (below_blk (below_blk K1 b4) b5) w6 (by intro j hj e; have := hrow j hj; omega)
  have p2 := grown_blk (below_blk (below_blk K2 b4) b5) w6 (by intro j hj e; have := hrow j hj; omega)
  have p3 := grown_blk (below_blk (below_blk K3 b4) b5) w6 (by intro j hj e; have := hrow j hj; omega)
  have p4 := grown_blk (below_blk k4 b5) w6 (by intro j hj e; have := hrow j hj; omega)
  have LO6 : Below w.heap.size w W6 := below_grown (Below.up LO4 b5) w6 (by intro j hj; have := hrow j hj; omega)
  have M1 : Mr w ga gb gr go base #[.int .i64 xl, .int .i64 xn, .int .u64 xq, .slice a nxg c, .slice a' nxc c'] #[.int .i64 yl, .int .i64 yn, .int .u64 yq, .slice b nyg d, .slice b' nyc d'] #[.int .i64 0, .int .i64 0, .int .u64 0, .slice none 0 0, .slice none 0 0] (.int .i64 xl) (.int .i64 xn) (.int .u64 xq) ((W6.setCell ⟨go, 3, none⟩ (.slice va vn vc)).setCell ⟨go, 4, none⟩ (.slice none 0 0)) (.slice va vn vc) (.slice none 0 0) xg [] := by
    have G1 := set_grown W6 go 3 (.slice va vn vc)
    have G2 := set_grown (W6.setCell ⟨go, 3, none⟩ (.slice va vn vc)) go 4 (.slice none 0 0)
    refine ⟨grown_blk (grown_blk p1 G1 (by rintro j e; cases e; omega)) G2 (by rintro j e; cases e; omega), grown_blk (grown_blk p2 G1 (by rintro j e; cases e; omega)) G2 (by rintro j e; cases e; omega), grown_blk (grown_blk p3 G1 (by rintro j e; cases e; omega)) G2 (by rintro j e; cases e; omega), ?_, ?_, El.Own.nil _ _ _, below_grown (below_grown LO6 G1 (by rintro j e; cases e; omega)) G2 (by rintro j e; cases e; omega), ?_⟩
    · exact (set_of ((set_of p4 3 _).trans rfl) 4 _).trans rfl
    · exact own_grown (own_grown o6 G1 (by rintro j e k; cases e; have := (own_lt o6 _ k).1; omega)) G2 (by rintro j e k; cases e; have := (own_lt o6 _ k).1; omega)
    · have := w6.size; have := b5.size; simp; omega
  have z3 := cell_of p4 3 _ rfl
  have z4 := cell_of p4 4 _ rfl
  have f3 := fz_of p4 3
  have f4 := fz_of p4 4
  have zb := cell_of p2 0 _ rfl
  have nbo : gb ≠ go := by omega
  obtain ⟨W7, hW7⟩ : ∃ W, W = (W6.setCell ⟨go, 3, none⟩ (.slice va vn vc)).setCell ⟨go, 4, none⟩ (.slice none 0 0) := ⟨_, rfl⟩
  rw [← hW7] at M1
  have l4 := cell_of (below_blk (below_blk K1 b4) b5) 3 _ rfl
  rw [hW5] at r6 l4
  rw [hW3] at hW4
  replace M1 := hid M1
  replace r6 := hid r6
  replace hW4 := hid hW4
  replace hW7 := hid hW7
  replace hokx := hid hokx
  replace hoky := hid hoky
  replace xk1 := hid xk1
  replace xk2 := hid xk2
  replace yk1 := hid yk1
  replace yk2 := hid yk2
  replace hga := hid hga
  replace hgb := hid hgb
  replace hgr := hid hgr
  replace hgo := hid hgo
  replace hbase := hid hbase
  replace hl := hid hl
  replace hl' := hid hl'
  replace hxg := hid hxg
  replace hxc := hid hxc
  replace hyg := hid hyg
  replace hyc := hid hyc
  clear K1 K2 K3 LO hs3 b4 k4 s4 LO4 hW5 b5 o5 o6 w6 q6 hrow p1 p2 p3 p4 LO6 hW3
  go_enter Try.func19, Try.ntmps19
  go_upto_if 17 with (first | (at_builtin; rw [← hW4.out, hga.out, hgb.out, hgr.out, hgo.out, hbase.out]; refine wpList_append_run rfl (.tmp 9) (.tmp 11) 23 23 rfl (.slice (some ⟨base, 0, none⟩) 0 0) (.slice a nxg c) (.slice va vn vc) rfl rfl r6.out ?_))
  rw [← hW7.out]
  clear z3 z4 f3 f4 zb nbo l4 r6 hW4 hW7
  --STOP1
  go_cut [] from 18 to 20 (fun wx => Mr w ga gb gr go base #[.int .i64 xl, .int .i64 xn, .int .u64 xq, .slice a nxg c, .slice a' nxc c'] #[.int .i64 yl, .int .i64 yn, .int .u64 yq, .slice b nyg d, .slice b' nyc d'] #[.int .i64 0, .int .i64 0, .int .u64 0, .slice none 0 0, .slice none 0 0] (.int .i64 (lat xl yl)) (.int .i64 xn) (.int .u64 xq) wx (.slice va vn vc) (.slice none 0 0) xg [])
  case first =>
    by_cases hz : yl = 0
    · have tz : (yl != 0) = false := by simp [hz]
      have hl0 : Hid (lat xl yl = xl) := if_pos hz
      replace hz := hid hz
      go_wp2_with fail
      go_meet
      case rel => rw [hl0.out]; exact M1.out
    · have tz : (yl != 0) = true := by simp [hz]
      have hl0 : Hid (lat xl yl = yl) := if_neg hz
      replace hz := hid hz
      have s0 := cell_of M1.out.b 0 _ rfl
      have s1 := cell_of M1.out.o 0 _ rfl
      have s2 := fz_of M1.out.o 0
      have MS := hid (M1.out.setc 0 (.int .i64 yl) _ _ _ rfl)
      go_wp2_with fail
      go_meet
      case rel => rw [hl0.out]; exact MS.out
  case rest =>
    have M2 := hid hcut
    have zb := cell_of M2.out.b 1 _ rfl
    clear hcut M1
    go_upto_if 23 with fail
    clear zb
    go_cut [] from 24 to 26 (fun wx => Mr w ga gb gr go base #[.int .i64 xl, .int .i64 xn, .int .u64 xq, .slice a nxg c, .slice a' nxc c'] #[.int .i64 yl, .int .i64 yn, .int .u64 yq, .slice b nyg d, .slice b' nyc d'] #[.int .i64 0, .int .i64 0, .int .u64 0, .slice none 0 0, .slice none 0 0] (.int .i64 (lat xl yl)) (.int .i64 (lat xn yn)) (.int .u64 xq) wx (.slice va vn vc) (.slice none 0 0) xg [])
    case first =>
      by_cases hz : yn = 0
      · have tz : (yn != 0) = false := by simp [hz]
        have hl0 : Hid (lat xn yn = xn) := if_pos hz
        replace hz := hid hz
        go_wp2_with fail
        go_meet
        case rel => rw [hl0.out]; exact M2.out
      · have tz : (yn != 0) = true := by simp [hz]
        have hl0 : Hid (lat xn yn = yn) := if_neg hz
        replace hz := hid hz
        have s0 := cell_of M2.out.b 1 _ rfl
        have s1 := cell_of M2.out.o 1 _ rfl
        have s2 := fz_of M2.out.o 1
        have MS := hid (M2.out.setc 1 (.int .i64 yn) _ _ _ rfl)
        go_wp2_with fail
        go_meet
        case rel => rw [hl0.out]; exact MS.out
    case rest =>
      have M3' := hid hcut
      have zb := cell_of M3'.out.b 2 _ rfl
      clear hcut M2
      go_upto_if 29 with fail
      clear zb
      go_cut [] from 30 to 32 (fun wx => Mr w ga gb gr go base #[.int .i64 xl, .int .i64 xn, .int .u64 xq, .slice a nxg c, .slice a' nxc c'] #[.int .i64 yl, .int .i64 yn, .int .u64 yq, .slice b nyg d, .slice b' nyc d'] #[.int .i64 0, .int .i64 0, .int .u64 0, .slice none 0 0, .slice none 0 0] (.int .i64 (lat xl yl)) (.int .i64 (lat xn yn)) (.int .u64 (lat xq yq)) wx (.slice va vn vc) (.slice none 0 0) xg [])
      case first =>
        by_cases hz : yq = 0
        · have tz : (yq != 0) = false := by simp [hz]
          have hl0 : Hid (lat xq yq = xq) := if_pos hz
          replace hz := hid hz
          go_wp2_with fail
          go_meet
          case rel => rw [hl0.out]; exact M3'.out
        · have tz : (yq != 0) = true := by simp [hz]
          have hl0 : Hid (lat xq yq = yq) := if_neg hz
          replace hz := hid hz
          have s0 := cell_of M3'.out.b 2 _ rfl
          have s1 := cell_of M3'.out.o 2 _ rfl
          have s2 := fz_of M3'.out.o 2
          have MS := hid (M3'.out.setc 2 (.int .u64 yq) _ _ _ rfl)
          go_wp2_with fail
          go_meet
          case rel => rw [hl0.out]; exact MS.out
      case rest =>
        have M4 := hid hcut
        clear hcut M3'
        go_wp2_with fail
        --STOP2
        go_loopw [6] (fun i wr => ∃ k : Nat, i = .int .i64 k ∧ k ≤ nyg ∧ ∃ v4, Mr w ga gb gr go base #[.int .i64 xl, .int .i64 xn, .int .u64 xq, .slice a nxg c, .slice a' nxc c'] #[.int .i64 yl, .int .i64 yn, .int .u64 yq, .slice b nyg d, .slice b' nyc d'] #[.int .i64 0, .int .i64 0, .int .u64 0, .slice none 0 0, .slice none 0 0] (.int .i64 (lat xl yl)) (.int .i64 (lat xn yn)) (.int .u64 (lat xq yq)) wr v4 (.slice none 0 0) (xg ++ (yg.take k).filter (fun p => !decide (p ∈ xc.map Ad.pl))) []) (fun i _ => nyg - (intOf i).toNat)
        case atStart => exact ⟨0, rfl, by omega, _, by simpa using M4.out⟩
        case round =>
          clear M4
          obtain ⟨k, rfl, hk, v4, M⟩ := hrel
          have cg3 := cell_of M.b 3 _ rfl
          by_cases hlt : k < nyg
          · have AA := B1.out wr M.lo
            cases b with
            | none => have := (AA.nil rfl).1; omega
            | some ad =>
              obtain ⟨p, off, sp⟩ := ad
              obtain ⟨rfl, hat⟩ := AA.cells p off sp rfl (by omega)
              have hat0 := hat k hlt
              have hat := pl_at hat0
              have hlc := AA.c
              obtain ⟨y, hy⟩ : ∃ y, y = yg.getD k ePl.z := ⟨_, rfl⟩
              rw [← hy] at hat hat0
              obtain ⟨el, en⟩ := y
              obtain ⟨e1, e2⟩ := hat
              simp only [show ePl.k = 2 from rfl] at e1 e2
              have ik0 : (k : Int) < (nyg : Int) := by omega
              have ok0 : (0 : Int) ≤ (k : Int) := by omega
              have htk : Hid (yg.take (k + 1) = yg.take k ++ [⟨el, en⟩]) := by show _ = _; rw [El.take_snoc (E := ePl) (by rw [hyg.out]; exact hlt), ← hy]
              have cg4 := cell_of M.a 4 _ rfl
              obtain ⟨B, hB⟩ : ∃ B, B = decide ((⟨el, en⟩ : Pl) ∈ xc.map Ad.pl) := ⟨_, rfl⟩
              have HAm : Hid (∀ dd os, Calls Try.prog 45 #[.slice a' nxc c', .agg #[.int .i64 el, .int .i64 en]] (grow (redrawn wr dd) os) fun e w' => e = .returned (.bool B) ∧ Below (grow (redrawn wr dd) os).heap.size (grow (redrawn wr dd) os) w') := fun dd os => by
                rw [hB]; exact among_any a' nxc c' xc el en _ (A2.out _ (Below.up M.lo (below_regrown wr dd os))) hbx
              replace hB := hid hB
              replace M := hid M
              replace AA := hid AA
              replace hy := hid hy
              replace hat0 := hid hat0
              go_wp2_with fail
              have rgcg3 := fun d os => cell_regrown cg3 d os
              have rgcg4 := fun d os => cell_regrown cg4 d os
              have rge1 := fun d os => cell_regrown e1 d os
              have rge2 := fun d os => cell_regrown e2 d os
              clear cg3 cg4 e1 e2
              refine wp_region_quiet_below (by kernel_rfl) (by kernel_rfl) ?_
              repeat (first | go_big_quiet_step (first | (go_at_call 45; exact Calls.regrown_of (HAm.out _ _))) | quiet_step (first | (go_at_call 45; exact Calls.regrown_of (HAm.out _ _))))
              refine wpQuiet_nil ?_
              intro w8 hw8
              have b8 : Below wr.heap.size wr w8 := by
                obtain ⟨⟨dq, osq⟩, hw''⟩ := hw8
                rw [hw'']
                exact below_regrown _ dq osq
              have M8 := hid (M.out.later b8)
              clear hw8 rge1 rge2 rgcg3 rgcg4 HAm
              --STOP3
              cases B with
              | true =>
                have hfl : Hid ((yg.take (k + 1)).filter (fun p => !decide (p ∈ xc.map Ad.pl)) = (yg.take k).filter (fun p => !decide (p ∈ xc.map Ad.pl))) := by
                  show _ = _
                  rw [htk.out, filter_snoc, if_neg (by rw [← hB.out]; simp)]
                clear M b8
                go_wp2_with fail
                go_roundw
                case rel => exact ⟨k + 1, by go_num, by omega, _, by rw [hfl.out]; exact M8.out⟩
                case measure => simp [intOf]; omega
              | false =>
                have hfl : Hid ((yg.take (k + 1)).filter (fun p => !decide (p ∈ xc.map Ad.pl)) = (yg.take k).filter (fun p => !decide (p ∈ xc.map Ad.pl)) ++ [⟨el, en⟩]) := by
                  show _ = _
                  rw [htk.out, filter_snoc, if_pos (by rw [← hB.out]; rfl)]
                have bD := Below.up b8 (drew_below w8)
                have MD := M8.out.later (drew_below w8)
                have eD := pl_at (El.At.later hat0.out bD)
                simp only [show ePl.k = 2 from rfl] at eD
                clear M M8 b8 bD
                go_wp2_with fail
                generalize hD : World.drew w8 = D at *
                replace hD := hid hD
                obtain ⟨e1, e2⟩ := eD
                have cg3 := cell_of MD.b 3 _ rfl
                obtain ⟨ua, un, uc, rfl⟩ := row_any MD.x
                have l3 := cell_of MD.o 3 _ rfl
                have MA := MD.later (box_below D (.cells #[.int .i64 el, .int .i64 en] 57))
                have l3' := cell_of MA.o 3 _ rfl
                clear MA
                obtain ⟨v9, W9, r9, o9, w9, q9⟩ := El.app1 ePl D base _ _ ⟨el, en⟩ #[.int .i64 el, .int .i64 en] rfl MD.x (by show (_ + 1) * 16 ≤ _; have := hl.out; have h1 := List.length_filter_le (fun p => !decide (p ∈ xc.map Ad.pl)) (yg.take k); rw [List.length_append]; rw [List.length_take] at h1; have := hxg.out; omega) (by have := hl.out; have h1 := List.length_filter_le (fun p => !decide (p ∈ xc.map Ad.pl)) (yg.take k); rw [List.length_append]; rw [List.length_take] at h1; have := hxg.out; omega) (by have := MD.d; omega)
                rw [List.append_assoc, ← hfl.out] at o9
                obtain ⟨va9, vn9, vc9, rfl⟩ := row_any o9
                obtain ⟨M9, kg9⟩ := MD.app4 _ W9 _ o9 w9
                have z3 := cell_of kg9 3 _ rfl
                have f3 := fz_of kg9 3
                simp only [show ePl.st = 23 from rfl, show ePl.et = 57 from rfl] at r9
                replace r9 := hid r9
                replace M9 := hid M9
                clear MD o9 w9 q9 kg9
                refine wp_region_any (by kernel_rfl) ?_
                change wpAny _ _ _ _ _ _ _ (World.drew _)
                rw [hD.out]
                refine wpAny_take (i := 0) (v := ?v1) rfl (by kernel_rfl) (by kernel_rfl) (by kernel_rfl) (fun _ _ _ h => h) (Or.inl ⟨by rfl, ?h1⟩) ?_
                case h1 => (intro w; go_simp; try (with_reducible rfl))
                go_simp
                refine wpAny_take (i := 2) (v := ?v2) rfl (by kernel_rfl) (by kernel_rfl) (by kernel_rfl) (fun _ _ _ h => h) (Or.inl ⟨by rfl, ?h2⟩) ?_
                case h2 => (intro w; go_simp; try (with_reducible rfl))
                go_simp
                refine wpAny_take (i := 4) (v := ?v3) rfl (by kernel_rfl) (by kernel_rfl) (by kernel_rfl) (fun _ _ _ h => h) (Or.inl ⟨by rfl, ?h3⟩) ?_
                case h3 => (intro w; go_simp; try (with_reducible rfl))
                go_simp
                refine wpAny_ready (rs := [1, 3]) (by kernel_rfl) (by simp) ?_
                refine AllReady.cons rfl (fun K hK => ?_) ?_
                · go_simp
                  refine hK _ _ ?_
                  clear hK K
                  refine wpAny_ready (rs := [3]) (by kernel_rfl) (by simp) ?_
                  refine AllReady.cons rfl (fun K hK => ?_) ?_
                  · go_simp
                    refine hK _ _ ?_
                    clear hK K
                    refine wpAny_take (i := 5) (v := ?v4) rfl (by kernel_rfl) (by kernel_rfl) (by kernel_rfl) (fun _ _ _ h => h) (Or.inl ⟨by rfl, ?h4⟩) ?_
                    case h4 => (intro w; go_simp; try (with_reducible rfl))
                    go_simp
                    refine wpAny_ready (rs := [6]) (by kernel_rfl) (by simp) ?_
                    refine AllReady.cons rfl (fun K hK => ?_) ?_
                    · go_simp
                      refine hK _ _ ?_
                      clear hK K
                      refine wpAny_ready (rs := [7]) (by kernel_rfl) (by simp) ?_
                      refine AllReady.cons rfl (fun K hK => ?_) ?_
                      · go_simp
                        refine hK _ _ ?_
                        clear hK K
                        refine wpAny_ready (rs := [8]) (by kernel_rfl) (by simp) ?_
                        refine AllReady.cons rfl (fun K hK => ?_) ?_
                        · refine wp_append_run (.tmp 50) (.tmp 56) 23 23 rfl (.slice ua un uc) (.slice (some ⟨D.heap.size, 0, none⟩) 1 1) (.slice va9 vn9 vc9) (by go_simp) (by go_simp) r9.out ?_
                          go_simp
                          refine hK _ _ ?_
                          clear hK K
                          refine wpAny_take (i := 9) (v := ?v5) rfl (by kernel_rfl) (by kernel_rfl) (by kernel_rfl) (fun _ _ _ h => h) (Or.inl ⟨by rfl, ?h5⟩) ?_
                          case h5 => (intro w; go_simp; try (with_reducible rfl))
                          go_simp
                          refine wpAny_ready (rs := [10]) (by kernel_rfl) (by simp) ?_
                          refine AllReady.cons rfl (fun K hK => ?_) ?_
                          · go_simp
                            refine hK _ _ ?_
                            clear hK K
                            refine wpAny_done (by kernel_rfl) ?_ _
                            go_wp2_with fail
                            go_roundw
                            case rel => exact ⟨k + 1, by go_num, by omega, _, M9.out⟩
                            case measure => simp [intOf]; omega
                          exact AllReady.nil
                        exact AllReady.nil
                      exact AllReady.nil
                    exact AllReady.nil
                  exact AllReady.nil
                refine AllReady.cons rfl (fun K hK => ?_) ?_
                · go_simp
                  refine hK _ _ ?_
                  clear hK K
                  refine wpAny_take (i := 5) (v := ?v6) rfl (by kernel_rfl) (by kernel_rfl) (by kernel_rfl) (fun _ _ _ h => h) (Or.inl ⟨by rfl, ?h6⟩) ?_
                  case h6 => (intro w; go_simp; try (with_reducible rfl))
                  go_simp
                  refine wpAny_ready (rs := [1, 6]) (by kernel_rfl) (by simp) ?_
                  refine AllReady.cons rfl (fun K hK => ?_) ?_
                  · go_simp
                    refine hK _ _ ?_
                    clear hK K
                    refine wpAny_ready (rs := [6]) (by kernel_rfl) (by simp) ?_
                    refine AllReady.cons rfl (fun K hK => ?_) ?_
                    · go_simp
                      refine hK _ _ ?_
                      clear hK K
                      refine wpAny_ready (rs := [7]) (by kernel_rfl) (by simp) ?_
                      refine AllReady.cons rfl (fun K hK => ?_) ?_
                      · go_simp
                        refine hK _ _ ?_
                        clear hK K
                        refine wpAny_ready (rs := [8]) (by kernel_rfl) (by simp) ?_
                        refine AllReady.cons rfl (fun K hK => ?_) ?_
                        · refine wp_append_run (.tmp 50) (.tmp 56) 23 23 rfl (.slice ua un uc) (.slice (some ⟨D.heap.size, 0, none⟩) 1 1) (.slice va9 vn9 vc9) (by go_simp) (by go_simp) r9.out ?_
                          go_simp
                          refine hK _ _ ?_
                          clear hK K
                          refine wpAny_take (i := 9) (v := ?v7) rfl (by kernel_rfl) (by kernel_rfl) (by kernel_rfl) (fun _ _ _ h => h) (Or.inl ⟨by rfl, ?h7⟩) ?_
                          case h7 => (intro w; go_simp; try (with_reducible rfl))
                          go_simp
                          refine wpAny_ready (rs := [10]) (by kernel_rfl) (by simp) ?_
                          refine AllReady.cons rfl (fun K hK => ?_) ?_
                          · go_simp
                            refine hK _ _ ?_
                            clear hK K
                            refine wpAny_done (by kernel_rfl) ?_ _
                            go_wp2_with fail
                            go_roundw
                            case rel => exact ⟨k + 1, by go_num, by omega, _, M9.out⟩
                            case measure => simp [intOf]; omega
                          exact AllReady.nil
                        exact AllReady.nil
                      exact AllReady.nil
                    exact AllReady.nil
                  refine AllReady.cons rfl (fun K hK => ?_) ?_
                  · go_simp
                    refine hK _ _ ?_
                    clear hK K
                    refine wpAny_ready (rs := [1, 7]) (by kernel_rfl) (by simp) ?_
                    refine AllReady.cons rfl (fun K hK => ?_) ?_
                    · go_simp
                      refine hK _ _ ?_
                      clear hK K
                      refine wpAny_ready (rs := [7]) (by kernel_rfl) (by simp) ?_
                      refine AllReady.cons rfl (fun K hK => ?_) ?_
                      · go_simp
                        refine hK _ _ ?_
                        clear hK K
                        refine wpAny_ready (rs := [8]) (by kernel_rfl) (by simp) ?_
                        refine AllReady.cons rfl (fun K hK => ?_) ?_
                        · refine wp_append_run (.tmp 50) (.tmp 56) 23 23 rfl (.slice ua un uc) (.slice (some ⟨D.heap.size, 0, none⟩) 1 1) (.slice va9 vn9 vc9) (by go_simp) (by go_simp) r9.out ?_
                          go_simp
                          refine hK _ _ ?_
                          clear hK K
                          refine wpAny_take (i := 9) (v := ?v8) rfl (by kernel_rfl) (by kernel_rfl) (by kernel_rfl) (fun _ _ _ h => h) (Or.inl ⟨by rfl, ?h8⟩) ?_
                          case h8 => (intro w; go_simp; try (with_reducible rfl))
                          go_simp
                          refine wpAny_ready (rs := [10]) (by kernel_rfl) (by simp) ?_
                          refine AllReady.cons rfl (fun K hK => ?_) ?_
                          · go_simp
                            refine hK _ _ ?_
                            clear hK K
                            refine wpAny_done (by kernel_rfl) ?_ _
                            go_wp2_with fail
                            go_roundw
                            case rel => exact ⟨k + 1, by go_num, by omega, _, M9.out⟩
                            case measure => simp [intOf]; omega
                          exact AllReady.nil
                        exact AllReady.nil
                      exact AllReady.nil
                    refine AllReady.cons rfl (fun K hK => ?_) ?_
                    · go_simp
                      refine hK _ _ ?_
                      clear hK K
                      refine wpAny_ready (rs := [1]) (by kernel_rfl) (by simp) ?_
                      refine AllReady.cons rfl (fun K hK => ?_) ?_
                      · go_simp
                        refine hK _ _ ?_
                        clear hK K
                        refine wpAny_ready (rs := [8]) (by kernel_rfl) (by simp) ?_
                        refine AllReady.cons rfl (fun K hK => ?_) ?_
                        · refine wp_append_run (.tmp 50) (.tmp 56) 23 23 rfl (.slice ua un uc) (.slice (some ⟨D.heap.size, 0, none⟩) 1 1) (.slice va9 vn9 vc9) (by go_simp) (by go_simp) r9.out ?_
                          go_simp
                          refine hK _ _ ?_
                          clear hK K
                          refine wpAny_take (i := 9) (v := ?v9) rfl (by kernel_rfl) (by kernel_rfl) (by kernel_rfl) (fun _ _ _ h => h) (Or.inl ⟨by rfl, ?h9⟩) ?_
                          case h9 => (intro w; go_simp; try (with_reducible rfl))
                          go_simp
                          refine wpAny_ready (rs := [10]) (by kernel_rfl) (by simp) ?_
                          refine AllReady.cons rfl (fun K hK => ?_) ?_
                          · go_simp
                            refine hK _ _ ?_
                            clear hK K
                            refine wpAny_done (by kernel_rfl) ?_ _
                            go_wp2_with fail
                            go_roundw
                            case rel => exact ⟨k + 1, by go_num, by omega, _, M9.out⟩
                            case measure => simp [intOf]; omega
                          exact AllReady.nil
                        exact AllReady.nil
                      exact AllReady.nil
                    exact AllReady.nil
                  exact AllReady.nil
                exact AllReady.nil
          · have hke : k = nyg := by omega
            subst hke
            rw [show yg.take k = yg by rw [← hyg.out, List.take_length]] at M
            obtain ⟨va4, vn4, vc4, rfl⟩ := row_any M.x
            replace M := hid M
            go_wp2_with fail
            clear cg3
            --STOP4
            go_loopw [7] (fun i wr => ∃ m : Nat, i = .int .i64 m ∧ m ≤ nxc ∧ ∃ v5, Mr w ga gb gr go base #[.int .i64 xl, .int .i64 xn, .int .u64 xq, .slice a nxg c, .slice a' nxc c'] #[.int .i64 yl, .int .i64 yn, .int .u64 yq, .slice b k d, .slice b' nyc d'] #[.int .i64 0, .int .i64 0, .int .u64 0, .slice none 0 0, .slice none 0 0] (.int .i64 (lat xl yl)) (.int .i64 (lat xn yn)) (.int .u64 (lat xq yq)) wr (.slice va4 vn4 vc4) v5 (xg ++ yg.filter (fun p => !decide (p ∈ xc.map Ad.pl))) ((xc.take m).filter (fun a => !decide (a.pl ∈ yg)))) (fun i _ => nxc - (intOf i).toNat)
            case atStart => exact ⟨0, rfl, by omega, _, by simpa using M.out⟩
            case round =>
              clear M
              obtain ⟨m, rfl, hm, v5, M⟩ := hrel
              have cg4 := cell_of M.a 4 _ rfl
              by_cases hlt : m < nxc
              · have AA := A2.out wr M.lo
                cases a' with
                | none => have := (AA.nil rfl).1; omega
                | some ad =>
                  obtain ⟨p, off, sp⟩ := ad
                  obtain ⟨rfl, hat⟩ := AA.cells p off sp rfl (by omega)
                  have hat0 := hat m hlt
                  have hat := ad_at hat0
                  have hlc := AA.c
                  obtain ⟨y, hy⟩ : ∃ y, y = xc.getD m eAd.z := ⟨_, rfl⟩
                  rw [← hy] at hat hat0
                  obtain ⟨el, en, ez, ea, eb, elo, ehi⟩ := y
                  obtain ⟨e1, e2, e3, e4, e5, e6, e7⟩ := hat
                  simp only [show eAd.k = 7 from rfl] at e1 e2 e3 e4 e5 e6 e7
                  have ik0 : (m : Int) < (nxc : Int) := by omega
                  have ok0 : (0 : Int) ≤ (m : Int) := by omega
                  have htk : Hid (xc.take (m + 1) = xc.take m ++ [⟨el, en, ez, ea, eb, elo, ehi⟩]) := by show _ = _; rw [El.take_snoc (E := eAd) (by rw [hxc.out]; exact hlt), ← hy]
                  have cg3 := cell_of M.b 3 _ rfl
                  obtain ⟨B, hB⟩ : ∃ B, B = decide ((⟨el, en⟩ : Pl) ∈ yg) := ⟨_, rfl⟩
                  have HAm : Hid (∀ dd os, Calls Try.prog 46 #[.slice b k d, .agg #[.int .i64 el, .int .i64 en, .int .i64 ez, .string ea, .string eb, .int .u64 elo, .int .u64 ehi]] (grow (redrawn wr dd) os) fun e w' => e = .returned (.bool B) ∧ Below (grow (redrawn wr dd) os).heap.size (grow (redrawn wr dd) os) w') := fun dd os => by
                    rw [hB]; exact named_any b k d yg el en ez ea eb elo ehi _ (B1.out _ (Below.up M.lo (below_regrown wr dd os))) hby
                  replace hB := hid hB
                  replace M := hid M
                  replace AA := hid AA
                  replace hy := hid hy
                  replace hat0 := hid hat0
                  go_wp2_with fail
                  have rgcg3 := fun d os => cell_regrown cg3 d os
                  have rgcg4 := fun d os => cell_regrown cg4 d os
                  have rge1 := fun d os => cell_regrown e1 d os
                  have rge2 := fun d os => cell_regrown e2 d os
                  have rge3 := fun d os => cell_regrown e3 d os
                  have rge4 := fun d os => cell_regrown e4 d os
                  have rge5 := fun d os => cell_regrown e5 d os
                  have rge6 := fun d os => cell_regrown e6 d os
                  have rge7 := fun d os => cell_regrown e7 d os
                  clear cg3 cg4 e1 e2 e3 e4 e5 e6 e7
                  refine wp_region_quiet_below (by kernel_rfl) (by kernel_rfl) ?_
                  repeat (first | go_big_quiet_step (first | (go_at_call 46; exact Calls.regrown_of (HAm.out _ _))) | quiet_step (first | (go_at_call 46; exact Calls.regrown_of (HAm.out _ _))))
                  refine wpQuiet_nil ?_
                  intro w8 hw8
                  have b8 : Below wr.heap.size wr w8 := by
                    obtain ⟨⟨dq, osq⟩, hw''⟩ := hw8
                    rw [hw'']
                    exact below_regrown _ dq osq
                  have M8 := hid (M.out.later b8)
                  clear hw8 rge1 rge2 rge3 rge4 rge5 rge6 rge7 rgcg3 rgcg4 HAm
                  cases B with
                  | true =>
                    have hfl : Hid ((xc.take (m + 1)).filter (fun a => !decide (a.pl ∈ yg)) = (xc.take m).filter (fun a => !decide (a.pl ∈ yg))) := by
                      show _ = _
                      rw [htk.out, filter_snoc, if_neg (by show ¬ (!decide ((⟨el, en⟩ : Pl) ∈ yg)) = true; rw [← hB.out]; simp)]
                    clear M b8
                    go_wp2_with fail
                    go_roundw
                    case rel => exact ⟨m + 1, by go_num, by omega, _, by rw [hfl.out]; exact M8.out⟩
                    case measure => simp [intOf]; omega
                  | false =>
                    have hfl : Hid ((xc.take (m + 1)).filter (fun a => !decide (a.pl ∈ yg)) = (xc.take m).filter (fun a => !decide (a.pl ∈ yg)) ++ [⟨el, en, ez, ea, eb, elo, ehi⟩]) := by
                      show _ = _
                      rw [htk.out, filter_snoc, if_pos (by show (!decide ((⟨el, en⟩ : Pl) ∈ yg)) = true; rw [← hB.out]; rfl)]
                    have bD := Below.up b8 (drew_below w8)
                    have MD := M8.out.later (drew_below w8)
                    have eD := ad_at (El.At.later hat0.out bD)
                    simp only [show eAd.k = 7 from rfl] at eD
                    clear M M8 b8 bD
                    go_wp2_with fail
                    generalize hD : World.drew w8 = D at *
                    replace hD := hid hD
                    obtain ⟨e1, e2, e3, e4, e5, e6, e7⟩ := eD
                    have cg3 := cell_of MD.a 4 _ rfl
                    obtain ⟨ua, un, uc, rfl⟩ := row_any MD.y
                    have l3 := cell_of MD.o 4 _ rfl
                    have MA := MD.later (box_below D (.cells #[.int .i64 el, .int .i64 en, .int .i64 ez, .string ea, .string eb, .int .u64 elo, .int .u64 ehi] 60))
                    have l3' := cell_of MA.o 4 _ rfl
                    clear MA
                    obtain ⟨v9, W9, r9, o9, w9, q9⟩ := El.app1 eAd D base _ _ ⟨el, en, ez, ea, eb, elo, ehi⟩ #[.int .i64 el, .int .i64 en, .int .i64 ez, .string ea, .string eb, .int .u64 elo, .int .u64 ehi] rfl MD.y (by show (_ + 1) * 72 ≤ _; have := hl'.out; have h1 := List.length_filter_le (fun a => !decide (a.pl ∈ yg)) (xc.take m); rw [List.length_take] at h1; omega) (by have := hl'.out; have h1 := List.length_filter_le (fun a => !decide (a.pl ∈ yg)) (xc.take m); rw [List.length_take] at h1; omega) (by have := MD.d; omega)
                    rw [← hfl.out] at o9
                    obtain ⟨va9, vn9, vc9, rfl⟩ := row_any o9
                    obtain ⟨M9, kg9⟩ := MD.app5 _ W9 _ o9 w9
                    have z3 := cell_of kg9 4 _ rfl
                    have f3 := fz_of kg9 4
                    simp only [show eAd.st = 24 from rfl, show eAd.et = 60 from rfl] at r9
                    replace r9 := hid r9
                    replace M9 := hid M9
                    clear MD o9 w9 q9 kg9
                    refine wp_region_any (by kernel_rfl) ?_
                    change wpAny _ _ _ _ _ _ _ (World.drew _)
                    rw [hD.out]
                    refine wpAny_take (i := 0) (v := ?v10) rfl (by kernel_rfl) (by kernel_rfl) (by kernel_rfl) (fun _ _ _ h => h) (Or.inl ⟨by rfl, ?h10⟩) ?_
                    case h10 => (intro w; go_simp; try (with_reducible rfl))
                    go_simp
                    refine wpAny_take (i := 2) (v := ?v11) rfl (by kernel_rfl) (by kernel_rfl) (by kernel_rfl) (fun _ _ _ h => h) (Or.inl ⟨by rfl, ?h11⟩) ?_
                    case h11 => (intro w; go_simp; try (with_reducible rfl))
                    go_simp
                    refine wpAny_take (i := 4) (v := ?v12) rfl (by kernel_rfl) (by kernel_rfl) (by kernel_rfl) (fun _ _ _ h => h) (Or.inl ⟨by rfl, ?h12⟩) ?_
                    case h12 => (intro w; go_simp; try (with_reducible rfl))
                    go_simp
                    refine wpAny_ready (rs := [1, 3]) (by kernel_rfl) (by simp) ?_
                    refine AllReady.cons rfl (fun K hK => ?_) ?_
                    · go_simp
                      refine hK _ _ ?_
                      clear hK K
                      refine wpAny_ready (rs := [3]) (by kernel_rfl) (by simp) ?_
                      refine AllReady.cons rfl (fun K hK => ?_) ?_
                      · go_simp
                        refine hK _ _ ?_
                        clear hK K
                        refine wpAny_take (i := 5) (v := ?v13) rfl (by kernel_rfl) (by kernel_rfl) (by kernel_rfl) (fun _ _ _ h => h) (Or.inl ⟨by rfl, ?h13⟩) ?_
                        case h13 => (intro w; go_simp; try (with_reducible rfl))
                        go_simp
                        refine wpAny_ready (rs := [6]) (by kernel_rfl) (by simp) ?_
                        refine AllReady.cons rfl (fun K hK => ?_) ?_
                        · go_simp
                          refine hK _ _ ?_
                          clear hK K
                          refine wpAny_ready (rs := [7]) (by kernel_rfl) (by simp) ?_
                          refine AllReady.cons rfl (fun K hK => ?_) ?_
                          · go_simp
                            refine hK _ _ ?_
                            clear hK K
                            refine wpAny_ready (rs := [8]) (by kernel_rfl) (by simp) ?_
                            refine AllReady.cons rfl (fun K hK => ?_) ?_
                            · refine wp_append_run (.tmp 76) (.tmp 82) 24 24 rfl (.slice ua un uc) (.slice (some ⟨D.heap.size, 0, none⟩) 1 1) (.slice va9 vn9 vc9) (by go_simp) (by go_simp) r9.out ?_
                              go_simp
                              refine hK _ _ ?_
                              clear hK K
                              refine wpAny_take (i := 9) (v := ?v14) rfl (by kernel_rfl) (by kernel_rfl) (by kernel_rfl) (fun _ _ _ h => h) (Or.inl ⟨by rfl, ?h14⟩) ?_
                              case h14 => (intro w; go_simp; try (with_reducible rfl))
                              go_simp
                              refine wpAny_ready (rs := [10]) (by kernel_rfl) (by simp) ?_
                              refine AllReady.cons rfl (fun K hK => ?_) ?_
                              · go_simp
                                refine hK _ _ ?_
                                clear hK K
                                refine wpAny_done (by kernel_rfl) ?_ _
                                go_wp2_with fail
                                go_roundw
                                case rel => exact ⟨m + 1, by go_num, by omega, _, M9.out⟩
                                case measure => simp [intOf]; omega
                              exact AllReady.nil
                            exact AllReady.nil
                          exact AllReady.nil
                        exact AllReady.nil
                      exact AllReady.nil
                    refine AllReady.cons rfl (fun K hK => ?_) ?_
                    · go_simp
                      refine hK _ _ ?_
                      clear hK K
                      refine wpAny_take (i := 5) (v := ?v15) rfl (by kernel_rfl) (by kernel_rfl) (by kernel_rfl) (fun _ _ _ h => h) (Or.inl ⟨by rfl, ?h15⟩) ?_
                      case h15 => (intro w; go_simp; try (with_reducible rfl))
                      go_simp
                      refine wpAny_ready (rs := [1, 6]) (by kernel_rfl) (by simp) ?_
                      refine AllReady.cons rfl (fun K hK => ?_) ?_
                      · go_simp
                        refine hK _ _ ?_
                        clear hK K
                        refine wpAny_ready (rs := [6]) (by kernel_rfl) (by simp) ?_
                        refine AllReady.cons rfl (fun K hK => ?_) ?_
                        · go_simp
                          refine hK _ _ ?_
                          clear hK K
                          refine wpAny_ready (rs := [7]) (by kernel_rfl) (by simp) ?_
                          refine AllReady.cons rfl (fun K hK => ?_) ?_
                          · go_simp
                            refine hK _ _ ?_
                            clear hK K
                            refine wpAny_ready (rs := [8]) (by kernel_rfl) (by simp) ?_
                            refine AllReady.cons rfl (fun K hK => ?_) ?_
                            · refine wp_append_run (.tmp 76) (.tmp 82) 24 24 rfl (.slice ua un uc) (.slice (some ⟨D.heap.size, 0, none⟩) 1 1) (.slice va9 vn9 vc9) (by go_simp) (by go_simp) r9.out ?_
                              go_simp
                              refine hK _ _ ?_
                              clear hK K
                              refine wpAny_take (i := 9) (v := ?v16) rfl (by kernel_rfl) (by kernel_rfl) (by kernel_rfl) (fun _ _ _ h => h) (Or.inl ⟨by rfl, ?h16⟩) ?_
                              case h16 => (intro w; go_simp; try (with_reducible rfl))
                              go_simp
                              refine wpAny_ready (rs := [10]) (by kernel_rfl) (by simp) ?_
                              refine AllReady.cons rfl (fun K hK => ?_) ?_
                              · go_simp
                                refine hK _ _ ?_
                                clear hK K
                                refine wpAny_done (by kernel_rfl) ?_ _
                                go_wp2_with fail
                                go_roundw
                                case rel => exact ⟨m + 1, by go_num, by omega, _, M9.out⟩
                                case measure => simp [intOf]; omega
                              exact AllReady.nil
                            exact AllReady.nil
                          exact AllReady.nil
                        exact AllReady.nil
                      refine AllReady.cons rfl (fun K hK => ?_) ?_
                      · go_simp
                        refine hK _ _ ?_
                        clear hK K
                        refine wpAny_ready (rs := [1, 7]) (by kernel_rfl) (by simp) ?_
                        refine AllReady.cons rfl (fun K hK => ?_) ?_
                        · go_simp
                          refine hK _ _ ?_
                          clear hK K
                          refine wpAny_ready (rs := [7]) (by kernel_rfl) (by simp) ?_
                          refine AllReady.cons rfl (fun K hK => ?_) ?_
                          · go_simp
                            refine hK _ _ ?_
                            clear hK K
                            refine wpAny_ready (rs := [8]) (by kernel_rfl) (by simp) ?_
                            refine AllReady.cons rfl (fun K hK => ?_) ?_
                            · refine wp_append_run (.tmp 76) (.tmp 82) 24 24 rfl (.slice ua un uc) (.slice (some ⟨D.heap.size, 0, none⟩) 1 1) (.slice va9 vn9 vc9) (by go_simp) (by go_simp) r9.out ?_
                              go_simp
                              refine hK _ _ ?_
                              clear hK K
                              refine wpAny_take (i := 9) (v := ?v17) rfl (by kernel_rfl) (by kernel_rfl) (by kernel_rfl) (fun _ _ _ h => h) (Or.inl ⟨by rfl, ?h17⟩) ?_
                              case h17 => (intro w; go_simp; try (with_reducible rfl))
                              go_simp
                              refine wpAny_ready (rs := [10]) (by kernel_rfl) (by simp) ?_
                              refine AllReady.cons rfl (fun K hK => ?_) ?_
                              · go_simp
                                refine hK _ _ ?_
                                clear hK K
                                refine wpAny_done (by kernel_rfl) ?_ _
                                go_wp2_with fail
                                go_roundw
                                case rel => exact ⟨m + 1, by go_num, by omega, _, M9.out⟩
                                case measure => simp [intOf]; omega
                              exact AllReady.nil
                            exact AllReady.nil
                          exact AllReady.nil
                        refine AllReady.cons rfl (fun K hK => ?_) ?_
                        · go_simp
                          refine hK _ _ ?_
                          clear hK K
                          refine wpAny_ready (rs := [1]) (by kernel_rfl) (by simp) ?_
                          refine AllReady.cons rfl (fun K hK => ?_) ?_
                          · go_simp
                            refine hK _ _ ?_
                            clear hK K
                            refine wpAny_ready (rs := [8]) (by kernel_rfl) (by simp) ?_
                            refine AllReady.cons rfl (fun K hK => ?_) ?_
                            · refine wp_append_run (.tmp 76) (.tmp 82) 24 24 rfl (.slice ua un uc) (.slice (some ⟨D.heap.size, 0, none⟩) 1 1) (.slice va9 vn9 vc9) (by go_simp) (by go_simp) r9.out ?_
                              go_simp
                              refine hK _ _ ?_
                              clear hK K
                              refine wpAny_take (i := 9) (v := ?v18) rfl (by kernel_rfl) (by kernel_rfl) (by kernel_rfl) (fun _ _ _ h => h) (Or.inl ⟨by rfl, ?h18⟩) ?_
                              case h18 => (intro w; go_simp; try (with_reducible rfl))
                              go_simp
                              refine wpAny_ready (rs := [10]) (by kernel_rfl) (by simp) ?_
                              refine AllReady.cons rfl (fun K hK => ?_) ?_
                              · go_simp
                                refine hK _ _ ?_
                                clear hK K
                                refine wpAny_done (by kernel_rfl) ?_ _
                                go_wp2_with fail
                                go_roundw
                                case rel => exact ⟨m + 1, by go_num, by omega, _, M9.out⟩
                                case measure => simp [intOf]; omega
                              exact AllReady.nil
                            exact AllReady.nil
                          exact AllReady.nil
                        exact AllReady.nil
                      exact AllReady.nil
                    exact AllReady.nil
              · have hke : m = nxc := by omega
                subst hke
                rw [show xc.take m = xc by rw [← hxc.out, List.take_length]] at M
                obtain ⟨ua, un, uc, rfl⟩ := row_any M.y
                have l4 := cell_of M.o 4 _ rfl
                have l5 := cell_of M.b 4 _ rfl
                obtain ⟨v9, W9, r9, o9, w9, q9⟩ := El.app eAd wr base _ _ M.y b' nyc d' yc (B2.out wr M.lo) (by show (_ + _) * 72 ≤ _; have := hl'.out; have h1 := List.length_filter_le (fun a => !decide (a.pl ∈ yg)) xc; have := hxc.out; omega) (by have := hl'.out; have h1 := List.length_filter_le (fun a => !decide (a.pl ∈ yg)) xc; have := hxc.out; omega) (by have := M.d; omega)
                obtain ⟨va9, vn9, vc9, rfl⟩ := row_any o9
                obtain ⟨M9, kg9⟩ := M.app5 _ W9 _ o9 w9
                have z3 := cell_of kg9 4 _ rfl
                have f3 := fz_of kg9 4
                obtain ⟨WA, hWA⟩ : ∃ WA, WA = W9.setCell ⟨go, 4, none⟩ (.slice va9 vn9 vc9) := ⟨_, rfl⟩
                rw [← hWA] at M9
                have P5 := put5 M9.r (.int .i64 (lat xl yl)) (.int .i64 (lat xn yn)) (.int .u64 (lat xq yq)) (.slice va4 vn4 vc4) (.slice va9 vn9 vc9)
                obtain ⟨WB, hWB⟩ : ∃ WB, WB = ((((WA.setCell ⟨gr, 0, none⟩ (.int .i64 (lat xl yl))).setCell ⟨gr, 1, none⟩ (.int .i64 (lat xn yn))).setCell ⟨gr, 2, none⟩ (.int .u64 (lat xq yq))).setCell ⟨gr, 3, none⟩ (.slice va4 vn4 vc4)).setCell ⟨gr, 4, none⟩ (.slice va9 vn9 vc9) := ⟨_, rfl⟩
                rw [← hWB] at P5
                have dd := M9.d
                have ngr : gr ≠ go := by omega
                have ngr' : go ≠ gr := by omega
                have kr9 : W9.heap[gr]? = some (.cells #[.int .i64 0, .int .i64 0, .int .u64 0, .slice none 0 0, .slice none 0 0] 26) := by
                  rw [← set_ne W9 go gr 4 (.slice va9 vn9 vc9) ngr, ← hWA]
                  exact M9.r
                have y0 := cell_of kg9 0 _ rfl
                have y1 := cell_of kg9 1 _ rfl
                have y2 := cell_of kg9 2 _ rfl
                have y3 := cell_of kg9 3 _ rfl
                have s0 := cell_of kr9 0 _ rfl
                have t0 := fz_of kr9 0
                have s1 := cell_of kr9 1 _ rfl
                have t1 := fz_of kr9 1
                have s2 := cell_of kr9 2 _ rfl
                have t2 := fz_of kr9 2
                have s3 := cell_of kr9 3 _ rfl
                have t3 := fz_of kr9 3
                have s4 := cell_of kr9 4 _ rfl
                have t4 := fz_of kr9 4
                have E1 : vn4 = (xg ++ yg.filter (fun p => !decide (p ∈ xc.map Ad.pl))).length := by obtain ⟨_, _, e⟩ := row_block M.x; cases e; rfl
                have E2 : vn9 = (xc.filter (fun a => !decide (a.pl ∈ yg)) ++ yc).length := by obtain ⟨_, _, e⟩ := row_block o9; cases e; rfl
                have OX : ePl.Own WB base (.slice va4 vn4 vc4) (xg ++ yg.filter (fun p => !decide (p ∈ xc.map Ad.pl))) := own_blocks M9.x (fun j hj => P5.2.block j (own_lt M9.x j hj).2 (fun e => by have := (own_lt M9.x j hj).1; omega))
                have OY : eAd.Own WB base (.slice va9 vn9 vc9) (xc.filter (fun a => !decide (a.pl ∈ yg)) ++ yc) := own_blocks M9.y (fun j hj => P5.2.block j (own_lt M9.y j hj).2 (fun e => by have := (own_lt M9.y j hj).1; omega))
                have BB : Hid (Below w.heap.size w WB) := ((Fp.of (P := fun j => w.heap.size ≤ j) M9.lo).tr (P5.2.wide (fun j _ h => .inl (by show w.heap.size ≤ j; omega)))).base (Nat.le_refl _) (fun _ h => h)
                have EE : Hid (EO WB w.heap.size (.agg #[.int .i64 (lat xl yl), .int .i64 (lat xn yn), .int .u64 (lat xq yq), .slice va4 vn4 vc4, .slice va9 vn9 vc9]) (mrg ⟨xl, xn, xq, xg, xc⟩ ⟨yl, yn, yq, yg, yc⟩)) := by
                  refine ⟨?_, ?_, ?_, va4, vc4, va9, vc9, ?_, ?_, ?_⟩
                  · refine ⟨?_, ?_, ?_, ?_, ?_⟩
                    · show bd (lat xl yl); unfold lat; split; exact hokx.out.1; exact hoky.out.1
                    · show bd (lat xn yn); unfold lat; split; exact hokx.out.2.1; exact hoky.out.2.1
                    · show bu (lat xq yq); unfold lat; split; exact hokx.out.2.2.1; exact hoky.out.2.2.1
                    · show (xg ++ yg.filter (fun p => !decide (p ∈ xc.map Ad.pl))).length ≤ _
                      have := hl.out; have h1 := List.length_filter_le (fun p => !decide (p ∈ xc.map Ad.pl)) yg; have := hxg.out; have := hyg.out; rw [List.length_append]; omega
                    · show (xc.filter (fun a => !decide (a.pl ∈ yg)) ++ yc).length ≤ _
                      have := hl'.out; have h1 := List.length_filter_le (fun a => !decide (a.pl ∈ yg)) xc; have := hxc.out; have := hyc.out; rw [List.length_append]; omega
                  · intro x hx
                    rcases List.mem_append.1 (show x ∈ (xg ++ yg.filter (fun p => !decide (p ∈ xc.map Ad.pl))) from hx) with h | h
                    · exact xk1.out x h
                    · exact yk1.out x (List.mem_filter.1 h).1
                  · intro x hx
                    rcases List.mem_append.1 (show x ∈ xc.filter (fun a => !decide (a.pl ∈ yg)) ++ yc from hx) with h | h
                    · exact xk2.out x (List.mem_filter.1 h).1
                    · exact yk2.out x h
                  · rw [E1, E2]; rfl
                  · have : (mrg ⟨xl, xn, xq, xg, xc⟩ ⟨yl, yn, yq, yg, yc⟩).go.length = vn4 := E1.symm
                    rw [this]
                    exact own_base OX (fun j hj => by have := (own_lt OX j hj).1; omega)
                  · have : (mrg ⟨xl, xn, xq, xg, xc⟩ ⟨yl, yn, yq, yg, yc⟩).co.length = vn9 := E2.symm
                    rw [this]
                    exact own_base OY (fun j hj => by have := (own_lt OY j hj).1; omega)
                have KK := hid P5.1
                rw [hWB, hWA] at BB EE KK
                replace r9 := hid r9
                clear M o9 w9 q9 M9 kg9 hWA hWB P5 dd kr9 OX OY E1 E2
                go_wp2_with (first | (at_builtin; refine wpList_append_run rfl (.tmp 86) (.tmp 88) 24 24 rfl (.slice ua un uc) (.slice b' nyc d') (.slice va9 vn9 vc9) rfl rfl r9.out ?_))
                have KG := KK.out
                have BG := BB.out
                have EG := EE.out
                generalize ((((((W9.setCell ⟨go, 4, none⟩ (.slice va9 vn9 vc9)).setCell ⟨gr, 0, none⟩ (.int .i64 (lat xl yl))).setCell ⟨gr, 1, none⟩ (.int .i64 (lat xn yn))).setCell ⟨gr, 2, none⟩ (.int .u64 (lat xq yq))).setCell ⟨gr, 3, none⟩ (.slice va4 vn4 vc4)).setCell ⟨gr, 4, none⟩ (.slice va9 vn9 vc9)) = WG at *
                have q0 := cell_of KG 0 _ rfl
                have q1 := cell_of KG 1 _ rfl
                have q2 := cell_of KG 2 _ rfl
                have q3 := cell_of KG 3 _ rfl
                have q4 := cell_of KG 4 _ rfl
                exact bodyPost_ret (v := .agg #[.int .i64 (lat xl yl), .int .i64 (lat xn yn), .int .u64 (lat xq yq), .slice va4 vn4 vc4, .slice va9 vn9 vc9]) (by simp [results, Try.results19, go_sem, q0, q1, q2, q3, q4]) rfl ⟨_, rfl, EG, BG⟩
end Go.Proofs.Ytnpeocoipodmfaa.Rm

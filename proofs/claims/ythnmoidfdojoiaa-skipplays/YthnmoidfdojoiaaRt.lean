/- The document's Node, Trail. -/
import Derived.Test.YthnmoidfdojoiaaRk
import Derived.Test.YthnmoidfdojoiaaTl
namespace Go.Proofs.Ythnmoidfdojoiaa.Rt
open Go.ChangeShapes Go.WideShapes Go.ChangeAt Go.RowKit
open Go.Sort (grow)
open Go.Proofs.Ythnmoidfdojoiaa.Ik
open Go.Proofs.Ythnmoidfdojoiaa.Sg
open Go.Proofs.Ythnmoidfdojoiaa.Cm (ik)
open Go.Proofs.Ythnmoidfdojoiaa.Vl
open Go.Proofs.Ythnmoidfdojoiaa.Mm
open Go.Proofs.Ythnmoidfdojoiaa.Tr
open Go.Proofs.Ythnmoidfdojoiaa.Li
open Go.Proofs.Ythnmoidfdojoiaa.In
open Go.Proofs.Ythnmoidfdojoiaa.Oi
open Go.Proofs.Ythnmoidfdojoiaa.Rc
open Go.Proofs.Ythnmoidfdojoiaa.Rl
open Go.Proofs.Ythnmoidfdojoiaa.Rn
open Go.Proofs.Ythnmoidfdojoiaa.Rk
open Go.Proofs.Ythnmoidfdojoiaa.Tl
open Go.Proofs.Ythnmoidfdojoiaa.Fi (first_eq)
set_option linter.unusedVariables false
set_option linter.unusedSimpArgs false
theorem setK {W : World} {g : Nat} {a : ByteArray} {t d : Int} (k : ByteArray) (s c : Int) (h : Bx W g a t d) :
    Bx (((W.setCell ⟨g, 0, none⟩ (.string k)).setCell ⟨g, 1, none⟩ (.int .u64 s)).setCell ⟨g, 2, none⟩ (.int .i64 c)) g k s c := by
  unfold Bx at h ⊢
  rw [set_of (set_of (set_of h _ _) _ _)]
  rfl
theorem setK_below {n : Nat} {w W : World} {g : Nat} (a b c : Value) (h : Below n w W) (hg : n ≤ g) : Below n w (((W.setCell ⟨g, 0, none⟩ a).setCell ⟨g, 1, none⟩ b).setCell ⟨g, 2, none⟩ c) := by
  refine Below.setCell (Below.setCell (Below.setCell h ?_ a) ?_ b) ?_ c <;> exact hg
set_option maxHeartbeats 2000000 in
set_option maxRecDepth 100000 in
theorem rnode_out (base most : Nat) (an ao : Option Addr) (cn co : Nat) (ns : List N) (ord : List Nat) (n : Int) (w : World) (H : RL w base an ao cn co ns ord) (hl : ns.length ≤ 1048576) (hn : n < 1 ∨ (ns.length : Int) < n) :
    Calls Try.prog 49 #[.agg #[.int .i64 (most : Int), .slice an ns.length cn, .slice ao ord.length co], .int .i64 n] w fun e w' => e = .returned (.tuple #[.agg #[.string ⟨#[]⟩, .int .u64 0, .int .i64 0], .string ⟨#[]⟩, .bool false]) ∧ Below w.heap.size w w' := by
  obtain ⟨gk, hgk⟩ : ∃ gk, gk = w.heap.size := ⟨_, rfl⟩
  obtain ⟨W0, hW0⟩ : ∃ W0, W0 = (w.alloc (.cells #[.int .i64 (most : Int), .slice an ns.length cn, .slice ao ord.length co] 30)).alloc (.cells #[.string ⟨#[]⟩, .int .u64 0, .int .i64 0] 36) := ⟨_, rfl⟩
  obtain ⟨B0, R0, K0⟩ := boxR _ _ w W0 hW0
  rw [← hgk] at R0 K0
  have R0 : RB W0 gk most an ao cn co ns.length ord.length := R0
  have K0 : Bx W0 (gk + 1) ⟨#[]⟩ 0 0 := K0
  have H0 := H.later B0
  have hol := H.G.len
  have c1 := R0.c1
  have k0 := K0.c0
  have k1 := K0.c1
  have k2 := K0.c2
  have f0 := fz_of K0 0
  have f1 := fz_of K0 1
  have f2 := fz_of K0 2
  replace hW0 := hid hW0
  replace hgk := hid hgk
  replace B0 := hid B0
  replace K0 := hid K0
  replace hol := hid hol
  clear H0 H R0
  rcases hn with h1 | h1
  · go_enter Try.func49, Try.ntmps49
    go_wp2_with fail
    rw [← hW0.out, ← hgk.out]
    refine bodyPost_ret (v := .tuple #[.agg #[.string ⟨#[]⟩, .int .u64 0, .int .i64 0], .string ⟨#[]⟩, .bool false]) (by simp [results, Try.results49, go_sem, k0, k1, k2]) rfl ⟨rfl, ?_⟩
    rw [hgk.out]
    first | exact B0.out | exact B0.out.drew
  · have h0 : ¬ n < 1 := by omega
    rw [hW0.out, hgk.out] at c1
    go_enter Try.func49, Try.ntmps49
    go_wp2_with fail
    rw [← hW0.out, ← hgk.out]
    refine bodyPost_ret (v := .tuple #[.agg #[.string ⟨#[]⟩, .int .u64 0, .int .i64 0], .string ⟨#[]⟩, .bool false]) (by simp [results, Try.results49, go_sem, k0, k1, k2]) rfl ⟨rfl, ?_⟩
    rw [hgk.out]
    first | exact B0.out | exact B0.out.drew
set_option maxHeartbeats 2000000 in
set_option maxRecDepth 100000 in
theorem rnode_in (base most : Nat) (an ao : Option Addr) (cn co : Nat) (ns : List N) (ord : List Nat) (n : Nat) (x : ByteArray) (w : World) (H : RL w base an ao cn co ns ord) (hl : ns.length ≤ 1048576) (hn : 1 ≤ n ∧ n ≤ ns.length) (hv : (nd ns n).v = .string x) :
    Calls Try.prog 49 #[.agg #[.int .i64 (most : Int), .slice an ns.length cn, .slice ao ord.length co], .int .i64 (n : Int)] w fun e w' => e = .returned (.tuple #[.agg #[.string (nd ns n).k, .int .u64 (nd ns n).s, .int .i64 (nd ns n).c], .string x, .bool true]) ∧ Below w.heap.size w w' := by
  obtain ⟨gk, hgk⟩ : ∃ gk, gk = w.heap.size := ⟨_, rfl⟩
  obtain ⟨W0, hW0⟩ : ∃ W0, W0 = (w.alloc (.cells #[.int .i64 (most : Int), .slice an ns.length cn, .slice ao ord.length co] 30)).alloc (.cells #[.string ⟨#[]⟩, .int .u64 0, .int .i64 0] 36) := ⟨_, rfl⟩
  obtain ⟨B0, R0, K0⟩ := boxR _ _ w W0 hW0
  rw [← hgk] at R0 K0
  have R0 : RB W0 gk most an ao cn co ns.length ord.length := R0
  have K0 : Bx W0 (gk + 1) ⟨#[]⟩ 0 0 := K0
  have H0 := H.later B0
  have hol := H.G.len
  have c1 := R0.c1
  have k0 := K0.c0
  have k1 := K0.c1
  have k2 := K0.c2
  have f0 := fz_of K0 0
  have f1 := fz_of K0 1
  have f2 := fz_of K0 2
  obtain ⟨gn, hgn⟩ := OwnN.some H0.n (by omega)
  subst hgn
  obtain ⟨p0, p1, p2, p3, _⟩ := OwnN.cells H0.n n hn
  rw [hv] at p3
  have hne : gn ≠ gk + 1 := by
    rintro rfl
    obtain ⟨c', f', h3⟩ := row_blk H0.n (gk + 1) rfl
    rw [show W0.heap[gk + 1]? = _ from K0] at h3
    simp at h3
  have i0 : ¬ (n : Int) < 1 := by omega
  have i1 : (n : Int) - 1 < (ns.length : Int) := by omega
  have i2 : ¬ (ns.length : Int) < (n : Int) := by omega
  have i4 : 0 ≤ (n : Int) - 1 := by omega
  have i5 : ((n : Int) - 1).toNat = n - 1 := by omega
  have i6 : n ≤ ns.length := hn.2
  have i7 : 1 ≤ n := hn.1
  generalize (nd ns n).k = yk at *
  generalize (nd ns n).s = ys at *
  generalize (nd ns n).c = yc at *
  rw [hW0] at c1
  replace hW0 := hid hW0
  replace hgk := hid hgk
  replace B0 := hid B0
  replace K0 := hid K0
  replace hol := hid hol
  clear H0 H R0 hv
  go_enter Try.func49, Try.ntmps49
  go_wp2_with fail
  rw [← hW0.out, ← hgk.out]
  rw [← hW0.out] at c1
  go_region
  all_goals go_wp2_with fail
  have KF := setK (yk) (ys) (yc) K0.out
  have BF := hid (setK_below (.string (yk)) (.int .u64 (ys)) (.int .i64 (yc)) B0.out (by rw [hgk.out]; omega : w.heap.size ≤ gk + 1))
  have x0 := KF.c0
  have x1 := KF.c1
  have x2 := KF.c2
  replace KF := hid KF
  generalize hWF : ((W0.setCell ⟨gk + 1, 0, none⟩ (.string (yk))).setCell ⟨gk + 1, 1, none⟩ (.int .u64 (ys))).setCell ⟨gk + 1, 2, none⟩ (.int .i64 (yc)) = WF at *
  refine bodyPost_ret (v := .tuple #[.agg #[.string (yk), .int .u64 (ys), .int .i64 (yc)], .string x, .bool true]) (by simp [results, Try.results49, go_sem, x0, x1, x2]) rfl ⟨rfl, ?_⟩
  first | exact BF.out | exact BF.out.drew
theorem take_plc {ns : List N} {ord : List Nat} (G : Gd ns ord) (k : IK) : ord.take (plc ns ord k) = ord.filter (below ns k) := by
  have e := ord_split G k
  unfold plc
  conv => lhs; arg 2; rw [e]
  exact List.take_left' rfl
theorem chT_plc {ns : List N} {ord : List Nat} (G : Gd ns ord) (k : IK) (l : Nat) : (chT ns ord l (plc ns ord k)).getLastD 0 = lastB ns ord k l := by
  unfold chT lastB chain
  rw [take_plc G k, List.filter_filter, List.filter_filter]
  congr 2
  funext n
  exact Bool.and_comm _ _
set_option maxHeartbeats 4000000 in
set_option maxRecDepth 100000 in
theorem rtrail_any (base most : Nat) (an ao : Option Addr) (cn co : Nat) (ns : List N) (ord : List Nat) (k : ByteArray) (s c : Int) (w : World) (H : RL w base an ao cn co ns ord) (hl : ns.length ≤ 1048576) :
    Calls Try.prog 53 #[.agg #[.int .i64 (most : Int), .slice an ns.length cn, .slice ao ord.length co], .agg #[.string k, .int .u64 s, .int .i64 c]] w fun e w' => ∃ v, e = .returned v ∧ OwnZ w' w.heap.size v (zi (trl ns ord (ik k s c) (top ns))) ∧ Below w.heap.size w w' := by
  obtain ⟨gk, hgk⟩ : ∃ gk, gk = w.heap.size := ⟨_, rfl⟩
  obtain ⟨wb, hwb⟩ : ∃ wb, wb = (w.alloc (.cells #[.int .i64 (most : Int), .slice an ns.length cn, .slice ao ord.length co] 30)).alloc (.cells #[.string k, .int .u64 s, .int .i64 c] 36) := ⟨_, rfl⟩
  obtain ⟨B0, R0, K0⟩ := boxR _ _ w wb hwb
  rw [← hgk] at R0 K0
  have R0 : RB wb gk most an ao cn co ns.length ord.length := R0
  have K0 : Bx wb (gk + 1) k s c := K0
  have H0 := H.later B0
  have hol := H.G.len
  have G := H.G
  have HH := rheight_any base most an ao cn co ns ord wb H0 hl
  have ht := G.top12
  have hpl := plc_le ns ord (ik k s c)
  have hcp : Hid (∀ l, (chT ns ord l (plc ns ord (ik k s c))).getLastD 0 = lastB ns ord (ik k s c) l) := fun l => chT_plc G _ l
  have hpa : Hid (∀ W, RL W base an ao cn co ns ord → Calls Try.prog 67 #[.agg #[.int .i64 (most : Int), .slice an ns.length cn, .slice ao ord.length co], .agg #[.string k, .int .u64 s, .int .i64 c]] W fun e w' => e = .returned (.int .i64 (plc ns ord (ik k s c) : Int)) ∧ Below W.heap.size W w') := fun W hW => place_any base most an ao cn co ns ord k s c W hW hl
  obtain ⟨P, hP⟩ : ∃ P, P = plc ns ord (ik k s c) := ⟨_, rfl⟩
  rw [← hP] at hpl hcp hpa
  obtain ⟨t, hto⟩ : ∃ t, t = top ns := ⟨_, rfl⟩
  rw [← hto] at ht HH
  have hP1 : P ≤ 1048576 := by omega
  have hpl2 : P ≤ ord.length := hpl
  have e0 := R0.c0
  have e1 := R0.c1
  have e2 := R0.c2
  replace HH := hid HH
  replace hP := hid hP
  replace hto := hid hto
  replace hwb := hid hwb
  replace hgk := hid hgk
  replace B0 := hid B0
  replace hol := hid hol
  replace H0 := hid H0
  replace R0 := hid R0
  replace K0 := hid K0
  replace G := hid G
  clear H
  go_enter Try.func53, Try.ntmps53
  go_wp2_with fail
  rw [← hwb.out, ← hgk.out]
  go_wp2_with fail
  refine HH.out.mono ?_
  rintro e w5 ⟨rfl, b5⟩
  replace B0 := hid (B0.out.trans (b5.mono B0.out.size))
  replace H0 := hid (H0.out.later b5)
  replace R0 := hid (R0.out.later b5)
  replace K0 := hid (K0.out.later b5)
  clear b5 e0 e1 e2 HH hwb
  go_wp2_with fail
  go_loopw [5, 6] (fun v lv wr => ∃ j : Nat, j ≤ t ∧ lv = .int .i64 ((t : Int) - 1 - (j : Int)) ∧ Hid (OwnZ wr w5.heap.size v (zi (trl ns ord (ik k s c) j))) ∧ Hid (Below w5.heap.size w5 wr)) (fun _ lv _ => (intOf lv + 1).toNat)
  case atStart => exact ⟨0, Nat.zero_le _, by simp, OwnZ.nil _ _, Below.refl _ _⟩
  case round =>
    obtain ⟨j, hj, rfl, HO, HB⟩ := hrel
    by_cases h1 : j = t
    · have i1 : (t : Int) - 1 - (j : Int) = -1 := by omega
      rw [i1]
      have BF := hid (B0.out.trans (HB.out.mono B0.out.size))
      have OF : Hid (OwnZ wr w.heap.size u5 (zi (trl ns ord (ik k s c) (top ns)))) := by
        rw [← hto.out, ← h1]
        exact own_mono HO.out B0.out.size
      replace h1 := hid h1
      go_wp2_with fail
      go_ret
      exact ⟨_, rfl, OF.out, BF.out⟩
    · obtain ⟨l, hlv⟩ : ∃ l : Nat, l = t - 1 - j := ⟨_, rfl⟩
      have i1 : (t : Int) - 1 - (j : Int) = (l : Int) := by omega
      rw [i1]
      have i2 : (0 : Int) ≤ (l : Int) := by omega
      have hl12 : l ≤ 12 := by omega
      replace i1 := hid i1
      replace hlv := hid hlv
      go_wp2_with fail
      generalize hwo : wr = wo at *
      generalize hv5 : u5 = v0 at *
      clear hwo hv5
      go_loopw [7, 8] (fun av iv wq => ∃ i : Nat, i ≤ P ∧ av = .int .i64 (((chT ns ord l i).getLastD 0 : Nat) : Int) ∧ iv = .int .i64 (i : Int) ∧ Hid (Below wo.heap.size wo wq)) (fun _ iv _ => P - (intOf iv).toNat)
      case atStart => exact ⟨0, Nat.zero_le _, rfl, rfl, Below.refl _ _⟩
      case round =>
        obtain ⟨i, hi, rfl, rfl, HI⟩ := hrel
        have HBr := HB.out.trans (HI.out.mono HB.out.size)
        have Rr := R0.out.later HBr
        have Kr := K0.out.later HBr
        have Hr := H0.out.later HBr
        have HPL := hid (hpa.out wr Hr)
        have e0 := Rr.c0
        have e1 := Rr.c1
        have e2 := Rr.c2
        have k0 := Kr.c0
        have k1 := Kr.c1
        have k2 := Kr.c2
        replace Rr := hid Rr
        replace Kr := hid Kr
        replace Hr := hid Hr
        replace HBr := hid HBr
        generalize hLD : (chT ns ord l i).getLastD 0 = A at *
        replace hLD := hid hLD
        go_wp2_with fail
        refine HPL.out.mono ?_
        rintro e w6 ⟨rfl, b6⟩
        replace HI := hid (HI.out.trans (b6.mono HI.out.size))
        replace Rr := hid (Rr.out.later b6)
        replace Kr := hid (Kr.out.later b6)
        replace Hr := hid (Hr.out.later b6)
        replace HBr := hid (HBr.out.trans (b6.mono HBr.out.size))
        clear b6 e0 e1 e2 k0 k1 k2 HPL
        by_cases h2 : i < P
        · obtain ⟨n, hn⟩ : ∃ n, ord[i]? = some n := ⟨_, List.getElem?_eq_getElem (by omega)⟩
          have hmem := (G.out.mem n).1 (List.mem_of_getElem? hn)
          have Hq := Hr.out
          have hol3 := hol.out
          obtain ⟨gn, hgn⟩ := OwnN.some Hq.n (by omega)
          obtain ⟨go, hgo⟩ := OwnZ.some Hq.o (by rw [zi_len]; omega)
          subst hgn hgo
          obtain ⟨_, _, _, _, p4⟩ := OwnN.cells Hq.n n hmem
          have q0 := Hq.o.cell i (by rw [zi_len]; omega)
          rw [zi_at hn] at q0
          have e1 := Rr.out.c1
          have e2 := Rr.out.c2
          have hnx := chT_next ns ord l i n hn
          have i1 : (i : Int) < (P : Int) := by omega
          have i6 : (i : Int) < (ord.length : Int) := by omega
          have i3 : (n : Int) - 1 < (ns.length : Int) := by omega
          have i4 : 0 ≤ (n : Int) - 1 := by omega
          have i5 : ((n : Int) - 1).toNat = n - 1 := by omega
          have d0 := fun d os => cell_regrown p4 d os
          have d1 := fun d os => cell_regrown q0 d os
          have d2 := fun d os => cell_regrown e1 d os
          have d3 := fun d os => cell_regrown e2 d os
          have hh12 := (G.out.hs _ (G.out.nd_mem (List.mem_of_getElem? hn))).2
          generalize (nd ns n).h = y at *
          replace hn := hid hn
          replace Hq := hid Hq
          replace hol3 := hid hol3
          by_cases hc : l < y
          · rw [if_pos hc] at hnx
            have hc2 : (l : Int) < (y : Int) := by omega
            replace hnx := hid hnx
            clear q0 p4
            go_wp2_with fail
            refine wp_region_quiet_below (by kernel_rfl) (by kernel_rfl) ?_
            repeat (first | go_big_quiet_step (fail) | quiet_step (fail))
            refine wpQuiet_nil ?_
            intro w8 hw8
            have b8 : Below w6.heap.size w6 w8 := by
              obtain ⟨⟨dq, osq⟩, hw''⟩ := hw8
              rw [hw'']
              exact below_regrown _ dq osq
            have c8 := (Rr.out.later b8).c2
            have q8 := (Hq.out.later b8).o.cell i (by rw [zi_len]; omega)
            rw [zi_at hn.out] at q8
            have HI8 := hid (HI.out.trans (b8.mono HI.out.size))
            clear b8 hw8 d0 d1 d2 d3 e1 e2
            go_wp2_with fail
            refine ⟨⟨i + 1, by omega, by rw [hnx.out]; simp, by simp, HI8⟩, ?_⟩
            simp only [intOf]; omega
          · rw [if_neg hc] at hnx
            have hc2 : ¬ (l : Int) < (y : Int) := by omega
            replace hnx := hid hnx
            clear q0 p4
            go_wp2_with fail
            refine wp_region_quiet_below (by kernel_rfl) (by kernel_rfl) ?_
            repeat (first | go_big_quiet_step (fail) | quiet_step (fail))
            refine wpQuiet_nil ?_
            intro w8 hw8
            have b8 : Below w6.heap.size w6 w8 := by
              obtain ⟨⟨dq, osq⟩, hw''⟩ := hw8
              rw [hw'']
              exact below_regrown _ dq osq
            have HI8 := hid (HI.out.trans (b8.mono HI.out.size))
            clear b8 hw8 d0 d1 d2 d3 e1 e2
            go_wp2_with fail
            refine ⟨⟨i + 1, by omega, by rw [hnx.out, hLD.out], by simp, HI8⟩, ?_⟩
            simp only [intOf]; omega
        · have e : i = P := by omega
          have i1 : ¬ (i : Int) < (P : Int) := by omega
          have hA : A = lastB ns ord (ik k s c) l := by rw [← hLD.out, e]; exact hcp.out l
          obtain ⟨v5, W5, r5, O5, g5⟩ := app_int w6 w5.heap.size v0 (zi (trl ns ord (ik k s c) j)) (A : Int) (HO.out.later HI.out) (by rw [zi_len, trl_len]; omega) HBr.out.size
          have B5 := hid (HBr.out.grown g5 HBr.out.size (fun q hq => (World.ownsRow.lt (HO.out.later HI.out) q hq).1))
          have O6 : Hid (OwnZ W5 w5.heap.size v5 (zi (trl ns ord (ik k s c) (j + 1)))) := by
            rw [trl_succ, zi_append, ← hto.out, ← hlv.out, ← hA]; exact O5
          have i9 : (t : Int) - 1 - ((j + 1 : Nat) : Int) = (l : Int) - 1 := by have := i1; have := hlv.out; omega
          replace r5 := hid r5
          replace e := hid e
          replace hA := hid hA
          replace i9 := hid i9
          clear O5 g5
          go_wp2_with (at_builtin; refine wpList_append_run rfl _ _ _ _ rfl _ _ _ rfl rfl r5.out ?_)
          refine ⟨⟨j + 1, by omega, by rw [i9.out], O6, B5⟩, ?_⟩
          simp only [intOf]; omega
end Go.Proofs.Ythnmoidfdojoiaa.Rt

/- The document's list: New, Insert. -/
import Derived.Test.YthnmoidfdojoiaaRn
namespace Go.Proofs.Ythnmoidfdojoiaa.Ri
open Go.ChangeShapes Go.WideShapes Go.ChangeAt Go.RowKit
open Go.Sort (grow)
open Go.Proofs.Ythnmoidfdojoiaa.Ik
open Go.Proofs.Ythnmoidfdojoiaa.Sg
open Go.Proofs.Ythnmoidfdojoiaa.Cm (ik)
open Go.Proofs.Ythnmoidfdojoiaa.Vl
open Go.Proofs.Ythnmoidfdojoiaa.Mm
open Go.Proofs.Ythnmoidfdojoiaa.Tr
open Go.Proofs.Ythnmoidfdojoiaa.Li
open Go.Proofs.Ythnmoidfdojoiaa.In
open Go.Proofs.Ythnmoidfdojoiaa.Oi
open Go.Proofs.Ythnmoidfdojoiaa.Rc
open Go.Proofs.Ythnmoidfdojoiaa.Rl
open Go.Proofs.Ythnmoidfdojoiaa.Rn
open Go.Proofs.Ythnmoidfdojoiaa.Fi (first_eq)
set_option linter.unusedVariables false
set_option linter.unusedSimpArgs false
theorem set3 {W : World} {g : Nat} {x y z : Value} (a b c : Value) (h : W.heap[g]? = some (.cells #[x, y, z] 30)) :
    (((W.setCell ⟨g, 0, none⟩ a).setCell ⟨g, 1, none⟩ b).setCell ⟨g, 2, none⟩ c).heap[g]? = some (.cells #[a, b, c] 30) := by
  rw [set_of (set_of (set_of h _ _) _ _)]
  rfl
theorem set3_below {n : Nat} {w W : World} {g : Nat} (a b c : Value) (h : Below n w W) (hg : n ≤ g) : Below n w (((W.setCell ⟨g, 0, none⟩ a).setCell ⟨g, 1, none⟩ b).setCell ⟨g, 2, none⟩ c) := by
  refine Below.setCell (Below.setCell (Below.setCell h ?_ a) ?_ b) ?_ c <;> exact hg
set_option maxHeartbeats 1000000 in
theorem rnew_no (most : Int) (w : World) (hm : most < 1 ∨ 1048576 < most) :
    Calls Try.prog 10 #[.int .i64 most] w fun e w' => e = .returned (.tuple #[.agg #[.int .i64 0, .slice none 0 0, .slice none 0 0], .int .i64 2]) ∧ Below w.heap.size w w' := by
  have BF := hid (box_below w (.cells #[.int .i64 0, .slice none 0 0, .slice none 0 0] 30))
  rcases hm with h1 | h1
  · go_enter Try.func10, Try.ntmps10
    go_wp2_with fail
    refine bodyPost_ret (v := .tuple #[.agg #[.int .i64 0, .slice none 0 0, .slice none 0 0], .int .i64 2]) (by simp [results, Try.results10, go_sem]) rfl ⟨rfl, ?_⟩; first | exact BF.out | exact BF.out.drew
  · have h0 : ¬ most < 1 := by omega
    go_enter Try.func10, Try.ntmps10
    go_wp2_with fail
    refine bodyPost_ret (v := .tuple #[.agg #[.int .i64 0, .slice none 0 0, .slice none 0 0], .int .i64 2]) (by simp [results, Try.results10, go_sem]) rfl ⟨rfl, ?_⟩; first | exact BF.out | exact BF.out.drew
set_option maxHeartbeats 1000000 in
theorem rnew_ok (most : Nat) (w : World) (h1 : 1 ≤ most) (h2 : most ≤ 1048576) :
    Calls Try.prog 10 #[.int .i64 (most : Int)] w fun e w' => e = .returned (.tuple #[.agg #[.int .i64 (most : Int), .slice none 0 0, .slice none 0 0], .int .i64 0]) ∧ Below w.heap.size w w' := by
  have BF := hid (box_below w (.cells #[.int .i64 (most : Int), .slice none 0 0, .slice none 0 0] 30))
  have i1 : ¬ (most : Int) < 1 := by omega
  have i2 : ¬ (1048576 : Int) < (most : Int) := by omega
  go_enter Try.func10, Try.ntmps10
  go_wp2_with fail
  refine bodyPost_ret (v := .tuple #[.agg #[.int .i64 (most : Int), .slice none 0 0, .slice none 0 0], .int .i64 0]) (by simp [results, Try.results10, go_sem]) rfl ⟨rfl, ?_⟩; first | exact BF.out | exact BF.out.drew
theorem RL.nil (w : World) (base : Nat) : RL w base none none 0 0 [] [] := ⟨World.ownsRow_nil _ _ _ _, OwnZ.nil _ _, Gd.empty⟩
set_option maxHeartbeats 2000000 in
set_option maxRecDepth 100000 in
theorem rins_key (base most : Nat) (an ao : Option Addr) (cn co : Nat) (ns : List N) (ord : List Nat) (k : ByteArray) (s c : Int) (v : Value) (h : Int) (w : World) (H : RL w base an ao cn co ns ord) (hl : ns.length ≤ 1048576) (hk : k.size ≤ maxLen) (hv1 : vld k s c = false) :
    Calls Try.prog 15 #[.agg #[.int .i64 (most : Int), .slice an ns.length cn, .slice ao ord.length co], .agg #[.string k, .int .u64 s, .int .i64 c], v, .int .i64 h] w fun e w' => e = .returned (.tuple #[.agg #[.int .i64 (most : Int), .slice an ns.length cn, .slice ao ord.length co], .int .i64 30]) ∧ Below w.heap.size w w' := by
  obtain ⟨gk, hgk⟩ : ∃ gk, gk = w.heap.size := ⟨_, rfl⟩
  obtain ⟨gr, hgr⟩ : ∃ gr, gr = gk + 2 := ⟨_, rfl⟩
  obtain ⟨w2, hw2⟩ : ∃ w2, w2 = (w.alloc (.cells #[.int .i64 (most : Int), .slice an ns.length cn, .slice ao ord.length co] 30)).alloc (.cells #[.string k, .int .u64 s, .int .i64 c] 36) := ⟨_, rfl⟩
  obtain ⟨B2, R2, K2⟩ := boxR _ _ w w2 hw2
  have s2 : w2.heap.size = gk + 2 := by rw [hw2, size_alloc, size_alloc, hgk]
  obtain ⟨W0, hW0⟩ : ∃ W0, W0 = w2.alloc (.cells #[.int .i64 0, .slice none 0 0, .slice none 0 0] 30) := ⟨_, rfl⟩
  have b3 : Below w2.heap.size w2 W0 := by rw [hW0]; exact box_below _ _
  have B0 := B2.trans (b3.mono B2.size)
  rw [← hgk] at R2 K2
  have R0 : RB W0 gk most an ao cn co ns.length ord.length := (b3.block _ (by omega)).trans R2
  have K0 : Bx W0 (gk + 1) k s c := (b3.block _ (by omega)).trans K2
  have Z0 : W0.heap[gr]? = some (.cells #[.int .i64 0, .slice none 0 0, .slice none 0 0] 30) := by rw [hgr, ← s2, hW0]; exact new_at _ _
  rw [hw2] at hW0
  have H0 := H.later B0
  have hol := H.G.len
  clear b3 R2 K2 s2 hw2 B2
  have HV := hid (rvalid_any k s c W0 hk)
  rw [hv1] at HV
  have k0 := K0.c0
  have k1 := K0.c1
  have k2 := K0.c2
  replace hgk := hid hgk
  replace hgr := hid hgr
  replace hW0 := hid hW0
  replace B0 := hid B0
  replace R0 := hid R0
  replace K0 := hid K0
  replace Z0 := hid Z0
  replace H0 := hid H0
  replace hol := hid hol
  clear H
  go_enter Try.func15, Try.ntmps15
  go_wp2_with fail
  rw [← hW0.out]
  rw [← hgk.out]
  rw [← hgr.out]
  go_wp2_with fail
  refine HV.out.mono ?_
  rintro e w3 ⟨rfl, b3⟩
  replace B0 := hid (B0.out.trans (b3.mono B0.out.size))
  replace R0 := hid (R0.out.later b3)
  replace K0 := hid (K0.out.later b3)
  replace H0 := hid (H0.out.later b3)
  replace Z0 : Hid (w3.heap[gr]? = some (.cells #[.int .i64 0, .slice none 0 0, .slice none 0 0] 30)) := (b3.block gr (blk_lt Z0.out)).trans Z0.out
  clear b3 HV hW0 k0 k1 k2
  have e0 := R0.out.c0
  have e1 := R0.out.c1
  have e2 := R0.out.c2
  have f0 := fz_of Z0.out 0
  have f1 := fz_of Z0.out 1
  have f2 := fz_of Z0.out 2
  have z0 := cell_of Z0.out 0 (.int .i64 0) rfl
  have z1 := cell_of Z0.out 1 (.slice none 0 0) rfl
  have z2 := cell_of Z0.out 2 (.slice none 0 0) rfl
  have KF := hid (set3 (.int .i64 (most : Int)) (.slice an ns.length cn) (.slice ao ord.length co) Z0.out)
  have BF := hid (set3_below (.int .i64 (most : Int)) (.slice an ns.length cn) (.slice ao ord.length co) B0.out (by rw [hgr.out, hgk.out]; omega : w.heap.size ≤ gr))
  go_wp2_with fail
  have x0 := cell_of KF.out 0 (.int .i64 (most : Int)) rfl
  have x1 := cell_of KF.out 1 (.slice an ns.length cn) rfl
  have x2 := cell_of KF.out 2 (.slice ao ord.length co) rfl
  generalize hWF : ((w3.setCell ⟨gr, 0, none⟩ (.int .i64 (most : Int))).setCell ⟨gr, 1, none⟩ (.slice an ns.length cn)).setCell ⟨gr, 2, none⟩ (.slice ao ord.length co) = WF at *
  refine bodyPost_ret (v := .tuple #[.agg #[.int .i64 (most : Int), .slice an ns.length cn, .slice ao ord.length co], .int .i64 30]) (by simp [results, Try.results15, go_sem, x0, x1, x2]) rfl ⟨rfl, ?_⟩
  first | exact BF.out | exact BF.out.drew
set_option maxHeartbeats 2000000 in
set_option maxRecDepth 100000 in
theorem rins_arg (base most : Nat) (an ao : Option Addr) (cn co : Nat) (ns : List N) (ord : List Nat) (k : ByteArray) (s c : Int) (v : Value) (h : Int) (w : World) (H : RL w base an ao cn co ns ord) (hl : ns.length ≤ 1048576) (hk : k.size ≤ maxLen) (hv1 : vld k s c = true) (hh : h < 1 ∨ 12 < h) :
    Calls Try.prog 15 #[.agg #[.int .i64 (most : Int), .slice an ns.length cn, .slice ao ord.length co], .agg #[.string k, .int .u64 s, .int .i64 c], v, .int .i64 h] w fun e w' => e = .returned (.tuple #[.agg #[.int .i64 (most : Int), .slice an ns.length cn, .slice ao ord.length co], .int .i64 2]) ∧ Below w.heap.size w w' := by
  obtain ⟨gk, hgk⟩ : ∃ gk, gk = w.heap.size := ⟨_, rfl⟩
  obtain ⟨gr, hgr⟩ : ∃ gr, gr = gk + 2 := ⟨_, rfl⟩
  obtain ⟨w2, hw2⟩ : ∃ w2, w2 = (w.alloc (.cells #[.int .i64 (most : Int), .slice an ns.length cn, .slice ao ord.length co] 30)).alloc (.cells #[.string k, .int .u64 s, .int .i64 c] 36) := ⟨_, rfl⟩
  obtain ⟨B2, R2, K2⟩ := boxR _ _ w w2 hw2
  have s2 : w2.heap.size = gk + 2 := by rw [hw2, size_alloc, size_alloc, hgk]
  obtain ⟨W0, hW0⟩ : ∃ W0, W0 = w2.alloc (.cells #[.int .i64 0, .slice none 0 0, .slice none 0 0] 30) := ⟨_, rfl⟩
  have b3 : Below w2.heap.size w2 W0 := by rw [hW0]; exact box_below _ _
  have B0 := B2.trans (b3.mono B2.size)
  rw [← hgk] at R2 K2
  have R0 : RB W0 gk most an ao cn co ns.length ord.length := (b3.block _ (by omega)).trans R2
  have K0 : Bx W0 (gk + 1) k s c := (b3.block _ (by omega)).trans K2
  have Z0 : W0.heap[gr]? = some (.cells #[.int .i64 0, .slice none 0 0, .slice none 0 0] 30) := by rw [hgr, ← s2, hW0]; exact new_at _ _
  rw [hw2] at hW0
  have H0 := H.later B0
  have hol := H.G.len
  clear b3 R2 K2 s2 hw2 B2
  have HV := hid (rvalid_any k s c W0 hk)
  rw [hv1] at HV
  have k0 := K0.c0
  have k1 := K0.c1
  have k2 := K0.c2
  replace hgk := hid hgk
  replace hgr := hid hgr
  replace hW0 := hid hW0
  replace B0 := hid B0
  replace R0 := hid R0
  replace K0 := hid K0
  replace Z0 := hid Z0
  replace H0 := hid H0
  replace hol := hid hol
  clear H
  go_enter Try.func15, Try.ntmps15
  go_wp2_with fail
  rw [← hW0.out]
  rw [← hgk.out]
  rw [← hgr.out]
  go_wp2_with fail
  refine HV.out.mono ?_
  rintro e w3 ⟨rfl, b3⟩
  replace B0 := hid (B0.out.trans (b3.mono B0.out.size))
  replace R0 := hid (R0.out.later b3)
  replace K0 := hid (K0.out.later b3)
  replace H0 := hid (H0.out.later b3)
  replace Z0 : Hid (w3.heap[gr]? = some (.cells #[.int .i64 0, .slice none 0 0, .slice none 0 0] 30)) := (b3.block gr (blk_lt Z0.out)).trans Z0.out
  clear b3 HV hW0 k0 k1 k2
  rcases hh with hh | hh
  · have e0 := R0.out.c0
    have e1 := R0.out.c1
    have e2 := R0.out.c2
    have f0 := fz_of Z0.out 0
    have f1 := fz_of Z0.out 1
    have f2 := fz_of Z0.out 2
    have z0 := cell_of Z0.out 0 (.int .i64 0) rfl
    have z1 := cell_of Z0.out 1 (.slice none 0 0) rfl
    have z2 := cell_of Z0.out 2 (.slice none 0 0) rfl
    have KF := hid (set3 (.int .i64 (most : Int)) (.slice an ns.length cn) (.slice ao ord.length co) Z0.out)
    have BF := hid (set3_below (.int .i64 (most : Int)) (.slice an ns.length cn) (.slice ao ord.length co) B0.out (by rw [hgr.out, hgk.out]; omega : w.heap.size ≤ gr))
    go_wp2_with fail
    have x0 := cell_of KF.out 0 (.int .i64 (most : Int)) rfl
    have x1 := cell_of KF.out 1 (.slice an ns.length cn) rfl
    have x2 := cell_of KF.out 2 (.slice ao ord.length co) rfl
    generalize hWF : ((w3.setCell ⟨gr, 0, none⟩ (.int .i64 (most : Int))).setCell ⟨gr, 1, none⟩ (.slice an ns.length cn)).setCell ⟨gr, 2, none⟩ (.slice ao ord.length co) = WF at *
    refine bodyPost_ret (v := .tuple #[.agg #[.int .i64 (most : Int), .slice an ns.length cn, .slice ao ord.length co], .int .i64 2]) (by simp [results, Try.results15, go_sem, x0, x1, x2]) rfl ⟨rfl, ?_⟩
    first | exact BF.out | exact BF.out.drew
  · have i1 : ¬ h < 1 := by omega
    have e0 := R0.out.c0
    have e1 := R0.out.c1
    have e2 := R0.out.c2
    have f0 := fz_of Z0.out 0
    have f1 := fz_of Z0.out 1
    have f2 := fz_of Z0.out 2
    have z0 := cell_of Z0.out 0 (.int .i64 0) rfl
    have z1 := cell_of Z0.out 1 (.slice none 0 0) rfl
    have z2 := cell_of Z0.out 2 (.slice none 0 0) rfl
    have KF := hid (set3 (.int .i64 (most : Int)) (.slice an ns.length cn) (.slice ao ord.length co) Z0.out)
    have BF := hid (set3_below (.int .i64 (most : Int)) (.slice an ns.length cn) (.slice ao ord.length co) B0.out (by rw [hgr.out, hgk.out]; omega : w.heap.size ≤ gr))
    go_wp2_with fail
    have x0 := cell_of KF.out 0 (.int .i64 (most : Int)) rfl
    have x1 := cell_of KF.out 1 (.slice an ns.length cn) rfl
    have x2 := cell_of KF.out 2 (.slice ao ord.length co) rfl
    generalize hWF : ((w3.setCell ⟨gr, 0, none⟩ (.int .i64 (most : Int))).setCell ⟨gr, 1, none⟩ (.slice an ns.length cn)).setCell ⟨gr, 2, none⟩ (.slice ao ord.length co) = WF at *
    refine bodyPost_ret (v := .tuple #[.agg #[.int .i64 (most : Int), .slice an ns.length cn, .slice ao ord.length co], .int .i64 2]) (by simp [results, Try.results15, go_sem, x0, x1, x2]) rfl ⟨rfl, ?_⟩
    first | exact BF.out | exact BF.out.drew
set_option maxHeartbeats 2000000 in
set_option maxRecDepth 100000 in
theorem rins_there (base most : Nat) (an ao : Option Addr) (cn co : Nat) (ns : List N) (ord : List Nat) (k : ByteArray) (s c : Int) (v : Value) (h : Int) (w : World) (H : RL w base an ao cn co ns ord) (hl : ns.length ≤ 1048576) (hk : k.size ≤ maxLen) (hv1 : vld k s c = true) (hh : 1 ≤ h ∧ h ≤ 12) (hth : thr ns ord (ik k s c) = true) :
    Calls Try.prog 15 #[.agg #[.int .i64 (most : Int), .slice an ns.length cn, .slice ao ord.length co], .agg #[.string k, .int .u64 s, .int .i64 c], v, .int .i64 h] w fun e w' => e = .returned (.tuple #[.agg #[.int .i64 (most : Int), .slice an ns.length cn, .slice ao ord.length co], .int .i64 81]) ∧ Below w.heap.size w w' := by
  obtain ⟨gk, hgk⟩ : ∃ gk, gk = w.heap.size := ⟨_, rfl⟩
  obtain ⟨gr, hgr⟩ : ∃ gr, gr = gk + 2 := ⟨_, rfl⟩
  obtain ⟨w2, hw2⟩ : ∃ w2, w2 = (w.alloc (.cells #[.int .i64 (most : Int), .slice an ns.length cn, .slice ao ord.length co] 30)).alloc (.cells #[.string k, .int .u64 s, .int .i64 c] 36) := ⟨_, rfl⟩
  obtain ⟨B2, R2, K2⟩ := boxR _ _ w w2 hw2
  have s2 : w2.heap.size = gk + 2 := by rw [hw2, size_alloc, size_alloc, hgk]
  obtain ⟨W0, hW0⟩ : ∃ W0, W0 = w2.alloc (.cells #[.int .i64 0, .slice none 0 0, .slice none 0 0] 30) := ⟨_, rfl⟩
  have b3 : Below w2.heap.size w2 W0 := by rw [hW0]; exact box_below _ _
  have B0 := B2.trans (b3.mono B2.size)
  rw [← hgk] at R2 K2
  have R0 : RB W0 gk most an ao cn co ns.length ord.length := (b3.block _ (by omega)).trans R2
  have K0 : Bx W0 (gk + 1) k s c := (b3.block _ (by omega)).trans K2
  have Z0 : W0.heap[gr]? = some (.cells #[.int .i64 0, .slice none 0 0, .slice none 0 0] 30) := by rw [hgr, ← s2, hW0]; exact new_at _ _
  rw [hw2] at hW0
  have H0 := H.later B0
  have hol := H.G.len
  clear b3 R2 K2 s2 hw2 B2
  have HV := hid (rvalid_any k s c W0 hk)
  rw [hv1] at HV
  have k0 := K0.c0
  have k1 := K0.c1
  have k2 := K0.c2
  replace hgk := hid hgk
  replace hgr := hid hgr
  replace hW0 := hid hW0
  replace B0 := hid B0
  replace R0 := hid R0
  replace K0 := hid K0
  replace Z0 := hid Z0
  replace H0 := hid H0
  replace hol := hid hol
  clear H
  go_enter Try.func15, Try.ntmps15
  go_wp2_with fail
  rw [← hW0.out]
  rw [← hgk.out]
  rw [← hgr.out]
  go_wp2_with fail
  refine HV.out.mono ?_
  rintro e w3 ⟨rfl, b3⟩
  replace B0 := hid (B0.out.trans (b3.mono B0.out.size))
  replace R0 := hid (R0.out.later b3)
  replace K0 := hid (K0.out.later b3)
  replace H0 := hid (H0.out.later b3)
  replace Z0 : Hid (w3.heap[gr]? = some (.cells #[.int .i64 0, .slice none 0 0, .slice none 0 0] 30)) := (b3.block gr (blk_lt Z0.out)).trans Z0.out
  clear b3 HV hW0 k0 k1 k2
  have HF := rfind_any base most an ao cn co ns ord k s c w3 H0.out hl
  rw [hth, if_pos rfl] at HF
  replace HF := hid HF
  have e0 := R0.out.c0
  have e1 := R0.out.c1
  have e2 := R0.out.c2
  have k0 := K0.out.c0
  have k1 := K0.out.c1
  have k2 := K0.out.c2
  have i1 : ¬ h < 1 := by omega
  have i2 : ¬ 12 < h := by omega
  go_wp2_with fail
  refine HF.out.mono ?_
  rintro e w4 ⟨rfl, b3⟩
  replace B0 := hid (B0.out.trans (b3.mono B0.out.size))
  replace R0 := hid (R0.out.later b3)
  replace K0 := hid (K0.out.later b3)
  replace H0 := hid (H0.out.later b3)
  replace Z0 : Hid (w4.heap[gr]? = some (.cells #[.int .i64 0, .slice none 0 0, .slice none 0 0] 30)) := (b3.block gr (blk_lt Z0.out)).trans Z0.out
  clear b3 HF e0 e1 e2 k0 k1 k2
  have hF0 : 0 < firstN ns ord (ik k s c) := Nat.pos_of_ne_zero (of_decide_eq_true hth).1
  have hF1 : (0 : Int) < (firstN ns ord (ik k s c) : Int) := by omega
  generalize firstN ns ord (ik k s c) = F at *
  have e0 := R0.out.c0
  have e1 := R0.out.c1
  have e2 := R0.out.c2
  have f0 := fz_of Z0.out 0
  have f1 := fz_of Z0.out 1
  have f2 := fz_of Z0.out 2
  have z0 := cell_of Z0.out 0 (.int .i64 0) rfl
  have z1 := cell_of Z0.out 1 (.slice none 0 0) rfl
  have z2 := cell_of Z0.out 2 (.slice none 0 0) rfl
  have KF := hid (set3 (.int .i64 (most : Int)) (.slice an ns.length cn) (.slice ao ord.length co) Z0.out)
  have BF := hid (set3_below (.int .i64 (most : Int)) (.slice an ns.length cn) (.slice ao ord.length co) B0.out (by rw [hgr.out, hgk.out]; omega : w.heap.size ≤ gr))
  go_wp2_with fail
  have x0 := cell_of KF.out 0 (.int .i64 (most : Int)) rfl
  have x1 := cell_of KF.out 1 (.slice an ns.length cn) rfl
  have x2 := cell_of KF.out 2 (.slice ao ord.length co) rfl
  generalize hWF : ((w4.setCell ⟨gr, 0, none⟩ (.int .i64 (most : Int))).setCell ⟨gr, 1, none⟩ (.slice an ns.length cn)).setCell ⟨gr, 2, none⟩ (.slice ao ord.length co) = WF at *
  refine bodyPost_ret (v := .tuple #[.agg #[.int .i64 (most : Int), .slice an ns.length cn, .slice ao ord.length co], .int .i64 81]) (by simp [results, Try.results15, go_sem, x0, x1, x2]) rfl ⟨rfl, ?_⟩
  first | exact BF.out | exact BF.out.drew
set_option maxHeartbeats 2000000 in
set_option maxRecDepth 100000 in
theorem rins_full (base most : Nat) (an ao : Option Addr) (cn co : Nat) (ns : List N) (ord : List Nat) (k : ByteArray) (s c : Int) (v : Value) (h : Int) (w : World) (H : RL w base an ao cn co ns ord) (hl : ns.length ≤ 1048576) (hk : k.size ≤ maxLen) (hv1 : vld k s c = true) (hh : 1 ≤ h ∧ h ≤ 12) (hth : thr ns ord (ik k s c) = false) (hfull : most ≤ ns.length) :
    Calls Try.prog 15 #[.agg #[.int .i64 (most : Int), .slice an ns.length cn, .slice ao ord.length co], .agg #[.string k, .int .u64 s, .int .i64 c], v, .int .i64 h] w fun e w' => e = .returned (.tuple #[.agg #[.int .i64 (most : Int), .slice an ns.length cn, .slice ao ord.length co], .int .i64 82]) ∧ Below w.heap.size w w' := by
  obtain ⟨gk, hgk⟩ : ∃ gk, gk = w.heap.size := ⟨_, rfl⟩
  obtain ⟨gr, hgr⟩ : ∃ gr, gr = gk + 2 := ⟨_, rfl⟩
  obtain ⟨w2, hw2⟩ : ∃ w2, w2 = (w.alloc (.cells #[.int .i64 (most : Int), .slice an ns.length cn, .slice ao ord.length co] 30)).alloc (.cells #[.string k, .int .u64 s, .int .i64 c] 36) := ⟨_, rfl⟩
  obtain ⟨B2, R2, K2⟩ := boxR _ _ w w2 hw2
  have s2 : w2.heap.size = gk + 2 := by rw [hw2, size_alloc, size_alloc, hgk]
  obtain ⟨W0, hW0⟩ : ∃ W0, W0 = w2.alloc (.cells #[.int .i64 0, .slice none 0 0, .slice none 0 0] 30) := ⟨_, rfl⟩
  have b3 : Below w2.heap.size w2 W0 := by rw [hW0]; exact box_below _ _
  have B0 := B2.trans (b3.mono B2.size)
  rw [← hgk] at R2 K2
  have R0 : RB W0 gk most an ao cn co ns.length ord.length := (b3.block _ (by omega)).trans R2
  have K0 : Bx W0 (gk + 1) k s c := (b3.block _ (by omega)).trans K2
  have Z0 : W0.heap[gr]? = some (.cells #[.int .i64 0, .slice none 0 0, .slice none 0 0] 30) := by rw [hgr, ← s2, hW0]; exact new_at _ _
  rw [hw2] at hW0
  have H0 := H.later B0
  have hol := H.G.len
  clear b3 R2 K2 s2 hw2 B2
  have HV := hid (rvalid_any k s c W0 hk)
  rw [hv1] at HV
  have k0 := K0.c0
  have k1 := K0.c1
  have k2 := K0.c2
  replace hgk := hid hgk
  replace hgr := hid hgr
  replace hW0 := hid hW0
  replace B0 := hid B0
  replace R0 := hid R0
  replace K0 := hid K0
  replace Z0 := hid Z0
  replace H0 := hid H0
  replace hol := hid hol
  clear H
  go_enter Try.func15, Try.ntmps15
  go_wp2_with fail
  rw [← hW0.out]
  rw [← hgk.out]
  rw [← hgr.out]
  go_wp2_with fail
  refine HV.out.mono ?_
  rintro e w3 ⟨rfl, b3⟩
  replace B0 := hid (B0.out.trans (b3.mono B0.out.size))
  replace R0 := hid (R0.out.later b3)
  replace K0 := hid (K0.out.later b3)
  replace H0 := hid (H0.out.later b3)
  replace Z0 : Hid (w3.heap[gr]? = some (.cells #[.int .i64 0, .slice none 0 0, .slice none 0 0] 30)) := (b3.block gr (blk_lt Z0.out)).trans Z0.out
  clear b3 HV hW0 k0 k1 k2
  have HF := rfind_any base most an ao cn co ns ord k s c w3 H0.out hl
  rw [hth, if_neg (by simp)] at HF
  replace HF := hid HF
  have e0 := R0.out.c0
  have e1 := R0.out.c1
  have e2 := R0.out.c2
  have k0 := K0.out.c0
  have k1 := K0.out.c1
  have k2 := K0.out.c2
  have i1 : ¬ h < 1 := by omega
  have i2 : ¬ 12 < h := by omega
  go_wp2_with fail
  refine HF.out.mono ?_
  rintro e w4 ⟨rfl, b3⟩
  replace B0 := hid (B0.out.trans (b3.mono B0.out.size))
  replace R0 := hid (R0.out.later b3)
  replace K0 := hid (K0.out.later b3)
  replace H0 := hid (H0.out.later b3)
  replace Z0 : Hid (w4.heap[gr]? = some (.cells #[.int .i64 0, .slice none 0 0, .slice none 0 0] 30)) := (b3.block gr (blk_lt Z0.out)).trans Z0.out
  clear b3 HF e0 e1 e2 k0 k1 k2
  have hf1 : (most : Int) ≤ (ns.length : Int) := by omega
  have hf2 : most ≤ ns.length := by omega
  have e0 := R0.out.c0
  have e1 := R0.out.c1
  have e2 := R0.out.c2
  have f0 := fz_of Z0.out 0
  have f1 := fz_of Z0.out 1
  have f2 := fz_of Z0.out 2
  have z0 := cell_of Z0.out 0 (.int .i64 0) rfl
  have z1 := cell_of Z0.out 1 (.slice none 0 0) rfl
  have z2 := cell_of Z0.out 2 (.slice none 0 0) rfl
  have KF := hid (set3 (.int .i64 (most : Int)) (.slice an ns.length cn) (.slice ao ord.length co) Z0.out)
  have BF := hid (set3_below (.int .i64 (most : Int)) (.slice an ns.length cn) (.slice ao ord.length co) B0.out (by rw [hgr.out, hgk.out]; omega : w.heap.size ≤ gr))
  go_wp2_with fail
  have x0 := cell_of KF.out 0 (.int .i64 (most : Int)) rfl
  have x1 := cell_of KF.out 1 (.slice an ns.length cn) rfl
  have x2 := cell_of KF.out 2 (.slice ao ord.length co) rfl
  generalize hWF : ((w4.setCell ⟨gr, 0, none⟩ (.int .i64 (most : Int))).setCell ⟨gr, 1, none⟩ (.slice an ns.length cn)).setCell ⟨gr, 2, none⟩ (.slice ao ord.length co) = WF at *
  refine bodyPost_ret (v := .tuple #[.agg #[.int .i64 (most : Int), .slice an ns.length cn, .slice ao ord.length co], .int .i64 82]) (by simp [results, Try.results15, go_sem, x0, x1, x2]) rfl ⟨rfl, ?_⟩
  first | exact BF.out | exact BF.out.drew
theorem rins_no (base most : Nat) (an ao : Option Addr) (cn co : Nat) (ns : List N) (ord : List Nat) (k : ByteArray) (s c : Int) (v : Value) (h : Int) (w : World) (H : RL w base an ao cn co ns ord) (hl : ns.length ≤ 1048576) (hk : k.size ≤ maxLen) (hE : insE most ns ord k s c h ≠ 0) :
    Calls Try.prog 15 #[.agg #[.int .i64 (most : Int), .slice an ns.length cn, .slice ao ord.length co], .agg #[.string k, .int .u64 s, .int .i64 c], v, .int .i64 h] w fun e w' => e = .returned (.tuple #[.agg #[.int .i64 (most : Int), .slice an ns.length cn, .slice ao ord.length co], .int .i64 (insE most ns ord k s c h)]) ∧ Below w.heap.size w w' := by
  unfold insE at *
  by_cases h1 : vld k s c = false
  · rw [if_pos h1]; exact rins_key base most an ao cn co ns ord k s c v h w H hl hk h1
  · have h1' : vld k s c = true := by simpa using h1
    rw [if_neg h1] at hE ⊢
    by_cases h2 : h < 1 ∨ 12 < h
    · rw [if_pos h2]; exact rins_arg base most an ao cn co ns ord k s c v h w H hl hk h1' h2
    · rw [if_neg h2] at hE ⊢
      by_cases h3 : thr ns ord (ik k s c) = true
      · rw [if_pos h3]; exact rins_there base most an ao cn co ns ord k s c v h w H hl hk h1' (by omega) h3
      · have h3' : thr ns ord (ik k s c) = false := by simpa using h3
        rw [if_neg h3] at hE ⊢
        by_cases h4 : ns.length = most
        · rw [if_pos h4]; exact rins_full base most an ao cn co ns ord k s c v h w H hl hk h1' (by omega) h3' (by omega)
        · rw [if_neg h4] at hE; exact absurd rfl hE
end Go.Proofs.Ythnmoidfdojoiaa.Ri

/- Two edits that are the same, held against one another. -/
import Derived.Test.YtnpeocoipodmfaaEv
namespace Go.Proofs.Ytnpeocoipodmfaa.Ss
open Go.ChangeShapes Go.WideShapes Go.ChangeAt Go.RowKit
open Go.Proofs.Ytnpeocoipodmfaa.Gr
open Go.Proofs.Ytnpeocoipodmfaa.Ev
set_option linter.unusedVariables false
set_option linter.unusedSimpArgs false

theorem boxes2 (w : World) (A B : Array Value) (t u : TypeId) : ∃ W g1 g2, W = (w.alloc (.cells A t)).alloc (.cells B u) ∧ g1 = w.heap.size ∧ g2 = g1 + 1 ∧ W.heap[g1]? = some (.cells A t) ∧ W.heap[g2]? = some (.cells B u) ∧ Below w.heap.size w W := by
  refine ⟨_, _, _, rfl, rfl, rfl, ?_, ?_, Below.up (box_below _ _) (box_below _ _)⟩
  · exact ((box_below (w.alloc (.cells A t)) (.cells B u)).block _ (by rw [size_alloc]; omega)).trans (new_at _ _)
  · have := new_at (w.alloc (.cells A t)) (.cells B u)
    rwa [size_alloc] at this
set_option maxHeartbeats 1000000 in
theorem same_any (va vb : Value) (x : Ed) (w : World) (HA : EV w va x) (HB : EV w vb x) :
    Calls Try.prog 13 #[va, vb] w fun e w' => e = .returned (.bool true) ∧ Below w.heap.size w w' := by
  obtain ⟨hok, a, c, a', c', rfl, A1, A2⟩ := HA
  obtain ⟨_, b, d, b', d', rfl, B1, B2⟩ := HB
  obtain ⟨xl, xn, xq, xg, xc⟩ := x
  unfold ev
  dsimp only at A1 A2 B1 B2 ⊢
  have hng : xg.length ≤ 1099511627776 := hok.2.2.2.1
  have hnc : xc.length ≤ 1099511627776 := hok.2.2.2.2
  obtain ⟨W, g1, g2, hW, hg1, hg2, k1, k2, bW⟩ := boxes2 w #[.int .i64 xl, .int .i64 xn, .int .u64 xq, .slice a xg.length c, .slice a' xc.length c'] #[.int .i64 xl, .int .i64 xn, .int .u64 xq, .slice b xg.length d, .slice b' xc.length d'] 26 26
  have c13 := cell_of k1 3 _ rfl
  have c14 := cell_of k1 4 _ rfl
  have c23 := cell_of k2 3 _ rfl
  have c24 := cell_of k2 4 _ rfl
  replace A1 := hid (A1.later bW)
  replace A2 := hid (A2.later bW)
  replace B1 := hid (B1.later bW)
  replace B2 := hid (B2.later bW)
  replace hok := hid hok
  replace hW := hid hW
  replace hg1 := hid hg1
  replace hg2 := hid hg2
  replace bW := hid bW
  clear k1 k2
  generalize hng' : xg.length = ng at *
  generalize hnc' : xc.length = nc at *
  replace hng' := hid hng'
  replace hnc' := hid hnc'
  have t1 : ((ng : Int) != (ng : Int)) = false := bne_self_eq_false _
  have t2 : ((nc : Int) != (nc : Int)) = false := bne_self_eq_false _
  have t3 : (xl != xl) = false := bne_self_eq_false _
  have t4 : (xn != xn) = false := bne_self_eq_false _
  have t5 : (xq != xq) = false := bne_self_eq_false _
  go_enter Try.func13, Try.ntmps13
  go_wp2_with fail
  rw [← hW.out, ← hg1.out, ← hg2.out]
  go_loopw [5] (fun i wr => ∃ k : Nat, i = .int .i64 k ∧ k ≤ ng ∧ ∃ n, wr = W.drewN n) (fun i _ => ng - (intOf i).toNat)
  case atStart => exact ⟨0, rfl, by omega, 0, rfl⟩
  case round =>
    obtain ⟨k, rfl, hk, n, rfl⟩ := hrel
    by_cases hlt : k < ng
    · cases a with
      | none => have := (A1.out.nil rfl).1; omega
      | some ad =>
        cases b with
        | none => have := (B1.out.nil rfl).1; omega
        | some bd =>
          obtain ⟨p, off, sp⟩ := ad
          obtain ⟨p', off', sp'⟩ := bd
          obtain ⟨rfl, hat⟩ := A1.out.cells p off sp rfl (by omega)
          obtain ⟨rfl, hat'⟩ := B1.out.cells p' off' sp' rfl (by omega)
          have hat := pl_at (hat k hlt)
          have hat' := pl_at (hat' k hlt)
          have hlc := A1.out.c
          have hlc' := B1.out.c
          generalize xg.getD k ePl.z = y at hat hat'
          obtain ⟨yl, yn⟩ := y
          obtain ⟨a1, a2⟩ := hat
          obtain ⟨e1, e2⟩ := hat'
          simp only [show ePl.k = 2 from rfl] at a1 a2 e1 e2
          have ik0 : (k : Int) < (ng : Int) := by omega
          have ok0 : (0 : Int) ≤ (k : Int) := by omega
          go_wp2_with fail
          go_quiet (fail)
          go_wp2_with fail
          go_roundw
          case rel => exact ⟨k + 1, by go_num, by omega, n + nq, rfl⟩
          case measure => simp [intOf]; omega
    · go_wp2_with fail
      have hke : k = ng := by omega
      subst hke
      go_loopw [6] (fun i wr => ∃ k : Nat, i = .int .i64 k ∧ k ≤ nc ∧ ∃ n, wr = W.drewN n) (fun i _ => nc - (intOf i).toNat)
      case atStart => exact ⟨0, rfl, by omega, n, rfl⟩
      case round =>
        obtain ⟨k', rfl, hk', n', rfl⟩ := hrel
        by_cases hlt : k' < nc
        · cases a' with
          | none => have := (A2.out.nil rfl).1; omega
          | some ad =>
            cases b' with
            | none => have := (B2.out.nil rfl).1; omega
            | some bd =>
              obtain ⟨p, off, sp⟩ := ad
              obtain ⟨p', off', sp'⟩ := bd
              obtain ⟨rfl, hat⟩ := A2.out.cells p off sp rfl (by omega)
              obtain ⟨rfl, hat'⟩ := B2.out.cells p' off' sp' rfl (by omega)
              have hat := ad_at (hat k' hlt)
              have hat' := ad_at (hat' k' hlt)
              have hlc := A2.out.c
              have hlc' := B2.out.c
              generalize xc.getD k' eAd.z = y at hat hat'
              obtain ⟨yl, yn, yz, ya, yb, yo, yh⟩ := y
              obtain ⟨a1, a2, a3, a4, a5, a6, a7⟩ := hat
              obtain ⟨e1, e2, e3, e4, e5, e6, e7⟩ := hat'
              simp only [show eAd.k = 7 from rfl] at a1 a2 a3 a4 a5 a6 a7 e1 e2 e3 e4 e5 e6 e7
              have ik0 : (k' : Int) < (nc : Int) := by omega
              have ok0 : (0 : Int) ≤ (k' : Int) := by omega
              go_wp2_with fail
              go_quiet (fail)
              go_wp2_with fail
              go_roundw
              case rel => exact ⟨k' + 1, by go_num, by omega, n' + nq, rfl⟩
              case measure => simp [intOf]; omega
        · go_wp2_with fail
          go_ret
          exact ⟨rfl, Below.up bW.out (drewN_below _ _)⟩
end Go.Proofs.Ytnpeocoipodmfaa.Ss

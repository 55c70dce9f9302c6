/- slices.Backward over files: its iterator by its contract. -/
import Derived.Test.YtkpihibeohjfnaaRq
import Derived.Test.YtkpihibeohjfnaaQi
namespace Go.Proofs.Ytkpihibeohjfnaa.Ba
open Go.ChangeShapes Go.WideShapes Go.ChangeAt Go.RowKit Go.Shelf
open Go.Proofs.Ytkpihibeohjfnaa.Gr (hid El.Sl)
open Go.Proofs.Ytkpihibeohjfnaa.Ev
open Go.Proofs.Ytkpihibeohjfnaa.Vp (fv get1)
open Go.Proofs.Ytkpihibeohjfnaa.Rq
set_option linter.unusedVariables false
set_option linter.unusedSimpArgs false
attribute [local go_sem] Oper.semAt_some

/-- The places of n files, from behind. -/
def dn (n : Nat) : List Nat := (List.range n).reverse
theorem dn_len (n : Nat) : (dn n).length = n := by simp [dn]
theorem dn_step {n r : Nat} (h : r + 1 ≤ n) : (dn n).take (n - r) = (dn n).take (n - (r + 1)) ++ [r] := by
  have h1 : n - r = (n - (r + 1)) + 1 := by omega
  have h2 : n - (r + 1) < (dn n).length := by rw [dn_len]; omega
  rw [h1, List.take_succ_eq_append_getElem h2]
  congr 2
  simp [dn, List.getElem_reverse]
  omega
theorem dn_all (n : Nat) : (dn n).take (n - 0) = dn n := by rw [Nat.sub_zero]; exact List.take_of_length_le (by rw [dn_len]; exact Nat.le_refl _)
def encs (fs : List Fi) (i : Nat) : Array Value := #[.int .i64 (i : Int), fv (fs.getD i zf)]
/-- What a round keeps. -/
def Kb (b1 n0 : Nat) (A B : World) : Prop := B.heap[b1]? = A.heap[b1]? ∧ Below n0 A B
set_option maxRecDepth 100000 in
set_option maxHeartbeats 400000 in
theorem back_in (m : Nat) (hm : 1 ≤ m) (l b1 n0 : Nat) (la : Option Addr) (ln lc : Nat) (fs : List Fi) (J Jx : List Nat → World → Prop) (hn8 : ln ≤ 1048576)
    (hY : ∀ pre x W0 W1, J pre W0 → Below W0.heap.size W0 W1 → pre ++ [x] <+: dn ln → YieldAt Fence.wide (m - 1) Try.prog l (encs fs x) W1 fun e W' =>
      (e = .returned (.bool true) ∧ J (pre ++ [x]) W' ∧ Kb b1 n0 W1 W') ∨ (e = .returned (.bool false) ∧ Jx (pre ++ [x]) W'))
    (W : World) (hnW : n0 ≤ W.heap.size) (hb : Boxed W b1 39 (.slice la ln lc)) (hF : ∀ W', Below n0 W W' → eFi.Sl W' la ln lc fs) (h0 : J [] W) :
    CallsIn Fence.wide m Try.prog 65 #[.func (.yield l) #[] #[], .pointer (some ⟨b1, 0, none⟩)] W fun e W' => (∃ v, e = .returned v) ∧
      ((∃ W0, J (dn ln) W0 ∧ Below W0.heap.size W0 W') ∨ (∃ pre, pre <+: dn ln ∧ Jx pre W')) := by
  have c1 := hb.cell
  have hlc := (hF W (Below.refl _ _)).c
  replace hY := hid hY
  replace hF := hid hF
  replace hb := hid hb
  replace h0 := hid h0
  refine callsIn_of_wp Try.func65 rfl trivial ?_ rfl
  simp only [Try.ntmps65, List.size_toArray, List.length_cons, List.length_nil, Nat.reduceAdd, Nat.reduceSub, Array.replicate_succ, Array.replicate_zero, List.push_toArray, List.append_toArray, List.nil_append, List.cons_append]
  gi_wp2_with fail
  gi_loopw [3] (fun iv wr => ∃ (q : Nat) (W0 : World), iv = .int .i64 ((q : Int) - 1) ∧ q ≤ ln ∧ Hid (J ((dn ln).take (ln - q)) W0) ∧ Hid (Below W0.heap.size W0 wr) ∧ Hid (Boxed wr b1 39 (.slice la ln lc)) ∧ Hid (Below n0 W wr))
    (fun iv _ => (intOf iv + 1).toNat)
  case atStart => exact ⟨ln, W, rfl, by omega, by rw [Nat.sub_self]; exact h0, Below.refl _ _, hb, Below.refl _ _⟩
  case round =>
    obtain ⟨q, W0, rfl, hq, HJ, HB0, G1, HB⟩ := hrel
    have x1 := G1.out.cell
    cases q with
    | zero =>
      have hJ : Hid (J (dn ln) W0) := by have := HJ.out; rw [dn_all] at this; exact this
      gi_wp2_with fail
      go_end0
      exact ⟨⟨_, rfl⟩, .inl ⟨W0, hJ.out, HB0.out⟩⟩
    | succ r =>
      have hst := hid (dn_step (n := ln) (r := r) (by omega))
      have hpre : Hid ((dn ln).take (ln - (r + 1)) ++ [r] <+: dn ln) := by show _ <+: _; rw [← hst.out]; exact List.take_prefix _ _
      obtain ⟨fn, tmps, assign, body, hy, hR⟩ := hY.out _ r W0 wr HJ.out HB0.out hpre.out
      obtain ⟨fb, fo, rfl, hat⟩ := get1 (hF.out wr HB.out) r (by omega)
      have hA := fi_at (hat r (by omega))
      rw [show eFi.z = zf from rfl] at hA
      clear hat
      dsimp only [encs] at hy
      generalize fs.getD r zf = f at hA hy
      obtain ⟨n, z, s, t, lo, hi⟩ := f
      obtain ⟨e1, e2, e3, e4, e5, e6⟩ := hA
      simp only [show eFi.k = 6 from rfl] at e1 e2 e3 e4 e5 e6
      unfold fv at hy
      dsimp only at hy
      have ik : (r : Int) < (ln : Int) := by omega
      have i0 : (0 : Int) ≤ (r : Int) := by omega
      rw [show ((r + 1 : Nat) : Int) - 1 = (r : Int) by omega]
      gi_wp2_with fail
      refine hR.mono ?_
      rintro e w3 (⟨rfl, hJ3, hk3⟩ | ⟨rfl, hJx3⟩)
      · have l1 : Hid (Boxed w3 b1 39 (.slice (some ⟨fb, fo, none⟩) ln lc)) := hk3.1.trans G1.out
        have l2 : Hid (Below n0 W w3) := HB.out.trans hk3.2
        rw [← hst.out] at hJ3
        replace hJ3 := hid hJ3
        clear hk3 hR
        gi_wp2_with fail
        go_roundw
        case rel => exact ⟨r, w3, by go_num, by omega, hJ3, Below.refl _ _, l1, l2⟩
        case measure => simp [intOf]
      · gi_wp2_with fail
        refine bodyPost_ret (results_none rfl _ _ _) rfl ?_
        exact ⟨⟨_, rfl⟩, .inr ⟨_, hpre.out, hJx3⟩⟩
theorem backward_any (la : Option Addr) (ln lc : Nat) (w : World) :
    Calls Try.prog 53 #[.slice la ln lc] w fun e w' => e = .returned (.func (.func 65) #[] #[.pointer (some ⟨w.heap.size, 0, none⟩)]) ∧ w' = w.alloc (.cells #[.slice la ln lc] 39) := by
  have hmf : ∀ (fn : Fn) (first cap : Array Value) (w : World), (Instr.makeFunc fn first cap).run Try.prog w = .ok (.func fn first cap) w := fun _ _ _ _ => rfl
  go_enter Try.func53, Try.ntmps53
  go_wp2
  go_ret
  exact ⟨by first | rfl | simp, rfl⟩
end Go.Proofs.Ytkpihibeohjfnaa.Ba

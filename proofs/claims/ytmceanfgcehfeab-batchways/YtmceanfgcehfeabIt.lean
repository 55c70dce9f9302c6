/- The iterator that yields the operations of bytes: its contract. -/
import Derived.Test.YtmceanfgcehfeabRp
import Derived.Test.YtmceanfgcehfeabHd
import Derived.RangeFuncNested
import Derived.RangeFuncBound
import Derived.RangeFuncCalls
import Derived.RangeFuncLeaves
import Derived.Shelf.Abstract
import Derived.Shelf.RegionOpen
import Derived.OwnWalkIn
import Derived.TacticsInMore
import Derived.LoopNIn
import Derived.LoopIn
namespace Go.Proofs.Ytmceanfgcehfeab.It
open Go.ChangeShapes Go.WideShapes Go.ChangeAt Go.RowKit Go.Shelf
open Go.Proofs.Ytmceanfgcehfeab.By
open Go.Proofs.Ytmceanfgcehfeab.Ob
open Go.Proofs.Ytmceanfgcehfeab.Hd
open Go.Proofs.Ytmceanfgcehfeab.Rp
set_option linter.unusedVariables false
attribute [local go_sem] Oper.semAt_some

/-- The operations from a place on, so many at most, and the place behind them. -/
def wlk (zs : List Int) : Nat → Nat → List O × Nat
  | 0, p => ([], p)
  | n + 1, p => match rop zs p with
    | none => ([], p)
    | some (x, nx) => (x :: (wlk zs n nx).1, (wlk zs n nx).2)
theorem wlk_none {zs : List Int} {n p : Nat} (h : rop zs p = none) : wlk zs n p = ([], p) := by
  cases n with
  | zero => rfl
  | succ n => simp [wlk, h]
theorem wlk_some {zs : List Int} {n p : Nat} {x : O} {nx : Nat} (h : rop zs p = some (x, nx)) : wlk zs (n + 1) p = (x :: (wlk zs n nx).1, (wlk zs n nx).2) := by
  simp [wlk, h]
/-- Numbered on. -/
def num (s : Int) : List O → List (Int × O)
  | [] => []
  | x :: r => (IntKind.u64.wrap s, x) :: num (s + 1) r
theorem num_len (s : Int) (xs : List O) : (num s xs).length = xs.length := by
  induction xs generalizing s with
  | nil => rfl
  | cons x r ih => simp [num, ih]
/-- What the iterator gives. -/
def items (zs : List Int) : List (Int × O) := if zs.length < 12 then [] else num (hseq zs) (wlk zs (hcnt zs) 12).1
def encs (x : Int × O) : Array Value := #[.int .u64 x.1, .agg #[.int .i64 x.2.c, .string x.2.k, .string x.2.v]]
/-- What a round keeps. -/
def Kp (n0 Bx : Nat) (W W' : World) : Prop := Below n0 W W' ∧ W'.heap[Bx]? = W.heap[Bx]?
theorem rop_le {zs : List Int} {p : Nat} {x : O} {nx : Nat} (hb : ∀ y ∈ zs, 0 ≤ y ∧ y ≤ 255) (h : rop zs p = some (x, nx)) : nx ≤ zs.length := by
  have key : ∀ q : Int, (tread zs q).2.2 = 0 → (tread zs q).2.1.toNat ≤ zs.length := by
    intro q hq
    unfold tread at hq ⊢
    split at hq
    · next h1 => exact absurd hq h1
    · next h1 =>
      rw [if_neg h1]
      split at hq
      · simp at hq
      · next h2 =>
        rw [if_neg h2]
        obtain ⟨q', hq', _, _, h3, h0, _⟩ := vread_ok zs q hb (Decidable.of_not_not h1)
        simp only
        omega
  unfold rop at h
  split at h
  · simp at h
  · split at h
    · simp at h
    · next h1 =>
      split at h
      · split at h
        · simp only [Option.some.injEq, Prod.mk.injEq] at h
          rw [← h.2]; exact key _ (Decidable.of_not_not h1)
        · simp at h
      · split at h
        · simp at h
        · next h2 =>
          split at h
          · simp only [Option.some.injEq, Prod.mk.injEq] at h
            rw [← h.2]; exact key _ (Decidable.of_not_not h2)
          · simp at h

theorem grown_of_below {W W' : World} (b : Below W.heap.size W W') : W.grownBy W' none := ⟨b.os, b.tape, b.output, b.size, fun k hk _ => b.block k hk⟩
set_option maxRecDepth 100000 in
set_option maxHeartbeats 4000000 in
theorem each1_in (n : Nat) (hn : 1 ≤ n) (l Bx n0 : Nat) (a : Option Addr) (len cap : Nat) (zs : List Int) (J Jx : List (Int × O) → World → Prop) (hcap : len ≤ 140737488351232) (hJ : ∀ s A B, J s A → A.grownBy B none → J s B)
    (hY : ∀ pre x W, J pre W → pre.length < (items zs).length → YieldAt Fence.wide (n - 1) Try.prog l (encs x) W fun e W' =>
      (e = .returned (.bool true) ∧ J (pre ++ [x]) W' ∧ Kp n0 Bx W W') ∨ (e = .returned (.bool false) ∧ Jx (pre ++ [x]) W'))
    (W : World) (hBx : Boxed W Bx 33 (.slice a len cap)) (hB : ∀ W', Below n0 W W' → Bytes W' a len cap zs) (hn0 : n0 ≤ W.heap.size) (h0 : J [] W) :
    CallsIn Fence.wide n Try.prog 54 #[.func (.yield l) #[] #[], .pointer (some ⟨Bx, 0, none⟩)] W fun e W' => (∃ v, e = .returned v) ∧
      ((∃ ys, ys = items zs ∧ J ys W') ∨ (∃ pre, pre <+: items zs ∧ Jx pre W')) := by
  have c0 := hBx.cell
  have hlen := (hB W (Below.refl _ _)).1
  have hY := hid hY
  have hJ := hid hJ
  have hB := hid hB
  have hBx := hid hBx
  by_cases hs : len < 12
  · have HI : Hid (items zs = []) := by show _ = _; unfold items; rw [if_pos (by omega)]
    refine callsIn_of_wp Try.func54 rfl trivial ?_ rfl
    simp only [Try.ntmps54, List.size_toArray, List.length_cons, List.length_nil, Nat.reduceAdd, Nat.reduceSub, Array.replicate_succ, Array.replicate_zero, List.push_toArray, List.append_toArray, List.nil_append, List.cons_append]
    gi_wp2_with fail
    refine ⟨trivial, (callsIn_wide.2 (head_no a len cap W hs)).mono ?_⟩
    rintro e w' ⟨rfl, rfl⟩
    gi_wp2_with fail
    refine bodyPost_ret (results_none rfl _ _ _) rfl ?_
    exact ⟨⟨_, rfl⟩, .inl ⟨[], HI.out.symm, h0⟩⟩
  · have HD := hid (head_ok a len cap zs W (hB.out W (Below.refl _ _)) hcap (by omega))
    have hcl := cnt_lt zs (hB.out W (Below.refl _ _)).2.2.2.1
    have hsb := seq_bd zs (hB.out W (Below.refl _ _)).2.2.2.1
    have HI : Hid (items zs = num (hseq zs) (wlk zs (hcnt zs) 12).1) := by show _ = _; unfold items; rw [if_neg (by omega)]
    have hbd := hid (hB.out W (Below.refl _ _)).2.2.2.1
    generalize hseq zs = S at HD HI hsb
    generalize hcnt zs = C at HD HI hcl
    obtain ⟨hsb0, hsb1⟩ := hsb
    refine callsIn_of_wp Try.func54 rfl trivial ?_ rfl
    simp only [Try.ntmps54, List.size_toArray, List.length_cons, List.length_nil, Nat.reduceAdd, Nat.reduceSub, Array.replicate_succ, Array.replicate_zero, List.push_toArray, List.append_toArray, List.nil_append, List.cons_append]
    gi_wp2_with fail
    refine ⟨trivial, (callsIn_wide.2 HD.out).mono ?_⟩
    rintro e w' ⟨rfl, rfl⟩
    gi_wp2_with fail
    gi_loopw [6, 20] (fun p i wr => ∃ k at' : Nat, ∃ pre : List (Int × O), i = .int .i64 k ∧ p = .int .i64 at' ∧ k ≤ C ∧ at' ≤ 140737488351232 ∧ Hid (pre.length = k) ∧ Hid (items zs = pre ++ num (S + k) (wlk zs (C - k) at').1) ∧ Hid (J pre wr) ∧ Hid (Below n0 w' wr) ∧ Hid (Boxed wr Bx 33 (.slice a len cap)))
      (fun _ i _ => C - (intOf i).toNat)
    case atStart =>
      exact ⟨0, 12, [], rfl, rfl, by omega, by omega, rfl, by show _ = _; rw [HI.out]; simp, h0, Below.refl _ _, hBx⟩
    case round =>
      obtain ⟨k, q, pre, rfl, rfl, hk, hq, hpl, hit, hj, hbel, hbx⟩ := hrel
      have c1 := hbx.out.cell
      by_cases hlt : k < C
      · have ik : (k : Int) < (C : Int) := by omega
        have HBy := hid (hB.out wr hbel.out)
        cases hr : rop zs q with
        | none =>
          obtain ⟨x, nx, R⟩ := readop_none a len cap zs q wr HBy.out hcap (by omega) hr
          have HR := hid R
          have HE : Hid (pre = items zs) := by show _ = _; rw [hit.out, wlk_none hr]; simp [num]
          clear R hr
          gi_wp2_with fail
          refine ⟨trivial, (callsIn_wide.2 HR.out).mono ?_⟩
          rintro e w2 ⟨rfl, b2⟩
          unfold out3
          have HJ2 : Hid (J pre (w2.alloc (.cells #[.int .i64 x.c, .string x.k, .string x.v] 60))) := hJ.out _ _ _ (hJ.out _ _ _ hj.out (grown_of_below b2)) (World.grownBy_alloc _ _ _)
          gi_wp2_with fail
          refine ⟨fun _ h => (by cases h), ?_⟩
          gi_wp2_with fail
          refine bodyPost_ret (results_none rfl _ _ _) rfl ?_
          exact ⟨⟨_, rfl⟩, .inl ⟨pre, HE.out, HJ2.out⟩⟩
        | some xn =>
          obtain ⟨x, nx⟩ := xn
          have R := readop_some a len cap zs q wr HBy.out hcap x nx hr
          have HR := hid R
          have hnx := rop_le HBy.out.2.2.2.1 hr
          have HE : Hid (items zs = (pre ++ [(IntKind.u64.wrap (S + k), x)]) ++ num (S + (k + 1 : Nat)) (wlk zs (C - (k + 1)) nx).1) := by
            show _ = _
            rw [hit.out, show C - k = (C - (k + 1)) + 1 from by omega, wlk_some hr]
            simp only [num, List.append_assoc, List.cons_append, List.nil_append]
            rw [show S + (k : Int) + 1 = S + ((k + 1 : Nat) : Int) from by omega]
          have hlt2 : Hid (pre.length < (items zs).length) := by show _ < _; rw [HE.out]; simp
          clear R hr
          obtain ⟨xc, xk, xv⟩ := x
          gi_wp2_with fail
          refine ⟨trivial, (callsIn_wide.2 HR.out).mono ?_⟩
          rintro e w2 ⟨rfl, b2⟩
          unfold out3
          have HJ2 : J pre (w2.alloc (.cells #[.int .i64 xc, .string xk, .string xv] 60)) := hJ.out _ _ _ (hJ.out _ _ _ hj.out (grown_of_below b2)) (World.grownBy_alloc _ _ _)
          obtain ⟨fn, tmps, assign, body, hy, hR⟩ := hY.out pre (IntKind.u64.wrap (S + k), ⟨xc, xk, xv⟩) (w2.alloc (.cells #[.int .i64 xc, .string xk, .string xv] 60)) HJ2 hlt2.out
          dsimp only [encs] at hy
          have HE' := hid hR
          have b2' := hid b2
          gi_wp2_with fail
          refine hR.mono ?_
          rintro e w3 (⟨rfl, hJ3, hk3⟩ | ⟨rfl, hJx3⟩)
          · have HJ3 := hid hJ3
            have hb2 : Below n0 w' (w2.alloc (.cells #[.int .i64 xc, .string xk, .string xv] 60)) := (hbel.out.trans (b2.mono (by have := hbel.out.size; omega))).alloc (by have := hbel.out.size; have := b2.size; omega) _
            have hb3 : Hid (Below n0 w' w3) := hb2.trans hk3.1
            have hx3 : Hid (Boxed w3 Bx 33 (.slice a len cap)) := by
              show w3.heap[Bx]? = _
              rw [hk3.2, Below.heap_alloc _ _ _ (by have := hbx.out.lt; have := b2.size; omega), b2.block _ hbx.out.lt]
              exact hbx.out
            clear hJ3 hk3 hb2 hR HE' HJ2 hj hbel hbx hit
            gi_wp2_with fail
            go_roundw
            case rel => exact ⟨k + 1, nx, _, by go_num, rfl, by omega, by omega, by show _ = _; have := hpl.out; simp; omega, HE, HJ3, hb3, hx3⟩
            case measure => simp [intOf]; omega
          · gi_wp2_with fail
            refine bodyPost_ret (results_none rfl _ _ _) rfl ?_
            exact ⟨⟨_, rfl⟩, .inr ⟨_, ⟨_, HE.out.symm⟩, hJx3⟩⟩
      · have hkC : k = C := by omega
        have HE : Hid (pre = items zs) := by show _ = _; rw [hit.out, hkC]; simp [wlk, num]
        gi_wp2_with fail
        go_end0
        exact ⟨⟨_, rfl⟩, .inl ⟨pre, HE.out, hj.out⟩⟩
end Go.Proofs.Ytmceanfgcehfeab.It

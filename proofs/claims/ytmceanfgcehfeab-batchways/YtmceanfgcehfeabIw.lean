/- each's iterator, where the body may write what is older than the bytes. -/
import Derived.Test.YtmceanfgcehfeabIv
namespace Go.Proofs.Ytmceanfgcehfeab.Iw
open Go.ChangeShapes Go.WideShapes Go.ChangeAt Go.RowKit Go.Shelf
open Go.Proofs.Ytmceanfgcehfeab.By
open Go.Proofs.Ytmceanfgcehfeab.Ob
open Go.Proofs.Ytmceanfgcehfeab.Hd
open Go.Proofs.Ytmceanfgcehfeab.Rp
open Go.Proofs.Ytmceanfgcehfeab.It
open Go.Proofs.Ytmceanfgcehfeab.Iv
set_option linter.unusedVariables false
set_option linter.unusedSimpArgs false
attribute [local go_sem] Oper.semAt_some
structure Rok (n0 : Nat) (Rl : World → World → Prop) : Prop where
  r0 : ∀ A, Rl A A
  rt : ∀ {A B C : World}, Rl A B → Rl B C → Rl A C
  rg : ∀ A B : World, n0 ≤ A.heap.size → Below A.heap.size A B → Rl A B
  rs : ∀ A B : World, Rl A B → A.heap.size ≤ B.heap.size
def Kq (Rl : World → World → Prop) (Bx : Nat) (A B : World) : Prop := Rl A B ∧ B.heap[Bx]? = A.heap[Bx]?
set_option maxRecDepth 100000 in
set_option maxHeartbeats 4000000 in
theorem each1_gen (n : Nat) (hn : 1 ≤ n) (l Bx n0 : Nat) (Rl : World → World → Prop) (hRo : Rok n0 Rl) (a : Option Addr) (len cap : Nat) (zs : List Int) (J Jx : List (Int × O) → World → Prop) (hcap : len ≤ 140737488351232) (hJ : ∀ s A B, J s A → A.grownBy B none → J s B)
    (hY : ∀ pre x W, J pre W → pre ++ [x] <+: items zs → YieldAt Fence.wide (n - 1) Try.prog l (encs x) W fun e W' =>
      (e = .returned (.bool true) ∧ J (pre ++ [x]) W' ∧ Kq Rl Bx W W') ∨ (e = .returned (.bool false) ∧ Jx (pre ++ [x]) W'))
    (W : World) (hBx : Boxed W Bx 33 (.slice a len cap)) (hB : ∀ W', Rl W W' → Bytes W' a len cap zs) (hn0 : n0 ≤ W.heap.size) (h0 : J [] W) :
    CallsIn Fence.wide n Try.prog 54 #[.func (.yield l) #[] #[], .pointer (some ⟨Bx, 0, none⟩)] W fun e W' => (∃ v, e = .returned v) ∧
      ((∃ ys, ys = items zs ∧ J ys W') ∨ (∃ pre, pre <+: items zs ∧ Jx pre W')) := by
  have c0 := hBx.cell
  have hlen := (hB W (hRo.r0 _)).1
  have hY := hid hY
  have hJ := hid hJ
  have hB := hid hB
  have hBx := hid hBx
  by_cases hs : len < 12
  · have HI : Hid (items zs = []) := by show _ = _; unfold items; rw [if_pos (by omega)]
    refine callsIn_of_wp Try.func54 rfl trivial ?_ rfl
    simp only [Try.ntmps54, List.size_toArray, List.length_cons, List.length_nil, Nat.reduceAdd, Nat.reduceSub, Array.replicate_succ, Array.replicate_zero, List.push_toArray, List.append_toArray, List.nil_append, List.cons_append]
    gi_wp2_with fail
    refine ⟨trivial, (callsIn_wide.2 (head_no a len cap W hs)).mono ?_⟩
    rintro e w' ⟨rfl, rfl⟩
    gi_wp2_with fail
    refine bodyPost_ret (results_none rfl _ _ _) rfl ?_
    exact ⟨⟨_, rfl⟩, .inl ⟨[], HI.out.symm, h0⟩⟩
  · have HD := hid (head_ok a len cap zs W (hB.out W (hRo.r0 _)) hcap (by omega))
    have hcl := cnt_lt zs (hB.out W (hRo.r0 _)).2.2.2.1
    have hsb := seq_bd zs (hB.out W (hRo.r0 _)).2.2.2.1
    have HI : Hid (items zs = num (hseq zs) (wlk zs (hcnt zs) 12).1) := by show _ = _; unfold items; rw [if_neg (by omega)]
    have hbd := hid (hB.out W (hRo.r0 _)).2.2.2.1
    generalize hseq zs = S at HD HI hsb
    generalize hcnt zs = C at HD HI hcl
    obtain ⟨hsb0, hsb1⟩ := hsb
    refine callsIn_of_wp Try.func54 rfl trivial ?_ rfl
    simp only [Try.ntmps54, List.size_toArray, List.length_cons, List.length_nil, Nat.reduceAdd, Nat.reduceSub, Array.replicate_succ, Array.replicate_zero, List.push_toArray, List.append_toArray, List.nil_append, List.cons_append]
    gi_wp2_with fail
    refine ⟨trivial, (callsIn_wide.2 HD.out).mono ?_⟩
    rintro e w' ⟨rfl, rfl⟩
    gi_wp2_with fail
    gi_loopw [6, 20] (fun p i wr => ∃ k at' : Nat, ∃ pre : List (Int × O), i = .int .i64 k ∧ p = .int .i64 at' ∧ k ≤ C ∧ at' ≤ 140737488351232 ∧ Hid (pre.length = k) ∧ Hid (items zs = pre ++ num (S + k) (wlk zs (C - k) at').1) ∧ Hid (J pre wr) ∧ Hid (Rl w' wr) ∧ Hid (Boxed wr Bx 33 (.slice a len cap)))
      (fun _ i _ => C - (intOf i).toNat)
    case atStart =>
      exact ⟨0, 12, [], rfl, rfl, by omega, by omega, rfl, by show _ = _; rw [HI.out]; simp, h0, hRo.r0 _, hBx⟩
    case round =>
      obtain ⟨k, q, pre, rfl, rfl, hk, hq, hpl, hit, hj, hbel, hbx⟩ := hrel
      have c1 := hbx.out.cell
      by_cases hlt : k < C
      · have ik : (k : Int) < (C : Int) := by omega
        have HBy := hid (hB.out wr hbel.out)
        cases hr : rop zs q with
        | none =>
          obtain ⟨x, nx, R⟩ := readop_none a len cap zs q wr HBy.out hcap (by omega) hr
          have HR := hid R
          have HE : Hid (pre = items zs) := by show _ = _; rw [hit.out, wlk_none hr]; simp [num]
          clear R hr
          gi_wp2_with fail
          refine ⟨trivial, (callsIn_wide.2 HR.out).mono ?_⟩
          rintro e w2 ⟨rfl, b2⟩
          unfold out3
          have HJ2 : Hid (J pre (w2.alloc (.cells #[.int .i64 x.c, .string x.k, .string x.v] 60))) := hJ.out _ _ _ (hJ.out _ _ _ hj.out (grown_of_below b2)) (World.grownBy_alloc _ _ _)
          gi_wp2_with fail
          refine ⟨fun _ h => (by cases h), ?_⟩
          gi_wp2_with fail
          refine bodyPost_ret (results_none rfl _ _ _) rfl ?_
          exact ⟨⟨_, rfl⟩, .inl ⟨pre, HE.out, HJ2.out⟩⟩
        | some xn =>
          obtain ⟨x, nx⟩ := xn
          have R := readop_some a len cap zs q wr HBy.out hcap x nx hr
          have HR := hid R
          have hnx := rop_le HBy.out.2.2.2.1 hr
          have HE : Hid (items zs = (pre ++ [(IntKind.u64.wrap (S + k), x)]) ++ num (S + (k + 1 : Nat)) (wlk zs (C - (k + 1)) nx).1) := by
            show _ = _
            rw [hit.out, show C - k = (C - (k + 1)) + 1 from by omega, wlk_some hr]
            simp only [num, List.append_assoc, List.cons_append, List.nil_append]
            rw [show S + (k : Int) + 1 = S + ((k + 1 : Nat) : Int) from by omega]
          have hlt2 : Hid (pre ++ [(IntKind.u64.wrap (S + k), x)] <+: items zs) := ⟨_, HE.out.symm⟩
          clear R hr
          obtain ⟨xc, xk, xv⟩ := x
          gi_wp2_with fail
          refine ⟨trivial, (callsIn_wide.2 HR.out).mono ?_⟩
          rintro e w2 ⟨rfl, b2⟩
          unfold out3
          have HJ2 : J pre (w2.alloc (.cells #[.int .i64 xc, .string xk, .string xv] 60)) := hJ.out _ _ _ (hJ.out _ _ _ hj.out (grown_of_below b2)) (World.grownBy_alloc _ _ _)
          obtain ⟨fn, tmps, assign, body, hy, hR⟩ := hY.out pre (IntKind.u64.wrap (S + k), ⟨xc, xk, xv⟩) (w2.alloc (.cells #[.int .i64 xc, .string xk, .string xv] 60)) HJ2 hlt2.out
          dsimp only [encs] at hy
          have HE' := hid hR
          have b2' := hid b2
          gi_wp2_with fail
          refine hR.mono ?_
          rintro e w3 (⟨rfl, hJ3, hk3⟩ | ⟨rfl, hJx3⟩)
          · have HJ3 := hid hJ3
            have hb2 : Rl w' (w2.alloc (.cells #[.int .i64 xc, .string xk, .string xv] 60)) := hRo.rt hbel.out (hRo.rg _ _ (by have := hRo.rs _ _ hbel.out; omega) (b2.alloc b2.size _))
            have hb3 : Hid (Rl w' w3) := hRo.rt hb2 hk3.1
            have hx3 : Hid (Boxed w3 Bx 33 (.slice a len cap)) := by
              show w3.heap[Bx]? = _
              rw [hk3.2, Below.heap_alloc _ _ _ (by have := hbx.out.lt; have := b2.size; omega), b2.block _ hbx.out.lt]
              exact hbx.out
            clear hJ3 hk3 hb2 hR HE' HJ2 hj hbel hbx hit
            gi_wp2_with fail
            go_roundw
            case rel => exact ⟨k + 1, nx, _, by go_num, rfl, by omega, by omega, by show _ = _; have := hpl.out; simp; omega, HE, HJ3, hb3, hx3⟩
            case measure => simp [intOf]; omega
          · gi_wp2_with fail
            refine bodyPost_ret (results_none rfl _ _ _) rfl ?_
            exact ⟨⟨_, rfl⟩, .inr ⟨_, ⟨_, HE.out.symm⟩, hJx3⟩⟩
      · have hkC : k = C := by omega
        have HE : Hid (pre = items zs) := by show _ = _; rw [hit.out, hkC]; simp [wlk, num]
        gi_wp2_with fail
        go_end0
        exact ⟨⟨_, rfl⟩, .inl ⟨pre, HE.out, hj.out⟩⟩
theorem grown_belowG {a b : World} (h : a.grownBy b none) : Below a.heap.size a b := ⟨h.os, h.tape, h.output, h.size, fun k hk => h.block k hk (by simp)⟩
theorem each_g (m : Nat) (hm : 1 ≤ m) (l Bx n0 : Nat) (Rl : World → World → Prop) (hRo : Rok n0 Rl) (a : Option Addr) (len cap : Nat) (zs : List Int) (J Jx : List (Int × O) → World → Prop) (hcap : len ≤ 140737488351232)
    (hY : ∀ pre x W0 W', J pre W0 → Below W0.heap.size W0 W' → pre ++ [x] <+: items zs → YieldAt Fence.wide (m - 1) Try.prog l (encs x) W' fun e W'' =>
      (e = .returned (.bool true) ∧ J (pre ++ [x]) W'' ∧ Kq Rl Bx W' W'') ∨ (e = .returned (.bool false) ∧ Jx (pre ++ [x]) W''))
    (W : World) (hBx : Boxed W Bx 33 (.slice a len cap)) (hB : ∀ W', Rl W W' → Bytes W' a len cap zs) (hn0 : n0 ≤ W.heap.size) (h0 : J [] W) :
    CallsIn Fence.wide m Try.prog 54 #[.func (.yield l) #[] #[], .pointer (some ⟨Bx, 0, none⟩)] W fun e W' => (∃ v, e = .returned v) ∧
      ((∃ W0, J (items zs) W0 ∧ Below W0.heap.size W0 W') ∨ (∃ pre, pre <+: items zs ∧ Jx pre W')) := by
  refine (each1_gen m hm l Bx n0 Rl hRo a len cap zs (fun s A => ∃ W0, J s W0 ∧ Below W0.heap.size W0 A) Jx hcap (fun s A B ⟨W0, h1, h2⟩ g => ⟨W0, h1, h2.trans ((grown_belowG g).mono h2.size)⟩) ?_ W hBx hB hn0 ⟨W, h0, Below.refl _ _⟩).mono ?_
  · rintro pre x A ⟨W0, h1, h2⟩ hp
    obtain ⟨fn, tmps, assign, body, hy, hR⟩ := hY pre x W0 A h1 h2 hp
    refine ⟨fn, tmps, assign, body, hy, hR.mono ?_⟩
    rintro e W'' (⟨rfl, hj, hk⟩ | h)
    · exact .inl ⟨rfl, ⟨_, hj, Below.refl _ _⟩, hk⟩
    · exact .inr h
  · rintro e W' ⟨hv, (⟨ys, rfl, W0, h1, h2⟩ | h)⟩
    · exact ⟨hv, .inl ⟨W0, h1, h2⟩⟩
    · exact ⟨hv, .inr h⟩
end Go.Proofs.Ytmceanfgcehfeab.Iw

/- VersionSpans walked. -/
import Derived.Test.YtkpihibeohjfnaaOn
import Derived.Test.YtkpihibeohjfnaaCp
import Derived.Test.YtkpihibeohjfnaaSn
import Derived.Test.YtkpihibeohjfnaaSm
namespace Go.Proofs.Ytkpihibeohjfnaa.Ls
open Go.ChangeShapes Go.WideShapes Go.ChangeAt Go.RowKit
open Go.Proofs.Ytkpihibeohjfnaa.Gr
open Go.Proofs.Ytkpihibeohjfnaa.Ev
open Go.Proofs.Ytkpihibeohjfnaa.Oe
open Go.Proofs.Ytkpihibeohjfnaa.Lv
open Go.Proofs.Ytkpihibeohjfnaa.Vp
open Go.Proofs.Ytkpihibeohjfnaa.Vr
open Go.Proofs.Ytkpihibeohjfnaa.Vt
open Go.Proofs.Ytkpihibeohjfnaa.Vu
open Go.Proofs.Ytkpihibeohjfnaa.Fq
open Go.Proofs.Ytkpihibeohjfnaa.On (one_any)
open Go.Proofs.Ytkpihibeohjfnaa.Cp (copied_any)
open Go.Proofs.Ytkpihibeohjfnaa.Sn
open Go.Proofs.Ytkpihibeohjfnaa.Sm
set_option linter.unusedVariables false
set_option linter.unusedSimpArgs false

set_option maxHeartbeats 1000000 in
/-- The law's files, of the same ones. -/
theorem lfiles_same (a b : Option Addr) (n c d : Nat) (xs : List Fi) (w : World) (HA : eFi.Sl w a n c xs) (HB : eFi.Sl w b n d xs) (hn8 : n ≤ 1048576) :
    Calls Try.prog 27 #[.slice a n c, .slice b n d] w fun e w' => e = .returned (.bool true) ∧ Below w.heap.size w w' := by
  have hnb : ((n : Int) != (n : Int)) = false := bne_self_eq_false _
  have hc := HA.c
  have hd := HB.c
  replace HA := hid HA
  replace HB := hid HB
  go_enter Try.func27, Try.ntmps27
  go_wp2_with fail
  go_loopw [5] (fun jj wr => ∃ j : Nat, jj = .int .i64 j ∧ j ≤ n ∧ ∃ q, wr = w.drewN q) (fun jj _ => n - (intOf jj).toNat)
  case atStart => exact ⟨0, rfl, by omega, 0, rfl⟩
  case round =>
    obtain ⟨j, rfl, hj, q, rfl⟩ := hrel
    by_cases hjl : j < n
    · obtain ⟨fb, fo, rfl, hat⟩ := get1 HA.out j hjl
      obtain ⟨gb, go, rfl, hat2⟩ := get1 HB.out j hjl
      have hA := fi_at (hat j hjl)
      have hG := fi_at (hat2 j hjl)
      rw [show eFi.z = zf from rfl] at hA hG
      have hre := run_neq (xs.getD j zf) (xs.getD j zf)
      rw [(feq_iff _ _).2 rfl] at hre
      clear hat hat2
      generalize xs.getD j zf = f at *
      obtain ⟨fn, fz, ft, fu, flo, fhi⟩ := f
      obtain ⟨e1, e2, e3, e4, e5, e6⟩ := hA
      obtain ⟨g1, g2, g3, g4, g5, g6⟩ := hG
      simp only [show eFi.k = 6 from rfl] at e1 e2 e3 e4 e5 e6 g1 g2 g3 g4 g5 g6
      have jk0 : (j : Int) < (n : Int) := by omega
      have jo0 : (0 : Int) ≤ (j : Int) := by omega
      unfold fv at hre
      dsimp only at hre
      go_wp2_with fail
      go_quiet (fail)
      go_wp2_with fail
      go_roundw
      case rel => exact ⟨j + 1, by go_num, by omega, q + nq, rfl⟩
      case measure => simp [intOf]; omega
    · have hje : j = n := by omega
      subst hje
      go_wp2_with fail
      go_ret
      exact ⟨rfl, drewN_below _ _⟩
set_option maxRecDepth 100000 in
set_option maxHeartbeats 2000000 in
theorem spans_any (la : Option Addr) (ln lc : Nat) (fs : List Fi) (a b : Option Addr) (len cap len2 cap2 : Nat) (L M : List (List Fi)) (w : World) (HS : eFi.Sl w la ln lc fs) (hs8 : ln ≤ 1048576) (HA : Lvs w a len cap L) (HB : Lvs w b len2 cap2 M) (hw : wL L ≤ 1048576) (hw2 : wL M ≤ 1048576) :
    Calls Try.prog 6 #[.slice la ln lc, .slice a len cap, .slice b len2 cap2] w fun e w' => e = .returned (.bool true) ∧ Below w.heap.size w w' := by
  have A0 := Acc.made eFi w
  obtain ⟨v1, W1, r1, A1⟩ := A0.app (HS.later (box_below _ _)) (by show (0 + ln) * 64 ≤ _; omega) (by show 0 + ln ≤ _; omega)
  rw [List.nil_append] at A1
  obtain ⟨ra, rc, hv1⟩ := A1.shape
  rw [HS.n] at hv1
  subst hv1
  have S1 := (Acc.sl A1 HS.ok).2
  have c1 := hid (span_any ra ln rc fs W1 S1 hs8)
  have c2 : Hid (∀ W, Below W1.heap.size W1 W → Calls Try.prog 34 #[.slice la ln lc] W fun e w' => e = .returned (.tuple #[.string (lo fs), .string (hi fs), .bool (decide (0 < ln))]) ∧ Below W.heap.size W w') := fun W b => rspan_any la ln lc fs W (HS.later (Below.up A1.lo b)) hs8
  have c3 := hid (fun W => one_any W)
  have c4 : Hid (∀ W, Below W1.heap.size W1 W → Calls Try.prog 27 #[.slice ra ln rc, .slice la ln lc] W fun e w' => e = .returned (.bool true) ∧ Below W.heap.size W w') := fun W b => lfiles_same ra la ln rc lc fs W (S1.later b) (HS.later (Below.up A1.lo b)) hs8
  have c5 : Hid (∀ W, Below W1.heap.size W1 W → Calls Try.prog 10 #[.slice a len cap] W fun e w' => ∃ b c, e = .returned (.slice b len c) ∧ Lvs w' b len c L ∧ Below W.heap.size W w') := fun W b => copied_any a len cap L W (HA.later (Below.up A1.lo b)) hw
  have c6 := c5
  have c7 : Hid (∀ W k c, Below W1.heap.size W1 W → Lvs W k len c L → Calls Try.prog 35 #[.slice k len c, .slice b len2 cap2] W fun e w' => e = .returned (.bool (decide (L = M))) ∧ Below W.heap.size W w') := fun W k c bb h => same_any k b len c len2 cap2 L M W h (HB.later (Below.up A1.lo bb)) hw hw2
  have c8 : Hid (∀ W, Below W1.heap.size W1 W → Calls Try.prog 15 #[.slice a len cap, .slice b len2 cap2] W fun e w' => e = .returned (.bool (decide (L = M))) ∧ Below W.heap.size W w') := fun W bb => rsame_any a b len cap len2 cap2 L M W (HA.later (Below.up A1.lo bb)) (HB.later (Below.up A1.lo bb)) hw hw2
  have c9 : Hid (∀ W k c, Below W1.heap.size W1 W → Lvs W k len c L → Calls Try.prog 35 #[.slice a len cap, .slice k len c] W fun e w' => e = .returned (.bool true) ∧ Below W.heap.size W w') := fun W k c bb h => by
    have := same_any a k len cap len c L L W (HA.later (Below.up A1.lo bb)) h hw hw
    rwa [decide_eq_true rfl] at this
  generalize decide (L = M) = B at *
  have hBB : (B == B) = true := beq_self_eq_true B
  generalize decide (0 < ln) = P at *
  have hPP : (P == P) = true := beq_self_eq_true P
  generalize lo fs = s at *
  generalize hi fs = t at *
  have hss : (s.toList == s.toList) = true := beq_self_eq_true _
  have htt : (t.toList == t.toList) = true := beq_self_eq_true _
  have bW := hid A1.lo
  replace r1 := hid r1
  clear HS HA HB S1 A1 A0 hw hw2
  go_enter Try.func6, Try.ntmps6
  go_wp2_with (first
    | (at_builtin; have hr := r1.out; clear r1; refine wpList_append_run rfl (.tmp 14) (.tmp 15) 39 39 rfl (.slice (some ⟨w.heap.size, 0, none⟩) 0 0) (.slice la ln lc) (.slice ra ln rc) rfl rfl hr ?_; clear hr)
    | (go_at_call 33; refine c1.out.mono ?_; rintro e w1 ⟨rfl, b1⟩; replace b1 := hid b1)
    | (go_at_call 34; refine (c2.out _ b1.out).mono ?_; rintro e w2 ⟨rfl, b2⟩; replace b2 := hid (Below.up b1.out b2))
    | (go_at_call 22; refine (c3.out _).mono ?_; rintro e w3 ⟨rfl, b3⟩; replace b3 := hid (Below.up b2.out b3))
    | (go_at_call 27; refine (c4.out _ b3.out).mono ?_; rintro e w4 ⟨rfl, b4⟩; replace b4 := hid (Below.up b3.out b4))
    | (go_at_call 10; have hc := c5.out; clear c5; refine (hc _ b4.out).mono ?_; clear hc; rintro e w5 ⟨kb, kc, rfl, K5, b5⟩; replace K5 := hid K5; replace b5 := hid (Below.up b4.out b5))
    | (go_at_call 35; have hc := c7.out; clear c7; refine (hc _ _ _ b5.out K5.out).mono ?_; clear hc; rintro e w6 ⟨rfl, b6⟩; replace b6 := hid (Below.up b5.out b6))
    | (go_at_call 15; refine (c8.out _ b6.out).mono ?_; rintro e w7 ⟨rfl, b7⟩; replace b7 := hid (Below.up b6.out b7))
    | (go_at_call 10; refine (c6.out _ b7.out).mono ?_; rintro e w8 ⟨jb, jc, rfl, K8, b8⟩; replace K8 := hid K8; replace b8 := hid (Below.up b7.out b8))
    | (go_at_call 35; refine (c9.out _ _ _ b8.out K8.out).mono ?_; rintro e w9 ⟨rfl, b9⟩; replace b9 := hid (Below.up b8.out b9)))
  go_ret
  exact ⟨rfl, Below.up bW.out b9.out⟩
end Go.Proofs.Ytkpihibeohjfnaa.Ls

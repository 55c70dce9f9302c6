/- LiveNil. -/
import Derived.Test.YtcpnmpepcpcahaaGreatDoorNw
namespace Go.Proofs.YtcpnmpepcpcahaaGreatDoor.Lz
open Go.ChangeShapes Go.WideShapes Go.ChangeAt Go.RowKit
open Go.Proofs.YtcpnmpepcpcahaaGreatDoor.Gr
open Go.Proofs.YtcpnmpepcpcahaaGreatDoor.Ev
open Go.Proofs.YtcpnmpepcpcahaaGreatDoor.Oe
open Go.Proofs.YtcpnmpepcpcahaaGreatDoor.Lv
open Go.Proofs.YtcpnmpepcpcahaaGreatDoor.Vp
open Go.Proofs.YtcpnmpepcpcahaaGreatDoor.Vr
open Go.Proofs.YtcpnmpepcpcahaaGreatDoor.Vt
open Go.Proofs.YtcpnmpepcpcahaaGreatDoor.Lu
open Go.Proofs.YtcpnmpepcpcahaaGreatDoor.Ln
open Go.Proofs.YtcpnmpepcpcahaaGreatDoor.Nw
set_option linter.unusedVariables false
set_option linter.unusedSimpArgs false

theorem one_vld : vld [[]] = true := by
  have h1 : inOrd [[]] := by
    intro k hk
    have : k = 0 := by simp at hk; exact hk
    subst this
    intro i hi
    simp at hi
  have h2 : adj (srt (nums [[]])) := by
    intro i hi
    have e : srt (nums [[]]) = [] := List.eq_nil_of_length_eq_zero (by rw [srt_len]; rfl)
    rw [e] at hi
    simp at hi
  unfold vld
  rw [decide_eq_true h1, decide_eq_true h2]
  rfl
theorem len_yes (gs gm gw : Nat) (cur : Int) (l : List (Int × Value)) (w : World) (hs : w.heap[gs]? = some (.cells #[.int .i64 cur, .map (some gm), .map (some gw)] 45)) (hc : cur ≠ 0) (M : Mv.Mp w gm l) :
    Calls Tryz.prog 20 #[.pointer (some ⟨gs, 0, none⟩)] w fun e w' => e = .returned (.int .i64 l.length) ∧ w' = w := by
  have q0 := cell_of hs 0 _ rfl
  have q1 := cell_of hs 1 _ rfl
  have hB : (cur == 0) = false := by simpa using hc
  have c0 : Calls Tryz.prog 48 #[.pointer (some ⟨gs, 0, none⟩)] w fun e w' => e = .returned (.bool false) ∧ w' = w := by
    clear hc M hs q1
    go_enter Tryz.func48, Tryz.ntmps48
    go_wp2_with fail
    go_ret
    simp
  have hl := Mv.Mp.len Mv.und_v M 3
  replace c0 := hid c0
  clear hs hc M hB
  go_enter Tryz.func20, Tryz.ntmps20
  go_wp2_with (first | (go_at_call 48; refine c0.out.mono ?_; rintro e w1 ⟨rfl, hw1⟩; subst hw1))
  go_ret
  exact ⟨rfl, rfl⟩
theorem one_lvs {W : World} {g : Nat} (h : W.heap[g]? = some (.cells #[.slice none 0 0] 73)) : Lvs W (some ⟨g, 0, none⟩) 1 1 [[]] := by
  refine ⟨[zl], ⟨rfl, Nat.le_refl _, (fun e => by cases e), ?_, ?_⟩, rfl⟩
  · intro x hx
    rw [List.mem_singleton] at hx
    subst hx
    exact El.Sl.none eFi W
  · intro b o p e hl
    cases e
    refine ⟨rfl, fun i hi q u hq => ?_⟩
    obtain rfl : i = 0 := by omega
    match q, hq with
    | 0, hq =>
      simp [eLv] at hq
      subst hq
      exact cell_of h 0 _ rfl
set_option maxRecDepth 20000 in
set_option maxHeartbeats 2000000 in
theorem nil_any (la : Option Addr) (ln lc : Nat) (n : Int) (ta : Option Addr) (tn tc : Nat) (w : World) :
    Calls Tryz.prog 4 #[.slice la ln lc, .int .i64 n, .slice ta tn tc] w fun e w' => e = .returned (.bool true) ∧ Below w.heap.size w w' := by
  obtain ⟨gx, hgx⟩ : ∃ g, g = w.heap.size := ⟨_, rfl⟩
  obtain ⟨W1, hW1⟩ : ∃ W, W = w.alloc (.cells #[.int .i64 0, .map none, .map none] 45) := ⟨_, rfl⟩
  obtain ⟨W2, hW2⟩ : ∃ W, W = W1.alloc (.cells #[.pointer none, .pointer (some ⟨gx, 0, none⟩)] 26) := ⟨_, rfl⟩
  have k1 : W1.heap[gx]? = some (.cells #[.int .i64 0, .map none, .map none] 45) := by rw [hW1, hgx]; exact new_at _ _
  have b1 : Below w.heap.size w W1 := by rw [hW1]; exact box_below _ _
  have b2 : Below W1.heap.size W1 W2 := by rw [hW2]; exact box_below _ _
  have z1 : W1.heap.size = gx + 1 := by rw [hW1, size_alloc, hgx]
  have k2 : W2.heap[gx + 1]? = some (.cells #[.pointer none, .pointer (some ⟨gx, 0, none⟩)] 26) := by rw [hW2, ← z1]; exact new_at _ _
  have q0 := cell_of k2 0 _ rfl
  have q1 := cell_of k2 1 _ rfl
  have N0 : Hid (NoS W2 (.pointer none)) := .inl rfl
  have N1 : Hid (NoS W2 (.pointer (some ⟨gx, 0, none⟩))) := .inr ⟨gx, _, rfl, (b2.block _ (blk_lt k1)).trans k1, rfl⟩
  have B2 : Hid (Below w.heap.size w W2) := Below.up b1 b2
  have e2 : Hid ((w.alloc (.cells #[.int .i64 0, .map none, .map none] 45)).alloc (.cells #[.pointer none, .pointer (some ⟨w.heap.size, 0, none⟩)] 26) = W2) := by
    show _ = _
    rw [hW2, hW1, ← hgx]
  replace hW1 := hid hW1
  replace hW2 := hid hW2
  replace hgx := hid hgx
  replace z1 := hid z1
  clear k1 k2 b1 b2
  go_enter Tryz.func4, Tryz.ntmps4
  go_wp2_with fail
  rw [e2.out, ← hgx.out]
  clear e2
  have ne1 : ((1 : Int) != 1) = false := rfl
  have ne0 : ((0 : Int) != 0) = false := rfl
  have C14 := fun v (h : NoS W2 v) => current_no v W2 h
  go_loopw [18] (fun kk wr => ∃ k : Nat, kk = .int .i64 k ∧ k ≤ 2 ∧ wr = W2) (fun kk _ => 2 - (intOf kk).toNat)
  case atStart => exact ⟨0, rfl, by omega, rfl⟩
  case round =>
    obtain ⟨k, rfl, hk, rfl⟩ := hrel
    by_cases hlt : k < 2
    · obtain ⟨v, hv, hN⟩ : ∃ v, wr.cell? ⟨gx + 1, k, none⟩ = some v ∧ NoS wr v := by
        rcases (by omega : k = 0 ∨ k = 1) with rfl | rfl
        · exact ⟨_, q0, N0.out⟩
        · exact ⟨_, q1, N1.out⟩
      have hN' := hid hN
      have hsl : ∃ o, v = .pointer o := by rcases hN with h | ⟨g, c, h, _⟩ <;> exact ⟨_, h⟩
      obtain ⟨o, rfl⟩ := hsl
      have jk0 : (k : Int) < 2 := by omega
      have jo0 : (0 : Int) ≤ (k : Int) := by omega
      clear q0 q1 hN
      go_wp2_with (first
        | (go_at_call 14; refine (current_no _ _ hN'.out).mono ?_; rintro e w' ⟨rfl, hw'⟩; subst hw')
        | (go_at_call 15; refine (levels_no _ n _ hN'.out).mono ?_; rintro e w' ⟨rfl, hw'⟩; subst hw')
        | (go_at_call 16; refine (install_no _ la ln lc _ hN'.out).mono ?_; rintro e w' ⟨rfl, hw'⟩; subst hw')
        | (go_at_call 17; refine (hold_no _ _ hN'.out).mono ?_; rintro e w' ⟨rfl, hw'⟩; subst hw')
        | (go_at_call 18; refine (drop_no _ n _ hN'.out).mono ?_; rintro e w' ⟨rfl, hw'⟩; subst hw')
        | (go_at_call 19; refine (refs_no _ n _ hN'.out).mono ?_; rintro e w' ⟨rfl, hw'⟩; subst hw')
        | (go_at_call 20; refine (len_no _ _ hN'.out).mono ?_; rintro e w' ⟨rfl, hw'⟩; subst hw')
        | (go_at_call 21; refine (begin_no _ n _ hN'.out).mono ?_; rintro e w' ⟨rfl, hw'⟩; subst hw')
        | (go_at_call 22; refine (end_no _ n _ hN'.out).mono ?_; rintro e w' ⟨rfl, hw'⟩; subst hw')
        | (go_at_call 23; refine (tables_no _ _ hN'.out).mono ?_; rintro e w' ⟨rfl, hw'⟩; subst hw')
        | (go_at_call 24; refine (obsolete_no _ ta tn tc n n _ hN'.out).mono ?_; rintro e w' ⟨rfl, hw'⟩; subst hw'))
      go_roundw
      case rel => exact ⟨k + 1, by go_num, by omega, trivial⟩
      case measure => simp [intOf]; omega
    · have hke : k = 2 := by omega
      subst hke
      clear q0 q1 C14
      obtain ⟨g9, hg9⟩ : ∃ g, g = wr.heap.size := ⟨_, rfl⟩
      obtain ⟨W9, hW9⟩ : ∃ W, W = wr.alloc (.cells #[.slice none 0 0] 73) := ⟨_, rfl⟩
      have k9 : W9.heap[g9]? = some (.cells #[.slice none 0 0] 73) := by rw [hW9, hg9]; exact new_at _ _
      have b9 : Below wr.heap.size wr W9 := by rw [hW9]; exact box_below _ _
      have c9 := hid (new_yes (some ⟨g9, 0, none⟩) 1 1 [[]] W9 (one_lvs k9) (by decide) one_vld)
      replace b9 := hid b9
      replace hW9 := hid hW9
      replace hg9 := hid hg9
      clear k9
      go_wp2_with fail
      rw [← hW9.out, ← hg9.out]
      refine c9.out.mono ?_
      rintro e w5 ⟨gs, gm, gw, gi, gy, xs, rfl, k5, m5, n5, ki, O5, hL, l1, l2, l3, l4, B5⟩
      have c20 := hid (len_yes gs gm gw 1 _ w5 k5 (by decide) m5)
      have Bz : Hid (Below w.heap.size w w5) := Below.up (Below.up B2.out b9.out) B5
      clear k5 m5 n5 ki O5 hL l1 l2 l3 l4 B5 c9
      go_wp2_with (first | (go_at_call 20; refine c20.out.mono ?_; rintro e w6 ⟨rfl, hw6⟩; subst hw6))
      go_ret
      exact ⟨rfl, Bz.out⟩
end Go.Proofs.YtcpnmpepcpcahaaGreatDoor.Lz

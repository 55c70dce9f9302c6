/- Valid, Files, isThere, Numbers by their contracts. -/
import Derived.Test.YtcpnmpepcpcahaaGreatDoorVs
namespace Go.Proofs.YtcpnmpepcpcahaaGreatDoor.Vt
open Go.ChangeShapes Go.WideShapes Go.ChangeAt Go.RowKit
open Go.Proofs.YtcpnmpepcpcahaaGreatDoor.Gr
open Go.Proofs.YtcpnmpepcpcahaaGreatDoor.Ev
open Go.Proofs.YtcpnmpepcpcahaaGreatDoor.Oe
open Go.Proofs.YtcpnmpepcpcahaaGreatDoor.Lv
open Go.Proofs.YtcpnmpepcpcahaaGreatDoor.Vp
open Go.Proofs.YtcpnmpepcpcahaaGreatDoor.Vq
open Go.Proofs.YtcpnmpepcpcahaaGreatDoor.Vr
open Go.Proofs.YtcpnmpepcpcahaaGreatDoor.Vs
set_option linter.unusedVariables false
set_option linter.unusedSimpArgs false

/-- Levels are a version's. -/
def vld (L : List (List Fi)) : Bool := fr 1 L.length 7 && (decide (inOrd L) && decide (adj (srt (nums L))))
theorem Acc.sl {α : Type} {E : El α} {w W : World} {a : Option Addr} {n c : Nat} {xs : List α} (h : Acc E w W (.slice a n c) xs) (hok : ∀ x ∈ xs, E.ok x) : n = xs.length ∧ E.Sl W a n c xs := by
  obtain ⟨a', c', e, s, _⟩ := h.o.sl hok
  cases e
  exact ⟨rfl, s⟩
set_option maxHeartbeats 1000000 in
theorem valid_any (a : Option Addr) (len cap : Nat) (L : List (List Fi)) (w : World) (H : Lvs w a len cap L) (hw : wL L ≤ 1048576) :
    Calls Tryz.prog 26 #[.slice a len cap] w fun e w' => e = .returned (.bool (vld L)) ∧ Below w.heap.size w w' := by
  have hlen := H.len_eq
  have hcap := H.cap_le
  have hll := wL_len L
  have hnl := nums_len L
  have hn8 : len ≤ 1048576 := by omega
  have c1 := hid (isFrom_any 1 (len : Int) 7)
  unfold vld
  rw [hlen]
  have c2 : Hid (∀ W, Below w.heap.size w W → Calls Tryz.prog 56 #[.slice a len cap] W fun e w' => e = .returned (.bool (decide (inOrd L))) ∧ Below W.heap.size W w') := fun W b => inorder_any a len cap L W (H.later b) hw
  have c3 : Hid (∀ W, Below w.heap.size w W → Calls Tryz.prog 58 #[.slice a len cap] W fun e w' => ∃ g c, e = .returned (.slice (some ⟨g, 0, none⟩) (nums L).length c) ∧ Acc eInt W w' (.slice (some ⟨g, 0, none⟩) (nums L).length c) (srt (nums L))) := fun W b => rising_any a len cap L W (H.later b) hw
  have c4 : Hid (∀ (b : Option Addr) (n c : Nat) W, eInt.Sl W b n c (srt (nums L)) → n ≤ 1048576 → Calls Tryz.prog 57 #[.slice b n c] W fun e w' => e = .returned (.bool (decide (adj (srt (nums L))))) ∧ Below W.heap.size W w') := fun b n c W h hn => unlike_any b n c _ W h hn
  have hz8 : (nums L).length ≤ 1048576 := by omega
  clear hlen hnl hll hw H
  generalize fr 1 (len : Int) 7 = b1 at *
  generalize decide (inOrd L) = b2 at *
  generalize decide (adj (srt (nums L))) = b3 at *
  generalize (nums L).length = z0 at *
  cases b1 with
  | false =>
    go_enter Tryz.func26, Tryz.ntmps26
    go_wp2_with (first | (go_at_call 55; refine (c1.out _).mono ?_; rintro e w1 ⟨rfl, hw1⟩; subst hw1))
    go_ret
    exact ⟨rfl, Below.refl _ _⟩
  | true =>
    cases b2 with
    | false =>
      go_enter Tryz.func26, Tryz.ntmps26
      go_wp2_with (first | (go_at_call 55; refine (c1.out _).mono ?_; rintro e w1 ⟨rfl, hw1⟩; subst hw1) | (go_at_call 56; refine (c2.out _ (Below.refl _ _)).mono ?_; rintro e w2 ⟨rfl, B2⟩; replace B2 := hid B2))
      go_ret
      exact ⟨rfl, B2.out⟩
    | true =>
      go_enter Tryz.func26, Tryz.ntmps26
      go_wp2_with (first | (go_at_call 55; refine (c1.out _).mono ?_; rintro e w1 ⟨rfl, hw1⟩; subst hw1) | (go_at_call 56; refine (c2.out _ (Below.refl _ _)).mono ?_; rintro e w2 ⟨rfl, B2⟩; replace B2 := hid B2) | (go_at_call 58; refine (c3.out _ B2.out).mono ?_; rintro e w3 ⟨g, c, rfl, A3⟩; replace A3 := hid A3) | (go_at_call 57; refine (c4.out _ _ _ _ (Acc.sl A3.out (fun _ _ => trivial)).2 hz8).mono ?_; rintro e w4 ⟨rfl, B4⟩; replace B4 := hid B4))
      go_ret
      exact ⟨rfl, Below.up (Below.up B2.out A3.out.lo) B4.out⟩
theorem numbers_any (a : Option Addr) (len cap : Nat) (L : List (List Fi)) (w : World) (H : Lvs w a len cap L) (hw : wL L ≤ 1048576) :
    Calls Tryz.prog 33 #[.slice a len cap] w fun e w' => ∃ v, e = .returned v ∧ Acc eInt w w' v (if vld L = true then srt (nums L) else []) := by
  have c1 := hid (valid_any a len cap L w H hw)
  have c2 : Hid (∀ W, Below w.heap.size w W → Calls Tryz.prog 58 #[.slice a len cap] W fun e w' => ∃ g c, e = .returned (.slice (some ⟨g, 0, none⟩) (nums L).length c) ∧ Acc eInt W w' (.slice (some ⟨g, 0, none⟩) (nums L).length c) (srt (nums L))) := fun W b => rising_any a len cap L W (H.later b) hw
  clear H
  generalize (nums L).length = z0 at *
  generalize vld L = b at *
  cases b with
  | false =>
    rw [if_neg (by simp)]
    go_enter Tryz.func33, Tryz.ntmps33
    go_wp2_with (first | (go_at_call 26; refine c1.out.mono ?_; rintro e w1 ⟨rfl, B1⟩; replace B1 := hid B1))
    go_ret
    exact ⟨_, rfl, (Acc.nil eInt w).later B1.out⟩
  | true =>
    rw [if_pos rfl]
    go_enter Tryz.func33, Tryz.ntmps33
    go_wp2_with (first | (go_at_call 26; refine c1.out.mono ?_; rintro e w1 ⟨rfl, B1⟩; replace B1 := hid B1) | (go_at_call 58; refine (c2.out _ B1.out).mono ?_; rintro e w2 ⟨g, c, rfl, A2⟩; replace A2 := hid A2))
    go_ret
    have h := A2.out
    have hb := B1.out
    exact ⟨_, rfl, own_base h.o (fun j hj => Nat.le_trans hb.size (own_lt h.o j hj).1), Below.up hb h.lo⟩
end Go.Proofs.YtcpnmpepcpcahaaGreatDoor.Vt

/- The writer's Add again, for sizes a little over the limit that the law has. -/
import Derived.Test.YtgkoopciajjonaaDoorWa
namespace Go.Proofs.YtgkoopciajjonaaDoor.Wb
open Go.ChangeShapes Go.WideShapes Go.ChangeAt Go.RowKit
open Go.Proofs.YtgkoopciajjonaaDoor.Crc
open Go.Proofs.YtgkoopciajjonaaDoor.Jm
open Go.Proofs.YtgkoopciajjonaaDoor.Ck
open Go.Proofs.YtgkoopciajjonaaDoor.Wt
open Go.Proofs.YtgkoopciajjonaaDoor.Wp
open Go.Proofs.YtgkoopciajjonaaDoor.Wq
open Go.Proofs.YtgkoopciajjonaaDoor.Wc
open Go.Proofs.YtgkoopciajjonaaDoor.Wa
set_option linter.unusedVariables false
set_option linter.unusedSimpArgs false

set_option maxHeartbeats 1600000 in
set_option maxRecDepth 100000 in
theorem add_ok (g b s : Nat) (a : Option Addr) (len cap : Nat) (r : List Int) (w : World) (T : Hid (Tab w)) (H : Wr w g b s) (HB : Bytes w a len cap r) (hb : 32 ≤ b ∧ b ≤ 32768) (hs : s ≤ 5000000000000000000) (hn : len ≤ 2097152) :
    Calls Tryd.prog 17 #[.pointer (some ⟨g, 0, none⟩), .slice a len cap] w fun e w' => ∃ v, e = .returned (.tuple #[v, .int .i64 0]) ∧ Own w' w.heap.size v (flat (addc b s r)) ∧ Wr w' g b (s + (flat (addc b s r)).length) ∧ w.grownBy w' (some g) := by
  have HI := isnone_any g b s w H
  rw [show decide ((b : Int) = 0) = false by simp; omega] at HI
  have HI := hid HI
  have HR := hid (rest_any g b s w H hb (by omega))
  have HW := hid H
  have HH := hid HB
  have h1 : ¬ (2097152 : Int) < (len : Int) := by omega
  have hr := room_le b s hb
  have hg := noughts_le b s
  have hc := cst_le b s len hb
  have HC0 : Hid (∀ w2, Wr w2 g b s → Calls Tryd.prog 13 #[.pointer (some ⟨g, 0, none⟩), .int .i64 len] w2 fun e w' => e = .returned (.int .i64 (cst b s len : Nat)) ∧ Below w2.heap.size w2 w') := fun w2 h2 => cost_ok g b s len w2 h2 hb (by omega) hn
  have hX := hid (flat_addc b s r)
  have hXl := hid (add_len b s r hb)
  have hrl := HB.1
  obtain ⟨X, hX0⟩ : ∃ X, X = flat (addc b s r) := ⟨_, rfl⟩
  rw [← hX0] at hX hXl ⊢
  rw [hrl] at hX hXl
  clear hX0
  generalize cst b s len = q at *
  generalize noughts b s = ns at *
  generalize room b s = rm at *
  clear H HB
  go_enter Tryd.func17, Tryd.ntmps17
  go_wp2_with fail
  refine HI.out.mono ?_
  rintro e w' ⟨rfl, rfl⟩
  go_wp2_with fail
  refine HR.out.mono ?_
  rintro e w2 ⟨rfl, b2⟩
  have HC := hid (HC0.out w2 (HW.out.later b2))
  have B2 := hid b2
  clear b2 HR HI
  go_wp2_with fail
  refine HC.out.mono ?_
  rintro e w3 ⟨rfl, b3⟩
  have B3 : Hid (Below w'.heap.size w' w3) := B2.out.trans (b3.mono B2.out.size)
  clear b3 B2 HC
  obtain ⟨w4, r4, O4, b4⟩ := make_own w3 w'.heap.size ns q (by omega) (by omega) B3.out.size
  have r4 := hid r4
  have O4 := hid O4
  have B4 : Hid (Below w'.heap.size w' w4) := B3.out.trans (b4.mono B3.out.size)
  clear b4 B3
  go_wp2_with (rw [r4.out])
  go_loopw [1, 7, 8, 9] (fun rc rv ov fv wr => ∃ (a' : Option Addr) (len' cap' rm' n : Nat) (r' xs : List Int) (first : Bool), rc = .slice a' len' cap' ∧ rv = .int .i64 (rm' : Int) ∧ fv = .bool first ∧ len' ≤ len ∧ rm' ≤ b - 7 ∧ Hid (Bytes w' a' len' cap' r') ∧ Hid (Own wr w'.heap.size ov xs) ∧ Hid (Below w'.heap.size w' wr) ∧
      Hid (X = xs ++ flat (pcs (b - 7) n rm' first r')) ∧ Hid (len' + (if first then 2 else 1) ≤ n) ∧ Hid (first = false → rm' = b - 7))
    (fun rc _ _ fv _ => vlen rc + vb fv)
  case atStart => exact ⟨a, len, cap, rm, len + 2, r, _, true, rfl, rfl, rfl, Nat.le_refl _, hr, HH, O4, B4, hX, by show _ ≤ _; simp, by simp [Hid]⟩
  case round =>
    obtain ⟨a', len', cap', rm', n, r', xs, first, rfl, rfl, rfl, hl', hr', HB', HO, HBel, HX, HN, HF⟩ := hrel
    clear hX O4 B4 r4
    have hrl' := HB'.out.1
    have hxl : Hid (xs.length + len' ≤ q) := by
      show _ ≤ _
      have := congrArg List.length HX.out
      rw [hXl.out, List.length_append, flat_len (b - 7) (by omega) n rm' first r' (by rw [hrl']; exact HN.out) HF.out, hrl'] at this
      omega
    obtain ⟨n', hn'⟩ : ∃ n', n = n' + 1 := ⟨n - 1, by have := HN.out; cases first <;> simp at this <;> omega⟩
    subst hn'
    by_cases h : len' ≤ rm'
    · have hmin : min (len' : Int) (rm' : Int) = (len' : Int) := by omega
      have hE : Hid (xs ++ pc (kd first true) r' = X) := by
        show _ = _
        rw [HX.out]
        unfold pcs
        rw [if_pos (by omega), flat_cons, flat_nil, List.append_nil]
        rfl
      have HT := hid (bytes_take HB'.out len' (Nat.le_refl _) (fun e => (HB'.out.2.2.1 e).1))
      have HP := hid (fun W v (hv : Own W w'.heap.size v xs) (hB : Below w'.heap.size w' W) => put_any w' W v xs (kd first true) a' len' cap' r' T HB'.out hB hv (by have := kd_bd first true; omega) (by have := hxl.out; omega))
      have HK := hid (kindof_any first true)
      rw [hE.out] at HP
      have hkl2 := HB'.out.2.1
      have bd : Below wr.heap.size wr wr.drew := (Below.refl _ _).drew
      have HPd := hid (HP.out _ _ (HO.out.later bd) (HBel.out.trans (bd.mono HBel.out.size)))
      clear HP HT bd
      go_wp2_with fail
      go_region_with (first | (go_at_call 30; refine (HK.out _).mono ?_; rintro e w5 ⟨rfl, rfl⟩) | (go_at_call 29; refine HPd.out.mono ?_; rintro e w5 ⟨v5, rfl, O5, B5⟩))
      all_goals
        obtain ⟨ax, cx, hvx, _⟩ := O5.shape
        subst hvx
        have W5 : Wr w5 g b s := HW.out.later B5
        have c1 := W5.cell1
        have f1 := W5.fz 1
        have xl := hXl.out
        rw [xl] at O5 ⊢
        have hw1 : IntKind.u64.wrap ((s : Int) + (q : Int)) = ((s + q : Nat) : Int) := by simp [IntKind.wrap, IntKind.bits, IntKind.signed]; omega
        have W6 := W5.set (s + q)
        have g6 := grown_set w5 g 1 (.int .u64 ((s + q : Nat) : Int))
        push_cast at W6 g6
        have O6 := O5.kept g6 (fun e => by have := (O5.lt g e.symm).1; have := HW.out.lt; omega)
        have G6 := grown_trans (grown_none (grown_of B5)) g6
        go_wp2_with fail
        go_ret2
        exact ⟨_, rfl, O6, by rw [xl]; exact W6, G6⟩
    · have hmin : min (len' : Int) (rm' : Int) = (rm' : Int) := by omega
      have hbq : ((rm' : Int) == (len' : Int)) = false := by rw [beq_eq_false_iff_ne]; omega
      obtain ⟨ad, rfl⟩ : ∃ ad, a' = some ad := by
        cases a' with
        | none => have := (HB'.out.2.2.1 rfl).1; omega
        | some ad => exact ⟨ad, rfl⟩
      have hE : Hid (X = (xs ++ pc (kd first false) (r'.take rm')) ++ flat (pcs (b - 7) n' (b - 7) false (r'.drop rm'))) := by
        show _ = _
        rw [HX.out]
        conv => lhs; unfold pcs
        rw [if_neg (by omega), flat_cons, List.append_assoc]
        rfl
      have HT := hid (bytes_take HB'.out rm' (by omega) (fun e => by simp at e))
      have HD := hid (bytes_drop HB'.out rm' (by omega))
      have HP := hid (fun W v (hv : Own W w'.heap.size v xs) (hB : Below w'.heap.size w' W) => put_any w' W v xs (kd first false) (some ad) rm' cap' (r'.take rm') T HT.out hB hv (by have := kd_bd first false; omega) (by have := hxl.out; omega))
      have HK := hid (kindof_any first false)
      have hkl2 := HB'.out.2.1
      have bd : Below wr.heap.size wr wr.drew := (Below.refl _ _).drew
      have HPd := hid (HP.out _ _ (HO.out.later bd) (HBel.out.trans (bd.mono HBel.out.size)))
      clear HP HT bd
      go_wp2_with fail
      go_region_with (first | (go_at_call 30; refine (HK.out _).mono ?_; rintro e w5 ⟨rfl, rfl⟩) | (go_at_call 29; refine HPd.out.mono ?_; rintro e w5 ⟨v5, rfl, O5, B5⟩))
      all_goals
        have W5 : Wr w5 g b s := HW.out.later B5
        have c0 := W5.cell0
        have O5 := hid O5
        have B5 := hid B5
        go_wp2_with fail
        go_quiet (fail)
        go_wp2_with fail
        go_roundw
        case rel => exact ⟨_, _, _, b - 7, n', _, _, false, rfl, by go_num, rfl, by omega, Nat.le_refl _, HD, hid (O5.out.later (below_drewN (Below.refl _ _) _)), hid (B5.out.trans ((below_drewN (Below.refl _ _) _).mono B5.out.size)), hE, by show _ ≤ _; have := HN.out; cases first <;> simp at this ⊢ <;> (try have := HF.out rfl) <;> omega, fun _ => rfl⟩
        case measure => cases first <;> simp [vlen, vb] <;> (try have := HF.out rfl) <;> omega
end Go.Proofs.YtgkoopciajjonaaDoor.Wb

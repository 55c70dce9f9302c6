/- Words: bare texts, Word, Unword of the program. -/
import Derived.Test.YtcjlgjlediihoabDoorLb
namespace Go.Proofs.YtcjlgjlediihoabDoor.Rw
open Go.ChangeShapes Go.WideShapes Go.ChangeAt Go.RowKit
open Go.Proofs.YtcjlgjlediihoabDoor.Ut
open Go.Proofs.YtcjlgjlediihoabDoor.By
set_option linter.unusedVariables false
set_option linter.unusedSimpArgs false

/-- What can't be bare. -/
def nb (x : Nat) : Bool := !(decide (97 ≤ x ∧ x ≤ 122) || decide (48 ≤ x ∧ x ≤ 57) || decide (x = 46) || decide (x = 95) || decide (x = 45))
theorem nb_cases (x : Nat) : (97 ≤ x ∧ x ≤ 122 ∧ nb x = false) ∨ (48 ≤ x ∧ x ≤ 57 ∧ nb x = false) ∨ (x = 46 ∧ nb x = false) ∨ (x = 95 ∧ nb x = false) ∨ (x = 45 ∧ nb x = false) ∨ (122 < x ∧ nb x = true) ∨ (57 < x ∧ x < 97 ∧ x ≠ 95 ∧ nb x = true) ∨ (x < 48 ∧ x ≠ 46 ∧ x ≠ 45 ∧ nb x = true) := by
  unfold nb
  simp
  omega
theorem nb_big (x : Nat) (h : 128 ≤ x) : nb x = true := by
  unfold nb
  simp
  omega
set_option maxRecDepth 1000000 in
set_option maxHeartbeats 1000000 in
theorem can_any (r : Nat) (w : World) : Calls Tryd.prog 27 #[.int .i32 (r : Int)] w fun e w' => e = .returned (.bool (!nb r)) ∧ w' = w := by
  rcases nb_cases r with ⟨a, b, h⟩ | ⟨a, b, h⟩ | ⟨a, h⟩ | ⟨a, h⟩ | ⟨a, h⟩ | ⟨a, h⟩ | ⟨a, b, c, h⟩ | ⟨a, b, c, h⟩
  · rw [h]
    clear h
    go_enter Tryd.func27, Tryd.ntmps27
    go_wp2_with fail
    go_ret
    exact ⟨by first | rfl | (simp; done), rfl⟩
  · rw [h]
    have y97 : ¬ 97 ≤ (r : Int) := by omega
    clear h
    go_enter Tryd.func27, Tryd.ntmps27
    go_wp2_with fail
    go_ret
    exact ⟨by first | rfl | (simp; done), rfl⟩
  · rw [h]
    have y97 : ¬ 97 ≤ (r : Int) := by omega
    have y48 : ¬ 48 ≤ (r : Int) := by omega
    have e46 : ((r : Int) == 46) = true := by simp; omega
    clear a
    clear h
    go_enter Tryd.func27, Tryd.ntmps27
    go_wp2_with fail
    go_ret
    exact ⟨by first | rfl | (simp; done), rfl⟩
  · rw [h]
    have y97 : ¬ 97 ≤ (r : Int) := by omega
    have z48 : 48 ≤ (r : Int) := by omega
    have x57 : ¬ (r : Int) ≤ 57 := by omega
    have n46 : ((r : Int) == 46) = false := by simp; omega
    have e95 : ((r : Int) == 95) = true := by simp; omega
    clear a
    clear h
    go_enter Tryd.func27, Tryd.ntmps27
    go_wp2_with fail
    go_ret
    exact ⟨by first | rfl | (simp; done), rfl⟩
  · rw [h]
    have y97 : ¬ 97 ≤ (r : Int) := by omega
    have y48 : ¬ 48 ≤ (r : Int) := by omega
    have n46 : ((r : Int) == 46) = false := by simp; omega
    have n95 : ((r : Int) == 95) = false := by simp; omega
    have e45 : ((r : Int) == 45) = true := by simp; omega
    clear a
    clear h
    go_enter Tryd.func27, Tryd.ntmps27
    go_wp2_with fail
    go_ret
    exact ⟨by first | rfl | (simp; done), rfl⟩
  · rw [h]
    have z97 : 97 ≤ (r : Int) := by omega
    have z48 : 48 ≤ (r : Int) := by omega
    have x122 : ¬ (r : Int) ≤ 122 := by omega
    have x57 : ¬ (r : Int) ≤ 57 := by omega
    have n46 : ((r : Int) == 46) = false := by simp; omega
    have n95 : ((r : Int) == 95) = false := by simp; omega
    have n45 : ((r : Int) == 45) = false := by simp; omega
    clear h
    go_enter Tryd.func27, Tryd.ntmps27
    go_wp2_with fail
    go_ret
    exact ⟨by first | rfl | (simp; done), rfl⟩
  · rw [h]
    have y97 : ¬ 97 ≤ (r : Int) := by omega
    have z48 : 48 ≤ (r : Int) := by omega
    have x57 : ¬ (r : Int) ≤ 57 := by omega
    have n46 : ((r : Int) == 46) = false := by simp; omega
    have n95 : ((r : Int) == 95) = false := by simp; omega
    have n45 : ((r : Int) == 45) = false := by simp; omega
    clear h
    go_enter Tryd.func27, Tryd.ntmps27
    go_wp2_with fail
    go_ret
    exact ⟨by first | rfl | (simp; done), rfl⟩
  · rw [h]
    have y97 : ¬ 97 ≤ (r : Int) := by omega
    have y48 : ¬ 48 ≤ (r : Int) := by omega
    have n46 : ((r : Int) == 46) = false := by simp; omega
    have n95 : ((r : Int) == 95) = false := by simp; omega
    have n45 : ((r : Int) == 45) = false := by simp; omega
    clear h
    go_enter Tryd.func27, Tryd.ntmps27
    go_wp2_with fail
    go_ret
    exact ⟨by first | rfl | (simp; done), rfl⟩
set_option maxRecDepth 1000000 in
set_option maxHeartbeats 1000000 in
theorem bareb_any (s : ByteArray) (w : World) :
    Calls Tryd.prog 17 #[.string s] w fun e w' => e = .returned (.int .i64 (fb nb s 0 : Nat)) ∧ Below w.heap.size w w' := by
  go_enter Tryd.func17, Tryd.ntmps17
  go_wp2_with fail
  go_loopw [2] (fun n w' => ∃ pos : Nat, w' = w.iter s pos ∧ n = .int .i64 0 ∧ pos ≤ s.size ∧ Hid (∀ j, j < pos → nb (bt s j) = false)) (fun _ w' => s.size - w'.iterPos w.heap.size)
  case atStart => exact ⟨0, rfl, rfl, by omega, fun j h => by omega⟩
  case round =>
    obtain ⟨pos, rfl, rfl, hps, hno⟩ := hrel
    by_cases hp : pos < s.size
    · have hnx : ∀ ty, (Instr.next (.pointer (some ⟨w.heap.size, 0, none⟩)) true ty).run Tryd.prog (w.iter s pos) = _ := fun ty => run_next_any w s pos ty hp
      have HC := hid (can_any (Utf8.decode s pos).1 (w.iter s (pos + (Utf8.decode s pos).2)))
      cases hq : nb (Utf8.decode s pos).1 with
      | true =>
        have hF : Hid (fb nb s 0 = pos) := fb_is nb s 0 pos (by omega) (by omega) (fun j _ h => hno.out j h) (fun _ => by
          by_cases hb : bt s pos < 128
          · rw [dec_small s pos hb] at hq
            exact hq
          · exact nb_big _ (by omega))
        rw [hq] at HC
        generalize hd : Utf8.decode s pos = d at hnx HC hq
        clear hd
        obtain ⟨r, wd⟩ := d
        clear hp hq hno
        go_wp2_with fail
        refine HC.out.mono ?_
        rintro e w1 ⟨rfl, rfl⟩
        clear HC hnx
        go_wp2_with fail
        go_ret
        exact ⟨by rw [hF.out]; rfl, iter_below w s _⟩
      | false =>
        have hb : bt s pos < 128 := by
          by_cases hb : bt s pos < 128
          · exact hb
          · have := nb_big _ (dec_big s pos hp (by omega)).1
            rw [hq] at this
            simp at this
        have hd := dec_small s pos hb
        rw [hq] at HC
        rw [hd] at hnx HC hq
        have hN : Hid (∀ j, j < pos + 1 → nb (bt s j) = false) := fun j hj => by
          by_cases h : j = pos
          · rw [h]; exact hq
          · exact hno.out j (by omega)
        generalize bt s pos = r at *
        clear hd hq hno hb
        go_wp2_with fail
        refine HC.out.mono ?_
        rintro e w1 ⟨rfl, rfl⟩
        clear HC hnx
        go_wp2_with fail
        go_roundw
        case rel => exact ⟨pos + 1, rfl, rfl, by omega, hN.out⟩
        case measure =>
          simp only [World.iterPos_iter]
          omega
    · have hnx : ∀ ty, (Instr.next (.pointer (some ⟨w.heap.size, 0, none⟩)) true ty).run Tryd.prog (w.iter s pos) = _ := fun ty => run_next_end w s pos ty hp
      have hF : Hid (fb nb s 0 = s.size) := fb_is nb s 0 s.size (by omega) (by omega) (fun j _ h => hno.out j (by omega)) (fun h => by omega)
      go_wp2_with fail
      go_ret
      exact ⟨by rw [hF.out]; rfl, iter_below w s pos⟩
/-- A text as a word. -/
def wo (s : ByteArray) : ByteArray := if s.size ≠ 0 ∧ fb nb s 0 = s.size then s else str (qt s)
/-- A word's text. -/
def uo (s : ByteArray) : ByteArray × Nat × Nat := if 1 ≤ s.size ∧ bt s 0 = 34 then unq s else if s.size = 0 ∨ fb nb s 0 < s.size then (⟨#[]⟩, fb nb s 0, 61) else (s, 0, 0)
set_option maxRecDepth 1000000 in
set_option maxHeartbeats 1000000 in
theorem word_any (s : ByteArray) (hs : s.size ≤ 4294967296) (w : World) (T : Hid (Lt w)) :
    Calls Tryd.prog 8 #[.string s] w fun e w' => e = .returned (.string (wo s)) ∧ Below w.heap.size w w' := by
  have HQ : Hid (∀ W, Hid (Lt W) → Calls Tryd.prog 7 #[.string s] W fun e w' => e = .returned (.string (str (qt s))) ∧ Below W.heap.size W w') := fun W TW => quote_any s hs W TW
  have HB := hid (bareb_any s w)
  by_cases h0 : s.size = 0
  · have e : wo s = str (qt s) := by unfold wo; rw [if_neg (fun x => x.1 h0)]
    rw [e]
    have hs0 := size0 s h0
    generalize str (qt s) = Q at *
    subst hs0
    clear HB e h0
    go_enter Tryd.func8, Tryd.ntmps8
    go_wp2_with fail
    refine (HQ.out _ T).mono ?_
    rintro e w1 ⟨rfl, b1⟩
    have b1h := hid b1
    clear HQ b1
    go_wp2_with fail
    go_ret
    exact ⟨rfl, b1h.out⟩
  · have hne := ne_empty s h0
    by_cases hf : fb nb s 0 = s.size
    · have e : wo s = s := by unfold wo; rw [if_pos ⟨h0, hf⟩]
      rw [e]
      rw [hf] at HB
      clear HQ e hf h0
      have hz : ((s.size : Int) == (s.size : Int)) = true := beq_self_eq_true _
      go_enter Tryd.func8, Tryd.ntmps8
      go_wp2_with fail
      refine HB.out.mono ?_
      rintro e w1 ⟨rfl, b1⟩
      have b1h := hid b1
      clear HB b1
      go_wp2_with fail
      go_ret
      exact ⟨rfl, b1h.out⟩
    · have e : wo s = str (qt s) := by unfold wo; rw [if_neg (fun x => hf x.2)]
      rw [e]
      generalize str (qt s) = Q at *
      generalize fb nb s 0 = F at *
      have hz : ((F : Int) == (s.size : Int)) = false := by simp; omega
      clear e h0 hf
      go_enter Tryd.func8, Tryd.ntmps8
      go_wp2_with fail
      refine HB.out.mono ?_
      rintro e w1 ⟨rfl, b1⟩
      have b1h := hid b1
      clear HB b1
      go_wp2_with fail
      refine (HQ.out _ (T.out.later b1h.out)).mono ?_
      rintro e w2 ⟨rfl, b2⟩
      have b2h := hid (b1h.out.trans (b2.mono b1h.out.size))
      clear HQ b2 b1h
      go_wp2_with fail
      go_ret
      exact ⟨rfl, b2h.out⟩
set_option maxRecDepth 1000000 in
set_option maxHeartbeats 1000000 in
theorem unword_any (s : ByteArray) (hs : s.size ≤ 4294967296) (w : World) (T : Hid (Lt w)) :
    Calls Tryd.prog 10 #[.string s] w fun e w' => e = .returned (.tuple #[.string (uo s).1, .int .i64 ((uo s).2.1 : Nat), .int .i64 ((uo s).2.2 : Nat)]) ∧ Below w.heap.size w w' := by
  have HP := hid (hp_any s dq w)
  have HE := hp_dq s
  have HB := hid (bareb_any s w)
  by_cases hq : 1 ≤ s.size ∧ bt s 0 = 34
  · rw [HE.2 hq] at HP
    have e : uo s = unq s := by unfold uo; rw [if_pos hq]
    rw [e]
    have HU := hid (unquote_any s hs w T)
    generalize unq s = U at *
    obtain ⟨U1, U2, U3⟩ := U
    clear HE HB e hq
    unfold dq at HP
    go_enter Tryd.func10, Tryd.ntmps10
    go_wp2_with fail
    refine HP.out.mono ?_
    rintro e w ⟨rfl, rfl⟩
    clear HP
    go_wp2_with fail
    refine HU.out.mono ?_
    rintro e w1 ⟨rfl, b1⟩
    have b1h := hid b1
    clear HU b1
    go_wp2_with fail
    go_ret3
    exact ⟨rfl, b1h.out⟩
  · have e0 : hp s dq = false := by
      cases h : hp s dq
      · rfl
      · exact absurd (HE.1 h) hq
    rw [e0] at HP
    have hle := (fb_spec nb s 0 (by omega)).2.1
    by_cases h0 : s.size = 0
    · have e : uo s = (⟨#[]⟩, fb nb s 0, 61) := by unfold uo; rw [if_neg hq, if_pos (.inl h0)]
      rw [e]
      have hs0 := size0 s h0
      generalize fb nb s 0 = F at *
      subst hs0
      clear HE e e0 hq h0
      unfold dq at HP
      go_enter Tryd.func10, Tryd.ntmps10
      go_wp2_with fail
      refine HP.out.mono ?_
      rintro e w ⟨rfl, rfl⟩
      clear HP
      go_wp2_with fail
      refine HB.out.mono ?_
      rintro e w1 ⟨rfl, b1⟩
      have b1h := hid b1
      clear HB b1
      go_wp2_with fail
      go_ret3
      exact ⟨rfl, b1h.out⟩
    · have hne := ne_empty s h0
      by_cases hf : fb nb s 0 < s.size
      · have e : uo s = (⟨#[]⟩, fb nb s 0, 61) := by unfold uo; rw [if_neg hq, if_pos (.inr hf)]
        rw [e]
        generalize fb nb s 0 = F at *
        clear HE e e0 hq h0
        unfold dq at HP
        go_enter Tryd.func10, Tryd.ntmps10
        go_wp2_with fail
        refine HP.out.mono ?_
        rintro e w ⟨rfl, rfl⟩
        clear HP
        go_wp2_with fail
        refine HB.out.mono ?_
        rintro e w1 ⟨rfl, b1⟩
        have b1h := hid b1
        clear HB b1
        go_wp2_with fail
        go_ret3
        exact ⟨rfl, b1h.out⟩
      · have e : uo s = (s, 0, 0) := by unfold uo; rw [if_neg hq, if_neg (fun x => by omega)]
        rw [e]
        generalize fb nb s 0 = F at *
        clear HE e e0 hq h0
        unfold dq at HP
        go_enter Tryd.func10, Tryd.ntmps10
        go_wp2_with fail
        refine HP.out.mono ?_
        rintro e w ⟨rfl, rfl⟩
        clear HP
        go_wp2_with fail
        refine HB.out.mono ?_
        rintro e w1 ⟨rfl, b1⟩
        have b1h := hid b1
        clear HB b1
        go_wp2_with fail
        go_ret3
        exact ⟨rfl, b1h.out⟩
end Go.Proofs.YtcjlgjlediihoabDoor.Rw

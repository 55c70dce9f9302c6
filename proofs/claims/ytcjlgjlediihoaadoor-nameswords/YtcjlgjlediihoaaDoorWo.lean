/- Words: bare texts, Word, Unword of both. -/
import Derived.Test.YtcjlgjlediihoaaDoorLq
namespace Go.Proofs.YtcjlgjlediihoaaDoor.Rw
open Go.ChangeShapes Go.WideShapes Go.ChangeAt Go.RowKit
open Go.Proofs.YtcjlgjlediihoaaDoor.Ut
open Go.Proofs.YtcjlgjlediihoaaDoor.By
set_option linter.unusedVariables false
set_option linter.unusedSimpArgs false

/-- What can't be bare. -/
def nb (x : Nat) : Bool := !(decide (97 ≤ x ∧ x ≤ 122) || decide (48 ≤ x ∧ x ≤ 57) || decide (x = 46) || decide (x = 95) || decide (x = 45))
theorem nb_cases (x : Nat) : (97 ≤ x ∧ x ≤ 122 ∧ nb x = false) ∨ (48 ≤ x ∧ x ≤ 57 ∧ nb x = false) ∨ (x = 46 ∧ nb x = false) ∨ (x = 95 ∧ nb x = false) ∨ (x = 45 ∧ nb x = false) ∨ (122 < x ∧ nb x = true) ∨ (57 < x ∧ x < 97 ∧ x ≠ 95 ∧ nb x = true) ∨ (x < 48 ∧ x ≠ 46 ∧ x ≠ 45 ∧ nb x = true) := by
  unfold nb
  simp
  omega
theorem nb_big (x : Nat) (h : 128 ≤ x) : nb x = true := by
  unfold nb
  simp
  omega
set_option maxRecDepth 1000000 in
set_option maxHeartbeats 1000000 in
theorem can_any (r : Nat) (w : World) : Calls Tryd.prog 67 #[.int .i32 (r : Int)] w fun e w' => e = .returned (.bool (!nb r)) ∧ w' = w := by
  rcases nb_cases r with ⟨a, b, h⟩ | ⟨a, b, h⟩ | ⟨a, h⟩ | ⟨a, h⟩ | ⟨a, h⟩ | ⟨a, h⟩ | ⟨a, b, c, h⟩ | ⟨a, b, c, h⟩
  · rw [h]
    clear h
    go_enter Tryd.func67, Tryd.ntmps67
    go_wp2_with fail
    go_ret
    exact ⟨by first | rfl | (simp; done), rfl⟩
  · rw [h]
    have y97 : ¬ 97 ≤ (r : Int) := by omega
    clear h
    go_enter Tryd.func67, Tryd.ntmps67
    go_wp2_with fail
    go_ret
    exact ⟨by first | rfl | (simp; done), rfl⟩
  · rw [h]
    have y97 : ¬ 97 ≤ (r : Int) := by omega
    have y48 : ¬ 48 ≤ (r : Int) := by omega
    have e46 : ((r : Int) == 46) = true := by simp; omega
    clear a
    clear h
    go_enter Tryd.func67, Tryd.ntmps67
    go_wp2_with fail
    go_ret
    exact ⟨by first | rfl | (simp; done), rfl⟩
  · rw [h]
    have y97 : ¬ 97 ≤ (r : Int) := by omega
    have z48 : 48 ≤ (r : Int) := by omega
    have x57 : ¬ (r : Int) ≤ 57 := by omega
    have n46 : ((r : Int) == 46) = false := by simp; omega
    have e95 : ((r : Int) == 95) = true := by simp; omega
    clear a
    clear h
    go_enter Tryd.func67, Tryd.ntmps67
    go_wp2_with fail
    go_ret
    exact ⟨by first | rfl | (simp; done), rfl⟩
  · rw [h]
    have y97 : ¬ 97 ≤ (r : Int) := by omega
    have y48 : ¬ 48 ≤ (r : Int) := by omega
    have n46 : ((r : Int) == 46) = false := by simp; omega
    have n95 : ((r : Int) == 95) = false := by simp; omega
    have e45 : ((r : Int) == 45) = true := by simp; omega
    clear a
    clear h
    go_enter Tryd.func67, Tryd.ntmps67
    go_wp2_with fail
    go_ret
    exact ⟨by first | rfl | (simp; done), rfl⟩
  · rw [h]
    have z97 : 97 ≤ (r : Int) := by omega
    have z48 : 48 ≤ (r : Int) := by omega
    have x122 : ¬ (r : Int) ≤ 122 := by omega
    have x57 : ¬ (r : Int) ≤ 57 := by omega
    have n46 : ((r : Int) == 46) = false := by simp; omega
    have n95 : ((r : Int) == 95) = false := by simp; omega
    have n45 : ((r : Int) == 45) = false := by simp; omega
    clear h
    go_enter Tryd.func67, Tryd.ntmps67
    go_wp2_with fail
    go_ret
    exact ⟨by first | rfl | (simp; done), rfl⟩
  · rw [h]
    have y97 : ¬ 97 ≤ (r : Int) := by omega
    have z48 : 48 ≤ (r : Int) := by omega
    have x57 : ¬ (r : Int) ≤ 57 := by omega
    have n46 : ((r : Int) == 46) = false := by simp; omega
    have n95 : ((r : Int) == 95) = false := by simp; omega
    have n45 : ((r : Int) == 45) = false := by simp; omega
    clear h
    go_enter Tryd.func67, Tryd.ntmps67
    go_wp2_with fail
    go_ret
    exact ⟨by first | rfl | (simp; done), rfl⟩
  · rw [h]
    have y97 : ¬ 97 ≤ (r : Int) := by omega
    have y48 : ¬ 48 ≤ (r : Int) := by omega
    have n46 : ((r : Int) == 46) = false := by simp; omega
    have n95 : ((r : Int) == 95) = false := by simp; omega
    have n45 : ((r : Int) == 45) = false := by simp; omega
    clear h
    go_enter Tryd.func67, Tryd.ntmps67
    go_wp2_with fail
    go_ret
    exact ⟨by first | rfl | (simp; done), rfl⟩
set_option maxRecDepth 1000000 in
set_option maxHeartbeats 1000000 in
theorem bareb_any (s : ByteArray) (w : World) :
    Calls Tryd.prog 45 #[.string s] w fun e w' => e = .returned (.int .i64 (fb nb s 0 : Nat)) ∧ Below w.heap.size w w' := by
  go_enter Tryd.func45, Tryd.ntmps45
  go_wp2_with fail
  go_loopw [2] (fun n w' => ∃ pos : Nat, w' = w.iter s pos ∧ n = .int .i64 0 ∧ pos ≤ s.size ∧ Hid (∀ j, j < pos → nb (bt s j) = false)) (fun _ w' => s.size - w'.iterPos w.heap.size)
  case atStart => exact ⟨0, rfl, rfl, by omega, fun j h => by omega⟩
  case round =>
    obtain ⟨pos, rfl, rfl, hps, hno⟩ := hrel
    by_cases hp : pos < s.size
    · have hnx : ∀ ty, (Instr.next (.pointer (some ⟨w.heap.size, 0, none⟩)) true ty).run Tryd.prog (w.iter s pos) = _ := fun ty => run_next_any w s pos ty hp
      have HC := hid (can_any (Utf8.decode s pos).1 (w.iter s (pos + (Utf8.decode s pos).2)))
      cases hq : nb (Utf8.decode s pos).1 with
      | true =>
        have hF : Hid (fb nb s 0 = pos) := fb_is nb s 0 pos (by omega) (by omega) (fun j _ h => hno.out j h) (fun _ => by
          by_cases hb : bt s pos < 128
          · rw [dec_small s pos hb] at hq
            exact hq
          · exact nb_big _ (by omega))
        rw [hq] at HC
        generalize hd : Utf8.decode s pos = d at hnx HC hq
        clear hd
        obtain ⟨r, wd⟩ := d
        clear hp hq hno
        go_wp2_with fail
        refine HC.out.mono ?_
        rintro e w1 ⟨rfl, rfl⟩
        clear HC hnx
        go_wp2_with fail
        go_ret
        exact ⟨by rw [hF.out]; rfl, iter_below w s _⟩
      | false =>
        have hb : bt s pos < 128 := by
          by_cases hb : bt s pos < 128
          · exact hb
          · have := nb_big _ (dec_big s pos hp (by omega)).1
            rw [hq] at this
            simp at this
        have hd := dec_small s pos hb
        rw [hq] at HC
        rw [hd] at hnx HC hq
        have hN : Hid (∀ j, j < pos + 1 → nb (bt s j) = false) := fun j hj => by
          by_cases h : j = pos
          · rw [h]; exact hq
          · exact hno.out j (by omega)
        generalize bt s pos = r at *
        clear hd hq hno hb
        go_wp2_with fail
        refine HC.out.mono ?_
        rintro e w1 ⟨rfl, rfl⟩
        clear HC hnx
        go_wp2_with fail
        go_roundw
        case rel => exact ⟨pos + 1, rfl, rfl, by omega, hN.out⟩
        case measure =>
          simp only [World.iterPos_iter]
          omega
    · have hnx : ∀ ty, (Instr.next (.pointer (some ⟨w.heap.size, 0, none⟩)) true ty).run Tryd.prog (w.iter s pos) = _ := fun ty => run_next_end w s pos ty hp
      have hF : Hid (fb nb s 0 = s.size) := fb_is nb s 0 s.size (by omega) (by omega) (fun j _ h => hno.out j (by omega)) (fun h => by omega)
      go_wp2_with fail
      go_ret
      exact ⟨by rw [hF.out]; rfl, iter_below w s pos⟩
/-- The document's bare. -/
def br (s : ByteArray) : Int := if fb nb s 0 < s.size then (fb nb s 0 : Int) else if s.size = 0 then 0 else -1
set_option maxRecDepth 1000000 in
set_option maxHeartbeats 1500000 in
theorem bare_any (s : ByteArray) (hs : s.size ≤ 4294967296) (w : World) :
    Calls Tryd.prog 46 #[.string s] w fun e w' => e = .returned (.int .i64 (br s)) ∧ w' = w := by
  have HB : Hid (br s = if fb nb s 0 < s.size then (fb nb s 0 : Int) else if s.size = 0 then 0 else -1) := rfl
  generalize br s = B at *
  go_enter Tryd.func46, Tryd.ntmps46
  go_wp2_with fail
  go_loop [2, 3] (fun n i => ∃ k : Nat, n = .int .i64 0 ∧ i = .int .i64 (k : Int) ∧ k ≤ s.size ∧ Hid (∀ j, j < k → nb (bt s j) = false)) (fun _ i => s.size - (intOf i).toNat)
  case atStart => exact ⟨0, rfl, rfl, by omega, fun j h => by omega⟩
  case round =>
    obtain ⟨k, rfl, rfl, hk, hno⟩ := hrel
    by_cases hlt : k < s.size
    · have hi : (s[k]'hlt).toNat = bt s k := bt_eq s k hlt
      have hbt := bt_lt s k
      have hret : Hid (nb (bt s k) = true → B = k) := fun h => by
        have hF : fb nb s 0 = k := fb_is nb s 0 k (by omega) (by omega) (fun j _ h => hno.out j h) (fun _ => h)
        rw [HB.out, hF, if_pos hlt]
      have hnext : Hid (nb (bt s k) = false → ∀ j, j < k + 1 → nb (bt s j) = false) := fun h j hj => by
        by_cases hj2 : j = k
        · rw [hj2]; exact h
        · exact hno.out j (by omega)
      have hcs := nb_cases (bt s k)
      generalize bt s k = r at hi hbt hret hnext hcs
      clear hno HB
      rcases hcs with ⟨a, b, h⟩ | ⟨a, b, h⟩ | ⟨a, h⟩ | ⟨a, h⟩ | ⟨a, h⟩ | ⟨a, h⟩ | ⟨a, b, c, h⟩ | ⟨a, b, c, h⟩
      · have y1 : ¬ (r : Int) < 97 := by omega
        have y2 : ¬ 122 < (r : Int) := by omega
        have hn := hid (hnext.out h)
        clear h hret hnext
        go_wp2_with fail
        go_round
        case rel => exact ⟨k + 1, rfl, by go_num, by omega, hn.out⟩
        case measure => simp [intOf]; omega
      · have y1 : (r : Int) < 97 := by omega
        have y2 : ¬ (r : Int) < 48 := by omega
        have y3 : ¬ 57 < (r : Int) := by omega
        have hn := hid (hnext.out h)
        clear h hret hnext
        go_wp2_with fail
        go_round
        case rel => exact ⟨k + 1, rfl, by go_num, by omega, hn.out⟩
        case measure => simp [intOf]; omega
      · have y1 : (r : Int) < 97 := by omega
        have y2 : (r : Int) < 48 := by omega
        have e46 : ((r : Int) != 46) = false := by simp; omega
        clear a
        have hn := hid (hnext.out h)
        clear h hret hnext
        go_wp2_with fail
        go_round
        case rel => exact ⟨k + 1, rfl, by go_num, by omega, hn.out⟩
        case measure => simp [intOf]; omega
      · have y1 : (r : Int) < 97 := by omega
        have y2 : ¬ (r : Int) < 48 := by omega
        have y3 : 57 < (r : Int) := by omega
        have n46 : ((r : Int) != 46) = true := by simp; omega
        have e95 : ((r : Int) != 95) = false := by simp; omega
        clear a
        have hn := hid (hnext.out h)
        clear h hret hnext
        go_wp2_with fail
        go_round
        case rel => exact ⟨k + 1, rfl, by go_num, by omega, hn.out⟩
        case measure => simp [intOf]; omega
      · have y1 : (r : Int) < 97 := by omega
        have y2 : (r : Int) < 48 := by omega
        have n46 : ((r : Int) != 46) = true := by simp; omega
        have n95 : ((r : Int) != 95) = true := by simp; omega
        have e45 : ((r : Int) != 45) = false := by simp; omega
        clear a
        have hn := hid (hnext.out h)
        clear h hret hnext
        go_wp2_with fail
        go_round
        case rel => exact ⟨k + 1, rfl, by go_num, by omega, hn.out⟩
        case measure => simp [intOf]; omega
      · have y1 : ¬ (r : Int) < 97 := by omega
        have y4 : 122 < (r : Int) := by omega
        have y2 : ¬ (r : Int) < 48 := by omega
        have y3 : 57 < (r : Int) := by omega
        have n46 : ((r : Int) != 46) = true := by simp; omega
        have n95 : ((r : Int) != 95) = true := by simp; omega
        have n45 : ((r : Int) != 45) = true := by simp; omega
        have hn := hid (hret.out h)
        clear h hret hnext
        go_wp2_with fail
        go_ret
        exact ⟨by rw [hn.out]; rfl, rfl⟩
      · have y1 : (r : Int) < 97 := by omega
        have y2 : ¬ (r : Int) < 48 := by omega
        have y3 : 57 < (r : Int) := by omega
        have n46 : ((r : Int) != 46) = true := by simp; omega
        have n95 : ((r : Int) != 95) = true := by simp; omega
        have n45 : ((r : Int) != 45) = true := by simp; omega
        have hn := hid (hret.out h)
        clear h hret hnext
        go_wp2_with fail
        go_ret
        exact ⟨by rw [hn.out]; rfl, rfl⟩
      · have y1 : (r : Int) < 97 := by omega
        have y2 : (r : Int) < 48 := by omega
        have n46 : ((r : Int) != 46) = true := by simp; omega
        have n95 : ((r : Int) != 95) = true := by simp; omega
        have n45 : ((r : Int) != 45) = true := by simp; omega
        have hn := hid (hret.out h)
        clear h hret hnext
        go_wp2_with fail
        go_ret
        exact ⟨by rw [hn.out]; rfl, rfl⟩
    · have hkn : k = s.size := by omega
      subst hkn
      have hF : fb nb s 0 = s.size := fb_is nb s 0 s.size (by omega) (by omega) (fun j _ h => hno.out j (by omega)) (fun h => by omega)
      by_cases h0 : s.size = 0
      · have hB0 : Hid (B = 0) := by show _ = _; rw [HB.out, hF, if_neg (by omega), if_pos h0]
        have q0 : ((s.size : Int) == 0) = true := by simp [h0]
        clear HB hF hno
        go_wp2_with fail
        go_ret
        exact ⟨by rw [hB0.out]; rfl, rfl⟩
      · have hB0 : Hid (B = -1) := by show _ = _; rw [HB.out, hF, if_neg (by omega), if_neg h0]
        have q0 : ((s.size : Int) == 0) = false := by rw [beq_eq_false_iff_ne]; omega
        clear HB hF hno
        go_wp2_with fail
        go_ret
        exact ⟨by rw [hB0.out]; rfl, rfl⟩
theorem ne_empty (s : ByteArray) (h0 : s.size ≠ 0) : (s.toList == ([] : List UInt8)) = false := by
  have : s.toList ≠ [] := fun h => by
    have h2 : s = ⟨#[]⟩ := toList_inj (by rw [h, ByteArray.toList_eq])
    rw [h2] at h0
    exact h0 rfl
  simpa using this
/-- A text as a word. -/
def wo (s : ByteArray) : ByteArray := if s.size ≠ 0 ∧ fb nb s 0 = s.size then s else str (qt s)
/-- A word's text. -/
def uo (s : ByteArray) : ByteArray × Nat × Nat := if 1 ≤ s.size ∧ bt s 0 = 34 then unq s else if s.size = 0 ∨ fb nb s 0 < s.size then (⟨#[]⟩, fb nb s 0, 61) else (s, 0, 0)
set_option maxRecDepth 1000000 in
set_option maxHeartbeats 1000000 in
theorem word_any (s : ByteArray) (hs : s.size ≤ 4294967296) (w : World) (T : Hid (Lt w)) :
    Calls Tryd.prog 26 #[.string s] w fun e w' => e = .returned (.string (wo s)) ∧ Below w.heap.size w w' := by
  have HQ : Hid (∀ W, Hid (Lt W) → Calls Tryd.prog 22 #[.string s] W fun e w' => e = .returned (.string (str (qt s))) ∧ Below W.heap.size W w') := fun W TW => quote_any s hs W TW
  have HB := hid (bareb_any s w)
  by_cases h0 : s.size = 0
  · have e : wo s = str (qt s) := by unfold wo; rw [if_neg (fun x => x.1 h0)]
    rw [e]
    have hs0 := size0 s h0
    generalize str (qt s) = Q at *
    subst hs0
    clear HB e h0
    go_enter Tryd.func26, Tryd.ntmps26
    go_wp2_with fail
    refine (HQ.out _ T).mono ?_
    rintro e w1 ⟨rfl, b1⟩
    have b1h := hid b1
    clear HQ b1
    go_wp2_with fail
    go_ret
    exact ⟨rfl, b1h.out⟩
  · have hne := ne_empty s h0
    by_cases hf : fb nb s 0 = s.size
    · have e : wo s = s := by unfold wo; rw [if_pos ⟨h0, hf⟩]
      rw [e]
      rw [hf] at HB
      clear HQ e hf h0
      have hz : ((s.size : Int) == (s.size : Int)) = true := beq_self_eq_true _
      go_enter Tryd.func26, Tryd.ntmps26
      go_wp2_with fail
      refine HB.out.mono ?_
      rintro e w1 ⟨rfl, b1⟩
      have b1h := hid b1
      clear HB b1
      go_wp2_with fail
      go_ret
      exact ⟨rfl, b1h.out⟩
    · have e : wo s = str (qt s) := by unfold wo; rw [if_neg (fun x => hf x.2)]
      rw [e]
      generalize str (qt s) = Q at *
      generalize fb nb s 0 = F at *
      have hz : ((F : Int) == (s.size : Int)) = false := by simp; omega
      clear e h0 hf
      go_enter Tryd.func26, Tryd.ntmps26
      go_wp2_with fail
      refine HB.out.mono ?_
      rintro e w1 ⟨rfl, b1⟩
      have b1h := hid b1
      clear HB b1
      go_wp2_with fail
      refine (HQ.out _ (T.out.later b1h.out)).mono ?_
      rintro e w2 ⟨rfl, b2⟩
      have b2h := hid (b1h.out.trans (b2.mono b1h.out.size))
      clear HQ b2 b1h
      go_wp2_with fail
      go_ret
      exact ⟨rfl, b2h.out⟩
set_option maxRecDepth 1000000 in
set_option maxHeartbeats 1000000 in
theorem unword_any (s : ByteArray) (hs : s.size ≤ 4294967296) (w : World) (T : Hid (Lt w)) :
    Calls Tryd.prog 24 #[.string s] w fun e w' => e = .returned (.tuple #[.string (uo s).1, .int .i64 ((uo s).2.1 : Nat), .int .i64 ((uo s).2.2 : Nat)]) ∧ Below w.heap.size w w' := by
  have HP := hid (hp_any s dq w)
  have HE := hp_dq s
  have HB := hid (bareb_any s w)
  by_cases hq : 1 ≤ s.size ∧ bt s 0 = 34
  · rw [HE.2 hq] at HP
    have e : uo s = unq s := by unfold uo; rw [if_pos hq]
    rw [e]
    have HU := hid (unquote_any s hs w T)
    generalize unq s = U at *
    obtain ⟨U1, U2, U3⟩ := U
    clear HE HB e hq
    unfold dq at HP
    go_enter Tryd.func24, Tryd.ntmps24
    go_wp2_with fail
    refine HP.out.mono ?_
    rintro e w ⟨rfl, rfl⟩
    clear HP
    go_wp2_with fail
    refine HU.out.mono ?_
    rintro e w1 ⟨rfl, b1⟩
    have b1h := hid b1
    clear HU b1
    go_wp2_with fail
    go_ret3
    exact ⟨rfl, b1h.out⟩
  · have e0 : hp s dq = false := by
      cases h : hp s dq
      · rfl
      · exact absurd (HE.1 h) hq
    rw [e0] at HP
    have hle := (fb_spec nb s 0 (by omega)).2.1
    by_cases h0 : s.size = 0
    · have e : uo s = (⟨#[]⟩, fb nb s 0, 61) := by unfold uo; rw [if_neg hq, if_pos (.inl h0)]
      rw [e]
      have hs0 := size0 s h0
      generalize fb nb s 0 = F at *
      subst hs0
      clear HE e e0 hq h0
      unfold dq at HP
      go_enter Tryd.func24, Tryd.ntmps24
      go_wp2_with fail
      refine HP.out.mono ?_
      rintro e w ⟨rfl, rfl⟩
      clear HP
      go_wp2_with fail
      refine HB.out.mono ?_
      rintro e w1 ⟨rfl, b1⟩
      have b1h := hid b1
      clear HB b1
      go_wp2_with fail
      go_ret3
      exact ⟨rfl, b1h.out⟩
    · have hne := ne_empty s h0
      by_cases hf : fb nb s 0 < s.size
      · have e : uo s = (⟨#[]⟩, fb nb s 0, 61) := by unfold uo; rw [if_neg hq, if_pos (.inr hf)]
        rw [e]
        generalize fb nb s 0 = F at *
        clear HE e e0 hq h0
        unfold dq at HP
        go_enter Tryd.func24, Tryd.ntmps24
        go_wp2_with fail
        refine HP.out.mono ?_
        rintro e w ⟨rfl, rfl⟩
        clear HP
        go_wp2_with fail
        refine HB.out.mono ?_
        rintro e w1 ⟨rfl, b1⟩
        have b1h := hid b1
        clear HB b1
        go_wp2_with fail
        go_ret3
        exact ⟨rfl, b1h.out⟩
      · have e : uo s = (s, 0, 0) := by unfold uo; rw [if_neg hq, if_neg (fun x => by omega)]
        rw [e]
        generalize fb nb s 0 = F at *
        clear HE e e0 hq h0
        unfold dq at HP
        go_enter Tryd.func24, Tryd.ntmps24
        go_wp2_with fail
        refine HP.out.mono ?_
        rintro e w ⟨rfl, rfl⟩
        clear HP
        go_wp2_with fail
        refine HB.out.mono ?_
        rintro e w1 ⟨rfl, b1⟩
        have b1h := hid b1
        clear HB b1
        go_wp2_with fail
        go_ret3
        exact ⟨rfl, b1h.out⟩
theorem br_neg (s : ByteArray) : (br s < 0 ↔ s.size ≠ 0 ∧ fb nb s 0 = s.size) ∧ (¬ br s < 0 → br s = (fb nb s 0 : Nat)) := by
  have hle := (fb_spec nb s 0 (by omega)).2.1
  unfold br
  by_cases h : fb nb s 0 < s.size
  · rw [if_pos h]
    exact ⟨⟨fun x => by omega, fun x => by omega⟩, fun _ => rfl⟩
  · rw [if_neg h]
    by_cases h0 : s.size = 0
    · rw [if_pos h0]
      exact ⟨⟨fun x => by omega, fun x => absurd h0 x.1⟩, fun _ => by omega⟩
    · rw [if_neg h0]
      exact ⟨⟨fun _ => ⟨h0, by omega⟩, fun _ => by omega⟩, fun x => absurd (by omega) x⟩
set_option maxRecDepth 1000000 in
set_option maxHeartbeats 1000000 in
theorem rword_any (s : ByteArray) (hs : s.size ≤ 4294967296) (w : World) :
    Calls Tryd.prog 27 #[.string s] w fun e w' => e = .returned (.string (wo s)) ∧ Below w.heap.size w w' := by
  have HQ := hid (rquote_any s hs w)
  have HB := hid (bare_any s hs w)
  have hb := br_neg s
  by_cases h : br s < 0
  · have e : wo s = s := by unfold wo; rw [if_pos (hb.1.1 h)]
    rw [e]
    generalize br s = B at *
    clear hb e HQ
    go_enter Tryd.func27, Tryd.ntmps27
    go_wp2_with fail
    refine HB.out.mono ?_
    rintro e w ⟨rfl, rfl⟩
    clear HB
    go_wp2_with fail
    go_ret
    exact ⟨rfl, Below.refl _ _⟩
  · have e : wo s = str (qt s) := by unfold wo; rw [if_neg (fun x => h (hb.1.2 x))]
    rw [e]
    generalize br s = B at *
    generalize str (qt s) = Q at *
    clear hb e
    go_enter Tryd.func27, Tryd.ntmps27
    go_wp2_with fail
    refine HB.out.mono ?_
    rintro e w ⟨rfl, rfl⟩
    clear HB
    go_wp2_with fail
    refine HQ.out.mono ?_
    rintro e w1 ⟨rfl, b1⟩
    have b1h := hid b1
    clear HQ b1
    go_wp2_with fail
    go_ret
    exact ⟨rfl, b1h.out⟩
set_option maxRecDepth 1000000 in
set_option maxHeartbeats 1000000 in
theorem runword_any (s : ByteArray) (hs : s.size ≤ 4294967296) (w : World) :
    Calls Tryd.prog 25 #[.string s] w fun e w' => e = .returned (.tuple #[.string (uo s).1, .int .i64 ((uo s).2.1 : Nat), .int .i64 ((uo s).2.2 : Nat)]) ∧ Below w.heap.size w w' := by
  have HB := hid (bare_any s hs w)
  have hb := br_neg s
  have hle := (fb_spec nb s 0 (by omega)).2.1
  by_cases h0 : s.size = 0
  · have e : uo s = (⟨#[]⟩, 0, 61) := by
      have hF : fb nb s 0 = 0 := by omega
      unfold uo; rw [if_neg (fun x => by omega), if_pos (.inl h0), hF]
    rw [e]
    have hB0 : br s = 0 := by unfold br; rw [if_neg (by omega), if_pos h0]
    rw [hB0] at HB
    have hs0 := size0 s h0
    subst hs0
    clear hb e hB0 hle h0
    go_enter Tryd.func25, Tryd.ntmps25
    go_wp2_with fail
    refine HB.out.mono ?_
    rintro e w ⟨rfl, rfl⟩
    clear HB
    go_wp2_with fail
    go_ret3
    exact ⟨rfl, Below.refl _ _⟩
  · have hne := ne_empty s h0
    have h1 : 0 < s.size := by omega
    have hi0 : (s[0]'h1).toNat = bt s 0 := bt_eq s 0 h1
    by_cases h34 : bt s 0 = 34
    · have e : uo s = unq s := by unfold uo; rw [if_pos ⟨h1, h34⟩]
      rw [e]
      have HU := hid (runquote_any s hs w)
      generalize unq s = U at *
      obtain ⟨U1, U2, U3⟩ := U
      have q0 : (((bt s 0 : Nat) : Int) == 34) = true := by simp [h34]
      clear hb e HB hle h34 h0
      go_enter Tryd.func25, Tryd.ntmps25
      go_wp2_with fail
      refine HU.out.mono ?_
      rintro e w1 ⟨rfl, b1⟩
      have b1h := hid b1
      clear HU b1
      go_wp2_with fail
      go_ret3
      exact ⟨rfl, b1h.out⟩
    · have q0 : (((bt s 0 : Nat) : Int) == 34) = false := by simp; omega
      by_cases h : br s < 0
      · have hx := hb.1.1 h
        have e : uo s = (s, 0, 0) := by unfold uo; rw [if_neg (fun x => h34 x.2), if_neg (fun x => by omega)]
        rw [e]
        generalize br s = B at *
        have hB : ¬ (0 ≤ B) := by omega
        clear hb e hx hle h34 h0
        go_enter Tryd.func25, Tryd.ntmps25
        go_wp2_with fail
        refine HB.out.mono ?_
        rintro e w ⟨rfl, rfl⟩
        clear HB
        go_wp2_with fail
        go_ret3
        exact ⟨rfl, Below.refl _ _⟩
      · have hx := hb.2 h
        have hn : ¬ (s.size ≠ 0 ∧ fb nb s 0 = s.size) := fun x => h (hb.1.2 x)
        have e : uo s = (⟨#[]⟩, fb nb s 0, 61) := by unfold uo; rw [if_neg (fun x => h34 x.2), if_pos (.inr (by omega))]
        rw [e]
        rw [hx] at HB
        generalize fb nb s 0 = F at *
        clear hb e hx hle h34 h0 hn h
        go_enter Tryd.func25, Tryd.ntmps25
        go_wp2_with fail
        refine HB.out.mono ?_
        rintro e w ⟨rfl, rfl⟩
        clear HB
        go_wp2_with fail
        go_ret3
        exact ⟨rfl, Below.refl _ _⟩
set_option maxRecDepth 1000000 in
set_option maxHeartbeats 1000000 in
theorem words_walk (s q : ByteArray) (hs : s.size ≤ 4294967296) (hq : q.size ≤ 4294967296) (w : World) (T : Hid (Lt w)) :
    Calls Tryd.prog 6 #[.string s, .string q] w fun e w' => e = .returned (.bool true) ∧ Below w.heap.size w w' := by
  have HU := hid (unword_any q hq w T)
  have HR : Hid (∀ W, Calls Tryd.prog 25 #[.string q] W fun e w' => e = .returned (.tuple #[.string (uo q).1, .int .i64 ((uo q).2.1 : Nat), .int .i64 ((uo q).2.2 : Nat)]) ∧ Below W.heap.size W w') := fun W => runword_any q hq W
  have HQ : Hid (∀ W, Hid (Lt W) → Calls Tryd.prog 26 #[.string s] W fun e w' => e = .returned (.string (wo s)) ∧ Below W.heap.size W w') := fun W TW => word_any s hs W TW
  have HD : Hid (∀ W, Calls Tryd.prog 27 #[.string s] W fun e w' => e = .returned (.string (wo s)) ∧ Below W.heap.size W w') := fun W => rword_any s hs W
  generalize uo q = U at *
  generalize wo s = Q at *
  obtain ⟨U1, U2, U3⟩ := U
  go_enter Tryd.func6, Tryd.ntmps6
  go_wp2_with fail
  refine HU.out.mono ?_
  rintro e w1 ⟨rfl, b1⟩
  have b1h := hid b1
  clear HU b1
  go_wp2_with fail
  refine (HR.out _).mono ?_
  rintro e w2 ⟨rfl, b2⟩
  have b2h := hid (b1h.out.trans (b2.mono b1h.out.size))
  clear HR b2 b1h
  go_wp2_with fail
  refine (HQ.out _ (T.out.later b2h.out)).mono ?_
  rintro e w3 ⟨rfl, b3⟩
  have b3h := hid (b2h.out.trans (b3.mono b2h.out.size))
  clear HQ b3 b2h
  go_wp2_with fail
  refine (HD.out _).mono ?_
  rintro e w4 ⟨rfl, b4⟩
  have b4h := hid (b3h.out.trans (b4.mono b3h.out.size))
  clear HD b4 b3h
  have t1 : (Q.toList == Q.toList) = true := beq_self_eq_true _
  have t2 : (U1.toList == U1.toList) = true := beq_self_eq_true _
  have t3 : ((U2 : Int) == (U2 : Int)) = true := beq_self_eq_true _
  have t4 : ((U3 : Int) == (U3 : Int)) = true := beq_self_eq_true _
  go_wp2_with fail
  refine (numbers_any _).mono ?_
  rintro e w5 ⟨rfl, rfl⟩
  go_wp2_with fail
  go_ret
  exact ⟨rfl, b4h.out⟩
end Go.Proofs.YtcjlgjlediihoaaDoor.Rw

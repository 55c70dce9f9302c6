/- The document's Unquote by its contract. -/
import Derived.Test.YtcjlgjlediihoaaDoorUq
namespace Go.Proofs.YtcjlgjlediihoaaDoor.Rw
open Go.ChangeShapes Go.WideShapes Go.ChangeAt Go.RowKit
open Go.Proofs.YtcjlgjlediihoaaDoor.Ut
open Go.Proofs.YtcjlgjlediihoaaDoor.By
set_option linter.unusedVariables false
set_option linter.unusedSimpArgs false

set_option maxRecDepth 1000000 in
theorem digit_any (c : Nat) (hc : c < 256) (w : World) : Calls Tryd.prog 60 #[.int .u8 (c : Int)] w fun e w' => e = .returned (.int .i64 (hv c : Nat)) ∧ w' = w := by
  unfold hv
  by_cases h1 : 48 ≤ c ∧ c ≤ 57
  · rw [if_pos h1]
    obtain ⟨h1, h2⟩ := h1
    go_enter Tryd.func60, Tryd.ntmps60
    go_wp2
    go_ret
    exact ⟨by first | rfl | (congr 2; omega) | (simp; omega), rfl⟩
  · rw [if_neg h1]
    by_cases h2 : 97 ≤ c ∧ c ≤ 102
    · rw [if_pos h2]
      obtain ⟨h2, h3⟩ := h2
      have h4 : ¬ (c : Int) ≤ 57 := by omega
      go_enter Tryd.func60, Tryd.ntmps60
      go_wp2
      go_ret
      exact ⟨by first | rfl | (congr 2; omega) | (simp; omega), rfl⟩
    · rw [if_neg h2]
      by_cases a1 : 48 ≤ c
      · have a2 : ¬ (c : Int) ≤ 57 := by omega
        by_cases a3 : 97 ≤ c
        · have a4 : ¬ (c : Int) ≤ 102 := by omega
          go_enter Tryd.func60, Tryd.ntmps60
          go_wp2
          go_ret
          exact ⟨rfl, rfl⟩
        · go_enter Tryd.func60, Tryd.ntmps60
          go_wp2
          go_ret
          exact ⟨rfl, rfl⟩
      · go_enter Tryd.func60, Tryd.ntmps60
        go_wp2
        go_ret
        exact ⟨rfl, rfl⟩
/-- The byte that an escape writes. -/
def e1 (l : List Int) : Int := l.getD 0 0
set_option maxRecDepth 1000000 in
set_option maxHeartbeats 1500000 in
theorem resc_any (s : ByteArray) (hs : s.size ≤ 4294967296) (p : Nat) (hp : p < s.size) (w : World) :
    Calls Tryd.prog 39 #[.string s, .int .i64 (p : Int)] w fun e w' => e = .returned (.tuple #[.int .u8 (e1 (esc s p).1), .int .i64 ((esc s p).2 : Nat)]) ∧ ∃ n, w' = w.drewN n := by
  by_cases h1 : p + 1 < s.size
  · have hi1 : (s[p + 1]'h1).toNat = bt s (p + 1) := bt_eq s (p + 1) h1
    have hb1 := bt_lt s (p + 1)
    have hE0 : esc s p = if bt s (p + 1) = 110 then ([10], 2) else if bt s (p + 1) = 116 then ([9], 2) else if bt s (p + 1) = 115 then ([32], 2) else if bt s (p + 1) = 34 then ([34], 2) else if bt s (p + 1) = 92 then ([92], 2)
        else if bt s (p + 1) = 120 ∧ p + 3 < s.size ∧ hv (bt s (p + 2)) < 16 ∧ hv (bt s (p + 3)) < 16 then ([((hv (bt s (p + 2)) * 16 + hv (bt s (p + 3)) : Nat) : Int)], 4) else ([], 0) := by
      unfold esc
      rw [if_pos h1]
    generalize esc s p = E at *
    obtain ⟨E1, E2⟩ := E
    generalize bt s (p + 1) = r at *
    have hE := hid hE0
    clear hE0
    by_cases a1 : r = 110
    · obtain ⟨rfl, rfl⟩ : E1 = [10] ∧ E2 = 2 := by
        have h := hE.out
        rw [if_pos a1] at h
        simpa using h
      have q1 : ((r : Int) == 110) = true := by simp [a1]
      have hrv := hid a1
      clear hE a1
      go_enter Tryd.func39, Tryd.ntmps39
      go_wp2_with fail
      go_ret2
      exact ⟨by first | rfl | (rw [hrv.out]; rfl), 0, rfl⟩
    · by_cases a2 : r = 116
      · obtain ⟨rfl, rfl⟩ : E1 = [9] ∧ E2 = 2 := by
          have h := hE.out
          rw [if_neg a1, if_pos a2] at h
          simpa using h
        have q2 : ((r : Int) == 116) = true := by simp [a2]
        have n1 : ((r : Int) == 110) = false := by simp; omega
        have hrv := hid a2
        clear hE a2
        go_enter Tryd.func39, Tryd.ntmps39
        go_wp2_with fail
        go_ret2
        exact ⟨by first | rfl | (rw [hrv.out]; rfl), 0, rfl⟩
      · by_cases a3 : r = 115
        · obtain ⟨rfl, rfl⟩ : E1 = [32] ∧ E2 = 2 := by
            have h := hE.out
            rw [if_neg a1, if_neg a2, if_pos a3] at h
            simpa using h
          have q3 : ((r : Int) == 115) = true := by simp [a3]
          have n1 : ((r : Int) == 110) = false := by simp; omega
          have n2 : ((r : Int) == 116) = false := by simp; omega
          have hrv := hid a3
          clear hE a3
          go_enter Tryd.func39, Tryd.ntmps39
          go_wp2_with fail
          go_ret2
          exact ⟨by first | rfl | (rw [hrv.out]; rfl), 0, rfl⟩
        · by_cases a4 : r = 34
          · obtain ⟨rfl, rfl⟩ : E1 = [34] ∧ E2 = 2 := by
              have h := hE.out
              rw [if_neg a1, if_neg a2, if_neg a3, if_pos a4] at h
              simpa using h
            have q4 : ((r : Int) == 34) = true := by simp [a4]
            have n1 : ((r : Int) == 110) = false := by simp; omega
            have n2 : ((r : Int) == 116) = false := by simp; omega
            have n3 : ((r : Int) == 115) = false := by simp; omega
            have hrv := hid a4
            clear hE a4
            go_enter Tryd.func39, Tryd.ntmps39
            go_wp2_with fail
            go_ret2
            have hrz : (r : Int) = 34 := by have := hrv.out; omega
            exact ⟨by show Ending.returned (.tuple #[.int .u8 (r : Int), .int .i64 2]) = .returned (.tuple #[.int .u8 34, .int .i64 2]); rw [hrz], 0, rfl⟩
          · by_cases a5 : r = 92
            · obtain ⟨rfl, rfl⟩ : E1 = [92] ∧ E2 = 2 := by
                have h := hE.out
                rw [if_neg a1, if_neg a2, if_neg a3, if_neg a4, if_pos a5] at h
                simpa using h
              have q5 : ((r : Int) == 92) = true := by simp [a5]
              have n1 : ((r : Int) == 110) = false := by simp; omega
              have n2 : ((r : Int) == 116) = false := by simp; omega
              have n3 : ((r : Int) == 115) = false := by simp; omega
              have n4 : ((r : Int) == 34) = false := by simp; omega
              have hrv := hid a5
              clear hE a5
              go_enter Tryd.func39, Tryd.ntmps39
              go_wp2_with fail
              go_ret2
              have hrz : (r : Int) = 92 := by have := hrv.out; omega
              exact ⟨by show Ending.returned (.tuple #[.int .u8 (r : Int), .int .i64 2]) = .returned (.tuple #[.int .u8 92, .int .i64 2]); rw [hrz], 0, rfl⟩
            · have hE2 : Hid ((E1, E2) = if r = 120 ∧ p + 3 < s.size ∧ hv (bt s (p + 2)) < 16 ∧ hv (bt s (p + 3)) < 16 then ([((hv (bt s (p + 2)) * 16 + hv (bt s (p + 3)) : Nat) : Int)], 4) else ([], 0)) := by
                show _ = _
                rw [hE.out, if_neg a1, if_neg a2, if_neg a3, if_neg a4, if_neg a5]
              have n1 : ((r : Int) == 110) = false := by simp; omega
              have n2 : ((r : Int) == 116) = false := by simp; omega
              have n3 : ((r : Int) == 115) = false := by simp; omega
              have n4 : ((r : Int) == 34) = false := by simp; omega
              have n5 : ((r : Int) == 92) = false := by simp; omega
              clear hE a1 a2 a3 a4 a5
              by_cases h120 : r = 120
              · have q6 : ((r : Int) == 120) = true := by simp [h120]
                by_cases h3 : p + 3 < s.size
                · have h2 : p + 2 < s.size := by omega
                  have hi2 : (s[p + 2]'h2).toNat = bt s (p + 2) := bt_eq s (p + 2) h2
                  have hi3 : (s[p + 3]'h3).toNat = bt s (p + 3) := bt_eq s (p + 3) h3
                  have hb2 := bt_lt s (p + 2)
                  have hb3 := bt_lt s (p + 3)
                  have hE3 : Hid ((E1, E2) = if hv (bt s (p + 2)) < 16 ∧ hv (bt s (p + 3)) < 16 then ([((hv (bt s (p + 2)) * 16 + hv (bt s (p + 3)) : Nat) : Int)], 4) else ([], 0)) := by
                    show _ = _
                    rw [hE2.out]
                    by_cases hh : hv (bt s (p + 2)) < 16 ∧ hv (bt s (p + 3)) < 16
                    · rw [if_pos ⟨h120, h3, hh⟩, if_pos hh]
                    · rw [if_neg (fun x => hh x.2.2), if_neg hh]
                  generalize bt s (p + 2) = y at *
                  generalize bt s (p + 3) = z at *
                  have DY : Hid (∀ W, Calls Tryd.prog 60 #[.int .u8 (y : Int)] W fun e w' => e = .returned (.int .i64 (hv y : Nat)) ∧ w' = W) := fun W => digit_any y hb2 W
                  have DZ : Hid (∀ W, Calls Tryd.prog 60 #[.int .u8 (z : Int)] W fun e w' => e = .returned (.int .i64 (hv z : Nat)) ∧ w' = W) := fun W => digit_any z hb3 W
                  clear hE2 h120
                  have hy16 := hv_le y
                  have hz16 := hv_le z
                  by_cases hy : hv y < 16
                  · by_cases hz : hv z < 16
                    · obtain ⟨rfl, rfl⟩ : E1 = [((hv y * 16 + hv z : Nat) : Int)] ∧ E2 = 4 := by
                        have h := hE3.out
                        rw [if_pos ⟨hy, hz⟩] at h
                        simpa using h
                      clear hE3
                      generalize hv y = a at *
                      generalize hv z = c at *
                      go_enter Tryd.func39, Tryd.ntmps39
                      go_wp2_with fail
                      refine (DY.out _).mono ?_
                      rintro e w ⟨rfl, rfl⟩
                      go_wp2_with fail
                      refine (DZ.out _).mono ?_
                      rintro e w ⟨rfl, rfl⟩
                      go_wp2_with fail
                      go_quiet (first | (go_at_call 60; with_reducible exact Calls.quiet_of_same (DY.out _)) | (go_at_call 60; with_reducible exact Calls.quiet_of_same (DZ.out _)))
                      go_wp2_with fail
                      go_ret2
                      refine ⟨?_, _, rfl⟩
                      first
                        | rfl
                        | (show Ending.returned (.tuple #[.int .u8 _, .int .i64 4]) = .returned (.tuple #[.int .u8 ((a * 16 + c : Nat) : Int), .int .i64 4]); congr 4; omega)
                        | (simp [e1]; done)
                    · obtain ⟨rfl, rfl⟩ : E1 = [] ∧ E2 = 0 := by
                        have h := hE3.out
                        rw [if_neg (fun x => hz x.2)] at h
                        simpa using h
                      clear hE3
                      go_enter Tryd.func39, Tryd.ntmps39
                      go_wp2_with fail
                      refine (DY.out _).mono ?_
                      rintro e w ⟨rfl, rfl⟩
                      go_wp2_with fail
                      refine (DZ.out _).mono ?_
                      rintro e w ⟨rfl, rfl⟩
                      clear DY DZ
                      go_wp2_with fail
                      go_ret2
                      exact ⟨rfl, 0, rfl⟩
                  · obtain ⟨rfl, rfl⟩ : E1 = [] ∧ E2 = 0 := by
                      have h := hE3.out
                      rw [if_neg (fun x => hy x.1)] at h
                      simpa using h
                    clear hE3
                    go_enter Tryd.func39, Tryd.ntmps39
                    go_wp2_with fail
                    refine (DY.out _).mono ?_
                    rintro e w ⟨rfl, rfl⟩
                    clear DY DZ
                    go_wp2_with fail
                    go_ret2
                    exact ⟨rfl, 0, rfl⟩
                · obtain ⟨rfl, rfl⟩ : E1 = [] ∧ E2 = 0 := by
                    have h := hE2.out
                    rw [if_neg (fun x => h3 x.2.1)] at h
                    simpa using h
                  clear hE2 h120
                  go_enter Tryd.func39, Tryd.ntmps39
                  go_wp2_with fail
                  go_ret2
                  exact ⟨rfl, 0, rfl⟩
              · obtain ⟨rfl, rfl⟩ : E1 = [] ∧ E2 = 0 := by
                  have h := hE2.out
                  rw [if_neg (fun x => h120 x.1)] at h
                  simpa using h
                have q6 : ((r : Int) == 120) = false := by simp; omega
                clear hE2
                go_enter Tryd.func39, Tryd.ntmps39
                go_wp2_with fail
                go_ret2
                exact ⟨rfl, 0, rfl⟩
  · have hE : esc s p = ([], 0) := by unfold esc; rw [if_neg h1]
    rw [hE]
    go_enter Tryd.func39, Tryd.ntmps39
    go_wp2_with fail
    go_ret2
    exact ⟨rfl, 0, rfl⟩
theorem rune_ext (s : ByteArray) (p e : Nat) (hp : p < s.size) (he : e ≤ s.size) (h4 : e = s.size ∨ p + 4 ≤ e) (hpe : p < e) :
    Lib.decodeN ((s.extract p e).size - 0) ((tx (s.extract p e)).getD 0 0).toNat ((tx (s.extract p e)).getD (0 + 1) 0).toNat ((tx (s.extract p e)).getD (0 + 2) 0).toNat ((tx (s.extract p e)).getD (0 + 3) 0).toNat = Utf8.decode s p := by
  have hsz := ext_size s p e he
  have hb : ∀ j, j < 4 → ((tx (s.extract p e)).getD j 0).toNat = bt s (p + j) := by
    intro j hj
    rw [tx_get, Int.toNat_natCast]
    by_cases h : p + j < e
    · exact ext_bt s p e j he h
    · rw [bt_end _ j (by omega), bt_end s (p + j) (by omega)]
  rw [hb 0 (by omega), hb (0 + 1) (by omega), hb (0 + 2) (by omega), hb (0 + 3) (by omega), dec_at]
  exact decN_min _ _ _ _ _ _ (by omega) (by omega) (by omega)
theorem Own.nil (w : World) (base : Nat) : Own w base (.slice none 0 0) [] := World.ownsRow_nil _ _ _ _
theorem size0 (s : ByteArray) (h : s.size = 0) : s = ⟨#[]⟩ := byte_ext (by rw [h]; rfl) (fun j hj => by omega)
theorem esc_one (s : ByteArray) (p : Nat) (h92 : bt s p = 92) (h : (esc s p).2 ≠ 0) : (esc s p).1 = [e1 (esc s p).1] := by
  have := (esc_spec s p h92 h).2.2.2.1
  match hq : (esc s p).1, this with
  | [x], _ => rfl
set_option maxRecDepth 1000000 in
set_option maxHeartbeats 2000000 in
theorem runquote_any (s : ByteArray) (hs : s.size ≤ 4294967296) (w : World) :
    Calls Tryd.prog 21 #[.string s] w fun e w' => e = .returned (.tuple #[.string (unq s).1, .int .i64 ((unq s).2.1 : Nat), .int .i64 ((unq s).2.2 : Nat)]) ∧ Below w.heap.size w w' := by
  have hE : Hid (unq s = if (uw s).1 = true then (if str (qt (str (uw s).2.2)) = s then (str (uw s).2.2, 0, 0) else (⟨#[]⟩, 0, 61)) else (⟨#[]⟩, (uw s).2.1, 61)) := rfl
  have hU : Hid (uw s = if 1 ≤ s.size ∧ bt s 0 = 34 then un s s.size 1 [] else (false, 0, [])) := rfl
  generalize unq s = E at *
  generalize uw s = U at *
  obtain ⟨E1, E2, E3⟩ := E
  by_cases h0 : s.size = 0
  · obtain ⟨rfl, rfl, rfl⟩ : E1 = ⟨#[]⟩ ∧ E2 = 0 ∧ E3 = 61 := by
      have h := hE.out
      have hU0 : U = (false, 0, []) := by rw [hU.out, if_neg (fun x => by omega)]
      rw [hU0, if_neg (by simp)] at h
      simpa using h
    have hs0 := size0 s h0
    subst hs0
    clear hE hU
    go_enter Tryd.func21, Tryd.ntmps21
    go_wp2_with fail
    go_ret3
    exact ⟨rfl, Below.refl _ _⟩
  · have hsn : (s.toList == ([] : List UInt8)) = false := by
      have : s.toList ≠ [] := fun h => by
        have h2 : s = ⟨#[]⟩ := toList_inj (by rw [h, ByteArray.toList_eq])
        rw [h2] at h0
        exact h0 rfl
      simpa using this
    have h1 : 0 < s.size := by omega
    have hi0 : (s[0]'h1).toNat = bt s 0 := bt_eq s 0 h1
    by_cases h34 : bt s 0 = 34
    · have hU2 : Hid (U = un s s.size 1 []) := by
        show _ = _
        rw [hU.out, if_pos ⟨h1, h34⟩]
      have q34 : (((bt s 0 : Nat) : Int) != 34) = false := by simp [h34]
      clear hU h34
      obtain ⟨U1, U2, U3⟩ := U
      go_enter Tryd.func21, Tryd.ntmps21
      go_wp2_with fail
      go_loopw [2, 3, 4, 5, 6] (fun x2 x3 x4 b i wr => ∃ (p f : Nat) (acc : List Int), x2 = .string ⟨#[]⟩ ∧ x3 = .int .i64 0 ∧ x4 = .int .i64 0 ∧ i = .int .i64 (p : Int) ∧ p ≤ s.size ∧ s.size ≤ p + f ∧ acc.length ≤ p ∧ Hid ((U1, U2, U3) = un s f p acc) ∧ Hid (Own wr w.heap.size b acc) ∧ Hid (Below w.heap.size w wr)) (fun _ _ _ _ i _ => s.size - (intOf i).toNat)
      case atStart => exact ⟨1, s.size, [], rfl, rfl, rfl, rfl, by omega, by omega, by simp, hU2.out, Own.nil _ _, Below.refl _ _⟩
      case round =>
        clear hU2 hsn hi0 q34
        obtain ⟨p, f, acc, rfl, rfl, rfl, rfl, hps, hf, hal, HU, HO, HB⟩ := hrel
        by_cases hp : p < s.size
        · have hip : (s[p]'hp).toNat = bt s p := bt_eq s p hp
          have hbp := bt_lt s p
          by_cases b34 : bt s p = 34
          · obtain ⟨rfl, rfl, rfl⟩ : U1 = decide (p + 1 = s.size) ∧ U2 = p + 1 ∧ U3 = acc := by
              have h := HU.out
              rw [un_quote s f p acc hp hf b34] at h
              simpa using h
            have q1 : (((bt s p : Nat) : Int) == 34) = true := by simp [b34]
            by_cases he : p + 1 = s.size
            · have hE2 : Hid ((E1, E2, E3) = if str (qt (str U3)) = s then (str U3, 0, 0) else (⟨#[]⟩, 0, 61)) := by
                show _ = _
                rw [hE.out, if_pos (by simp [he])]
              have hcv := HO.out.conv
              have hss : (str U3).size = U3.length := str_size _
              have HQ : Hid (∀ W, Calls Tryd.prog 23 #[.string (str U3)] W fun e w' => e = .returned (.string (str (qt (str U3)))) ∧ Below W.heap.size W w') := fun W => rquote_any (str U3) (by omega) W
              have hcvB : Hid (∀ W, Below wr.heap.size wr W → Sem.run Tryd.prog (convert 60 9 u5) W = .ok (.string (str U3)) W) := fun W bW => (HO.out.later bW).conv
              generalize qt (str U3) = Q at *
              clear hE HU hss b34 HO
              by_cases hq : str Q = s
              · obtain ⟨rfl, rfl, rfl⟩ : E1 = str U3 ∧ E2 = 0 ∧ E3 = 0 := by
                  have h := hE2.out
                  rw [if_pos hq] at h
                  simpa using h
                rw [hq] at HQ
                clear hE2 hq
                go_wp2_with fail
                refine (HQ.out _).mono ?_
                rintro e w2 ⟨rfl, b2⟩
                have b2h := hid (HB.out.trans (b2.mono HB.out.size))
                have hcv2 := hcvB.out _ b2
                clear HQ b2 hcv hcvB HB
                go_wp2_with fail
                go_ret3
                exact ⟨rfl, b2h.out⟩
              · obtain ⟨rfl, rfl, rfl⟩ : E1 = ⟨#[]⟩ ∧ E2 = 0 ∧ E3 = 61 := by
                  have h := hE2.out
                  rw [if_neg hq] at h
                  simpa using h
                have hne : ((str Q).toList == s.toList) = false := by
                  have hne0 : ¬ (str Q).toList = s.toList := fun h => hq (toList_inj h)
                  simpa using hne0
                clear hE2 hq
                go_wp2_with fail
                refine (HQ.out _).mono ?_
                rintro e w2 ⟨rfl, b2⟩
                have b2h := hid (HB.out.trans (b2.mono HB.out.size))
                clear HQ b2 hcv hcvB HB
                go_wp2_with fail
                go_ret3
                exact ⟨rfl, b2h.out⟩
            · obtain ⟨rfl, rfl, rfl⟩ : E1 = ⟨#[]⟩ ∧ E2 = p + 1 ∧ E3 = 61 := by
                have h := hE.out
                rw [if_neg (by simp [he])] at h
                simpa using h
              clear hE HU b34
              go_wp2_with fail
              go_ret3
              exact ⟨by first | rfl | (simp; done), HB.out⟩
          · have q1 : (((bt s p : Nat) : Int) == 34) = false := by simp; omega
            by_cases b92 : bt s p = 92
            · have q2 : (((bt s p : Nat) : Int) == 92) = true := by simp [b92]
              have hrd : rd s p = esc s p := by unfold rd; rw [if_pos b92]
              have HX := hid (resc_any s hs p hp wr)
              by_cases hz : (esc s p).2 = 0
              · obtain ⟨rfl, rfl, rfl⟩ : U1 = false ∧ p = U2 ∧ U3 = [] := by
                  have h := HU.out
                  rw [un_bad s f p acc hp hf b34 (by rw [hrd]; exact hz)] at h
                  simp at h
                  exact ⟨h.1, h.2.1.symm, h.2.2⟩
                obtain ⟨rfl, rfl, rfl⟩ : E1 = ⟨#[]⟩ ∧ p = E2 ∧ E3 = 61 := by
                  have h := hE.out
                  rw [if_neg (by simp)] at h
                  simp at h
                  exact ⟨h.1, h.2.1.symm, h.2.2⟩
                have hzz : (((esc s p).2 : Int) == 0) = true := by simp; omega
                generalize hxx : esc s p = X at *
                clear hxx
                clear hE HU b34 b92 hrd hz HO
                go_wp2_with fail
                refine HX.out.mono ?_
                rintro e w2 ⟨rfl, n2, rfl⟩
                clear HX
                go_wp2_with fail
                go_ret3
                exact ⟨rfl, below_drewN HB.out _⟩
              · have hsp := esc_spec s p b92 hz
                have h1e := esc_one s p b92 hz
                have HU2 : Hid ((U1, U2, U3) = un s (f - 1) (p + (esc s p).2) (acc ++ [e1 (esc s p).1])) := by
                  show _ = _
                  rw [HU.out, un_step s f p acc hp hf b34 (by rw [hrd]; exact hz), hrd, ← h1e]
                have hzz : (((esc s p).2 : Int) == 0) = false := by simp; omega
                generalize hxx : esc s p = X at *
                clear hxx
                obtain ⟨X1, X2⟩ := X
                have hX2 : 2 ≤ X2 := hsp.1
                have hX3 : p + X2 ≤ s.size := hsp.2.1
                generalize e1 X1 = y at *
                have hAP : Hid (∀ n, ∃ v' w', (Builtin.append_ #[60, 60] 60 #[u5, .slice (some ⟨wr.heap.size, 0, none⟩) 1 1]).run Tryd.prog ((wr.drewN n).alloc (.cells #[.int .u8 y] 5)) = .ok v' w' ∧ Own w' w.heap.size v' (acc ++ [y]) ∧ Below w.heap.size w w') := fun n => by
                  have b2 := drewN_below wr n
                  have bb : Below wr.heap.size wr ((wr.drewN n).alloc (.cells #[.int .u8 y] 5)) := b2.alloc b2.size _
                  have hO3 := HO.out.later bb
                  have hB3 := HB.out.trans (bb.mono HB.out.size)
                  obtain ⟨v4, w4, r4, O4, g4⟩ := app_built _ w.heap.size u5 acc [y] wr.heap.size 1 hO3 rfl (fun i hi => by
                    have : i = 0 := by omega
                    subst this
                    exact cell_one2 _ _ n) (by omega) hB3.size
                  exact ⟨v4, w4, r4, O4, hB3.trans (Gr.grown hO3 g4 hB3.size).1⟩
                clear hE HU b34 b92 hrd hz hsp h1e HO HB
                go_wp2_with fail
                refine HX.out.mono ?_
                rintro e w2 ⟨rfl, n2, rfl⟩
                obtain ⟨v4, w4, r4, O4, B4⟩ := hAP.out n2
                have r4h := hid r4
                have O4h := hid O4
                have B4h := hid B4
                clear HX hAP r4 O4 B4
                go_wp2_with (at_builtin; refine wpList_append_run rfl _ _ 60 60 rfl _ _ _ rfl rfl r4h.out ?_)
                clear r4h
                go_wp2_with fail
                go_roundw
                case rel => exact ⟨p + X2, f - 1, acc ++ [y], rfl, rfl, rfl, by go_num, hX3, by omega, by rw [List.length_append, List.length_singleton]; omega, HU2.out, O4h.out, B4h.out⟩
                case measure => simp [intOf]; omega
            · have q2 : (((bt s p : Nat) : Int) == 92) = false := by simp; omega
              have hw := dec_wd s p hp
              have hEx : ∃ e : Nat, e ≤ s.size ∧ p < e ∧ (e = s.size ∧ s.size < p + 4 ∨ e = p + 4 ∧ ¬ s.size < p + 4) := by
                by_cases h : s.size < p + 4
                · exact ⟨s.size, by omega, by omega, .inl ⟨rfl, h⟩⟩
                · exact ⟨p + 4, by omega, by omega, .inr ⟨rfl, h⟩⟩
              obtain ⟨e, he1, he2, he3⟩ := hEx
              have hdd := rune_ext s p e hp he1 (by omega) he2
              obtain ⟨W1, cap, run1, BY1, b1⟩ := conv_bytes (s.extract p e) wr
              have HR0 := rune_any (some ⟨wr.heap.size, 0, none⟩) (s.extract p e).size cap (tx (s.extract p e)) 0 W1 BY1 (by rw [ext_size s p e he1]; omega) (by rw [ext_size s p e he1]; omega)
              rw [hdd] at HR0
              generalize (s.extract p e).size = n at HR0 run1
              have HR := hid HR0
              have run1h := hid run1
              have B2 := hid (HB.out.trans (b1.mono HB.out.size))
              have O2 := hid (HO.out.later b1)
              clear HR0 BY1 b1 hdd run1
              by_cases hst : Utf8.decode s p = (65533, 1)
              · have hrd : (rd s p).2 = 0 := by unfold rd; rw [if_neg b92, if_pos (.inl hst)]
                obtain ⟨rfl, rfl, rfl⟩ : U1 = false ∧ p = U2 ∧ U3 = [] := by
                  have h := HU.out
                  rw [un_bad s f p acc hp hf b34 hrd] at h
                  simp at h
                  exact ⟨h.1, h.2.1.symm, h.2.2⟩
                obtain ⟨rfl, rfl, rfl⟩ : E1 = ⟨#[]⟩ ∧ p = E2 ∧ E3 = 61 := by
                  have h := hE.out
                  rw [if_neg (by simp)] at h
                  simp at h
                  exact ⟨h.1, h.2.1.symm, h.2.2⟩
                rw [hst] at HR
                have hrr : rn (65533, 1) = (0, 0) := rfl
                rw [hrr] at HR
                clear hE HU b34 b92 hrd hst HO O2 HB hrr hw
                rcases he3 with ⟨rfl, he3⟩ | ⟨rfl, he3⟩
                · have run2 := run1h.out
                  clear run1h
                  go_wp2_with fail
                  refine HR.out.mono ?_
                  rintro e w1 ⟨rfl, rfl⟩
                  clear HR run2
                  go_wp2_with fail
                  go_ret3
                  exact ⟨rfl, B2.out⟩
                · have run2 := run1h.out
                  clear run1h
                  go_wp2_with fail
                  refine HR.out.mono ?_
                  rintro e w1 ⟨rfl, rfl⟩
                  clear HR run2
                  go_wp2_with fail
                  go_ret3
                  exact ⟨rfl, B2.out⟩
              · have hrn : rn (Utf8.decode s p) = Utf8.decode s p := by unfold rn; rw [if_neg hst]
                rw [hrn] at HR
                have HPL := fun W => rplain_any (Utf8.decode s p).1 W
                cases hpl : plain (Utf8.decode s p).1 with
                | false =>
                  have hrd : (rd s p).2 = 0 := by unfold rd; rw [if_neg b92, if_pos (.inr hpl)]
                  obtain ⟨rfl, rfl, rfl⟩ : U1 = false ∧ p = U2 ∧ U3 = [] := by
                    have h := HU.out
                    rw [un_bad s f p acc hp hf b34 hrd] at h
                    simp at h
                    exact ⟨h.1, h.2.1.symm, h.2.2⟩
                  obtain ⟨rfl, rfl, rfl⟩ : E1 = ⟨#[]⟩ ∧ p = E2 ∧ E3 = 61 := by
                    have h := hE.out
                    rw [if_neg (by simp)] at h
                    simp at h
                    exact ⟨h.1, h.2.1.symm, h.2.2⟩
                  rw [hpl] at HPL
                  have HPLh := hid HPL
                  generalize hdx : Utf8.decode s p = d at HR HPLh hw
                  clear hdx HPL
                  obtain ⟨r, wd⟩ := d
                  have hw1 : 1 ≤ wd := hw.1
                  have hz : ((wd : Int) == 0) = false := by simp; omega
                  clear hE HU b34 b92 hrd hst HO O2 HB hrn hw hpl
                  rcases he3 with ⟨rfl, he3⟩ | ⟨rfl, he3⟩
                  · have run2 := run1h.out
                    clear run1h
                    go_wp2_with fail
                    refine HR.out.mono ?_
                    rintro e w1 ⟨rfl, rfl⟩
                    clear HR run2
                    go_wp2_with fail
                    refine (HPLh.out _).mono ?_
                    rintro e w1 ⟨rfl, rfl⟩
                    clear HPLh
                    go_wp2_with fail
                    go_ret3
                    exact ⟨rfl, B2.out⟩
                  · have run2 := run1h.out
                    clear run1h
                    go_wp2_with fail
                    refine HR.out.mono ?_
                    rintro e w1 ⟨rfl, rfl⟩
                    clear HR run2
                    go_wp2_with fail
                    refine (HPLh.out _).mono ?_
                    rintro e w1 ⟨rfl, rfl⟩
                    clear HPLh
                    go_wp2_with fail
                    go_ret3
                    exact ⟨rfl, B2.out⟩
                | true =>
                  have hrd : rd s p = (tx (s.extract p (p + (Utf8.decode s p).2)), (Utf8.decode s p).2) := by
                    unfold rd
                    rw [if_neg b92, if_neg (fun h => by rcases h with h | h; exact hst h; rw [hpl] at h; simp at h)]
                  have HU2 : Hid ((U1, U2, U3) = un s (f - 1) (p + (Utf8.decode s p).2) (acc ++ tx (s.extract p (p + (Utf8.decode s p).2)))) := by
                    show _ = _
                    rw [HU.out, un_step s f p acc hp hf b34 (by rw [hrd]; show (Utf8.decode s p).2 ≠ 0; omega), hrd]
                  rw [hpl] at HPL
                  have HPLh := hid HPL
                  generalize hdx : Utf8.decode s p = d at HR HPLh hw HU2
                  clear hdx HPL
                  obtain ⟨r, wd⟩ := d
                  have hw1 : 1 ≤ wd := hw.1
                  have hw2 : p + wd ≤ s.size := hw.2.1
                  have hz : ((wd : Int) == 0) = false := by simp; omega
                  have hxz := ext_size s p (p + wd) hw2
                  obtain ⟨v4, w4, r4, O4, g4⟩ := app_text W1 w.heap.size u5 acc (s.extract p (p + wd)) O2.out (by rw [hxz]; omega) B2.out.size
                  have O4h := hid O4
                  have r4h := hid r4
                  have B4h := hid (B2.out.trans (Gr.grown O2.out g4 B2.out.size).1)
                  have htl : (tx (s.extract p (p + wd))).length = wd := by rw [tx_len, hxz]; omega
                  clear hE HU b34 b92 hrd hst HO HB hrn hw hpl O4 r4 g4 hxz O2 B2
                  rcases he3 with ⟨rfl, he3⟩ | ⟨rfl, he3⟩
                  · have run2 := run1h.out
                    clear run1h
                    go_wp2_with fail
                    refine HR.out.mono ?_
                    rintro e w1 ⟨rfl, rfl⟩
                    clear HR run2
                    go_wp2_with fail
                    refine (HPLh.out _).mono ?_
                    rintro e w1 ⟨rfl, rfl⟩
                    clear HPLh
                    go_wp2_with (at_builtin; refine wpList_append_run rfl _ _ 60 9 rfl _ _ _ rfl rfl r4h.out ?_)
                    clear r4h
                    go_wp2_with fail
                    go_roundw
                    case rel => exact ⟨p + wd, f - 1, acc ++ tx (s.extract p (p + wd)), rfl, rfl, rfl, by go_num, hw2, by omega, by rw [List.length_append, htl]; omega, HU2.out, O4h.out, B4h.out⟩
                    case measure => simp [intOf]; omega
                  · have run2 := run1h.out
                    clear run1h
                    go_wp2_with fail
                    refine HR.out.mono ?_
                    rintro e w1 ⟨rfl, rfl⟩
                    clear HR run2
                    go_wp2_with fail
                    refine (HPLh.out _).mono ?_
                    rintro e w1 ⟨rfl, rfl⟩
                    clear HPLh
                    go_wp2_with (at_builtin; refine wpList_append_run rfl _ _ 60 9 rfl _ _ _ rfl rfl r4h.out ?_)
                    clear r4h
                    go_wp2_with fail
                    go_roundw
                    case rel => exact ⟨p + wd, f - 1, acc ++ tx (s.extract p (p + wd)), rfl, rfl, rfl, by go_num, hw2, by omega, by rw [List.length_append, htl]; omega, HU2.out, O4h.out, B4h.out⟩
                    case measure => simp [intOf]; omega
        · obtain ⟨rfl, rfl, rfl⟩ : U1 = false ∧ U2 = s.size ∧ U3 = [] := by
            have h := HU.out
            rw [un_end s f p acc (by omega)] at h
            simpa using h
          obtain ⟨rfl, rfl, rfl⟩ : E1 = ⟨#[]⟩ ∧ E2 = s.size ∧ E3 = 61 := by
            have h := hE.out
            rw [if_neg (by simp)] at h
            simpa using h
          clear hE HU HO
          go_wp2_with fail
          go_ret3
          exact ⟨rfl, HB.out⟩
    · obtain ⟨rfl, rfl, rfl⟩ : E1 = ⟨#[]⟩ ∧ E2 = 0 ∧ E3 = 61 := by
        have h := hE.out
        have hU0 : U = (false, 0, []) := by rw [hU.out, if_neg (fun x => h34 x.2)]
        rw [hU0, if_neg (by simp)] at h
        simpa using h
      have q34 : (((bt s 0 : Nat) : Int) != 34) = true := by simp; omega
      clear hE hU h34
      go_enter Tryd.func21, Tryd.ntmps21
      go_wp2_with fail
      go_ret3
      exact ⟨rfl, Below.refl _ _⟩
end Go.Proofs.YtcjlgjlediihoaaDoor.Rw

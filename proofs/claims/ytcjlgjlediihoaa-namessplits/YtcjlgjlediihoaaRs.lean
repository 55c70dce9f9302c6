/- A line's words by the document. -/
import Derived.Test.YtcjlgjlediihoaaSt
namespace Go.Proofs.Ytcjlgjlediihoaa.Rw
open Go.ChangeShapes Go.WideShapes Go.ChangeAt Go.RowKit
open Go.Proofs.Ytcjlgjlediihoaa.Ut
open Go.Proofs.Ytcjlgjlediihoaa.Sp
open Go.Proofs.Ytcjlgjlediihoaa.By
set_option linter.unusedVariables false
set_option linter.unusedSimpArgs false

section
variable (s : ByteArray) (i b : Nat) (out : List ByteArray)
theorem b_forb (o : Int) (q c : Bool) (hi : i < s.size) (h : forb (bt s i) = true) : spB s i o q c out = ([], i, 61) := by rw [spB, if_pos hi, if_pos (.inl h)]
theorem b_s0_blank (hi : i < s.size) (h : bt s i = 32) : spB s i (-1) false false out = spB s (i + 1) (-1) false false out := by
  rw [spB, if_pos hi, if_neg (by rw [h]; simp [forb]), if_pos ⟨h, rfl⟩, if_pos (by omega)]
theorem b_s0 (hi : i < s.size) (h : bt s i ≠ 32) (hf : forb (bt s i) = false) : spB s i (-1) false false out = spB s (i + 1) i (bt s i == 34) false out := by
  rw [spB, if_pos hi, if_neg (by rw [hf]; simp), if_neg (fun x => h x.1), if_pos (by omega)]
theorem b_app (c : Bool) (hi : i < s.size) (h : bt s i = 32) : spB s i b false c out = spB s (i + 1) (-1) false false (out ++ [s.extract b i]) := by
  rw [spB, if_pos hi, if_neg (by rw [h]; simp [forb]), if_pos ⟨h, rfl⟩, if_neg (by omega)]
  simp
theorem b_s1 (hi : i < s.size) (h : bt s i ≠ 32) (hf : forb (bt s i) = false) : spB s i b false false out = spB s (i + 1) b false false out := by
  rw [spB, if_pos hi, if_neg (by rw [hf]; simp), if_neg (fun x => h x.1), if_neg (by omega), if_neg (by simp), if_neg (by simp)]
theorem b_esc_bad (hi : i < s.size) (h : bt s i = 92) (h1 : i + 1 < s.size) (hf : forb (bt s (i + 1)) = true) : spB s i b true false out = ([], i + 1, 61) := by
  rw [spB, if_pos hi, if_neg (by rw [h]; simp [forb]), if_neg (by simp), if_neg (by omega), if_pos ⟨rfl, h⟩, if_pos ⟨h1, hf⟩]
theorem b_esc (hi : i < s.size) (h : bt s i = 92) (h1 : ¬ (i + 1 < s.size ∧ forb (bt s (i + 1)) = true)) : spB s i b true false out = spB s (i + 2) b true false out := by
  rw [spB, if_pos hi, if_neg (by rw [h]; simp [forb]), if_neg (by simp), if_neg (by omega), if_pos ⟨rfl, h⟩, if_neg h1]
theorem b_close (hi : i < s.size) (h : bt s i = 34) : spB s i b true false out = spB s (i + 1) b false true out := by
  rw [spB, if_pos hi, if_neg (by rw [h]; simp [forb]), if_neg (by simp), if_neg (by omega), if_neg (by rw [h]; simp), if_pos ⟨rfl, h⟩]
theorem b_s2 (hi : i < s.size) (h1 : bt s i ≠ 92) (h2 : bt s i ≠ 34) (hf : forb (bt s i) = false) : spB s i b true false out = spB s (i + 1) b true false out := by
  rw [spB, if_pos hi, if_neg (by rw [hf]; simp), if_neg (by simp), if_neg (by omega), if_neg (fun x => h1 x.2), if_neg (fun x => h2 x.2)]
theorem b_bad (hi : i < s.size) (h : bt s i ≠ 32) : spB s i b false true out = ([], i, 61) := by rw [spB, if_pos hi, if_pos (.inr ⟨rfl, h⟩)]
theorem b_end0 (hi : ¬ i < s.size) : spB s i (-1) false false out = (out, 0, 0) := by rw [spB, if_neg hi, if_neg (by simp), if_pos (by omega)]
theorem b_end1 (c : Bool) (hi : ¬ i < s.size) : spB s i b false c out = (out ++ [s.extract b s.size], 0, 0) := by
  rw [spB, if_neg hi, if_neg (by simp), if_neg (by omega)]
  simp
theorem b_end2 (hi : ¬ i < s.size) : spB s i b true false out = ([], b, 61) := by
  rw [spB, if_neg hi, if_pos rfl]
  simp
end
/-- What holds of the document's four states. -/
inductive Stt (n k : Nat) : Int → Bool → Bool → Prop
  | s0 : Stt n k (-1) false false
  | s1 (b : Nat) (h : b ≤ n) (h' : b ≤ k) : Stt n k b false false
  | s2 (b : Nat) (h : b ≤ n) (h' : b ≤ k) : Stt n k b true false
  | s3 (b : Nat) (h : b ≤ n) (h' : b ≤ k) : Stt n k b false true

set_option maxRecDepth 1000000 in
set_option maxHeartbeats 8000000 in
theorem rsplit_any (s : ByteArray) (hs : s.size ≤ 1099511627776) (w : World) :
    Calls Try.prog 5 #[.string s] w fun e w' => ∃ v, e = .returned (.tuple #[v, .int .i64 ((spB s 0 (-1) false false []).2.1 : Nat), .int .i64 ((spB s 0 (-1) false false []).2.2 : Nat)]) ∧ Ws w' w.heap.size v (spB s 0 (-1) false false []).1 ∧ Below w.heap.size w w' := by
  have HE : ∃ A : Ans, Hid (A = spB s 0 (-1) false false []) := ⟨_, rfl⟩
  obtain ⟨A, HE⟩ := HE
  rw [← HE.out]
  obtain ⟨A1, A2, A3⟩ := A
  go_enter Try.func5, Try.ntmps5
  go_wp2_with fail
  go_loopw [2, 3, 4, 5, 6, 7, 8, 9] (fun x2 x3 x4 v o q c i w' => ∃ (k : Nat) (oo : Int) (qq cc : Bool) (ws : List ByteArray), x2 = .slice none 0 0 ∧ x3 = .int .i64 0 ∧ x4 = .int .i64 0 ∧ o = .int .i64 oo ∧ q = .bool qq ∧ c = .bool cc ∧ i = .int .i64 (k : Int) ∧ k ≤ s.size + 1 ∧ ws.length ≤ k ∧ Stt s.size k oo qq cc ∧ Hid ((A1, A2, A3) = spB s k oo qq cc ws) ∧ Hid (Ws w' w.heap.size v ws) ∧ Hid (Below w.heap.size w w')) (fun _ _ _ _ _ _ _ i _ => s.size + 1 - (intOf i).toNat)
  case atStart => exact ⟨0, -1, false, false, [], rfl, rfl, rfl, rfl, rfl, rfl, rfl, by omega, by simp, .s0, HE.out, Ws.nil _ _, Below.refl _ _⟩
  case round =>
    obtain ⟨i, o, q, c, ws, rfl, rfl, rfl, rfl, rfl, rfl, rfl, hik, hws, hst, hA, hW, hB⟩ := hrel
    clear HE
    by_cases hlt : i < s.size
    · have hi : (s[i]'hlt).toNat = bt s i := bt_eq s i hlt
      have hbt := bt_lt s i
      cases hst with
      | s0 =>
        by_cases f1 : bt s i < 32
        · obtain ⟨rfl, rfl, rfl⟩ : A1 = [] ∧ A2 = i ∧ A3 = 61 := by
            have h := hA.out
            rw [b_forb s i ws _ _ _ hlt (by simp [forb]; omega)] at h
            simpa using h
          clear hA
          go_wp2_with fail
          go_ret3
          exact ⟨_, by first | rfl | go_num, Ws.nil _ _, hB.out⟩
        · by_cases f2 : bt s i = 127
          · obtain ⟨rfl, rfl, rfl⟩ : A1 = [] ∧ A2 = i ∧ A3 = 61 := by
              have h := hA.out
              rw [b_forb s i ws _ _ _ hlt (by simp [forb]; omega)] at h
              simpa using h
            clear hA
            go_wp2_with fail
            go_ret3
            exact ⟨_, by first | rfl | go_num, Ws.nil _ _, hB.out⟩
          · have hfb : forb (bt s i) = false := by simp [forb]; omega
            have hfb := hid hfb
            have n1 : ¬ (((bt s i : Nat) : Int) < 32) := by omega
            have n2 : (((bt s i : Nat) : Int) == 127) = false := by simp; omega
            by_cases f3 : bt s i = 32
            · have hA2 : Hid ((A1, A2, A3) = spB s (i + 1) (-1) false false ws) := by
                show _ = _
                rw [hA.out, b_s0_blank s i ws hlt f3]
              clear hA
              go_wp2_with fail
              go_roundw
              case rel => exact ⟨i + 1, (-1), _, _, ws, rfl, rfl, rfl, rfl, rfl, rfl, by go_num, by omega, by omega, .s0, hA2.out, hW.out, hB.out⟩
              case measure => simp [intOf]; omega
            · have n3 : (((bt s i : Nat) : Int) == 32) = false := by simp; omega
              by_cases f4 : bt s i = 34
              · have e34 : (bt s i == 34) = true := by simp [f4]
                have hA2 : Hid ((A1, A2, A3) = spB s (i + 1) (i : Int) true false ws) := by
                  show _ = _
                  rw [hA.out, b_s0 s i ws hlt f3 hfb.out, e34]
                clear hA
                go_wp2_with fail
                go_roundw
                case rel => exact ⟨i + 1, (i : Int), _, _, ws, rfl, rfl, rfl, rfl, rfl, rfl, by go_num, by omega, by omega, .s2 i (by omega) (by omega), hA2.out, hW.out, hB.out⟩
                case measure => simp [intOf]; omega
              · have e34 : (bt s i == 34) = false := by simp [f4]
                have e34 := hid e34
                have z34 : (((bt s i : Nat) : Int) == 34) = false := by simp; omega
                have hA2 : Hid ((A1, A2, A3) = spB s (i + 1) (i : Int) false false ws) := by
                  show _ = _
                  rw [hA.out, b_s0 s i ws hlt f3 hfb.out, e34.out]
                clear hA
                go_wp2_with fail
                go_roundw
                case rel => exact ⟨i + 1, (i : Int), _, _, ws, rfl, rfl, rfl, rfl, rfl, rfl, by go_num, by omega, by omega, .s1 i (by omega) (by omega), hA2.out, hW.out, hB.out⟩
                case measure => simp [intOf]; omega
      | s1 b hb hbi =>
        by_cases f1 : bt s i < 32
        · obtain ⟨rfl, rfl, rfl⟩ : A1 = [] ∧ A2 = i ∧ A3 = 61 := by
            have h := hA.out
            rw [b_forb s i ws _ _ _ hlt (by simp [forb]; omega)] at h
            simpa using h
          clear hA
          go_wp2_with fail
          go_ret3
          exact ⟨_, by first | rfl | go_num, Ws.nil _ _, hB.out⟩
        · by_cases f2 : bt s i = 127
          · obtain ⟨rfl, rfl, rfl⟩ : A1 = [] ∧ A2 = i ∧ A3 = 61 := by
              have h := hA.out
              rw [b_forb s i ws _ _ _ hlt (by simp [forb]; omega)] at h
              simpa using h
            clear hA
            go_wp2_with fail
            go_ret3
            exact ⟨_, by first | rfl | go_num, Ws.nil _ _, hB.out⟩
          · have hfb : forb (bt s i) = false := by simp [forb]; omega
            have hfb := hid hfb
            have n1 : ¬ (((bt s i : Nat) : Int) < 32) := by omega
            have n2 : (((bt s i : Nat) : Int) == 127) = false := by simp; omega
            by_cases f3 : bt s i = 32
            · have hA2 : Hid ((A1, A2, A3) = spB s (i + 1) (-1) false false (ws ++ [s.extract b i])) := by
                show _ = _
                rw [hA.out, b_app s i b ws _ hlt f3]
              clear hA
              have hW3 : Ws (wr.alloc (.cells #[.string (s.extract b i)] 9)) w.heap.size u5 ws := hW.out.below (box_below _ _)
              have hB3 : Below w.heap.size w (wr.alloc (.cells #[.string (s.extract b i)] 9)) := hB.out.alloc hB.out.size _
              obtain ⟨v4, w4, r4, W4, g4⟩ := app_str _ w.heap.size u5 ws (s.extract b i) wr.heap.size hW3 (new_cell _ _ _ rfl) (by omega) hB3.size
              have r4 := hid r4
              have W4 := hid W4
              have B4 := hid (hB3.grown g4 hB3.size (fun k hk => (hW3.lt k hk).1))
              clear hW3 hB3 g4 hW hB
              go_wp2_with (at_builtin; refine wpList_append_run rfl _ _ 22 22 rfl _ _ _ rfl rfl r4.out ?_)
              clear r4
              go_wp2_with fail
              go_roundw
              case rel => exact ⟨i + 1, -1, _, _, ws ++ [s.extract b i], rfl, rfl, rfl, rfl, rfl, rfl, by go_num, by omega, by rw [List.length_append, List.length_singleton]; omega, .s0, hA2.out, W4.out, B4.out⟩
              case measure => simp [intOf]; omega
            · have n3 : (((bt s i : Nat) : Int) == 32) = false := by simp; omega
              have hA2 : Hid ((A1, A2, A3) = spB s (i + 1) (b : Int) false false ws) := by
                show _ = _
                rw [hA.out, b_s1 s i b ws hlt f3 hfb.out]
              clear hA
              go_wp2_with fail
              go_roundw
              case rel => exact ⟨i + 1, (b : Int), _, _, ws, rfl, rfl, rfl, rfl, rfl, rfl, by go_num, by omega, by omega, .s1 b hb (by omega), hA2.out, hW.out, hB.out⟩
              case measure => simp [intOf]; omega
      | s2 b hb hbi =>
        by_cases f1 : bt s i < 32
        · obtain ⟨rfl, rfl, rfl⟩ : A1 = [] ∧ A2 = i ∧ A3 = 61 := by
            have h := hA.out
            rw [b_forb s i ws _ _ _ hlt (by simp [forb]; omega)] at h
            simpa using h
          clear hA
          go_wp2_with fail
          go_ret3
          exact ⟨_, by first | rfl | go_num, Ws.nil _ _, hB.out⟩
        · by_cases f2 : bt s i = 127
          · obtain ⟨rfl, rfl, rfl⟩ : A1 = [] ∧ A2 = i ∧ A3 = 61 := by
              have h := hA.out
              rw [b_forb s i ws _ _ _ hlt (by simp [forb]; omega)] at h
              simpa using h
            clear hA
            go_wp2_with fail
            go_ret3
            exact ⟨_, by first | rfl | go_num, Ws.nil _ _, hB.out⟩
          · have hfb : forb (bt s i) = false := by simp [forb]; omega
            have hfb := hid hfb
            have n1 : ¬ (((bt s i : Nat) : Int) < 32) := by omega
            have n2 : (((bt s i : Nat) : Int) == 127) = false := by simp; omega
            by_cases f3 : bt s i = 92
            · by_cases g1 : i + 1 < s.size
              · have hj : (s[i + 1]'g1).toNat = bt s (i + 1) := bt_eq s (i + 1) g1
                have hbt1 := bt_lt s (i + 1)
                by_cases g2 : bt s (i + 1) < 32
                · obtain ⟨rfl, rfl, rfl⟩ : A1 = [] ∧ A2 = i + 1 ∧ A3 = 61 := by
                    have h := hA.out
                    rw [b_esc_bad s i b ws hlt f3 g1 (by simp [forb]; omega)] at h
                    simpa using h
                  clear hA
                  go_wp2_with fail
                  go_ret3
                  exact ⟨_, by first | rfl | go_num, Ws.nil _ _, hB.out⟩
                · by_cases g3 : bt s (i + 1) = 127
                  · obtain ⟨rfl, rfl, rfl⟩ : A1 = [] ∧ A2 = i + 1 ∧ A3 = 61 := by
                      have h := hA.out
                      rw [b_esc_bad s i b ws hlt f3 g1 (by simp [forb]; omega)] at h
                      simpa using h
                    clear hA
                    go_wp2_with fail
                    go_ret3
                    exact ⟨_, by first | rfl | go_num, Ws.nil _ _, hB.out⟩
                  · have m1 : ¬ (((bt s (i + 1) : Nat) : Int) < 32) := by omega
                    have m2 : (((bt s (i + 1) : Nat) : Int) == 127) = false := by simp; omega
                    have hA2 : Hid ((A1, A2, A3) = spB s (i + 2) (b : Int) true false ws) := by
                      show _ = _
                      rw [hA.out, b_esc s i b ws hlt f3 (by simp [forb]; omega)]
                    clear hA
                    go_wp2_with fail
                    go_roundw
                    case rel => exact ⟨i + 2, (b : Int), _, _, ws, rfl, rfl, rfl, rfl, rfl, rfl, by go_num, by omega, by omega, .s2 b hb (by omega), hA2.out, hW.out, hB.out⟩
                    case measure => simp [intOf]; omega
              · have hA2 : Hid ((A1, A2, A3) = spB s (i + 2) (b : Int) true false ws) := by
                  show _ = _
                  rw [hA.out, b_esc s i b ws hlt f3 (fun h => g1 h.1)]
                clear hA
                go_wp2_with fail
                go_roundw
                case rel => exact ⟨i + 2, (b : Int), _, _, ws, rfl, rfl, rfl, rfl, rfl, rfl, by go_num, by omega, by omega, .s2 b hb (by omega), hA2.out, hW.out, hB.out⟩
                case measure => simp [intOf]; omega
            · by_cases f4 : bt s i = 34
              · have hA2 : Hid ((A1, A2, A3) = spB s (i + 1) (b : Int) false true ws) := by
                  show _ = _
                  rw [hA.out, b_close s i b ws hlt f4]
                clear hA
                go_wp2_with fail
                go_roundw
                case rel => exact ⟨i + 1, (b : Int), _, _, ws, rfl, rfl, rfl, rfl, rfl, rfl, by go_num, by omega, by omega, .s3 b hb (by omega), hA2.out, hW.out, hB.out⟩
                case measure => simp [intOf]; omega
              · have n4 : (((bt s i : Nat) : Int) == 92) = false := by simp; omega
                have n5 : (((bt s i : Nat) : Int) == 34) = false := by simp; omega
                by_cases f5 : bt s i = 32
                · have hA2 : Hid ((A1, A2, A3) = spB s (i + 1) (b : Int) true false ws) := by
                    show _ = _
                    rw [hA.out, b_s2 s i b ws hlt f3 f4 hfb.out]
                  clear hA
                  go_wp2_with fail
                  go_roundw
                  case rel => exact ⟨i + 1, (b : Int), _, _, ws, rfl, rfl, rfl, rfl, rfl, rfl, by go_num, by omega, by omega, .s2 b hb (by omega), hA2.out, hW.out, hB.out⟩
                  case measure => simp [intOf]; omega
                · have n3 : (((bt s i : Nat) : Int) == 32) = false := by simp; omega
                  have hA2 : Hid ((A1, A2, A3) = spB s (i + 1) (b : Int) true false ws) := by
                    show _ = _
                    rw [hA.out, b_s2 s i b ws hlt f3 f4 hfb.out]
                  clear hA
                  go_wp2_with fail
                  go_roundw
                  case rel => exact ⟨i + 1, (b : Int), _, _, ws, rfl, rfl, rfl, rfl, rfl, rfl, by go_num, by omega, by omega, .s2 b hb (by omega), hA2.out, hW.out, hB.out⟩
                  case measure => simp [intOf]; omega
      | s3 b hb hbi =>
        by_cases f1 : bt s i < 32
        · obtain ⟨rfl, rfl, rfl⟩ : A1 = [] ∧ A2 = i ∧ A3 = 61 := by
            have h := hA.out
            rw [b_forb s i ws _ _ _ hlt (by simp [forb]; omega)] at h
            simpa using h
          clear hA
          go_wp2_with fail
          go_ret3
          exact ⟨_, by first | rfl | go_num, Ws.nil _ _, hB.out⟩
        · by_cases f2 : bt s i = 127
          · obtain ⟨rfl, rfl, rfl⟩ : A1 = [] ∧ A2 = i ∧ A3 = 61 := by
              have h := hA.out
              rw [b_forb s i ws _ _ _ hlt (by simp [forb]; omega)] at h
              simpa using h
            clear hA
            go_wp2_with fail
            go_ret3
            exact ⟨_, by first | rfl | go_num, Ws.nil _ _, hB.out⟩
          · have hfb : forb (bt s i) = false := by simp [forb]; omega
            have hfb := hid hfb
            have n1 : ¬ (((bt s i : Nat) : Int) < 32) := by omega
            have n2 : (((bt s i : Nat) : Int) == 127) = false := by simp; omega
            by_cases f3 : bt s i = 32
            · have hA2 : Hid ((A1, A2, A3) = spB s (i + 1) (-1) false false (ws ++ [s.extract b i])) := by
                show _ = _
                rw [hA.out, b_app s i b ws _ hlt f3]
              clear hA
              have hW3 : Ws (wr.alloc (.cells #[.string (s.extract b i)] 9)) w.heap.size u5 ws := hW.out.below (box_below _ _)
              have hB3 : Below w.heap.size w (wr.alloc (.cells #[.string (s.extract b i)] 9)) := hB.out.alloc hB.out.size _
              obtain ⟨v4, w4, r4, W4, g4⟩ := app_str _ w.heap.size u5 ws (s.extract b i) wr.heap.size hW3 (new_cell _ _ _ rfl) (by omega) hB3.size
              have r4 := hid r4
              have W4 := hid W4
              have B4 := hid (hB3.grown g4 hB3.size (fun k hk => (hW3.lt k hk).1))
              clear hW3 hB3 g4 hW hB
              go_wp2_with (at_builtin; refine wpList_append_run rfl _ _ 22 22 rfl _ _ _ rfl rfl r4.out ?_)
              clear r4
              go_wp2_with fail
              go_roundw
              case rel => exact ⟨i + 1, -1, _, _, ws ++ [s.extract b i], rfl, rfl, rfl, rfl, rfl, rfl, by go_num, by omega, by rw [List.length_append, List.length_singleton]; omega, .s0, hA2.out, W4.out, B4.out⟩
              case measure => simp [intOf]; omega
            · have n3 : (((bt s i : Nat) : Int) != 32) = true := by simp; omega
              obtain ⟨rfl, rfl, rfl⟩ : A1 = [] ∧ A2 = i ∧ A3 = 61 := by
                have h := hA.out
                rw [b_bad s i b ws hlt f3] at h
                simpa using h
              clear hA
              go_wp2_with fail
              go_ret3
              exact ⟨_, by first | rfl | go_num, Ws.nil _ _, hB.out⟩
    · skip
      cases hst with
      | s0 =>
        obtain ⟨rfl, rfl, rfl⟩ : A1 = ws ∧ A2 = 0 ∧ A3 = 0 := by
          have h := hA.out
          rw [b_end0 s i ws hlt] at h
          simpa using h
        clear hA
        go_wp2_with fail
        go_ret3
        exact ⟨_, rfl, hW.out, hB.out⟩
      | s1 b hb hbi =>
        obtain ⟨rfl, rfl, rfl⟩ : A1 = ws ++ [s.extract b s.size] ∧ A2 = 0 ∧ A3 = 0 := by
          have h := hA.out
          rw [b_end1 s i b ws _ hlt] at h
          simpa using h
        clear hA
        have hW3 : Ws (wr.alloc (.cells #[.string (s.extract b s.size)] 9)) w.heap.size u5 ws := hW.out.below (box_below _ _)
        have hB3 : Below w.heap.size w (wr.alloc (.cells #[.string (s.extract b s.size)] 9)) := hB.out.alloc hB.out.size _
        obtain ⟨v4, w4, r4, W4, g4⟩ := app_str _ w.heap.size u5 ws (s.extract b s.size) wr.heap.size hW3 (new_cell _ _ _ rfl) (by omega) hB3.size
        have r4 := hid r4
        have W4 := hid W4
        have B4 := hid (hB3.grown g4 hB3.size (fun k hk => (hW3.lt k hk).1))
        clear hW3 hB3 g4 hW hB
        go_wp2_with (at_builtin; refine wpList_append_run rfl _ _ 22 22 rfl _ _ _ rfl rfl r4.out ?_)
        clear r4
        go_wp2_with fail
        go_ret3
        exact ⟨_, rfl, W4.out, B4.out⟩
      | s2 b hb hbi =>
        obtain ⟨rfl, rfl, rfl⟩ : A1 = [] ∧ A2 = b ∧ A3 = 61 := by
          have h := hA.out
          rw [b_end2 s i b ws hlt] at h
          simpa using h
        clear hA
        go_wp2_with fail
        go_ret3
        exact ⟨_, by first | rfl | go_num, Ws.nil _ _, hB.out⟩
      | s3 b hb hbi =>
        obtain ⟨rfl, rfl, rfl⟩ : A1 = ws ++ [s.extract b s.size] ∧ A2 = 0 ∧ A3 = 0 := by
          have h := hA.out
          rw [b_end1 s i b ws _ hlt] at h
          simpa using h
        clear hA
        have hW3 : Ws (wr.alloc (.cells #[.string (s.extract b s.size)] 9)) w.heap.size u5 ws := hW.out.below (box_below _ _)
        have hB3 : Below w.heap.size w (wr.alloc (.cells #[.string (s.extract b s.size)] 9)) := hB.out.alloc hB.out.size _
        obtain ⟨v4, w4, r4, W4, g4⟩ := app_str _ w.heap.size u5 ws (s.extract b s.size) wr.heap.size hW3 (new_cell _ _ _ rfl) (by omega) hB3.size
        have r4 := hid r4
        have W4 := hid W4
        have B4 := hid (hB3.grown g4 hB3.size (fun k hk => (hW3.lt k hk).1))
        clear hW3 hB3 g4 hW hB
        go_wp2_with (at_builtin; refine wpList_append_run rfl _ _ 22 22 rfl _ _ _ rfl rfl r4.out ?_)
        clear r4
        go_wp2_with fail
        go_ret3
        exact ⟨_, rfl, W4.out, B4.out⟩
end Go.Proofs.Ytcjlgjlediihoaa.Rw

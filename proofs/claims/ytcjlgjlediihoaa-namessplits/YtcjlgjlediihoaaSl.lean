/- The law NamesSplits walked. -/
import Derived.Test.YtcjlgjlediihoaaWd
namespace Go.Proofs.Ytcjlgjlediihoaa.Rw
open Go.ChangeShapes Go.WideShapes Go.ChangeAt Go.RowKit
open Go.Proofs.Ytcjlgjlediihoaa.Ut
open Go.Proofs.Ytcjlgjlediihoaa.Sp
open Go.Proofs.Ytcjlgjlediihoaa.By
set_option linter.unusedVariables false
set_option linter.unusedSimpArgs false

theorem split_same (s : ByteArray) : spB s 0 (-1) false false [] = split s := by
  obtain ⟨a, b, c, d⟩ := fb_spec forb s 0 (by omega)
  exact (same s (fb forb s 0) (fun j h => c j (by omega) h) d b _ 0 [] rfl (by omega) (by omega)).symm
def ab : ByteArray := ⟨#[97, 32, 98]⟩
theorem split_ab : split ab = ([⟨#[97]⟩, ⟨#[98]⟩], 0, 0) := by
  have hF : fb forb ab 0 = 3 := by kernel_rfl
  have e0 : (we ab 0).1 = 1 := by kernel_rfl
  have e1 : (we ab 2).1 = 3 := by kernel_rfl
  have x0 : ab.extract 0 1 = ⟨#[97]⟩ := by kernel_rfl
  have x1 : ab.extract 2 3 = ⟨#[98]⟩ := by kernel_rfl
  have hs : ab.size = 3 := by kernel_rfl
  have y0 : bt ab 0 = 97 := by kernel_rfl
  have y1 : bt ab 1 = 32 := by kernel_rfl
  have y2 : bt ab 2 = 98 := by kernel_rfl
  have z0 : (we ab 0).2 = true := by kernel_rfl
  have z1 : (we ab 2).2 = true := by kernel_rfl
  unfold split
  rw [hF, spA_step ab 3 0 [] (by omega) (by omega), if_neg (by rw [z0]; simp), if_neg (by rw [e0]; exact fun h => h.2 y1), e0, x0]
  rw [spA, dif_pos (by omega), dif_pos y1, spA_step ab 3 2 _ (by omega) (by omega), if_neg (by rw [z1]; simp), if_neg (by rw [e1]; omega), e1, x1]
  rw [spA, dif_neg (by omega), if_neg (by omega)]
  rfl
set_option maxRecDepth 1000000 in
set_option maxHeartbeats 4000000 in
theorem splits_walk (s : ByteArray) (hs : s.size ≤ 1099511627776) (w : World) :
    Calls Try.prog 3 #[.string s] w fun e w' => e = .returned (.bool true) ∧ Below w.heap.size w w' := by
  have HS : Hid (∀ W, Calls Try.prog 4 #[.string s] W fun e w' => ∃ v, e = .returned (.tuple #[v, .int .i64 ((split s).2.1 : Nat), .int .i64 ((split s).2.2 : Nat)]) ∧ Ws w' W.heap.size v (split s).1 ∧ Below W.heap.size W w') := fun W => split_any s hs W
  have HR : Hid (∀ W, Calls Try.prog 5 #[.string s] W fun e w' => ∃ v, e = .returned (.tuple #[v, .int .i64 ((split s).2.1 : Nat), .int .i64 ((split s).2.2 : Nat)]) ∧ Ws w' W.heap.size v (split s).1 ∧ Below W.heap.size W w') := fun W => by
    have := rsplit_any s hs W
    rw [split_same] at this
    exact this
  have HO : Hid (∀ W, Calls Try.prog 4 #[.string ab] W fun e w' => ∃ v, e = .returned (.tuple #[v, .int .i64 0, .int .i64 0]) ∧ Ws w' W.heap.size v [⟨#[97]⟩, ⟨#[98]⟩] ∧ Below W.heap.size W w') := fun W => by
    have := split_any ab (by decide) W
    rw [split_ab] at this
    exact this
  have HW := fun W => width_any s (by omega) W
  have HV := fun W => rwidth_any s (by omega) W
  have HW := hid HW
  have HV := hid HV
  generalize split s = A at *
  obtain ⟨ws, A2, A3⟩ := A
  generalize Lib.runeCount s = N at *
  unfold ab at HO
  go_enter Try.func3, Try.ntmps3
  go_wp2_with fail
  refine (HS.out _).mono ?_
  rintro e w1 ⟨v1, rfl, W1, b1⟩
  have W1 := hid W1
  have b1 := hid b1
  go_wp2_with fail
  refine (HS.out _).mono ?_
  rintro e w2 ⟨v2, rfl, W2, b2⟩
  have W12 := hid (W1.out.below b2)
  have b12 := hid (b1.out.trans (b2.mono b1.out.size))
  have W2 := hid W2
  have b2 := hid b2
  go_wp2_with fail
  refine (HR.out _).mono ?_
  rintro e w3 ⟨v3, rfl, W3, b3⟩
  have D12 : Hid (∀ g, v1.ownBlock = some g → v2.ownBlock ≠ some g ∧ v3.ownBlock ≠ some g) := by
    intro g hg
    have h1 := (W1.out.lt g hg).2
    have h2 := b2.out.size
    refine ⟨fun h => ?_, fun h => ?_⟩
    · have := (W2.out.lt g h).1; omega
    · have := (W3.lt g h).1; omega
  have W13 := hid (W12.out.below b3)
  have W23 := hid (W2.out.below b3)
  have b13 := hid (b12.out.trans (b3.mono b12.out.size))
  have W3 := hid W3
  clear W1 W12 W2 b1 b2 b12 b3
  go_wp2_with fail
  refine (HO.out _).mono ?_
  rintro e w4 ⟨v4, rfl, W4, b4⟩
  have W14 := hid (W13.out.below b4)
  have W24 := hid (W23.out.below b4)
  have W34 := hid (W3.out.below b4)
  have b14 := hid (b13.out.trans (b4.mono b13.out.size))
  have W4 := hid W4
  clear W13 W23 W3 b13 b4 HS HR HO
  go_wp2_with fail
  refine (texts_any W14.out W34.out).mono ?_
  rintro e w5 ⟨rfl, b5⟩
  have W1 := hid (W14.out.below b5)
  have W2 := hid (W24.out.below b5)
  have W3 := hid (W34.out.below b5)
  have W4 := hid (W4.out.below b5)
  have b1 := hid (b14.out.trans (b5.mono b14.out.size))
  clear W14 W24 W34 b14 b5
  have t2 : ((A2 : Int) != (A2 : Int)) = false := bne_self_eq_false _
  have t3 : ((A3 : Int) != (A3 : Int)) = false := bne_self_eq_false _
  have tN : ((N : Int) != (N : Int)) = false := bne_self_eq_false _
  go_wp2_with fail
  refine (HW.out _).mono ?_
  rintro e w6 ⟨rfl, b6⟩
  have W1 := hid (W1.out.below b6)
  have W2 := hid (W2.out.below b6)
  have W3 := hid (W3.out.below b6)
  have W4 := hid (W4.out.below b6)
  have b1 := hid (b1.out.trans (b6.mono b1.out.size))
  clear b6
  go_wp2_with fail
  refine (HV.out _).mono ?_
  rintro e w7 ⟨rfl, b7⟩
  have b8 := b7.trans ((box_below w7 (.cells #[.string ⟨#[97]⟩, .string ⟨#[98]⟩] 9)).mono b7.size)
  have W1 := hid (W1.out.below b8)
  have W2 := hid (W2.out.below b8)
  have W3 := hid (W3.out.below b8)
  have W4 := hid (W4.out.below b8)
  have b1 := hid (b1.out.trans (b8.mono b1.out.size))
  clear b7 b8
  have W5 : Ws (w7.alloc (.cells #[.string ⟨#[97]⟩, .string ⟨#[98]⟩] 9)) w7.heap.size (.slice (some ⟨w7.heap.size, 0, none⟩) 2 2) [⟨#[97]⟩, ⟨#[98]⟩] :=
    ⟨rfl, .inr ⟨w7.heap.size, 2, #[.string ⟨#[97]⟩, .string ⟨#[98]⟩], rfl, Nat.le_refl _, heap_alloc_new w7 _, Nat.le_refl _, by unfold maxLen; omega, rfl, rfl⟩⟩
  have W5 := hid W5
  go_wp2_with fail
  refine (texts_any W4.out W5.out).mono ?_
  rintro e w9 ⟨rfl, b9⟩
  have W1 := hid (W1.out.below b9)
  have W2 := hid (W2.out.below b9)
  have W3 := hid (W3.out.below b9)
  have b1 := hid (b1.out.trans (b9.mono b1.out.size))
  clear b9 W4 W5 HW HV
  go_wp2_with fail
  refine (numbers_any _).mono ?_
  rintro e w9 ⟨rfl, rfl⟩
  obtain ⟨a1, c1, rfl, hc1, K1⟩ := W1.out.shape
  have hmx := W1.out.max
  have X1 : Hid (∃ xs : List Value, w9.ownsRow w.heap.size 9 1 (.slice a1 ws.length c1) ws.length xs) := ⟨_, W1.out⟩
  clear W1 K1
  go_wp2_with fail
  go_loopw [15] (fun i wr => ∃ (k : Nat), i = .int .i64 (k : Int) ∧ k ≤ ws.length ∧ Hid (∃ xs : List Value, wr.ownsRow w.heap.size 9 1 (.slice a1 ws.length c1) ws.length xs) ∧ Hid (Ws wr w1.heap.size v2 ws) ∧ Hid (Ws wr w2.heap.size v3 ws) ∧ Hid (Below w.heap.size w wr)) (fun i _ => ws.length - (intOf i).toNat)
  case atStart => exact ⟨0, rfl, by omega, X1.out, W2.out, W3.out, b1.out⟩
  case round =>
    clear X1 W2 W3 b1
    obtain ⟨k, rfl, hk, X1, W2, W3, b1⟩ := hrel
    by_cases hlt : k < ws.length
    · obtain ⟨xs, X1⟩ := X1.out
      have hxl : xs.length = ws.length := by have := X1.1; omega
      obtain ⟨g, rfl⟩ : ∃ g, a1 = some ⟨g, 0, none⟩ := by
        rcases X1.2 with ⟨e, e2⟩ | ⟨g, c, cur, e, _⟩
        · omega
        · simp at e
          exact ⟨g, e.1⟩
      have hcell := World.ownsRow.cellAt X1 k (by omega)
      rw [List.getElem?_eq_getElem (by omega)] at hcell
      have hfz := World.ownsRow.frozenAt X1 k
      have st := World.ownsRow.stored X1 k (.string ⟨#[115, 112, 111, 105, 108, 116]⟩)
      have hD := D12.out g rfl
      have Y1 : Hid (∃ xs : List Value, (wr.setCell ⟨g, k, none⟩ (.string ⟨#[115, 112, 111, 105, 108, 116]⟩)).ownsRow w.heap.size 9 1 (.slice (some ⟨g, 0, none⟩) ws.length c1) ws.length xs) := ⟨_, st.1⟩
      have Y2 : Hid (Ws (wr.setCell ⟨g, k, none⟩ (.string ⟨#[115, 112, 111, 105, 108, 116]⟩)) w1.heap.size v2 ws) := World.ownsRow.kept W2.out st.2 (.inr hD.1)
      have Y3 : Hid (Ws (wr.setCell ⟨g, k, none⟩ (.string ⟨#[115, 112, 111, 105, 108, 116]⟩)) w2.heap.size v3 ws) := World.ownsRow.kept W3.out st.2 (.inr hD.2)
      have Yb := hid (b1.out.grown st.2 b1.out.size (fun j hj => by cases hj; exact (World.ownsRow.lt X1 g rfl).1))
      generalize xs[k] = z at hcell
      clear st hD X1 W2 W3 b1 hxl
      go_wp2_with fail
      go_roundw
      case rel => exact ⟨k + 1, by go_num, by omega, Y1.out, Y2.out, Y3.out, Yb.out⟩
      case measure => simp [intOf]; omega
    · go_wp2_with fail
      refine (texts_any W2.out W3.out).mono ?_
      rintro e w10 ⟨rfl, b10⟩
      have b11 := hid (b1.out.trans (b10.mono b1.out.size))
      clear b10
      go_wp2_with fail
      go_ret
      exact ⟨rfl, b11.out⟩
end Go.Proofs.Ytcjlgjlediihoaa.Rw

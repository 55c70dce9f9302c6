/- appendEscaped: an escape read. -/
import Derived.Test.YtcjlgjlediihoaaDoorUn
namespace Go.Proofs.YtcjlgjlediihoaaDoor.Rw
open Go.ChangeShapes Go.WideShapes Go.ChangeAt Go.RowKit
open Go.Proofs.YtcjlgjlediihoaaDoor.Ut
open Go.Proofs.YtcjlgjlediihoaaDoor.By
set_option linter.unusedVariables false
set_option linter.unusedSimpArgs false

/-- Which letter stands for a byte in an escape; 5: none. -/
def lj (r : Nat) : Nat := if r = 110 then 0 else if r = 116 then 1 else if r = 115 then 2 else if r = 34 then 3 else if r = 92 then 4 else 5
theorem lj_le (r : Nat) : lj r ≤ 5 := by
  unfold lj
  repeat' split
  all_goals omega
theorem or_hex (a b : Nat) (ha : a < 16) (hb : b < 16) : bits .or .i64 ((a : Int) * 16) (b : Int) = ((a * 16 + b : Nat) : Int) := by
  have : ∀ a : Nat, a < 16 → ∀ b : Nat, b < 16 → bits .or .i64 ((a : Int) * 16) (b : Int) = ((a * 16 + b : Nat) : Int) := by decide +kernel
  exact this a ha b hb
theorem drewN_below (w : World) (n : Nat) : Below w.heap.size w (w.drewN n) := below_drewN (Below.refl _ _) _
theorem cell_one2 (w : World) (y : Int) (n : Nat) : ((w.drewN n).alloc (.cells #[.int .u8 y] 5)).cell? ⟨w.heap.size, 0, none⟩ = some (.int .u8 y) := one_cellb (w.drewN n) y 5
set_option maxRecDepth 1000000 in
set_option maxHeartbeats 3000000 in
theorem esc_any (v : Value) (xs : List Int) (t : ByteArray) (base : Nat) (w : World) (T : Hid (Lt w)) (H : Own w base v xs) (hbase : base ≤ w.heap.size) (ht : t.size ≤ 1099511627776) (hxl : xs.length ≤ 1099511627776) :
    Calls Tryd.prog 87 #[v, .string t] w fun e w' => ∃ v', e = .returned (.tuple #[v', .int .i64 ((esc t 0).2 : Nat)]) ∧ Own w' base v' (xs ++ (esc t 0).1) ∧ Gr base w w' := by
  have HO := hid H
  clear H
  by_cases hs2 : t.size < 2
  · have hE : esc t 0 = ([], 0) := by unfold esc; rw [if_neg (by omega)]
    rw [hE]
    go_enter Tryd.func87, Tryd.ntmps87
    go_wp2_with fail
    go_ret2
    exact ⟨_, rfl, by show Own _ _ _ _; simpa using HO.out, Gr.refl _ _⟩
  · have h1 : 1 < t.size := by omega
    have hi1 : (t[1]'h1).toNat = bt t 1 := bt_eq t 1 h1
    have hb1 := bt_lt t 1
    have hE0 : esc t 0 = if bt t 1 = 110 then ([10], 2) else if bt t 1 = 116 then ([9], 2) else if bt t 1 = 115 then ([32], 2) else if bt t 1 = 34 then ([34], 2) else if bt t 1 = 92 then ([92], 2)
        else if bt t 1 = 120 ∧ 3 < t.size ∧ hv (bt t 2) < 16 ∧ hv (bt t 3) < 16 then ([((hv (bt t 2) * 16 + hv (bt t 3) : Nat) : Int)], 4) else ([], 0) := by
      unfold esc
      rw [if_pos (by omega)]
    generalize esc t 0 = E at *
    obtain ⟨E1, E2⟩ := E
    generalize bt t 1 = r at *
    have hE := hid hE0
    clear hE0
    have hll := lj_le r
    have hlv : Hid ((r = 110 → lj r = 0) ∧ (r = 116 → lj r = 1) ∧ (r = 115 → lj r = 2) ∧ (r = 34 → lj r = 3) ∧ (r = 92 → lj r = 4) ∧ (lj r = 0 → r = 110) ∧ (lj r = 1 → r = 116) ∧ (lj r = 2 → r = 115) ∧ (lj r = 3 → r = 34) ∧ (lj r = 4 → r = 92)) := by
      unfold lj
      refine ⟨?_, ?_, ?_, ?_, ?_, ?_, ?_, ?_, ?_, ?_⟩ <;> (repeat' split) <;> intros <;> omega
    have c0 : w.cell? ⟨1, 0, none⟩ = some (.int .i32 10) := T.out 0 (by omega)
    have c1 : w.cell? ⟨1, 1, none⟩ = some (.int .i32 110) := T.out 1 (by omega)
    have c2 : w.cell? ⟨1, 2, none⟩ = some (.int .i32 9) := T.out 2 (by omega)
    have c3 : w.cell? ⟨1, 3, none⟩ = some (.int .i32 116) := T.out 3 (by omega)
    have c4 : w.cell? ⟨1, 4, none⟩ = some (.int .i32 32) := T.out 4 (by omega)
    have c5 : w.cell? ⟨1, 5, none⟩ = some (.int .i32 115) := T.out 5 (by omega)
    have c6 : w.cell? ⟨1, 6, none⟩ = some (.int .i32 34) := T.out 6 (by omega)
    have c7 : w.cell? ⟨1, 7, none⟩ = some (.int .i32 34) := T.out 7 (by omega)
    have c8 : w.cell? ⟨1, 8, none⟩ = some (.int .i32 92) := T.out 8 (by omega)
    have c9 : w.cell? ⟨1, 9, none⟩ = some (.int .i32 92) := T.out 9 (by omega)
    clear T
    go_enter Tryd.func87, Tryd.ntmps87
    go_wp2_with fail
    clear c0 c1 c2 c3 c4 c5 c6 c7 c8 c9
    go_loopw [15] (fun i wr => ∃ k : Nat, i = .int .i64 (k : Int) ∧ k ≤ 5 ∧ k ≤ lj r ∧ Hid (Own wr base v xs) ∧ Hid (Gr base w wr)) (fun i _ => 5 - (intOf i).toNat)
    case atStart => exact ⟨0, rfl, by omega, by omega, HO.out, Gr.refl _ _⟩
    case round =>
      clear HO
      obtain ⟨k, rfl, hk, hkl, HO, HB⟩ := hrel
      by_cases hlt : k < 5
      · rcases (by omega : k = 0 ∨ k = 1 ∨ k = 2 ∨ k = 3 ∨ k = 4) with rfl | rfl | rfl | rfl | rfl
        · have hix := lta_0
          have bx := box_below wr (.cells #[.int .i32 10, .int .i32 110] 80)
          have hsx : (wr.alloc (.cells #[.int .i32 10, .int .i32 110] 80)).heap.size = wr.heap.size + 1 := by show (wr.heap.push _).size = _; simp
          have hsx := hid hsx
          by_cases hr : r = 110
          · obtain ⟨rfl, rfl⟩ : E1 = [10] ∧ E2 = 2 := by
              have h := hE.out
              rw [if_pos hr] at h
              simpa using h
            have hAP : Hid (∀ n, ∃ v' w', (Builtin.append_ #[60, 60] 60 #[v, .slice (some ⟨wr.heap.size + 1, 0, none⟩) 1 1]).run Tryd.prog (((wr.alloc (.cells #[.int .i32 10, .int .i32 110] 80)).drewN n).alloc (.cells #[.int .u8 10] 5)) = .ok v' w' ∧ Own w' base v' (xs ++ [10]) ∧ Gr base w w') := fun n => by
              have b2 : Below wr.heap.size wr ((wr.alloc (.cells #[.int .i32 10, .int .i32 110] 80)).drewN n) := bx.trans ((drewN_below _ n).mono bx.size)
              have bb : Below wr.heap.size wr (((wr.alloc (.cells #[.int .i32 10, .int .i32 110] 80)).drewN n).alloc (.cells #[.int .u8 10] 5)) := b2.alloc b2.size _
              have hO3 := HO.out.later bb
              have hB3 := HB.out.trans (Gr.of_below bb (Nat.le_trans hbase HB.out.size))
              obtain ⟨v4, w4, r4, O4, g4⟩ := app_built _ base v xs [10] (wr.heap.size + 1) 1 hO3 rfl (fun i hi => by
                have : i = 0 := by omega
                subst this
                rw [← hsx.out]
                exact cell_one2 _ _ n) (by omega) (Nat.le_trans hbase hB3.size)
              exact ⟨v4, w4, r4, O4, hB3.trans (Gr.grown hO3 g4 (Nat.le_trans hbase hB3.size))⟩
            have q0 : ((110 : Int) == (r : Int)) = true := by simp [hr]
            clear hE hlv hkl hll HO HB bx hsx hr
            go_wp2_with fail
            go_quiet (fail)
            obtain ⟨v4, w4, r4, O4, B4⟩ := hAP.out nq
            have r4h := hid r4
            have O4h := hid O4
            have B4h := hid B4
            clear r4 O4 B4 hAP
            go_wp2_with (at_builtin; refine wpList_append_run rfl _ _ 60 60 rfl _ _ _ rfl rfl r4h.out ?_)
            clear r4h
            go_wp2_with fail
            go_ret2
            exact ⟨_, rfl, O4h.out, B4h.out⟩
          · have hkl2 : 1 ≤ lj r := by
              have h1 : lj r ≠ 0 := fun h => hr (hlv.out.2.2.2.2.2.1 h)
              omega
            have hne : ((110 : Int) == (r : Int)) = false := by simp; omega
            have O4 : Hid (∀ n, Own ((wr.alloc (.cells #[.int .i32 10, .int .i32 110] 80)).drewN n) base v xs) := fun n => (HO.out.later bx).later (drewN_below _ n)
            have B4 : Hid (∀ n, Gr base w ((wr.alloc (.cells #[.int .i32 10, .int .i32 110] 80)).drewN n)) := fun n => HB.out.trans (Gr.of_below (bx.trans ((drewN_below _ n).mono bx.size)) (Nat.le_trans hbase HB.out.size))
            clear hE hlv HO HB bx hsx hr
            go_wp2_with fail
            go_quiet (fail)
            go_wp2_with fail
            go_roundw
            case rel => exact ⟨1, rfl, by omega, hkl2, O4.out nq, B4.out nq⟩
            case measure => simp [intOf]
        · have hix := lta_1
          have bx := box_below wr (.cells #[.int .i32 9, .int .i32 116] 80)
          have hsx : (wr.alloc (.cells #[.int .i32 9, .int .i32 116] 80)).heap.size = wr.heap.size + 1 := by show (wr.heap.push _).size = _; simp
          have hsx := hid hsx
          by_cases hr : r = 116
          · obtain ⟨rfl, rfl⟩ : E1 = [9] ∧ E2 = 2 := by
              have h := hE.out
              rw [if_neg (by omega), if_pos hr] at h
              simpa using h
            have hAP : Hid (∀ n, ∃ v' w', (Builtin.append_ #[60, 60] 60 #[v, .slice (some ⟨wr.heap.size + 1, 0, none⟩) 1 1]).run Tryd.prog (((wr.alloc (.cells #[.int .i32 9, .int .i32 116] 80)).drewN n).alloc (.cells #[.int .u8 9] 5)) = .ok v' w' ∧ Own w' base v' (xs ++ [9]) ∧ Gr base w w') := fun n => by
              have b2 : Below wr.heap.size wr ((wr.alloc (.cells #[.int .i32 9, .int .i32 116] 80)).drewN n) := bx.trans ((drewN_below _ n).mono bx.size)
              have bb : Below wr.heap.size wr (((wr.alloc (.cells #[.int .i32 9, .int .i32 116] 80)).drewN n).alloc (.cells #[.int .u8 9] 5)) := b2.alloc b2.size _
              have hO3 := HO.out.later bb
              have hB3 := HB.out.trans (Gr.of_below bb (Nat.le_trans hbase HB.out.size))
              obtain ⟨v4, w4, r4, O4, g4⟩ := app_built _ base v xs [9] (wr.heap.size + 1) 1 hO3 rfl (fun i hi => by
                have : i = 0 := by omega
                subst this
                rw [← hsx.out]
                exact cell_one2 _ _ n) (by omega) (Nat.le_trans hbase hB3.size)
              exact ⟨v4, w4, r4, O4, hB3.trans (Gr.grown hO3 g4 (Nat.le_trans hbase hB3.size))⟩
            have q0 : ((116 : Int) == (r : Int)) = true := by simp [hr]
            clear hE hlv hkl hll HO HB bx hsx hr
            go_wp2_with fail
            go_quiet (fail)
            obtain ⟨v4, w4, r4, O4, B4⟩ := hAP.out nq
            have r4h := hid r4
            have O4h := hid O4
            have B4h := hid B4
            clear r4 O4 B4 hAP
            go_wp2_with (at_builtin; refine wpList_append_run rfl _ _ 60 60 rfl _ _ _ rfl rfl r4h.out ?_)
            clear r4h
            go_wp2_with fail
            go_ret2
            exact ⟨_, rfl, O4h.out, B4h.out⟩
          · have hkl2 : 2 ≤ lj r := by
              have h1 : lj r ≠ 1 := fun h => hr (hlv.out.2.2.2.2.2.2.1 h)
              omega
            have hne : ((116 : Int) == (r : Int)) = false := by simp; omega
            have O4 : Hid (∀ n, Own ((wr.alloc (.cells #[.int .i32 9, .int .i32 116] 80)).drewN n) base v xs) := fun n => (HO.out.later bx).later (drewN_below _ n)
            have B4 : Hid (∀ n, Gr base w ((wr.alloc (.cells #[.int .i32 9, .int .i32 116] 80)).drewN n)) := fun n => HB.out.trans (Gr.of_below (bx.trans ((drewN_below _ n).mono bx.size)) (Nat.le_trans hbase HB.out.size))
            clear hE hlv HO HB bx hsx hr
            go_wp2_with fail
            go_quiet (fail)
            go_wp2_with fail
            go_roundw
            case rel => exact ⟨2, rfl, by omega, hkl2, O4.out nq, B4.out nq⟩
            case measure => simp [intOf]
        · have hix := lta_2
          have bx := box_below wr (.cells #[.int .i32 32, .int .i32 115] 80)
          have hsx : (wr.alloc (.cells #[.int .i32 32, .int .i32 115] 80)).heap.size = wr.heap.size + 1 := by show (wr.heap.push _).size = _; simp
          have hsx := hid hsx
          by_cases hr : r = 115
          · obtain ⟨rfl, rfl⟩ : E1 = [32] ∧ E2 = 2 := by
              have h := hE.out
              rw [if_neg (by omega), if_neg (by omega), if_pos hr] at h
              simpa using h
            have hAP : Hid (∀ n, ∃ v' w', (Builtin.append_ #[60, 60] 60 #[v, .slice (some ⟨wr.heap.size + 1, 0, none⟩) 1 1]).run Tryd.prog (((wr.alloc (.cells #[.int .i32 32, .int .i32 115] 80)).drewN n).alloc (.cells #[.int .u8 32] 5)) = .ok v' w' ∧ Own w' base v' (xs ++ [32]) ∧ Gr base w w') := fun n => by
              have b2 : Below wr.heap.size wr ((wr.alloc (.cells #[.int .i32 32, .int .i32 115] 80)).drewN n) := bx.trans ((drewN_below _ n).mono bx.size)
              have bb : Below wr.heap.size wr (((wr.alloc (.cells #[.int .i32 32, .int .i32 115] 80)).drewN n).alloc (.cells #[.int .u8 32] 5)) := b2.alloc b2.size _
              have hO3 := HO.out.later bb
              have hB3 := HB.out.trans (Gr.of_below bb (Nat.le_trans hbase HB.out.size))
              obtain ⟨v4, w4, r4, O4, g4⟩ := app_built _ base v xs [32] (wr.heap.size + 1) 1 hO3 rfl (fun i hi => by
                have : i = 0 := by omega
                subst this
                rw [← hsx.out]
                exact cell_one2 _ _ n) (by omega) (Nat.le_trans hbase hB3.size)
              exact ⟨v4, w4, r4, O4, hB3.trans (Gr.grown hO3 g4 (Nat.le_trans hbase hB3.size))⟩
            have q0 : ((115 : Int) == (r : Int)) = true := by simp [hr]
            clear hE hlv hkl hll HO HB bx hsx hr
            go_wp2_with fail
            go_quiet (fail)
            obtain ⟨v4, w4, r4, O4, B4⟩ := hAP.out nq
            have r4h := hid r4
            have O4h := hid O4
            have B4h := hid B4
            clear r4 O4 B4 hAP
            go_wp2_with (at_builtin; refine wpList_append_run rfl _ _ 60 60 rfl _ _ _ rfl rfl r4h.out ?_)
            clear r4h
            go_wp2_with fail
            go_ret2
            exact ⟨_, rfl, O4h.out, B4h.out⟩
          · have hkl2 : 3 ≤ lj r := by
              have h1 : lj r ≠ 2 := fun h => hr (hlv.out.2.2.2.2.2.2.2.1 h)
              omega
            have hne : ((115 : Int) == (r : Int)) = false := by simp; omega
            have O4 : Hid (∀ n, Own ((wr.alloc (.cells #[.int .i32 32, .int .i32 115] 80)).drewN n) base v xs) := fun n => (HO.out.later bx).later (drewN_below _ n)
            have B4 : Hid (∀ n, Gr base w ((wr.alloc (.cells #[.int .i32 32, .int .i32 115] 80)).drewN n)) := fun n => HB.out.trans (Gr.of_below (bx.trans ((drewN_below _ n).mono bx.size)) (Nat.le_trans hbase HB.out.size))
            clear hE hlv HO HB bx hsx hr
            go_wp2_with fail
            go_quiet (fail)
            go_wp2_with fail
            go_roundw
            case rel => exact ⟨3, rfl, by omega, hkl2, O4.out nq, B4.out nq⟩
            case measure => simp [intOf]
        · have hix := lta_3
          have bx := box_below wr (.cells #[.int .i32 34, .int .i32 34] 80)
          have hsx : (wr.alloc (.cells #[.int .i32 34, .int .i32 34] 80)).heap.size = wr.heap.size + 1 := by show (wr.heap.push _).size = _; simp
          have hsx := hid hsx
          by_cases hr : r = 34
          · obtain ⟨rfl, rfl⟩ : E1 = [34] ∧ E2 = 2 := by
              have h := hE.out
              rw [if_neg (by omega), if_neg (by omega), if_neg (by omega), if_pos hr] at h
              simpa using h
            have hAP : Hid (∀ n, ∃ v' w', (Builtin.append_ #[60, 60] 60 #[v, .slice (some ⟨wr.heap.size + 1, 0, none⟩) 1 1]).run Tryd.prog (((wr.alloc (.cells #[.int .i32 34, .int .i32 34] 80)).drewN n).alloc (.cells #[.int .u8 34] 5)) = .ok v' w' ∧ Own w' base v' (xs ++ [34]) ∧ Gr base w w') := fun n => by
              have b2 : Below wr.heap.size wr ((wr.alloc (.cells #[.int .i32 34, .int .i32 34] 80)).drewN n) := bx.trans ((drewN_below _ n).mono bx.size)
              have bb : Below wr.heap.size wr (((wr.alloc (.cells #[.int .i32 34, .int .i32 34] 80)).drewN n).alloc (.cells #[.int .u8 34] 5)) := b2.alloc b2.size _
              have hO3 := HO.out.later bb
              have hB3 := HB.out.trans (Gr.of_below bb (Nat.le_trans hbase HB.out.size))
              obtain ⟨v4, w4, r4, O4, g4⟩ := app_built _ base v xs [34] (wr.heap.size + 1) 1 hO3 rfl (fun i hi => by
                have : i = 0 := by omega
                subst this
                rw [← hsx.out]
                exact cell_one2 _ _ n) (by omega) (Nat.le_trans hbase hB3.size)
              exact ⟨v4, w4, r4, O4, hB3.trans (Gr.grown hO3 g4 (Nat.le_trans hbase hB3.size))⟩
            have q0 : ((34 : Int) == (r : Int)) = true := by simp [hr]
            clear hE hlv hkl hll HO HB bx hsx hr
            go_wp2_with fail
            go_quiet (fail)
            obtain ⟨v4, w4, r4, O4, B4⟩ := hAP.out nq
            have r4h := hid r4
            have O4h := hid O4
            have B4h := hid B4
            clear r4 O4 B4 hAP
            go_wp2_with (at_builtin; refine wpList_append_run rfl _ _ 60 60 rfl _ _ _ rfl rfl r4h.out ?_)
            clear r4h
            go_wp2_with fail
            go_ret2
            exact ⟨_, rfl, O4h.out, B4h.out⟩
          · have hkl2 : 4 ≤ lj r := by
              have h1 : lj r ≠ 3 := fun h => hr (hlv.out.2.2.2.2.2.2.2.2.1 h)
              omega
            have hne : ((34 : Int) == (r : Int)) = false := by simp; omega
            have O4 : Hid (∀ n, Own ((wr.alloc (.cells #[.int .i32 34, .int .i32 34] 80)).drewN n) base v xs) := fun n => (HO.out.later bx).later (drewN_below _ n)
            have B4 : Hid (∀ n, Gr base w ((wr.alloc (.cells #[.int .i32 34, .int .i32 34] 80)).drewN n)) := fun n => HB.out.trans (Gr.of_below (bx.trans ((drewN_below _ n).mono bx.size)) (Nat.le_trans hbase HB.out.size))
            clear hE hlv HO HB bx hsx hr
            go_wp2_with fail
            go_quiet (fail)
            go_wp2_with fail
            go_roundw
            case rel => exact ⟨4, rfl, by omega, hkl2, O4.out nq, B4.out nq⟩
            case measure => simp [intOf]
        · have hix := lta_4
          have bx := box_below wr (.cells #[.int .i32 92, .int .i32 92] 80)
          have hsx : (wr.alloc (.cells #[.int .i32 92, .int .i32 92] 80)).heap.size = wr.heap.size + 1 := by show (wr.heap.push _).size = _; simp
          have hsx := hid hsx
          by_cases hr : r = 92
          · obtain ⟨rfl, rfl⟩ : E1 = [92] ∧ E2 = 2 := by
              have h := hE.out
              rw [if_neg (by omega), if_neg (by omega), if_neg (by omega), if_neg (by omega), if_pos hr] at h
              simpa using h
            have hAP : Hid (∀ n, ∃ v' w', (Builtin.append_ #[60, 60] 60 #[v, .slice (some ⟨wr.heap.size + 1, 0, none⟩) 1 1]).run Tryd.prog (((wr.alloc (.cells #[.int .i32 92, .int .i32 92] 80)).drewN n).alloc (.cells #[.int .u8 92] 5)) = .ok v' w' ∧ Own w' base v' (xs ++ [92]) ∧ Gr base w w') := fun n => by
              have b2 : Below wr.heap.size wr ((wr.alloc (.cells #[.int .i32 92, .int .i32 92] 80)).drewN n) := bx.trans ((drewN_below _ n).mono bx.size)
              have bb : Below wr.heap.size wr (((wr.alloc (.cells #[.int .i32 92, .int .i32 92] 80)).drewN n).alloc (.cells #[.int .u8 92] 5)) := b2.alloc b2.size _
              have hO3 := HO.out.later bb
              have hB3 := HB.out.trans (Gr.of_below bb (Nat.le_trans hbase HB.out.size))
              obtain ⟨v4, w4, r4, O4, g4⟩ := app_built _ base v xs [92] (wr.heap.size + 1) 1 hO3 rfl (fun i hi => by
                have : i = 0 := by omega
                subst this
                rw [← hsx.out]
                exact cell_one2 _ _ n) (by omega) (Nat.le_trans hbase hB3.size)
              exact ⟨v4, w4, r4, O4, hB3.trans (Gr.grown hO3 g4 (Nat.le_trans hbase hB3.size))⟩
            have q0 : ((92 : Int) == (r : Int)) = true := by simp [hr]
            clear hE hlv hkl hll HO HB bx hsx hr
            go_wp2_with fail
            go_quiet (fail)
            obtain ⟨v4, w4, r4, O4, B4⟩ := hAP.out nq
            have r4h := hid r4
            have O4h := hid O4
            have B4h := hid B4
            clear r4 O4 B4 hAP
            go_wp2_with (at_builtin; refine wpList_append_run rfl _ _ 60 60 rfl _ _ _ rfl rfl r4h.out ?_)
            clear r4h
            go_wp2_with fail
            go_ret2
            exact ⟨_, rfl, O4h.out, B4h.out⟩
          · have hkl2 : 5 ≤ lj r := by
              have h1 : lj r ≠ 4 := fun h => hr (hlv.out.2.2.2.2.2.2.2.2.2 h)
              omega
            have hne : ((92 : Int) == (r : Int)) = false := by simp; omega
            have O4 : Hid (∀ n, Own ((wr.alloc (.cells #[.int .i32 92, .int .i32 92] 80)).drewN n) base v xs) := fun n => (HO.out.later bx).later (drewN_below _ n)
            have B4 : Hid (∀ n, Gr base w ((wr.alloc (.cells #[.int .i32 92, .int .i32 92] 80)).drewN n)) := fun n => HB.out.trans (Gr.of_below (bx.trans ((drewN_below _ n).mono bx.size)) (Nat.le_trans hbase HB.out.size))
            clear hE hlv HO HB bx hsx hr
            go_wp2_with fail
            go_quiet (fail)
            go_wp2_with fail
            go_roundw
            case rel => exact ⟨5, rfl, by omega, hkl2, O4.out nq, B4.out nq⟩
            case measure => simp [intOf]
      · have hk5 : k = 5 := by omega
        have hl5 : lj r = 5 := by omega
        subst hk5
        have hnn : r ≠ 110 ∧ r ≠ 116 ∧ r ≠ 115 ∧ r ≠ 34 ∧ r ≠ 92 := by
          refine ⟨fun h => ?_, fun h => ?_, fun h => ?_, fun h => ?_, fun h => ?_⟩
          · have := hlv.out.1 h; omega
          · have := hlv.out.2.1 h; omega
          · have := hlv.out.2.2.1 h; omega
          · have := hlv.out.2.2.2.1 h; omega
          · have := hlv.out.2.2.2.2.1 h; omega
        have hE2 : Hid ((E1, E2) = if r = 120 ∧ 3 < t.size ∧ hv (bt t 2) < 16 ∧ hv (bt t 3) < 16 then ([((hv (bt t 2) * 16 + hv (bt t 3) : Nat) : Int)], 4) else ([], 0)) := by
          show _ = _
          rw [hE.out, if_neg hnn.1, if_neg hnn.2.1, if_neg hnn.2.2.1, if_neg hnn.2.2.2.1, if_neg hnn.2.2.2.2]
        clear hE hlv hl5 hkl hll hk hlt hnn
        by_cases h120 : r = 120
        · by_cases h4 : t.size < 4
          · obtain ⟨rfl, rfl⟩ : E1 = [] ∧ E2 = 0 := by
              have h := hE2.out
              rw [if_neg (fun x => by omega)] at h
              simpa using h
            have q0 : ((r : Int) != 120) = false := by simp [h120]
            clear hE2 h120
            go_wp2_with fail
            go_ret2
            exact ⟨_, rfl, by show Own _ _ _ _; simpa using HO.out, HB.out⟩
          · have h2 : 2 < t.size := by omega
            have h3 : 3 < t.size := by omega
            have hi2 : (t[2]'h2).toNat = bt t 2 := bt_eq t 2 h2
            have hi3 : (t[3]'h3).toNat = bt t 3 := bt_eq t 3 h3
            have hb2 := bt_lt t 2
            have hb3 := bt_lt t 3
            have hE3 : Hid ((E1, E2) = if hv (bt t 2) < 16 ∧ hv (bt t 3) < 16 then ([((hv (bt t 2) * 16 + hv (bt t 3) : Nat) : Int)], 4) else ([], 0)) := by
              show _ = _
              rw [hE2.out]
              by_cases hh : hv (bt t 2) < 16 ∧ hv (bt t 3) < 16
              · rw [if_pos ⟨h120, h3, hh⟩, if_pos hh]
              · rw [if_neg (fun x => hh x.2.2), if_neg hh]
            generalize bt t 2 = y at *
            generalize bt t 3 = z at *
            have q0 : ((r : Int) != 120) = false := by simp [h120]
            have IY : Hid (∀ W, Calls Tryd.prog 99 #[.string hexs, .int .u8 (y : Int)] W fun e w' => e = .returned (.int .i64 (if hv y < 16 then (hv y : Int) else -1)) ∧ w' = W) := fun W => by
              have := ib_any hexs y hb2 W
              rw [ib_hex y hb2] at this
              exact this
            have IZ : Hid (∀ W, Calls Tryd.prog 99 #[.string hexs, .int .u8 (z : Int)] W fun e w' => e = .returned (.int .i64 (if hv z < 16 then (hv z : Int) else -1)) ∧ w' = W) := fun W => by
              have := ib_any hexs z hb3 W
              rw [ib_hex z hb3] at this
              exact this
            unfold hexs at IY IZ
            clear hE2 h120
            obtain ⟨Y, hY⟩ : ∃ Y : Int, Hid (Y = if hv y < 16 then (hv y : Int) else -1) := ⟨_, rfl⟩
            obtain ⟨Z, hZ⟩ : ∃ Z : Int, Hid (Z = if hv z < 16 then (hv z : Int) else -1) := ⟨_, rfl⟩
            rw [← hY.out] at IY
            rw [← hZ.out] at IZ
            go_wp2_with fail
            go_quiet (first | (go_at_call 99; exact Calls.quiet_of_same (IY.out _)) | (go_at_call 99; exact Calls.quiet_of_same (IZ.out _)))
            clear IY IZ
            have HOq := hid (HO.out.later (drewN_below wr nq))
            have HBq := hid (HB.out.trans (Gr.of_below (drewN_below wr nq) (Nat.le_trans hbase HB.out.size)))
            by_cases hy : hv y < 16
            · have eY : Y = (hv y : Int) := by rw [hY.out, if_pos hy]
              by_cases hz : hv z < 16
              · have eZ : Z = (hv z : Int) := by rw [hZ.out, if_pos hz]
                obtain ⟨rfl, rfl⟩ : E1 = [((hv y * 16 + hv z : Nat) : Int)] ∧ E2 = 4 := by
                  have h := hE3.out
                  rw [if_pos ⟨hy, hz⟩] at h
                  simpa using h
                have hor := or_hex (hv y) (hv z) hy hz
                clear hE3 hY hZ
                subst eY eZ
                have bb : Below wr.heap.size wr ((wr.drewN nq).alloc (.cells #[.int .u8 ((hv y * 16 + hv z : Nat) : Int)] 5)) := (drewN_below wr nq).alloc (drewN_below wr nq).size _
                have hO3 := HO.out.later bb
                have hB3 := HB.out.trans (Gr.of_below bb (Nat.le_trans hbase HB.out.size))
                obtain ⟨v4, w4, r4, O4, g4⟩ := app_built _ base v xs [((hv y * 16 + hv z : Nat) : Int)] wr.heap.size 1 hO3 rfl (fun i hi => by
                  have : i = 0 := by omega
                  subst this
                  exact cell_one2 wr _ nq) (by omega) (Nat.le_trans hbase hB3.size)
                have r4h := hid r4
                have O4h := hid O4
                have B4h := hid (hB3.trans (Gr.grown hO3 g4 (Nat.le_trans hbase hB3.size)))
                clear bb hO3 hB3 g4 HO HB HOq HBq r4 O4
                have hwr : IntKind.u8.wrap (((hv y * 16 + hv z : Nat) : Int)) = ((hv y * 16 + hv z : Nat) : Int) := by rw [IntKind.wrap_u8']; omega
                go_wp2_with (at_builtin; refine wpList_append_run rfl _ _ 60 60 rfl _ _ _ rfl rfl r4h.out ?_)
                clear r4h
                go_wp2_with fail
                go_ret2
                exact ⟨_, rfl, O4h.out, B4h.out⟩
              · have eZ : Z = -1 := by rw [hZ.out, if_neg hz]
                obtain ⟨rfl, rfl⟩ : E1 = [] ∧ E2 = 0 := by
                  have h := hE3.out
                  rw [if_neg (fun x => hz x.2)] at h
                  simpa using h
                clear hE3 hY hZ
                subst eY eZ
                go_wp2_with fail
                go_ret2
                exact ⟨_, rfl, by show Own _ _ _ _; simpa using HOq.out, HBq.out⟩
            · have eY : Y = -1 := by rw [hY.out, if_neg hy]
              obtain ⟨rfl, rfl⟩ : E1 = [] ∧ E2 = 0 := by
                have h := hE3.out
                rw [if_neg (fun x => hy x.1)] at h
                simpa using h
              clear hE3 hY hZ
              subst eY
              go_wp2_with fail
              go_ret2
              exact ⟨_, rfl, by show Own _ _ _ _; simpa using HOq.out, HBq.out⟩
        · obtain ⟨rfl, rfl⟩ : E1 = [] ∧ E2 = 0 := by
            have h := hE2.out
            rw [if_neg (fun x => h120 x.1)] at h
            simpa using h
          have q0 : ((r : Int) != 120) = true := by simp; omega
          clear hE2
          go_wp2_with fail
          go_ret2
          exact ⟨_, rfl, by show Own _ _ _ _; simpa using HO.out, HB.out⟩
end Go.Proofs.YtcjlgjlediihoaaDoor.Rw

/- appendPiece: one piece written. -/
import Derived.Test.YtcjlgjlediihoaaDoorQh
namespace Go.Proofs.YtcjlgjlediihoaaDoor.Rw
open Go.ChangeShapes Go.WideShapes Go.ChangeAt Go.RowKit
open Go.Proofs.YtcjlgjlediihoaaDoor.Ut
open Go.Proofs.YtcjlgjlediihoaaDoor.By
set_option linter.unusedVariables false
set_option linter.unusedSimpArgs false

def ltv : List Int := [10, 110, 9, 116, 32, 115, 34, 34, 92, 92]
/-- The program's letters lie where they lie. -/
def Lt (w : World) : Prop := ∀ i, i < 10 → w.cell? ⟨1, i, none⟩ = some (.int .i32 (ltv.getD i 0))
theorem Lt.later {w w' : World} (h : Lt w) (b : Below w.heap.size w w') : Lt w' := fun i hi => cell_later b (h i hi)
theorem cell_two (w : World) (a b : Value) (t : TypeId) (i : Nat) (v : Value) (h : #[a, b][i]? = some v) : (w.alloc (.cells #[a, b] t)).cell? ⟨w.heap.size, i, none⟩ = some v := by
  have hb : (w.alloc (.cells #[a, b] t)).heap[w.heap.size]? = some (.cells #[a, b] t) := by
    show (w.heap.push _)[w.heap.size]? = _
    simp
  unfold World.cell?
  simp only [hb]
  first | exact h | simpa using h
/-- Which letter a rune has; 5: none. -/
def li (r : Nat) : Nat := if r = 10 then 0 else if r = 9 then 1 else if r = 32 then 2 else if r = 34 then 3 else if r = 92 then 4 else 5
theorem li_le (r : Nat) : li r ≤ 5 := by
  unfold li
  repeat' split
  all_goals omega
set_option maxRecDepth 1000000 in
set_option maxHeartbeats 4000000 in
theorem piece_stray (v : Value) (xs : List Int) (t : ByteArray) (base : Nat) (w : World) (H : Own w base v xs) (hbase : base ≤ w.heap.size) (h0 : 0 < t.size) (ht : t.size ≤ 1099511627776) (hxl : xs.length ≤ 1099511627776) (hst : Utf8.decode t 0 = (65533, 1)) :
    Calls Tryd.prog 42 #[v, .string t, .int .i32 ((Utf8.decode t 0).1 : Nat)] w fun e w' => ∃ v', e = .returned v' ∧ Own w' base v' (xs ++ pc t 0) ∧ Gr base w w' := by
  have HS := hid (stray_any t h0 w)
  have HH := hid (hex_any v xs (t.extract 0 1) base w H hbase (by rw [ext_size t 0 1 (by omega)]; omega) hxl)
  have hpc : hxs (tx (t.extract 0 1)) = pc t 0 := by
    have h1 : tx (t.extract 0 1) = [((bt t 0 : Nat) : Int)] := by
      rw [tx_ext]
      have hl : 0 < (tx t).length := by rw [tx_len]; exact h0
      have hg := tx_get t 0
      rw [List.getD_eq_getElem?_getD, List.getElem?_eq_getElem hl] at hg
      have hg : (tx t)[0] = ((bt t 0 : Nat) : Int) := hg
      match htx : tx t, hl, hg with
      | [], hl, _ => simp at hl
      | x :: r, _, hg =>
        simp at hg
        subst hg
        simp
    rw [h1]
    unfold pc
    rw [if_pos hst]
    simp [hxs]
  rw [hpc] at HH
  rw [decide_eq_true hst] at HS
  generalize pc t 0 = P at *
  generalize Utf8.decode t 0 = d at *
  clear H hpc hst
  go_enter Tryd.func42, Tryd.ntmps42
  go_wp2_with fail
  refine HS.out.mono ?_
  rintro e w ⟨rfl, rfl⟩
  clear HS
  go_wp2_with fail
  refine HH.out.mono ?_
  rintro e w2 ⟨v2, rfl, O2, b2⟩
  have O2 := hid O2
  have b2 := hid b2
  clear HH
  go_wp2_with fail
  go_ret
  exact ⟨_, rfl, O2.out, b2.out⟩
def lta : Value := .agg #[.int .i32 10, .int .i32 110, .int .i32 9, .int .i32 116, .int .i32 32, .int .i32 115, .int .i32 34, .int .i32 34, .int .i32 92, .int .i32 92]
theorem lta_0 (w : World) : Sem.run Tryd.prog (Instr.index 81 (.agg #[.int .i32 10, .int .i32 110, .int .i32 9, .int .i32 116, .int .i32 32, .int .i32 115, .int .i32 34, .int .i32 34, .int .i32 92, .int .i32 92]) (.int .i64 0)) w = .ok (.agg #[.int .i32 10, .int .i32 110]) w := by kernel_rfl
theorem lta_1 (w : World) : Sem.run Tryd.prog (Instr.index 81 (.agg #[.int .i32 10, .int .i32 110, .int .i32 9, .int .i32 116, .int .i32 32, .int .i32 115, .int .i32 34, .int .i32 34, .int .i32 92, .int .i32 92]) (.int .i64 1)) w = .ok (.agg #[.int .i32 9, .int .i32 116]) w := by kernel_rfl
theorem lta_2 (w : World) : Sem.run Tryd.prog (Instr.index 81 (.agg #[.int .i32 10, .int .i32 110, .int .i32 9, .int .i32 116, .int .i32 32, .int .i32 115, .int .i32 34, .int .i32 34, .int .i32 92, .int .i32 92]) (.int .i64 2)) w = .ok (.agg #[.int .i32 32, .int .i32 115]) w := by kernel_rfl
theorem lta_3 (w : World) : Sem.run Tryd.prog (Instr.index 81 (.agg #[.int .i32 10, .int .i32 110, .int .i32 9, .int .i32 116, .int .i32 32, .int .i32 115, .int .i32 34, .int .i32 34, .int .i32 92, .int .i32 92]) (.int .i64 3)) w = .ok (.agg #[.int .i32 34, .int .i32 34]) w := by kernel_rfl
theorem lta_4 (w : World) : Sem.run Tryd.prog (Instr.index 81 (.agg #[.int .i32 10, .int .i32 110, .int .i32 9, .int .i32 116, .int .i32 32, .int .i32 115, .int .i32 34, .int .i32 34, .int .i32 92, .int .i32 92]) (.int .i64 4)) w = .ok (.agg #[.int .i32 92, .int .i32 92]) w := by kernel_rfl
set_option maxRecDepth 1000000 in
set_option maxHeartbeats 8000000 in
theorem piece_rune (v : Value) (xs : List Int) (t : ByteArray) (base : Nat) (w : World) (T : Hid (Lt w)) (H : Own w base v xs) (hbase : base ≤ w.heap.size) (h0 : 0 < t.size) (ht : t.size ≤ 1099511627776) (hxl : xs.length ≤ 1099511627776) (hst : Utf8.decode t 0 ≠ (65533, 1)) :
    Calls Tryd.prog 42 #[v, .string t, .int .i32 ((Utf8.decode t 0).1 : Nat)] w fun e w' => ∃ v', e = .returned v' ∧ Own w' base v' (xs ++ pc t 0) ∧ Gr base w w' := by
  have HS := hid (stray_any t h0 w)
  rw [decide_eq_false hst] at HS
  have HR := dec_rlen t 0 hst
  have HW := dec_wd t 0 h0
  rw [Nat.zero_add] at HW
  have HP0 : Hid (∀ P, P = pc t 0 → (Utf8.decode t 0).1 = 10 ∧ P = [92, 110] ∨ (Utf8.decode t 0).1 = 9 ∧ P = [92, 116] ∨ (Utf8.decode t 0).1 = 32 ∧ P = [92, 115] ∨ (Utf8.decode t 0).1 = 34 ∧ P = [92, 34] ∨ (Utf8.decode t 0).1 = 92 ∧ P = [92, 92] ∨
      (li (Utf8.decode t 0).1 = 5 ∧ P = if plain (Utf8.decode t 0).1 = true then tx (t.extract 0 (rlen (Utf8.decode t 0).1)) else hxs (tx (t.extract 0 (rlen (Utf8.decode t 0).1))))) := by
    rintro P rfl
    unfold pc li
    rw [if_neg hst, Nat.zero_add, HR.1]
    by_cases a1 : (Utf8.decode t 0).1 = 10
    · rw [if_pos a1]; exact .inl ⟨a1, rfl⟩
    · rw [if_neg a1, if_neg a1]
      by_cases a2 : (Utf8.decode t 0).1 = 9
      · rw [if_pos a2]; exact .inr (.inl ⟨a2, rfl⟩)
      · rw [if_neg a2, if_neg a2]
        by_cases a3 : (Utf8.decode t 0).1 = 32
        · rw [if_pos a3]; exact .inr (.inr (.inl ⟨a3, rfl⟩))
        · rw [if_neg a3, if_neg a3]
          by_cases a4 : (Utf8.decode t 0).1 = 34
          · rw [if_pos a4]; exact .inr (.inr (.inr (.inl ⟨a4, rfl⟩)))
          · rw [if_neg a4, if_neg a4]
            by_cases a5 : (Utf8.decode t 0).1 = 92
            · rw [if_pos a5]; exact .inr (.inr (.inr (.inr (.inl ⟨a5, rfl⟩))))
            · rw [if_neg a5, if_neg a5]
              exact .inr (.inr (.inr (.inr (.inr ⟨rfl, rfl⟩))))
  have hwl : rlen (Utf8.decode t 0).1 ≤ t.size := by rw [← HR.1]; exact HW.2.1
  have hR2 := HR.2
  generalize hd : Utf8.decode t 0 = d at *
  clear hd HR HW hst
  obtain ⟨r, wd⟩ := d
  have hwl : rlen r ≤ t.size := hwl
  have hR1 : ¬ (55296 ≤ r ∧ r ≤ 57343) := hR2.1
  have hR2 : r ≤ 1114111 := hR2.2
  have HP1 := HP0.out _ rfl
  clear HP0
  generalize pc t 0 = P at *
  have HP2 : r = 10 ∧ P = [92, 110] ∨ r = 9 ∧ P = [92, 116] ∨ r = 32 ∧ P = [92, 115] ∨ r = 34 ∧ P = [92, 34] ∨ r = 92 ∧ P = [92, 92] ∨ (li r = 5 ∧ P = if plain r = true then tx (t.extract 0 (rlen r)) else hxs (tx (t.extract 0 (rlen r)))) := HP1
  have HP := hid HP2
  clear HP1 HP2
  have HO := hid H
  clear H
  have hll := li_le r
  have hlv : Hid ((r = 10 → li r = 0) ∧ (r = 9 → li r = 1) ∧ (r = 32 → li r = 2) ∧ (r = 34 → li r = 3) ∧ (r = 92 → li r = 4) ∧ (li r = 0 → r = 10) ∧ (li r = 1 → r = 9) ∧ (li r = 2 → r = 32) ∧ (li r = 3 → r = 34) ∧ (li r = 4 → r = 92)) := by
    unfold li
    refine ⟨?_, ?_, ?_, ?_, ?_, ?_, ?_, ?_, ?_, ?_⟩ <;> (repeat' split) <;> intros <;> omega
  go_enter Tryd.func42, Tryd.ntmps42
  go_wp2_with fail
  refine HS.out.mono ?_
  rintro e w ⟨rfl, rfl⟩
  clear HS
  have c0 : w.cell? ⟨1, 0, none⟩ = some (.int .i32 10) := T.out 0 (by omega)
  have c1 : w.cell? ⟨1, 1, none⟩ = some (.int .i32 110) := T.out 1 (by omega)
  have c2 : w.cell? ⟨1, 2, none⟩ = some (.int .i32 9) := T.out 2 (by omega)
  have c3 : w.cell? ⟨1, 3, none⟩ = some (.int .i32 116) := T.out 3 (by omega)
  have c4 : w.cell? ⟨1, 4, none⟩ = some (.int .i32 32) := T.out 4 (by omega)
  have c5 : w.cell? ⟨1, 5, none⟩ = some (.int .i32 115) := T.out 5 (by omega)
  have c6 : w.cell? ⟨1, 6, none⟩ = some (.int .i32 34) := T.out 6 (by omega)
  have c7 : w.cell? ⟨1, 7, none⟩ = some (.int .i32 34) := T.out 7 (by omega)
  have c8 : w.cell? ⟨1, 8, none⟩ = some (.int .i32 92) := T.out 8 (by omega)
  have c9 : w.cell? ⟨1, 9, none⟩ = some (.int .i32 92) := T.out 9 (by omega)
  clear T
  go_wp2_with fail
  clear c0 c1 c2 c3 c4 c5 c6 c7 c8 c9
  go_loopw [18] (fun i wr => ∃ k : Nat, i = .int .i64 (k : Int) ∧ k ≤ 5 ∧ k ≤ li r ∧ Hid (Own wr base v xs) ∧ Hid (Gr base w wr)) (fun i _ => 5 - (intOf i).toNat)
  case atStart => exact ⟨0, rfl, by omega, by omega, HO.out, Gr.refl _ _⟩
  case round =>
    clear HO
    obtain ⟨k, rfl, hk, hkl, HO, HB⟩ := hrel
    by_cases hlt : k < 5
    · rcases (by omega : k = 0 ∨ k = 1 ∨ k = 2 ∨ k = 3 ∨ k = 4) with rfl | rfl | rfl | rfl | rfl
      · have hix := lta_0
        by_cases hr : r = 10
        · subst hr
          obtain rfl : P = [92, 110] := by
            rcases HP.out with ⟨a, b⟩ | ⟨a, b⟩ | ⟨a, b⟩ | ⟨a, b⟩ | ⟨a, b⟩ | ⟨a, _⟩
            all_goals first | exact b | (exfalso; omega) | (exfalso; revert a; decide)
          clear HP hlv hkl hll hwl hR1 hR2
          have bb : Below wr.heap.size wr ((wr.alloc (.cells #[.int .i32 10, .int .i32 110] 80)).alloc (.cells #[.int .u8 92, .int .u8 110] 5)) := (box_below wr _).trans ((box_below _ _).mono (box_below wr _).size)
          have hO3 := HO.out.later bb
          have hB3 := HB.out.trans (Gr.of_below bb (Nat.le_trans hbase HB.out.size))
          obtain ⟨v4, w4, r4, O4, g4⟩ := app_built _ base v xs [92, 110] (wr.heap.size + 1) 2 hO3 rfl (fun i hi => by
            have hs : (wr.alloc (.cells #[.int .i32 10, .int .i32 110] 80)).heap.size = wr.heap.size + 1 := by show (wr.heap.push _).size = _; simp
            rcases (by omega : i = 0 ∨ i = 1) with rfl | rfl <;> (rw [← hs]; exact cell_two _ _ _ _ _ _ rfl)) (by omega) (Nat.le_trans hbase hB3.size)
          have r4 := hid r4
          have O4 := hid O4
          have B4 := hid (hB3.trans (Gr.grown hO3 g4 (Nat.le_trans hbase hB3.size)))
          clear bb hO3 hB3 g4 HO HB
          go_wp2_with (at_builtin; refine wpList_append_run rfl _ _ 60 60 rfl _ _ _ rfl rfl r4.out ?_)
          clear r4
          go_wp2_with fail
          go_ret
          exact ⟨_, rfl, O4.out, B4.out⟩
        · have hkl2 : 1 ≤ li r := by
            have h1 : li r ≠ 0 := fun h => hr (hlv.out.2.2.2.2.2.1 h)
            omega
          have hne : ((10 : Int) == (r : Int)) = false := by simp; omega
          have O4 := hid (HO.out.later (box_below wr (.cells #[.int .i32 10, .int .i32 110] 80)))
          have B4 := hid (HB.out.trans (Gr.of_below (box_below wr (.cells #[.int .i32 10, .int .i32 110] 80)) (Nat.le_trans hbase HB.out.size)))
          clear HP hlv HO HB
          go_wp2_with fail
          go_roundw
          case rel => exact ⟨1, rfl, by omega, hkl2, O4.out, B4.out⟩
          case measure => simp [intOf]
      · have hix := lta_1
        by_cases hr : r = 9
        · subst hr
          obtain rfl : P = [92, 116] := by
            rcases HP.out with ⟨a, b⟩ | ⟨a, b⟩ | ⟨a, b⟩ | ⟨a, b⟩ | ⟨a, b⟩ | ⟨a, _⟩
            all_goals first | exact b | (exfalso; omega) | (exfalso; revert a; decide)
          clear HP hlv hkl hll hwl hR1 hR2
          have bb : Below wr.heap.size wr ((wr.alloc (.cells #[.int .i32 9, .int .i32 116] 80)).alloc (.cells #[.int .u8 92, .int .u8 116] 5)) := (box_below wr _).trans ((box_below _ _).mono (box_below wr _).size)
          have hO3 := HO.out.later bb
          have hB3 := HB.out.trans (Gr.of_below bb (Nat.le_trans hbase HB.out.size))
          obtain ⟨v4, w4, r4, O4, g4⟩ := app_built _ base v xs [92, 116] (wr.heap.size + 1) 2 hO3 rfl (fun i hi => by
            have hs : (wr.alloc (.cells #[.int .i32 9, .int .i32 116] 80)).heap.size = wr.heap.size + 1 := by show (wr.heap.push _).size = _; simp
            rcases (by omega : i = 0 ∨ i = 1) with rfl | rfl <;> (rw [← hs]; exact cell_two _ _ _ _ _ _ rfl)) (by omega) (Nat.le_trans hbase hB3.size)
          have r4 := hid r4
          have O4 := hid O4
          have B4 := hid (hB3.trans (Gr.grown hO3 g4 (Nat.le_trans hbase hB3.size)))
          clear bb hO3 hB3 g4 HO HB
          go_wp2_with (at_builtin; refine wpList_append_run rfl _ _ 60 60 rfl _ _ _ rfl rfl r4.out ?_)
          clear r4
          go_wp2_with fail
          go_ret
          exact ⟨_, rfl, O4.out, B4.out⟩
        · have hkl2 : 2 ≤ li r := by
            have h1 : li r ≠ 1 := fun h => hr (hlv.out.2.2.2.2.2.2.1 h)
            omega
          have hne : ((9 : Int) == (r : Int)) = false := by simp; omega
          have O4 := hid (HO.out.later (box_below wr (.cells #[.int .i32 9, .int .i32 116] 80)))
          have B4 := hid (HB.out.trans (Gr.of_below (box_below wr (.cells #[.int .i32 9, .int .i32 116] 80)) (Nat.le_trans hbase HB.out.size)))
          clear HP hlv HO HB
          go_wp2_with fail
          go_roundw
          case rel => exact ⟨2, rfl, by omega, hkl2, O4.out, B4.out⟩
          case measure => simp [intOf]
      · have hix := lta_2
        by_cases hr : r = 32
        · subst hr
          obtain rfl : P = [92, 115] := by
            rcases HP.out with ⟨a, b⟩ | ⟨a, b⟩ | ⟨a, b⟩ | ⟨a, b⟩ | ⟨a, b⟩ | ⟨a, _⟩
            all_goals first | exact b | (exfalso; omega) | (exfalso; revert a; decide)
          clear HP hlv hkl hll hwl hR1 hR2
          have bb : Below wr.heap.size wr ((wr.alloc (.cells #[.int .i32 32, .int .i32 115] 80)).alloc (.cells #[.int .u8 92, .int .u8 115] 5)) := (box_below wr _).trans ((box_below _ _).mono (box_below wr _).size)
          have hO3 := HO.out.later bb
          have hB3 := HB.out.trans (Gr.of_below bb (Nat.le_trans hbase HB.out.size))
          obtain ⟨v4, w4, r4, O4, g4⟩ := app_built _ base v xs [92, 115] (wr.heap.size + 1) 2 hO3 rfl (fun i hi => by
            have hs : (wr.alloc (.cells #[.int .i32 32, .int .i32 115] 80)).heap.size = wr.heap.size + 1 := by show (wr.heap.push _).size = _; simp
            rcases (by omega : i = 0 ∨ i = 1) with rfl | rfl <;> (rw [← hs]; exact cell_two _ _ _ _ _ _ rfl)) (by omega) (Nat.le_trans hbase hB3.size)
          have r4 := hid r4
          have O4 := hid O4
          have B4 := hid (hB3.trans (Gr.grown hO3 g4 (Nat.le_trans hbase hB3.size)))
          clear bb hO3 hB3 g4 HO HB
          go_wp2_with (at_builtin; refine wpList_append_run rfl _ _ 60 60 rfl _ _ _ rfl rfl r4.out ?_)
          clear r4
          go_wp2_with fail
          go_ret
          exact ⟨_, rfl, O4.out, B4.out⟩
        · have hkl2 : 3 ≤ li r := by
            have h1 : li r ≠ 2 := fun h => hr (hlv.out.2.2.2.2.2.2.2.1 h)
            omega
          have hne : ((32 : Int) == (r : Int)) = false := by simp; omega
          have O4 := hid (HO.out.later (box_below wr (.cells #[.int .i32 32, .int .i32 115] 80)))
          have B4 := hid (HB.out.trans (Gr.of_below (box_below wr (.cells #[.int .i32 32, .int .i32 115] 80)) (Nat.le_trans hbase HB.out.size)))
          clear HP hlv HO HB
          go_wp2_with fail
          go_roundw
          case rel => exact ⟨3, rfl, by omega, hkl2, O4.out, B4.out⟩
          case measure => simp [intOf]
      · have hix := lta_3
        by_cases hr : r = 34
        · subst hr
          obtain rfl : P = [92, 34] := by
            rcases HP.out with ⟨a, b⟩ | ⟨a, b⟩ | ⟨a, b⟩ | ⟨a, b⟩ | ⟨a, b⟩ | ⟨a, _⟩
            all_goals first | exact b | (exfalso; omega) | (exfalso; revert a; decide)
          clear HP hlv hkl hll hwl hR1 hR2
          have bb : Below wr.heap.size wr ((wr.alloc (.cells #[.int .i32 34, .int .i32 34] 80)).alloc (.cells #[.int .u8 92, .int .u8 34] 5)) := (box_below wr _).trans ((box_below _ _).mono (box_below wr _).size)
          have hO3 := HO.out.later bb
          have hB3 := HB.out.trans (Gr.of_below bb (Nat.le_trans hbase HB.out.size))
          obtain ⟨v4, w4, r4, O4, g4⟩ := app_built _ base v xs [92, 34] (wr.heap.size + 1) 2 hO3 rfl (fun i hi => by
            have hs : (wr.alloc (.cells #[.int .i32 34, .int .i32 34] 80)).heap.size = wr.heap.size + 1 := by show (wr.heap.push _).size = _; simp
            rcases (by omega : i = 0 ∨ i = 1) with rfl | rfl <;> (rw [← hs]; exact cell_two _ _ _ _ _ _ rfl)) (by omega) (Nat.le_trans hbase hB3.size)
          have r4 := hid r4
          have O4 := hid O4
          have B4 := hid (hB3.trans (Gr.grown hO3 g4 (Nat.le_trans hbase hB3.size)))
          clear bb hO3 hB3 g4 HO HB
          go_wp2_with (at_builtin; refine wpList_append_run rfl _ _ 60 60 rfl _ _ _ rfl rfl r4.out ?_)
          clear r4
          go_wp2_with fail
          go_ret
          exact ⟨_, rfl, O4.out, B4.out⟩
        · have hkl2 : 4 ≤ li r := by
            have h1 : li r ≠ 3 := fun h => hr (hlv.out.2.2.2.2.2.2.2.2.1 h)
            omega
          have hne : ((34 : Int) == (r : Int)) = false := by simp; omega
          have O4 := hid (HO.out.later (box_below wr (.cells #[.int .i32 34, .int .i32 34] 80)))
          have B4 := hid (HB.out.trans (Gr.of_below (box_below wr (.cells #[.int .i32 34, .int .i32 34] 80)) (Nat.le_trans hbase HB.out.size)))
          clear HP hlv HO HB
          go_wp2_with fail
          go_roundw
          case rel => exact ⟨4, rfl, by omega, hkl2, O4.out, B4.out⟩
          case measure => simp [intOf]
      · have hix := lta_4
        by_cases hr : r = 92
        · subst hr
          obtain rfl : P = [92, 92] := by
            rcases HP.out with ⟨a, b⟩ | ⟨a, b⟩ | ⟨a, b⟩ | ⟨a, b⟩ | ⟨a, b⟩ | ⟨a, _⟩
            all_goals first | exact b | (exfalso; omega) | (exfalso; revert a; decide)
          clear HP hlv hkl hll hwl hR1 hR2
          have bb : Below wr.heap.size wr ((wr.alloc (.cells #[.int .i32 92, .int .i32 92] 80)).alloc (.cells #[.int .u8 92, .int .u8 92] 5)) := (box_below wr _).trans ((box_below _ _).mono (box_below wr _).size)
          have hO3 := HO.out.later bb
          have hB3 := HB.out.trans (Gr.of_below bb (Nat.le_trans hbase HB.out.size))
          obtain ⟨v4, w4, r4, O4, g4⟩ := app_built _ base v xs [92, 92] (wr.heap.size + 1) 2 hO3 rfl (fun i hi => by
            have hs : (wr.alloc (.cells #[.int .i32 92, .int .i32 92] 80)).heap.size = wr.heap.size + 1 := by show (wr.heap.push _).size = _; simp
            rcases (by omega : i = 0 ∨ i = 1) with rfl | rfl <;> (rw [← hs]; exact cell_two _ _ _ _ _ _ rfl)) (by omega) (Nat.le_trans hbase hB3.size)
          have r4 := hid r4
          have O4 := hid O4
          have B4 := hid (hB3.trans (Gr.grown hO3 g4 (Nat.le_trans hbase hB3.size)))
          clear bb hO3 hB3 g4 HO HB
          go_wp2_with (at_builtin; refine wpList_append_run rfl _ _ 60 60 rfl _ _ _ rfl rfl r4.out ?_)
          clear r4
          go_wp2_with fail
          go_ret
          exact ⟨_, rfl, O4.out, B4.out⟩
        · have hkl2 : 5 ≤ li r := by
            have h1 : li r ≠ 4 := fun h => hr (hlv.out.2.2.2.2.2.2.2.2.2 h)
            omega
          have hne : ((92 : Int) == (r : Int)) = false := by simp; omega
          have O4 := hid (HO.out.later (box_below wr (.cells #[.int .i32 92, .int .i32 92] 80)))
          have B4 := hid (HB.out.trans (Gr.of_below (box_below wr (.cells #[.int .i32 92, .int .i32 92] 80)) (Nat.le_trans hbase HB.out.size)))
          clear HP hlv HO HB
          go_wp2_with fail
          go_roundw
          case rel => exact ⟨5, rfl, by omega, hkl2, O4.out, B4.out⟩
          case measure => simp [intOf]
    · have hk5 : k = 5 := by omega
      have hl5 : li r = 5 := by omega
      subst hk5
      have HPx : P = if plain r = true then tx (t.extract 0 (rlen r)) else hxs (tx (t.extract 0 (rlen r))) := by
        rcases HP.out with ⟨a, _⟩ | ⟨a, _⟩ | ⟨a, _⟩ | ⟨a, _⟩ | ⟨a, _⟩ | ⟨_, b⟩
        · have := hlv.out.1 a; omega
        · have := hlv.out.2.1 a; omega
        · have := hlv.out.2.2.1 a; omega
        · have := hlv.out.2.2.2.1 a; omega
        · have := hlv.out.2.2.2.2.1 a; omega
        · exact b
      clear HP hlv hl5 hkl hll hk hlt
      have HN := hid (rlen_any r hR1 hR2 wr)
      have HT := hid (stands_any r wr)
      generalize rlen r = n at *
      go_wp2_with fail
      refine HN.out.mono ?_
      rintro e wr ⟨rfl, rfl⟩
      clear HN
      go_wp2_with fail
      refine HT.out.mono ?_
      rintro e wr ⟨rfl, rfl⟩
      clear HT
      cases hpl : plain r with
      | true =>
        rw [hpl, if_pos rfl] at HPx
        obtain ⟨v4, w4, r4, O4, g4⟩ := app_text wr base v xs (t.extract 0 n) HO.out (by rw [ext_size t 0 n hwl]; omega) (Nat.le_trans hbase HB.out.size)
        rw [← HPx] at O4
        have O4 := hid O4
        have B4 := hid (HB.out.trans (Gr.grown HO.out g4 (Nat.le_trans hbase HB.out.size)))
        have r4 := hid r4
        clear g4 HO HB HPx
        go_wp2_with (at_builtin; refine wpList_append_run rfl _ _ 60 9 rfl _ _ _ rfl rfl r4.out ?_)
        clear r4
        go_wp2_with fail
        go_ret
        exact ⟨_, rfl, O4.out, B4.out⟩
      | false =>
        rw [hpl, if_neg (by simp)] at HPx
        have HX := hid (hex_any v xs (t.extract 0 n) base wr HO.out (Nat.le_trans hbase HB.out.size) (by rw [ext_size t 0 n hwl]; omega) hxl)
        rw [← HPx] at HX
        clear HO HPx
        go_wp2_with fail
        refine HX.out.mono ?_
        rintro e w2 ⟨v2, rfl, O2, b2⟩
        have O2 := hid O2
        have b2 := hid (HB.out.trans b2)
        clear HX HB
        go_wp2_with fail
        go_ret
        exact ⟨_, rfl, O2.out, b2.out⟩
/-- appendPiece. -/
theorem piece_any (v : Value) (xs : List Int) (t : ByteArray) (base : Nat) (w : World) (T : Hid (Lt w)) (H : Own w base v xs) (hbase : base ≤ w.heap.size) (h0 : 0 < t.size) (ht : t.size ≤ 1099511627776) (hxl : xs.length ≤ 1099511627776) :
    Calls Tryd.prog 42 #[v, .string t, .int .i32 ((Utf8.decode t 0).1 : Nat)] w fun e w' => ∃ v', e = .returned v' ∧ Own w' base v' (xs ++ pc t 0) ∧ Gr base w w' := by
  by_cases hst : Utf8.decode t 0 = (65533, 1)
  · exact piece_stray v xs t base w H hbase h0 ht hxl hst
  · exact piece_rune v xs t base w T H hbase h0 ht hxl hst
end Go.Proofs.YtcjlgjlediihoaaDoor.Rw

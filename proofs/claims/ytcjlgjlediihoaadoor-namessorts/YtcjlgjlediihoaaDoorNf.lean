/- Name of any kind and number. -/
import Derived.Test.YtcjlgjlediihoaaDoorNa
namespace Go.Proofs.YtcjlgjlediihoaaDoor.Rw
open Go.ChangeShapes Go.WideShapes Go.ChangeAt Go.RowKit
open Go.Proofs.YtcjlgjlediihoaaDoor.Ut
open Go.Proofs.YtcjlgjlediihoaaDoor.By
set_option linter.unusedVariables false
set_option linter.unusedSimpArgs false

def fmv : List Value := [.int .i64 1, .string ⟨#[]⟩, .string ⟨#[46, 108, 111, 103]⟩, .int .i64 2, .string ⟨#[]⟩, .string ⟨#[46, 116, 97, 98]⟩, .int .i64 3, .string ⟨#[77, 65, 78, 73, 70, 69, 83, 84, 45]⟩, .string ⟨#[]⟩, .int .i64 5, .string ⟨#[]⟩, .string ⟨#[46, 116, 109, 112]⟩]
/-- The forms of the names lie where they lie. -/
def Fm (w : World) : Prop := ∀ i v, fmv[i]? = some v → w.cell? ⟨0, i, none⟩ = some v
theorem Fm.later {w w' : World} (h : Fm w) (b : Below w.heap.size w w') : Fm w' := fun i v hv => cell_later b (h i v hv)
theorem cell_three (w : World) (a b c : Value) (t : TypeId) (i : Nat) (v : Value) (h : #[a, b, c][i]? = some v) : (w.alloc (.cells #[a, b, c] t)).cell? ⟨w.heap.size, i, none⟩ = some v := by
  have hb : (w.alloc (.cells #[a, b, c] t)).heap[w.heap.size]? = some (.cells #[a, b, c] t) := by
    show (w.heap.push _)[w.heap.size]? = _
    simp
  unfold World.cell?
  simp only [hb]
  first | exact h | simpa using h
def fk : Nat → Int | 0 => 1 | 1 => 2 | 2 => 3 | _ => 5
def fa : Nat → ByteArray | 2 => ⟨#[77, 65, 78, 73, 70, 69, 83, 84, 45]⟩ | _ => ⟨#[]⟩
def fo : Nat → ByteArray | 0 => ⟨#[46, 108, 111, 103]⟩ | 1 => ⟨#[46, 116, 97, 98]⟩ | 2 => ⟨#[]⟩ | _ => ⟨#[46, 116, 109, 112]⟩
theorem fk_ne4 (k : Nat) : fk k ≠ 4 := by
  unfold fk
  split <;> decide
theorem fma_0 (w : World) : Sem.run Tryd.prog (Instr.index 50 (.agg #[.int .i64 1, .string ⟨#[]⟩, .string ⟨#[46, 108, 111, 103]⟩, .int .i64 2, .string ⟨#[]⟩, .string ⟨#[46, 116, 97, 98]⟩, .int .i64 3, .string ⟨#[77, 65, 78, 73, 70, 69, 83, 84, 45]⟩, .string ⟨#[]⟩, .int .i64 5, .string ⟨#[]⟩, .string ⟨#[46, 116, 109, 112]⟩]) (.int .i64 0)) w = .ok (.agg #[.int .i64 1, .string ⟨#[]⟩, .string ⟨#[46, 108, 111, 103]⟩]) w := by kernel_rfl
theorem fma_1 (w : World) : Sem.run Tryd.prog (Instr.index 50 (.agg #[.int .i64 1, .string ⟨#[]⟩, .string ⟨#[46, 108, 111, 103]⟩, .int .i64 2, .string ⟨#[]⟩, .string ⟨#[46, 116, 97, 98]⟩, .int .i64 3, .string ⟨#[77, 65, 78, 73, 70, 69, 83, 84, 45]⟩, .string ⟨#[]⟩, .int .i64 5, .string ⟨#[]⟩, .string ⟨#[46, 116, 109, 112]⟩]) (.int .i64 1)) w = .ok (.agg #[.int .i64 2, .string ⟨#[]⟩, .string ⟨#[46, 116, 97, 98]⟩]) w := by kernel_rfl
theorem fma_2 (w : World) : Sem.run Tryd.prog (Instr.index 50 (.agg #[.int .i64 1, .string ⟨#[]⟩, .string ⟨#[46, 108, 111, 103]⟩, .int .i64 2, .string ⟨#[]⟩, .string ⟨#[46, 116, 97, 98]⟩, .int .i64 3, .string ⟨#[77, 65, 78, 73, 70, 69, 83, 84, 45]⟩, .string ⟨#[]⟩, .int .i64 5, .string ⟨#[]⟩, .string ⟨#[46, 116, 109, 112]⟩]) (.int .i64 2)) w = .ok (.agg #[.int .i64 3, .string ⟨#[77, 65, 78, 73, 70, 69, 83, 84, 45]⟩, .string ⟨#[]⟩]) w := by kernel_rfl
theorem fma_3 (w : World) : Sem.run Tryd.prog (Instr.index 50 (.agg #[.int .i64 1, .string ⟨#[]⟩, .string ⟨#[46, 108, 111, 103]⟩, .int .i64 2, .string ⟨#[]⟩, .string ⟨#[46, 116, 97, 98]⟩, .int .i64 3, .string ⟨#[77, 65, 78, 73, 70, 69, 83, 84, 45]⟩, .string ⟨#[]⟩, .int .i64 5, .string ⟨#[]⟩, .string ⟨#[46, 116, 109, 112]⟩]) (.int .i64 3)) w = .ok (.agg #[.int .i64 5, .string ⟨#[]⟩, .string ⟨#[46, 116, 109, 112]⟩]) w := by kernel_rfl
theorem fma (k : Nat) (hk : k < 4) (w : World) : Sem.run Tryd.prog (Instr.index 50 (.agg #[.int .i64 1, .string ⟨#[]⟩, .string ⟨#[46, 108, 111, 103]⟩, .int .i64 2, .string ⟨#[]⟩, .string ⟨#[46, 116, 97, 98]⟩, .int .i64 3, .string ⟨#[77, 65, 78, 73, 70, 69, 83, 84, 45]⟩, .string ⟨#[]⟩, .int .i64 5, .string ⟨#[]⟩, .string ⟨#[46, 116, 109, 112]⟩]) (.int .i64 (k : Int))) w = .ok (.agg #[.int .i64 (fk k), .string (fa k), .string (fo k)]) w := by
  match k, hk with
  | 0, _ => exact fma_0 w
  | 1, _ => exact fma_1 w
  | 2, _ => exact fma_2 w
  | 3, _ => exact fma_3 w
def fmo (k n : Nat) : ByteArray := fa k ++ ⟨(pz n).toArray⟩ ++ fo k
def nm (kind number : Int) : ByteArray × Int :=
  if kind = 4 ∧ number = 0 then (⟨#[67, 85, 82, 82, 69, 78, 84]⟩, 0)
  else if number < 1 ∨ 2147483647 < number then (⟨#[]⟩, 60)
  else if kind = 1 then (fmo 0 number.toNat, 0) else if kind = 2 then (fmo 1 number.toNat, 0) else if kind = 3 then (fmo 2 number.toNat, 0) else if kind = 5 then (fmo 3 number.toNat, 0)
  else (⟨#[]⟩, 60)
theorem nm_at (k : Nat) (hk : k < 4) (n : Nat) (h1 : 1 ≤ n) (h2 : n ≤ 2147483647) : nm (fk k) (n : Int) = (fmo k n, 0) := by
  have e : ((n : Int)).toNat = n := by omega
  unfold nm
  rw [if_neg (by omega), if_neg (by omega), e]
  match k, hk with
  | 0, _ => rfl
  | 1, _ => rfl
  | 2, _ => rfl
  | 3, _ => rfl
theorem nm_no (kind : Int) (n : Nat) (h1 : 1 ≤ n) (h : ∀ j, j < 4 → fk j ≠ kind) : nm kind (n : Int) = (⟨#[]⟩, 60) := by
  have a0 : (1 : Int) ≠ kind := h 0 (by omega)
  have a1 : (2 : Int) ≠ kind := h 1 (by omega)
  have a2 : (3 : Int) ≠ kind := h 2 (by omega)
  have a3 : (5 : Int) ≠ kind := h 3 (by omega)
  unfold nm
  rw [if_neg (by omega)]
  by_cases hn : (n : Int) < 1 ∨ 2147483647 < (n : Int)
  · rw [if_pos hn]
  · rw [if_neg hn, if_neg (by omega), if_neg (by omega), if_neg (by omega), if_neg (by omega)]
theorem pz_len (n : Nat) (h : n ≤ 2147483647) : (⟨(pz n).toArray⟩ : ByteArray).size ≤ 30 := by
  show (pz n).toArray.size ≤ 30
  have hl := Lib.itoa_length_le (n : Int) (by omega) (by omega)
  rw [Lib.itoa_nonneg] at hl
  rw [List.size_toArray, pz, List.length_append, Lib.repeatL_length]
  simp only [List.length_cons, List.length_nil]
  omega
theorem fa_len (k : Nat) : (fa k).size ≤ 9 := by
  unfold fa
  split <;> decide
theorem fo_len (k : Nat) : (fo k).size ≤ 4 := by
  unfold fo
  split <;> decide
set_option maxRecDepth 1000000 in
set_option maxHeartbeats 1000000 in
theorem name_num (kind : Int) (n : Nat) (h1 : 1 ≤ n) (h2 : n ≤ 2147483647) (w : World) (T : Hid (Fm w)) (U : Hid (Tb w)) : Calls Tryd.prog 9 #[.int .i64 kind, .int .i64 (n : Int)] w fun e w' => e = .returned (.tuple #[.string (nm kind (n : Int)).1, .int .i64 (nm kind (n : Int)).2]) ∧ Below w.heap.size w w' := by
  have c0 : w.cell? ⟨0, 0, none⟩ = some (.int .i64 1) := T.out 0 _ rfl
  have c1 : w.cell? ⟨0, 1, none⟩ = some (.string ⟨#[]⟩) := T.out 1 _ rfl
  have c2 : w.cell? ⟨0, 2, none⟩ = some (.string ⟨#[46, 108, 111, 103]⟩) := T.out 2 _ rfl
  have c3 : w.cell? ⟨0, 3, none⟩ = some (.int .i64 2) := T.out 3 _ rfl
  have c4 : w.cell? ⟨0, 4, none⟩ = some (.string ⟨#[]⟩) := T.out 4 _ rfl
  have c5 : w.cell? ⟨0, 5, none⟩ = some (.string ⟨#[46, 116, 97, 98]⟩) := T.out 5 _ rfl
  have c6 : w.cell? ⟨0, 6, none⟩ = some (.int .i64 3) := T.out 6 _ rfl
  have c7 : w.cell? ⟨0, 7, none⟩ = some (.string ⟨#[77, 65, 78, 73, 70, 69, 83, 84, 45]⟩) := T.out 7 _ rfl
  have c8 : w.cell? ⟨0, 8, none⟩ = some (.string ⟨#[]⟩) := T.out 8 _ rfl
  have c9 : w.cell? ⟨0, 9, none⟩ = some (.int .i64 5) := T.out 9 _ rfl
  have c10 : w.cell? ⟨0, 10, none⟩ = some (.string ⟨#[]⟩) := T.out 10 _ rfl
  have c11 : w.cell? ⟨0, 11, none⟩ = some (.string ⟨#[46, 116, 109, 112]⟩) := T.out 11 _ rfl
  clear T
  obtain ⟨R, hR⟩ : ∃ R, R = nm kind (n : Int) := ⟨_, rfl⟩
  rw [← hR]
  have HRh := hid hR
  clear hR
  have hn0 : ¬ (n : Int) = 0 := by omega
  have hn1 : ¬ (n : Int) < 1 := by omega
  have hn2 : ¬ 2147483647 < (n : Int) := by omega
  go_enter Tryd.func9, Tryd.ntmps9
  by_cases hk4 : kind = 4
  all_goals go_wp2_with fail
  all_goals
    clear c0 c1 c2 c3 c4 c5 c6 c7 c8 c9 c10 c11
    go_loopw [21] (fun i wr => ∃ k : Nat, i = .int .i64 (k : Int) ∧ k ≤ 4 ∧ Hid (Below w.heap.size w wr) ∧ Hid (∀ j, j < k → fk j ≠ kind)) (fun i _ => match i with | .int _ z => (4 - z).toNat | _ => 0)
    case atStart => exact ⟨0, rfl, by omega, Below.refl _ _, fun j hj => absurd hj (by omega)⟩
    case round =>
      obtain ⟨k, rfl, hkle, B, hno⟩ := hrel
      by_cases hk : k < 4
      · have hix := fma k hk
        have hnk : (k : Int) < 4 := by omega
        have al := hid (fa_len k)
        have ol := hid (fo_len k)
        have hat := hid (nm_at k hk n h1 h2)
        have hfm : Hid (fmo k n = fa k ++ ⟨(pz n).toArray⟩ ++ fo k) := rfl
        obtain ⟨f, hf⟩ : ∃ f, f = fk k := ⟨_, rfl⟩
        rw [← hf] at hix hat
        generalize fa k = a at hix al hfm
        generalize fo k = o at hix ol hfm
        have hfh := hid hf
        clear hf
        have hf4 : Hid (f ≠ 4) := by
          show f ≠ 4
          rw [hfh.out]
          exact fk_ne4 k
        by_cases hkk : f = kind
        · have hk4' : kind ≠ 4 := fun h => hf4.out (hkk.trans h)
          first
            | exact absurd hk4 hk4'
            | subst hkk
              have HD : Hid (∀ d os, Calls Tryd.prog 29 #[.int .i64 (n : Int)] (Sort.grow (redrawn (wr.alloc (.cells #[.int .i64 f, .string a, .string o] 49)) d) os) fun e w' => e = .returned (.string ⟨(pz n).toArray⟩) ∧ Below (Sort.grow (redrawn (wr.alloc (.cells #[.int .i64 f, .string a, .string o] 49)) d) os).heap.size (Sort.grow (redrawn (wr.alloc (.cells #[.int .i64 f, .string a, .string o] 49)) d) os) w') := fun d os => digits_any n h2 _ ((U.out.later B.out).later ((box_below wr _).trans ((below_regrown _ d os).mono (box_below wr _).size)))
              have b1 := box_below wr (.cells #[.int .i64 f, .string a, .string o] 49)
              have p1 : (wr.alloc (.cells #[.int .i64 f, .string a, .string o] 49)).cell? ⟨wr.heap.size, 1, none⟩ = some (.string a) := cell_three _ _ _ _ _ _ _ rfl
              have p2 : (wr.alloc (.cells #[.int .i64 f, .string a, .string o] 49)).cell? ⟨wr.heap.size, 2, none⟩ = some (.string o) := cell_three _ _ _ _ _ _ _ rfl
              have d1 := fun d os => cell_regrown p1 d os
              have d2 := fun d os => cell_regrown p2 d os
              have dl := pz_len n h2
              have al := al.out
              have ol := ol.out
              generalize (⟨(pz n).toArray⟩ : ByteArray) = ds at HD dl hfm
              have s1 : (a ++ ds).size ≤ 39 := by rw [ByteArray.size_append]; omega
              go_wp2_with fail
              refine wp_region_quiet_below (by kernel_rfl) (by kernel_rfl) ?_
              repeat (first | go_big_quiet_step (first | (go_at_call 29; exact Calls.regrown_of (HD.out _ _))) | quiet_step (first | (go_at_call 29; exact Calls.regrown_of (HD.out _ _))))
              refine wpQuiet_nil ?_
              intro _ hw'
              obtain ⟨⟨dq, osq⟩, hw''⟩ := hw'
              subst hw''
              have bq := hid (B.out.trans ((b1.trans ((below_regrown _ dq osq).mono b1.size)).mono B.out.size))
              clear b1 p1 p2 d1 d2 HD
              go_wp2_with fail
              go_ret2
              exact ⟨by rw [HRh.out, hat.out, hfm.out]; rfl, bq.out⟩
        · go_wp2_with fail
          refine ⟨⟨k + 1, by push_cast; rfl, by omega, B.out.trans ((box_below wr _).mono B.out.size), fun j hj => ?_⟩, ?_⟩
          · rcases Nat.lt_or_ge j k with h | h
            · exact hno.out j h
            · have : j = k := by omega
              subst this
              rw [← hfh.out]
              exact hkk
          · show (4 - ((k : Int) + 1)).toNat < (4 - (k : Int)).toNat
            omega
      · have hnk : ¬ (k : Int) < 4 := by omega
        have hr := hid (nm_no kind n h1 (fun j hj => hno.out j (by omega)))
        go_wp2_with fail
        go_ret2
        exact ⟨by rw [HRh.out, hr.out]; rfl, B.out⟩
end Go.Proofs.YtcjlgjlediihoaaDoor.Rw

/- The order in which putIn sorts a level, and its closure. -/
import Derived.Test.YtkpihibeohjfnaaVp
import Derived.Test.YtkpihibeohjfnaaLx
import Derived.Shelf.SlSortCmp.InsertionK
namespace Go.Proofs.Ytkpihibeohjfnaa.Cq
open Go.ChangeShapes Go.WideShapes Go.ChangeAt Go.RowKit
open Go.Sort (grow SWO)
open Go.Sort (alloc_eq_grow grow_grow)
open Go.Proofs.Ytkpihibeohjfnaa.Gr
open Go.Proofs.Ytkpihibeohjfnaa.Ev
open Go.Proofs.Ytkpihibeohjfnaa.Vp
open Go.Proofs.Ytkpihibeohjfnaa.Lx (lt)
set_option linter.unusedVariables false
set_option linter.unusedSimpArgs false

theorem nanI (a : Int) (w : World) : Calls Try.prog 69 #[.int .i64 a] w fun e w' => e = .returned (.bool false) ∧ w' = w := by
  go_enter Try.func69, Try.ntmps69
  go_wp2_with fail
  go_ret
  simp
theorem nanS (a : ByteArray) (w : World) : Calls Try.prog 70 #[.string a] w fun e w' => e = .returned (.bool false) ∧ w' = w := by
  go_enter Try.func70, Try.ntmps70
  go_wp2_with fail
  go_ret
  simp
def cI (a b : Int) : Int := if a < b then -1 else if b < a then 1 else 0
def cS (a b : ByteArray) : Int := if lt a b = true then -1 else if lt b a = true then 1 else 0
theorem cmpI (a b : Int) (w : World) : Calls Try.prog 62 #[.int .i64 a, .int .i64 b] w fun e w' => e = .returned (.int .i64 (cI a b)) ∧ w' = w := by
  have n1 := hid (nanI a)
  have n2 := hid (nanI b)
  unfold cI
  by_cases h1 : a < b
  · rw [if_pos h1]
    go_enter Try.func62, Try.ntmps62
    go_wp2_with (first | (go_at_call 69; with_reducible refine (n1.out _).mono ?_; rintro e w' ⟨rfl, rfl⟩) | (go_at_call 69; with_reducible refine (n2.out _).mono ?_; rintro e w' ⟨rfl, rfl⟩))
    go_ret
    simp
  · rw [if_neg h1]
    by_cases h2 : b < a
    · rw [if_pos h2]
      go_enter Try.func62, Try.ntmps62
      go_wp2_with (first | (go_at_call 69; with_reducible refine (n1.out _).mono ?_; rintro e w' ⟨rfl, rfl⟩) | (go_at_call 69; with_reducible refine (n2.out _).mono ?_; rintro e w' ⟨rfl, rfl⟩))
      go_ret
      simp
    · rw [if_neg h2]
      go_enter Try.func62, Try.ntmps62
      go_wp2_with (first | (go_at_call 69; with_reducible refine (n1.out _).mono ?_; rintro e w' ⟨rfl, rfl⟩) | (go_at_call 69; with_reducible refine (n2.out _).mono ?_; rintro e w' ⟨rfl, rfl⟩))
      go_ret
      simp
theorem lss_s (t : TypeId) (a b : ByteArray) : binOp .lss t (.string a) (.string b) = pure (.bool (lt a b)) := rfl
theorem cmpS (a b : ByteArray) (w : World) : Calls Try.prog 63 #[.string a, .string b] w fun e w' => e = .returned (.int .i64 (cS a b)) ∧ w' = w := by
  have n1 := hid (nanS a)
  have n2 := hid (nanS b)
  have g1 := lss_s 9 a b
  have g2 := Lx.gtr_s 9 a b
  change binOp .gtr 9 (.string a) (.string b) = pure (.bool (lt b a)) at g2
  unfold cS
  generalize lt a b = x at *
  generalize lt b a = y at *
  cases x
  · cases y
    · rw [if_neg (by simp), if_neg (by simp)]
      go_enter Try.func63, Try.ntmps63
      go_wp2_with (first | (go_at_call 70; with_reducible refine (n1.out _).mono ?_; rintro e w' ⟨rfl, rfl⟩) | (go_at_call 70; with_reducible refine (n2.out _).mono ?_; rintro e w' ⟨rfl, rfl⟩))
      go_ret
      simp
    · rw [if_neg (by simp), if_pos rfl]
      go_enter Try.func63, Try.ntmps63
      go_wp2_with (first | (go_at_call 70; with_reducible refine (n1.out _).mono ?_; rintro e w' ⟨rfl, rfl⟩) | (go_at_call 70; with_reducible refine (n2.out _).mono ?_; rintro e w' ⟨rfl, rfl⟩))
      go_ret
      simp
  · rw [if_pos rfl]
    go_enter Try.func63, Try.ntmps63
    go_wp2_with (first | (go_at_call 70; with_reducible refine (n1.out _).mono ?_; rintro e w' ⟨rfl, rfl⟩) | (go_at_call 70; with_reducible refine (n2.out _).mono ?_; rintro e w' ⟨rfl, rfl⟩))
    go_ret
    simp
/-- The order of a level. -/
def cF (lv : Nat) (x y : Fi) : Int := if lv = 0 then cI x.n y.n else cS x.a y.a
set_option maxHeartbeats 1000000 in
theorem closure (lv g : Nat) (x y : Fi) (W : World) (hc : W.cell? ⟨g, 0, none⟩ = some (.int .i64 lv)) : Calls Try.prog 61 #[.agg (fcs x).toArray, .agg (fcs y).toArray, .pointer (some ⟨g, 0, none⟩)] W fun e w' => e = .returned (.int .i64 (cF lv x y)) ∧ ∃ q os', w' = grow (W.drewN q) os' := by
  obtain ⟨n, z, s, t, lo, hi⟩ := x
  obtain ⟨n', z', s', t', lo', hi'⟩ := y
  unfold cF
  dsimp only [fcs]
  have c1 := hid (cmpI n n')
  have c2 := hid (cmpS s s')
  generalize cI n n' = A at *
  generalize cS s s' = B at *
  have hc1 : (W.alloc (.cells #[.int .i64 n, .int .i64 z, .string s, .string t, .int .u64 lo, .int .u64 hi] 43)).cell? ⟨g, 0, none⟩ = some (.int .i64 lv) := ((box_below _ _).cell (block_lt_of_cell hc)).trans hc
  have hc2 : ((W.alloc (.cells #[.int .i64 n, .int .i64 z, .string s, .string t, .int .u64 lo, .int .u64 hi] 43)).alloc (.cells #[.int .i64 n', .int .i64 z', .string s', .string t', .int .u64 lo', .int .u64 hi'] 43)).cell? ⟨g, 0, none⟩ = some (.int .i64 lv) := ((box_below _ _).cell (block_lt_of_cell hc1)).trans hc1
  clear hc hc1
  by_cases h : lv = 0
  · subst h
    rw [if_pos rfl]
    go_enter Try.func61, Try.ntmps61
    go_wp2_with (first | (go_at_call 62; refine (c1.out _).mono ?_; rintro e w' ⟨rfl, rfl⟩))
    go_ret
    exact ⟨rfl, 0, _, by rw [alloc_eq_grow, alloc_eq_grow, grow_grow]; rfl⟩
  · rw [if_neg h]
    have hb : ((lv : Int) == 0) = false := by rw [beq_eq_false_iff_ne]; omega
    go_enter Try.func61, Try.ntmps61
    go_wp2_with (first | (go_at_call 63; refine (c2.out _).mono ?_; rintro e w' ⟨rfl, rfl⟩))
    go_ret
    exact ⟨rfl, 0, _, by rw [alloc_eq_grow, alloc_eq_grow, grow_grow]; rfl⟩
theorem ltI (a b : Int) : decide (cI a b < 0) = decide (a < b) := by
  unfold cI
  by_cases h1 : a < b
  · simp [h1]
  · by_cases h2 : b < a <;> simp [h1, h2]
theorem ltS (a b : ByteArray) : decide (cS a b < 0) = lt a b := by
  unfold cS
  cases lt a b <;> cases lt b a <;> simp
/-- Below in a level. -/
def lF (lv : Nat) (x y : Fi) : Bool := if lv = 0 then decide (x.n < y.n) else lt x.a y.a
theorem ltF (lv : Nat) : ltOf (cF lv) = lF lv := by
  funext x y
  unfold ltOf cF lF
  split
  · exact ltI _ _
  · exact ltS _ _
theorem swoF (lv : Nat) : SWO (ltOf (cF lv)) := by
  rw [ltF]
  unfold lF
  by_cases h : lv = 0
  · simp only [if_pos h]
    exact ⟨fun x => by simp, fun x y z h1 h2 => by simp at *; omega, fun x y z h1 h2 => by simp at *; omega⟩
  · simp only [if_neg h]
    exact ⟨fun x => Lx.irr _, fun x y z h1 h2 => Lx.tr h1 h2, fun x y z h1 h2 => Lx.lele h2 h1⟩
end Go.Proofs.Ytkpihibeohjfnaa.Cq

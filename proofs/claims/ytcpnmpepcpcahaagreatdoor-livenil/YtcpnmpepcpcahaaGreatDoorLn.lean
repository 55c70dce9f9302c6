/- Sets that no call gave: what their calls answer. -/
import Derived.Test.YtcpnmpepcpcahaaGreatDoorGr
namespace Go.Proofs.YtcpnmpepcpcahaaGreatDoor.Ln
open Go.ChangeShapes Go.WideShapes Go.ChangeAt Go.RowKit
open Go.Proofs.YtcpnmpepcpcahaaGreatDoor.Gr
set_option linter.unusedVariables false
set_option linter.unusedSimpArgs false

/-- No set: nil, or one whose current version is 0. -/
def NoS (w : World) (v : Value) : Prop := v = .pointer none ∨ ∃ g c, v = .pointer (some ⟨g, 0, none⟩) ∧ w.heap[g]? = some (.cells c 45) ∧ c[0]? = some (.int .i64 0)
theorem NoS.later {w w' : World} {v : Value} (h : NoS w v) (b : Below w.heap.size w w') : NoS w' v := by
  rcases h with h | ⟨g, c, h1, h2, h3⟩
  · exact .inl h
  · exact .inr ⟨g, c, h1, (b.block g (blk_lt h2)).trans h2, h3⟩
theorem isnone_yes (v : Value) (w : World) (h : NoS w v) : Calls Tryz.prog 48 #[v] w fun e w' => e = .returned (.bool true) ∧ w' = w := by
  rcases h with rfl | ⟨g, c, rfl, h2, h3⟩
  · go_enter Tryz.func48, Tryz.ntmps48
    go_wp2_with fail
    go_ret
    simp
  · have q0 := cell_of h2 0 _ h3
    clear h2 h3
    go_enter Tryz.func48, Tryz.ntmps48
    go_wp2_with fail
    go_ret
    simp
theorem current_no (v : Value)  (w : World) (h : NoS w v) : Calls Tryz.prog 14 #[v] w fun e w' => e = .returned (.tuple #[.int .i64 0, .slice none 0 0]) ∧ w' = w := by
  have c0 := hid (isnone_yes v w h)
  clear h
  go_enter Tryz.func14, Tryz.ntmps14
  go_wp2_with (first | (go_at_call 48; refine c0.out.mono ?_; rintro e w1 ⟨rfl, hw1⟩; subst hw1))
  go_ret2
  exact ⟨rfl, rfl⟩
theorem levels_no (v : Value) (n : Int) (w : World) (h : NoS w v) : Calls Tryz.prog 15 #[v, .int .i64 n] w fun e w' => e = .returned (.tuple #[.slice none 0 0, .int .i64 1]) ∧ w' = w := by
  have c0 := hid (isnone_yes v w h)
  clear h
  go_enter Tryz.func15, Tryz.ntmps15
  go_wp2_with (first | (go_at_call 48; refine c0.out.mono ?_; rintro e w1 ⟨rfl, hw1⟩; subst hw1))
  go_ret2
  exact ⟨rfl, rfl⟩
theorem install_no (v : Value) (la : Option Addr) (ln lc : Nat) (w : World) (h : NoS w v) : Calls Tryz.prog 16 #[v, .slice la ln lc] w fun e w' => e = .returned (.int .i64 0) ∧ w' = w := by
  have c0 := hid (isnone_yes v w h)
  clear h
  go_enter Tryz.func16, Tryz.ntmps16
  go_wp2_with (first | (go_at_call 48; refine c0.out.mono ?_; rintro e w1 ⟨rfl, hw1⟩; subst hw1))
  go_ret
  exact ⟨rfl, rfl⟩
theorem hold_no (v : Value)  (w : World) (h : NoS w v) : Calls Tryz.prog 17 #[v] w fun e w' => e = .returned (.int .i64 0) ∧ w' = w := by
  have c0 := hid (isnone_yes v w h)
  clear h
  go_enter Tryz.func17, Tryz.ntmps17
  go_wp2_with (first | (go_at_call 48; refine c0.out.mono ?_; rintro e w1 ⟨rfl, hw1⟩; subst hw1))
  go_ret
  exact ⟨rfl, rfl⟩
theorem drop_no (v : Value) (n : Int) (w : World) (h : NoS w v) : Calls Tryz.prog 18 #[v, .int .i64 n] w fun e w' => e = .returned (.int .i64 1) ∧ w' = w := by
  have c0 := hid (isnone_yes v w h)
  clear h
  go_enter Tryz.func18, Tryz.ntmps18
  go_wp2_with (first | (go_at_call 48; refine c0.out.mono ?_; rintro e w1 ⟨rfl, hw1⟩; subst hw1))
  go_ret
  exact ⟨rfl, rfl⟩
theorem refs_no (v : Value) (n : Int) (w : World) (h : NoS w v) : Calls Tryz.prog 19 #[v, .int .i64 n] w fun e w' => e = .returned (.int .i64 0) ∧ w' = w := by
  have c0 := hid (isnone_yes v w h)
  clear h
  go_enter Tryz.func19, Tryz.ntmps19
  go_wp2_with (first | (go_at_call 48; refine c0.out.mono ?_; rintro e w1 ⟨rfl, hw1⟩; subst hw1))
  go_ret
  exact ⟨rfl, rfl⟩
theorem len_no (v : Value)  (w : World) (h : NoS w v) : Calls Tryz.prog 20 #[v] w fun e w' => e = .returned (.int .i64 0) ∧ w' = w := by
  have c0 := hid (isnone_yes v w h)
  clear h
  go_enter Tryz.func20, Tryz.ntmps20
  go_wp2_with (first | (go_at_call 48; refine c0.out.mono ?_; rintro e w1 ⟨rfl, hw1⟩; subst hw1))
  go_ret
  exact ⟨rfl, rfl⟩
theorem begin_no (v : Value) (n : Int) (w : World) (h : NoS w v) : Calls Tryz.prog 21 #[v, .int .i64 n] w fun e w' => e = .returned (.int .i64 1) ∧ w' = w := by
  have c0 := hid (isnone_yes v w h)
  clear h
  go_enter Tryz.func21, Tryz.ntmps21
  go_wp2_with (first | (go_at_call 48; refine c0.out.mono ?_; rintro e w1 ⟨rfl, hw1⟩; subst hw1))
  go_ret
  exact ⟨rfl, rfl⟩
theorem end_no (v : Value) (n : Int) (w : World) (h : NoS w v) : Calls Tryz.prog 22 #[v, .int .i64 n] w fun e w' => e = .returned (.int .i64 1) ∧ w' = w := by
  have c0 := hid (isnone_yes v w h)
  clear h
  go_enter Tryz.func22, Tryz.ntmps22
  go_wp2_with (first | (go_at_call 48; refine c0.out.mono ?_; rintro e w1 ⟨rfl, hw1⟩; subst hw1))
  go_ret
  exact ⟨rfl, rfl⟩
theorem tables_no (v : Value)  (w : World) (h : NoS w v) : Calls Tryz.prog 23 #[v] w fun e w' => e = .returned (.slice none 0 0) ∧ w' = w := by
  have c0 := hid (isnone_yes v w h)
  clear h
  go_enter Tryz.func23, Tryz.ntmps23
  go_wp2_with (first | (go_at_call 48; refine c0.out.mono ?_; rintro e w1 ⟨rfl, hw1⟩; subst hw1))
  go_ret
  exact ⟨rfl, rfl⟩
theorem obsolete_no (v : Value) (la : Option Addr) (ln lc : Nat) (x y : Int) (w : World) (h : NoS w v) : Calls Tryz.prog 24 #[v, .slice la ln lc, .int .i64 x, .int .i64 y] w fun e w' => e = .returned (.slice none 0 0) ∧ w' = w := by
  have c0 := hid (isnone_yes v w h)
  clear h
  go_enter Tryz.func24, Tryz.ntmps24
  go_wp2_with (first | (go_at_call 48; refine c0.out.mono ?_; rintro e w1 ⟨rfl, hw1⟩; subst hw1))
  go_ret
  exact ⟨rfl, rfl⟩
end Go.Proofs.YtcpnmpepcpcahaaGreatDoor.Ln

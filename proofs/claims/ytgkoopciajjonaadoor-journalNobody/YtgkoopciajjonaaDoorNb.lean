/- The calls of a writer that no call gave, and JournalNobody walked. -/
import Derived.Test.YtgkoopciajjonaaDoorWt
namespace Go.Proofs.YtgkoopciajjonaaDoor.Nb
open Go.ChangeShapes Go.WideShapes Go.ChangeAt Go.RowKit
open Go.Proofs.YtgkoopciajjonaaDoor.Ck
open Go.Proofs.YtgkoopciajjonaaDoor.Wt
set_option linter.unusedVariables false

/-- A writer that no call gave: nil, or a plain one. -/
def Non (w : World) (p : Option Addr) : Prop := p = none ∨ ∃ g, p = some ⟨g, 0, none⟩ ∧ Wr w g 0 0
theorem Non.later {w w' : World} {p : Option Addr} (h : Non w p) (b : Below w.heap.size w w') : Non w' p := by
  rcases h with h | ⟨g, e, h⟩
  · exact .inl h
  · exact .inr ⟨g, e, h.later b⟩
theorem isnone_non (p : Option Addr) (w : World) (H : Non w p) : Calls Tryd.prog 27 #[.pointer p] w fun e w' => e = .returned (.bool true) ∧ w' = w := by
  rcases H with rfl | ⟨g, rfl, H⟩
  · exact isnone_nil w
  · exact isnone_any g 0 0 w H
theorem add_non (p : Option Addr) (v : Value) (w : World) (H : Non w p) : Calls Tryd.prog 17 #[.pointer p, v] w fun e w' => e = .returned (.tuple #[.slice none 0 0, .int .i64 1]) ∧ w' = w := by
  have HI := hid (isnone_non p w H)
  go_enter Tryd.func17, Tryd.ntmps17
  go_wp2_with fail
  refine HI.out.mono ?_
  rintro e w' ⟨rfl, rfl⟩
  go_wp2_with fail
  go_ret2
  exact ⟨rfl, rfl⟩
theorem size_non (p : Option Addr) (w : World) (H : Non w p) : Calls Tryd.prog 12 #[.pointer p] w fun e w' => e = .returned (.int .i64 0) ∧ w' = w := by
  have HI := hid (isnone_non p w H)
  go_enter Tryd.func12, Tryd.ntmps12
  go_wp2_with fail
  refine HI.out.mono ?_
  rintro e w' ⟨rfl, rfl⟩
  go_wp2_with fail
  go_ret
  exact ⟨rfl, rfl⟩
theorem cost_non (p : Option Addr) (n : Int) (w : World) (H : Non w p) : Calls Tryd.prog 13 #[.pointer p, .int .i64 n] w fun e w' => e = .returned (.int .i64 0) ∧ w' = w := by
  have HI := hid (isnone_non p w H)
  go_enter Tryd.func13, Tryd.ntmps13
  go_wp2_with fail
  refine HI.out.mono ?_
  rintro e w' ⟨rfl, rfl⟩
  go_wp2_with fail
  go_ret
  exact ⟨rfl, rfl⟩
theorem nobody_any (v : Value) (n : Int) (w : World) : Calls Tryd.prog 5 #[v, .int .i64 n] w fun e w' => e = .returned (.bool true) ∧ Below w.heap.size w w' := by
  have g1 : Wr (w.alloc (.cells #[.int .i64 0, .int .u64 0] 56)) w.heap.size 0 0 := by
    show (w.heap.push _)[w.heap.size]? = _
    simp
  have H0 : Hid (∀ w', Non w' none) := fun _ => .inl rfl
  have H1 : Hid (Non ((w.alloc (.cells #[.int .i64 0, .int .u64 0] 56)).alloc (.cells #[.pointer none, .pointer (some ⟨w.heap.size, 0, none⟩)] 25)) (some ⟨w.heap.size, 0, none⟩)) := .inr ⟨_, rfl, g1.later (box_below _ _)⟩
  have B : Hid (Below w.heap.size w ((w.alloc (.cells #[.int .i64 0, .int .u64 0] 56)).alloc (.cells #[.pointer none, .pointer (some ⟨w.heap.size, 0, none⟩)] 25))) := (box_below _ _).trans ((box_below _ _).mono (by simp))
  clear g1
  go_enter Tryd.func5, Tryd.ntmps5
  go_wp2_with fail
  refine wp_loop_rounds 3 ?_
  rw [rounds_succ]
  go_wp2_with fail
  refine (add_non none v _ (H0.out _)).mono ?_
  rintro e w' ⟨rfl, rfl⟩
  go_wp2_with fail
  refine (size_non none _ (H0.out _)).mono ?_
  rintro e w' ⟨rfl, rfl⟩
  go_wp2_with fail
  refine (cost_non none n _ (H0.out _)).mono ?_
  rintro e w' ⟨rfl, rfl⟩
  go_wp2_with fail
  rw [rounds_succ]
  go_wp2_with fail
  refine (add_non _ v _ H1.out).mono ?_
  rintro e w' ⟨rfl, rfl⟩
  go_wp2_with fail
  refine (size_non _ _ H1.out).mono ?_
  rintro e w' ⟨rfl, rfl⟩
  go_wp2_with fail
  refine (cost_non _ n _ H1.out).mono ?_
  rintro e w' ⟨rfl, rfl⟩
  go_wp2_with fail
  rw [rounds_succ]
  go_wp2_with fail
  go_ret
  exact ⟨rfl, B.out⟩
end Go.Proofs.YtgkoopciajjonaaDoor.Nb

/- The document's May, Bears, Overlaps by their contracts. -/
import Derived.Test.YtkpihibeohjfnaaVr
import Derived.Test.YtkpihibeohjfnaaAq
import Derived.Test.YtkpihibeohjfnaaVv
namespace Go.Proofs.Ytkpihibeohjfnaa.Dm
open Go.ChangeShapes Go.WideShapes Go.ChangeAt Go.RowKit
open Go.Proofs.Ytkpihibeohjfnaa.Gr
open Go.Proofs.Ytkpihibeohjfnaa.Ev
open Go.Proofs.Ytkpihibeohjfnaa.Oe
open Go.Proofs.Ytkpihibeohjfnaa.Lv
open Go.Proofs.Ytkpihibeohjfnaa.Vp
open Go.Proofs.Ytkpihibeohjfnaa.Lx (lt)
set_option linter.unusedVariables false
set_option linter.unusedSimpArgs false

theorem may_parts (n z : Int) (a b : ByteArray) (lo hi : Int) : may ⟨n, z, a, b, lo, hi⟩ = (decide (1 ≤ n) && (decide (n ≤ 2147483647) && (decide (1 ≤ z) && (decide (z ≤ 268435456) && (decide (1 ≤ (a.size : Int)) && (decide ((a.size : Int) ≤ 1024) && (decide ((b.size : Int) ≤ 1025) && (lt a b && (decide (1 ≤ lo) && (decide (lo ≤ hi) && (decide (hi ≤ 72057594037927935)))))))))))) := by
  rw [Bool.eq_iff_iff]
  unfold may fr
  simp only [Bool.and_eq_true]
  constructor
  · rintro ⟨⟨h1, h2⟩, ⟨h3, h4⟩, ⟨h5, h6⟩, h7, h8, h9, h10, h11⟩
    exact ⟨h1, h2, h3, h4, h5, h6, h8, h7, h9, h10, h11⟩
  · rintro ⟨h1, h2, h3, h4, h5, h6, h8, h7, h9, h10, h11⟩
    exact ⟨⟨h1, h2⟩, ⟨h3, h4⟩, ⟨h5, h6⟩, h7, h8, h9, h10, h11⟩
set_option maxHeartbeats 2000000 in
theorem rmay_any (f : Fi) (hok : f.ok) (w : World) : Calls Try.prog 40 #[fv f] w fun e w' => e = .returned (.bool (may f)) ∧ Below w.heap.size w w' := by
  obtain ⟨n, z, a, b, lo, hi⟩ := f
  rw [may_parts]
  unfold fv
  dsimp only
  have ha : a.size ≤ 9223372036854775807 := by have := hok.2.2.1; unfold maxLen at this; exact Nat.le_trans this (by decide)
  have hb : b.size ≤ 9223372036854775807 := by have := hok.2.2.2.1; unfold maxLen at this; exact Nat.le_trans this (by decide)
  have hB := hid (box_below w (.cells #[.int .i64 n, .int .i64 z, .string a, .string b, .int .u64 lo, .int .u64 hi] 43))
  clear hok
  generalize hb1 : decide (1 ≤ n) = b1
  generalize hb2 : decide (n ≤ 2147483647) = b2
  generalize hb3 : decide (1 ≤ z) = b3
  generalize hb4 : decide (z ≤ 268435456) = b4
  generalize hb5 : decide (1 ≤ (a.size : Int)) = b5
  generalize hb6 : decide ((a.size : Int) ≤ 1024) = b6
  generalize hb7 : decide ((b.size : Int) ≤ 1025) = b7
  generalize hb9 : decide (1 ≤ lo) = b9
  generalize hb10 : decide (lo ≤ hi) = b10
  generalize hb11 : decide (hi ≤ 72057594037927935) = b11
  have gs : binOp .lss 9 (.string a) (.string b) = pure (.bool (lt a b)) := rfl
  generalize hb8 : lt a b = b8 at gs ⊢
  clear hb8
  cases b1 with
  | false =>
    go_enter Try.func40, Try.ntmps40
    go_wp2_with fail
    go_ret
    exact ⟨rfl, hB.out⟩
  | true =>
    cases b2 with
    | false =>
      go_enter Try.func40, Try.ntmps40
      go_wp2_with fail
      go_ret
      exact ⟨rfl, hB.out⟩
    | true =>
      cases b3 with
      | false =>
        go_enter Try.func40, Try.ntmps40
        go_wp2_with fail
        go_ret
        exact ⟨rfl, hB.out⟩
      | true =>
        cases b4 with
        | false =>
          go_enter Try.func40, Try.ntmps40
          go_wp2_with fail
          go_ret
          exact ⟨rfl, hB.out⟩
        | true =>
          cases b5 with
          | false =>
            go_enter Try.func40, Try.ntmps40
            go_wp2_with fail
            go_ret
            exact ⟨rfl, hB.out⟩
          | true =>
            cases b6 with
            | false =>
              go_enter Try.func40, Try.ntmps40
              go_wp2_with fail
              go_ret
              exact ⟨rfl, hB.out⟩
            | true =>
              cases b7 with
              | false =>
                go_enter Try.func40, Try.ntmps40
                go_wp2_with fail
                go_ret
                exact ⟨rfl, hB.out⟩
              | true =>
                cases b8 with
                | false =>
                  go_enter Try.func40, Try.ntmps40
                  go_wp2_with fail
                  go_ret
                  exact ⟨rfl, hB.out⟩
                | true =>
                  cases b9 with
                  | false =>
                    go_enter Try.func40, Try.ntmps40
                    go_wp2_with fail
                    go_ret
                    exact ⟨rfl, hB.out⟩
                  | true =>
                    cases b10 with
                    | false =>
                      go_enter Try.func40, Try.ntmps40
                      go_wp2_with fail
                      go_ret
                      exact ⟨rfl, hB.out⟩
                    | true =>
                      cases b11 with
                      | false =>
                        go_enter Try.func40, Try.ntmps40
                        go_wp2_with fail
                        go_ret
                        exact ⟨rfl, hB.out⟩
                      | true =>
                        go_enter Try.func40, Try.ntmps40
                        go_wp2_with fail
                        go_ret
                        exact ⟨rfl, hB.out⟩
open Go.Proofs.Ytkpihibeohjfnaa.Aq (bears)
theorem rbears_any (f : Fi) (key : ByteArray) (w : World) : Calls Try.prog 54 #[fv f, .string key] w fun e w' => e = .returned (.bool (bears key f)) ∧ Below w.heap.size w w' := by
  obtain ⟨n, z, a, b, lo, hi⟩ := f
  unfold bears fv
  dsimp only
  have hB := hid (box_below w (.cells #[.int .i64 n, .int .i64 z, .string a, .string b, .int .u64 lo, .int .u64 hi] 43))
  have g1 := Lx.leq_s 9 a key
  change binOp .leq 9 (.string a) (.string key) = pure (.bool (!(lt key a))) at g1
  have g2 : binOp .lss 9 (.string key) (.string b) = pure (.bool (lt key b)) := rfl
  generalize lt key a = c1 at *
  generalize lt key b = c2 at *
  cases c1 <;>
  · go_enter Try.func54, Try.ntmps54
    go_wp2_with fail
    go_ret
    exact ⟨rfl, hB.out⟩
open Go.Proofs.Ytkpihibeohjfnaa.Vv (emp ne_emp)
/-- The document's Overlaps. -/
def rov (least limit : ByteArray) (f : Fi) : Bool := lt least f.b && (decide (limit.size = 0) || (lt f.a limit && lt least limit))
set_option maxHeartbeats 1000000 in
theorem rovl_any (f : Fi) (least limit : ByteArray) (w : World) : Calls Try.prog 55 #[fv f, .string least, .string limit] w fun e w' => e = .returned (.bool (rov least limit f)) ∧ Below w.heap.size w w' := by
  obtain ⟨n, z, a, b, lo, hi⟩ := f
  unfold rov fv
  dsimp only
  have hB := hid (box_below w (.cells #[.int .i64 n, .int .i64 z, .string a, .string b, .int .u64 lo, .int .u64 hi] 43))
  have g1 := Lx.gtr_s 9 b least
  change binOp .gtr 9 (.string b) (.string least) = pure (.bool (lt least b)) at g1
  have g2 : binOp .lss 9 (.string a) (.string limit) = pure (.bool (lt a limit)) := rfl
  have g3 := Lx.gtr_s 9 limit least
  change binOp .gtr 9 (.string limit) (.string least) = pure (.bool (lt least limit)) at g3
  generalize lt least b = c1 at *
  generalize lt a limit = c2 at *
  generalize lt least limit = c3 at *
  cases c1 with
  | false =>
    go_enter Try.func55, Try.ntmps55
    go_wp2_with fail
    go_ret
    exact ⟨rfl, hB.out⟩
  | true =>
    by_cases h0 : limit.size = 0
    · rw [decide_eq_true h0]
      have : limit = ⟨#[]⟩ := emp h0
      subst this
      clear h0
      go_enter Try.func55, Try.ntmps55
      go_wp2_with fail
      go_ret
      exact ⟨rfl, hB.out⟩
    · rw [decide_eq_false h0]
      have h1 := ne_emp h0
      clear h0
      cases c2 <;>
      · go_enter Try.func55, Try.ntmps55
        go_wp2_with fail
        go_ret
        exact ⟨rfl, hB.out⟩
end Go.Proofs.Ytkpihibeohjfnaa.Dm

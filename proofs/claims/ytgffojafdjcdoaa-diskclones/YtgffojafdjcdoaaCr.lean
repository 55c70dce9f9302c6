/- What a crash leaves of a file. -/
import Derived.Test.YtgffojafdjcdoaaAp
import Derived.Laws.Rows
namespace Go.Proofs.Ytgffojafdjcdoaa.Cr
open Go.ChangeShapes Go.WideShapes Go.ChangeAt Go.RowKit Go.Maps
open Go.Proofs.Ytgffojafdjcdoaa.By
open Go.Proofs.Ytgffojafdjcdoaa.Ln
open Go.Proofs.Ytgffojafdjcdoaa.Mp
open Go.Proofs.Ytgffojafdjcdoaa.Dk
open Go.Proofs.Ytgffojafdjcdoaa.Df
open Go.Proofs.Ytgffojafdjcdoaa.Dh
set_option linter.unusedVariables false
set_option linter.unusedSimpArgs false

/-- How many bytes stay. -/
def sty (n k : Nat) (x : Int) : Nat := if x ≤ 0 then k else if x ≤ (n : Int) - k then k + x.toNat else n
theorem sty_le {n k : Nat} {x : Int} (h : k ≤ n) : k ≤ sty n k x ∧ sty n k x ≤ n := by
  unfold sty
  split
  · omega
  · split <;> omega
set_option maxRecDepth 10000 in
theorem crashed_any (a : Option Addr) (n c k : Nat) (x : Int) (hx : -9223372036854775808 ≤ x ∧ x ≤ 9223372036854775807) (hk : k ≤ n) (hnc : n ≤ c) (hn : n ≤ 268435456) (ha : a = none → n = 0 ∧ c = 0) (w : World) :
    Calls Try.prog 53 #[.agg #[.slice a n c, .int .i64 k], .int .i64 x] w fun e w' => e = .returned (.agg #[.slice a (sty n k x) c, .int .i64 (sty n k x : Nat)]) ∧ Below w.heap.size w w' := by
  have b2 : Hid (∀ o1 o2, Below w.heap.size w ((w.alloc o1).alloc o2)) := fun o1 o2 => (box_below w _).alloc (box_below w _).size _
  have HA := hid ha
  clear ha
  obtain ⟨M, hM⟩ : ∃ M, M = sty n k x := ⟨_, rfl⟩
  rw [← hM]
  have hle := @sty_le n k x hk
  rw [← hM] at hle
  unfold sty at hM
  cases a with
  | none =>
    obtain ⟨rfl, rfl⟩ := HA.out rfl
    obtain rfl : k = 0 := by omega
    obtain rfl : M = 0 := by omega
    clear hM hle
    go_enter Try.func53, Try.ntmps53
    go_wp2_with fail
    all_goals
      (try simp only [Exit.inBlock, Exit.then])
      refine bodyPost_ret (results_cell_row rfl _ _ (w.heap.size + 1) 83 _ (0, 0) _ rfl (heap_alloc2_new _ _ _) Try.underlying83 rfl (by kernel_rfl)) rfl ⟨?_, b2.out _ _⟩
      simp
      try omega
  | some ad =>
    by_cases h1 : x ≤ 0
    · rw [if_pos h1] at hM
      subst hM
      go_enter Try.func53, Try.ntmps53
      go_wp2_with fail
      all_goals
        (try simp only [Exit.inBlock, Exit.then])
        refine bodyPost_ret (results_cell_row rfl _ _ (w.heap.size + 1) 83 _ (0, 0) _ rfl (heap_alloc2_new _ _ _) Try.underlying83 rfl (by kernel_rfl)) rfl ⟨?_, b2.out _ _⟩
        simp
        try omega
    · rw [if_neg h1] at hM
      by_cases h2 : x ≤ (n : Int) - k
      · rw [if_pos h2] at hM
        go_enter Try.func53, Try.ntmps53
        go_wp2_with fail
        all_goals
          (try simp only [Exit.inBlock, Exit.then])
          refine bodyPost_ret (results_cell_row rfl _ _ (w.heap.size + 1) 83 _ (0, 0) _ rfl (heap_alloc2_new _ _ _) Try.underlying83 rfl (by kernel_rfl)) rfl ⟨?_, b2.out _ _⟩
          simp
          try omega
      · rw [if_neg h2] at hM
        subst hM
        go_enter Try.func53, Try.ntmps53
        go_wp2_with fail
        all_goals
          (try simp only [Exit.inBlock, Exit.then])
          refine bodyPost_ret (results_cell_row rfl _ _ (w.heap.size + 1) 83 _ (0, 0) _ rfl (heap_alloc2_new _ _ _) Try.underlying83 rfl (by kernel_rfl)) rfl ⟨?_, b2.out _ _⟩
          simp
          try omega
end Go.Proofs.Ytgffojafdjcdoaa.Cr

/- The law's texts. -/
import Derived.Test.YtcjlgjlediihoabDoorSq
import Derived.BigQuiet
namespace Go.Proofs.YtcjlgjlediihoabDoor.Sq
open Go.ChangeShapes Go.WideShapes Go.ChangeAt Go.RowKit
open Go.Proofs.YtcjlgjlediihoabDoor.Ut
open Go.Proofs.YtcjlgjlediihoabDoor.Sp
open Go.Proofs.YtcjlgjlediihoabDoor.By
set_option linter.unusedVariables false
set_option linter.unusedSimpArgs false

theorem Ws.shape {w : World} {base : Nat} {v : Value} {ws : List ByteArray} (H : Ws w base v ws) : ∃ a c, v = .slice a ws.length c ∧ ws.length ≤ c ∧ Hid (∀ i (h : i < ws.length), ∃ g, a = some ⟨g, 0, none⟩ ∧ w.cell? ⟨g, i, none⟩ = some (.string (ws[i]'h))) := by
  have h0 := H
  unfold Ws at H
  rcases H.2 with ⟨e1, e2⟩ | ⟨g, c, cur, e, _, _, hn, _⟩
  · refine ⟨none, 0, by rw [e1, e2], by omega, ?_⟩
    intro i h
    omega
  · refine ⟨some ⟨g, 0, none⟩, c, e, by omega, ?_⟩
    intro i h
    refine ⟨g, rfl, ?_⟩
    subst e
    rw [World.ownsRow.cellAt H i (by omega), sv, List.getElem?_map, List.getElem?_eq_getElem h]
    rfl
theorem Ws.max {w : World} {base : Nat} {v : Value} {ws : List ByteArray} (H : Ws w base v ws) : ws.length ≤ 9223372036854775807 := by
  unfold Ws at H
  rcases H.2 with ⟨_, e2⟩ | ⟨g, c, cur, e, _, _, hn, hm, _⟩
  · omega
  · unfold maxLen at hm; omega
set_option maxRecDepth 1000000 in
/-- The law's 'texts' of two rows of the same texts. -/
theorem texts_any {w : World} {b1 b2 : Nat} {v1 v2 : Value} {ws : List ByteArray} (H1 : Ws w b1 v1 ws) (H2 : Ws w b2 v2 ws) :
    Calls Tryd.prog 13 #[v1, v2] w fun e w' => e = .returned (.bool true) ∧ Below w.heap.size w w' := by
  obtain ⟨a1, c1, rfl, hc1, K1⟩ := H1.shape
  obtain ⟨a2, c2, rfl, hc2, K2⟩ := H2.shape
  have hl := H1.max
  clear H1 H2
  have t0 : ((ws.length : Int) != (ws.length : Int)) = false := bne_self_eq_false _
  go_enter Tryd.func13, Tryd.ntmps13
  go_wp2_with fail
  go_loopw [5] (fun i wr => ∃ k : Nat, i = .int .i64 k ∧ k ≤ ws.length ∧ ∃ n, wr = w.drewN n) (fun i _ => ws.length - (intOf i).toNat)
  case atStart => exact ⟨0, rfl, by omega, 0, rfl⟩
  case round =>
    obtain ⟨k, rfl, hk, n, rfl⟩ := hrel
    by_cases hlt : k < ws.length
    · obtain ⟨g1, rfl, d1⟩ := K1.out k hlt
      obtain ⟨g2, rfl, d2⟩ := K2.out k hlt
      generalize ws[k]'hlt = x at d1 d2
      have ik0 : (k : Int) < (ws.length : Int) := by omega
      have ok0 : (0 : Int) ≤ (k : Int) := by omega
      go_wp2_with fail
      go_quiet (fail)
      go_wp2_with fail
      go_roundw
      case rel => exact ⟨k + 1, by go_num, by omega, n + nq, rfl⟩
      case measure => simp [intOf]; omega
    · go_wp2_with fail
      go_ret
      exact ⟨rfl, below_drewN (Below.refl _ _) _⟩
end Go.Proofs.YtcjlgjlediihoabDoor.Sq

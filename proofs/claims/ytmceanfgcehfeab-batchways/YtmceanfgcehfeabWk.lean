/- The law's works: the chapter's first example. -/
import Derived.Test.YtmceanfgcehfeabEc
namespace Go.Proofs.Ytmceanfgcehfeab.Wk
open Go.ChangeShapes Go.WideShapes Go.ChangeAt Go.RowKit
open Go.Proofs.Ytmceanfgcehfeab.By
open Go.Proofs.Ytmceanfgcehfeab.Ob
open Go.Proofs.Ytmceanfgcehfeab.En
set_option linter.unusedVariables false

def ex : List O := [⟨1, ⟨#[107]⟩, ⟨#[118]⟩⟩, ⟨0, ⟨#[100]⟩, ⟨#[]⟩⟩]
theorem ex_ok : encE 1 ex = 0 := by decide +kernel
theorem ex_str : str (enc 1 ex) = ⟨#[1, 0, 0, 0, 0, 0, 0, 0, 2, 0, 0, 0, 1, 1, 107, 1, 118, 0, 1, 100]⟩ := by decide +kernel
theorem ex_o (x : O) (h : x ∈ ex) : x.ok := by
  simp [ex] at h
  rcases h with rfl | rfl
  · exact ⟨by decide, by unfold maxLen; decide, by unfold maxLen; decide⟩
  · exact ⟨by decide, by unfold maxLen; decide, by unfold maxLen; decide⟩
set_option maxHeartbeats 1000000 in
theorem works_any (w : World) : Calls Try.prog 19 #[] w fun e w' => e = .returned (.bool true) ∧ Below w.heap.size w w' := by
  obtain ⟨W, hW⟩ : ∃ W, W = w.alloc (.cells #[.int .i64 1, .string ⟨#[107]⟩, .string ⟨#[118]⟩, .int .i64 0, .string ⟨#[100]⟩, .string ⟨#[]⟩] 60) := ⟨_, rfl⟩
  have HO : Ops W (some ⟨w.heap.size, 0, none⟩) 2 2 ex := by
    refine ⟨rfl, Nat.le_refl _, fun e => by simp at e, ex_o, fun b o p hp _ => ?_⟩
    simp at hp
    obtain ⟨rfl, rfl, rfl⟩ := hp
    refine ⟨rfl, fun i hi => ?_⟩
    rw [hW]
    match i, hi with
    | 0, _ => exact ⟨by simp [ex, go_sem], by simp [ex, go_sem], by simp [ex, go_sem]⟩
    | 1, _ => exact ⟨by simp [ex, go_sem], by simp [ex, go_sem], by simp [ex, go_sem]⟩
  have HB : Hid (Below w.heap.size w W) := by show Below _ _ _; rw [hW]; exact box_below _ _
  have F := hid (encode_ok 1 (some ⟨w.heap.size, 0, none⟩) 2 2 ex W HO (by omega) ex_ok)
  have HW : Hid (w.alloc (.cells #[.int .i64 1, .string ⟨#[107]⟩, .string ⟨#[118]⟩, .int .i64 0, .string ⟨#[100]⟩, .string ⟨#[]⟩] 60) = W) := hW.symm
  clear hW HO
  go_enter Try.func19, Try.ntmps19
  go_wp2_with fail
  rw [HW.out]
  refine F.out.mono ?_
  rintro e w2 ⟨g, c, rfl, R, b⟩
  have kA := By.Row.conv R
  rw [ex_str] at kA
  have HB2 : Hid (Below w.heap.size w w2) := HB.out.trans (b.mono HB.out.size)
  clear R b F
  go_wp2_with fail
  go_ret
  exact ⟨rfl, HB2.out⟩
end Go.Proofs.Ytmceanfgcehfeab.Wk

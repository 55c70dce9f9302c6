/- Builders and cursors that no call gave. -/
import Derived.Test.YtkanjbeijoeenaaSk
namespace Go.Proofs.Ytkanjbeijoeenaa.Nb
open Go.ChangeShapes Go.WideShapes Go.ChangeAt Go.RowKit
open Go.Sort (grow)
open Go.Proofs.Ytkanjbeijoeenaa.Mb
open Go.Proofs.Ytkanjbeijoeenaa.Cu
open Go.Proofs.Ytkanjbeijoeenaa.Sk
open Go.Proofs.Ytkanjbeijoeenaa.Ik
open Go.Proofs.Ytkanjbeijoeenaa.Cm (ik)
set_option linter.unusedVariables false
set_option linter.unusedSimpArgs false

/-- A builder that no call gave: nil, or a plain one. -/
def NoB (w : World) (v : Value) : Prop := v = .pointer none ∨ ∃ g, v = .pointer (some ⟨g, 0, none⟩) ∧ w.heap[g]? = some (.cells #[.int .i64 0, .slice none 0 0, .slice none 0 0, .int .i64 0, .slice none 0 0] 51)
theorem NoB.later {w w' : World} {v : Value} (h : NoB w v) (b : Below w.heap.size w w') : NoB w' v := by
  rcases h with h | ⟨g, h1, h2⟩
  · exact .inl h
  · exact .inr ⟨g, h1, (b.block g (blk_lt h2)).trans h2⟩
theorem isNone_no (v : Value) (w : World) (H : NoB w v) : Calls Try.prog 33 #[v] w fun e w' => e = .returned (.bool true) ∧ w' = w := by
  rcases H with rfl | ⟨g, rfl, H⟩
  · go_enter Try.func33, Try.ntmps33
    go_wp2
    go_ret
    exact ⟨rfl, rfl⟩
  · have c0 := cell_of H 0 _ rfl
    clear H
    go_enter Try.func33, Try.ntmps33
    go_wp2
    go_ret
    exact ⟨rfl, rfl⟩
theorem add_no (v : Value) (k : ByteArray) (s c : Int) (x : ByteArray) (w : World) (H : NoB w v) : Calls Try.prog 17 #[v, .agg #[.string k, .int .u64 s, .int .i64 c], .string x] w fun e w' => e = .returned (.int .i64 1) ∧ Below w.heap.size w w' := by
  have HN := hid (isNone_no v _ (H.later (box_below w (.cells #[.string k, .int .u64 s, .int .i64 c] 36))))
  clear H
  go_enter Try.func17, Try.ntmps17
  go_wp2_with fail
  refine HN.out.mono ?_
  rintro e w1 ⟨rfl, rfl⟩
  go_wp2_with fail
  go_ret
  exact ⟨rfl, box_below _ _⟩
theorem len_no (v : Value) (w : World) (H : NoB w v) : Calls Try.prog 13 #[v] w fun e w' => e = .returned (.int .i64 0) ∧ w' = w := by
  have HN := hid (isNone_no v w H)
  clear H
  go_enter Try.func13, Try.ntmps13
  go_wp2_with fail
  refine HN.out.mono ?_
  rintro e w1 ⟨rfl, rfl⟩
  go_wp2_with fail
  go_ret
  exact ⟨rfl, rfl⟩
theorem size_no (v : Value) (w : World) (H : NoB w v) : Calls Try.prog 14 #[v] w fun e w' => e = .returned (.int .i64 0) ∧ w' = w := by
  have HN := hid (isNone_no v w H)
  clear H
  go_enter Try.func14, Try.ntmps14
  go_wp2_with fail
  refine HN.out.mono ?_
  rintro e w1 ⟨rfl, rfl⟩
  go_wp2_with fail
  go_ret
  exact ⟨rfl, rfl⟩
theorem bytes_no (v : Value) (w : World) (H : NoB w v) : Calls Try.prog 12 #[v] w fun e w' => e = .returned (.slice none 0 0) ∧ w' = w := by
  have HN := hid (isNone_no v w H)
  clear H
  go_enter Try.func12, Try.ntmps12
  go_wp2_with fail
  refine HN.out.mono ?_
  rintro e w1 ⟨rfl, rfl⟩
  go_wp2_with fail
  go_ret
  exact ⟨rfl, rfl⟩
/-- A plain cursor's block. -/
def CN (w : World) (gC : Nat) : Prop := ∃ i : Int, 0 ≤ i ∧ i ≤ 1 ∧ Cb w gC none 0 0 i
theorem CN.later {w w' : World} {gC : Nat} (h : CN w gC) (b : Below w.heap.size w w') : CN w' gC := by
  obtain ⟨i, h0, h1, h⟩ := h; exact ⟨i, h0, h1, h.later b⟩
theorem at0 (i : Int) : at1 0 i = false := by unfold at1; exact decide_eq_false (by omega)
theorem first_no (v : Value) (gC : Nat) (w : World) (hv : v = .pointer none ∨ v = .pointer (some ⟨gC, 0, none⟩)) (H : CN w gC) : Calls Try.prog 23 #[v] w fun e w' => e = .returned (.bool false) ∧ CN w' gC ∧ Fp (fun j => j = gC) w w' := by
  rcases hv with rfl | rfl
  · replace H := hid H
    go_enter Try.func23, Try.ntmps23
    go_wp2_with fail
    go_ret
    exact ⟨rfl, H.out, Fp.refl _ _⟩
  · obtain ⟨i, h0, h1, HC⟩ := H
    refine (first_any gC none 0 0 i w HC).mono ?_
    rintro e w' ⟨rfl, m⟩
    exact ⟨by rw [at0], ⟨_, by omega, by omega, m.1⟩, m.2⟩
theorem last_no (v : Value) (gC : Nat) (w : World) (hv : v = .pointer none ∨ v = .pointer (some ⟨gC, 0, none⟩)) (H : CN w gC) : Calls Try.prog 24 #[v] w fun e w' => e = .returned (.bool false) ∧ CN w' gC ∧ Fp (fun j => j = gC) w w' := by
  rcases hv with rfl | rfl
  · replace H := hid H
    go_enter Try.func24, Try.ntmps24
    go_wp2_with fail
    go_ret
    exact ⟨rfl, H.out, Fp.refl _ _⟩
  · obtain ⟨i, h0, h1, HC⟩ := H
    refine (last_any gC none 0 0 i w HC).mono ?_
    rintro e w' ⟨rfl, m⟩
    exact ⟨by rw [at0], ⟨_, by omega, by omega, m.1⟩, m.2⟩
theorem prev_no (v : Value) (gC : Nat) (w : World) (hv : v = .pointer none ∨ v = .pointer (some ⟨gC, 0, none⟩)) (H : CN w gC) : Calls Try.prog 27 #[v] w fun e w' => e = .returned (.bool false) ∧ CN w' gC ∧ Fp (fun j => j = gC) w w' := by
  rcases hv with rfl | rfl
  · replace H := hid H
    go_enter Try.func27, Try.ntmps27
    go_wp2_with fail
    go_ret
    exact ⟨rfl, H.out, Fp.refl _ _⟩
  · obtain ⟨i, h0, h1, HC⟩ := H
    refine (prev_any gC none 0 0 i w HC (by omega) (by omega)).mono ?_
    rintro e w' ⟨rfl, m⟩
    exact ⟨by rw [at0], ⟨_, by omega, by omega, m.1⟩, m.2⟩
theorem next_no (v : Value) (gC : Nat) (w : World) (hv : v = .pointer none ∨ v = .pointer (some ⟨gC, 0, none⟩)) (H : CN w gC) : Calls Try.prog 26 #[v] w fun e w' => e = .returned (.bool false) ∧ CN w' gC ∧ Fp (fun j => j = gC) w w' := by
  rcases hv with rfl | rfl
  · replace H := hid H
    go_enter Try.func26, Try.ntmps26
    go_wp2_with fail
    go_quiet (fail)
    have K := fun nq => hid (H.out.later (drewN_below w nq))
    go_wp2_with fail
    go_ret
    exact ⟨rfl, (K _).out, Fp.of (drewN_below _ _)⟩
  · obtain ⟨i, h0, h1, HC⟩ := H
    refine (next_any gC none 0 0 i w HC (by omega) (by omega)).mono ?_
    rintro e w' ⟨rfl, m⟩
    exact ⟨by rw [at0], ⟨_, by omega, by omega, m.1⟩, m.2⟩
theorem seek_no (v : Value) (gC : Nat) (k : ByteArray) (s c : Int) (w : World) (hv : v = .pointer none ∨ v = .pointer (some ⟨gC, 0, none⟩)) (H : CN w gC) : Calls Try.prog 25 #[v, .agg #[.string k, .int .u64 s, .int .i64 c]] w fun e w' => e = .returned (.bool false) ∧ CN w' gC ∧ Fp (fun j => j = gC) w w' := by
  rcases hv with rfl | rfl
  · replace H := hid H
    go_enter Try.func25, Try.ntmps25
    have K := hid (H.out.later (box_below w (.cells #[.string k, .int .u64 s, .int .i64 c] 36)))
    go_wp2_with fail
    go_ret
    exact ⟨rfl, K.out, Fp.of (box_below _ _)⟩
  · obtain ⟨i, h0, h1, HC⟩ := H
    refine (seek_any gC none 0 0 0 i [] k s c w HC ⟨rfl, Nat.le_refl _, fun _ => ⟨rfl, rfl⟩, by simp, by simp⟩ (by omega) ⟨Nat.le_refl _, by omega, by simp⟩).mono ?_
    rintro e w' ⟨rfl, m⟩
    exact ⟨by rw [at0], ⟨_, by omega, by omega, m.1⟩, m.2⟩
theorem clen_no (v : Value) (gC : Nat) (w : World) (hv : v = .pointer none ∨ v = .pointer (some ⟨gC, 0, none⟩)) (H : CN w gC) : Calls Try.prog 20 #[v] w fun e w' => e = .returned (.int .i64 0) ∧ w' = w := by
  rcases hv with rfl | rfl
  · go_enter Try.func20, Try.ntmps20
    go_wp2
    go_ret
    exact ⟨rfl, rfl⟩
  · obtain ⟨i, h0, h1, HC⟩ := H
    exact len_any gC none 0 0 i w HC
theorem chere_no (v : Value) (gC : Nat) (w : World) (hv : v = .pointer none ∨ v = .pointer (some ⟨gC, 0, none⟩)) (H : CN w gC) : Calls Try.prog 22 #[v] w fun e w' => e = .returned (.tuple #[.agg #[.string ⟨#[]⟩, .int .u64 0, .int .i64 0], .string ⟨#[]⟩, .bool false]) ∧ Below w.heap.size w w' := by
  rcases hv with rfl | rfl
  · exact here_nil w
  · obtain ⟨i, h0, h1, HC⟩ := H
    exact here_no gC none 0 0 i w HC (at0 i)
end Go.Proofs.Ytkanjbeijoeenaa.Nb

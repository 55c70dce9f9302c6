/- The program's Valid. -/
import Derived.Test.YtefihoohdaegeaaCm
namespace Go.Proofs.Ytefihoohdaegeaa.Vl
open Go.ChangeShapes Go.WideShapes Go.ChangeAt Go.RowKit
open Go.Proofs.Ytefihoohdaegeaa.Ik
open Go.Proofs.Ytefihoohdaegeaa.Kd
open Go.Proofs.Ytefihoohdaegeaa.Cm
set_option linter.unusedVariables false

theorem data_inj {a b : ByteArray} (h : a.data.toList = b.data.toList) : a = b := by
  obtain ⟨⟨la⟩⟩ := a
  obtain ⟨⟨lb⟩⟩ := b
  simp at h
  rw [h]
/-- What Valid answers. -/
def vld (a : ByteArray) (s k : Int) : Bool := sizeB (a.size : Int) && seqB s && kindB k
theorem one_below (w : World) (o : Obj) : Below w.heap.size w (w.alloc o) := (Below.refl _ _).alloc (Nat.le_refl _) _
theorem valid_any (a : ByteArray) (s k : Int) (w : World) (ha : a.size ≤ maxLen) :
    Calls Try.prog 102 #[.agg #[.string a, .int .u64 s, .int .i64 k]] w fun e w' => e = .returned (.bool (vld a s k)) ∧ Below w.heap.size w w' := by
  unfold maxLen at ha
  cases h1 : sizeB (a.size : Int)
  · have E : Hid (false = vld a s k) := by show _ = _; unfold vld; simp [h1]
    go_enter Try.func102, Try.ntmps102
    go_wp2_with fail
    refine (isKeySize_any _ _).mono ?_
    rw [h1]
    rintro e w' ⟨rfl, rfl⟩
    go_wp2_with fail
    go_ret
    exact ⟨ret_bool E.out, one_below _ _⟩
  · cases h2 : seqB s
    · have E : Hid (false = vld a s k) := by show _ = _; unfold vld; simp [h2]
      go_enter Try.func102, Try.ntmps102
      go_wp2_with fail
      refine (isKeySize_any _ _).mono ?_
      rw [h1]
      rintro e w' ⟨rfl, rfl⟩
      go_wp2_with fail
      refine (isSeq_any _ _).mono ?_
      rw [h2]
      rintro e w' ⟨rfl, rfl⟩
      go_wp2_with fail
      go_ret
      exact ⟨ret_bool E.out, one_below _ _⟩
    · have E : Hid (kindB k = vld a s k) := by show _ = _; unfold vld; simp [h1, h2]
      go_enter Try.func102, Try.ntmps102
      go_wp2_with fail
      refine (isKeySize_any _ _).mono ?_
      rw [h1]
      rintro e w' ⟨rfl, rfl⟩
      go_wp2_with fail
      refine (isSeq_any _ _).mono ?_
      rw [h2]
      rintro e w' ⟨rfl, rfl⟩
      go_wp2_with fail
      refine (isKind_any _ _).mono ?_
      rintro e w' ⟨rfl, rfl⟩
      go_wp2_with fail
      go_ret
      exact ⟨ret_bool E.out, one_below _ _⟩
theorem compare_below (a : ByteArray) (s k : Int) (b : ByteArray) (t m : Int) (w : World) :
    Calls Try.prog 104 #[.agg #[.string a, .int .u64 s, .int .i64 k], .agg #[.string b, .int .u64 t, .int .i64 m]] w fun e w' => e = .returned (.int .i64 (cmp (ik a s k) (ik b t m))) ∧ Below w.heap.size w w' :=
  (compare_any a s k b t m w).mono fun _ _ h => ⟨h.1, by rw [h.2]; exact two_below _ _ _ _ _ _ _⟩
end Go.Proofs.Ytefihoohdaegeaa.Vl

/- The document's Compare and Valid, the program's Valid. -/
import Derived.Test.YtbpgifpplnmjmaaKr
import Derived.Test.YtbpgifpplnmjmaaCm
namespace Go.Proofs.Ytbpgifpplnmjmaa.Cm
open Go.ChangeShapes Go.WideShapes Go.ChangeAt Go.RowKit
open Go.Proofs.Ytbpgifpplnmjmaa.Ik
open Go.Proofs.Ytbpgifpplnmjmaa.Kd
set_option linter.unusedVariables false

theorem toList_inj {a b : ByteArray} (h : a.toList = b.toList) : a = b := by
  rw [ByteArray.toList_eq, ByteArray.toList_eq] at h
  obtain ⟨⟨la⟩⟩ := a
  obtain ⟨⟨lb⟩⟩ := b
  simp at h
  rw [h]
theorem data_inj {a b : ByteArray} (h : a.data.toList = b.data.toList) : a = b := by
  obtain ⟨⟨la⟩⟩ := a
  obtain ⟨⟨lb⟩⟩ := b
  simp at h
  rw [h]

theorem less_eq : ∀ (x y : Tx), Op.bytesLess x y = decide (x < y)
  | [], [] => by simp [Op.bytesLess]
  | _ :: _, [] => by simp [Op.bytesLess]
  | [], _ :: _ => by simp [Op.bytesLess]
  | a :: x, b :: y => by
    rw [Op.bytesLess, less_eq x y]
    rw [Bool.eq_iff_iff]
    simp [lt_cons]
theorem less_yes {a b : ByteArray} (h : a.data.toList < b.data.toList) : Op.bytesLess a.toList b.toList = true := by
  rw [less_eq, ByteArray.toList_eq, ByteArray.toList_eq]; exact decide_eq_true h
theorem less_no {a b : ByteArray} (h : ¬ a.data.toList < b.data.toList) : Op.bytesLess a.toList b.toList = false := by
  rw [less_eq, ByteArray.toList_eq, ByteArray.toList_eq]; exact decide_eq_false h
theorem text_ne {a b : ByteArray} (h : ¬ a = b) : (a.toList == b.toList) = false := by
  rw [beq_eq_false_iff_ne]; exact fun e => h (toList_inj e)

theorem rcompare_any (a : ByteArray) (s k : Int) (b : ByteArray) (t m : Int) (w : World) :
    Calls Try.prog 12 #[.agg #[.string a, .int .u64 s, .int .i64 k], .agg #[.string b, .int .u64 t, .int .i64 m]] w fun e w' => e = .returned (.int .i64 (cmp (ik a s k) (ik b t m))) ∧ Below w.heap.size w w' := by
  by_cases e1 : a = b
  · subst e1
    have i1 := lt_irrefl a.data.toList
    by_cases e2 : s = t
    · subst e2
      by_cases e3 : k = m
      · subst e3
        have E : Hid (0 = cmp (ik a s k) (ik a s k)) := (cmp_self _).symm
        go_enter Try.func12, Try.ntmps12
        go_wp2
        go_ret
        exact ⟨ret_int E.out, ((Below.refl _ _).alloc (Nat.le_refl _) _).alloc (by simp) _⟩
      · have n3 : (k != m) = true := by simpa using e3
        by_cases h : m < k
        · have E : Hid (-1 = cmp (ik a s k) (ik a s m)) := by show _ = _; unfold cmp ik; simp [i1, h]
          clear i1
          go_enter Try.func12, Try.ntmps12
          go_wp2
          go_ret
          exact ⟨ret_int E.out, ((Below.refl _ _).alloc (Nat.le_refl _) _).alloc (by simp) _⟩
        · have h' : k < m := by omega
          have E : Hid (1 = cmp (ik a s k) (ik a s m)) := by show _ = _; unfold cmp ik; simp [i1, h, h']
          clear i1
          go_enter Try.func12, Try.ntmps12
          go_wp2
          go_ret
          exact ⟨ret_int E.out, ((Below.refl _ _).alloc (Nat.le_refl _) _).alloc (by simp) _⟩
    · have n2 : (s != t) = true := by simpa using e2
      by_cases h : t < s
      · have E : Hid (-1 = cmp (ik a s k) (ik a t m)) := by show _ = _; unfold cmp ik; simp [i1, h]
        clear i1
        go_enter Try.func12, Try.ntmps12
        go_wp2
        go_ret
        exact ⟨ret_int E.out, ((Below.refl _ _).alloc (Nat.le_refl _) _).alloc (by simp) _⟩
      · have h' : s < t := by omega
        have E : Hid (1 = cmp (ik a s k) (ik a t m)) := by show _ = _; unfold cmp ik; simp [i1, h, h']
        clear i1
        go_enter Try.func12, Try.ntmps12
        go_wp2
        go_ret
        exact ⟨ret_int E.out, ((Below.refl _ _).alloc (Nat.le_refl _) _).alloc (by simp) _⟩
  · have n1 := text_ne e1
    by_cases h : a.data.toList < b.data.toList
    · have E : Hid (-1 = cmp (ik a s k) (ik b t m)) := by show _ = _; unfold cmp ik; simp only [h, if_true]
      have l1 := less_yes h
      clear h
      go_enter Try.func12, Try.ntmps12
      go_wp2
      go_ret
      exact ⟨ret_int E.out, ((Below.refl _ _).alloc (Nat.le_refl _) _).alloc (by simp) _⟩
    · have h' : b.data.toList < a.data.toList := by
        rcases lt_total a.data.toList b.data.toList with l | l | l
        · exact absurd l h
        · exact absurd (data_inj l) e1
        · exact l
      have E : Hid (1 = cmp (ik a s k) (ik b t m)) := by show _ = _; unfold cmp ik; simp only [h, h', if_true, if_false]
      have l1 := less_no h
      clear h h'
      go_enter Try.func12, Try.ntmps12
      go_wp2
      go_ret
      exact ⟨ret_int E.out, ((Below.refl _ _).alloc (Nat.le_refl _) _).alloc (by simp) _⟩

/-- What Valid answers. -/
def vld (a : ByteArray) (s k : Int) : Bool := sizeB (a.size : Int) && seqB s && kindB k
theorem one_below (w : World) (o : Obj) : Below w.heap.size w (w.alloc o) := (Below.refl _ _).alloc (Nat.le_refl _) _
theorem valid_any (a : ByteArray) (s k : Int) (w : World) (ha : a.size ≤ maxLen) :
    Calls Try.prog 9 #[.agg #[.string a, .int .u64 s, .int .i64 k]] w fun e w' => e = .returned (.bool (vld a s k)) ∧ Below w.heap.size w w' := by
  unfold maxLen at ha
  cases h1 : sizeB (a.size : Int)
  · have E : Hid (false = vld a s k) := by show _ = _; unfold vld; simp [h1]
    go_enter Try.func9, Try.ntmps9
    go_wp2_with fail
    refine (isKeySize_any _ _).mono ?_
    rw [h1]
    rintro e w' ⟨rfl, rfl⟩
    go_wp2_with fail
    go_ret
    exact ⟨ret_bool E.out, one_below _ _⟩
  · cases h2 : seqB s
    · have E : Hid (false = vld a s k) := by show _ = _; unfold vld; simp [h2]
      go_enter Try.func9, Try.ntmps9
      go_wp2_with fail
      refine (isKeySize_any _ _).mono ?_
      rw [h1]
      rintro e w' ⟨rfl, rfl⟩
      go_wp2_with fail
      refine (isSeq_any _ _).mono ?_
      rw [h2]
      rintro e w' ⟨rfl, rfl⟩
      go_wp2_with fail
      go_ret
      exact ⟨ret_bool E.out, one_below _ _⟩
    · have E : Hid (kindB k = vld a s k) := by show _ = _; unfold vld; simp [h1, h2]
      go_enter Try.func9, Try.ntmps9
      go_wp2_with fail
      refine (isKeySize_any _ _).mono ?_
      rw [h1]
      rintro e w' ⟨rfl, rfl⟩
      go_wp2_with fail
      refine (isSeq_any _ _).mono ?_
      rw [h2]
      rintro e w' ⟨rfl, rfl⟩
      go_wp2_with fail
      refine (isKind_any _ _).mono ?_
      rintro e w' ⟨rfl, rfl⟩
      go_wp2_with fail
      go_ret
      exact ⟨ret_bool E.out, one_below _ _⟩
theorem rvalid_any (a : ByteArray) (s k : Int) (w : World) (ha : a.size ≤ maxLen) :
    Calls Try.prog 10 #[.agg #[.string a, .int .u64 s, .int .i64 k]] w fun e w' => e = .returned (.bool (vld a s k)) ∧ Below w.heap.size w w' := by
  unfold maxLen at ha
  cases h1 : sizeB (a.size : Int)
  · have E : Hid (false = vld a s k) := by show _ = _; unfold vld; simp [h1]
    rcases size_false h1 with h1 | h1
    · go_enter Try.func10, Try.ntmps10
      go_wp2_with fail
      go_ret
      exact ⟨ret_bool E.out, one_below _ _⟩
    · have h1' : 1 ≤ (a.size : Int) := by omega
      go_enter Try.func10, Try.ntmps10
      go_wp2_with fail
      go_ret
      exact ⟨ret_bool E.out, one_below _ _⟩
  · obtain ⟨g1, g2⟩ := size_true h1
    cases h2 : seqB s
    · have E : Hid (false = vld a s k) := by show _ = _; unfold vld; simp [h2]
      have h2' := seq_false h2
      clear h1 h2
      go_enter Try.func10, Try.ntmps10
      go_wp2_with fail
      go_ret
      exact ⟨ret_bool E.out, one_below _ _⟩
    · have E : Hid (kindB k = vld a s k) := by show _ = _; unfold vld; simp [h1, h2]
      have h2' := seq_true h2
      clear h1 h2
      go_enter Try.func10, Try.ntmps10
      go_wp2_with fail
      refine (rkind_any _ _).mono ?_
      rintro e w' ⟨rfl, rfl⟩
      go_wp2_with fail
      go_ret
      exact ⟨ret_bool E.out, one_below _ _⟩
end Go.Proofs.Ytbpgifpplnmjmaa.Cm

/- The document's Compare, and the key of an entry. -/
import Derived.Test.YtgjodfaliajlgaaEe
namespace Go.Proofs.Ytgjodfaliajlgaa.Cm
open Go.ChangeShapes Go.WideShapes Go.ChangeAt Go.RowKit
open Go.Proofs.Ytgjodfaliajlgaa.Ik
open Go.Proofs.Ytgjodfaliajlgaa.Kd
set_option linter.unusedVariables false

theorem toList_inj {a b : ByteArray} (h : a.toList = b.toList) : a = b := by
  rw [ByteArray.toList_eq, ByteArray.toList_eq] at h
  obtain ⟨⟨la⟩⟩ := a
  obtain ⟨⟨lb⟩⟩ := b
  simp at h
  rw [h]
theorem data_inj {a b : ByteArray} (h : a.data.toList = b.data.toList) : a = b := by
  obtain ⟨⟨la⟩⟩ := a
  obtain ⟨⟨lb⟩⟩ := b
  simp at h
  rw [h]

theorem less_eq : ∀ (x y : Tx), Op.bytesLess x y = decide (x < y)
  | [], [] => by simp [Op.bytesLess]
  | _ :: _, [] => by simp [Op.bytesLess]
  | [], _ :: _ => by simp [Op.bytesLess]
  | a :: x, b :: y => by
    rw [Op.bytesLess, less_eq x y]
    rw [Bool.eq_iff_iff]
    simp [lt_cons]
theorem less_yes {a b : ByteArray} (h : a.data.toList < b.data.toList) : Op.bytesLess a.toList b.toList = true := by
  rw [less_eq, ByteArray.toList_eq, ByteArray.toList_eq]; exact decide_eq_true h
theorem less_no {a b : ByteArray} (h : ¬ a.data.toList < b.data.toList) : Op.bytesLess a.toList b.toList = false := by
  rw [less_eq, ByteArray.toList_eq, ByteArray.toList_eq]; exact decide_eq_false h
theorem text_ne {a b : ByteArray} (h : ¬ a = b) : (a.toList == b.toList) = false := by
  rw [beq_eq_false_iff_ne]; exact fun e => h (toList_inj e)

theorem rcompare_any (a : ByteArray) (s k : Int) (b : ByteArray) (t m : Int) (w : World) :
    Calls Try.prog 37 #[.agg #[.string a, .int .u64 s, .int .i64 k], .agg #[.string b, .int .u64 t, .int .i64 m]] w fun e w' => e = .returned (.int .i64 (cmp (ik a s k) (ik b t m))) ∧ Below w.heap.size w w' := by
  by_cases e1 : a = b
  · subst e1
    have i1 := lt_irrefl a.data.toList
    by_cases e2 : s = t
    · subst e2
      by_cases e3 : k = m
      · subst e3
        have E : Hid (0 = cmp (ik a s k) (ik a s k)) := (cmp_self _).symm
        go_enter Try.func37, Try.ntmps37
        go_wp2
        go_ret
        exact ⟨ret_int E.out, ((Below.refl _ _).alloc (Nat.le_refl _) _).alloc (by simp) _⟩
      · have n3 : (k != m) = true := by simpa using e3
        by_cases h : m < k
        · have E : Hid (-1 = cmp (ik a s k) (ik a s m)) := by show _ = _; unfold cmp ik; simp [i1, h]
          clear i1
          go_enter Try.func37, Try.ntmps37
          go_wp2
          go_ret
          exact ⟨ret_int E.out, ((Below.refl _ _).alloc (Nat.le_refl _) _).alloc (by simp) _⟩
        · have h' : k < m := by omega
          have E : Hid (1 = cmp (ik a s k) (ik a s m)) := by show _ = _; unfold cmp ik; simp [i1, h, h']
          clear i1
          go_enter Try.func37, Try.ntmps37
          go_wp2
          go_ret
          exact ⟨ret_int E.out, ((Below.refl _ _).alloc (Nat.le_refl _) _).alloc (by simp) _⟩
    · have n2 : (s != t) = true := by simpa using e2
      by_cases h : t < s
      · have E : Hid (-1 = cmp (ik a s k) (ik a t m)) := by show _ = _; unfold cmp ik; simp [i1, h]
        clear i1
        go_enter Try.func37, Try.ntmps37
        go_wp2
        go_ret
        exact ⟨ret_int E.out, ((Below.refl _ _).alloc (Nat.le_refl _) _).alloc (by simp) _⟩
      · have h' : s < t := by omega
        have E : Hid (1 = cmp (ik a s k) (ik a t m)) := by show _ = _; unfold cmp ik; simp [i1, h, h']
        clear i1
        go_enter Try.func37, Try.ntmps37
        go_wp2
        go_ret
        exact ⟨ret_int E.out, ((Below.refl _ _).alloc (Nat.le_refl _) _).alloc (by simp) _⟩
  · have n1 := text_ne e1
    by_cases h : a.data.toList < b.data.toList
    · have E : Hid (-1 = cmp (ik a s k) (ik b t m)) := by show _ = _; unfold cmp ik; simp only [h, if_true]
      have l1 := less_yes h
      clear h
      go_enter Try.func37, Try.ntmps37
      go_wp2
      go_ret
      exact ⟨ret_int E.out, ((Below.refl _ _).alloc (Nat.le_refl _) _).alloc (by simp) _⟩
    · have h' : b.data.toList < a.data.toList := by
        rcases lt_total a.data.toList b.data.toList with l | l | l
        · exact absurd l h
        · exact absurd (data_inj l) e1
        · exact l
      have E : Hid (1 = cmp (ik a s k) (ik b t m)) := by show _ = _; unfold cmp ik; simp only [h, h', if_true, if_false]
      have l1 := less_no h
      clear h h'
      go_enter Try.func37, Try.ntmps37
      go_wp2
      go_ret
      exact ⟨ret_int E.out, ((Below.refl _ _).alloc (Nat.le_refl _) _).alloc (by simp) _⟩

end Go.Proofs.Ytgjodfaliajlgaa.Cm
namespace Go.Proofs.Ytgjodfaliajlgaa.Rcm
open Go.ChangeShapes Go.WideShapes Go.ChangeAt Go.RowKit
open Go.Proofs.Ytgjodfaliajlgaa.Ik
open Go.Proofs.Ytgjodfaliajlgaa.Ee
set_option linter.unusedVariables false
theorem rkey_any (k : ByteArray) (s c : Int) (v : ByteArray) (w : World) :
    Calls Try.prog 38 #[.agg #[.string k, .int .u64 s, .int .i64 c, .string v]] w fun e w' => e = .returned (.agg #[.string k, .int .u64 s, .int .i64 c]) ∧ Below w.heap.size w w' := by
  go_enter Try.func38, Try.ntmps38
  go_wp2
  exact bodyPost_ret (v := .agg #[.string k, .int .u64 s, .int .i64 c]) (by simp [results, Try.results38, go_sem]) rfl ⟨rfl, ((Below.refl _ _).alloc (Nat.le_refl _) _).alloc (by simp) _⟩
end Go.Proofs.Ytgjodfaliajlgaa.Rcm

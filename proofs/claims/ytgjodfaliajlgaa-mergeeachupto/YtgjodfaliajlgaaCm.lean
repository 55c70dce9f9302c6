/- Compare of the program: the order of internal keys, by strings.Compare and cmp.Compare. -/
import Derived.Test.YtgjodfaliajlgaaKd
import Derived.Test.YtgjodfaliajlgaaIk
import Derived.Lib.Strings
import Derived.Lib.Slices
import Derived.Lib.Walk
import Derived.Lib.Bytealg
import Derived.Lib.QuietBelow
import Derived.BigQuiet
namespace Go.Proofs.Ytgjodfaliajlgaa.Cm
open Go.ChangeShapes Go.WideShapes Go.ChangeAt Go.RowKit
open Go.Proofs.Ytgjodfaliajlgaa.Ik
open Go.Proofs.Ytgjodfaliajlgaa.Kd
set_option linter.unusedVariables false

theorem compareBytes_eq : ∀ (a b : Tx), Lib.compareBytes a b = if a < b then -1 else if b < a then 1 else 0
  | [], [] => by simp [Lib.compareBytes]
  | [], y :: b => by simp [Lib.compareBytes]
  | x :: a, [] => by simp [Lib.compareBytes]
  | x :: a, y :: b => by
    unfold Lib.compareBytes
    rw [compareBytes_eq a b]
    by_cases h1 : x < y
    · rw [if_pos h1, if_pos ((lt_cons x y a b).2 (Or.inl h1))]
    · by_cases h2 : y < x
      · rw [if_neg h1, if_pos h2, if_neg, if_pos ((lt_cons y x b a).2 (Or.inl h2))]
        rw [lt_cons]
        rintro (h | ⟨rfl, _⟩)
        · exact h1 h
        · exact h1 h2
      · have e : x = y := by rw [u8_lt] at h1 h2; exact u8_eq x y (by omega)
        subst e
        rw [if_neg h1, if_neg h1]
        have e1 : (x :: a < x :: b) = (a < b) := by rw [lt_cons]; simp [h1]
        have e2 : (x :: b < x :: a) = (b < a) := by rw [lt_cons]; simp [h1]
        simp only [e1, e2]

set_option maxHeartbeats 1000000 in
set_option maxRecDepth 100000 in
theorem compareString_any (a b : ByteArray) (w : World) :
    Calls Try.prog 63 #[.string a, .string b] w fun e w' => e = .returned (.int .i64 (Lib.compareBytes a.data.toList b.data.toList)) ∧ w' = w := by
  go_enter Try.func63, Try.ntmps63
  go_wp2
  rw [run_callFunc_extern Try.func78 (by kernel_rfl) (by kernel_rfl) (by kernel_rfl) (e := Extern.BytealgCompare.compare) (by kernel_rfl), Lib.run_compareString]
  simp only [Result.andThen]
  rw [Oper.upon_value]
  go_wp2
  go_ret
  exact ⟨rfl, rfl⟩
theorem stringsCompare_any (a b : ByteArray) (w : World) :
    Calls Try.prog 49 #[.string a, .string b] w fun e w' => e = .returned (.int .i64 (Lib.compareBytes a.data.toList b.data.toList)) ∧ w' = w := by
  go_enter Try.func49, Try.ntmps49
  go_wp2_with fail
  refine (compareString_any _ _ _).mono ?_
  rintro e w' ⟨rfl, rfl⟩
  go_wp2_with fail
  go_ret
  exact ⟨rfl, rfl⟩

theorem ret_int {k : IntKind} {a b : Int} (h : a = b) : Ending.returned (.int k a) = .returned (.int k b) := by rw [h]
/-- Numbers held against one another. -/
def nc (x y : Int) : Int := if x < y then -1 else if y < x then 1 else 0
theorem isNaN64_any (x : Int) (w : World) : Calls Try.prog 64 #[.int .u64 x] w fun e w' => e = .returned (.bool false) ∧ w' = w := by
  have h : (x != x) = false := bne_self_eq_false _
  go_enter Try.func64, Try.ntmps64
  go_wp2
  go_ret
  exact ⟨rfl, rfl⟩
theorem isNaN_any (x : Int) (w : World) : Calls Try.prog 65 #[.int .i64 x] w fun e w' => e = .returned (.bool false) ∧ w' = w := by
  have h : (x != x) = false := bne_self_eq_false _
  go_enter Try.func65, Try.ntmps65
  go_wp2
  go_ret
  exact ⟨rfl, rfl⟩
theorem cmp64_any (x y : Int) (w : World) : Calls Try.prog 50 #[.int .u64 x, .int .u64 y] w fun e w' => e = .returned (.int .i64 (nc x y)) ∧ w' = w := by
  unfold nc
  by_cases h : x < y
  · rw [if_pos h]
    go_enter Try.func50, Try.ntmps50
    go_wp2_with fail
    refine (isNaN64_any _ _).mono ?_
    rintro e w' ⟨rfl, rfl⟩
    go_wp2_with fail
    refine (isNaN64_any _ _).mono ?_
    rintro e w' ⟨rfl, rfl⟩
    go_wp2_with fail
    go_ret
    exact ⟨rfl, rfl⟩
  · rw [if_neg h]
    by_cases h2 : y < x
    · rw [if_pos h2]
      go_enter Try.func50, Try.ntmps50
      go_wp2_with fail
      refine (isNaN64_any _ _).mono ?_
      rintro e w' ⟨rfl, rfl⟩
      go_wp2_with fail
      refine (isNaN64_any _ _).mono ?_
      rintro e w' ⟨rfl, rfl⟩
      go_wp2_with fail
      go_ret
      exact ⟨rfl, rfl⟩
    · rw [if_neg h2]
      go_enter Try.func50, Try.ntmps50
      go_wp2_with fail
      refine (isNaN64_any _ _).mono ?_
      rintro e w' ⟨rfl, rfl⟩
      go_wp2_with fail
      refine (isNaN64_any _ _).mono ?_
      rintro e w' ⟨rfl, rfl⟩
      go_wp2_with fail
      go_ret
      exact ⟨rfl, rfl⟩
theorem cmpInt_any (x y : Int) (w : World) : Calls Try.prog 51 #[.int .i64 x, .int .i64 y] w fun e w' => e = .returned (.int .i64 (nc x y)) ∧ w' = w := by
  unfold nc
  by_cases h : x < y
  · rw [if_pos h]
    go_enter Try.func51, Try.ntmps51
    go_wp2_with fail
    refine (isNaN_any _ _).mono ?_
    rintro e w' ⟨rfl, rfl⟩
    go_wp2_with fail
    refine (isNaN_any _ _).mono ?_
    rintro e w' ⟨rfl, rfl⟩
    go_wp2_with fail
    go_ret
    exact ⟨rfl, rfl⟩
  · rw [if_neg h]
    by_cases h2 : y < x
    · rw [if_pos h2]
      go_enter Try.func51, Try.ntmps51
      go_wp2_with fail
      refine (isNaN_any _ _).mono ?_
      rintro e w' ⟨rfl, rfl⟩
      go_wp2_with fail
      refine (isNaN_any _ _).mono ?_
      rintro e w' ⟨rfl, rfl⟩
      go_wp2_with fail
      go_ret
      exact ⟨rfl, rfl⟩
    · rw [if_neg h2]
      go_enter Try.func51, Try.ntmps51
      go_wp2_with fail
      refine (isNaN_any _ _).mono ?_
      rintro e w' ⟨rfl, rfl⟩
      go_wp2_with fail
      refine (isNaN_any _ _).mono ?_
      rintro e w' ⟨rfl, rfl⟩
      go_wp2_with fail
      go_ret
      exact ⟨rfl, rfl⟩

/-- An internal key as a value; its own order. -/
def ikv (a : ByteArray) (s k : Int) : Value := .agg #[.string a, .int .u64 s, .int .i64 k]
def ik (a : ByteArray) (s k : Int) : IK := (a.data.toList, s, k)
def two (w : World) (a : ByteArray) (s k : Int) (b : ByteArray) (t m : Int) : World := (w.alloc (.cells #[.string a, .int .u64 s, .int .i64 k] 33)).alloc (.cells #[.string b, .int .u64 t, .int .i64 m] 33)
theorem two_below (w : World) (a : ByteArray) (s k : Int) (b : ByteArray) (t m : Int) : Below w.heap.size w (two w a s k b t m) :=
  ((Below.refl _ _).alloc (Nat.le_refl _) _).alloc (by simp) _
set_option maxHeartbeats 1000000 in
theorem compare_any (a : ByteArray) (s k : Int) (b : ByteArray) (t m : Int) (w : World) :
    Calls Try.prog 32 #[.agg #[.string a, .int .u64 s, .int .i64 k], .agg #[.string b, .int .u64 t, .int .i64 m]] w fun e w' => e = .returned (.int .i64 (cmp (ik a s k) (ik b t m))) ∧ w' = two w a s k b t m := by
  have E : Hid (cmp (ik a s k) (ik b t m) = if Lib.compareBytes a.data.toList b.data.toList != 0 then Lib.compareBytes a.data.toList b.data.toList else if nc t s != 0 then nc t s else nc m k) := by
    show _ = _
    unfold cmp ik nc
    rw [compareBytes_eq]
    dsimp only
    repeat' split
    all_goals simp_all <;> omega
  obtain ⟨c1, h1⟩ : ∃ c, c = Lib.compareBytes a.data.toList b.data.toList := ⟨_, rfl⟩
  obtain ⟨c2, h2⟩ : ∃ c, c = nc t s := ⟨_, rfl⟩
  obtain ⟨c3, h3⟩ : ∃ c, c = nc m k := ⟨_, rfl⟩
  rw [← h1, ← h2, ← h3] at E
  have C1 : Hid (∀ w, Calls Try.prog 49 #[.string a, .string b] w fun e w' => e = .returned (.int .i64 c1) ∧ w' = w) := by rw [h1]; exact stringsCompare_any a b
  have C2 : Hid (∀ w, Calls Try.prog 50 #[.int .u64 t, .int .u64 s] w fun e w' => e = .returned (.int .i64 c2) ∧ w' = w) := by rw [h2]; exact cmp64_any t s
  have C3 : Hid (∀ w, Calls Try.prog 51 #[.int .i64 m, .int .i64 k] w fun e w' => e = .returned (.int .i64 c3) ∧ w' = w) := by rw [h3]; exact cmpInt_any m k
  clear h1 h2 h3
  have E := E.out
  generalize cmp (ik a s k) (ik b t m) = r at E ⊢
  have W : Hid (∀ w', w' = (w.alloc (.cells #[.string a, .int .u64 s, .int .i64 k] 33)).alloc (.cells #[.string b, .int .u64 t, .int .i64 m] 33) → w' = two w a s k b t m) := fun _ h => h
  cases hc1 : (c1 != 0)
  · cases hc2 : (c2 != 0)
    · rw [hc1, hc2] at E
      have E' : Hid (c3 = r) := by show _ = _; simpa using E.symm
      clear E
      go_enter Try.func32, Try.ntmps32
      go_wp2_with fail
      refine (C1.out _).mono ?_
      rintro e w' ⟨rfl, rfl⟩
      go_wp2_with fail
      refine (C2.out _).mono ?_
      rintro e w' ⟨rfl, rfl⟩
      go_wp2_with fail
      refine (C3.out _).mono ?_
      rintro e w' ⟨rfl, rfl⟩
      go_wp2_with fail
      go_ret
      exact ⟨ret_int E'.out, W.out _ rfl⟩
    · rw [hc1, hc2] at E
      have E' : Hid (c2 = r) := by show _ = _; simpa using E.symm
      clear E
      go_enter Try.func32, Try.ntmps32
      go_wp2_with fail
      refine (C1.out _).mono ?_
      rintro e w' ⟨rfl, rfl⟩
      go_wp2_with fail
      refine (C2.out _).mono ?_
      rintro e w' ⟨rfl, rfl⟩
      go_wp2_with fail
      go_ret
      exact ⟨ret_int E'.out, W.out _ rfl⟩
  · rw [hc1] at E
    have E' : Hid (c1 = r) := by show _ = _; simpa using E.symm
    clear E
    go_enter Try.func32, Try.ntmps32
    go_wp2_with fail
    refine (C1.out _).mono ?_
    rintro e w' ⟨rfl, rfl⟩
    go_wp2_with fail
    go_ret
    exact ⟨ret_int E'.out, W.out _ rfl⟩
end Go.Proofs.Ytgjodfaliajlgaa.Cm

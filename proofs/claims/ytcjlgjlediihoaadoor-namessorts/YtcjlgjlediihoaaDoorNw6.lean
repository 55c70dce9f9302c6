/- NamesNames walked. -/
import Derived.Test.YtcjlgjlediihoaaDoorPs
import Derived.Test.YtcjlgjlediihoaaDoorLc
namespace Go.Proofs.YtcjlgjlediihoaaDoor.Rw
open Go.ChangeShapes Go.WideShapes Go.ChangeAt Go.RowKit
open Go.Proofs.YtcjlgjlediihoaaDoor.Ut
open Go.Proofs.YtcjlgjlediihoaaDoor.By
set_option linter.unusedVariables false
set_option linter.unusedSimpArgs false

theorem named_two (s : ByteArray) (hs : s.size ≤ 281474976710656) (w : World) (T : Hid (Fm w)) (U : Hid (Tb w)) : Calls Tryd.prog 15 #[.string s] w fun e w' => ∃ a b : Int, e = .returned (.tuple #[.int .i64 a, .int .i64 b]) ∧ Hid (∀ a' b' : Int, Nz s a' b' → a = a' ∧ b = b') ∧ Below w.heap.size w w' := by
  refine (named_any s hs w T U).mono ?_
  rintro e w' ⟨kk, nn, ee, hp, he, hb⟩
  by_cases hc : Lib.hasSuffix s.data.toList [10] = true ∧ ee = 0 ∧ kk = 3
  · rw [if_pos hc] at he
    refine ⟨nn, 0, he, fun a' b' hz => ?_, hb⟩
    have h := named_alike s kk nn ee a' b' hp.out hz
    rw [if_pos hc] at h
    simp only [Value.tuple.injEq, Array.mk.injEq, List.cons.injEq, Value.int.injEq, true_and, and_true] at h
    exact h
  · rw [if_neg hc] at he
    refine ⟨0, 60, he, fun a' b' hz => ?_, hb⟩
    have h := named_alike s kk nn ee a' b' hp.out hz
    rw [if_neg hc] at h
    simp only [Value.tuple.injEq, Array.mk.injEq, List.cons.injEq, Value.int.injEq, true_and, and_true] at h
    exact h
theorem numbers_any (w : World) : Calls Tryd.prog 8 #[] w fun e w' => e = .returned (.bool true) ∧ w' = w := by
  go_enter Tryd.func8, Tryd.ntmps8
  go_wp2
  go_ret
  exact ⟨rfl, rfl⟩
set_option maxRecDepth 1000000 in
set_option maxHeartbeats 4000000 in
theorem names_walk (kind number : Int) (s : ByteArray) (hs : s.size ≤ 281474976710656) (w : World) (F : Hid (Fm w)) (U : Hid (Tb w)) :
    Calls Tryd.prog 3 #[.int .i64 kind, .int .i64 number, .string s] w fun e w' => e = .returned (.bool true) ∧ Below w.heap.size w w' := by
  have HW := hid (numbers_any w)
  have HN := hid (name_any kind number w F U)
  have HR := hid (fun W => rname_any kind number W)
  have HC : Hid (∀ W, Hid (Fm W) → Hid (Tb W) → _) := fun W F U => current_any number W F U
  have HD := hid (fun W => rcurrent_any number W)
  generalize nm kind number = R at HN HR
  generalize cu number = C at HC HD
  obtain ⟨r, re⟩ := R
  obtain ⟨c, ce⟩ := C
  have t1 : (r.toList == r.toList) = true := beq_self_eq_true _
  have t2 : (c.toList == c.toList) = true := beq_self_eq_true _
  go_enter Tryd.func3, Tryd.ntmps3
  go_wp2_with fail
  refine HW.out.mono ?_
  rintro e w0 ⟨rfl, rfl⟩
  clear HW
  go_wp2_with fail
  refine HN.out.mono ?_
  rintro e w1 ⟨rfl, b1⟩
  have c1 := hid b1
  clear HN b1
  go_wp2_with fail
  refine (HR.out _).mono ?_
  rintro e w2 ⟨rfl, b2⟩
  have c2 := hid (c1.out.trans (b2.mono c1.out.size))
  clear HR b2 c1
  have HP := hid (parse_any s hs _ (F.out.later c2.out) (U.out.later c2.out))
  go_wp2_with fail
  refine HP.out.mono ?_
  rintro e w3 ⟨k3, n3, e3, rfl, p3, b3⟩
  have c3 := hid (c2.out.trans (b3.mono c2.out.size))
  clear HP b3 c2
  have HQ := hid (rparse_any s hs w3)
  go_wp2_with fail
  refine HQ.out.mono ?_
  rintro e w4 ⟨k4, n4, e4, rfl, p4, b4⟩
  have c4 := hid (c3.out.trans (b4.mono c3.out.size))
  clear HQ b4 c3
  obtain ⟨hk, hn, he⟩ := alike s k3 n3 e3 k4 n4 e4 p3.out p4.out
  clear p3 p4
  subst hk
  subst hn
  subst he
  have HC1 := hid (HC.out _ (F.out.later c4.out) (U.out.later c4.out))
  clear HC
  go_wp2_with fail
  refine HC1.out.mono ?_
  rintro e w5 ⟨rfl, b5⟩
  have c5 := hid (c4.out.trans (b5.mono c4.out.size))
  clear HC1 b5 c4
  go_wp2_with fail
  refine (HD.out _).mono ?_
  rintro e w6 ⟨rfl, b6⟩
  have c6 := hid (c5.out.trans (b6.mono c5.out.size))
  clear HD b6 c5
  have HE := hid (named_two s hs _ (F.out.later c6.out) (U.out.later c6.out))
  go_wp2_with fail
  refine HE.out.mono ?_
  rintro e w7 ⟨a7, a8, rfl, p7, b7⟩
  have c7 := hid (c6.out.trans (b7.mono c6.out.size))
  clear HE b7 c6
  have HG := hid (rnamed_any s hs w7)
  go_wp2_with fail
  refine HG.out.mono ?_
  rintro e w8 ⟨d7, d8, rfl, p8, b8⟩
  have c8 := hid (c7.out.trans (b8.mono c7.out.size))
  clear HG b8 c7
  obtain ⟨h7, h8⟩ := p7.out d7 d8 p8.out
  clear p7 p8
  subst h7
  subst h8
  go_wp2_with fail
  go_ret
  exact ⟨rfl, c8.out⟩
abbrev laid4 : List (String × DataW Unit) := [("math/bits.deBruijn32tab", Rows.laid_math_bits_deBruijn32tab), ("math/bits.deBruijn64tab", Rows.laid_math_bits_deBruijn64tab), ("internal/strconv.uint64pow10", Rows.laid_internal_strconv_uint64pow10), ("moraine/names.numbered", Rows.laid_moraine_names_numbered)]
theorem tabs4_of {W : World} (h : laidMetH Tryd.prog laid4 W) : Fm W ∧ Tb W := by
  rw [MakeChecks.laidMetH_plain _ _ _ (by kernel_rfl)] at h
  obtain ⟨ps, h0, _⟩ := h
  obtain ⟨q1, h1⟩ := laid_tail h0
  obtain ⟨q2, h2⟩ := laid_tail h1
  obtain ⟨q3, h3⟩ := laid_tail h2
  exact ⟨forms_of h3, pow_of h2⟩
end Go.Proofs.YtcjlgjlediihoaaDoor.Rw

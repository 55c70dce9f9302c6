/- The chapter's first example. -/
import Derived.Test.YthnmoidfdojoiaaPu
namespace Go.Proofs.Ythnmoidfdojoiaa.Wk
open Go.ChangeShapes Go.WideShapes Go.ChangeAt Go.RowKit
open Go.Sort (grow)
open Go.Proofs.Ythnmoidfdojoiaa.Ik
open Go.Proofs.Ythnmoidfdojoiaa.Sg
open Go.Proofs.Ythnmoidfdojoiaa.Cm (ik)
open Go.Proofs.Ythnmoidfdojoiaa.Vl
open Go.Proofs.Ythnmoidfdojoiaa.Mm
open Go.Proofs.Ythnmoidfdojoiaa.Tr
open Go.Proofs.Ythnmoidfdojoiaa.Li
open Go.Proofs.Ythnmoidfdojoiaa.In
open Go.Proofs.Ythnmoidfdojoiaa.Oi
set_option linter.unusedVariables false
set_option linter.unusedSimpArgs false

open Go.Proofs.Ythnmoidfdojoiaa.Tl
open Go.Proofs.Ythnmoidfdojoiaa.Fi

open Go.Proofs.Ythnmoidfdojoiaa.Pu

set_option maxHeartbeats 1000000 in
theorem key_any (k : ByteArray) (s : Int) (w : World) : Calls Try.prog 75 #[.string k, .int .u64 s] w fun e w' => e = .returned (.agg #[.string k, .int .u64 s, .int .i64 1]) ∧ Below w.heap.size w w' := by
  go_enter Try.func75, Try.ntmps75
  go_wp2
  exact bodyPost_ret (v := .agg #[.string k, .int .u64 s, .int .i64 1]) (by simp [results, Try.results75, go_sem]) rfl ⟨rfl, box_below _ _⟩
def n1 : List N := [⟨⟨#[98]⟩, 1, 1, .int .i64 0, 2⟩]
def n2 : List N := [⟨⟨#[98]⟩, 1, 1, .int .i64 0, 2⟩, ⟨⟨#[97]⟩, 1, 1, .int .i64 0, 1⟩]
def n3 : List N := [⟨⟨#[98]⟩, 1, 1, .int .i64 0, 2⟩, ⟨⟨#[97]⟩, 1, 1, .int .i64 0, 1⟩, ⟨⟨#[99]⟩, 1, 1, .int .i64 0, 3⟩]
theorem w1 : insE 3 [] [] (⟨#[98]⟩ : ByteArray) 1 1 2 = 0 := by decide
theorem w2 : insE 3 n1 [1] (⟨#[97]⟩ : ByteArray) 1 1 1 = 0 := by decide
theorem w3 : insE 3 n2 [2, 1] (⟨#[99]⟩ : ByteArray) 1 1 3 = 0 := by decide
theorem w4 : ordI [] [] (ik (⟨#[98]⟩ : ByteArray) 1 1) 1 = [1] := by decide
theorem w5 : ordI n1 [1] (ik (⟨#[97]⟩ : ByteArray) 1 1) 2 = [2, 1] := by decide
theorem w6 : ordI n2 [2, 1] (ik (⟨#[99]⟩ : ByteArray) 1 1) 3 = [2, 1, 3] := by decide
theorem w7 : lnk n3 [2, 1, 3] 0 = [2, 1, 3] := by decide
theorem w8 : lnk n3 [2, 1, 3] 1 = [1, 3] := by decide
theorem w9 : firstN n3 [2, 1, 3] (ik (⟨#[98]⟩ : ByteArray) 2 1) = 1 := by decide
theorem w10 : trl n3 [2, 1, 3] (ik (⟨#[99]⟩ : ByteArray) 1 1) (top n3) = [0, 1, 1] := by decide
theorem a1 {w : World} {base g b : Nat} (h : SL w base g b 3 ([] ++ [⟨⟨#[98]⟩, 1, 1, .int .i64 0, (2 : Int).toNat⟩]) (ordI [] [] (ik (⟨#[98]⟩ : ByteArray) 1 1) (([] : List N).length + 1))) : SL w base g b 3 n1 [1] := by
  rw [show ordI [] [] (ik (⟨#[98]⟩ : ByteArray) 1 1) (([] : List N).length + 1) = [1] by decide] at h
  exact h
theorem a2 {w : World} {base g b : Nat} (h : SL w base g b 3 (n1 ++ [⟨⟨#[97]⟩, 1, 1, .int .i64 0, (1 : Int).toNat⟩]) (ordI n1 [1] (ik (⟨#[97]⟩ : ByteArray) 1 1) (n1.length + 1))) : SL w base g b 3 n2 [2, 1] := by
  rw [show ordI n1 [1] (ik (⟨#[97]⟩ : ByteArray) 1 1) (n1.length + 1) = [2, 1] by decide] at h
  exact h
theorem a3 {w : World} {base g b : Nat} (h : SL w base g b 3 (n2 ++ [⟨⟨#[99]⟩, 1, 1, .int .i64 0, (3 : Int).toNat⟩]) (ordI n2 [2, 1] (ik (⟨#[99]⟩ : ByteArray) 1 1) (n2.length + 1))) : SL w base g b 3 n3 [2, 1, 3] := by
  rw [show ordI n2 [2, 1] (ik (⟨#[99]⟩ : ByteArray) 1 1) (n2.length + 1) = [2, 1, 3] by decide] at h
  exact h
theorem hk98 : (⟨#[98]⟩ : ByteArray).size ≤ maxLen := by unfold maxLen; decide
theorem hk97 : (⟨#[97]⟩ : ByteArray).size ≤ maxLen := by unfold maxLen; decide
theorem hk99 : (⟨#[99]⟩ : ByteArray).size ≤ maxLen := by unfold maxLen; decide
theorem built (w : World) (base : Nat) (xs : List Int) (hb : base ≤ w.heap.size) (hl : xs.length ≤ 1000) : OwnZ (w.alloc (.cells (xs.map fun x => Value.int .i64 x).toArray 3)) base (.slice (some ⟨w.heap.size, 0, none⟩) xs.length xs.length) xs := by
  refine ⟨by simp, .inr ⟨w.heap.size, xs.length, _, rfl, hb, new_at _ _, Nat.le_refl _, by unfold maxLen; omega, by simp, ?_⟩⟩
  rw [Nat.mul_one]
  exact List.take_of_length_le (by simp)
set_option maxHeartbeats 4000000 in
set_option maxRecDepth 100000 in
theorem works_any (w : World) : Calls Try.prog 33 #[] w fun e w' => e = .returned (.bool true) ∧ Below w.heap.size w w' := by
  have HN := hid (new_ok 3 w (by omega) (by omega))
  obtain ⟨g0, hg0⟩ : ∃ g0, g0 = w.heap.size := ⟨_, rfl⟩
  rw [← hg0] at HN
  replace hg0 := hid hg0
  have HZ : Hid (∀ W, Below g0 w W → g0 ≤ W.heap.size) := fun W h => by rw [hg0.out]; exact h.size
  go_enter Try.func33, Try.ntmps33
  go_wp2_with fail
  refine HN.out.mono ?_
  rintro e v1 ⟨rfl, S1, B1⟩
  clear HN
  have z1 := B1.size
  replace S1 := hid S1
  replace B1 := hid B1
  obtain ⟨b1, hb1⟩ : ∃ b1, b1 = g0 := ⟨_, rfl⟩
  have S1' : Hid (SL v1 g0 (g0 + 1) b1 3 [] []) := by rw [hb1]; exact S1
  have B1' : Hid (Below g0 w v1) := by exact B1
  clear S1 B1 hb1
  go_wp2_with fail
  refine (key_any ⟨#[98]⟩ 1 _).mono ?_
  rintro e u1 ⟨rfl, c1⟩
  have Su1 := S1'.out.later c1
  have Bu1 := B1'.out.trans (c1.mono (HZ.out _ B1'.out))
  have HI1 := insert_yes g0 (g0 + 1) b1 3 [] [] (⟨#[98]⟩ : ByteArray) 1 1 0 2 u1 Su1 (HZ.out _ Bu1) hk98 w1
  clear c1
  replace Su1 := hid Su1
  replace Bu1 := hid Bu1
  replace HI1 := hid HI1
  go_wp2_with fail
  refine HI1.out.mono ?_
  rintro e v2 ⟨rfl, F2, b2, hb2, S2⟩
  have B2 : Below g0 w v2 := Bu1.out.trans (F2.base (by omega) (SL.bases Su1.out).2.1 (HZ.out _ Bu1.out))
  have S2' : SL v2 g0 (g0 + 1) b2 3 n1 [1] := a1 S2
  clear F2 hb2 S2 HI1 Su1 Bu1
  replace B2 := hid B2
  replace S2' := hid S2'
  go_wp2_with fail
  refine (key_any ⟨#[97]⟩ 1 _).mono ?_
  rintro e u2 ⟨rfl, c2⟩
  have Su2 := S2'.out.later c2
  have Bu2 := B2.out.trans (c2.mono (HZ.out _ B2.out))
  have HI2 := insert_yes g0 (g0 + 1) b2 3 n1 [1] (⟨#[97]⟩ : ByteArray) 1 1 0 1 u2 Su2 (HZ.out _ Bu2) hk97 w2
  clear c2
  replace Su2 := hid Su2
  replace Bu2 := hid Bu2
  replace HI2 := hid HI2
  go_wp2_with fail
  refine HI2.out.mono ?_
  rintro e v3 ⟨rfl, F3, b3, hb3, S3⟩
  have B3 : Below g0 w v3 := Bu2.out.trans (F3.base (by omega) (SL.bases Su2.out).2.1 (HZ.out _ Bu2.out))
  have S3' : SL v3 g0 (g0 + 1) b3 3 n2 [2, 1] := a2 S3
  clear F3 hb3 S3 HI2 Su2 Bu2
  replace B3 := hid B3
  replace S3' := hid S3'
  go_wp2_with fail
  refine (key_any ⟨#[99]⟩ 1 _).mono ?_
  rintro e u3 ⟨rfl, c3⟩
  have Su3 := S3'.out.later c3
  have Bu3 := B3.out.trans (c3.mono (HZ.out _ B3.out))
  have HI3 := insert_yes g0 (g0 + 1) b3 3 n2 [2, 1] (⟨#[99]⟩ : ByteArray) 1 1 0 3 u3 Su3 (HZ.out _ Bu3) hk99 w3
  clear c3
  replace Su3 := hid Su3
  replace Bu3 := hid Bu3
  replace HI3 := hid HI3
  go_wp2_with fail
  refine HI3.out.mono ?_
  rintro e v4 ⟨rfl, F4, b4, hb4, S4⟩
  have B4 : Below g0 w v4 := Bu3.out.trans (F4.base (by omega) (SL.bases Su3.out).2.1 (HZ.out _ Bu3.out))
  have S4' : SL v4 g0 (g0 + 1) b4 3 n3 [2, 1, 3] := a3 S4
  clear F4 hb4 S4 HI3 Su3 Bu3
  replace B4 := hid B4
  replace S4' := hid S4'
  have HL5 := links_any g0 (g0 + 1) b4 3 n3 [2, 1, 3] 0 v4 S4'.out
  rw [w7] at HL5
  replace HL5 := hid HL5
  go_wp2_with fail
  refine HL5.out.mono ?_
  rintro e r5 ⟨x5, rfl, O5, c5⟩
  have S5 := S4'.out.later c5
  have B5 := B4.out.trans (c5.mono (HZ.out _ B4.out))
  obtain ⟨q5, hq5⟩ : ∃ q, q = r5.alloc (.cells #[.int .i64 2, .int .i64 1, .int .i64 3] 3) := ⟨_, rfl⟩
  have d5 : Below r5.heap.size r5 q5 := by rw [hq5]; exact box_below _ _
  have HE5 := ints_eq x5 (.slice (some ⟨r5.heap.size, 0, none⟩) 3 3) v4.heap.size 0 [2, 1, 3] q5 (O5.later d5) (by rw [hq5]; exact built r5 0 [2, 1, 3] (by omega) (by simp)) (by simp)
  rw [hq5] at HE5
  have T5 := S5.later d5
  have D5 := B5.trans (d5.mono (HZ.out _ B5))
  have hs5 := hq5
  clear S5 B5 O5 c5 HL5
  replace HE5 := hid HE5
  replace hs5 := hid hs5
  replace d5 := hid d5
  replace T5 := hid T5
  replace D5 := hid D5
  clear hq5
  go_wp2_with fail
  refine HE5.out.mono ?_
  rw [← hs5.out]
  rintro e p5 ⟨rfl, c5⟩
  have S5 := hid (T5.out.later c5)
  have B5 := hid (D5.out.trans (c5.mono (HZ.out _ D5.out)))
  clear T5 D5 c5 hs5 d5 HE5
  have HL6 := links_any g0 (g0 + 1) b4 3 n3 [2, 1, 3] 1 p5 S5.out
  rw [w8] at HL6
  replace HL6 := hid HL6
  go_wp2_with fail
  refine HL6.out.mono ?_
  rintro e r6 ⟨x6, rfl, O6, c6⟩
  have S6 := S5.out.later c6
  have B6 := B5.out.trans (c6.mono (HZ.out _ B5.out))
  obtain ⟨q6, hq6⟩ : ∃ q, q = r6.alloc (.cells #[.int .i64 1, .int .i64 3] 3) := ⟨_, rfl⟩
  have d6 : Below r6.heap.size r6 q6 := by rw [hq6]; exact box_below _ _
  have HE6 := ints_eq x6 (.slice (some ⟨r6.heap.size, 0, none⟩) 2 2) p5.heap.size 0 [1, 3] q6 (O6.later d6) (by rw [hq6]; exact built r6 0 [1, 3] (by omega) (by simp)) (by simp)
  rw [hq6] at HE6
  have T6 := S6.later d6
  have D6 := B6.trans (d6.mono (HZ.out _ B6))
  have hs6 := hq6
  clear S6 B6 O6 c6 HL6
  replace HE6 := hid HE6
  replace hs6 := hid hs6
  replace d6 := hid d6
  replace T6 := hid T6
  replace D6 := hid D6
  clear hq6
  go_wp2_with fail
  refine HE6.out.mono ?_
  rw [← hs6.out]
  rintro e p6 ⟨rfl, c6⟩
  have S6 := hid (T6.out.later c6)
  have B6 := hid (D6.out.trans (c6.mono (HZ.out _ D6.out)))
  clear T6 D6 c6 hs6 d6 HE6
  go_wp2_with fail
  refine (key_any ⟨#[98]⟩ 2 _).mono ?_
  rintro e u7 ⟨rfl, c7⟩
  have S7 := S6.out.later c7
  have B7 := B6.out.trans (c7.mono (HZ.out _ B6.out))
  have HS7 := seek_any g0 (g0 + 1) b4 3 n3 [2, 1, 3] (⟨#[98]⟩ : ByteArray) 2 1 u7 S7
  rw [w9] at HS7
  clear c7
  replace HS7 := hid HS7
  replace S7 := hid S7
  replace B7 := hid B7
  go_wp2_with fail
  refine HS7.out.mono ?_
  rintro e u8 ⟨rfl, c8⟩
  have S8 := hid (S7.out.later c8)
  have B8 := hid (B7.out.trans (c8.mono (HZ.out _ B7.out)))
  clear c8 HS7
  go_wp2_with fail
  refine (key_any ⟨#[99]⟩ 1 _).mono ?_
  rintro e u9 ⟨rfl, c9⟩
  have S9 := hid (S8.out.later c9)
  have B9 := hid (B8.out.trans (c9.mono (HZ.out _ B8.out)))
  clear c9
  have HL10 := trailing_any g0 (g0 + 1) b4 3 n3 [2, 1, 3] (⟨#[99]⟩ : ByteArray) 1 1 u9 S9.out
  rw [w10] at HL10
  replace HL10 := hid HL10
  go_wp2_with fail
  refine HL10.out.mono ?_
  rintro e r10 ⟨x10, rfl, O10, c10⟩
  have S10 := S9.out.later c10
  have B10 := B9.out.trans (c10.mono (HZ.out _ B9.out))
  obtain ⟨q10, hq10⟩ : ∃ q, q = r10.alloc (.cells #[.int .i64 0, .int .i64 1, .int .i64 1] 3) := ⟨_, rfl⟩
  have d10 : Below r10.heap.size r10 q10 := by rw [hq10]; exact box_below _ _
  have HE10 := ints_eq x10 (.slice (some ⟨r10.heap.size, 0, none⟩) 3 3) u9.heap.size 0 [0, 1, 1] q10 (O10.later d10) (by rw [hq10]; exact built r10 0 [0, 1, 1] (by omega) (by simp)) (by simp)
  rw [hq10] at HE10
  have T10 := S10.later d10
  have D10 := B10.trans (d10.mono (HZ.out _ B10))
  have hs10 := hq10
  clear S10 B10 O10 c10 HL10
  replace HE10 := hid HE10
  replace hs10 := hid hs10
  replace d10 := hid d10
  replace T10 := hid T10
  replace D10 := hid D10
  clear hq10
  go_wp2_with fail
  refine HE10.out.mono ?_
  rw [← hs10.out]
  rintro e p10 ⟨rfl, c10⟩
  have S10 := hid (T10.out.later c10)
  have B10 := hid (D10.out.trans (c10.mono (HZ.out _ D10.out)))
  clear T10 D10 c10 hs10 d10 HE10
  go_wp2_with fail
  go_ret
  exact ⟨rfl, by rw [← hg0.out]; exact B10.out⟩
end Go.Proofs.Ythnmoidfdojoiaa.Wk

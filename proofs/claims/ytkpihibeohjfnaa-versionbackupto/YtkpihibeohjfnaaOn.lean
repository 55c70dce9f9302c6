/- Asks; the law's one. -/
import Derived.Test.YtkpihibeohjfnaaAs
namespace Go.Proofs.Ytkpihibeohjfnaa.On
open Go.ChangeShapes Go.WideShapes Go.ChangeAt Go.RowKit
open Go.Proofs.Ytkpihibeohjfnaa.Gr
open Go.Proofs.Ytkpihibeohjfnaa.Ev
open Go.Proofs.Ytkpihibeohjfnaa.Oe
open Go.Proofs.Ytkpihibeohjfnaa.Lv
open Go.Proofs.Ytkpihibeohjfnaa.Vp
open Go.Proofs.Ytkpihibeohjfnaa.Vq
open Go.Proofs.Ytkpihibeohjfnaa.Vr
open Go.Proofs.Ytkpihibeohjfnaa.Vt
open Go.Proofs.Ytkpihibeohjfnaa.Vu
open Go.Proofs.Ytkpihibeohjfnaa.Vv
open Go.Proofs.Ytkpihibeohjfnaa.Vw
open Go.Proofs.Ytkpihibeohjfnaa.Vx
open Go.Proofs.Ytkpihibeohjfnaa.Aq
open Go.Proofs.Ytkpihibeohjfnaa.As
open Go.Proofs.Ytkpihibeohjfnaa.Lx (lt)
set_option linter.unusedVariables false
set_option linter.unusedSimpArgs false

theorem asks_any (a : Option Addr) (len cap : Nat) (L : List (List Fi)) (key : ByteArray) (w : World) (H : Lvs w a len cap L) (hw : wL L ≤ 1048576) :
    Calls Try.prog 30 #[.slice a len cap, .string key] w fun e w' => ∃ v, e = .returned v ∧ Acc ePl w w' v (asks L key) := by
  unfold asks
  cases hv : vld L with
  | true => rw [if_pos rfl]; exact callsIn_wide.1 (asks_in a len cap L key w H hw hv)
  | false => rw [if_neg (by simp)]; exact asks_no a len cap L key w H hw hv
def f0 : Fi := ⟨3, 9, ⟨#[97]⟩, ⟨#[99]⟩, 1, 1⟩
theorem f0_ok : f0.ok := ⟨⟨by decide, by decide⟩, ⟨by decide, by decide⟩, by show 1 ≤ maxLen; unfold maxLen; omega, by show 1 ≤ maxLen; unfold maxLen; omega, ⟨by decide, by decide⟩, ⟨by decide, by decide⟩⟩
theorem v0 : vld [[f0]] = true := by
  unfold vld
  have h1 : fr 1 (([[f0]] : List (List Fi)).length : Int) 7 = true := by decide
  have h2 : inOrd [[f0]] := by
    intro k hk
    have hk0 : k = 0 := by simpa using hk
    subst hk0
    intro i hi
    have hi0 : i = 0 := by simpa using hi
    subst hi0
    decide +kernel
  have h3 : adj (srt (nums [[f0]])) := by
    have : srt (nums [[f0]]) = [3] := by show List.mergeSort [3] _ = [3]; simp
    rw [this]
    intro i hi
    simp at hi
  rw [h1, decide_eq_true h2, decide_eq_true h3]; rfl
theorem over0 : (over [[f0]] 0 ⟨#[98]⟩ ⟨#[]⟩).length = 1 := by
  unfold over
  rw [if_pos ⟨v0, by decide, .inl rfl⟩]
  decide +kernel
theorem asks0 : (asks [[f0]] ⟨#[98]⟩).length = 1 := by
  unfold asks
  rw [if_pos v0]
  decide +kernel
theorem lvs0 (w : World) : Lvs ((w.alloc (.cells #[.int .i64 3, .int .i64 9, .string ⟨#[97]⟩, .string ⟨#[99]⟩, .int .u64 1, .int .u64 1] 43)).alloc (.cells #[.slice (some ⟨w.heap.size, 0, none⟩) 1 1] 39)) (some ⟨w.heap.size + 1, 0, none⟩) 1 1 [[f0]] := by
  obtain ⟨W, g1, g2, hW, hg1, hg2, k1, k2, bW⟩ := boxes2 w #[.int .i64 3, .int .i64 9, .string ⟨#[97]⟩, .string ⟨#[99]⟩, .int .u64 1, .int .u64 1] #[.slice (some ⟨w.heap.size, 0, none⟩) 1 1] 43 39
  rw [← hW, ← hg1, ← hg2]
  rw [← hg1] at k2
  refine ⟨[⟨some ⟨g1, 0, none⟩, 1, 1, [f0]⟩], ⟨rfl, Nat.le_refl _, fun e => (by cases e), ?_, ?_⟩, rfl⟩
  · intro x hx
    rw [List.mem_singleton] at hx
    subst hx
    refine ⟨rfl, Nat.le_refl _, fun e => (by cases e), ?_, ?_⟩
    · intro x hx
      rw [List.mem_singleton] at hx
      subst hx
      exact f0_ok
    · intro b o p e _
      cases e
      refine ⟨rfl, fun i hi => ?_⟩
      change i < 1 at hi
      obtain rfl : i = 0 := by omega
      intro j u hu
      rw [Nat.zero_mul, Nat.zero_add]
      try rw [Nat.zero_add]
      exact cell_of k1 j u (by simpa [f0, eFi, fcs] using hu)
  · intro b o p e _
    cases e
    refine ⟨rfl, fun i hi => ?_⟩
    obtain rfl : i = 0 := by omega
    intro j u hu
    rw [Nat.zero_mul, Nat.zero_add]
    try rw [Nat.zero_add]
    exact cell_of k2 j u (by simpa [eLv] using hu)
theorem w0 : wL [[f0]] ≤ 1048576 := by decide +kernel
set_option maxHeartbeats 1000000 in
theorem one_any (w : World) : Calls Try.prog 22 #[] w fun e w' => e = .returned (.bool true) ∧ Below w.heap.size w w' := by
  have HL := lvs0 w
  have b0 : Below w.heap.size w ((w.alloc (.cells #[.int .i64 3, .int .i64 9, .string ⟨#[97]⟩, .string ⟨#[99]⟩, .int .u64 1, .int .u64 1] 43)).alloc (.cells #[.slice (some ⟨w.heap.size, 0, none⟩) 1 1] 39)) := Below.up (box_below _ _) (box_below _ _)
  obtain ⟨W, hW⟩ : ∃ W, W = ((w.alloc (.cells #[.int .i64 3, .int .i64 9, .string ⟨#[97]⟩, .string ⟨#[99]⟩, .int .u64 1, .int .u64 1] 43)).alloc (.cells #[.slice (some ⟨w.heap.size, 0, none⟩) 1 1] 39)) := ⟨_, rfl⟩
  rw [← hW] at HL b0
  obtain ⟨g, hg⟩ : ∃ g, g = w.heap.size + 1 := ⟨_, rfl⟩
  rw [← hg] at HL
  have c1 : Hid (Calls Try.prog 11 #[.slice (some ⟨g, 0, none⟩) 1 1] W fun e w' => e = .returned (.bool true) ∧ Below W.heap.size W w') := by
    have := valid_any _ _ _ _ W HL w0
    rw [v0] at this
    exact this
  have c2 : Hid (∀ V, Below W.heap.size W V → Calls Try.prog 25 #[.slice (some ⟨g, 0, none⟩) 1 1] V fun e w' => e = .returned (.int .i64 1) ∧ Below V.heap.size V w') := by
    intro V b
    have := files_any _ _ _ _ V (HL.later b) w0
    rw [if_pos v0] at this
    exact this
  have c3 : Hid (∀ V, Below W.heap.size W V → Calls Try.prog 29 #[.slice (some ⟨g, 0, none⟩) 1 1, .int .i64 0, .string ⟨#[98]⟩, .string ⟨#[]⟩] V fun e w' => ∃ a c, e = .returned (.slice a 1 c) ∧ Below V.heap.size V w') := by
    intro V b
    refine (over_any _ _ _ _ 0 ⟨#[98]⟩ ⟨#[]⟩ V (HL.later b) w0).mono ?_
    rintro e w' ⟨v, rfl, A⟩
    obtain ⟨a, c, hv⟩ := A.shape
    rw [over0] at hv
    exact ⟨a, c, by rw [hv], A.lo⟩
  have c4 : Hid (∀ V, Below W.heap.size W V → Calls Try.prog 30 #[.slice (some ⟨g, 0, none⟩) 1 1, .string ⟨#[98]⟩] V fun e w' => ∃ a c, e = .returned (.slice a 1 c) ∧ Below V.heap.size V w') := by
    intro V b
    refine (asks_any _ _ _ _ ⟨#[98]⟩ V (HL.later b) w0).mono ?_
    rintro e w' ⟨v, rfl, A⟩
    obtain ⟨a, c, hv⟩ := A.shape
    rw [asks0] at hv
    exact ⟨a, c, by rw [hv], A.lo⟩
  replace hW := hid hW
  replace hg := hid hg
  replace b0 := hid b0
  clear HL
  go_enter Try.func22, Try.ntmps22
  go_wp2_with (first | (go_at_call 11; rw [← hW.out, ← hg.out]; refine c1.out.mono ?_; rintro e w1 ⟨rfl, b1⟩; replace b1 := hid b1) | (go_at_call 25; refine (c2.out _ b1.out).mono ?_; rintro e w2 ⟨rfl, b2⟩; replace b2 := hid (Below.up b1.out b2)) | (go_at_call 29; refine (c3.out _ b2.out).mono ?_; rintro e w3 ⟨a3, c3', rfl, b3⟩; replace b3 := hid (Below.up b2.out b3)) | (go_at_call 30; refine (c4.out _ b3.out).mono ?_; rintro e w4 ⟨a4, c4', rfl, b4⟩; replace b4 := hid (Below.up b3.out b4)))
  go_ret
  exact ⟨rfl, Below.up b0.out b4.out⟩
end Go.Proofs.Ytkpihibeohjfnaa.On

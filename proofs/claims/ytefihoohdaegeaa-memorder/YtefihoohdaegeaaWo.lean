/- works holds. -/
import Derived.Test.YtefihoohdaegeaaWk
namespace Go.Proofs.Ytefihoohdaegeaa.Wo
open Go.ChangeShapes Go.WideShapes Go.ChangeAt Go.RowKit Go.Shelf
open Go.Sort (grow)
open Go.Proofs.Ytefihoohdaegeaa.Lx (hid)
open Go.Proofs.Ytefihoohdaegeaa.Ee (E ze)
open Go.Proofs.Ytefihoohdaegeaa.Nw (c4)
open Go.Proofs.Ytefihoohdaegeaa.Fm
open Go.Proofs.Ytefihoohdaegeaa.Tb
open Go.Proofs.Ytefihoohdaegeaa.Ad
open Go.Proofs.Ytefihoohdaegeaa.Ae
open Go.Proofs.Ytefihoohdaegeaa.Gt
open Go.Proofs.Ytefihoohdaegeaa.Gu
open Go.Proofs.Ytefihoohdaegeaa.Wk
open Go.Proofs.Ytefihoohdaegeaa.Mm (box_below)
open Go.Proofs.Ytefihoohdaegeaa.Tr (new_at cell_of size_alloc blk_lt)
set_option linter.unusedVariables false
set_option linter.unusedSimpArgs false
theorem ml (n : Nat) (h : n ≤ 1000) : n ≤ maxLen := by unfold maxLen; omega
set_option maxHeartbeats 4000000 in
set_option maxRecDepth 100000 in
theorem works_any (w : World) : Calls Try.prog 43 #[] w fun e w' => e = .returned (.bool true) ∧ Below w.heap.size w w' := by
  have HN := hid (new_any 1 w)
  obtain ⟨n0, hn0⟩ : ∃ n, n = w.heap.size := ⟨_, rfl⟩
  rw [← hn0] at HN
  have hA1 : Hid (∀ W g P, Tb.Tb W n0 g P (St.new 1) → n0 ≤ W.heap.size → Calls Try.prog 13 #[.pointer (some ⟨g, 0, none⟩), .int .u64 1, .agg #[.int .i64 1, .string ⟨#[97]⟩, .string ⟨#[120]⟩], .int .i64 1] W fun e w' => e = .returned (.int .i64 0) ∧ Tb.Tb w' n0 g (gw P W w') s1 ∧ Fp P W w') := fun W g P h hb => by
    have := add_any n0 g P (St.new 1) 1 1 ⟨#[97]⟩ ⟨#[120]⟩ 1 W h hb (ml _ (by decide)) (ml _ (by decide)) (by decide)
    rw [e1] at this
    exact this
  have hA2 : Hid (∀ W g P, Tb.Tb W n0 g P s1 → n0 ≤ W.heap.size → Calls Try.prog 13 #[.pointer (some ⟨g, 0, none⟩), .int .u64 2, .agg #[.int .i64 2, .string ⟨#[97]⟩, .string ⟨#[99]⟩], .int .i64 1] W fun e w' => e = .returned (.int .i64 0) ∧ Tb.Tb w' n0 g (gw P W w') s2 ∧ Fp P W w') := fun W g P h hb => by
    have := add_any n0 g P s1 2 2 ⟨#[97]⟩ ⟨#[99]⟩ 1 W h hb (ml _ (by decide)) (ml _ (by decide)) (by rw [t3.2.1]; decide)
    rw [e2] at this
    exact this
  have hA3 : Hid (∀ W g P, Tb.Tb W n0 g P s2 → n0 ≤ W.heap.size → Calls Try.prog 13 #[.pointer (some ⟨g, 0, none⟩), .int .u64 3, .agg #[.int .i64 1, .string ⟨#[98]⟩, .string ⟨#[121]⟩], .int .i64 4] W fun e w' => e = .returned (.int .i64 0) ∧ Tb.Tb w' n0 g (gw P W w') s3 ∧ Fp P W w') := fun W g P h hb => by
    have := add_any n0 g P s2 3 1 ⟨#[98]⟩ ⟨#[121]⟩ 4 W h hb (ml _ (by decide)) (ml _ (by decide)) (by rw [t3.2.2]; decide)
    rw [e3] at this
    exact this
  have hG1 : Hid (∀ W g P, Tb.Tb W n0 g P s3 → Calls Try.prog 25 #[.pointer (some ⟨g, 0, none⟩), .string ⟨#[97]⟩, .int .u64 1] W fun e w' => e = .returned (.tuple #[.agg #[.string ⟨#[97]⟩, .int .u64 1, .int .i64 1, .string ⟨#[120]⟩], .bool true]) ∧ Below W.heap.size W w') := fun W g P h => by
    have := get_any n0 g P s3 ⟨#[97]⟩ 1 W h (by rw [t3.1]; decide) (ml _ (by decide))
    rw [f1 g] at this
    exact this
  have hG2 : Hid (∀ W g P, Tb.Tb W n0 g P s3 → Calls Try.prog 25 #[.pointer (some ⟨g, 0, none⟩), .string ⟨#[97]⟩, .int .u64 9] W fun e w' => e = .returned (.tuple #[.agg #[.string ⟨#[97]⟩, .int .u64 2, .int .i64 2, .string ⟨#[]⟩], .bool true]) ∧ Below W.heap.size W w') := fun W g P h => by
    have := get_any n0 g P s3 ⟨#[97]⟩ 9 W h (by rw [t3.1]; decide) (ml _ (by decide))
    rw [f2 g] at this
    exact this
  have hSz : Hid (∀ W g P, Tb.Tb W n0 g P s3 → Calls Try.prog 31 #[.pointer (some ⟨g, 0, none⟩)] W fun e w' => e = .returned (.int .i64 54) ∧ w' = W) := fun W g P h => by
    obtain ⟨gl, bl, gs, bm, vt, hx⟩ := h
    have := size_any g gl gs bm s3 W hx.c
    rwa [z3] at this
  replace hn0 := hid hn0
  go_enter Try.func43, Try.ntmps43
  go_wp2_with fail
  refine HN.out.mono ?_
  rintro e w1 ⟨g, P, rfl, T1, B1⟩
  clear HN
  have z1 : n0 ≤ w1.heap.size := by have := B1.size; have := hn0.out; omega
  have C1 := hid (hA1.out w1 g P T1 z1)
  have L1 := hid T1.low
  replace B1 := hid B1
  clear T1
  go_wp2_with fail
  refine C1.out.mono ?_
  rintro e w2 ⟨rfl, T2, F2⟩
  have B2 : Below n0 w w2 := B1.out.trans (F2.base z1 (fun j hj => (L1.out j hj).1))
  have z2 : n0 ≤ w2.heap.size := by have := B2.size; have := hn0.out; omega
  have C2 := hid (hA2.out w2 g _ T2 z2)
  have L2 := hid T2.low
  replace B2 := hid B2
  clear T2 F2 C1
  go_wp2_with fail
  refine C2.out.mono ?_
  rintro e w3 ⟨rfl, T3, F3⟩
  have B3 : Below n0 w w3 := B2.out.trans (F3.base z2 (fun j hj => (L2.out j hj).1))
  have z3 : n0 ≤ w3.heap.size := by have := B3.size; have := hn0.out; omega
  have C3 := hid (hA3.out w3 g _ T3 z3)
  have L3 := hid T3.low
  replace B3 := hid B3
  clear T3 F3 C2
  go_wp2_with fail
  refine C3.out.mono ?_
  rintro e w4 ⟨rfl, T4, F4⟩
  have B4 : Below n0 w w4 := B3.out.trans (F4.base z3 (fun j hj => (L3.out j hj).1))
  have z4 : n0 ≤ w4.heap.size := by have := B4.size; have := hn0.out; omega
  have C4 := hid (hG1.out w4 g _ T4)
  replace B4 := hid B4
  replace T4 := hid T4
  clear F4 C3
  go_wp2_with fail
  refine C4.out.mono ?_
  rintro e w5 ⟨rfl, b5⟩
  have c5 := box_below w5 (.cells #[.string ⟨#[97]⟩, .int .u64 1, .int .i64 1, .string ⟨#[120]⟩] 56)
  have T5 := hid ((T4.out.later b5).later c5)
  have B5 : Hid (Below n0 w (w5.alloc (.cells #[.string ⟨#[97]⟩, .int .u64 1, .int .i64 1, .string ⟨#[120]⟩] 56))) := B4.out.trans ((b5.trans (c5.mono b5.size)).mono z4)
  have C5 := hid (hG2.out _ g _ T5.out)
  have k5 := new_at w5 (.cells #[.string ⟨#[97]⟩, .int .u64 1, .int .i64 1, .string ⟨#[120]⟩] 56)
  obtain ⟨g5, hg5⟩ : ∃ n, n = w5.heap.size := ⟨_, rfl⟩
  obtain ⟨v5, hv5⟩ : ∃ W, W = w5.alloc (.cells #[.string ⟨#[97]⟩, .int .u64 1, .int .i64 1, .string ⟨#[120]⟩] 56) := ⟨_, rfl⟩
  rw [← hv5] at T5 B5 C5 k5
  rw [← hg5] at k5
  have z5 : n0 ≤ v5.heap.size := by have := B5.out.size; have := hn0.out; omega
  replace hg5 := hid hg5
  replace hv5 := hid hv5
  replace k5 := hid k5
  clear b5 c5 C4 T4
  go_wp2_with fail
  rw [← hv5.out, ← hg5.out]
  refine C5.out.mono ?_
  rintro e w6 ⟨rfl, b6⟩
  have c6 := box_below w6 (.cells #[.string ⟨#[97]⟩, .int .u64 2, .int .i64 2, .string ⟨#[]⟩] 56)
  have k6 := (c6.block g5 (Nat.lt_of_lt_of_le (blk_lt k5.out) b6.size)).trans ((b6.block g5 (blk_lt k5.out)).trans k5.out)
  have T6 := (T5.out.later b6).later c6
  have B6 : Hid (Below n0 w (w6.alloc (.cells #[.string ⟨#[97]⟩, .int .u64 2, .int .i64 2, .string ⟨#[]⟩] 56))) := B5.out.trans ((b6.trans (c6.mono b6.size)).mono z5)
  have C6 := hid (hSz.out _ g _ T6)
  have q0 := cell_of k6 0 (.string ⟨#[97]⟩) rfl
  have q1 := cell_of k6 1 (.int .u64 1) rfl
  have q2 := cell_of k6 2 (.int .i64 1) rfl
  have q3 := cell_of k6 3 (.string ⟨#[120]⟩) rfl
  clear b6 c6 k6 T6 C5 T5
  go_wp2_with fail
  refine C6.out.mono ?_
  rintro e w7 ⟨rfl, rfl⟩
  go_wp2_with fail
  go_ret
  exact ⟨by first | rfl | simp, by rw [← hn0.out]; exact B6.out⟩
end Go.Proofs.Ytefihoohdaegeaa.Wo

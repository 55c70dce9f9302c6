/- TableNobody walked. -/
import Derived.Test.YtcnhpfdodbpipaaGreatDoorTn
namespace Go.Proofs.YtcnhpfdodbpipaaGreatDoor.Tl
open Go.ChangeShapes Go.WideShapes Go.ChangeAt Go.RowKit
open Go.Proofs.YtcnhpfdodbpipaaGreatDoor.Ub
open Go.Proofs.YtcnhpfdodbpipaaGreatDoor.Tn
set_option linter.unusedVariables false
set_option linter.unusedSimpArgs false

set_option maxHeartbeats 4000000 in
set_option maxRecDepth 100000 in
theorem nobody_any (a0 a1 a2 a3 a4 a5 a6 a7 a8 b1 b2 : Value) (kk : ByteArray) (w : World) : Calls Tryz.prog 5 #[.agg #[a0, a1, a2, a3, a4, a5, a6, a7, a8], .agg #[.string kk, b1, b2]] w fun e w' => e = .returned (.bool true) ∧ Below w.heap.size w w' := by
  obtain ⟨W0, hW0⟩ : ∃ W, W = w.alloc (.cells #[a0, a1, a2, a3, a4, a5, a6, a7, a8] 41) := ⟨_, rfl⟩
  obtain ⟨g0, hg0⟩ : ∃ g, g = w.heap.size := ⟨_, rfl⟩
  have s0 : W0.heap.size = g0 + 1 := by rw [hW0, hg0]; exact size_alloc _ _
  have B0 : Below w.heap.size w W0 := by rw [hW0]; exact box_below _ _
  have k0 : W0.heap[g0]? = some (.cells #[a0, a1, a2, a3, a4, a5, a6, a7, a8] 41) := by rw [hW0, hg0]; exact new_at _ _
  obtain ⟨W1, hW1⟩ : ∃ W, W = W0.alloc (.cells #[.string kk, b1, b2] 70) := ⟨_, rfl⟩
  have s1 : W1.heap.size = g0 + 1 + 1 := by rw [hW1, size_alloc, s0]
  have b1' : Below W0.heap.size W0 W1 := by rw [hW1]; exact box_below _ _
  have B1 : Below w.heap.size w W1 := B0.trans (b1'.mono B0.size)
  have k1 : W1.heap[g0 + 1]? = some (.cells #[.string kk, b1, b2] 70) := by rw [hW1, ← s0]; exact new_at _ _
  have k01 : W1.heap[g0]? = some (.cells #[a0, a1, a2, a3, a4, a5, a6, a7, a8] 41) := (b1'.block g0 (by omega)).trans k0
  obtain ⟨W2, hW2⟩ : ∃ W, W = W1.alloc (.cells #[.pointer none, .slice none 0 0, .int .i64 0, .int .i64 0, .string ⟨#[]⟩, .string ⟨#[]⟩, .int .u64 0, .int .u64 0, .int .i64 0, .int .i64 0] 87) := ⟨_, rfl⟩
  have s2 : W2.heap.size = g0 + 1 + 1 + 1 := by rw [hW2, size_alloc, s1]
  have b2' : Below W1.heap.size W1 W2 := by rw [hW2]; exact box_below _ _
  have B2 : Below w.heap.size w W2 := B1.trans (b2'.mono B1.size)
  have k2 : W2.heap[g0 + 1 + 1]? = some (.cells #[.pointer none, .slice none 0 0, .int .i64 0, .int .i64 0, .string ⟨#[]⟩, .string ⟨#[]⟩, .int .u64 0, .int .u64 0, .int .i64 0, .int .i64 0] 87) := by rw [hW2, ← s1]; exact new_at _ _
  obtain ⟨W3, hW3⟩ : ∃ W, W = W2.alloc (.cells #[.pointer none, .pointer (some ⟨g0 + 1 + 1, 0, none⟩)] 25) := ⟨_, rfl⟩
  have b3' : Below W2.heap.size W2 W3 := by rw [hW3]; exact box_below _ _
  have B3 : Below w.heap.size w W3 := B2.trans (b3'.mono B2.size)
  have k3 : W3.heap[g0 + 1 + 1 + 1]? = some (.cells #[.pointer none, .pointer (some ⟨g0 + 1 + 1, 0, none⟩)] 25) := by rw [hW3, ← s2]; exact new_at _ _
  have n3 : NoB W3 (some ⟨g0 + 1 + 1, 0, none⟩) := .inr ⟨g0 + 1 + 1, rfl, (b3'.block _ (by omega)).trans k2⟩
  have x3 : W3.heap[g0]? = some (.cells #[a0, a1, a2, a3, a4, a5, a6, a7, a8] 41) := (b3'.block _ (by omega)).trans ((b2'.block _ (by omega)).trans k01)
  have y3 : W3.heap[g0 + 1]? = some (.cells #[.string kk, b1, b2] 70) := (b3'.block _ (by omega)).trans ((b2'.block _ (by omega)).trans k1)
  replace hW0 := hid hW0; replace hg0 := hid hg0; replace hW1 := hid hW1; replace hW2 := hid hW2; replace hW3 := hid hW3
  replace s0 := hid s0; replace s1 := hid s1; replace s2 := hid s2
  replace B3 := hid B3; replace k3 := hid k3; replace n3 := hid n3; replace x3 := hid x3; replace y3 := hid y3
  clear B0 k0 b1' B1 k1 k01 b2' B2 k2 b3'
  go_enter Tryz.func5, Tryz.ntmps5
  go_wp2_with fail
  simp only [← hg0.out, ← hW0.out, ← hW1.out, ← hW2.out]
  try simp only [← hW3.out]
  go_loopw [23] (fun iv wr => ∃ i : Nat, i ≤ 2 ∧ iv = .int .i64 (i : Int) ∧ Hid (Below W3.heap.size W3 wr)) (fun iv _ => 2 - (intOf iv).toNat)
  case atStart => exact ⟨0, by omega, rfl, Below.refl _ _⟩
  case round =>
    obtain ⟨i, hi, rfl, HB⟩ := hrel
    by_cases h2 : i < 2
    · obtain ⟨p, hv, hNB⟩ : ∃ p, (#[.pointer none, .pointer (some ⟨g0 + 1 + 1, 0, none⟩)] : Array Value)[i]? = some (.pointer p) ∧ NoB W3 p := by
        obtain rfl | rfl : i = 0 ∨ i = 1 := by omega
        · exact ⟨_, rfl, .inl rfl⟩
        · exact ⟨_, rfl, n3.out⟩
      have hc := cell_of ((HB.out.block _ (blk_lt k3.out)).trans k3.out) i _ hv
      have hi2 : (i : Int) < 2 := by omega
      replace hNB := hid hNB
      have HL := hid (blen p wr (hNB.out.later HB.out))
      have HF := hid (bfinish p wr (hNB.out.later HB.out))
      clear hv
      go_wp2_with fail
      refine HL.out.mono ?_
      rintro e w1 ⟨rfl, rfl⟩
      clear hc
      go_wp2_with fail
      refine HF.out.mono ?_
      rintro e w1 ⟨rfl, b1⟩
      clear HL HF
      obtain ⟨W4, hW4⟩ : ∃ W, W = w1.alloc (.cells zF 44) := ⟨_, rfl⟩
      obtain ⟨g4, hg4⟩ : ∃ g, g = w1.heap.size := ⟨_, rfl⟩
      have b4 : Below w1.heap.size w1 W4 := by rw [hW4]; exact box_below _ _
      have k4 : W4.heap[g4]? = some (.cells zF 44) := by rw [hW4, hg4]; exact new_at _ _
      have HB4 : Hid (Below W3.heap.size W3 W4) := (HB.out.trans (b1.mono HB.out.size)).trans (b4.mono (Nat.le_trans HB.out.size b1.size))
      have f4 := fz_of k4
      have s40 := set_same k4 0 (.int .i64 0) rfl
      have e40 := cell_of k4 0 (.int .i64 0) rfl
      have s41 := set_same k4 1 (.int .i64 0) rfl
      have e41 := cell_of k4 1 (.int .i64 0) rfl
      have s42 := set_same k4 2 (.string ⟨#[]⟩) rfl
      have e42 := cell_of k4 2 (.string ⟨#[]⟩) rfl
      have s43 := set_same k4 3 (.string ⟨#[]⟩) rfl
      have e43 := cell_of k4 3 (.string ⟨#[]⟩) rfl
      have s44 := set_same k4 4 (.int .u64 0) rfl
      have e44 := cell_of k4 4 (.int .u64 0) rfl
      have s45 := set_same k4 5 (.int .u64 0) rfl
      have e45 := cell_of k4 5 (.int .u64 0) rfl
      have xa := (HB4.out.block _ (blk_lt x3.out)).trans x3.out
      have c2 := cell_of xa 2 _ rfl
      have c3 := cell_of xa 3 _ rfl
      have c4 := cell_of xa 4 _ rfl
      have c5 := cell_of xa 5 _ rfl
      have HA := hid (badd p a2 a3 a4 a5 W4 (hNB.out.later HB4.out))
      have eW4 := hW4.symm; have eg4 := hg4.symm; clear hW4 hg4; replace k4 := hid k4
      clear b1 b4 xa
      go_wp2_with fail
      refine HA.out.mono ?_
      rintro e w5 ⟨rfl, b5⟩
      have HB5 : Hid (Below W3.heap.size W3 w5) := HB4.out.trans (b5.mono HB4.out.size)
      have xb := (HB5.out.block _ (blk_lt x3.out)).trans x3.out
      have c6 := cell_of xb 6 _ rfl
      have c7 := cell_of xb 7 _ rfl
      have c8 := cell_of xb 8 _ rfl
      have k5 : Hid (w5.heap[g4]? = some (.cells zF 44)) := (b5.block _ (blk_lt k4.out)).trans k4.out
      have HD := hid (baddtomb p a6 a7 a8 w5 (hNB.out.later HB5.out))
      clear eW4 eg4 b5 xb c2 c3 c4 c5 HA f4
      clear s40 e40 s41 e41 s42 e42 s43 e43 s44 e44 s45 e45
      go_wp2_with fail
      refine HD.out.mono ?_
      rintro e w6 ⟨rfl, b6⟩
      have HB6 : Hid (Below W3.heap.size W3 w6) := HB5.out.trans (b6.mono HB5.out.size)
      have k6 := (b6.block _ (blk_lt k5.out)).trans k5.out
      have q0 := cell_of k6 0 (.int .i64 0) rfl
      have q1 := cell_of k6 1 (.int .i64 0) rfl
      have q2 := cell_of k6 2 (.string ⟨#[]⟩) rfl
      have q3 := cell_of k6 3 (.string ⟨#[]⟩) rfl
      have q4 := cell_of k6 4 (.int .u64 0) rfl
      have q5 := cell_of k6 5 (.int .u64 0) rfl
      have hwr : IntKind.i64.wrap ((i : Int) + 1) = ((i + 1 : Nat) : Int) := by rw [IntKind.wrap_i64]; omega
      clear k6 b6 HD c6 c7 c8
      go_wp2_with fail
      refine ⟨⟨i + 1, by omega, by first | rfl | go_num, HB6⟩, ?_⟩
      simp only [intOf]; omega
    · have hi2 : ¬ (i : Int) < 2 := by omega
      have BW : Hid (Below w.heap.size w wr) := B3.out.trans (HB.out.mono B3.out.size)
      have yr := (HB.out.block _ (blk_lt y3.out)).trans y3.out
      obtain ⟨n3', hn3⟩ : ∃ n, n = wr.heap.size := ⟨_, rfl⟩
      obtain ⟨W7, hW7⟩ : ∃ W, W = wr.alloc (.cells #[.bool false, .slice none 0 0, .slice none 0 0, .slice none 0 0, .slice none 0 0, .slice none 0 0] 92) := ⟨_, rfl⟩
      have b7 : Below wr.heap.size wr W7 := by rw [hW7]; exact box_below _ _
      have k7 : W7.heap[n3']? = some (.cells #[.bool false, .slice none 0 0, .slice none 0 0, .slice none 0 0, .slice none 0 0, .slice none 0 0] 92) := by rw [hW7, hn3]; exact new_at _ _
      have s7 : W7.heap.size = n3' + 1 := by rw [hW7, hn3]; exact size_alloc _ _
      obtain ⟨W8, hW8⟩ : ∃ W, W = W7.alloc (.cells #[.pointer none, .pointer (some ⟨n3', 0, none⟩)] 56) := ⟨_, rfl⟩
      have b8' : Below W7.heap.size W7 W8 := by rw [hW8]; exact box_below _ _
      have k8 : Hid (W8.heap[n3' + 1]? = some (.cells #[.pointer none, .pointer (some ⟨n3', 0, none⟩)] 56)) := by show _ = _; rw [hW8, ← s7]; exact new_at _ _
      have T8 : Hid (NoT W8 (some ⟨n3', 0, none⟩)) := .inr ⟨n3', rfl, (b8'.block n3' (by omega)).trans k7⟩
      have BW8 : Hid (Below w.heap.size w W8) := (BW.out.trans (b7.mono BW.out.size)).trans (b8'.mono (by have := BW.out.size; have := b7.size; omega))
      have y8 : Hid (W8.heap[g0 + 1]? = some (.cells #[.string kk, b1, b2] 70)) := (b8'.block _ (by have := blk_lt yr; have := b7.size; omega)).trans ((b7.block _ (blk_lt yr)).trans yr)
      replace hn3 := hid hn3
      replace hW7 := hid hW7
      replace hW8 := hid hW8
      clear b7 b8' k7 s7 yr
      go_wp2_with fail
      simp only [← hn3.out, ← hW7.out]
      try simp only [← hW8.out]
      go_loopw [77] (fun iv wr => ∃ i : Nat, i ≤ 2 ∧ iv = .int .i64 (i : Int) ∧ Hid (Below W8.heap.size W8 wr)) (fun iv _ => 2 - (intOf iv).toNat)
      case atStart => exact ⟨0, by omega, rfl, Below.refl _ _⟩
      case round =>
        obtain ⟨j, hj, rfl, HC⟩ := hrel
        by_cases h3 : j < 2
        · obtain ⟨p, hv, hNT⟩ : ∃ p, (#[.pointer none, .pointer (some ⟨n3', 0, none⟩)] : Array Value)[j]? = some (.pointer p) ∧ NoT W8 p := by
            obtain rfl | rfl : j = 0 ∨ j = 1 := by omega
            · exact ⟨_, rfl, .inl rfl⟩
            · exact ⟨_, rfl, T8.out⟩
          have hc := cell_of ((HC.out.block _ (blk_lt k8.out)).trans k8.out) j _ hv
          have hj2 : (j : Int) < 2 := by omega
          have ya := (HC.out.block _ (blk_lt y8.out)).trans y8.out
          have d0 := cell_of ya 0 _ rfl
          have d1 := cell_of ya 1 _ rfl
          have d2 := cell_of ya 2 _ rfl
          replace hNT := hid hNT
          have HK := hid (tblock p b2 wr (hNT.out.later HC.out))
          have HG := hid (tget p (.string kk) b1 wr (hNT.out.later HC.out))
          clear hv ya
          go_wp2_with fail
          refine HK.out.mono ?_
          rintro e w1 ⟨rfl, rfl⟩
          clear hc
          go_wp2_with fail
          refine HG.out.mono ?_
          rintro e w1 ⟨rfl, b1⟩
          clear HK HG d0 d1 d2
          obtain ⟨W4, hW4⟩ : ∃ W, W = w1.alloc (.cells zE 37) := ⟨_, rfl⟩
          obtain ⟨g4, hg4⟩ : ∃ g, g = w1.heap.size := ⟨_, rfl⟩
          have b4 : Below w1.heap.size w1 W4 := by rw [hW4]; exact box_below _ _
          have k4 : W4.heap[g4]? = some (.cells zE 37) := by rw [hW4, hg4]; exact new_at _ _
          have HB4 : Hid (Below W8.heap.size W8 W4) := (HC.out.trans (b1.mono HC.out.size)).trans (b4.mono (Nat.le_trans HC.out.size b1.size))
          have f4 := fz_of k4
          have s40 := set_same k4 0 (.string ⟨#[]⟩) rfl
          have e40 := cell_of k4 0 (.string ⟨#[]⟩) rfl
          have s41 := set_same k4 1 (.int .u64 0) rfl
          have e41 := cell_of k4 1 (.int .u64 0) rfl
          have s42 := set_same k4 2 (.int .i64 0) rfl
          have e42 := cell_of k4 2 (.int .i64 0) rfl
          have s43 := set_same k4 3 (.string ⟨#[]⟩) rfl
          have e43 := cell_of k4 3 (.string ⟨#[]⟩) rfl
          have ya := (HB4.out.block _ (blk_lt y8.out)).trans y8.out
          have d0 := cell_of ya 0 _ rfl
          have HO := hid (tblocks p W4 (hNT.out.later HB4.out))
          have HI := hid (tfind p (.string kk) (.int .u64 0) (.int .i64 0) W4 (hNT.out.later HB4.out))
          have eW4 := hW4.symm; have eg4 := hg4.symm; clear hW4 hg4; replace k4 := hid k4
          clear b1 b4 ya
          go_wp2_with fail
          refine HO.out.mono ?_
          rintro e w5 ⟨rfl, rfl⟩
          clear s40 s41 s42 s43 e40 e41 e42 e43 f4 eW4 eg4
          go_wp2_with fail
          refine HI.out.mono ?_
          rintro e w5 ⟨rfl, b5⟩
          have HB5 : Hid (Below W8.heap.size W8 w5) := HB4.out.trans (b5.mono HB4.out.size)
          have ya := (HB5.out.block _ (blk_lt y8.out)).trans y8.out
          clear d0
          have d0 := cell_of ya 0 _ rfl
          have k5 := (b5.block _ (blk_lt k4.out)).trans k4.out
          have q0 := cell_of k5 0 (.string ⟨#[]⟩) rfl
          have q1 := cell_of k5 1 (.int .u64 0) rfl
          have q2 := cell_of k5 2 (.int .i64 0) rfl
          have q3 := cell_of k5 3 (.string ⟨#[]⟩) rfl
          have HY := hid (tmay p (.string kk) w5 (hNT.out.later HB5.out))
          have HZ := hid (ttombs p w5 (hNT.out.later HB5.out))
          clear b5 ya k5 HO HI
          go_wp2_with fail
          refine HY.out.mono ?_
          rintro e w6 ⟨rfl, rfl⟩
          go_wp2_with fail
          refine HZ.out.mono ?_
          rintro e w6 ⟨rfl, rfl⟩
          have hwr : IntKind.i64.wrap ((j : Int) + 1) = ((j + 1 : Nat) : Int) := by rw [IntKind.wrap_i64]; omega
          go_wp2_with fail
          refine ⟨⟨j + 1, by omega, by first | rfl | go_num, HB5⟩, ?_⟩
          simp only [intOf]; omega
        · have hj2 : ¬ (j : Int) < 2 := by omega
          have BF : Hid (Below w.heap.size w wr) := BW8.out.trans (HC.out.mono BW8.out.size)
          go_wp2_with fail
          go_ret
          exact ⟨rfl, BF.out⟩
end Go.Proofs.YtcnhpfdodbpipaaGreatDoor.Tl

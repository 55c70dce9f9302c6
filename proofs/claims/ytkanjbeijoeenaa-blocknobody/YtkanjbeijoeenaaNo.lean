/- BlockNobody walked. -/
import Derived.Test.YtkanjbeijoeenaaNb
namespace Go.Proofs.Ytkanjbeijoeenaa.No
open Go.ChangeShapes Go.WideShapes Go.ChangeAt Go.RowKit
open Go.Sort (grow)
open Go.Proofs.Ytkanjbeijoeenaa.Mb
open Go.Proofs.Ytkanjbeijoeenaa.Cu
open Go.Proofs.Ytkanjbeijoeenaa.Nb
set_option linter.unusedVariables false
set_option linter.unusedSimpArgs false

set_option maxHeartbeats 4000000 in
set_option maxRecDepth 100000 in
theorem nobody_any (k : ByteArray) (s c : Int) (x : ByteArray) (w : World) : Calls Try.prog 5 #[.agg #[.string k, .int .u64 s, .int .i64 c, .string x]] w fun e w' => e = .returned (.bool true) ∧ Below w.heap.size w w' := by
  obtain ⟨W0, hW0⟩ : ∃ W, W = w.alloc (.cells #[.string k, .int .u64 s, .int .i64 c, .string x] 38) := ⟨_, rfl⟩
  obtain ⟨g0, hg0⟩ : ∃ g, g = w.heap.size := ⟨_, rfl⟩
  have B0 : Below w.heap.size w W0 := by rw [hW0]; exact box_below _ _
  have k0 : W0.heap[g0]? = some (.cells #[.string k, .int .u64 s, .int .i64 c, .string x] 38) := by rw [hW0, hg0]; exact new_at _ _
  obtain ⟨W1, hW1⟩ : ∃ W, W = W0.alloc (.cells #[.int .i64 0, .slice none 0 0, .slice none 0 0, .int .i64 0, .slice none 0 0] 51) := ⟨_, rfl⟩
  obtain ⟨g1, hg1⟩ : ∃ g, g = W0.heap.size := ⟨_, rfl⟩
  have b1 : Below W0.heap.size W0 W1 := by rw [hW1]; exact box_below _ _
  have k1 : W1.heap[g1]? = some (.cells #[.int .i64 0, .slice none 0 0, .slice none 0 0, .int .i64 0, .slice none 0 0] 51) := by rw [hW1, hg1]; exact new_at _ _
  have s0 : W0.heap.size = g0 + 1 := by rw [hW0, hg0]; exact size_alloc _ _
  have B1 : Below w.heap.size w W1 := B0.trans (b1.mono B0.size)
  replace hW0 := hid hW0
  replace hg0 := hid hg0
  replace hW1 := hid hW1
  replace hg1 := hid hg1
  replace s0 := hid s0
  replace B0 := hid B0
  replace B1 := hid B1
  replace k0 := hid k0
  replace k1 := hid k1
  replace b1 := hid b1
  go_enter Try.func5, Try.ntmps5
  go_wp2_with fail
  rw [← hW0.out, ← hg0.out, ← hW1.out]
  obtain ⟨W2, hW2⟩ : ∃ W, W = W1.alloc (.cells #[.pointer none, .pointer (some ⟨g0 + 1, 0, none⟩)] 23) := ⟨_, rfl⟩
  have s1 : W1.heap.size = g0 + 1 + 1 := by rw [hW1.out, size_alloc, s0.out]
  have b2 : Below W1.heap.size W1 W2 := by rw [hW2]; exact box_below _ _
  have k2 : Hid (W2.heap[g0 + 1 + 1]? = some (.cells #[.pointer none, .pointer (some ⟨g0 + 1, 0, none⟩)] 23)) := by show _ = _; rw [hW2, ← s1]; exact new_at _ _
  have B2 : Hid (Below w.heap.size w W2) := B1.out.trans (b2.mono B1.out.size)
  have n2 : Hid (NoB W2 (.pointer (some ⟨g0 + 1, 0, none⟩))) := by
    refine .inr ⟨g0 + 1, rfl, ?_⟩
    have := k1.out
    rw [hg1.out, s0.out] at this
    exact (b2.block (g0 + 1) (by omega)).trans this
  have x2 : Hid (W2.heap[g0]? = some (.cells #[.string k, .int .u64 s, .int .i64 c, .string x] 38)) := (b2.block g0 (by omega)).trans ((b1.out.block g0 (by rw [s0.out]; omega)).trans k0.out)
  rw [← hW2]
  replace hW2 := hid hW2
  clear b2 s1
  go_loopw [14] (fun iv wr => ∃ i : Nat, i ≤ 2 ∧ iv = .int .i64 (i : Int) ∧ Hid (Below W2.heap.size W2 wr)) (fun iv _ => 2 - (intOf iv).toNat)
  case atStart => exact ⟨0, by omega, rfl, Below.refl _ _⟩
  case round =>
    obtain ⟨i, hi, rfl, HB⟩ := hrel
    have xr := (HB.out.block _ (blk_lt x2.out)).trans x2.out
    by_cases h2 : i < 2
    · obtain ⟨v, hv, hNB⟩ : ∃ v, (#[.pointer none, .pointer (some ⟨g0 + 1, 0, none⟩)] : Array Value)[i]? = some v ∧ NoB W2 v := by
        obtain rfl | rfl : i = 0 ∨ i = 1 := by omega
        · exact ⟨_, rfl, .inl rfl⟩
        · exact ⟨_, rfl, n2.out⟩
      have hc := cell_of ((HB.out.block _ (blk_lt k2.out)).trans k2.out) i v hv
      have c0 := cell_of xr 0 _ rfl
      have c1 := cell_of xr 1 _ rfl
      have c2 := cell_of xr 2 _ rfl
      have c3 := cell_of xr 3 _ rfl
      have hi2 : (i : Int) < 2 := by omega
      have HNB := hid hNB
      have HA := hid (add_no v k s c x wr (hNB.later HB.out))
      clear hNB hv
      go_wp2_with fail
      refine HA.out.mono ?_
      rintro e w1 ⟨rfl, b1'⟩
      have HB1 : Hid (Below W2.heap.size W2 w1) := HB.out.trans (b1'.mono HB.out.size)
      have HL := hid (len_no v w1 (HNB.out.later HB1.out))
      have HS := hid (size_no v w1 (HNB.out.later HB1.out))
      have HY := hid (bytes_no v w1 (HNB.out.later HB1.out))
      clear b1' hc c0 c1 c2 c3 xr
      go_wp2_with fail
      refine HL.out.mono ?_
      rintro e w2 ⟨rfl, rfl⟩
      go_wp2_with fail
      refine HS.out.mono ?_
      rintro e w3 ⟨rfl, rfl⟩
      go_wp2_with fail
      refine HY.out.mono ?_
      rintro e w4 ⟨rfl, rfl⟩
      have hwr : IntKind.i64.wrap ((i : Int) + 1) = ((i + 1 : Nat) : Int) := by rw [IntKind.wrap_i64]; omega
      go_wp2_with fail
      refine ⟨⟨i + 1, by omega, by first | rfl | go_num, HB1⟩, ?_⟩
      simp only [intOf]; omega
    · have hi2 : ¬ (i : Int) < 2 := by omega
      have BW : Hid (Below w.heap.size w wr) := B2.out.trans (HB.out.mono B2.out.size)
      replace xr := hid xr
      obtain ⟨n3, hn3⟩ : ∃ n, n = wr.heap.size := ⟨_, rfl⟩
      obtain ⟨W3, hW3⟩ : ∃ W, W = wr.alloc (.cells #[.slice none 0 0, .int .i64 0] 55) := ⟨_, rfl⟩
      have b3 : Below wr.heap.size wr W3 := by rw [hW3]; exact box_below _ _
      have k3 : W3.heap[n3]? = some (.cells #[.slice none 0 0, .int .i64 0] 55) := by rw [hW3, hn3]; exact new_at _ _
      obtain ⟨W4, hW4⟩ : ∃ W, W = W3.alloc (.cells #[.pointer none, .pointer (some ⟨n3, 0, none⟩)] 42) := ⟨_, rfl⟩
      have b4 : Below W3.heap.size W3 W4 := by rw [hW4]; exact box_below _ _
      have s3 : W3.heap.size = n3 + 1 := by rw [hW3, hn3]; exact size_alloc _ _
      have k4 : Hid (W4.heap[n3 + 1]? = some (.cells #[.pointer none, .pointer (some ⟨n3, 0, none⟩)] 42)) := by show _ = _; rw [hW4, ← s3]; exact new_at _ _
      have C4 : Hid (CN W4 n3) := ⟨0, by omega, by omega, (b4.block n3 (by omega)).trans k3⟩
      have BW4 : Hid (Below w.heap.size w W4) := (BW.out.trans (b3.mono BW.out.size)).trans (b4.mono (by have := BW.out.size; have := b3.size; omega))
      have x4 : Hid (W4.heap[g0]? = some (.cells #[.string k, .int .u64 s, .int .i64 c, .string x] 38)) := (b4.block g0 (by have := blk_lt xr.out; have := b3.size; omega)).trans ((b3.block g0 (blk_lt xr.out)).trans xr.out)
      have hg4 : Hid (g0 < n3) := by show _ < _; rw [hn3]; exact blk_lt xr.out
      have hw3 : Hid (w.heap.size ≤ n3) := by show _ ≤ _; rw [hn3]; exact BW.out.size
      replace hn3 := hid hn3
      replace hW3 := hid hW3
      replace hW4 := hid hW4
      clear b3 b4 k3 s3
      go_wp2_with fail
      rw [← hn3.out, ← hW3.out, ← hW4.out]
      go_loopw [46] (fun iv wr => ∃ i : Nat, i ≤ 2 ∧ iv = .int .i64 (i : Int) ∧ Hid (Fp (fun j => j = n3) W4 wr) ∧ Hid (CN wr n3)) (fun iv _ => 2 - (intOf iv).toNat)
      case atStart => exact ⟨0, by omega, rfl, Fp.refl _ _, C4⟩
      case round =>
        obtain ⟨i2, hi2', rfl, HF, HC⟩ := hrel
        by_cases h3 : i2 < 2
        · obtain ⟨v, hv, hv2⟩ : ∃ v, (#[.pointer none, .pointer (some ⟨n3, 0, none⟩)] : Array Value)[i2]? = some v ∧ (v = .pointer none ∨ v = .pointer (some ⟨n3, 0, none⟩)) := by
            obtain rfl | rfl : i2 = 0 ∨ i2 = 1 := by omega
            · exact ⟨_, rfl, .inl rfl⟩
            · exact ⟨_, rfl, .inr rfl⟩
          have hc := cell_of ((HF.out.block _ (blk_lt k4.out) (by omega)).trans k4.out) i2 v hv
          have hi3 : (i2 : Int) < 2 := by omega
          replace hv2 := hid hv2
          clear hv
          go_wp2_with fail
          refine (chere_no v n3 wr hv2.out HC.out).mono ?_
          rintro e w1 ⟨rfl, b1⟩
          have HC1 := HC.out.later b1
          have HF1 := HF.out.below b1
          clear hc
          obtain ⟨gk, hgk1⟩ : ∃ g, g = w1.heap.size := ⟨_, rfl⟩
          obtain ⟨w2, hw2⟩ : ∃ W, W = w1.alloc (.cells #[.string ⟨#[]⟩, .int .u64 0, .int .i64 0] 36) := ⟨_, rfl⟩
          have b2 : Below w1.heap.size w1 w2 := by rw [hw2]; exact box_below _ _
          have kk2 : Hid (w2.heap[gk]? = some (.cells #[.string ⟨#[]⟩, .int .u64 0, .int .i64 0] 36)) := by show _ = _; rw [hw2, hgk1]; exact new_at _ _
          have HC2 := hid (HC1.later b2)
          have HF2 := hid (HF1.below b2)
          have hgk : Hid (¬ gk = n3) := by
            obtain ⟨_, _, _, hcb⟩ := HC1
            have := hcb.lt
            show ¬ _; omega
          replace hgk1 := hid hgk1
          replace hw2 := hid hw2
          clear b1 b2 HC1 HF1
          go_wp2_with fail
          rw [← hw2.out, ← hgk1.out]
          refine (clen_no v n3 w2 hv2.out HC2.out).mono ?_
          rintro e w2' ⟨rfl, rfl⟩
          go_wp2_with fail
          refine ((first_no v n3 w2' hv2.out HC2.out)).mono ?_
          rintro e w3 ⟨rfl, c3, f3⟩
          have HC3 := hid c3
          have HF3 : Hid (Fp (fun j => j = n3) W4 w3) := HF2.out.trans (f3.wide fun k _ hk => .inl hk)
          have kk3 : Hid (w3.heap[gk]? = some (.cells #[.string ⟨#[]⟩, .int .u64 0, .int .i64 0] 36)) := (f3.block gk (blk_lt kk2.out) hgk.out).trans kk2.out
          clear c3 f3
          go_wp2_with fail
          refine ((last_no v n3 w3 hv2.out HC3.out)).mono ?_
          rintro e w4 ⟨rfl, c4, f4⟩
          have HC4 := hid c4
          have HF4 : Hid (Fp (fun j => j = n3) W4 w4) := HF3.out.trans (f4.wide fun k _ hk => .inl hk)
          have kk4 : Hid (w4.heap[gk]? = some (.cells #[.string ⟨#[]⟩, .int .u64 0, .int .i64 0] 36)) := (f4.block gk (blk_lt kk3.out) hgk.out).trans kk3.out
          clear c4 f4
          have xr4 := (HF4.out.block _ (blk_lt x4.out) (by have := hg4.out; omega)).trans x4.out
          have y0 := cell_of xr4 0 _ rfl
          have y1 := cell_of xr4 1 _ rfl
          have y2 := cell_of xr4 2 _ rfl
          clear xr4
          go_wp2_with fail
          refine ((seek_no v n3 k s c w4 hv2.out HC4.out)).mono ?_
          rintro e w5 ⟨rfl, c5, f5⟩
          have HC5 := hid c5
          have HF5 : Hid (Fp (fun j => j = n3) W4 w5) := HF4.out.trans (f5.wide fun k _ hk => .inl hk)
          have kk5 : Hid (w5.heap[gk]? = some (.cells #[.string ⟨#[]⟩, .int .u64 0, .int .i64 0] 36)) := (f5.block gk (blk_lt kk4.out) hgk.out).trans kk4.out
          clear c5 f5
          clear y0 y1 y2
          go_wp2_with fail
          refine ((next_no v n3 w5 hv2.out HC5.out)).mono ?_
          rintro e w6 ⟨rfl, c6, f6⟩
          have HC6 := hid c6
          have HF6 : Hid (Fp (fun j => j = n3) W4 w6) := HF5.out.trans (f6.wide fun k _ hk => .inl hk)
          have kk6 : Hid (w6.heap[gk]? = some (.cells #[.string ⟨#[]⟩, .int .u64 0, .int .i64 0] 36)) := (f6.block gk (blk_lt kk5.out) hgk.out).trans kk5.out
          clear c6 f6
          go_wp2_with fail
          refine ((prev_no v n3 w6 hv2.out HC6.out)).mono ?_
          rintro e w7 ⟨rfl, c7, f7⟩
          have HC7 := hid c7
          have HF7 : Hid (Fp (fun j => j = n3) W4 w7) := HF6.out.trans (f7.wide fun k _ hk => .inl hk)
          have kk7 : Hid (w7.heap[gk]? = some (.cells #[.string ⟨#[]⟩, .int .u64 0, .int .i64 0] 36)) := (f7.block gk (blk_lt kk6.out) hgk.out).trans kk6.out
          clear c7 f7
          have y0 := cell_of kk7.out 0 _ rfl
          have y1 := cell_of kk7.out 1 _ rfl
          have y2 := cell_of kk7.out 2 _ rfl
          have hwr : IntKind.i64.wrap ((i2 : Int) + 1) = ((i2 + 1 : Nat) : Int) := by rw [IntKind.wrap_i64]; omega
          go_wp2_with fail
          refine ⟨⟨i2 + 1, by omega, by first | rfl | go_num, HF7, HC7⟩, ?_⟩
          simp only [intOf]; omega
        · have hi3 : ¬ (i2 : Int) < 2 := by omega
          have BF : Hid (Below w.heap.size w wr) := BW4.out.trans (HF.out.base (by have := BW4.out.size; omega) (fun j hj => by rw [hj]; exact hw3.out))
          go_wp2_with fail
          go_ret
          exact ⟨rfl, BF.out⟩
end Go.Proofs.Ytkanjbeijoeenaa.No

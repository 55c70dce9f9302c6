/- MemNil walked. -/
import Derived.Test.YtefihoohdaegeaaNm
namespace Go.Proofs.Ytefihoohdaegeaa.Nl
open Go.ChangeShapes Go.WideShapes Go.ChangeAt Go.RowKit Go.Shelf
open Go.Proofs.Ytefihoohdaegeaa.Lx (hid)
open Go.Proofs.Ytefihoohdaegeaa.Mm (box_below)
open Go.Proofs.Ytefihoohdaegeaa.Tr (new_at cell_of size_alloc blk_lt)
open Go.Proofs.Ytefihoohdaegeaa.Nn
open Go.Proofs.Ytefihoohdaegeaa.Nm
set_option linter.unusedVariables false
set_option linter.unusedSimpArgs false
theorem set_same {w : World} {g : Nat} {c : Array Value} {t : TypeId} (h : w.heap[g]? = some (.cells c t)) (i : Nat) (v : Value) (hi : c[i]? = some v) : w.setCell ⟨g, i, none⟩ v = w := by
  have h2 : c.setIfInBounds i v = c := by
    obtain ⟨hlt, he⟩ := Array.getElem?_eq_some_iff.1 hi
    apply Array.ext
    · simp
    · intro j h1 h2
      rw [Array.getElem_setIfInBounds]
      · split
        · rename_i e; subst e; exact he.symm
        · rfl
  have h3 : (w.setCell ⟨g, i, none⟩ v).heap = w.heap := by
    have hg := blk_lt h
    have e1 := Tr.set_of h i v
    rw [h2] at e1
    apply Array.ext
    · simp [World.setCell]
    · intro j l1 l2
      by_cases e : j = g
      · subst e
        have a1 := Array.getElem?_eq_getElem l1
        have a2 := Array.getElem?_eq_getElem l2
        rw [a2] at h; rw [a1] at e1
        exact Option.some.inj (e1.trans h.symm)
      · have := Below.heap_setCell w ⟨g, i, none⟩ v j (by simpa using e)
        rw [Array.getElem?_eq_getElem l1, Array.getElem?_eq_getElem l2] at this
        exact Option.some.inj this
  have : w.setCell ⟨g, i, none⟩ v = { w with heap := (w.setCell ⟨g, i, none⟩ v).heap } := rfl
  rw [this, h3]

set_option maxHeartbeats 8000000 in
set_option maxRecDepth 100000 in
theorem nil_any (kd ht sq c : Int) (k v : ByteArray) (b0 bb b2 : Value) (w : World) (hk : k.size ≤ maxLen) : Calls Try.prog 6 #[.agg #[.int .i64 kd, .int .i64 ht, .int .u64 sq, .int .i64 c, .string k, .string v], .agg #[b0, bb, b2]] w fun e w' => e = .returned (.bool true) ∧ Below w.heap.size w w' := by
  obtain ⟨W0, hW0⟩ : ∃ W, W = w.alloc (.cells #[.int .i64 kd, .int .i64 ht, .int .u64 sq, .int .i64 c, .string k, .string v] 34) := ⟨_, rfl⟩
  obtain ⟨g0, hg0⟩ : ∃ g, g = w.heap.size := ⟨_, rfl⟩
  have s0 : W0.heap.size = g0 + 1 := by rw [hW0, hg0]; exact size_alloc _ _
  have B0 : Below w.heap.size w W0 := by rw [hW0]; exact box_below _ _
  have k0 : W0.heap[g0]? = some (.cells #[.int .i64 kd, .int .i64 ht, .int .u64 sq, .int .i64 c, .string k, .string v] 34) := by rw [hW0, hg0]; exact new_at _ _
  obtain ⟨W1, hW1⟩ : ∃ W, W = W0.alloc (.cells #[b0, bb, b2] 48) := ⟨_, rfl⟩
  have s1 : W1.heap.size = g0 + 1 + 1 := by rw [hW1, size_alloc, s0]
  have b1' : Below W0.heap.size W0 W1 := by rw [hW1]; exact box_below _ _
  have B1 : Below w.heap.size w W1 := B0.trans (b1'.mono B0.size)
  have k1 : W1.heap[g0 + 1]? = some (.cells #[b0, bb, b2] 48) := by rw [hW1, ← s0]; exact new_at _ _
  have k01 : W1.heap[g0]? = some (.cells #[.int .i64 kd, .int .i64 ht, .int .u64 sq, .int .i64 c, .string k, .string v] 34) := (b1'.block g0 (by omega)).trans k0
  obtain ⟨W2, hW2⟩ : ∃ W, W = W1.alloc (.cells #[.int .i64 0, .bool false, .pointer none, .pointer none, .map none, .int .i64 0, .int .u64 0, .int .u64 0] 80) := ⟨_, rfl⟩
  have s2 : W2.heap.size = g0 + 1 + 1 + 1 := by rw [hW2, size_alloc, s1]
  have b2' : Below W1.heap.size W1 W2 := by rw [hW2]; exact box_below _ _
  have B2 : Below w.heap.size w W2 := B1.trans (b2'.mono B1.size)
  have k2 : W2.heap[g0 + 1 + 1]? = some (.cells #[.int .i64 0, .bool false, .pointer none, .pointer none, .map none, .int .i64 0, .int .u64 0, .int .u64 0] 80) := by rw [hW2, ← s1]; exact new_at _ _
  obtain ⟨W3, hW3⟩ : ∃ W, W = W2.alloc (.cells #[.pointer none, .pointer (some ⟨g0 + 1 + 1, 0, none⟩)] 23) := ⟨_, rfl⟩
  have b3' : Below W2.heap.size W2 W3 := by rw [hW3]; exact box_below _ _
  have B3 : Below w.heap.size w W3 := B2.trans (b3'.mono B2.size)
  have k3 : W3.heap[g0 + 1 + 1 + 1]? = some (.cells #[.pointer none, .pointer (some ⟨g0 + 1 + 1, 0, none⟩)] 23) := by rw [hW3, ← s2]; exact new_at _ _
  have n3 : NoT W3 (some ⟨g0 + 1 + 1, 0, none⟩) := .inr ⟨g0 + 1 + 1, rfl, (b3'.block _ (by omega)).trans k2⟩
  have x3 : W3.heap[g0]? = some (.cells #[.int .i64 kd, .int .i64 ht, .int .u64 sq, .int .i64 c, .string k, .string v] 34) := (b3'.block _ (by omega)).trans ((b2'.block _ (by omega)).trans k01)
  have y3 : W3.heap[g0 + 1]? = some (.cells #[b0, bb, b2] 48) := (b3'.block _ (by omega)).trans ((b2'.block _ (by omega)).trans k1)
  replace hW0 := hid hW0; replace hg0 := hid hg0; replace hW1 := hid hW1; replace hW2 := hid hW2; replace hW3 := hid hW3
  replace s0 := hid s0; replace s1 := hid s1; replace s2 := hid s2
  replace B3 := hid B3; replace k3 := hid k3; replace n3 := hid n3; replace x3 := hid x3; replace y3 := hid y3
  clear B0 k0 b1' B1 k1 k01 b2' B2 k2 b3'
  go_enter Try.func6, Try.ntmps6
  go_wp2_with fail
  simp only [← hg0.out, ← hW0.out, ← hW1.out, ← hW2.out]
  try simp only [← hW3.out]
  go_loopw [26] (fun iv wr => ∃ i : Nat, i ≤ 2 ∧ iv = .int .i64 (i : Int) ∧ Hid (Below W3.heap.size W3 wr)) (fun iv _ => 2 - (intOf iv).toNat)
  case atStart => exact ⟨0, by omega, rfl, Below.refl _ _⟩
  case round =>
    obtain ⟨i, hii, rfl, Hi⟩ := hrel
    by_cases hli : i < 2
    · obtain ⟨p, hv, hNB⟩ : ∃ p, (#[.pointer none, .pointer (some ⟨g0 + 1 + 1, 0, none⟩)] : Array Value)[i]? = some (.pointer p) ∧ NoT W3 p := by
        obtain rfl | rfl : i = 0 ∨ i = 1 := by omega
        · exact ⟨_, rfl, .inl rfl⟩
        · exact ⟨_, rfl, n3.out⟩
      have hc := cell_of ((Hi.out.block _ (blk_lt k3.out)).trans k3.out) i _ hv
      have hzi : (i : Int) < 2 := by omega
      replace hNB := hid hNB
      clear hv
      have xa := (Hi.out.block _ (blk_lt x3.out)).trans x3.out
      have c2 := cell_of xa 2 (.int .u64 sq) rfl
      have c4 := cell_of xa 4 (.string k) rfl
      have HG := hid (tget p k sq wr (hNB.out.later Hi.out) hk)
      clear xa
      go_wp2_with fail
      refine HG.out.mono ?_
      rintro e w1 ⟨rfl, b1⟩
      clear hc HG c2 c4
      have HB1 := Hi.out.trans (b1.mono Hi.out.size)
      obtain ⟨W4, hW4⟩ : ∃ W, W = w1.alloc (.cells zE 56) := ⟨_, rfl⟩
      obtain ⟨g4, hg4⟩ : ∃ g, g = w1.heap.size := ⟨_, rfl⟩
      have b4 : Below w1.heap.size w1 W4 := by rw [hW4]; exact box_below _ _
      have k4 : W4.heap[g4]? = some (.cells zE 56) := by rw [hW4, hg4]; exact new_at _ _
      have HB4 : Hid (Below W3.heap.size W3 W4) := HB1.trans (b4.mono HB1.size)
      have f4 := Tr.fz_of k4
      have s40 := set_same k4 0 (.string ⟨#[]⟩) rfl
      have e40 := cell_of k4 0 (.string ⟨#[]⟩) rfl
      have s41 := set_same k4 1 (.int .u64 0) rfl
      have e41 := cell_of k4 1 (.int .u64 0) rfl
      have s42 := set_same k4 2 (.int .i64 0) rfl
      have e42 := cell_of k4 2 (.int .i64 0) rfl
      have s43 := set_same k4 3 (.string ⟨#[]⟩) rfl
      have e43 := cell_of k4 3 (.string ⟨#[]⟩) rfl
      have eW4 := hW4.symm; have eg4 := hg4.symm; clear hW4 hg4; replace k4 := hid k4
      clear b4
      clear b1 HB1
      have HS := hid (tspan p W4 (hNB.out.later HB4.out))
      have xa := (HB4.out.block _ (blk_lt x3.out)).trans x3.out
      have c1 := cell_of xa 1 (.int .i64 ht) rfl
      have c2 := cell_of xa 2 (.int .u64 sq) rfl
      have c3 := cell_of xa 3 (.int .i64 c) rfl
      have c4 := cell_of xa 4 (.string k) rfl
      have c5 := cell_of xa 5 (.string v) rfl
      have HA := hid (tadd p (.int .u64 sq) (.int .i64 ht) (.int .i64 c) (.string k) (.string v) W4 (hNB.out.later HB4.out))
      clear xa
      go_wp2_with fail
      refine HS.out.mono ?_
      rintro e w5 ⟨rfl, hw5⟩
      subst hw5
      clear s40 s41 s42 s43 e40 e41 e42 e43 f4 eW4 eg4 HS
      go_wp2_with fail
      refine HA.out.mono ?_
      rintro e w6 ⟨rfl, b6⟩
      have HB6 : Hid (Below W3.heap.size W3 w6) := HB4.out.trans (b6.mono HB4.out.size)
      have k6 := (b6.block _ (blk_lt k4.out)).trans k4.out
      have q0 := cell_of k6 0 (.string ⟨#[]⟩) rfl
      have q1 := cell_of k6 1 (.int .u64 0) rfl
      have q2 := cell_of k6 2 (.int .i64 0) rfl
      have q3 := cell_of k6 3 (.string ⟨#[]⟩) rfl
      have HE := hid (tentries p w6 (hNB.out.later HB6.out))
      clear b6 k6 HA c1 c2 c3 c4 c5
      go_wp2_with fail
      refine HE.out.mono ?_
      rintro e w7 ⟨rfl, b7⟩
      have HB7 : Hid (Below W3.heap.size W3 w7) := HB6.out.trans (b7.mono HB6.out.size)
      have N7 := hNB.out.later HB7.out
      have HT := hid (ttombs p w7 N7)
      have HL := hid (tlog p w7 N7)
      have HN := hid (tlen p w7 N7)
      have HZ := hid (tsize p w7 N7)
      have HC := hid (tcursor p w7 N7)
      clear b7 N7 HE q0 q1 q2 q3
      go_wp2_with fail
      refine HT.out.mono ?_
      rintro e w8 ⟨rfl, hw8⟩
      subst hw8
      go_wp2_with fail
      refine HL.out.mono ?_
      rintro e w8 ⟨rfl, hw8⟩
      subst hw8
      go_wp2_with fail
      refine HN.out.mono ?_
      rintro e w8 ⟨rfl, hw8⟩
      subst hw8
      go_wp2_with fail
      refine HZ.out.mono ?_
      rintro e w8 ⟨rfl, hw8⟩
      subst hw8
      go_wp2_with fail
      refine HC.out.mono ?_
      rintro e w8 ⟨rfl, hw8⟩
      subst hw8
      have hwr : IntKind.i64.wrap ((i : Int) + 1) = ((i + 1 : Nat) : Int) := by rw [IntKind.wrap_i64]; omega
      go_wp2_with fail
      refine ⟨⟨i + 1, by omega, by first | rfl | go_num, HB7⟩, ?_⟩
      simp only [intOf]; omega
    · have hzi : ¬ (i : Int) < 2 := by omega
      have BW : Hid (Below w.heap.size w wr) := B3.out.trans (Hi.out.mono B3.out.size)
      have xrc : Hid (wr.heap[g0]? = some (.cells #[.int .i64 kd, .int .i64 ht, .int .u64 sq, .int .i64 c, .string k, .string v] 34)) := (Hi.out.block _ (blk_lt x3.out)).trans x3.out
      have yrc : Hid (wr.heap[g0 + 1]? = some (.cells #[b0, bb, b2] 48)) := (Hi.out.block _ (blk_lt y3.out)).trans y3.out
      obtain ⟨nc, hnc⟩ : ∃ n, n = wr.heap.size := ⟨_, rfl⟩
      obtain ⟨Pc, hPc⟩ : ∃ W, W = wr.alloc (.cells #[.pointer none, .int .i64 0] 88) := ⟨_, rfl⟩
      have bp : Below wr.heap.size wr Pc := by rw [hPc]; exact box_below _ _
      have kp : Pc.heap[nc]? = some (.cells #[.pointer none, .int .i64 0] 88) := by rw [hPc, hnc]; exact new_at _ _
      have sp : Pc.heap.size = nc + 1 := by rw [hPc, hnc]; exact size_alloc _ _
      obtain ⟨Qc, hQc⟩ : ∃ W, W = Pc.alloc (.cells #[.pointer none, .pointer (some ⟨nc, 0, none⟩)] 43) := ⟨_, rfl⟩
      have bq : Below Pc.heap.size Pc Qc := by rw [hQc]; exact box_below _ _
      have kqc : Hid (Qc.heap[nc + 1]? = some (.cells #[.pointer none, .pointer (some ⟨nc, 0, none⟩)] 43)) := by show _ = _; rw [hQc, ← sp]; exact new_at _ _
      have nqc : Hid (NoC Qc (some ⟨nc, 0, none⟩)) := .inr ⟨nc, rfl, (bq.block _ (by omega)).trans kp⟩
      have BQc : Hid (Below w.heap.size w Qc) := (BW.out.trans (bp.mono BW.out.size)).trans (bq.mono (by have := BW.out.size; have := bp.size; omega))
      have xc : Hid (Qc.heap[g0]? = some (.cells #[.int .i64 kd, .int .i64 ht, .int .u64 sq, .int .i64 c, .string k, .string v] 34)) := (bq.block _ (by have := blk_lt xrc.out; have := bp.size; omega)).trans ((bp.block _ (blk_lt xrc.out)).trans xrc.out)
      have yc : Hid (Qc.heap[g0 + 1]? = some (.cells #[b0, bb, b2] 48)) := (bq.block _ (by have := blk_lt yrc.out; have := bp.size; omega)).trans ((bp.block _ (blk_lt yrc.out)).trans yrc.out)
      replace hnc := hid hnc; replace hPc := hid hPc; replace hQc := hid hQc
      clear bp kp sp bq xrc yrc BW
      go_wp2_with fail
      simp only [← hnc.out, ← hPc.out]
      try simp only [← hQc.out]
      go_loopw [107] (fun iv wr => ∃ i : Nat, i ≤ 2 ∧ iv = .int .i64 (i : Int) ∧ Hid (Below Qc.heap.size Qc wr)) (fun iv _ => 2 - (intOf iv).toNat)
      case atStart => exact ⟨0, by omega, rfl, Below.refl _ _⟩
      case round =>
        obtain ⟨j, hij, rfl, Hj⟩ := hrel
        by_cases hlj : j < 2
        · obtain ⟨p, hv, hNB⟩ : ∃ p, (#[.pointer none, .pointer (some ⟨nc, 0, none⟩)] : Array Value)[j]? = some (.pointer p) ∧ NoC Qc p := by
            obtain rfl | rfl : j = 0 ∨ j = 1 := by omega
            · exact ⟨_, rfl, .inl rfl⟩
            · exact ⟨_, rfl, nqc.out⟩
          have hc := cell_of ((Hj.out.block _ (blk_lt kqc.out)).trans kqc.out) j _ hv
          have hzj : (j : Int) < 2 := by omega
          replace hNB := hid hNB
          clear hv
          have HG := hid (chere p wr (hNB.out.later Hj.out))
          go_wp2_with fail
          refine HG.out.mono ?_
          rintro e w1 ⟨rfl, b1⟩
          clear hc HG
          have HB1 := Hj.out.trans (b1.mono Hj.out.size)
          obtain ⟨W4, hW4⟩ : ∃ W, W = w1.alloc (.cells zE 56) := ⟨_, rfl⟩
          obtain ⟨g4, hg4⟩ : ∃ g, g = w1.heap.size := ⟨_, rfl⟩
          have b4 : Below w1.heap.size w1 W4 := by rw [hW4]; exact box_below _ _
          have k4 : W4.heap[g4]? = some (.cells zE 56) := by rw [hW4, hg4]; exact new_at _ _
          have HB4 : Hid (Below Qc.heap.size Qc W4) := HB1.trans (b4.mono HB1.size)
          have f4 := Tr.fz_of k4
          have s40 := set_same k4 0 (.string ⟨#[]⟩) rfl
          have e40 := cell_of k4 0 (.string ⟨#[]⟩) rfl
          have s41 := set_same k4 1 (.int .u64 0) rfl
          have e41 := cell_of k4 1 (.int .u64 0) rfl
          have s42 := set_same k4 2 (.int .i64 0) rfl
          have e42 := cell_of k4 2 (.int .i64 0) rfl
          have s43 := set_same k4 3 (.string ⟨#[]⟩) rfl
          have e43 := cell_of k4 3 (.string ⟨#[]⟩) rfl
          have eW4 := hW4.symm; have eg4 := hg4.symm; clear hW4 hg4; replace k4 := hid k4
          clear b4
          clear b1 HB1
          have HF := hid (cfirst p W4 (hNB.out.later HB4.out))
          have HL := hid (clast p W4 (hNB.out.later HB4.out))
          have ya := (HB4.out.block _ (blk_lt yc.out)).trans yc.out
          have d0 := cell_of ya 0 b0 rfl
          have d1 := cell_of ya 1 bb rfl
          have d2 := cell_of ya 2 b2 rfl
          have HS := hid (cseek p b0 bb b2 W4 (hNB.out.later HB4.out))
          clear ya
          go_wp2_with fail
          refine HF.out.mono ?_
          rintro e w5 ⟨rfl, hw5⟩
          subst hw5
          clear s40 s41 s42 s43 e40 e41 e42 e43 f4 eW4 eg4
          go_wp2_with fail
          refine HL.out.mono ?_
          rintro e w5 ⟨rfl, hw5⟩
          subst hw5
          go_wp2_with fail
          refine HS.out.mono ?_
          rintro e w6 ⟨rfl, b6⟩
          have HB6 : Hid (Below Qc.heap.size Qc w6) := HB4.out.trans (b6.mono HB4.out.size)
          have k6 := hid ((b6.block _ (blk_lt k4.out)).trans k4.out)
          have HX := hid (cnext p w6 (hNB.out.later HB6.out))
          clear b6 HF HL HS d0 d1 d2
          go_wp2_with fail
          refine HX.out.mono ?_
          rintro e w7 ⟨rfl, b7⟩
          have HB7 : Hid (Below Qc.heap.size Qc w7) := HB6.out.trans (b7.mono HB6.out.size)
          have k7 := hid ((b7.block _ (blk_lt k6.out)).trans k6.out)
          have HP := hid (cprev p w7 (hNB.out.later HB7.out))
          clear b7 HX
          go_wp2_with fail
          refine HP.out.mono ?_
          rintro e w8 ⟨rfl, b8⟩
          have HB8 : Hid (Below Qc.heap.size Qc w8) := HB7.out.trans (b8.mono HB7.out.size)
          have k8 := (b8.block _ (blk_lt k7.out)).trans k7.out
          have q0 := cell_of k8 0 (.string ⟨#[]⟩) rfl
          have q1 := cell_of k8 1 (.int .u64 0) rfl
          have q2 := cell_of k8 2 (.int .i64 0) rfl
          have q3 := cell_of k8 3 (.string ⟨#[]⟩) rfl
          clear b8 k8 HP
          have hwr : IntKind.i64.wrap ((j : Int) + 1) = ((j + 1 : Nat) : Int) := by rw [IntKind.wrap_i64]; omega
          go_wp2_with fail
          refine ⟨⟨j + 1, by omega, by first | rfl | go_num, HB8⟩, ?_⟩
          simp only [intOf]; omega
        · have hzj : ¬ (j : Int) < 2 := by omega
          have BW : Hid (Below w.heap.size w wr) := BQc.out.trans (Hj.out.mono BQc.out.size)
          have xrq : Hid (wr.heap[g0]? = some (.cells #[.int .i64 kd, .int .i64 ht, .int .u64 sq, .int .i64 c, .string k, .string v] 34)) := (Hj.out.block _ (blk_lt xc.out)).trans xc.out
          have yrq : Hid (wr.heap[g0 + 1]? = some (.cells #[b0, bb, b2] 48)) := (Hj.out.block _ (blk_lt yc.out)).trans yc.out
          obtain ⟨nq, hnq⟩ : ∃ n, n = wr.heap.size := ⟨_, rfl⟩
          obtain ⟨Pq, hPq⟩ : ∃ W, W = wr.alloc (.cells #[.pointer none, .slice none 0 0] 91) := ⟨_, rfl⟩
          have bp : Below wr.heap.size wr Pq := by rw [hPq]; exact box_below _ _
          have kp : Pq.heap[nq]? = some (.cells #[.pointer none, .slice none 0 0] 91) := by rw [hPq, hnq]; exact new_at _ _
          have sp : Pq.heap.size = nq + 1 := by rw [hPq, hnq]; exact size_alloc _ _
          obtain ⟨Qq, hQq⟩ : ∃ W, W = Pq.alloc (.cells #[.pointer none, .pointer (some ⟨nq, 0, none⟩)] 62) := ⟨_, rfl⟩
          have bq : Below Pq.heap.size Pq Qq := by rw [hQq]; exact box_below _ _
          have kqq : Hid (Qq.heap[nq + 1]? = some (.cells #[.pointer none, .pointer (some ⟨nq, 0, none⟩)] 62)) := by show _ = _; rw [hQq, ← sp]; exact new_at _ _
          have nqq : Hid (NoQ Qq (some ⟨nq, 0, none⟩)) := .inr ⟨nq, rfl, (bq.block _ (by omega)).trans kp⟩
          have BQq : Hid (Below w.heap.size w Qq) := (BW.out.trans (bp.mono BW.out.size)).trans (bq.mono (by have := BW.out.size; have := bp.size; omega))
          have xq : Hid (Qq.heap[g0]? = some (.cells #[.int .i64 kd, .int .i64 ht, .int .u64 sq, .int .i64 c, .string k, .string v] 34)) := (bq.block _ (by have := blk_lt xrq.out; have := bp.size; omega)).trans ((bp.block _ (blk_lt xrq.out)).trans xrq.out)
          have yq : Hid (Qq.heap[g0 + 1]? = some (.cells #[b0, bb, b2] 48)) := (bq.block _ (by have := blk_lt yrq.out; have := bp.size; omega)).trans ((bp.block _ (blk_lt yrq.out)).trans yrq.out)
          replace hnq := hid hnq; replace hPq := hid hPq; replace hQq := hid hQq
          clear bp kp sp bq xrq yrq BW
          go_wp2_with fail
          simp only [← hnq.out, ← hPq.out]
          try simp only [← hQq.out]
          go_loopw [148] (fun iv wr => ∃ i : Nat, i ≤ 2 ∧ iv = .int .i64 (i : Int) ∧ Hid (Below Qq.heap.size Qq wr)) (fun iv _ => 2 - (intOf iv).toNat)
          case atStart => exact ⟨0, by omega, rfl, Below.refl _ _⟩
          case round =>
            obtain ⟨m, him, rfl, Hm⟩ := hrel
            by_cases hlm : m < 2
            · obtain ⟨p, hv, hNB⟩ : ∃ p, (#[.pointer none, .pointer (some ⟨nq, 0, none⟩)] : Array Value)[m]? = some (.pointer p) ∧ NoQ Qq p := by
                obtain rfl | rfl : m = 0 ∨ m = 1 := by omega
                · exact ⟨_, rfl, .inl rfl⟩
                · exact ⟨_, rfl, nqq.out⟩
              have hc := cell_of ((Hm.out.block _ (blk_lt kqq.out)).trans kqq.out) m _ hv
              have hzm : (m : Int) < 2 := by omega
              replace hNB := hid hNB
              clear hv
              have xa := (Hm.out.block _ (blk_lt xq.out)).trans xq.out
              have c2 := cell_of xa 2 (.int .u64 sq) rfl
              have c4 := cell_of xa 4 (.string k) rfl
              have HG := hid (qget p k sq wr (hNB.out.later Hm.out) hk)
              clear xa
              go_wp2_with fail
              refine HG.out.mono ?_
              rintro e w1 ⟨rfl, b1⟩
              clear hc HG c2 c4
              have HB1 := Hm.out.trans (b1.mono Hm.out.size)
              obtain ⟨W4, hW4⟩ : ∃ W, W = w1.alloc (.cells zE 56) := ⟨_, rfl⟩
              obtain ⟨g4, hg4⟩ : ∃ g, g = w1.heap.size := ⟨_, rfl⟩
              have b4 : Below w1.heap.size w1 W4 := by rw [hW4]; exact box_below _ _
              have k4 : W4.heap[g4]? = some (.cells zE 56) := by rw [hW4, hg4]; exact new_at _ _
              have HB4 : Hid (Below Qq.heap.size Qq W4) := HB1.trans (b4.mono HB1.size)
              have f4 := Tr.fz_of k4
              have s40 := set_same k4 0 (.string ⟨#[]⟩) rfl
              have e40 := cell_of k4 0 (.string ⟨#[]⟩) rfl
              have s41 := set_same k4 1 (.int .u64 0) rfl
              have e41 := cell_of k4 1 (.int .u64 0) rfl
              have s42 := set_same k4 2 (.int .i64 0) rfl
              have e42 := cell_of k4 2 (.int .i64 0) rfl
              have s43 := set_same k4 3 (.string ⟨#[]⟩) rfl
              have e43 := cell_of k4 3 (.string ⟨#[]⟩) rfl
              have eW4 := hW4.symm; have eg4 := hg4.symm; clear hW4 hg4; replace k4 := hid k4
              clear b4
              clear b1 HB1
              have N4 := hNB.out.later HB4.out
              have HO := hid (qoldest p W4 N4)
              have HA := hid (qactive p W4 N4)
              have HF := hid (qfreeze p 1 W4 N4)
              have HD := hid (qdrop p W4 N4)
              have HR := hid (qfrozen p W4 N4)
              have HT := hid (qtables p W4 N4)
              clear N4
              go_wp2_with fail
              refine HO.out.mono ?_
              rintro e w5 ⟨rfl, hw5⟩
              subst hw5
              clear s40 s41 s42 s43 e40 e41 e42 e43 f4 eW4 eg4
              go_wp2_with fail
              refine HA.out.mono ?_
              rintro e w5 ⟨rfl, hw5⟩
              subst hw5
              go_wp2_with fail
              refine HF.out.mono ?_
              rintro e w5 ⟨rfl, hw5⟩
              subst hw5
              go_wp2_with fail
              refine HD.out.mono ?_
              rintro e w5 ⟨rfl, hw5⟩
              subst hw5
              go_wp2_with fail
              refine HR.out.mono ?_
              rintro e w5 ⟨rfl, hw5⟩
              subst hw5
              go_wp2_with fail
              refine HT.out.mono ?_
              rintro e w5 ⟨rfl, hw5⟩
              subst hw5
              have q0 := cell_of k4.out 0 (.string ⟨#[]⟩) rfl
              have q1 := cell_of k4.out 1 (.int .u64 0) rfl
              have q2 := cell_of k4.out 2 (.int .i64 0) rfl
              have q3 := cell_of k4.out 3 (.string ⟨#[]⟩) rfl
              have hwr : IntKind.i64.wrap ((m : Int) + 1) = ((m + 1 : Nat) : Int) := by rw [IntKind.wrap_i64]; omega
              go_wp2_with fail
              refine ⟨⟨m + 1, by omega, by first | rfl | go_num, HB4⟩, ?_⟩
              simp only [intOf]; omega
            · have hzm : ¬ (m : Int) < 2 := by omega
              have BW : Hid (Below w.heap.size w wr) := BQq.out.trans (Hm.out.mono BQq.out.size)
              go_wp2_with fail
              refine (Tb.new_any 7 wr).mono ?_
              rintro e w9 ⟨g9, P9, rfl, T9, b9⟩
              have BF := hid (BW.out.trans (b9.mono BW.out.size))
              obtain ⟨gl9, bl9, gs9, bm9, vt9, TX9⟩ := T9
              have HLg0 := Tb.log_any g9 gl9 gs9 bm9 (Tb.St.new 7) w9 TX9.c
              have HLg : Hid (Calls Try.prog 29 #[.pointer (some ⟨g9, 0, none⟩)] w9 fun e w' => e = .returned (.int .i64 7) ∧ w' = w9) := HLg0
              clear b9 TX9 HLg0
              go_wp2_with fail
              refine HLg.out.mono ?_
              rintro e w10 ⟨rfl, rfl⟩
              go_wp2_with fail
              go_ret
              exact ⟨rfl, BF.out⟩
end Go.Proofs.Ytefihoohdaegeaa.Nl

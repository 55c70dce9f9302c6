/- NewBuilder, isNone, Len, Size, isBehindLast, sharedSize, keep of a builder. -/
import Derived.Test.YtkanjbeijoeenaaBl
import Derived.Lib.SlBuf
namespace Go.Proofs.Ytkanjbeijoeenaa.Bn
open Go.ChangeShapes Go.WideShapes Go.ChangeAt Go.RowKit
open Go.Sort (grow)
open Go.Proofs.Ytkanjbeijoeenaa.By
open Go.Proofs.Ytkanjbeijoeenaa.Bl
open Go.Proofs.Ytkanjbeijoeenaa.Ik
open Go.Proofs.Ytkanjbeijoeenaa.Cm (ik)
open Go.Proofs.Ytkanjbeijoeenaa.En (decB dv decode_yes)
open Go.Proofs.Ytkanjbeijoeenaa.Mb (hid box_below blk_lt new_at size_alloc cell_of fz_of set_of set_ne Fp gw own_blocks own_lt E ze At4 Ents OwnE drew_below drewN_below gw_low region_tail compare_below)
set_option linter.unusedVariables false
set_option linter.unusedSimpArgs false

theorem new_no (r : Int) (w : World) (h : r < 1 ∨ 64 < r) : Calls Try.prog 9 #[.int .i64 r] w fun e w' => e = .returned (.tuple #[.pointer none, .int .i64 2]) ∧ w' = w := by
  by_cases h1 : r < 1
  · clear h
    go_enter Try.func9, Try.ntmps9
    go_wp2
    go_ret2
    exact ⟨rfl, rfl⟩
  · have h2 : 64 < r := by omega
    clear h
    go_enter Try.func9, Try.ntmps9
    go_wp2
    go_ret2
    exact ⟨rfl, rfl⟩
/-- Nothing yet. -/
def b0 (r : Nat) : BS := ⟨r, [], [], 0, []⟩
set_option maxRecDepth 100000 in
theorem new_yes (r : Nat) (w : World) (h : 1 ≤ r ∧ r ≤ 64) : Calls Try.prog 9 #[.int .i64 (r : Int)] w fun e w' => ∃ g, e = .returned (.tuple #[.pointer (some ⟨g, 0, none⟩), .int .i64 0]) ∧ Bt w' w.heap.size g w.heap.size (.slice none 0 0) (.slice none 0 0) (fun j => w.heap.size ≤ j ∧ j < w'.heap.size) (b0 r) ∧ Below w.heap.size w w' := by
  obtain ⟨i0, hi, hz0, hz1, hz2⟩ := info_parts info5
  have h1 : ¬ (r : Int) < 1 := by omega
  have h2 : ¬ 64 < (r : Int) := by omega
  have HR := hid h
  clear h
  go_enter Try.func9, Try.ntmps9
  go_wp2_with (at_make; refine wpList_make_own _ rfl _ _ 28 rfl w.heap.size 5 i0 (.int .u8 0) 1 Try.underlying28 hi hz0 hz1 .i64 .i64 _ 1032 rfl rfl (by omega) (by rw [hz2]; omega) (by unfold maxLen; omega) (Nat.le_refl _) ?_)
  intro w1 own1 g1
  have HO : Hid (Row w1 w.heap.size w.heap.size 0 1032 []) := own1
  have HB : Hid (Below w.heap.size w w1) := grown_below g1 (by simp)
  clear own1 g1
  go_wp2_with fail
  go_ret2
  have b2 := box_below w1 (.cells #[.int .i64 (r : Int), .slice none 0 0, .slice none 0 0, .int .i64 0, .slice (some ⟨w.heap.size, 0, none⟩) 0 1032] 51)
  have hl := HO.out.lt
  refine ⟨w1.heap.size, rfl, ⟨?_, World.ownsRow_nil _ _ _ _, World.ownsRow_nil _ _ _ _, row_below HO.out b2, ?_, ?_, (fun j hj => by cases hj), (fun j hj => by cases hj), (fun j hj => hj), ?_, HR.out, by simp [b0]⟩, HB.out.trans (b2.mono HB.out.size)⟩
  · exact new_at _ _
  · exact ⟨HB.out.size, by rw [size_alloc]; omega⟩
  · exact ⟨Nat.le_refl _, by rw [size_alloc]; omega⟩
  · omega
theorem isNone_any {w : World} {base g gl : Nat} {ve vp : Value} {P : Nat → Prop} {S : BS} (H : Bt w base g gl ve vp P S) : Calls Try.prog 33 #[.pointer (some ⟨g, 0, none⟩)] w fun e w' => e = .returned (.bool false) ∧ w' = w := by
  have c0 : w.cell? ⟨g, 0, none⟩ = some (.int .i64 (S.r : Int)) := cell_of H.blk 0 _ rfl
  have h1 : ((S.r : Int) == 0) = false := by have := H.r; rw [beq_eq_false_iff_ne]; omega
  clear H
  generalize S.r = r at *
  go_enter Try.func33, Try.ntmps33
  go_wp2
  go_ret
  exact ⟨rfl, rfl⟩
theorem len_any {w : World} {base g gl : Nat} {ve vp : Value} {P : Nat → Prop} {S : BS} (H : Bt w base g gl ve vp P S) : Calls Try.prog 13 #[.pointer (some ⟨g, 0, none⟩)] w fun e w' => e = .returned (.int .i64 (S.cnt : Int)) ∧ w' = w := by
  have HN := hid (isNone_any H)
  have c0 : w.cell? ⟨g, 3, none⟩ = some (.int .i64 (S.cnt : Int)) := cell_of H.blk 3 _ rfl
  clear H
  go_enter Try.func13, Try.ntmps13
  go_wp2_with fail
  refine HN.out.mono ?_
  rintro e w1 ⟨rfl, rfl⟩
  go_wp2_with fail
  go_ret
  exact ⟨rfl, rfl⟩
theorem OwnN.shape {w : World} {base : Nat} {v : Value} {xs : List Nat} (h : OwnN w base v xs) : ∃ a c, v = .slice a xs.length c ∧ (a = none → xs.length = 0 ∧ c = 0) ∧ (∀ x, a = some x → x = ⟨x.block, 0, none⟩ ∧ ∀ i, i < xs.length → w.cell? ⟨x.block, i, none⟩ = some (.int .i64 ((xs.getD i 0 : Nat) : Int))) ∧ xs.length ≤ c := by
  have h' := h
  rcases h.2 with ⟨e, h0⟩ | ⟨g, c, cur, e, hb, hg, hn, hm, hs, ht⟩
  · exact ⟨none, 0, by rw [e, h0], fun _ => ⟨h0, rfl⟩, fun x hx => (by cases hx), by omega⟩
  · subst e
    refine ⟨some ⟨g, 0, none⟩, c, rfl, fun e => (by cases e), fun x hx => ?_, hn⟩
    cases hx
    refine ⟨rfl, fun i hi => ?_⟩
    rw [World.ownsRow.cellAt h' i (by omega), List.getElem?_map, List.getD_eq_getElem?_getD, List.getElem?_eq_getElem hi]
    rfl
/-- How many bytes the block has. -/
def bsz (S : BS) : Nat := S.ent.length + 4 * (S.pl.length + 1)
theorem size_any {w : World} {base g gl : Nat} {ve vp : Value} {P : Nat → Prop} {S : BS} (H : Bt w base g gl ve vp P S) (h1 : S.ent.length ≤ 1000000000000) (h2 : S.pl.length ≤ 1000000000000) : Calls Try.prog 14 #[.pointer (some ⟨g, 0, none⟩)] w fun e w' => e = .returned (.int .i64 (bsz S : Int)) ∧ Below w.heap.size w w' := by
  have HN := hid (isNone_any H)
  obtain ⟨ea, ec, rfl, _⟩ := H.oe.shape
  obtain ⟨pa, pc, rfl, _⟩ := OwnN.shape H.op
  have c1 : w.cell? ⟨g, 1, none⟩ = some (.slice ea S.ent.length ec) := cell_of H.blk 1 _ rfl
  have c2 : w.cell? ⟨g, 2, none⟩ = some (.slice pa S.pl.length pc) := cell_of H.blk 2 _ rfl
  clear H
  unfold bsz
  generalize S.ent.length = n at *
  generalize S.pl.length = m at *
  have e1 : IntKind.i64.wrap ((m : Int) + 1) = (m : Int) + 1 := by rw [IntKind.wrap_i64]; omega
  have e2 : IntKind.i64.wrap (4 * ((m : Int) + 1)) = 4 * ((m : Int) + 1) := by rw [IntKind.wrap_i64]; omega
  have e3 : IntKind.i64.wrap ((n : Int) + 4 * ((m : Int) + 1)) = ((n + 4 * (m + 1) : Nat) : Int) := by rw [IntKind.wrap_i64]; omega
  go_enter Try.func14, Try.ntmps14
  go_wp2_with fail
  refine HN.out.mono ?_
  rintro e w1 ⟨rfl, rfl⟩
  go_wp2_with fail
  go_quiet (fail)
  go_wp2_with fail
  go_ret
  exact ⟨by first | rfl | (congr 2; omega), drewN_below _ _⟩
set_option maxRecDepth 100000 in
set_option maxHeartbeats 1000000 in
theorem shared_any (b1 o1 n1 c1 b2 o2 n2 c2 : Nat) (xs ys : List Int) (w : World) (H1 : Bytes w (some ⟨b1, o1, none⟩) n1 c1 xs) (H2 : Bytes w (some ⟨b2, o2, none⟩) n2 c2 ys) (hn1 : n1 ≤ 1000000) (hn2 : n2 ≤ 1000000) :
    Calls Try.prog 61 #[.slice (some ⟨b1, o1, none⟩) n1 c1, .slice (some ⟨b2, o2, none⟩) n2 c2] w fun e w' => e = .returned (.int .i64 (shr xs ys : Int)) ∧ Below w.heap.size w w' := by
  have l1 := H1.1
  have l2 := H2.1
  have k1 := H1.2.1
  have k2 := H2.2.1
  have HA := hid (H1.2.2.2.2 _ rfl)
  have HB := hid (H2.2.2.2.2 _ rfl)
  obtain ⟨m, hm⟩ : ∃ m : Nat, (m : Int) = min (n1 : Int) (n2 : Int) := ⟨min n1 n2, by omega⟩
  have hm1 : m ≤ n1 := by omega
  have hm2 : m ≤ n2 := by omega
  have HM : Hid (m = n1 ∨ m = n2) := by show _ ∨ _; omega
  replace l1 := hid l1
  replace l2 := hid l2
  clear H1 H2
  go_enter Try.func61, Try.ntmps61
  go_wp2_with fail
  rw [← hm]
  replace hm := hid hm
  go_loopw [13] (fun iv wr => ∃ i : Nat, i ≤ m ∧ iv = .int .i64 (i : Int) ∧ Hid (∀ j, j < i → xs.getD j 0 = ys.getD j 0) ∧ Hid (Below w.heap.size w wr)) (fun iv _ => m - (intOf iv).toNat)
  case atStart => exact ⟨0, by omega, rfl, fun j hj => by omega, Below.refl _ _⟩
  case round =>
    obtain ⟨i, hi, rfl, HE, HBw⟩ := hrel
    by_cases him : i < m
    · have x1 := (HBw.out.cell (block_lt_of_cell (HA.out i (by omega)))).trans (HA.out i (by omega))
      have x2 := (HBw.out.cell (block_lt_of_cell (HB.out i (by omega)))).trans (HB.out i (by omega))
      rw [addr_add] at x1 x2
      have i1 : (i : Int) < (n1 : Int) := by omega
      have i2 : (i : Int) < (n2 : Int) := by omega
      have i3 : (i : Int) < (m : Int) := by omega
      obtain ⟨X, hX⟩ : ∃ X, X = xs.getD i 0 := ⟨_, rfl⟩
      obtain ⟨Y, hY⟩ : ∃ Y, Y = ys.getD i 0 := ⟨_, rfl⟩
      rw [← hX] at x1
      rw [← hY] at x2
      replace hX := hid hX
      replace hY := hid hY
      have HB4 := fun nq => hid (HBw.out.trans ((drewN_below wr nq).mono HBw.out.size))
      by_cases hxy : X = Y
      · subst hxy
        have hne : (X != X) = false := by simp
        have hwr : IntKind.i64.wrap ((i : Int) + 1) = ((i + 1 : Nat) : Int) := by rw [IntKind.wrap_i64]; omega
        go_wp2_with fail
        go_quiet (fail)
        go_wp2_with fail
        refine ⟨⟨i + 1, by omega, by first | rfl | go_num, fun j hj => ?_, HB4 _⟩, ?_⟩
        · by_cases h : j = i
          · rw [h, ← hX.out, ← hY.out]
          · exact HE.out j (by omega)
        · simp only [intOf]; omega
      · have hne : (X != Y) = true := by simpa using hxy
        have hres : Hid (shr xs ys = i) := shr_is xs ys i (by rw [l1.out]; omega) (by rw [l2.out]; omega) HE.out (fun _ _ => by rw [← hX.out, ← hY.out]; exact hxy)
        go_wp2_with fail
        go_quiet (fail)
        go_wp2_with fail
        go_ret
        exact ⟨by rw [hres.out]; rfl, (HB4 _).out⟩
    · have i3 : ¬ (i : Int) < (m : Int) := by omega
      have hres : Hid (shr xs ys = m) := by
        have : i = m := by omega
        refine shr_is xs ys m (by rw [l1.out]; omega) (by rw [l2.out]; omega) (by rw [← this]; exact HE.out) (fun h1 h2 => ?_)
        rw [l1.out] at h1
        rw [l2.out] at h2
        have := HM.out
        omega
      go_wp2_with fail
      go_ret
      exact ⟨by rw [hres.out]; rfl, HBw.out⟩
theorem keep_any {w : World} {base g gl : Nat} {ve vp : Value} {P : Nat → Prop} {S : BS} (H : Bt w base g gl ve vp P S) (kb n c : Nat) (kz : List Int) (HK : Bytes w (some ⟨kb, 0, none⟩) n c kz) (hk : n ≤ 1032) (hne : ¬ P kb) :
    Calls Try.prog 63 #[.pointer (some ⟨g, 0, none⟩), .slice (some ⟨kb, 0, none⟩) n c] w fun e w' => (∃ v, e = .returned v) ∧ Bt w' base g gl ve vp P { S with last := kz } ∧ Fp P w w' := by
  have hn := HK.1
  obtain ⟨w1, r1, B1, F1⟩ := H.keep kz (by omega) HK.2.2.2.1 ⟨kb, 0, none⟩ n c hn ⟨fun e => hne (by rw [show kb = g from e]; exact H.pg), fun e => hne (by rw [show kb = gl from e]; exact H.pl)⟩ (HK.2.2.2.2 _ rfl)
  have c4 : w.cell? ⟨g, 4, none⟩ = some (.slice (some ⟨gl, 0, none⟩) S.last.length 1032) := cell_of H.blk 4 _ rfl
  have f4 := fz_of H.blk 4
  have c4' : (w.setCell ⟨g, 4, none⟩ (.slice (some ⟨gl, 0, none⟩) n 1032)).cell? ⟨g, 4, none⟩ = some (.slice (some ⟨gl, 0, none⟩) n 1032) := cell_of (set_of H.blk 4 (.slice (some ⟨gl, 0, none⟩) n 1032)) 4 _ rfl
  have hl := H.ol.bytes H.bt
  have hl2 := hl.2.1
  replace B1 := hid B1
  replace F1 := hid F1
  clear H HK hl hn
  generalize S.last.length = ll at *
  go_enter Try.func63, Try.ntmps63
  go_wp2_with (at_builtin; refine Lib.wpList_copy_run _ rfl _ _ 28 28 rfl _ _ rfl rfl r1 ?_)
  go_end0
  exact ⟨⟨_, rfl⟩, B1.out, F1.out⟩
/-- Is a key behind the last one? -/
def bhd (S : BS) (k : ByteArray) (s c : Int) : Bool := if S.cnt = 0 then true else decide (cmp (ik (str (S.last.take (S.last.length - 8))) (dv S.last / 256) (dv S.last % 256)) (ik k s c) < 0)
set_option maxRecDepth 100000 in
theorem behind_any {w : World} {base g gl : Nat} {ve vp : Value} {P : Nat → Prop} {S : BS} (H : Bt w base g gl ve vp P S) (k : ByteArray) (s c : Int) (hd : S.cnt ≠ 0 → decB S.last = true) :
    Calls Try.prog 38 #[.pointer (some ⟨g, 0, none⟩), .agg #[.string k, .int .u64 s, .int .i64 c]] w fun e w' => e = .returned (.bool (bhd S k s c)) ∧ Below w.heap.size w w' := by
  obtain ⟨W0, hW0⟩ : ∃ W, W = w.alloc (.cells #[.string k, .int .u64 s, .int .i64 c] 36) := ⟨_, rfl⟩
  obtain ⟨g0, hg0⟩ : ∃ n, n = w.heap.size := ⟨_, rfl⟩
  have B0 : Below w.heap.size w W0 := by rw [hW0]; exact box_below _ _
  have k0 : W0.heap[g0]? = some (.cells #[.string k, .int .u64 s, .int .i64 c] 36) := by rw [hW0, hg0]; exact new_at _ _
  have H0 := H.later B0
  have c3 : W0.cell? ⟨g, 3, none⟩ = some (.int .i64 (S.cnt : Int)) := cell_of H0.blk 3 _ rfl
  have c4 : W0.cell? ⟨g, 4, none⟩ = some (.slice (some ⟨gl, 0, none⟩) S.last.length 1032) := cell_of H0.blk 4 _ rfl
  rw [hW0] at c3 c4
  by_cases hc : S.cnt = 0
  · have e : Hid (bhd S k s c = true) := by show _ = _; unfold bhd; rw [if_pos hc]
    rw [hc] at c3
    replace hW0 := hid hW0
    replace hg0 := hid hg0
    replace B0 := hid B0
    clear H H0 k0 hd hc c4
    go_enter Try.func38, Try.ntmps38
    go_wp2_with fail
    go_ret
    exact ⟨by rw [e.out]; rfl, by rw [← hW0.out]; exact B0.out⟩
  · have e : Hid (bhd S k s c = decide (cmp (ik (str (S.last.take (S.last.length - 8))) (dv S.last / 256) (dv S.last % 256)) (ik k s c) < 0)) := by show _ = _; unfold bhd; rw [if_neg hc]
    have HD := hid (decode_yes (some ⟨gl, 0, none⟩) S.last.length 1032 S.last W0 (H0.ol.bytes H.bt) (by have := (H0.ol.bytes H.bt).2.1; omega) (hd hc))
    have hc0 : ((S.cnt : Int) == 0) = false := by rw [beq_eq_false_iff_ne]; omega
    generalize str (S.last.take (S.last.length - 8)) = dk at *
    generalize dv S.last / 256 = ds at *
    generalize dv S.last % 256 = dc at *
    generalize S.last.length = ll at *
    generalize S.cnt = n at *
    replace hW0 := hid hW0
    replace hg0 := hid hg0
    replace B0 := hid B0
    replace k0 := hid k0
    clear H H0 hd hc
    go_enter Try.func38, Try.ntmps38
    go_wp2_with fail
    rw [← hW0.out, ← hg0.out]
    refine HD.out.mono ?_
    rintro e' w1 ⟨rfl, b1⟩
    have B1 := B0.out.trans (b1.mono B0.out.size)
    have k1 := (b1.block g0 (blk_lt k0.out)).trans k0.out
    obtain ⟨W2, hW2⟩ : ∃ W, W = w1.alloc (.cells #[.string dk, .int .u64 ds, .int .i64 dc] 36) := ⟨_, rfl⟩
    have b2 : Below w1.heap.size w1 W2 := by rw [hW2]; exact box_below _ _
    have k2 := (b2.block g0 (blk_lt k1)).trans k1
    have x0 := cell_of k2 0 _ rfl
    have x1 := cell_of k2 1 _ rfl
    have x2 := cell_of k2 2 _ rfl
    have B2 : Hid (Below w.heap.size w W2) := B1.trans (b2.mono B1.size)
    have HC := hid (compare_below dk ds dc k s c W2)
    have y0 : (w1.alloc (.cells #[.string dk, .int .u64 ds, .int .i64 dc] 36)).cell? ⟨g0, 0, none⟩ = some (.string k) := by rw [← hW2]; exact x0
    have y1 : (w1.alloc (.cells #[.string dk, .int .u64 ds, .int .i64 dc] 36)).cell? ⟨g0, 1, none⟩ = some (.int .u64 s) := by rw [← hW2]; exact x1
    have y2 : (w1.alloc (.cells #[.string dk, .int .u64 ds, .int .i64 dc] 36)).cell? ⟨g0, 2, none⟩ = some (.int .i64 c) := by rw [← hW2]; exact x2
    replace hW2 := hid hW2
    clear b1 b2 k1 k2 B1
    go_wp2_with fail
    rw [← hW2.out]
    refine HC.out.mono ?_
    rintro e' w3 ⟨rfl, b3⟩
    have B3 : Hid (Below w.heap.size w w3) := B2.out.trans (b3.mono B2.out.size)
    clear b3
    go_wp2_with fail
    go_ret
    exact ⟨by rw [e.out]; rfl, B3.out⟩
end Go.Proofs.Ytkanjbeijoeenaa.Bn

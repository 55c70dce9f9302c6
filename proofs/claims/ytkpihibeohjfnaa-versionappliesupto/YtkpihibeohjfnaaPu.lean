/- The document's put by its contract. -/
import Derived.Test.YtkpihibeohjfnaaPq
import Derived.Test.YtkpihibeohjfnaaAs
import Derived.BigQuiet
import Derived.Deep.CutRange
import Derived.Deep.RegionHeld
namespace Go.Proofs.Ytkpihibeohjfnaa.Pu
open Go.ChangeShapes Go.WideShapes Go.ChangeAt Go.RowKit
open Go.Proofs.Ytkpihibeohjfnaa.Gr
open Go.Proofs.Ytkpihibeohjfnaa.Ev
open Go.Proofs.Ytkpihibeohjfnaa.Oe
open Go.Proofs.Ytkpihibeohjfnaa.Vp
open Go.Proofs.Ytkpihibeohjfnaa.Vr
open Go.Proofs.Ytkpihibeohjfnaa.As (wp_append_run)
open Go.Proofs.Ytkpihibeohjfnaa.Cq (lF)
open Go.Proofs.Ytkpihibeohjfnaa.Wi (six six_below)
open Go.Proofs.Ytkpihibeohjfnaa.Sq (Srt)
open Go.Proofs.Ytkpihibeohjfnaa.Pq
open Go.Proofs.Ytkpihibeohjfnaa.Lx (lt)
set_option linter.unusedVariables false
set_option linter.unusedSimpArgs false

theorem lF_zero (x y : Fi) : lF 0 x y = decide (x.n < y.n) := rfl
theorem lF_pos {lv : Nat} (h : 0 < lv) (x y : Fi) : lF lv x y = lt x.a y.a := if_neg (by omega)
set_option maxRecDepth 20000 in
set_option maxHeartbeats 2000000 in
theorem put0 (la : Option Addr) (ln lc : Nat) (fs : List Fi) (n z : Int) (s t : ByteArray) (lo hi : Int) (w : World) (S : eFi.Sl w la ln lc fs) (hf : (⟨n, z, s, t, lo, hi⟩ : Fi).ok) (hn8 : ln ≤ 1048576) (hs : Srt 0 fs) :
    Calls Try.prog 44 #[.slice la ln lc, .int .i64 (0 : Int), .agg #[.int .i64 n, .int .i64 z, .string s, .string t, .int .u64 lo, .int .u64 hi]] w fun e w' => ∃ g c ys, e = .returned (.slice (some ⟨g, 0, none⟩) (ln + 1) c) ∧ Acc eFi w w' (.slice (some ⟨g, 0, none⟩) (ln + 1) c) ys ∧ Srt 0 ys ∧ ys.Perm (fs ++ [(⟨n, z, s, t, lo, hi⟩ : Fi)]) := by
  have hln := hid S.n.symm
  have hlc := S.c
  have HS : Hid (∀ W, Below w.heap.size w W → eFi.Sl W la ln lc fs) := fun W b => S.later b
  obtain ⟨gx, hgx⟩ : ∃ g, g = w.heap.size := ⟨_, rfl⟩
  obtain ⟨W1, hW1⟩ : ∃ W, W = w.alloc (.cells #[.int .i64 n, .int .i64 z, .string s, .string t, .int .u64 lo, .int .u64 hi] 43) := ⟨_, rfl⟩
  have kx : W1.heap[gx]? = some (.cells #[.int .i64 n, .int .i64 z, .string s, .string t, .int .u64 lo, .int .u64 hi] 43) := by rw [hW1, hgx]; exact new_at _ _
  have bx : Below w.heap.size w W1 := by rw [hW1]; exact box_below _ _
  have hk : Hid (∀ W, Below W1.heap.size W1 W → W.heap[gx]? = some (.cells #[.int .i64 n, .int .i64 z, .string s, .string t, .int .u64 lo, .int .u64 hi] 43)) := fun W b => (b.block _ (blk_lt kx)).trans kx
  have hgl : Hid (gx < W1.heap.size) := blk_lt kx
  replace bx := hid bx
  replace hW1 := hid hW1
  replace hgx := hid hgx
  replace hf := hid hf
  replace hs := hid hs
  clear S kx
  go_enter Try.func44, Try.ntmps44
  go_upto_region 1 with fail
  rw [← hW1.out, ← hgx.out]
  go_cut [7] from 9 to 14 (fun v wx => ∃ g c, v = .slice (some ⟨g, 0, none⟩) (ln + 1) c ∧ Hid (Acc eFi W1 wx (.slice (some ⟨g, 0, none⟩) (ln + 1) c) (fs ++ [(⟨n, z, s, t, lo, hi⟩ : Fi)])))
  case first =>
    refine wp_region_held_drew (S := fun V => Below W1.heap.size W1 V) (by kernel_rfl) (drew_below _) (fun hS => ?_)
    generalize World.drew W1 = D at *
    refine wpAnyH_take (i := 1) (v := ?v1) rfl (by kernel_rfl) (by kernel_rfl) (by kernel_rfl) (fun _ _ _ h => h) (Or.inl ⟨by rfl, ?h1⟩) hS ?_
    case h1 => (intro W hW; go_simp; try (with_reducible rfl))
    go_simp
    refine wpAnyH_take (i := 3) (v := ?v2) rfl (by kernel_rfl) (by kernel_rfl) (by kernel_rfl) (fun _ _ _ h => h) (Or.inl ⟨by rfl, ?h2⟩) hS ?_
    case h2 => (intro W hW; have q0 := cell_of (hk.out _ hW) 0 _ rfl; have q1 := cell_of (hk.out _ hW) 1 _ rfl; have q2 := cell_of (hk.out _ hW) 2 _ rfl; have q3 := cell_of (hk.out _ hW) 3 _ rfl; have q4 := cell_of (hk.out _ hW) 4 _ rfl; have q5 := cell_of (hk.out _ hW) 5 _ rfl; go_simp; try (with_reducible rfl))
    go_simp
    refine wpAnyH_ready (rs := [0, 4]) (by kernel_rfl) (by simp) ?_
    refine AllReadyH.cons rfl (fun K hK => ?_) ?_
    · go_simp
      have A := hid (Acc.made2 hS)
      have bb := box_below D (.cells #[] 43)
      have hS' := hid (Below.up hS bb)
      clear bb
      refine hK.out _ _ hS'.out (fun hS => ?_)
      clear hK K hS'
      generalize D.alloc (.cells #[] 43) = y0 at *
      generalize D.heap.size = g0 at *
      refine wpAnyH_ready (rs := [2, 4]) (by kernel_rfl) (by simp) ?_
      refine AllReadyH.cons rfl (fun K hK => ?_) ?_
      · obtain ⟨v2, y2, r2, o2, gr2, q2⟩ := El.app eFi y0 W1.heap.size _ _ A.out.o la ln lc fs (HS.out _ (Below.up bx.out hS)) (by show (0 + ln) * 64 ≤ _; omega) (by show 0 + ln ≤ _; omega) A.out.sz
        have A2 : Acc eFi W1 y2 v2 ([] ++ fs) := ⟨o2, below_grown A.out.lo A.out.sz gr2 (fun j hj => (own_lt A.out.o j hj).1)⟩
        rw [List.nil_append] at A2
        clear o2 gr2 q2 A
        have A := hid A2
        clear A2
        obtain ⟨a2, c2, hv2⟩ := A.out.shape
        obtain ⟨n2, hn2⟩ : ∃ n, n = fs.length := ⟨_, rfl⟩
        rw [← hn2] at hv2
        replace hn2 := hid hn2
        subst hv2
        replace r2 := hid r2
        refine wp_append_run (.tmp 9) (.tmp 10) 39 39 rfl (.slice (some ⟨g0, 0, none⟩) 0 0) (.slice la ln lc) (.slice a2 n2 c2) (by go_simp) (by go_simp) r2.out ?_
        go_simp
        refine hK.out _ _ A.out.lo (fun hS => ?_)
        clear hK K
        refine wpAnyH_ready (rs := [4]) (by kernel_rfl) (by simp) ?_
        refine AllReadyH.cons rfl (fun K hK => ?_) ?_
        · go_simp
          have kE := hid (new_at y2 (.cells #[.int .i64 n, .int .i64 z, .string s, .string t, .int .u64 lo, .int .u64 hi] 43))
          have bb := box_below y2 (.cells #[.int .i64 n, .int .i64 z, .string s, .string t, .int .u64 lo, .int .u64 hi] 43)
          have hS' := hid (Below.up hS bb)
          replace A := hid (A.out.later bb)
          clear bb
          refine hK.out _ _ hS'.out (fun hS => ?_)
          clear hK K hS'
          generalize y2.alloc (.cells #[.int .i64 n, .int .i64 z, .string s, .string t, .int .u64 lo, .int .u64 hi] 43) = y4 at *
          generalize y2.heap.size = g4 at *
          refine wpAnyH_ready (rs := [5]) (by kernel_rfl) (by simp) ?_
          refine AllReadyH.cons rfl (fun K hK => ?_) ?_
          · obtain ⟨v5, y5, r5, A5⟩ := A.out.app (one_sl (x := (⟨n, z, s, t, lo, hi⟩ : Fi)) kE.out hf.out) (by rw [← hln.out]; show (ln + 1) * 64 ≤ _; omega) (by rw [← hln.out]; omega)
            obtain ⟨g5, c5, hv5⟩ := A5.nn (by simp)
            rw [List.length_append, ← hln.out] at hv5
            change v5 = .slice (some ⟨g5, 0, none⟩) (ln + 1) c5 at hv5
            subst hv5
            replace A5 := hid A5
            replace r5 := hid r5
            refine wp_append_run (.tmp 11) (.tmp 13) 39 39 rfl (.slice a2 n2 c2) (.slice (some ⟨g4, 0, none⟩) 1 1) (.slice (some ⟨g5, 0, none⟩) (ln + 1) c5) (by go_simp) (by go_simp) r5.out ?_
            go_simp
            refine hK.out _ _ A5.out.lo (fun hS => ?_)
            clear hK K
            refine wpAnyH_take (i := 6) (v := ?v3) rfl (by kernel_rfl) (by kernel_rfl) (by kernel_rfl) (fun _ _ _ h => h) (Or.inl ⟨by rfl, ?h3⟩) hS ?_
            case h3 => (intro W hW; go_simp; try (with_reducible rfl))
            go_simp
            refine wpAnyH_done (by kernel_rfl) ?_ _
            go_wp2_with fail
            go_meet
            case rel => exact ⟨g5, c5, rfl, A5⟩
          exact AllReadyH.nil
        exact AllReadyH.nil
      refine AllReadyH.cons rfl (fun K hK => ?_) ?_
      · go_simp
        have kE := hid (new_at y0 (.cells #[.int .i64 n, .int .i64 z, .string s, .string t, .int .u64 lo, .int .u64 hi] 43))
        have bb := box_below y0 (.cells #[.int .i64 n, .int .i64 z, .string s, .string t, .int .u64 lo, .int .u64 hi] 43)
        have hS' := hid (Below.up hS bb)
        have hlt := hid (own_lt A.out.o g0 rfl).2
        replace A := hid (A.out.later bb)
        clear bb
        refine hK.out _ _ hS'.out (fun hS => ?_)
        clear hK K hS'
        generalize y0.alloc (.cells #[.int .i64 n, .int .i64 z, .string s, .string t, .int .u64 lo, .int .u64 hi] 43) = y4 at *
        generalize y0.heap.size = g4 at *
        have hne : Hid (g4 ≠ g0) := (by have := hlt.out; show _ ≠ _; omega)
        refine wpAnyH_ready (rs := [2]) (by kernel_rfl) (by simp) ?_
        refine AllReadyH.cons rfl (fun K hK => ?_) ?_
        · obtain ⟨v2, y2, r2, o2, gr2, q2⟩ := El.app eFi y4 W1.heap.size _ _ A.out.o la ln lc fs (HS.out _ (Below.up bx.out hS)) (by show (0 + ln) * 64 ≤ _; omega) (by show 0 + ln ≤ _; omega) A.out.sz
          have A2 : Acc eFi W1 y2 v2 ([] ++ fs) := ⟨o2, below_grown A.out.lo A.out.sz gr2 (fun j hj => (own_lt A.out.o j hj).1)⟩
          rw [List.nil_append] at A2
          replace kE := hid ((gr2.block _ (blk_lt kE.out) (fun e => hne.out (Option.some.inj e))).trans kE.out)
          clear o2 gr2 q2 A
          have A := hid A2
          clear A2
          obtain ⟨a2, c2, hv2⟩ := A.out.shape
          obtain ⟨n2, hn2⟩ : ∃ n, n = fs.length := ⟨_, rfl⟩
          rw [← hn2] at hv2
          replace hn2 := hid hn2
          subst hv2
          replace r2 := hid r2
          refine wp_append_run (.tmp 9) (.tmp 10) 39 39 rfl (.slice (some ⟨g0, 0, none⟩) 0 0) (.slice la ln lc) (.slice a2 n2 c2) (by go_simp) (by go_simp) r2.out ?_
          go_simp
          refine hK.out _ _ A.out.lo (fun hS => ?_)
          clear hK K
          refine wpAnyH_ready (rs := [5]) (by kernel_rfl) (by simp) ?_
          refine AllReadyH.cons rfl (fun K hK => ?_) ?_
          · obtain ⟨v5, y5, r5, A5⟩ := A.out.app (one_sl (x := (⟨n, z, s, t, lo, hi⟩ : Fi)) kE.out hf.out) (by rw [← hln.out]; show (ln + 1) * 64 ≤ _; omega) (by rw [← hln.out]; omega)
            obtain ⟨g5, c5, hv5⟩ := A5.nn (by simp)
            rw [List.length_append, ← hln.out] at hv5
            change v5 = .slice (some ⟨g5, 0, none⟩) (ln + 1) c5 at hv5
            subst hv5
            replace A5 := hid A5
            replace r5 := hid r5
            refine wp_append_run (.tmp 11) (.tmp 13) 39 39 rfl (.slice a2 n2 c2) (.slice (some ⟨g4, 0, none⟩) 1 1) (.slice (some ⟨g5, 0, none⟩) (ln + 1) c5) (by go_simp) (by go_simp) r5.out ?_
            go_simp
            refine hK.out _ _ A5.out.lo (fun hS => ?_)
            clear hK K
            refine wpAnyH_take (i := 6) (v := ?v4) rfl (by kernel_rfl) (by kernel_rfl) (by kernel_rfl) (fun _ _ _ h => h) (Or.inl ⟨by rfl, ?h4⟩) hS ?_
            case h4 => (intro W hW; go_simp; try (with_reducible rfl))
            go_simp
            refine wpAnyH_done (by kernel_rfl) ?_ _
            go_wp2_with fail
            go_meet
            case rel => exact ⟨g5, c5, rfl, A5⟩
          exact AllReadyH.nil
        exact AllReadyH.nil
      exact AllReadyH.nil
    refine AllReadyH.cons rfl (fun K hK => ?_) ?_
    · go_simp
      have kE := hid (new_at D (.cells #[.int .i64 n, .int .i64 z, .string s, .string t, .int .u64 lo, .int .u64 hi] 43))
      have bb := box_below D (.cells #[.int .i64 n, .int .i64 z, .string s, .string t, .int .u64 lo, .int .u64 hi] 43)
      have hS' := hid (Below.up hS bb)
      clear bb
      refine hK.out _ _ hS'.out (fun hS => ?_)
      clear hK K hS'
      generalize D.alloc (.cells #[.int .i64 n, .int .i64 z, .string s, .string t, .int .u64 lo, .int .u64 hi] 43) = y4 at *
      generalize D.heap.size = g4 at *
      refine wpAnyH_ready (rs := [0]) (by kernel_rfl) (by simp) ?_
      refine AllReadyH.cons rfl (fun K hK => ?_) ?_
      · go_simp
        have A := hid (Acc.made2 hS)
        have bb := box_below y4 (.cells #[] 43)
        have hS' := hid (Below.up hS bb)
        have hlt := hid (blk_lt kE.out)
        replace kE := hid ((bb.block _ (blk_lt kE.out)).trans kE.out)
        clear bb
        refine hK.out _ _ hS'.out (fun hS => ?_)
        clear hK K hS'
        generalize y4.alloc (.cells #[] 43) = y0 at *
        generalize y4.heap.size = g0 at *
        have hne : Hid (g4 ≠ g0) := (by have := hlt.out; show _ ≠ _; omega)
        refine wpAnyH_ready (rs := [2]) (by kernel_rfl) (by simp) ?_
        refine AllReadyH.cons rfl (fun K hK => ?_) ?_
        · obtain ⟨v2, y2, r2, o2, gr2, q2⟩ := El.app eFi y0 W1.heap.size _ _ A.out.o la ln lc fs (HS.out _ (Below.up bx.out hS)) (by show (0 + ln) * 64 ≤ _; omega) (by show 0 + ln ≤ _; omega) A.out.sz
          have A2 : Acc eFi W1 y2 v2 ([] ++ fs) := ⟨o2, below_grown A.out.lo A.out.sz gr2 (fun j hj => (own_lt A.out.o j hj).1)⟩
          rw [List.nil_append] at A2
          replace kE := hid ((gr2.block _ (blk_lt kE.out) (fun e => hne.out (Option.some.inj e))).trans kE.out)
          clear o2 gr2 q2 A
          have A := hid A2
          clear A2
          obtain ⟨a2, c2, hv2⟩ := A.out.shape
          obtain ⟨n2, hn2⟩ : ∃ n, n = fs.length := ⟨_, rfl⟩
          rw [← hn2] at hv2
          replace hn2 := hid hn2
          subst hv2
          replace r2 := hid r2
          refine wp_append_run (.tmp 9) (.tmp 10) 39 39 rfl (.slice (some ⟨g0, 0, none⟩) 0 0) (.slice la ln lc) (.slice a2 n2 c2) (by go_simp) (by go_simp) r2.out ?_
          go_simp
          refine hK.out _ _ A.out.lo (fun hS => ?_)
          clear hK K
          refine wpAnyH_ready (rs := [5]) (by kernel_rfl) (by simp) ?_
          refine AllReadyH.cons rfl (fun K hK => ?_) ?_
          · obtain ⟨v5, y5, r5, A5⟩ := A.out.app (one_sl (x := (⟨n, z, s, t, lo, hi⟩ : Fi)) kE.out hf.out) (by rw [← hln.out]; show (ln + 1) * 64 ≤ _; omega) (by rw [← hln.out]; omega)
            obtain ⟨g5, c5, hv5⟩ := A5.nn (by simp)
            rw [List.length_append, ← hln.out] at hv5
            change v5 = .slice (some ⟨g5, 0, none⟩) (ln + 1) c5 at hv5
            subst hv5
            replace A5 := hid A5
            replace r5 := hid r5
            refine wp_append_run (.tmp 11) (.tmp 13) 39 39 rfl (.slice a2 n2 c2) (.slice (some ⟨g4, 0, none⟩) 1 1) (.slice (some ⟨g5, 0, none⟩) (ln + 1) c5) (by go_simp) (by go_simp) r5.out ?_
            go_simp
            refine hK.out _ _ A5.out.lo (fun hS => ?_)
            clear hK K
            refine wpAnyH_take (i := 6) (v := ?v5) rfl (by kernel_rfl) (by kernel_rfl) (by kernel_rfl) (fun _ _ _ h => h) (Or.inl ⟨by rfl, ?h5⟩) hS ?_
            case h5 => (intro W hW; go_simp; try (with_reducible rfl))
            go_simp
            refine wpAnyH_done (by kernel_rfl) ?_ _
            go_wp2_with fail
            go_meet
            case rel => exact ⟨g5, c5, rfl, A5⟩
          exact AllReadyH.nil
        exact AllReadyH.nil
      exact AllReadyH.nil
    exact AllReadyH.nil
  case rest =>
    obtain ⟨g, c, rfl, A⟩ := hcut
    obtain ⟨w1, hw1⟩ : ∃ W, W = wc := ⟨_, rfl⟩
    rw [← hw1] at A ⊢
    clear hw1 wc
    have hc2 : ln + 1 ≤ c := by have := (Do.Acc.cap A.out).2; rw [List.length_append, ← hln.out] at this; simpa using this
    have hgg : Hid (gx ≠ g) := by have := (own_lt A.out.o g rfl).1; have := hgl.out; show _ ≠ _; omega
    go_wp2_with fail
    go_loopw [8] (fun kk wr => ∃ (k : Nat) (P R ys : List Fi), kk = .int .i64 k ∧ k ≤ ln ∧ Hid (P.length = k) ∧ Hid (Dw 0 fs (⟨n, z, s, t, lo, hi⟩ : Fi) P R ys) ∧ Hid (Acc eFi W1 wr (.slice (some ⟨g, 0, none⟩) (ln + 1) c) ys)) (fun kk _ => (intOf kk).toNat)
    case atStart => exact ⟨ln, fs, [], fs ++ [(⟨n, z, s, t, lo, hi⟩ : Fi)], by go_num, by omega, hln.out.symm, ⟨rfl, by simp, fun r hr => by cases hr⟩, A⟩
    case round =>
      clear A
      obtain ⟨k, P, R, ys, rfl, hk1, hPl, hD, A⟩ := hrel
      have kb := hk.out _ A.out.lo
      have b0 := cell_of kb 0 _ rfl
      have b1 := cell_of kb 1 _ rfl
      have b2 := cell_of kb 2 _ rfl
      have b3 := cell_of kb 3 _ rfl
      have b4 := cell_of kb 4 _ rfl
      have b5 := cell_of kb 5 _ rfl
      have hyl : Hid (ys.length = ln + 1) := by show _ = _; rw [hD.out.len, ← hln.out]
      by_cases hk0 : 0 < k
      · obtain ⟨P', p, hP'⟩ := snoc_ex (P := P) (by rw [hPl.out]; exact hk0)
        subst hP'
        obtain ⟨k', hk'⟩ : ∃ k', k = k' + 1 := ⟨k - 1, by omega⟩
        subst hk'
        have hP2 : Hid (P'.length = k') := by show _ = _; have := hPl.out; rw [List.length_append] at this; simpa using this
        have at1 := Acc.get A.out k' (by rw [hyl.out]; omega)
        have hp1 : ys.getD k' zf = p := by rw [hD.out.row, ← hP2.out]; simp
        rw [hp1] at at1
        obtain ⟨pn, pz, pa, pb, plo, phi⟩ := p
        obtain ⟨e0, e1, e2, e3, e4, e5⟩ := fi_at at1
        dsimp only at e0 e1 e2 e3 e4 e5
        have z1 : (0 : Int) < (k' : Int) + 1 := by omega
        have z2 : (k' : Int) < (ln : Int) + 1 := by omega
        have z3 : (0 : Int) ≤ (k' : Int) := by omega
        have z4 : (k' : Int) + 1 < (ln : Int) + 1 := by omega
        have z5 : (0 : Int) ≤ (k' : Int) + 1 := by omega
        have hlF : Hid (lF 0 (⟨n, z, s, t, lo, hi⟩ : Fi) ⟨pn, pz, pa, pb, plo, phi⟩ = decide (n < pn)) := lF_zero _ _
        have gi : binOp .gtr 3 (.int .i64 pn) (.int .i64 n) = pure (.bool (decide (n < pn))) := rfl
        generalize decide (n < pn) = cnd at *
        clear hp1 at1 kb
        cases cnd with
        | true =>
          have D2 := (hD.out.step hlF.out).1
          rw [hP2.out] at D2
          replace D2 := hid D2
          go_wp2_with fail
          go_quiet (fail)
          generalize hwd : World.drewN wr _ = wd at *
          have bq : Below wr.heap.size wr wd := by rw [← hwd]; exact drewN_below _ _
          have Aq := A.out.later bq
          have at2 := fi_at (Acc.get Aq (k' + 1) (by rw [hyl.out]; omega))
          have at3 := fi_at (Acc.get Aq k' (by rw [hyl.out]; omega))
          have hp1 : ys.getD k' zf = ⟨pn, pz, pa, pb, plo, phi⟩ := by rw [hD.out.row, ← hP2.out]; simp
          rw [hp1] at at3
          obtain ⟨y0, y1, y2, y3, y4, y5⟩ := at2
          obtain ⟨x0, x1, x2, x3, x4, x5⟩ := at3
          dsimp only at x0 x1 x2 x3 x4 x5
          have A1 := Acc.set Aq (k' + 1) ⟨pn, pz, pa, pb, plo, phi⟩
          have A2 := Acc.set A1 k' (⟨n, z, s, t, lo, hi⟩ : Fi)
          dsimp only at A1 A2
          have kc := hk.out _ A1.lo
          have f0 := Acc.fz Aq ((k' + 1) * 6 + 0)
          have f1 := Acc.fz Aq ((k' + 1) * 6 + 1)
          have f2 := Acc.fz Aq ((k' + 1) * 6 + 2)
          have f3 := Acc.fz Aq ((k' + 1) * 6 + 3)
          have f4 := Acc.fz Aq ((k' + 1) * 6 + 4)
          have f5 := Acc.fz Aq ((k' + 1) * 6 + 5)
          have w0 := hid (cell_of kc 0 _ rfl)
          have w1 := hid (cell_of kc 1 _ rfl)
          have w2 := hid (cell_of kc 2 _ rfl)
          have w3 := hid (cell_of kc 3 _ rfl)
          have w4 := hid (cell_of kc 4 _ rfl)
          have w5 := hid (cell_of kc 5 _ rfl)
          have at4 := hid (fi_at (Acc.get A1 k' (by rw [List.length_set, hyl.out]; omega)))
          have h0 := hid (Acc.fz A1 (k' * 6 + 0))
          have h1 := hid (Acc.fz A1 (k' * 6 + 1))
          have h2 := hid (Acc.fz A1 (k' * 6 + 2))
          have h3 := hid (Acc.fz A1 (k' * 6 + 3))
          have h4 := hid (Acc.fz A1 (k' * 6 + 4))
          have h5 := hid (Acc.fz A1 (k' * 6 + 5))
          replace A2 := hid A2
          obtain ⟨WB, hWB⟩ : ∃ W, W = six wd g ((k' + 1) * 6) (.int .i64 pn) (.int .i64 pz) (.string pa) (.string pb) (.int .u64 plo) (.int .u64 phi) := ⟨_, rfl⟩
          rw [← hWB] at A2 at4 w0 w1 w2 w3 w4 w5 h0 h1 h2 h3 h4 h5
          unfold six at hWB
          replace hWB := hid hWB
          simp only [Nat.add_zero] at f0
          clear b0 b1 b2 b3 b4 b5 e0 e1 e2 e3 e4 e5 hp1 kc A1 Aq hwd bq
          go_upto_region 5 with fail
          rw [← hWB.out]
          clear x0 x1 x2 x3 x4 x5 y0 y1 y2 y3 y4 y5 f0 f1 f2 f3 f4 f5
          obtain ⟨u0, u1, u2, u3, u4, u5⟩ := at4.out
          replace w0 := w0.out
          replace w1 := w1.out
          replace w2 := w2.out
          replace w3 := w3.out
          replace w4 := w4.out
          replace w5 := w5.out
          replace h0 := h0.out
          replace h1 := h1.out
          replace h2 := h2.out
          replace h3 := h3.out
          replace h4 := h4.out
          replace h5 := h5.out
          simp only [Nat.add_zero] at h0
          unfold six at A2
          clear at4 hWB
          go_wp2_with fail
          go_roundw
          case rel => exact ⟨k', P', _, _, by go_num, by omega, hP2, D2, A2⟩
          case measure => simp [intOf]
        | false =>
          have hd := hD.out.done hs.out (.inr ⟨P', _, rfl, hlF.out⟩)
          have hd1 := hid hd.1
          have hd2 := hid hd.2
          clear hd
          go_wp2_with fail
          go_quiet (fail)
          go_wp2_with fail
          go_ret
          exact ⟨g, c, ys, rfl, Acc.from_ (A.out.later (drewN_below _ _)) bx.out, hd1.out, hd2.out⟩
      · have hk1 : k = 0 := by omega
        subst hk1
        have hPn : P = [] := List.eq_nil_of_length_eq_zero hPl.out
        have hd := hD.out.done hs.out (.inl hPn)
        have hd1 := hid hd.1
        have hd2 := hid hd.2
        clear hd hPn
        go_wp2_with fail
        go_quiet (fail)
        go_wp2_with fail
        go_ret
        exact ⟨g, c, ys, rfl, Acc.from_ (A.out.later (drewN_below _ _)) bx.out, hd1.out, hd2.out⟩
set_option maxRecDepth 20000 in
set_option maxHeartbeats 2000000 in
theorem putn (lv : Nat) (hlv : 0 < lv) (la : Option Addr) (ln lc : Nat) (fs : List Fi) (n z : Int) (s t : ByteArray) (lo hi : Int) (w : World) (S : eFi.Sl w la ln lc fs) (hf : (⟨n, z, s, t, lo, hi⟩ : Fi).ok) (hn8 : ln ≤ 1048576) (hs : Srt lv fs) :
    Calls Try.prog 44 #[.slice la ln lc, .int .i64 (lv : Int), .agg #[.int .i64 n, .int .i64 z, .string s, .string t, .int .u64 lo, .int .u64 hi]] w fun e w' => ∃ g c ys, e = .returned (.slice (some ⟨g, 0, none⟩) (ln + 1) c) ∧ Acc eFi w w' (.slice (some ⟨g, 0, none⟩) (ln + 1) c) ys ∧ Srt lv ys ∧ ys.Perm (fs ++ [(⟨n, z, s, t, lo, hi⟩ : Fi)]) := by
  have hln := hid S.n.symm
  have hlc := S.c
  have HS : Hid (∀ W, Below w.heap.size w W → eFi.Sl W la ln lc fs) := fun W b => S.later b
  obtain ⟨gx, hgx⟩ : ∃ g, g = w.heap.size := ⟨_, rfl⟩
  obtain ⟨W1, hW1⟩ : ∃ W, W = w.alloc (.cells #[.int .i64 n, .int .i64 z, .string s, .string t, .int .u64 lo, .int .u64 hi] 43) := ⟨_, rfl⟩
  have kx : W1.heap[gx]? = some (.cells #[.int .i64 n, .int .i64 z, .string s, .string t, .int .u64 lo, .int .u64 hi] 43) := by rw [hW1, hgx]; exact new_at _ _
  have bx : Below w.heap.size w W1 := by rw [hW1]; exact box_below _ _
  have hk : Hid (∀ W, Below W1.heap.size W1 W → W.heap[gx]? = some (.cells #[.int .i64 n, .int .i64 z, .string s, .string t, .int .u64 lo, .int .u64 hi] 43)) := fun W b => (b.block _ (blk_lt kx)).trans kx
  have hgl : Hid (gx < W1.heap.size) := blk_lt kx
  replace bx := hid bx
  replace hW1 := hid hW1
  replace hgx := hid hgx
  replace hf := hid hf
  replace hs := hid hs
  clear S kx
  go_enter Try.func44, Try.ntmps44
  go_upto_region 1 with fail
  rw [← hW1.out, ← hgx.out]
  go_cut [7] from 9 to 14 (fun v wx => ∃ g c, v = .slice (some ⟨g, 0, none⟩) (ln + 1) c ∧ Hid (Acc eFi W1 wx (.slice (some ⟨g, 0, none⟩) (ln + 1) c) (fs ++ [(⟨n, z, s, t, lo, hi⟩ : Fi)])))
  case first =>
    refine wp_region_held_drew (S := fun V => Below W1.heap.size W1 V) (by kernel_rfl) (drew_below _) (fun hS => ?_)
    generalize World.drew W1 = D at *
    refine wpAnyH_take (i := 1) (v := ?v1) rfl (by kernel_rfl) (by kernel_rfl) (by kernel_rfl) (fun _ _ _ h => h) (Or.inl ⟨by rfl, ?h1⟩) hS ?_
    case h1 => (intro W hW; go_simp; try (with_reducible rfl))
    go_simp
    refine wpAnyH_take (i := 3) (v := ?v2) rfl (by kernel_rfl) (by kernel_rfl) (by kernel_rfl) (fun _ _ _ h => h) (Or.inl ⟨by rfl, ?h2⟩) hS ?_
    case h2 => (intro W hW; have q0 := cell_of (hk.out _ hW) 0 _ rfl; have q1 := cell_of (hk.out _ hW) 1 _ rfl; have q2 := cell_of (hk.out _ hW) 2 _ rfl; have q3 := cell_of (hk.out _ hW) 3 _ rfl; have q4 := cell_of (hk.out _ hW) 4 _ rfl; have q5 := cell_of (hk.out _ hW) 5 _ rfl; go_simp; try (with_reducible rfl))
    go_simp
    refine wpAnyH_ready (rs := [0, 4]) (by kernel_rfl) (by simp) ?_
    refine AllReadyH.cons rfl (fun K hK => ?_) ?_
    · go_simp
      have A := hid (Acc.made2 hS)
      have bb := box_below D (.cells #[] 43)
      have hS' := hid (Below.up hS bb)
      clear bb
      refine hK.out _ _ hS'.out (fun hS => ?_)
      clear hK K hS'
      generalize D.alloc (.cells #[] 43) = y0 at *
      generalize D.heap.size = g0 at *
      refine wpAnyH_ready (rs := [2, 4]) (by kernel_rfl) (by simp) ?_
      refine AllReadyH.cons rfl (fun K hK => ?_) ?_
      · obtain ⟨v2, y2, r2, o2, gr2, q2⟩ := El.app eFi y0 W1.heap.size _ _ A.out.o la ln lc fs (HS.out _ (Below.up bx.out hS)) (by show (0 + ln) * 64 ≤ _; omega) (by show 0 + ln ≤ _; omega) A.out.sz
        have A2 : Acc eFi W1 y2 v2 ([] ++ fs) := ⟨o2, below_grown A.out.lo A.out.sz gr2 (fun j hj => (own_lt A.out.o j hj).1)⟩
        rw [List.nil_append] at A2
        clear o2 gr2 q2 A
        have A := hid A2
        clear A2
        obtain ⟨a2, c2, hv2⟩ := A.out.shape
        obtain ⟨n2, hn2⟩ : ∃ n, n = fs.length := ⟨_, rfl⟩
        rw [← hn2] at hv2
        replace hn2 := hid hn2
        subst hv2
        replace r2 := hid r2
        refine wp_append_run (.tmp 9) (.tmp 10) 39 39 rfl (.slice (some ⟨g0, 0, none⟩) 0 0) (.slice la ln lc) (.slice a2 n2 c2) (by go_simp) (by go_simp) r2.out ?_
        go_simp
        refine hK.out _ _ A.out.lo (fun hS => ?_)
        clear hK K
        refine wpAnyH_ready (rs := [4]) (by kernel_rfl) (by simp) ?_
        refine AllReadyH.cons rfl (fun K hK => ?_) ?_
        · go_simp
          have kE := hid (new_at y2 (.cells #[.int .i64 n, .int .i64 z, .string s, .string t, .int .u64 lo, .int .u64 hi] 43))
          have bb := box_below y2 (.cells #[.int .i64 n, .int .i64 z, .string s, .string t, .int .u64 lo, .int .u64 hi] 43)
          have hS' := hid (Below.up hS bb)
          replace A := hid (A.out.later bb)
          clear bb
          refine hK.out _ _ hS'.out (fun hS => ?_)
          clear hK K hS'
          generalize y2.alloc (.cells #[.int .i64 n, .int .i64 z, .string s, .string t, .int .u64 lo, .int .u64 hi] 43) = y4 at *
          generalize y2.heap.size = g4 at *
          refine wpAnyH_ready (rs := [5]) (by kernel_rfl) (by simp) ?_
          refine AllReadyH.cons rfl (fun K hK => ?_) ?_
          · obtain ⟨v5, y5, r5, A5⟩ := A.out.app (one_sl (x := (⟨n, z, s, t, lo, hi⟩ : Fi)) kE.out hf.out) (by rw [← hln.out]; show (ln + 1) * 64 ≤ _; omega) (by rw [← hln.out]; omega)
            obtain ⟨g5, c5, hv5⟩ := A5.nn (by simp)
            rw [List.length_append, ← hln.out] at hv5
            change v5 = .slice (some ⟨g5, 0, none⟩) (ln + 1) c5 at hv5
            subst hv5
            replace A5 := hid A5
            replace r5 := hid r5
            refine wp_append_run (.tmp 11) (.tmp 13) 39 39 rfl (.slice a2 n2 c2) (.slice (some ⟨g4, 0, none⟩) 1 1) (.slice (some ⟨g5, 0, none⟩) (ln + 1) c5) (by go_simp) (by go_simp) r5.out ?_
            go_simp
            refine hK.out _ _ A5.out.lo (fun hS => ?_)
            clear hK K
            refine wpAnyH_take (i := 6) (v := ?v3) rfl (by kernel_rfl) (by kernel_rfl) (by kernel_rfl) (fun _ _ _ h => h) (Or.inl ⟨by rfl, ?h3⟩) hS ?_
            case h3 => (intro W hW; go_simp; try (with_reducible rfl))
            go_simp
            refine wpAnyH_done (by kernel_rfl) ?_ _
            go_wp2_with fail
            go_meet
            case rel => exact ⟨g5, c5, rfl, A5⟩
          exact AllReadyH.nil
        exact AllReadyH.nil
      refine AllReadyH.cons rfl (fun K hK => ?_) ?_
      · go_simp
        have kE := hid (new_at y0 (.cells #[.int .i64 n, .int .i64 z, .string s, .string t, .int .u64 lo, .int .u64 hi] 43))
        have bb := box_below y0 (.cells #[.int .i64 n, .int .i64 z, .string s, .string t, .int .u64 lo, .int .u64 hi] 43)
        have hS' := hid (Below.up hS bb)
        have hlt := hid (own_lt A.out.o g0 rfl).2
        replace A := hid (A.out.later bb)
        clear bb
        refine hK.out _ _ hS'.out (fun hS => ?_)
        clear hK K hS'
        generalize y0.alloc (.cells #[.int .i64 n, .int .i64 z, .string s, .string t, .int .u64 lo, .int .u64 hi] 43) = y4 at *
        generalize y0.heap.size = g4 at *
        have hne : Hid (g4 ≠ g0) := (by have := hlt.out; show _ ≠ _; omega)
        refine wpAnyH_ready (rs := [2]) (by kernel_rfl) (by simp) ?_
        refine AllReadyH.cons rfl (fun K hK => ?_) ?_
        · obtain ⟨v2, y2, r2, o2, gr2, q2⟩ := El.app eFi y4 W1.heap.size _ _ A.out.o la ln lc fs (HS.out _ (Below.up bx.out hS)) (by show (0 + ln) * 64 ≤ _; omega) (by show 0 + ln ≤ _; omega) A.out.sz
          have A2 : Acc eFi W1 y2 v2 ([] ++ fs) := ⟨o2, below_grown A.out.lo A.out.sz gr2 (fun j hj => (own_lt A.out.o j hj).1)⟩
          rw [List.nil_append] at A2
          replace kE := hid ((gr2.block _ (blk_lt kE.out) (fun e => hne.out (Option.some.inj e))).trans kE.out)
          clear o2 gr2 q2 A
          have A := hid A2
          clear A2
          obtain ⟨a2, c2, hv2⟩ := A.out.shape
          obtain ⟨n2, hn2⟩ : ∃ n, n = fs.length := ⟨_, rfl⟩
          rw [← hn2] at hv2
          replace hn2 := hid hn2
          subst hv2
          replace r2 := hid r2
          refine wp_append_run (.tmp 9) (.tmp 10) 39 39 rfl (.slice (some ⟨g0, 0, none⟩) 0 0) (.slice la ln lc) (.slice a2 n2 c2) (by go_simp) (by go_simp) r2.out ?_
          go_simp
          refine hK.out _ _ A.out.lo (fun hS => ?_)
          clear hK K
          refine wpAnyH_ready (rs := [5]) (by kernel_rfl) (by simp) ?_
          refine AllReadyH.cons rfl (fun K hK => ?_) ?_
          · obtain ⟨v5, y5, r5, A5⟩ := A.out.app (one_sl (x := (⟨n, z, s, t, lo, hi⟩ : Fi)) kE.out hf.out) (by rw [← hln.out]; show (ln + 1) * 64 ≤ _; omega) (by rw [← hln.out]; omega)
            obtain ⟨g5, c5, hv5⟩ := A5.nn (by simp)
            rw [List.length_append, ← hln.out] at hv5
            change v5 = .slice (some ⟨g5, 0, none⟩) (ln + 1) c5 at hv5
            subst hv5
            replace A5 := hid A5
            replace r5 := hid r5
            refine wp_append_run (.tmp 11) (.tmp 13) 39 39 rfl (.slice a2 n2 c2) (.slice (some ⟨g4, 0, none⟩) 1 1) (.slice (some ⟨g5, 0, none⟩) (ln + 1) c5) (by go_simp) (by go_simp) r5.out ?_
            go_simp
            refine hK.out _ _ A5.out.lo (fun hS => ?_)
            clear hK K
            refine wpAnyH_take (i := 6) (v := ?v4) rfl (by kernel_rfl) (by kernel_rfl) (by kernel_rfl) (fun _ _ _ h => h) (Or.inl ⟨by rfl, ?h4⟩) hS ?_
            case h4 => (intro W hW; go_simp; try (with_reducible rfl))
            go_simp
            refine wpAnyH_done (by kernel_rfl) ?_ _
            go_wp2_with fail
            go_meet
            case rel => exact ⟨g5, c5, rfl, A5⟩
          exact AllReadyH.nil
        exact AllReadyH.nil
      exact AllReadyH.nil
    refine AllReadyH.cons rfl (fun K hK => ?_) ?_
    · go_simp
      have kE := hid (new_at D (.cells #[.int .i64 n, .int .i64 z, .string s, .string t, .int .u64 lo, .int .u64 hi] 43))
      have bb := box_below D (.cells #[.int .i64 n, .int .i64 z, .string s, .string t, .int .u64 lo, .int .u64 hi] 43)
      have hS' := hid (Below.up hS bb)
      clear bb
      refine hK.out _ _ hS'.out (fun hS => ?_)
      clear hK K hS'
      generalize D.alloc (.cells #[.int .i64 n, .int .i64 z, .string s, .string t, .int .u64 lo, .int .u64 hi] 43) = y4 at *
      generalize D.heap.size = g4 at *
      refine wpAnyH_ready (rs := [0]) (by kernel_rfl) (by simp) ?_
      refine AllReadyH.cons rfl (fun K hK => ?_) ?_
      · go_simp
        have A := hid (Acc.made2 hS)
        have bb := box_below y4 (.cells #[] 43)
        have hS' := hid (Below.up hS bb)
        have hlt := hid (blk_lt kE.out)
        replace kE := hid ((bb.block _ (blk_lt kE.out)).trans kE.out)
        clear bb
        refine hK.out _ _ hS'.out (fun hS => ?_)
        clear hK K hS'
        generalize y4.alloc (.cells #[] 43) = y0 at *
        generalize y4.heap.size = g0 at *
        have hne : Hid (g4 ≠ g0) := (by have := hlt.out; show _ ≠ _; omega)
        refine wpAnyH_ready (rs := [2]) (by kernel_rfl) (by simp) ?_
        refine AllReadyH.cons rfl (fun K hK => ?_) ?_
        · obtain ⟨v2, y2, r2, o2, gr2, q2⟩ := El.app eFi y0 W1.heap.size _ _ A.out.o la ln lc fs (HS.out _ (Below.up bx.out hS)) (by show (0 + ln) * 64 ≤ _; omega) (by show 0 + ln ≤ _; omega) A.out.sz
          have A2 : Acc eFi W1 y2 v2 ([] ++ fs) := ⟨o2, below_grown A.out.lo A.out.sz gr2 (fun j hj => (own_lt A.out.o j hj).1)⟩
          rw [List.nil_append] at A2
          replace kE := hid ((gr2.block _ (blk_lt kE.out) (fun e => hne.out (Option.some.inj e))).trans kE.out)
          clear o2 gr2 q2 A
          have A := hid A2
          clear A2
          obtain ⟨a2, c2, hv2⟩ := A.out.shape
          obtain ⟨n2, hn2⟩ : ∃ n, n = fs.length := ⟨_, rfl⟩
          rw [← hn2] at hv2
          replace hn2 := hid hn2
          subst hv2
          replace r2 := hid r2
          refine wp_append_run (.tmp 9) (.tmp 10) 39 39 rfl (.slice (some ⟨g0, 0, none⟩) 0 0) (.slice la ln lc) (.slice a2 n2 c2) (by go_simp) (by go_simp) r2.out ?_
          go_simp
          refine hK.out _ _ A.out.lo (fun hS => ?_)
          clear hK K
          refine wpAnyH_ready (rs := [5]) (by kernel_rfl) (by simp) ?_
          refine AllReadyH.cons rfl (fun K hK => ?_) ?_
          · obtain ⟨v5, y5, r5, A5⟩ := A.out.app (one_sl (x := (⟨n, z, s, t, lo, hi⟩ : Fi)) kE.out hf.out) (by rw [← hln.out]; show (ln + 1) * 64 ≤ _; omega) (by rw [← hln.out]; omega)
            obtain ⟨g5, c5, hv5⟩ := A5.nn (by simp)
            rw [List.length_append, ← hln.out] at hv5
            change v5 = .slice (some ⟨g5, 0, none⟩) (ln + 1) c5 at hv5
            subst hv5
            replace A5 := hid A5
            replace r5 := hid r5
            refine wp_append_run (.tmp 11) (.tmp 13) 39 39 rfl (.slice a2 n2 c2) (.slice (some ⟨g4, 0, none⟩) 1 1) (.slice (some ⟨g5, 0, none⟩) (ln + 1) c5) (by go_simp) (by go_simp) r5.out ?_
            go_simp
            refine hK.out _ _ A5.out.lo (fun hS => ?_)
            clear hK K
            refine wpAnyH_take (i := 6) (v := ?v5) rfl (by kernel_rfl) (by kernel_rfl) (by kernel_rfl) (fun _ _ _ h => h) (Or.inl ⟨by rfl, ?h5⟩) hS ?_
            case h5 => (intro W hW; go_simp; try (with_reducible rfl))
            go_simp
            refine wpAnyH_done (by kernel_rfl) ?_ _
            go_wp2_with fail
            go_meet
            case rel => exact ⟨g5, c5, rfl, A5⟩
          exact AllReadyH.nil
        exact AllReadyH.nil
      exact AllReadyH.nil
    exact AllReadyH.nil
  case rest =>
    obtain ⟨g, c, rfl, A⟩ := hcut
    obtain ⟨w1, hw1⟩ : ∃ W, W = wc := ⟨_, rfl⟩
    rw [← hw1] at A ⊢
    clear hw1 wc
    have hc2 : ln + 1 ≤ c := by have := (Do.Acc.cap A.out).2; rw [List.length_append, ← hln.out] at this; simpa using this
    have hgg : Hid (gx ≠ g) := by have := (own_lt A.out.o g rfl).1; have := hgl.out; show _ ≠ _; omega
    have hb : ((lv : Int) == 0) = false := by rw [beq_eq_false_iff_ne]; omega
    have hd : decide ((0 : Int) < (lv : Int)) = true := decide_eq_true (by omega)
    go_wp2_with fail
    go_loopw [8] (fun kk wr => ∃ (k : Nat) (P R ys : List Fi), kk = .int .i64 k ∧ k ≤ ln ∧ Hid (P.length = k) ∧ Hid (Dw lv fs (⟨n, z, s, t, lo, hi⟩ : Fi) P R ys) ∧ Hid (Acc eFi W1 wr (.slice (some ⟨g, 0, none⟩) (ln + 1) c) ys)) (fun kk _ => (intOf kk).toNat)
    case atStart => exact ⟨ln, fs, [], fs ++ [(⟨n, z, s, t, lo, hi⟩ : Fi)], by go_num, by omega, hln.out.symm, ⟨rfl, by simp, fun r hr => by cases hr⟩, A⟩
    case round =>
      clear A
      obtain ⟨k, P, R, ys, rfl, hk1, hPl, hD, A⟩ := hrel
      have kb := hk.out _ A.out.lo
      have b0 := cell_of kb 0 _ rfl
      have b1 := cell_of kb 1 _ rfl
      have b2 := cell_of kb 2 _ rfl
      have b3 := cell_of kb 3 _ rfl
      have b4 := cell_of kb 4 _ rfl
      have b5 := cell_of kb 5 _ rfl
      have hyl : Hid (ys.length = ln + 1) := by show _ = _; rw [hD.out.len, ← hln.out]
      by_cases hk0 : 0 < k
      · obtain ⟨P', p, hP'⟩ := snoc_ex (P := P) (by rw [hPl.out]; exact hk0)
        subst hP'
        obtain ⟨k', hk'⟩ : ∃ k', k = k' + 1 := ⟨k - 1, by omega⟩
        subst hk'
        have hP2 : Hid (P'.length = k') := by show _ = _; have := hPl.out; rw [List.length_append] at this; simpa using this
        have at1 := Acc.get A.out k' (by rw [hyl.out]; omega)
        have hp1 : ys.getD k' zf = p := by rw [hD.out.row, ← hP2.out]; simp
        rw [hp1] at at1
        obtain ⟨pn, pz, pa, pb, plo, phi⟩ := p
        obtain ⟨e0, e1, e2, e3, e4, e5⟩ := fi_at at1
        dsimp only at e0 e1 e2 e3 e4 e5
        have z1 : (0 : Int) < (k' : Int) + 1 := by omega
        have z2 : (k' : Int) < (ln : Int) + 1 := by omega
        have z3 : (0 : Int) ≤ (k' : Int) := by omega
        have z4 : (k' : Int) + 1 < (ln : Int) + 1 := by omega
        have z5 : (0 : Int) ≤ (k' : Int) + 1 := by omega
        have hlF : Hid (lF lv (⟨n, z, s, t, lo, hi⟩ : Fi) ⟨pn, pz, pa, pb, plo, phi⟩ = lt s pa) := lF_pos hlv _ _
        have gs := Lx.gtr_s 9 pa s
        change binOp .gtr 9 (.string pa) (.string s) = pure (.bool (lt s pa)) at gs
        generalize lt s pa = cnd at *
        clear hp1 at1 kb
        cases cnd with
        | true =>
          have D2 := (hD.out.step hlF.out).1
          rw [hP2.out] at D2
          replace D2 := hid D2
          go_wp2_with fail
          go_quiet (fail)
          generalize hwd : World.drewN wr _ = wd at *
          have bq : Below wr.heap.size wr wd := by rw [← hwd]; exact drewN_below _ _
          have Aq := A.out.later bq
          have at2 := fi_at (Acc.get Aq (k' + 1) (by rw [hyl.out]; omega))
          have at3 := fi_at (Acc.get Aq k' (by rw [hyl.out]; omega))
          have hp1 : ys.getD k' zf = ⟨pn, pz, pa, pb, plo, phi⟩ := by rw [hD.out.row, ← hP2.out]; simp
          rw [hp1] at at3
          obtain ⟨y0, y1, y2, y3, y4, y5⟩ := at2
          obtain ⟨x0, x1, x2, x3, x4, x5⟩ := at3
          dsimp only at x0 x1 x2 x3 x4 x5
          have A1 := Acc.set Aq (k' + 1) ⟨pn, pz, pa, pb, plo, phi⟩
          have A2 := Acc.set A1 k' (⟨n, z, s, t, lo, hi⟩ : Fi)
          dsimp only at A1 A2
          have kc := hk.out _ A1.lo
          have f0 := Acc.fz Aq ((k' + 1) * 6 + 0)
          have f1 := Acc.fz Aq ((k' + 1) * 6 + 1)
          have f2 := Acc.fz Aq ((k' + 1) * 6 + 2)
          have f3 := Acc.fz Aq ((k' + 1) * 6 + 3)
          have f4 := Acc.fz Aq ((k' + 1) * 6 + 4)
          have f5 := Acc.fz Aq ((k' + 1) * 6 + 5)
          have w0 := hid (cell_of kc 0 _ rfl)
          have w1 := hid (cell_of kc 1 _ rfl)
          have w2 := hid (cell_of kc 2 _ rfl)
          have w3 := hid (cell_of kc 3 _ rfl)
          have w4 := hid (cell_of kc 4 _ rfl)
          have w5 := hid (cell_of kc 5 _ rfl)
          have at4 := hid (fi_at (Acc.get A1 k' (by rw [List.length_set, hyl.out]; omega)))
          have h0 := hid (Acc.fz A1 (k' * 6 + 0))
          have h1 := hid (Acc.fz A1 (k' * 6 + 1))
          have h2 := hid (Acc.fz A1 (k' * 6 + 2))
          have h3 := hid (Acc.fz A1 (k' * 6 + 3))
          have h4 := hid (Acc.fz A1 (k' * 6 + 4))
          have h5 := hid (Acc.fz A1 (k' * 6 + 5))
          replace A2 := hid A2
          obtain ⟨WB, hWB⟩ : ∃ W, W = six wd g ((k' + 1) * 6) (.int .i64 pn) (.int .i64 pz) (.string pa) (.string pb) (.int .u64 plo) (.int .u64 phi) := ⟨_, rfl⟩
          rw [← hWB] at A2 at4 w0 w1 w2 w3 w4 w5 h0 h1 h2 h3 h4 h5
          unfold six at hWB
          replace hWB := hid hWB
          simp only [Nat.add_zero] at f0
          clear b0 b1 b2 b3 b4 b5 e0 e1 e2 e3 e4 e5 hp1 kc A1 Aq hwd bq
          go_upto_region 5 with fail
          rw [← hWB.out]
          clear x0 x1 x2 x3 x4 x5 y0 y1 y2 y3 y4 y5 f0 f1 f2 f3 f4 f5
          obtain ⟨u0, u1, u2, u3, u4, u5⟩ := at4.out
          replace w0 := w0.out
          replace w1 := w1.out
          replace w2 := w2.out
          replace w3 := w3.out
          replace w4 := w4.out
          replace w5 := w5.out
          replace h0 := h0.out
          replace h1 := h1.out
          replace h2 := h2.out
          replace h3 := h3.out
          replace h4 := h4.out
          replace h5 := h5.out
          simp only [Nat.add_zero] at h0
          unfold six at A2
          clear at4 hWB
          go_wp2_with fail
          go_roundw
          case rel => exact ⟨k', P', _, _, by go_num, by omega, hP2, D2, A2⟩
          case measure => simp [intOf]
        | false =>
          have hd := hD.out.done hs.out (.inr ⟨P', _, rfl, hlF.out⟩)
          have hd1 := hid hd.1
          have hd2 := hid hd.2
          clear hd
          go_wp2_with fail
          go_quiet (fail)
          go_wp2_with fail
          go_ret
          exact ⟨g, c, ys, rfl, Acc.from_ (A.out.later (drewN_below _ _)) bx.out, hd1.out, hd2.out⟩
      · have hk1 : k = 0 := by omega
        subst hk1
        have hPn : P = [] := List.eq_nil_of_length_eq_zero hPl.out
        have hd := hD.out.done hs.out (.inl hPn)
        have hd1 := hid hd.1
        have hd2 := hid hd.2
        clear hd hPn
        go_wp2_with fail
        go_quiet (fail)
        go_wp2_with fail
        go_ret
        exact ⟨g, c, ys, rfl, Acc.from_ (A.out.later (drewN_below _ _)) bx.out, hd1.out, hd2.out⟩
theorem rput_any (lv : Nat) (la : Option Addr) (ln lc : Nat) (fs : List Fi) (f : Fi) (w : World) (S : eFi.Sl w la ln lc fs) (hf : f.ok) (hn8 : ln ≤ 1048576) (hs : Srt lv fs) :
    Calls Try.prog 44 #[.slice la ln lc, .int .i64 (lv : Int), fv f] w fun e w' => ∃ g c ys, e = .returned (.slice (some ⟨g, 0, none⟩) (ln + 1) c) ∧ Acc eFi w w' (.slice (some ⟨g, 0, none⟩) (ln + 1) c) ys ∧ Srt lv ys ∧ ys.Perm (fs ++ [f]) := by
  obtain ⟨n, z, s, t, lo, hi⟩ := f
  by_cases h : lv = 0
  · subst h; exact put0 la ln lc fs n z s t lo hi w S hf hn8 hs
  · exact putn lv (by omega) la ln lc fs n z s t lo hi w S hf hn8 hs
end Go.Proofs.Ytkpihibeohjfnaa.Pu

/- The document's disk: Clone, Same. -/
import Derived.Test.YtgffojafdjcdoaaQe
import Derived.Laws.StructEq
namespace Go.Proofs.Ytgffojafdjcdoaa.Qo
open Go.ChangeShapes Go.WideShapes Go.ChangeAt Go.RowKit Go.Maps
open Go.Sort (grow)
open Go.Proofs.Ytgffojafdjcdoaa.By
open Go.Proofs.Ytgffojafdjcdoaa.Dk
open Go.Proofs.Ytgffojafdjcdoaa.Ap (wpList_append_run)
open Go.Proofs.Ytgffojafdjcdoaa.Pd
open Go.Proofs.Ytgffojafdjcdoaa.Qa
open Go.Proofs.Ytgffojafdjcdoaa.Qb
open Go.Proofs.Ytgffojafdjcdoaa.Qc
set_option linter.unusedVariables false
set_option linter.unusedSimpArgs false
theorem src_all {w : World} {base : Nat} {a : Option Addr} {c : Nat} {rs : List RF} (O : OwnF w base (.slice a rs.length c) rs) : Srcs w (.slice a rs.length c) rs.length rs := by
  rcases O.2 with ⟨e, h0⟩ | ⟨g, cap, cur, e, hb, hg, hn, hm, hs, ht⟩
  · exact .inl ⟨e, h0, List.eq_nil_of_length_eq_zero h0⟩
  · simp only [Value.slice.injEq] at e
    obtain ⟨rfl, _, rfl⟩ := e
    refine .inr ⟨_, _, rfl, rfl, fun j y hj => ?_⟩
    have hj2 := (List.getElem?_eq_some_iff.1 hj).1
    rw [rc_len] at hj2
    rw [show (⟨g, 0, none⟩ : Addr).add j = ⟨g, j, none⟩ by unfold Addr.add; split <;> simp_all, World.ownsRow.cellAt O j hj2]
    exact hj
set_option maxHeartbeats 4000000 in
set_option maxRecDepth 100000 in
theorem rclone_any {base g : Nat} {v : Value} {P : Nat → Prop} {R : RS} (w : World) (H : RDk w base g v P R) (hok : RS.ok R) : Calls Try.prog 15 #[.pointer (some ⟨g, 0, none⟩)] w fun e w' => e = .returned (.pointer (some ⟨w.heap.size, 0, none⟩)) ∧ (∃ v', RDk w' w.heap.size w.heap.size v' (fun j => w.heap.size ≤ j ∧ j < w'.heap.size) R) ∧ Below w.heap.size w w' := by
  have hlen := hok.len
  obtain ⟨a, c, rfl, hnc, _, _⟩ := H.own.shape
  obtain ⟨gc, hgc⟩ : ∃ n, w.heap.size = n := ⟨_, rfl⟩
  obtain ⟨W1, eW1⟩ : ∃ W, w.alloc (.cells #[.slice a R.rs.length c, .int .i64 R.q, .int .i64 R.af, .int .i64 R.ct, .int .i64 R.rf] 69) = W := ⟨_, rfl⟩
  have k1 : W1.heap[gc]? = some (.cells #[.slice a R.rs.length c, .int .i64 R.q, .int .i64 R.af, .int .i64 R.ct, .int .i64 R.rf] 69) := by rw [← eW1, ← hgc]; exact new_at _ _
  have b1 : Below w.heap.size w W1 := by rw [← eW1]; exact box_below _ _
  have s1 : W1.heap.size = gc + 1 := by rw [← eW1, size_alloc, hgc]
  have H1 := H.later b1
  have b8 := box_below W1 (.cells #[] 88)
  have H8 := H1.later b8
  have E8 : OwnF (W1.alloc (.cells #[] 88)) W1.heap.size (.slice (some ⟨W1.heap.size, 0, none⟩) 0 0) [] := World.ownsRow_made W1 #[] 0 (Nat.le_refl _) (by decide) rfl
  obtain ⟨v9, W9, r9, o9, g9, n9⟩ := app_files (W1.alloc (.cells #[] 88)) W1.heap.size _ [] _ R.rs.length R.rs E8 (src_all H8.own) (by simp) (by simp; omega) b8.size
  rw [List.nil_append] at o9
  have B9 : Below W1.heap.size W1 W9 := b8.grown g9 b8.size (fun k hk => by cases hk; exact Nat.le_refl _)
  obtain ⟨a9, c9, rfl, _⟩ := o9.shape
  have k9 := (B9.block gc (by omega)).trans k1
  have BB : Below w.heap.size w W9 := b1.trans (B9.mono b1.size)
  have hs9 : (W9.setCell ⟨gc, 0, none⟩ (.slice a9 R.rs.length c9)).heap.size = W9.heap.size := by simp
  have FR : Hid (RDk (W9.setCell ⟨gc, 0, none⟩ (.slice a9 R.rs.length c9)) gc gc (.slice a9 R.rs.length c9) (fun j => gc ≤ j ∧ j < (W9.setCell ⟨gc, 0, none⟩ (.slice a9 R.rs.length c9)).heap.size) R) := by
    have l9 : ∀ j, (Value.slice a9 R.rs.length c9).ownBlock = some j → gc < j ∧ j < W9.heap.size := fun j hj => by have := World.ownsRow.lt o9 j hj; omega
    have O9g : OwnF W9 gc (.slice a9 R.rs.length c9) R.rs := Cl.own_base o9 (by omega)
    refine ⟨by rw [set_of k9 0 _]; rfl, O9g.blk (fun j hj => set_ne _ _ _ _ _ (fun e => by have := l9 j hj; omega)), ⟨Nat.le_refl _, by rw [hs9]; exact blk_lt k9⟩, fun j hj => ⟨by have := l9 j hj; omega, by rw [hs9]; exact (l9 j hj).2⟩, fun j hj => ⟨hj.1, hj.2⟩⟩
  have FB : Hid (Below gc w (W9.setCell ⟨gc, 0, none⟩ (.slice a9 R.rs.length c9))) := by
    have := BB.setCell (p := ⟨gc, 0, none⟩) (Nat.le_of_eq hgc) (.slice a9 R.rs.length c9)
    rw [hgc] at this
    exact this
  have c0 := H.cell 0 _ rfl
  have c1 := H.cell 1 _ rfl
  have c2 := H.cell 2 _ rfl
  have c3 := H.cell 3 _ rfl
  have c4 := H.cell 4 _ rfl
  have d0 : (W1.alloc (.cells #[] 88)).cell? ⟨g, 0, none⟩ = some (.slice a R.rs.length c) := H8.cell 0 _ rfl
  have e0 := cell_of k9 0 _ rfl
  have f0 := fz_of k9 0
  obtain ⟨N, hN⟩ : ∃ N, N = R.rs.length := ⟨_, rfl⟩
  rw [← hN] at c0 d0 e0 r9 FR FB eW1
  replace hN := hid hN
  replace r9 := hid r9
  rw [hgc]
  clear H H1 H8 k1 b1 b8 E8 o9 g9 n9 B9 k9 BB hs9 s1
  go_enter Try.func15, Try.ntmps15
  go_wp2_with (at_builtin; refine wpList_append_run (by rfl) (.tmp 9) (.tmp 13) 67 67 rfl (.slice (some ⟨W1.heap.size, 0, none⟩) 0 0) (.slice a N c) (.slice a9 N c9) (by rfl) (by rfl) r9.out ?_)
  go_ret
  exact ⟨rfl, ⟨_, FR.out⟩, FB.out⟩
set_option maxHeartbeats 8000000 in
set_option maxRecDepth 100000 in
theorem rsame_any {base g base2 g2 : Nat} {v v2 : Value} {P P2 : Nat → Prop} {R R2 : RS} (z : Bool) (hz : z = true ↔ R.rs = R2.rs) (w : World) (H : RDk w base g v P R) (H2 : RDk w base2 g2 v2 P2 R2) (hok : RS.ok R) (hok2 : RS.ok R2) : Calls Try.prog 17 #[.pointer (some ⟨g, 0, none⟩), .pointer (some ⟨g2, 0, none⟩)] w fun e w' => e = .returned (.bool z) ∧ Below w.heap.size w w' := by
  have hlen := hok.len
  have hlen2 := hok2.len
  obtain ⟨a, c, rfl, hnc, hsome, _⟩ := H.own.shape
  obtain ⟨a2, c2, rfl, hnc2, hsome2, _⟩ := H2.own.shape
  have HP : Hid (∀ W, Below w.heap.size w W → OwnF W base (.slice a R.rs.length c) R.rs ∧ OwnF W base2 (.slice a2 R2.rs.length c2) R2.rs ∧ W.cell? ⟨g, 0, none⟩ = some (.slice a R.rs.length c) ∧ W.cell? ⟨g2, 0, none⟩ = some (.slice a2 R2.rs.length c2)) := fun W b => ⟨(H.later b).own, (H2.later b).own, (H.later b).cell 0 _ rfl, (H2.later b).cell 0 _ rfl⟩
  obtain ⟨N, hN⟩ : ∃ N, N = R.rs.length := ⟨_, rfl⟩
  obtain ⟨M, hM⟩ : ∃ M, M = R2.rs.length := ⟨_, rfl⟩
  rw [← hN] at hlen hsome
  rw [← hM] at hlen2 hsome2
  have i64 : (N : Int) ≤ 4096 := by omega
  have j64 : (M : Int) ≤ 4096 := by omega
  obtain ⟨_, _, p1, p2⟩ := HP.out w (Below.refl _ _)
  rw [← hN] at p1
  rw [← hM] at p2
  replace hsome := hid hsome
  replace hsome2 := hid hsome2
  replace hz := hid hz
  by_cases hNM : N = M
  · have hnm : ((N : Int) == (M : Int)) = true := by rw [hNM]; simp
    obtain ⟨M', hM'⟩ : ∃ M', M' = M := ⟨_, rfl⟩
    have hMR : R2.rs.length = N := by rw [← hM, hNM]
    rw [← hNM] at p2
    replace hN := hid hN
    replace hM := hid hM
    replace hNM := hid hNM
    replace hMR := hid hMR
    clear H H2 hok hok2 hM' M'
    go_enter Try.func17, Try.ntmps17
    go_wp2_with fail
    go_quiet (fail)
    generalize hq : World.drewN w _ = w1 at *
    have B1 : Hid (Below w.heap.size w w1) := by rw [← hq]; exact drewN_below _ _
    clear hq p1 p2
    go_wp2_with fail
    go_loopw [5] (fun iv wr => ∃ i : Nat, i ≤ N ∧ iv = .int .i64 (i : Int) ∧ Hid (R.rs.take i = R2.rs.take i) ∧ Hid (Below w.heap.size w wr)) (fun iv _ => N - (intOf iv).toNat)
    case atStart => exact ⟨0, Nat.zero_le _, rfl, rfl, B1⟩
    case round =>
      obtain ⟨i, hi, rfl, HT, HB⟩ := hrel
      obtain ⟨o1, o2, q1, q2⟩ := HP.out wr HB.out
      rw [← hN.out] at q1
      rw [hMR.out] at q2
      by_cases hiN : i < N
      · obtain ⟨⟨xn, xb, xk⟩, hx⟩ : ∃ x, R.rs[i]? = some x := ⟨_, List.getElem?_eq_getElem (by have := hN.out; omega)⟩
        obtain ⟨⟨yn, yb, yk⟩, hy⟩ : ∃ y, R2.rs[i]? = some y := ⟨_, List.getElem?_eq_getElem (by have := hMR.out; omega)⟩
        obtain ⟨gv, rfl⟩ := hsome.out (by omega)
        obtain ⟨gv2, rfl⟩ := hsome2.out (by have := hNM.out; omega)
        obtain ⟨k0, k1, k2⟩ := o1.cells i _ hx
        obtain ⟨l0, l1, l2⟩ := o2.cells i _ hy
        have i1 : (i : Int) < (N : Int) := by omega
        have hwr : IntKind.i64.wrap ((i : Int) + 1) = ((i + 1 : Nat) : Int) := by rw [IntKind.wrap_i64]; omega
        have BD : Hid (∀ n, Below w.heap.size w (wr.drewN n)) := fun n => HB.out.trans ((drewN_below wr n).mono HB.out.size)
        by_cases hxy : xn = yn ∧ xb = yb ∧ xk = yk
        · obtain ⟨rfl, rfl, rfl⟩ := hxy
          have HT2 : Hid (R.rs.take (i + 1) = R2.rs.take (i + 1)) := by show _ = _; rw [take_snoc hx, take_snoc hy, HT.out]
          clear HT HB o1 o2 hx hy
          go_wp2_with fail
          go_quiet (fail)
          go_wp2_with fail
          refine ⟨⟨i + 1, by omega, by first | rfl | go_num, HT2, BD.out _⟩, ?_⟩
          simp only [intOf]; omega
        · have hzf : z = false := by
            cases z with
            | false => rfl
            | true =>
              have := hz.out.1 rfl
              rw [this, hy] at hx
              have := Option.some.inj hx
              exact absurd (by cases this; exact ⟨rfl, rfl, rfl⟩) hxy
          have hne : (xn.toList == yn.toList && xb.toList == yb.toList && ((xk : Int) == (yk : Int))) = false := by
            refine Bool.eq_false_iff.2 fun hh => hxy ?_
            simp only [Bool.and_eq_true, beq_iff_eq] at hh
            exact ⟨Lx.toList_inj hh.1.1, Lx.toList_inj hh.1.2, by omega⟩
          subst hzf
          clear HT HB o1 o2 hx hy
          by_cases h1 : xn = yn
          · subst h1
            by_cases h2 : xb = yb
            · subst h2
              have h3 : ((xk : Int) == (yk : Int)) = false := beq_eq_false_iff_ne.2 (fun e => hxy ⟨rfl, rfl, by omega⟩)
              have h4 : ¬ xk = yk := fun e => hxy ⟨rfl, rfl, e⟩
              go_wp2_with fail
              go_quiet (fail)
              go_wp2_with fail
              go_ret
              exact ⟨rfl, BD.out _⟩
            · have h3 : (xb.toList == yb.toList) = false := beq_eq_false_iff_ne.2 (fun e => h2 (Lx.toList_inj e))
              go_wp2_with fail
              go_quiet (fail)
              go_wp2_with fail
              go_ret
              exact ⟨rfl, BD.out _⟩
          · have h3 : (xn.toList == yn.toList) = false := beq_eq_false_iff_ne.2 (fun e => h1 (Lx.toList_inj e))
            go_wp2_with fail
            go_quiet (fail)
            go_wp2_with fail
            go_ret
            exact ⟨rfl, BD.out _⟩
      · have i1 : ¬ (i : Int) < (N : Int) := by omega
        have hzt : z = true := hz.out.2 (by
          have h1 : R.rs.take i = R.rs := List.take_of_length_le (by have := hN.out; omega)
          have h2 : R2.rs.take i = R2.rs := List.take_of_length_le (by have := hMR.out; omega)
          rw [← h1, ← h2]; exact HT.out)
        subst hzt
        clear HT o1 o2
        go_wp2_with fail
        go_ret
        exact ⟨rfl, HB.out⟩
  · have hzf : z = false := by
      cases z with
      | false => rfl
      | true => exact absurd (by rw [hN, hM, hz.out.1 rfl]) hNM
    subst hzf
    have hnm : ((N : Int) == (M : Int)) = false := beq_eq_false_iff_ne.2 (fun e => hNM (by omega))
    replace hN := hid hN
    replace hM := hid hM
    clear H H2 hok hok2
    go_enter Try.func17, Try.ntmps17
    go_wp2_with fail
    go_quiet (fail)
    go_wp2_with fail
    go_ret
    exact ⟨rfl, drewN_below _ _⟩
end Go.Proofs.Ytgffojafdjcdoaa.Qo

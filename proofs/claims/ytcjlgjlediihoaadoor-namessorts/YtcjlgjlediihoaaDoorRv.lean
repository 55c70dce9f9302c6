/- The document's Sort by its contract. -/
import Derived.Test.YtcjlgjlediihoaaDoorRt
import Derived.Lib.QuietBelow
import Derived.BigQuiet
namespace Go.Proofs.YtcjlgjlediihoaaDoor.Rv
open Go.ChangeShapes Go.WideShapes Go.ChangeAt Go.RowKit
open Go.Proofs.YtcjlgjlediihoaaDoor.Gr
open Go.Proofs.YtcjlgjlediihoaaDoor.Es
open Go.Proofs.YtcjlgjlediihoaaDoor.Cf
open Go.Proofs.YtcjlgjlediihoaaDoor.Rl
open Go.Proofs.YtcjlgjlediihoaaDoor.Rt
set_option linter.unusedVariables false
set_option linter.unusedSimpArgs false

theorem le_refl (a : ByteArray) : le a a := by
  unfold le
  have := cf_neg a a
  omega
/-- What is left, what is out. -/
structure Lo (w W : World) (vl vo : Value) (ls os : List ByteArray) : Prop where
  l : eStr.Own W w.heap.size vl ls
  o : eStr.Own W w.heap.size vo os
  ap : ∀ j, vl.ownBlock = some j → vo.ownBlock ≠ some j
  lo : Below w.heap.size w W
theorem Lo.later {w W W' : World} {vl vo : Value} {ls os : List ByteArray} (h : Lo w W vl vo ls os) (b : Below W.heap.size W W') : Lo w W' vl vo ls os := ⟨h.l.later b, h.o.later b, h.ap, Below.up h.lo b⟩
theorem own_grown {e size n base : Nat} {v : Value} {zs : List Value} {W W' : World} {row : Option Nat} (h : W.ownsRow base e size v n zs) (g : W.grownBy W' row) (hr : ∀ j, row = some j → v.ownBlock ≠ some j) : W'.ownsRow base e size v n zs :=
  own_blocks h (fun j hj => g.block j (own_lt h j hj).2 (fun e => hr j e.symm hj))
theorem Lo.app {w W : World} {vl vo : Value} {ls os : List ByteArray} (h : Lo w W vl vo ls os) (x : ByteArray) (hn : os.length + 1 ≤ 1099511627776) :
    ∃ v' W', (Builtin.append_ #[39, 39] 39 #[vo, .slice (some ⟨W.heap.size, 0, none⟩) 1 1]).run Tryd.prog (W.alloc (.cells #[.string x] 9)) = .ok v' W' ∧ Lo w W' vl v' ls (os ++ [x]) := by
  obtain ⟨v', W', r, o, g, q⟩ := El.app1 eStr W w.heap.size vo os x #[.string x] rfl h.o (by show (_ + 1) * 16 ≤ _; omega) (by omega) h.lo.size
  refine ⟨v', W', r, own_grown h.l g (fun j hj hj' => h.ap j hj' hj), o, fun j hj hj' => ?_, below_grown h.lo h.lo.size g (fun j hj => (own_lt h.o j hj).1)⟩
  rcases q j hj' with h1 | h1
  · exact h.ap j hj h1
  · have := (own_lt h.l j hj).2
    omega
theorem Lo.cut {w W : World} {g c : Nat} {vo : Value} {ls os : List ByteArray} (h : Lo w W (.slice (some ⟨g, 0, none⟩) ls.length c) vo ls os) {k : Nat} (hk : k < ls.length) (ty : TypeId) :
    ∃ W', (Builtin.append_ #[39, 39] ty #[.slice (some ⟨g, 0, none⟩) k c, .slice (if c = k + 1 then some ⟨g, 0, none⟩ else some ⟨g, k + 1, none⟩) (ls.length - (k + 1)) (c - (k + 1))]).run Tryd.prog W = .ok (.slice (some ⟨g, 0, none⟩) (ls.length - 1) c) W' ∧ Lo w W' (.slice (some ⟨g, 0, none⟩) (ls.length - 1) c) vo (ls.eraseIdx k) os := by
  obtain ⟨W', r, o, gr⟩ := cut_run h.l hk ty
  exact ⟨W', r, o, own_grown h.o gr (fun j hj hj' => by cases hj; exact h.ap g rfl hj'), (fun j hj => h.ap j hj), below_grown h.lo h.lo.size gr (fun j hj => by cases hj; exact (own_lt h.l g rfl).1)⟩
/-- What is out stands in order, and ahead of what is left. -/
structure Md (xs ls os : List ByteArray) : Prop where
  p : (os ++ ls).Perm xs
  s : os.Pairwise le
  a : ∀ o ∈ os, ∀ l ∈ ls, le o l
theorem er_perm {α : Type} : ∀ (ls : List α) (k : Nat) (h : k < ls.length), (ls[k] :: ls.eraseIdx k).Perm ls
  | x :: r, 0, _ => List.Perm.refl _
  | x :: r, k + 1, h => (List.Perm.swap _ _ _).trans (List.Perm.cons x (er_perm r k (by simpa using h)))
theorem Md.start (xs : List ByteArray) : Md xs xs [] := ⟨List.Perm.refl _, List.Pairwise.nil, fun o h => by cases h⟩
theorem Md.step {xs ls os : List ByteArray} (h : Md xs ls os) {k : Nat} (hk : k < ls.length) (hb : ∀ j, j < ls.length → le (ls.getD k ByteArray.empty) (ls.getD j ByteArray.empty)) : Md xs (ls.eraseIdx k) (os ++ [ls.getD k ByteArray.empty]) := by
  have hm : ls.getD k ByteArray.empty ∈ ls := by rw [List.getD_eq_getElem?_getD, List.getElem?_eq_getElem hk]; exact List.getElem_mem _
  have hsub : ∀ y ∈ ls.eraseIdx k, y ∈ ls := fun y hy => List.mem_of_mem_eraseIdx hy
  have hle : ∀ y ∈ ls, le (ls.getD k ByteArray.empty) y := by
    intro y hy
    obtain ⟨j, hj, rfl⟩ := List.getElem_of_mem hy
    have := hb j hj
    rwa [List.getD_eq_getElem?_getD (l := ls) (i := j), List.getElem?_eq_getElem hj] at this
  refine ⟨?_, ?_, ?_⟩
  · have e : (ls.getD k ByteArray.empty :: ls.eraseIdx k).Perm ls := by
      rw [List.getD_eq_getElem?_getD, List.getElem?_eq_getElem hk]
      exact er_perm ls k hk
    rw [List.append_assoc]
    exact (List.Perm.append_left os e).trans h.p
  · rw [List.pairwise_append]
    exact ⟨h.s, List.pairwise_singleton _ _, fun x hx y hy => by rw [List.mem_singleton] at hy; subst hy; exact h.a x hx _ hm⟩
  · intro o ho l hl
    rcases List.mem_append.1 ho with ho | ho
    · exact h.a o ho l (hsub l hl)
    · rw [List.mem_singleton] at ho
      subst ho
      exact hle l (hsub l hl)
theorem Md.done {xs os : List ByteArray} (h : Md xs [] os) : Std xs os := ⟨by have := h.p; rwa [List.append_nil] at this, h.s⟩
set_option maxRecDepth 20000 in
set_option maxHeartbeats 2000000 in
theorem rsort_any (a : Option Addr) (n c : Nat) (xs : List ByteArray) (w : World) (H : eStr.Sl w a n c xs) (hn8 : n ≤ 1048576) :
    Calls Tryd.prog 18 #[.slice a n c] w fun e w' => ∃ v ys, e = .returned v ∧ Acc eStr w w' v ys ∧ Std xs ys := by
  have hl := H.n
  have hok : Hid (∀ x ∈ xs, x.size ≤ 281474976710656) := H.ok
  obtain ⟨W0, hW0⟩ : ∃ W, W = w.alloc (.cells #[] 9) := ⟨_, rfl⟩
  have A0 := Acc.made eStr w
  have b0 := box_below w (.cells #[] 9)
  obtain ⟨v1, W1, r1, A1⟩ := A0.app (H.later b0) (by show (0 + n) * 16 ≤ _; omega) (by show 0 + n ≤ _; omega)
  rw [List.nil_append] at A1
  replace r1 : (Builtin.append_ #[39, 39] 39 #[.slice (some ⟨w.heap.size, 0, none⟩) 0 0, .slice a n c]).run Tryd.prog (w.alloc (.cells #[] 9)) = .ok v1 W1 := r1
  obtain ⟨a1, c1, hv1⟩ := A1.shape
  rw [hl] at hv1
  have hcap := H.c
  have L1 : Hid (Lo w W1 v1 (.slice none 0 0) xs []) := ⟨A1.o, El.Own.nil _ _ _, (fun j hj hj' => by cases hj'), A1.lo⟩
  subst hv1
  replace r1 := hid r1
  replace hl := hid hl
  clear A0 A1 b0 H hW0 W0
  go_enter Tryd.func18, Tryd.ntmps18
  go_wp2_with (at_builtin; have hr := r1.out; clear r1; refine wpList_append_run rfl (.tmp 7) (.tmp 8) 39 39 rfl (.slice (some ⟨w.heap.size, 0, none⟩) 0 0) (.slice a n c) (.slice a1 n c1) rfl rfl hr ?_; clear hr)
  go_loopw [3, 4, 5, 6] (fun vl vo b5 b6 wr => ∃ (a1 : Option Addr) (n1 c1 : Nat) (ls os : List ByteArray), vl = .slice a1 n1 c1 ∧ n1 ≤ 1048576 ∧ Hid (ls.length = n1) ∧ Hid (os.length ≤ 1048576) ∧ Hid (Md xs ls os) ∧ Hid (Lo w wr (.slice a1 n1 c1) vo ls os)) (fun vl _ _ _ _ => match vl with | .slice _ n _ => n | _ => 0)
  case atStart => exact ⟨a1, n, c1, xs, [], rfl, hn8, hl, by show 0 ≤ _; omega, Md.start xs, L1⟩
  case round =>
    clear L1
    obtain ⟨a1, n1, c1, ls, os, rfl, hn1, hll, hol, hM, hL⟩ := hrel
    by_cases h0 : n1 = 0
    · have hls : ls = [] := List.eq_nil_of_length_eq_zero (by rw [hll.out, h0])
      subst h0
      subst hls
      have hst := hid hM.out.done
      go_wp2_with fail
      go_ret
      exact ⟨_, os, rfl, ⟨hL.out.o, hL.out.lo⟩, hst.out⟩
    · obtain ⟨g1, hg1⟩ : ∃ g, a1 = some ⟨g, 0, none⟩ := by
        rcases hL.out.l.2 with ⟨hnil, hz⟩ | ⟨g, cap, cur, hsv, _⟩
        · have := hll.out; omega
        · cases hsv; exact ⟨g, rfl⟩
      subst hg1
      have hcc1 : n1 ≤ c1 := by
        rcases hL.out.l.2 with ⟨hnil, hz⟩ | ⟨g, cap, cur, hsv, _, _, q1, q2, _⟩
        · cases hnil
        · cases hsv
          rw [← hll.out]
          exact q1
      have j0 : (0 : Int) < (n1 : Int) := by omega
      have hd0 : decide (0 < n1) = true := decide_eq_true (by omega)
      have hx : Hid (∀ j, j < n1 → (ls.getD j ByteArray.empty).size ≤ 281474976710656) := by
        intro j hj
        refine hok.out _ (hM.out.p.subset (List.mem_append_right _ ?_))
        rw [List.getD_eq_getElem?_getD, List.getElem?_eq_getElem (by rw [hll.out]; exact hj)]
        exact List.getElem_mem _
      have hcell : Hid (∀ W, Below wr.heap.size wr W → ∀ j, j < n1 → W.cell? ⟨g1, j, none⟩ = some (.string (ls.getD j ByteArray.empty))) := by
        intro W b j hj
        have := El.Own.at (E := eStr) (c := c1) (n := n1) (by have h := (hL.out.later b).l; exact h) j (by rw [hll.out]; exact hj)
        have h := this 0 _ rfl
        rw [show eStr.k = 1 from rfl, Nat.mul_one, Nat.add_zero] at h
        exact h
      have hs0 : Hid (∀ j, j < 1 → le (ls.getD 0 ByteArray.empty) (ls.getD j ByteArray.empty)) := by
        intro j hj
        obtain rfl : j = 0 := by omega
        exact le_refl _
      go_wp2_with fail
      generalize wr = wq at *
      go_loopw [5, 6] (fun b5 b6 wr => ∃ (bk i : Nat), b5 = .int .i64 bk ∧ b6 = .int .i64 i ∧ 1 ≤ i ∧ i ≤ n1 ∧ bk < i ∧ Hid (∀ j, j < i → le (ls.getD bk ByteArray.empty) (ls.getD j ByteArray.empty)) ∧ Hid (Below wq.heap.size wq wr)) (fun _ b6 _ => n1 - (intOf b6).toNat)
      case atStart => exact ⟨0, 1, rfl, rfl, by omega, by omega, by omega, hs0, Below.refl _ _⟩
      case round =>
        obtain ⟨bk, i, rfl, rfl, hi1, hin, hbi, hmin, bw⟩ := hrel
        by_cases hlt : i < n1
        · have q1 := hcell.out wr bw.out i hlt
          have q2 := hcell.out wr bw.out bk (by omega)
          have z1 := fun d os => cell_regrown q1 d os
          have z2 := fun d os => cell_regrown q2 d os
          have C := hid (fun W => less_any (ls.getD i ByteArray.empty) (ls.getD bk ByteArray.empty) (hx.out i hlt) (hx.out bk (by omega)) W)
          have jk0 : (i : Int) < (n1 : Int) := by omega
          have jo0 : (0 : Int) ≤ (i : Int) := by omega
          have jb0 : (bk : Int) < (n1 : Int) := by omega
          have jb1 : (0 : Int) ≤ (bk : Int) := by omega
          have hyes : Hid (cf (ls.getD i ByteArray.empty) (ls.getD bk ByteArray.empty) < 0 → ∀ j, j < i + 1 → le (ls.getD i ByteArray.empty) (ls.getD j ByteArray.empty)) := by
            intro h j hj
            by_cases e : j < i
            · have h1 := hmin.out j e
              refine cf_le_trans (a := ls.getD i ByteArray.empty) (b := ls.getD bk ByteArray.empty) ?_ h1
              rw [cf_neg]; omega
            · rw [show j = i by omega]; exact le_refl _
          have hno : Hid (¬ cf (ls.getD i ByteArray.empty) (ls.getD bk ByteArray.empty) < 0 → ∀ j, j < i + 1 → le (ls.getD bk ByteArray.empty) (ls.getD j ByteArray.empty)) := by
            intro h j hj
            by_cases e : j < i
            · exact hmin.out j e
            · rw [show j = i by omega]; exact h
          clear q1 q2 hmin
          generalize hxi : ls.getD i ByteArray.empty = xi at *
          replace hxi := hid hxi
          go_wp2_with fail
          refine wp_region_quiet_below (by kernel_rfl) (by kernel_rfl) ?_
          repeat (go_big_quiet_step (first | (go_at_call 37; exact Calls.regrown_of (C.out _))))
          refine wpQuiet_nil ?_
          intro w8 hw8
          have b8 : Hid (Below wq.heap.size wq w8) := by
            obtain ⟨⟨dq, osq⟩, hw''⟩ := hw8
            rw [hw'']
            exact Below.up bw.out (below_regrown _ dq osq)
          clear hw8
          by_cases hcf : cf xi (ls.getD bk ByteArray.empty) < 0
          · have hy := hid (hyes.out hcf)
            have hd := decide_eq_true hcf
            clear hyes hno
            rw [hd]
            go_wp2_with fail
            go_roundw
            case rel => exact ⟨i, i + 1, rfl, by go_num, by omega, by omega, by omega, by rw [hxi.out]; exact hy, b8⟩
            case measure => simp [intOf]; omega
          · have hn := hid (hno.out (by omega))
            have hd := decide_eq_false hcf
            clear hyes hno
            rw [hd]
            go_wp2_with fail
            go_roundw
            case rel => exact ⟨bk, i + 1, rfl, by go_num, by omega, by omega, by omega, hn, b8⟩
            case measure => simp [intOf]; omega
        · have hie : i = n1 := by omega
          subst hie
          have L3 := hL.out.later bw.out
          have hMs := hid (hM.out.step (k := bk) (by rw [hll.out]; omega) (fun j hj => hmin.out j (by rw [← hll.out]; exact hj)))
          have q2 := hcell.out wr bw.out bk hbi
          have jb0 : (bk : Int) < (i : Int) := by omega
          have jb1 : (0 : Int) ≤ (bk : Int) := by omega
          obtain ⟨xb, hxb⟩ : ∃ x, x = ls.getD bk ByteArray.empty := ⟨_, rfl⟩
          rw [← hxb] at q2 hMs
          have hol4 : os.length + 1 ≤ 1048576 := by
            have h1 := hM.out.p.length_eq
            rw [List.length_append, hll.out, hl.out] at h1
            omega
          obtain ⟨v4, W4, r4, L4⟩ := L3.app xb (by omega)
          obtain ⟨a4, c4, hv4⟩ := row_block L4.o
          generalize (_ : List ByteArray).length = n4 at hv4
          subst hv4
          rw [← hll.out] at L4
          obtain ⟨W5, r5, L5⟩ := (L4.later (drew_below W4)).cut (k := bk) (by rw [hll.out]; exact hbi) 39
          rw [hll.out] at r5 L5
          have wr1 : IntKind.i64.wrap ((bk : Int) + 1) = ((bk + 1 : Nat) : Int) := by rw [IntKind.wrap_i64]; omega
          have jk2 : bk + 1 ≤ i := by omega
          have jk3 : bk ≤ c1 := by omega
          have jk5 : (0 : Int) ≤ (bk : Int) + 1 := by omega
          have jk6 : (bk : Int) + 1 ≤ (i : Int) := by omega
          have jk4 : ¬ c1 = 0 := by omega
          have hll5 : Hid ((ls.eraseIdx bk).length = i - 1) := by show _ = _; rw [List.length_eraseIdx_of_lt (by rw [hll.out]; exact hbi), hll.out]
          have hol5 : Hid ((os ++ [xb]).length ≤ 1048576) := by show _ ≤ _; rw [List.length_append]; exact hol4
          replace hMs := hid hMs
          have xbc : Hid (xb = ls.getD bk ByteArray.empty) := hxb
          replace r4 := hid r4
          replace r5 := hid r5
          replace L5 := hid L5
          clear L3 L4 hxb hmin
          go_wp2_with (at_builtin; refine wpList_append_run rfl (.tmp 29) (.tmp 34) 39 39 rfl _ _ (.slice a4 n4 c4) rfl rfl r4.out ?_; clear r4)
          refine wp_region_any (by kernel_rfl) ?_
          change wpAny _ _ _ _ _ _ _ (World.drew _)
          generalize hD4 : World.drew W4 = D4 at *
          clear hD4
          refine wpAny_take (i := 0) (v := ?v1) rfl (by kernel_rfl) (by kernel_rfl) (by kernel_rfl) (fun _ _ _ h => h) (Or.inl ⟨by rfl, ?h1⟩) ?_
          case h1 => (intro w; go_simp; try (with_reducible rfl))
          go_simp
          refine wpAny_take (i := 1) (v := ?v2) rfl (by kernel_rfl) (by kernel_rfl) (by kernel_rfl) (fun _ _ _ h => h) (Or.inl ⟨by rfl, ?h2⟩) ?_
          case h2 => (intro w; go_simp; try (with_reducible rfl))
          go_simp
          refine wpAny_take (i := 2) (v := ?v3) rfl (by kernel_rfl) (by kernel_rfl) (by kernel_rfl) (fun _ _ _ h => h) (Or.inl ⟨by rfl, ?h3⟩) ?_
          case h3 => (intro w; go_simp; try (with_reducible rfl))
          go_simp
          refine wpAny_take (i := 3) (v := ?v4) rfl (by kernel_rfl) (by kernel_rfl) (by kernel_rfl) (fun _ _ _ h => h) (Or.inl ⟨by rfl, ?h4⟩) ?_
          case h4 => (intro w; go_simp; try (with_reducible rfl))
          go_simp
          refine wpAny_take (i := 4) (v := ?v5) rfl (by kernel_rfl) (by kernel_rfl) (by kernel_rfl) (fun _ _ _ h => h) (Or.inl ⟨by rfl, ?h5⟩) ?_
          case h5 => (intro w; go_simp; try (with_reducible rfl))
          go_simp
          refine wpAny_take (i := 5) (v := ?v6) rfl (by kernel_rfl) (by kernel_rfl) (by kernel_rfl) (fun _ _ _ h => h) (Or.inl ⟨by rfl, ?h6⟩) ?_
          case h6 => (intro w; go_simp; try (with_reducible rfl))
          go_simp
          refine wpAny_take (i := 6) (v := ?v7) rfl (by kernel_rfl) (by kernel_rfl) (by kernel_rfl) (fun _ _ _ h => h) (Or.inl ⟨by rfl, ?h7⟩) ?_
          case h7 => (intro w; go_simp; try (with_reducible rfl))
          go_simp
          refine wpAny_ready (rs := [7]) (by kernel_rfl) (by simp) ?_
          refine AllReady.cons rfl (fun K hK => ?_) ?_
          · refine wp_append_run (.tmp 38) (.tmp 42) 39 39 rfl _ _ (.slice (some ⟨g1, 0, none⟩) (i - 1) c1) rfl rfl r5.out ?_
            refine hK _ _ ?_
            clear hK K
            refine wpAny_take (i := 8) (v := ?v8) rfl (by kernel_rfl) (by kernel_rfl) (by kernel_rfl) (fun _ _ _ h => h) (Or.inl ⟨by rfl, ?h8⟩) ?_
            case h8 => (intro w; go_simp; try (with_reducible rfl))
            go_simp
            refine wpAny_done (by kernel_rfl) ?_ _
            go_roundw
            case rel => exact ⟨_, _, _, _, _, _, _, _, _, _, _, _, _, _, _, _, _, _, _, _, _, _, _, _, _, _, _, _, _, _, _, _, _, _, _, _, _, _, ⟨some ⟨g1, 0, none⟩, i - 1, c1, ls.eraseIdx bk, os ++ [xb], rfl, by omega, hll5, hol5, hMs, L5⟩, rfl⟩
            case measure => show i - 1 < i; omega
          exact AllReady.nil
end Go.Proofs.YtcjlgjlediihoaaDoor.Rv

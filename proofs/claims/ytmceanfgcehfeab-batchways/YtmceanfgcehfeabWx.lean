/- BatchWays, walked: where Encode takes them. -/
import Derived.Test.YtmceanfgcehfeabWy
import Derived.Test.YtmceanfgcehfeabWz
import Derived.Test.YtmceanfgcehfeabEd
import Derived.Test.YtmceanfgcehfeabWk
import Derived.Test.YtmceanfgcehfeabKw
import Derived.Laws.StructEq
namespace Go.Proofs.Ytmceanfgcehfeab.Wx
open Go.ChangeShapes Go.WideShapes Go.ChangeAt Go.RowKit Go.Shelf
open Go.Proofs.Ytmceanfgcehfeab.By
open Go.Proofs.Ytmceanfgcehfeab.Ob
open Go.Proofs.Ytmceanfgcehfeab.En
open Go.Proofs.Ytmceanfgcehfeab.Iv
open Go.Proofs.Ytmceanfgcehfeab.It (items num num_len encs)
open Go.Proofs.Ytmceanfgcehfeab.Kw (Keep pre_item cell_of blk_lt new_at set_ne belowN belowK_b' cell_same bytes_other heap_drewN keeps_drew)
open Go.Proofs.Ytmceanfgcehfeab.Iw (Rok Kq each_g)
open Go.Proofs.Ytmceanfgcehfeab.Wy (new_box)
open Go.Proofs.Ytmceanfgcehfeab.Bu
open Go.Proofs.Ytmceanfgcehfeab.Wz
set_option linter.unusedVariables false
set_option linter.unusedSimpArgs false
attribute [local go_sem] Oper.semAt_some
theorem may_kind {x : O} (h : may x = true) : (x.c = 0 ∧ x.v = ⟨#[]⟩) ∨ x.c = 1 ∨ x.c = 2 := by
  unfold may at h
  by_cases h0 : x.c = 0
  · rw [if_pos h0] at h
    simp at h
    exact .inl ⟨h0, h.2⟩
  · by_cases h1 : x.c = 1
    · exact .inr (.inl h1)
    · by_cases h2 : x.c = 2
      · exact .inr (.inr h2)
      · rw [if_neg h0, if_neg h1, if_neg h2] at h
        simp at h
theorem drew_b (w : World) : Below w.heap.size w w.drew := ⟨rfl, rfl, rfl, Nat.le_refl _, fun _ _ => rfl⟩
theorem drew_M (w : World) (M : Nat) : Below M w w.drew := ⟨rfl, rfl, rfl, Nat.le_refl _, fun _ _ => rfl⟩
/-- A post that only speaks of a normal end. -/
def onlyN (Q : Exit → Act → World → Prop) : Exit → Act → World → Prop
  | .normal, a, w => Q .normal a w
  | _, _, _ => False
theorem onlyN_of {Q : Exit → Act → World → Prop} {e : Exit} {a : Act} {w : World} (h : onlyN Q e a w) : Q e a w := by
  cases e <;> first | exact h | exact h.elim
theorem onlyN_mk {Q : Exit → Act → World → Prop} {a : Act} {w : World} (h : Q .normal a w) : onlyN Q .normal a w := h
theorem wpIn_onlyN {F : Fence} {n : Nat} {P : Program} {c : Code} {Q : Exit → Act → World → Prop} {a : Act} {w : World} (h : c.wpIn F n P (onlyN Q) a w) : c.wpIn F n P Q a w := wpIn_mono h (fun e a w h => onlyN_of h)
set_option maxRecDepth 100000 in
set_option maxHeartbeats 4000000 in
theorem ways_ok (s : Int) (a : Option Addr) (len cap : Nat) (xs : List O) (w : World) (H : Ops w a len cap xs) (hl : len ≤ 140737488351232) (hs : 0 ≤ s ∧ s ≤ 18446744073709551615) (hE : encE s xs = 0) :
    CallsIn Fence.wide 8 Try.prog 7 #[.int .u64 s, .slice a len cap] w fun r w' => r = .returned (.bool true) ∧ Below w.heap.size w w' := by
  refine callsIn_of_wp_marks Try.func7 rfl trivial ?_ rfl
  simp only [Try.ntmps7, List.size_toArray, List.length_cons, List.length_nil, Nat.reduceAdd, Nat.reduceSub, Array.replicate_succ, Array.replicate_zero, List.push_toArray, List.append_toArray, List.nil_append, List.cons_append]
  obtain ⟨n0, hn0⟩ : ∃ n0, n0 = w.heap.size := ⟨_, rfl⟩
  obtain ⟨W2, hW2⟩ : ∃ W, W = ((w.alloc (.cells #[.int .u64 s] 28)).alloc (.cells #[.slice a len cap] 26)).alloc (.cells #[.bool false] 4) := ⟨_, rfl⟩
  have s2 : W2.heap.size = n0 + 3 := by rw [hW2, hn0]; simp
  have B2 : Below n0 w W2 := by rw [hW2, hn0]; exact ((box_below w _).alloc (by simp) _).alloc (by simp; omega) _
  have k0 : Boxed W2 n0 28 (.int .u64 s) := by rw [hW2]; exact ((new_box hn0 _ _).alloc _).alloc _
  have k1 : Boxed W2 (n0 + 1) 26 (.slice a len cap) := by rw [hW2]; exact (new_box (by simp; omega) _ _).alloc _
  have k2 : Boxed W2 (n0 + 1 + 1) 4 (.bool false) := by rw [hW2]; exact new_box (by simp; omega) _ _
  have HO := hid (H.later (by rw [hn0] at B2; exact B2) : Ops W2 a len cap xs)
  replace H := hid H
  replace k0 := hid k0
  replace k1 := hid k1
  replace k2 := hid k2
  replace B2 := hid B2
  replace hW2 := hid hW2
  replace hn0 := hid hn0
  replace s2 := hid s2
  gi_wp2_with fail
  rw [← hn0.out, ← hW2.out]
  refine ⟨trivial, (callsIn_wide.2 (Wk.works_any _)).mono ?_⟩
  rintro r w3 ⟨rfl, b3⟩
  have c0 := (show Boxed w3 _ _ _ from (b3.block _ k0.out.lt).trans k0.out).cell
  have c1 := (show Boxed w3 _ _ _ from (b3.block _ k1.out.lt).trans k1.out).cell
  have HO3 := hid (HO.out.later b3)
  replace b3 := hid b3
  gi_wp2_with fail
  refine ⟨trivial, (callsIn_wide.2 (encode_ok s a len cap xs _ HO3.out hs hE)).mono ?_⟩
  rintro r w4 ⟨g, c, rfl, R4, b4⟩
  have b24 : Below W2.heap.size W2 w4 := b3.out.trans (b4.mono b3.out.size)
  have k4 : Boxed w4 n0 28 (.int .u64 s) := (b24.block _ k0.out.lt).trans k0.out
  have k5 : Boxed w4 (n0 + 1) 26 (.slice a len cap) := (b24.block _ k1.out.lt).trans k1.out
  have k6 : Boxed w4 (n0 + 1 + 1) 4 (.bool false) := (b24.block _ k2.out.lt).trans k2.out
  have O4 := HO.out.later b24
  have B4 : Below n0 w w4 := B2.out.trans (b24.mono (by have := s2.out; omega))
  obtain ⟨M, hM⟩ : ∃ M, M = w4.heap.size := ⟨_, rfl⟩
  have hx1 := H.out.1
  clear c0 c1 HO3 b3 b4 b24 k0 k1 k2 HO B2 hW2 s2
  replace R4 := hid R4
  replace k4 := hid k4
  replace k5 := hid k5
  replace k6 := hid k6
  replace O4 := hid O4
  replace B4 := hid B4
  have hnp : ∀ (x : Addr) (w : World), Sem.run Try.prog (binOp .eql 23 (.pointer (some x)) (.pointer none)) w = .ok (.bool false) w := fun x w => rfl
  gi_wp2_with fail
  refine ⟨trivial, (callsIn_wide.2 (new_any w4 (· < M))).mono ?_⟩
  rintro r w5 ⟨rfl, N5, b5⟩
  rw [← hM] at N5 b5 ⊢
  replace hM := hid hM
  replace N5 := hid N5
  replace b5 := hid b5
  gi_wp2_with fail
  gi_loopw [6, 8] (fun ev iv wr => ∃ k : Nat, ev = .int .i64 0 ∧ iv = .int .i64 (k : Int) ∧ k ≤ len ∧ Hid (Bs wr M M (· < M) (xs.take k)) ∧ Hid (Below M w4 wr)) (fun _ iv _ => len - (intOf iv).toNat)
  case atStart => exact ⟨0, rfl, rfl, Nat.zero_le _, N5, b5⟩
  case round =>
    obtain ⟨k, rfl, rfl, hk, HBs, BB⟩ := hrel
    have hMw : M ≤ wr.heap.size := by have := BB.out.size; have := hM.out; omega
    have bW : Below w4.heap.size w4 wr := by rw [← hM.out]; exact BB.out
    have kw : Boxed wr (n0 + 1) 26 (.slice a len cap) := (bW.block _ k5.out.lt).trans k5.out
    have cw := kw.cell
    have OW := O4.out.later bW
    replace bW := hid bW
    replace kw := hid kw
    by_cases hlt : k < len
    · have ik : (k : Int) < (len : Int) := by omega
      have HN : Hid (bput (xs.take k) (xs.getD k zo) = (0, xs.take (k + 1))) := bput_next hE k (by omega)
      have hm := may_kind (kind_of hE k (by omega))
      obtain ⟨b, o, rfl, hc⟩ : ∃ b o, a = some ⟨b, o, none⟩ ∧ At3 wr b (o + k * 3) (xs.getD k zo) := by
        cases a with
        | none => have := OW.2.2.1 rfl; omega
        | some ad =>
          obtain ⟨b, o, p⟩ := ad
          obtain ⟨rfl, h⟩ := OW.2.2.2.2 b o p rfl (by omega)
          exact ⟨b, o, rfl, h k hlt⟩
      have hcv := OW.2.1
      replace OW := hid OW
      revert HN hm hc
      generalize xs.getD k zo = x
      obtain ⟨xc, xk, xv⟩ := x
      intro HN hm hc
      obtain ⟨q0, q1, q2⟩ := hc
      dsimp only at q0 q1 q2 hm
      rcases hm with ⟨rfl, rfl⟩ | rfl | rfl
      · gi_wp2_with fail
        refine ⟨trivial, (callsIn_wide.2 (Bv.delete_any M xk (xs.take k) M (· < M) _ HBs.out hMw (fun j hj => by omega) (by omega) (fits_of hE k))).mono ?_⟩
        rintro e w6 ⟨rfl, B6, b6, K6⟩
        rw [HN.out] at B6 ⊢
        have B6' := hid B6
        have b6' := hid (BB.out.trans b6)
        clear B6 b6 K6
        gi_wp2_with fail
        exact ⟨⟨k + 1, rfl, by simp, by omega, B6', b6'⟩, by simp [intOf]; omega⟩
      · gi_wp2_with fail
        refine wpIn_onlyN (wpIn_wide.2 ?_)
        refine wp_region_any (by kernel_rfl) ?_
        change wpAny _ _ _ _ _ _ _ (World.drew _)
        refine wpAny_take (i := 0) (v := ?v1) rfl (by kernel_rfl) (by kernel_rfl) (by kernel_rfl) (fun _ _ _ h => h) (Or.inl ⟨by rfl, ?h1⟩) ?_
        case h1 => (intro w; go_simp; try (with_reducible rfl))
        go_simp
        refine wpAny_take (i := 2) (v := ?v2) rfl (by kernel_rfl) (by kernel_rfl) (by kernel_rfl) (fun _ _ _ h => h) (Or.inl ⟨by rfl, ?h2⟩) ?_
        case h2 => (intro w; go_simp; try (with_reducible rfl))
        go_simp
        refine wpAny_take (i := 7) (v := ?v3) rfl (by kernel_rfl) (by kernel_rfl) (by kernel_rfl) (fun _ _ _ h => h) (Or.inl ⟨by rfl, ?h3⟩) ?_
        case h3 => (intro w; go_simp; try (with_reducible rfl))
        go_simp
        refine wpAny_ready (rs := [1, 6]) (by kernel_rfl) (by simp) ?_
        refine AllReady.cons rfl (fun K hK => ?_) ?_
        · go_simp
          refine hK _ _ ?_
          clear hK K
          refine wpAny_take (i := 3) (v := ?v4) rfl (by kernel_rfl) (by kernel_rfl) (by kernel_rfl) (fun _ _ _ h => h) (Or.inl ⟨by rfl, ?h4⟩) ?_
          case h4 => (intro w; go_simp; try (with_reducible rfl))
          go_simp
          refine wpAny_take (i := 4) (v := ?v5) rfl (by kernel_rfl) (by kernel_rfl) (by kernel_rfl) (fun _ _ _ h => h) (Or.inl ⟨by rfl, ?h5⟩) ?_
          case h5 => (intro w; go_simp; try (with_reducible rfl))
          go_simp
          refine wpAny_ready (rs := [5, 6]) (by kernel_rfl) (by simp) ?_
          refine AllReady.cons rfl (fun K hK => ?_) ?_
          · go_simp
            refine hK _ _ ?_
            clear hK K
            refine wpAny_ready (rs := [6]) (by kernel_rfl) (by simp) ?_
            refine AllReady.cons rfl (fun K hK => ?_) ?_
            · go_simp
              refine hK _ _ ?_
              clear hK K
              refine wpAny_take (i := 8) (v := ?v6) rfl (by kernel_rfl) (by kernel_rfl) (by kernel_rfl) (fun _ _ _ h => h) (Or.inl ⟨by rfl, ?h6⟩) ?_
              case h6 => (intro w; go_simp; try (with_reducible rfl))
              go_simp
              refine wpAny_take (i := 9) (v := ?v7) rfl (by kernel_rfl) (by kernel_rfl) (by kernel_rfl) (fun _ _ _ h => h) (Or.inl ⟨by rfl, ?h7⟩) ?_
              case h7 => (intro w; go_simp; try (with_reducible rfl))
              go_simp
              refine wpAny_ready (rs := [10]) (by kernel_rfl) (by simp) ?_
              refine AllReady.cons rfl (fun K hK => ?_) ?_
              · go_simp
                refine hK _ _ ?_
                clear hK K
                refine wpAny_ready (rs := [11]) (by kernel_rfl) (by simp) ?_
                refine AllReady.cons rfl (fun K hK => ?_) ?_
                · go_simp
                  go_wp2_with fail
                  refine (Bv.put_any M xk xv (xs.take k) M (· < M) _ (HBs.out.later (drew_b _)) (by simpa using hMw) (fun j hj => by have := hMw; simp; omega) (by omega) (fits_of hE k)).mono ?_
                  rintro e w6 ⟨rfl, B6, b6, K6⟩
                  rw [HN.out] at B6 ⊢
                  have B6' := hid B6
                  have b6' := hid (BB.out.trans ((drew_M _ M).trans b6))
                  clear B6 b6 K6
                  go_wp2_with fail
                  refine wpAny_ready (rs := [12]) (by kernel_rfl) (by simp) ?_
                  refine AllReady.cons rfl (fun K hK => ?_) ?_
                  · go_simp
                    refine hK _ _ ?_
                    clear hK K
                    refine wpAny_done (by kernel_rfl) (onlyN_mk ?_) _
                    gi_wp2_with fail
                    exact ⟨⟨k + 1, rfl, by simp, by omega, B6', b6'⟩, by simp [intOf]; omega⟩
                  exact AllReady.nil
                exact AllReady.nil
              exact AllReady.nil
            exact AllReady.nil
          refine AllReady.cons rfl (fun K hK => ?_) ?_
          · go_simp
            refine hK _ _ ?_
            clear hK K
            refine wpAny_take (i := 8) (v := ?v8) rfl (by kernel_rfl) (by kernel_rfl) (by kernel_rfl) (fun _ _ _ h => h) (Or.inl ⟨by rfl, ?h8⟩) ?_
            case h8 => (intro w; go_simp; try (with_reducible rfl))
            go_simp
            refine wpAny_take (i := 9) (v := ?v9) rfl (by kernel_rfl) (by kernel_rfl) (by kernel_rfl) (fun _ _ _ h => h) (Or.inl ⟨by rfl, ?h9⟩) ?_
            case h9 => (intro w; go_simp; try (with_reducible rfl))
            go_simp
            refine wpAny_ready (rs := [5, 10]) (by kernel_rfl) (by simp) ?_
            refine AllReady.cons rfl (fun K hK => ?_) ?_
            · go_simp
              refine hK _ _ ?_
              clear hK K
              refine wpAny_ready (rs := [10]) (by kernel_rfl) (by simp) ?_
              refine AllReady.cons rfl (fun K hK => ?_) ?_
              · go_simp
                refine hK _ _ ?_
                clear hK K
                refine wpAny_ready (rs := [11]) (by kernel_rfl) (by simp) ?_
                refine AllReady.cons rfl (fun K hK => ?_) ?_
                · go_simp
                  go_wp2_with fail
                  refine (Bv.put_any M xk xv (xs.take k) M (· < M) _ (HBs.out.later (drew_b _)) (by simpa using hMw) (fun j hj => by have := hMw; simp; omega) (by omega) (fits_of hE k)).mono ?_
                  rintro e w6 ⟨rfl, B6, b6, K6⟩
                  rw [HN.out] at B6 ⊢
                  have B6' := hid B6
                  have b6' := hid (BB.out.trans ((drew_M _ M).trans b6))
                  clear B6 b6 K6
                  go_wp2_with fail
                  refine wpAny_ready (rs := [12]) (by kernel_rfl) (by simp) ?_
                  refine AllReady.cons rfl (fun K hK => ?_) ?_
                  · go_simp
                    refine hK _ _ ?_
                    clear hK K
                    refine wpAny_done (by kernel_rfl) (onlyN_mk ?_) _
                    gi_wp2_with fail
                    exact ⟨⟨k + 1, rfl, by simp, by omega, B6', b6'⟩, by simp [intOf]; omega⟩
                  exact AllReady.nil
                exact AllReady.nil
              exact AllReady.nil
            refine AllReady.cons rfl (fun K hK => ?_) ?_
            · go_simp
              refine hK _ _ ?_
              clear hK K
              refine wpAny_ready (rs := [5]) (by kernel_rfl) (by simp) ?_
              refine AllReady.cons rfl (fun K hK => ?_) ?_
              · go_simp
                refine hK _ _ ?_
                clear hK K
                refine wpAny_ready (rs := [11]) (by kernel_rfl) (by simp) ?_
                refine AllReady.cons rfl (fun K hK => ?_) ?_
                · go_simp
                  go_wp2_with fail
                  refine (Bv.put_any M xk xv (xs.take k) M (· < M) _ (HBs.out.later (drew_b _)) (by simpa using hMw) (fun j hj => by have := hMw; simp; omega) (by omega) (fits_of hE k)).mono ?_
                  rintro e w6 ⟨rfl, B6, b6, K6⟩
                  rw [HN.out] at B6 ⊢
                  have B6' := hid B6
                  have b6' := hid (BB.out.trans ((drew_M _ M).trans b6))
                  clear B6 b6 K6
                  go_wp2_with fail
                  refine wpAny_ready (rs := [12]) (by kernel_rfl) (by simp) ?_
                  refine AllReady.cons rfl (fun K hK => ?_) ?_
                  · go_simp
                    refine hK _ _ ?_
                    clear hK K
                    refine wpAny_done (by kernel_rfl) (onlyN_mk ?_) _
                    gi_wp2_with fail
                    exact ⟨⟨k + 1, rfl, by simp, by omega, B6', b6'⟩, by simp [intOf]; omega⟩
                  exact AllReady.nil
                exact AllReady.nil
              exact AllReady.nil
            exact AllReady.nil
          exact AllReady.nil
        refine AllReady.cons rfl (fun K hK => ?_) ?_
        · go_simp
          refine hK _ _ ?_
          clear hK K
          refine wpAny_take (i := 8) (v := ?v10) rfl (by kernel_rfl) (by kernel_rfl) (by kernel_rfl) (fun _ _ _ h => h) (Or.inl ⟨by rfl, ?h10⟩) ?_
          case h10 => (intro w; go_simp; try (with_reducible rfl))
          go_simp
          refine wpAny_take (i := 9) (v := ?v11) rfl (by kernel_rfl) (by kernel_rfl) (by kernel_rfl) (fun _ _ _ h => h) (Or.inl ⟨by rfl, ?h11⟩) ?_
          case h11 => (intro w; go_simp; try (with_reducible rfl))
          go_simp
          refine wpAny_ready (rs := [1, 10]) (by kernel_rfl) (by simp) ?_
          refine AllReady.cons rfl (fun K hK => ?_) ?_
          · go_simp
            refine hK _ _ ?_
            clear hK K
            refine wpAny_take (i := 3) (v := ?v12) rfl (by kernel_rfl) (by kernel_rfl) (by kernel_rfl) (fun _ _ _ h => h) (Or.inl ⟨by rfl, ?h12⟩) ?_
            case h12 => (intro w; go_simp; try (with_reducible rfl))
            go_simp
            refine wpAny_take (i := 4) (v := ?v13) rfl (by kernel_rfl) (by kernel_rfl) (by kernel_rfl) (fun _ _ _ h => h) (Or.inl ⟨by rfl, ?h13⟩) ?_
            case h13 => (intro w; go_simp; try (with_reducible rfl))
            go_simp
            refine wpAny_ready (rs := [5, 10]) (by kernel_rfl) (by simp) ?_
            refine AllReady.cons rfl (fun K hK => ?_) ?_
            · go_simp
              refine hK _ _ ?_
              clear hK K
              refine wpAny_ready (rs := [10]) (by kernel_rfl) (by simp) ?_
              refine AllReady.cons rfl (fun K hK => ?_) ?_
              · go_simp
                refine hK _ _ ?_
                clear hK K
                refine wpAny_ready (rs := [11]) (by kernel_rfl) (by simp) ?_
                refine AllReady.cons rfl (fun K hK => ?_) ?_
                · go_simp
                  go_wp2_with fail
                  refine (Bv.put_any M xk xv (xs.take k) M (· < M) _ (HBs.out.later (drew_b _)) (by simpa using hMw) (fun j hj => by have := hMw; simp; omega) (by omega) (fits_of hE k)).mono ?_
                  rintro e w6 ⟨rfl, B6, b6, K6⟩
                  rw [HN.out] at B6 ⊢
                  have B6' := hid B6
                  have b6' := hid (BB.out.trans ((drew_M _ M).trans b6))
                  clear B6 b6 K6
                  go_wp2_with fail
                  refine wpAny_ready (rs := [12]) (by kernel_rfl) (by simp) ?_
                  refine AllReady.cons rfl (fun K hK => ?_) ?_
                  · go_simp
                    refine hK _ _ ?_
                    clear hK K
                    refine wpAny_done (by kernel_rfl) (onlyN_mk ?_) _
                    gi_wp2_with fail
                    exact ⟨⟨k + 1, rfl, by simp, by omega, B6', b6'⟩, by simp [intOf]; omega⟩
                  exact AllReady.nil
                exact AllReady.nil
              exact AllReady.nil
            refine AllReady.cons rfl (fun K hK => ?_) ?_
            · go_simp
              refine hK _ _ ?_
              clear hK K
              refine wpAny_ready (rs := [5]) (by kernel_rfl) (by simp) ?_
              refine AllReady.cons rfl (fun K hK => ?_) ?_
              · go_simp
                refine hK _ _ ?_
                clear hK K
                refine wpAny_ready (rs := [11]) (by kernel_rfl) (by simp) ?_
                refine AllReady.cons rfl (fun K hK => ?_) ?_
                · go_simp
                  go_wp2_with fail
                  refine (Bv.put_any M xk xv (xs.take k) M (· < M) _ (HBs.out.later (drew_b _)) (by simpa using hMw) (fun j hj => by have := hMw; simp; omega) (by omega) (fits_of hE k)).mono ?_
                  rintro e w6 ⟨rfl, B6, b6, K6⟩
                  rw [HN.out] at B6 ⊢
                  have B6' := hid B6
                  have b6' := hid (BB.out.trans ((drew_M _ M).trans b6))
                  clear B6 b6 K6
                  go_wp2_with fail
                  refine wpAny_ready (rs := [12]) (by kernel_rfl) (by simp) ?_
                  refine AllReady.cons rfl (fun K hK => ?_) ?_
                  · go_simp
                    refine hK _ _ ?_
                    clear hK K
                    refine wpAny_done (by kernel_rfl) (onlyN_mk ?_) _
                    gi_wp2_with fail
                    exact ⟨⟨k + 1, rfl, by simp, by omega, B6', b6'⟩, by simp [intOf]; omega⟩
                  exact AllReady.nil
                exact AllReady.nil
              exact AllReady.nil
            exact AllReady.nil
          refine AllReady.cons rfl (fun K hK => ?_) ?_
          · go_simp
            refine hK _ _ ?_
            clear hK K
            refine wpAny_ready (rs := [1]) (by kernel_rfl) (by simp) ?_
            refine AllReady.cons rfl (fun K hK => ?_) ?_
            · go_simp
              refine hK _ _ ?_
              clear hK K
              refine wpAny_take (i := 3) (v := ?v14) rfl (by kernel_rfl) (by kernel_rfl) (by kernel_rfl) (fun _ _ _ h => h) (Or.inl ⟨by rfl, ?h14⟩) ?_
              case h14 => (intro w; go_simp; try (with_reducible rfl))
              go_simp
              refine wpAny_take (i := 4) (v := ?v15) rfl (by kernel_rfl) (by kernel_rfl) (by kernel_rfl) (fun _ _ _ h => h) (Or.inl ⟨by rfl, ?h15⟩) ?_
              case h15 => (intro w; go_simp; try (with_reducible rfl))
              go_simp
              refine wpAny_ready (rs := [5]) (by kernel_rfl) (by simp) ?_
              refine AllReady.cons rfl (fun K hK => ?_) ?_
              · go_simp
                refine hK _ _ ?_
                clear hK K
                refine wpAny_ready (rs := [11]) (by kernel_rfl) (by simp) ?_
                refine AllReady.cons rfl (fun K hK => ?_) ?_
                · go_simp
                  go_wp2_with fail
                  refine (Bv.put_any M xk xv (xs.take k) M (· < M) _ (HBs.out.later (drew_b _)) (by simpa using hMw) (fun j hj => by have := hMw; simp; omega) (by omega) (fits_of hE k)).mono ?_
                  rintro e w6 ⟨rfl, B6, b6, K6⟩
                  rw [HN.out] at B6 ⊢
                  have B6' := hid B6
                  have b6' := hid (BB.out.trans ((drew_M _ M).trans b6))
                  clear B6 b6 K6
                  go_wp2_with fail
                  refine wpAny_ready (rs := [12]) (by kernel_rfl) (by simp) ?_
                  refine AllReady.cons rfl (fun K hK => ?_) ?_
                  · go_simp
                    refine hK _ _ ?_
                    clear hK K
                    refine wpAny_done (by kernel_rfl) (onlyN_mk ?_) _
                    gi_wp2_with fail
                    exact ⟨⟨k + 1, rfl, by simp, by omega, B6', b6'⟩, by simp [intOf]; omega⟩
                  exact AllReady.nil
                exact AllReady.nil
              exact AllReady.nil
            exact AllReady.nil
          exact AllReady.nil
        exact AllReady.nil
      · gi_wp2_with fail
        refine wpIn_onlyN (wpIn_wide.2 ?_)
        refine wp_region_any (by kernel_rfl) ?_
        change wpAny _ _ _ _ _ _ _ (World.drew _)
        refine wpAny_take (i := 0) (v := ?v16) rfl (by kernel_rfl) (by kernel_rfl) (by kernel_rfl) (fun _ _ _ h => h) (Or.inl ⟨by rfl, ?h16⟩) ?_
        case h16 => (intro w; go_simp; try (with_reducible rfl))
        go_simp
        refine wpAny_take (i := 2) (v := ?v17) rfl (by kernel_rfl) (by kernel_rfl) (by kernel_rfl) (fun _ _ _ h => h) (Or.inl ⟨by rfl, ?h17⟩) ?_
        case h17 => (intro w; go_simp; try (with_reducible rfl))
        go_simp
        refine wpAny_take (i := 7) (v := ?v18) rfl (by kernel_rfl) (by kernel_rfl) (by kernel_rfl) (fun _ _ _ h => h) (Or.inl ⟨by rfl, ?h18⟩) ?_
        case h18 => (intro w; go_simp; try (with_reducible rfl))
        go_simp
        refine wpAny_ready (rs := [1, 6]) (by kernel_rfl) (by simp) ?_
        refine AllReady.cons rfl (fun K hK => ?_) ?_
        · go_simp
          refine hK _ _ ?_
          clear hK K
          refine wpAny_take (i := 3) (v := ?v19) rfl (by kernel_rfl) (by kernel_rfl) (by kernel_rfl) (fun _ _ _ h => h) (Or.inl ⟨by rfl, ?h19⟩) ?_
          case h19 => (intro w; go_simp; try (with_reducible rfl))
          go_simp
          refine wpAny_take (i := 4) (v := ?v20) rfl (by kernel_rfl) (by kernel_rfl) (by kernel_rfl) (fun _ _ _ h => h) (Or.inl ⟨by rfl, ?h20⟩) ?_
          case h20 => (intro w; go_simp; try (with_reducible rfl))
          go_simp
          refine wpAny_ready (rs := [5, 6]) (by kernel_rfl) (by simp) ?_
          refine AllReady.cons rfl (fun K hK => ?_) ?_
          · go_simp
            refine hK _ _ ?_
            clear hK K
            refine wpAny_ready (rs := [6]) (by kernel_rfl) (by simp) ?_
            refine AllReady.cons rfl (fun K hK => ?_) ?_
            · go_simp
              refine hK _ _ ?_
              clear hK K
              refine wpAny_take (i := 8) (v := ?v21) rfl (by kernel_rfl) (by kernel_rfl) (by kernel_rfl) (fun _ _ _ h => h) (Or.inl ⟨by rfl, ?h21⟩) ?_
              case h21 => (intro w; go_simp; try (with_reducible rfl))
              go_simp
              refine wpAny_take (i := 9) (v := ?v22) rfl (by kernel_rfl) (by kernel_rfl) (by kernel_rfl) (fun _ _ _ h => h) (Or.inl ⟨by rfl, ?h22⟩) ?_
              case h22 => (intro w; go_simp; try (with_reducible rfl))
              go_simp
              refine wpAny_ready (rs := [10]) (by kernel_rfl) (by simp) ?_
              refine AllReady.cons rfl (fun K hK => ?_) ?_
              · go_simp
                refine hK _ _ ?_
                clear hK K
                refine wpAny_ready (rs := [11]) (by kernel_rfl) (by simp) ?_
                refine AllReady.cons rfl (fun K hK => ?_) ?_
                · go_simp
                  go_wp2_with fail
                  refine (Bv.range_any M xk xv (xs.take k) M (· < M) _ (HBs.out.later (drew_b _)) (by simpa using hMw) (fun j hj => by have := hMw; simp; omega) (by omega) (fits_of hE k)).mono ?_
                  rintro e w6 ⟨rfl, B6, b6, K6⟩
                  rw [HN.out] at B6 ⊢
                  have B6' := hid B6
                  have b6' := hid (BB.out.trans ((drew_M _ M).trans b6))
                  clear B6 b6 K6
                  go_wp2_with fail
                  refine wpAny_ready (rs := [12]) (by kernel_rfl) (by simp) ?_
                  refine AllReady.cons rfl (fun K hK => ?_) ?_
                  · go_simp
                    refine hK _ _ ?_
                    clear hK K
                    refine wpAny_done (by kernel_rfl) (onlyN_mk ?_) _
                    gi_wp2_with fail
                    exact ⟨⟨k + 1, rfl, by simp, by omega, B6', b6'⟩, by simp [intOf]; omega⟩
                  exact AllReady.nil
                exact AllReady.nil
              exact AllReady.nil
            exact AllReady.nil
          refine AllReady.cons rfl (fun K hK => ?_) ?_
          · go_simp
            refine hK _ _ ?_
            clear hK K
            refine wpAny_take (i := 8) (v := ?v23) rfl (by kernel_rfl) (by kernel_rfl) (by kernel_rfl) (fun _ _ _ h => h) (Or.inl ⟨by rfl, ?h23⟩) ?_
            case h23 => (intro w; go_simp; try (with_reducible rfl))
            go_simp
            refine wpAny_take (i := 9) (v := ?v24) rfl (by kernel_rfl) (by kernel_rfl) (by kernel_rfl) (fun _ _ _ h => h) (Or.inl ⟨by rfl, ?h24⟩) ?_
            case h24 => (intro w; go_simp; try (with_reducible rfl))
            go_simp
            refine wpAny_ready (rs := [5, 10]) (by kernel_rfl) (by simp) ?_
            refine AllReady.cons rfl (fun K hK => ?_) ?_
            · go_simp
              refine hK _ _ ?_
              clear hK K
              refine wpAny_ready (rs := [10]) (by kernel_rfl) (by simp) ?_
              refine AllReady.cons rfl (fun K hK => ?_) ?_
              · go_simp
                refine hK _ _ ?_
                clear hK K
                refine wpAny_ready (rs := [11]) (by kernel_rfl) (by simp) ?_
                refine AllReady.cons rfl (fun K hK => ?_) ?_
                · go_simp
                  go_wp2_with fail
                  refine (Bv.range_any M xk xv (xs.take k) M (· < M) _ (HBs.out.later (drew_b _)) (by simpa using hMw) (fun j hj => by have := hMw; simp; omega) (by omega) (fits_of hE k)).mono ?_
                  rintro e w6 ⟨rfl, B6, b6, K6⟩
                  rw [HN.out] at B6 ⊢
                  have B6' := hid B6
                  have b6' := hid (BB.out.trans ((drew_M _ M).trans b6))
                  clear B6 b6 K6
                  go_wp2_with fail
                  refine wpAny_ready (rs := [12]) (by kernel_rfl) (by simp) ?_
                  refine AllReady.cons rfl (fun K hK => ?_) ?_
                  · go_simp
                    refine hK _ _ ?_
                    clear hK K
                    refine wpAny_done (by kernel_rfl) (onlyN_mk ?_) _
                    gi_wp2_with fail
                    exact ⟨⟨k + 1, rfl, by simp, by omega, B6', b6'⟩, by simp [intOf]; omega⟩
                  exact AllReady.nil
                exact AllReady.nil
              exact AllReady.nil
            refine AllReady.cons rfl (fun K hK => ?_) ?_
            · go_simp
              refine hK _ _ ?_
              clear hK K
              refine wpAny_ready (rs := [5]) (by kernel_rfl) (by simp) ?_
              refine AllReady.cons rfl (fun K hK => ?_) ?_
              · go_simp
                refine hK _ _ ?_
                clear hK K
                refine wpAny_ready (rs := [11]) (by kernel_rfl) (by simp) ?_
                refine AllReady.cons rfl (fun K hK => ?_) ?_
                · go_simp
                  go_wp2_with fail
                  refine (Bv.range_any M xk xv (xs.take k) M (· < M) _ (HBs.out.later (drew_b _)) (by simpa using hMw) (fun j hj => by have := hMw; simp; omega) (by omega) (fits_of hE k)).mono ?_
                  rintro e w6 ⟨rfl, B6, b6, K6⟩
                  rw [HN.out] at B6 ⊢
                  have B6' := hid B6
                  have b6' := hid (BB.out.trans ((drew_M _ M).trans b6))
                  clear B6 b6 K6
                  go_wp2_with fail
                  refine wpAny_ready (rs := [12]) (by kernel_rfl) (by simp) ?_
                  refine AllReady.cons rfl (fun K hK => ?_) ?_
                  · go_simp
                    refine hK _ _ ?_
                    clear hK K
                    refine wpAny_done (by kernel_rfl) (onlyN_mk ?_) _
                    gi_wp2_with fail
                    exact ⟨⟨k + 1, rfl, by simp, by omega, B6', b6'⟩, by simp [intOf]; omega⟩
                  exact AllReady.nil
                exact AllReady.nil
              exact AllReady.nil
            exact AllReady.nil
          exact AllReady.nil
        refine AllReady.cons rfl (fun K hK => ?_) ?_
        · go_simp
          refine hK _ _ ?_
          clear hK K
          refine wpAny_take (i := 8) (v := ?v25) rfl (by kernel_rfl) (by kernel_rfl) (by kernel_rfl) (fun _ _ _ h => h) (Or.inl ⟨by rfl, ?h25⟩) ?_
          case h25 => (intro w; go_simp; try (with_reducible rfl))
          go_simp
          refine wpAny_take (i := 9) (v := ?v26) rfl (by kernel_rfl) (by kernel_rfl) (by kernel_rfl) (fun _ _ _ h => h) (Or.inl ⟨by rfl, ?h26⟩) ?_
          case h26 => (intro w; go_simp; try (with_reducible rfl))
          go_simp
          refine wpAny_ready (rs := [1, 10]) (by kernel_rfl) (by simp) ?_
          refine AllReady.cons rfl (fun K hK => ?_) ?_
          · go_simp
            refine hK _ _ ?_
            clear hK K
            refine wpAny_take (i := 3) (v := ?v27) rfl (by kernel_rfl) (by kernel_rfl) (by kernel_rfl) (fun _ _ _ h => h) (Or.inl ⟨by rfl, ?h27⟩) ?_
            case h27 => (intro w; go_simp; try (with_reducible rfl))
            go_simp
            refine wpAny_take (i := 4) (v := ?v28) rfl (by kernel_rfl) (by kernel_rfl) (by kernel_rfl) (fun _ _ _ h => h) (Or.inl ⟨by rfl, ?h28⟩) ?_
            case h28 => (intro w; go_simp; try (with_reducible rfl))
            go_simp
            refine wpAny_ready (rs := [5, 10]) (by kernel_rfl) (by simp) ?_
            refine AllReady.cons rfl (fun K hK => ?_) ?_
            · go_simp
              refine hK _ _ ?_
              clear hK K
              refine wpAny_ready (rs := [10]) (by kernel_rfl) (by simp) ?_
              refine AllReady.cons rfl (fun K hK => ?_) ?_
              · go_simp
                refine hK _ _ ?_
                clear hK K
                refine wpAny_ready (rs := [11]) (by kernel_rfl) (by simp) ?_
                refine AllReady.cons rfl (fun K hK => ?_) ?_
                · go_simp
                  go_wp2_with fail
                  refine (Bv.range_any M xk xv (xs.take k) M (· < M) _ (HBs.out.later (drew_b _)) (by simpa using hMw) (fun j hj => by have := hMw; simp; omega) (by omega) (fits_of hE k)).mono ?_
                  rintro e w6 ⟨rfl, B6, b6, K6⟩
                  rw [HN.out] at B6 ⊢
                  have B6' := hid B6
                  have b6' := hid (BB.out.trans ((drew_M _ M).trans b6))
                  clear B6 b6 K6
                  go_wp2_with fail
                  refine wpAny_ready (rs := [12]) (by kernel_rfl) (by simp) ?_
                  refine AllReady.cons rfl (fun K hK => ?_) ?_
                  · go_simp
                    refine hK _ _ ?_
                    clear hK K
                    refine wpAny_done (by kernel_rfl) (onlyN_mk ?_) _
                    gi_wp2_with fail
                    exact ⟨⟨k + 1, rfl, by simp, by omega, B6', b6'⟩, by simp [intOf]; omega⟩
                  exact AllReady.nil
                exact AllReady.nil
              exact AllReady.nil
            refine AllReady.cons rfl (fun K hK => ?_) ?_
            · go_simp
              refine hK _ _ ?_
              clear hK K
              refine wpAny_ready (rs := [5]) (by kernel_rfl) (by simp) ?_
              refine AllReady.cons rfl (fun K hK => ?_) ?_
              · go_simp
                refine hK _ _ ?_
                clear hK K
                refine wpAny_ready (rs := [11]) (by kernel_rfl) (by simp) ?_
                refine AllReady.cons rfl (fun K hK => ?_) ?_
                · go_simp
                  go_wp2_with fail
                  refine (Bv.range_any M xk xv (xs.take k) M (· < M) _ (HBs.out.later (drew_b _)) (by simpa using hMw) (fun j hj => by have := hMw; simp; omega) (by omega) (fits_of hE k)).mono ?_
                  rintro e w6 ⟨rfl, B6, b6, K6⟩
                  rw [HN.out] at B6 ⊢
                  have B6' := hid B6
                  have b6' := hid (BB.out.trans ((drew_M _ M).trans b6))
                  clear B6 b6 K6
                  go_wp2_with fail
                  refine wpAny_ready (rs := [12]) (by kernel_rfl) (by simp) ?_
                  refine AllReady.cons rfl (fun K hK => ?_) ?_
                  · go_simp
                    refine hK _ _ ?_
                    clear hK K
                    refine wpAny_done (by kernel_rfl) (onlyN_mk ?_) _
                    gi_wp2_with fail
                    exact ⟨⟨k + 1, rfl, by simp, by omega, B6', b6'⟩, by simp [intOf]; omega⟩
                  exact AllReady.nil
                exact AllReady.nil
              exact AllReady.nil
            exact AllReady.nil
          refine AllReady.cons rfl (fun K hK => ?_) ?_
          · go_simp
            refine hK _ _ ?_
            clear hK K
            refine wpAny_ready (rs := [1]) (by kernel_rfl) (by simp) ?_
            refine AllReady.cons rfl (fun K hK => ?_) ?_
            · go_simp
              refine hK _ _ ?_
              clear hK K
              refine wpAny_take (i := 3) (v := ?v29) rfl (by kernel_rfl) (by kernel_rfl) (by kernel_rfl) (fun _ _ _ h => h) (Or.inl ⟨by rfl, ?h29⟩) ?_
              case h29 => (intro w; go_simp; try (with_reducible rfl))
              go_simp
              refine wpAny_take (i := 4) (v := ?v30) rfl (by kernel_rfl) (by kernel_rfl) (by kernel_rfl) (fun _ _ _ h => h) (Or.inl ⟨by rfl, ?h30⟩) ?_
              case h30 => (intro w; go_simp; try (with_reducible rfl))
              go_simp
              refine wpAny_ready (rs := [5]) (by kernel_rfl) (by simp) ?_
              refine AllReady.cons rfl (fun K hK => ?_) ?_
              · go_simp
                refine hK _ _ ?_
                clear hK K
                refine wpAny_ready (rs := [11]) (by kernel_rfl) (by simp) ?_
                refine AllReady.cons rfl (fun K hK => ?_) ?_
                · go_simp
                  go_wp2_with fail
                  refine (Bv.range_any M xk xv (xs.take k) M (· < M) _ (HBs.out.later (drew_b _)) (by simpa using hMw) (fun j hj => by have := hMw; simp; omega) (by omega) (fits_of hE k)).mono ?_
                  rintro e w6 ⟨rfl, B6, b6, K6⟩
                  rw [HN.out] at B6 ⊢
                  have B6' := hid B6
                  have b6' := hid (BB.out.trans ((drew_M _ M).trans b6))
                  clear B6 b6 K6
                  go_wp2_with fail
                  refine wpAny_ready (rs := [12]) (by kernel_rfl) (by simp) ?_
                  refine AllReady.cons rfl (fun K hK => ?_) ?_
                  · go_simp
                    refine hK _ _ ?_
                    clear hK K
                    refine wpAny_done (by kernel_rfl) (onlyN_mk ?_) _
                    gi_wp2_with fail
                    exact ⟨⟨k + 1, rfl, by simp, by omega, B6', b6'⟩, by simp [intOf]; omega⟩
                  exact AllReady.nil
                exact AllReady.nil
              exact AllReady.nil
            exact AllReady.nil
          exact AllReady.nil
        exact AllReady.nil
    · have e1 : k = len := by omega
      subst e1
      rw [List.take_of_length_le (by omega)] at HBs
      have eR : Jo.encR s xs = (0, enc s xs) := by unfold Jo.encR; rw [if_pos hE]
      have eZ : szr xs = ((bsz xs : Int), 0) := by unfold szr; rw [if_pos (encE_ok hE).1]
      obtain ⟨t1, t2, t3, t4⟩ := items_enc hs hE
      have ks : Boxed wr n0 28 (.int .u64 s) := (bW.out.block _ k4.out.lt).trans k4.out
      have kr : Boxed wr (n0 + 1 + 1) 4 (.bool false) := (bW.out.block _ k6.out.lt).trans k6.out
      have cs := ks.cell
      have HY := hid (Bv.bytes_any M s xs M (· < M) wr HBs.out (fits_all hE) hs)
      rw [eR] at HY
      have R9 := By.row_below R4.out bW.out
      have hbl : 12 ≤ bsz xs := by unfold bsz; omega
      replace OW := hid OW
      replace ks := hid ks
      replace kr := hid kr
      replace R9 := hid R9
      replace t1 := hid t1
      have ik : ¬ (k : Int) < (k : Int) := by omega
      gi_wp2_with fail
      refine ⟨trivial, (callsIn_wide.2 HY.out).mono ?_⟩
      rintro e w6 ⟨v, rfl, hRs, b6⟩
      obtain ⟨av, cv, rfl, HB6⟩ := hRs.bytes (enc_bytes s xs (all_may xs (chk_parts (encE_ok hE).1).2.1))
      have kA := Bytes.conv HB6
      have b46 := hid (bW.out.trans (b6.mono bW.out.size))
      have O6 := hid (OW.out.later b6)
      have HZ := hid (Ob.size_any a k cap xs w6 O6.out hl)
      rw [eZ] at HZ
      have cw6 := (show Boxed w6 _ _ _ from (b6.block _ kw.out.lt).trans kw.out).cell
      have hel := t4
      rw [t4] at HB6 kA ⊢
      replace HB6 := hid HB6
      replace hRs := hid hRs
      replace b6 := hid b6
      replace kA := hid kA
      clear cs cw
      gi_wp2_with fail
      refine ⟨trivial, (callsIn_wide.2 HZ.out).mono ?_⟩
      rintro e w7 ⟨rfl, b7⟩
      have b67 := hid (b6.out.trans (b7.mono b6.out.size))
      have R7 := hid (By.row_below R9.out b67.out)
      have BY7 := hid (R7.out.bytes (enc_bytes s xs (all_may xs (chk_parts (encE_ok hE).1).2.1)))
      have HH := hid (Hd.head_ok (some ⟨g, 0, none⟩) (bsz xs) c (enc s xs) w7 BY7.out (by have := (chk_parts (encE_ok hE).1); omega) hbl)
      rw [t2, t3] at HH
      have ks7 := hid (show Boxed w7 n0 28 (.int .u64 s) from (b67.out.block _ ks.out.lt).trans ks.out)
      have kw7 := hid (show Boxed w7 (n0 + 1) 26 (.slice a k cap) from (b67.out.block _ kw.out.lt).trans kw.out)
      have kr7 := hid (show Boxed w7 (n0 + 1 + 1) 4 (.bool false) from (b67.out.block _ kr.out.lt).trans kr.out)
      have O7 := hid (O6.out.later b7)
      have kA7 := Bytes.conv (bytes_kept HB6.out b7)
      have kB7 := Bytes.conv BY7.out
      have B7 := hid (B4.out.trans ((bW.out.trans (b67.out.mono bW.out.size)).mono (by have := k4.out.lt; omega)))
      have cs7 := ks7.out.cell
      have cw7 := kw7.out.cell
      rw [hx1] at HH
      generalize str (enc s xs) = zz at kA7 kB7
      replace b7 := hid b7
      clear cw6 kA
      gi_wp2_with fail
      refine ⟨trivial, (callsIn_wide.2 HH.out).mono ?_⟩
      rintro e w7' ⟨rfl, rfl⟩
      obtain ⟨ib, hib⟩ : ∃ ib, ib = w7'.heap.size := ⟨_, rfl⟩
      obtain ⟨W8, hW8⟩ : ∃ W8, W8 = w7'.alloc (.cells #[.int .i64 0] 3) := ⟨_, rfl⟩
      have s8 : W8.heap.size = ib + 1 := by rw [hW8, hib]; simp
      have b8 : Below w7'.heap.size w7' W8 := by rw [hW8]; exact box_below _ _
      have ki8 : Boxed W8 ib 3 (.int .i64 0) := by rw [hW8]; exact new_box hib _ _
      have HW := hid (walk_any (some ⟨g, 0, none⟩) (bsz xs) c (enc s xs) W8 (bytes_kept BY7.out b8) (by have := (chk_parts (encE_ok hE).1); omega))
      replace hib := hid hib
      replace hW8 := hid hW8
      replace s8 := hid s8
      replace b8 := hid b8
      replace ki8 := hid ki8
      gi_wp2_with fail
      rw [← hW8.out, ← hib.out]
      refine ⟨trivial, (callsIn_wide.2 HW.out).mono ?_⟩
      rintro e w9 ⟨a', c', bx, rfl, hbx, hbx1, HB9, b9, hlt9⟩
      clear kA7 kB7 cs7 cw7 HH HZ HY
      replace hbx := hid hbx
      replace HB9 := hid HB9
      replace b9 := hid b9
      replace hlt9 := hid hlt9
      gi_wp2_with fail
      obtain ⟨N, hN⟩ : ∃ N, N = w9.heap.size := ⟨_, rfl⟩
      have hbN : bx < N := by rw [hN]; exact hbx.out.lt
      have hibN : ib + 1 ≤ N := by have := b9.out.size; have := s8.out; omega
      have hbi : ib < bx := by have := s8.out; omega
      have hin : n0 + 1 + 1 < ib := by rw [hib.out]; exact kr7.out.lt
      have b79 := hid (b8.out.trans (b9.out.mono b8.out.size))
      have ki9 := hid (show Boxed w9 ib 3 (.int .i64 0) from (b9.out.block _ ki8.out.lt).trans ki8.out)
      have FB := hid (fun V (h : Keep N ib w9 V) => b79.out.trans (by rw [← hib.out]; exact h.low ib (by omega) (Nat.le_refl _)) : ∀ V, Keep N ib w9 V → Below w7'.heap.size w7' V)
      obtain ⟨Rl, hRl⟩ : ∃ Rl : World → World → Prop, Rl = fun A B => A.heap.size ≤ B.heap.size ∧ ∀ j, j < N → j ≠ ib → B.heap[j]? = A.heap[j]? := ⟨_, rfl⟩
      have hRo : Rok N Rl := by
        subst hRl
        exact ⟨fun A => ⟨Nat.le_refl _, fun _ _ _ => rfl⟩, fun h k => ⟨Nat.le_trans h.1 k.1, fun j h1 h2 => (k.2 j h1 h2).trans (h.2 j h1 h2)⟩, fun A B hA hb => ⟨hb.size, fun j h1 _ => hb.block j (by omega)⟩, fun A B h => h.1⟩
      have hBy : Hid (∀ W1 W', Below w9.heap.size w9 W1 → Rl W1 W' → Bytes W' a' (bsz xs) c' (enc s xs)) := by
        intro W1 W' h1 h2
        subst hRl
        refine bytes_other (bytes_kept HB9.out h1) (fun x e h => ?_)
        have := hlt9.out x.block (by rw [e]; rfl)
        exact h2.2 _ (by have := s8.out; omega) (by have := s8.out; omega)
      replace hRo := hid hRo
      replace hRl := hid hRl
      replace hN := hid hN
      have hxl : xs.length ≤ 4096 := (chk_parts (encE_ok hE).1).1
      refine range_q (F := Fence.wide) (n := 8) encs rfl (by omega) (gf := 54) (lb := #[.pointer (some ⟨bx, 0, none⟩)]) rfl trivial (enters_of Try.func54 (by kernel_rfl) rfl) (fun _ => rfl)
        (fun ys V => Boxed V ib 3 (.int .i64 ((ys.length : Nat) : Int)) ∧ Keep N ib w9 V) (fun _ _ _ => False) (fun pre x => pre ++ [x] <+: items (enc s xs)) (Kq Rl bx) (fun ys _ _ => ys = items (enc s xs)) (fun _ => True)
        (fun ys V o h => ⟨(box_below V o).block _ h.1.lt |>.trans h.1, h.2.trans (Keep.below ((box_below V o).mono (by have := h.2.size; have := hN.out; omega)))⟩)
        (fun ys V V' q h gr hq hc => ⟨h.1.kept gr (by simp; have := hN.out; omega), h.2.grown gr (by have := h.2.size; have := hN.out; omega) (fun q e => by cases e; left; have := hN.out; omega)⟩)
        (fun _ _ _ _ _ h => h.elim)
        (fun A B hA hb => ⟨hRo.out.rg A B (by have := hN.out; omega) hb, hb.block _ (by have := hN.out; omega)⟩) (fun h q => ⟨hRo.out.rt h.1 q.1, q.2.trans h.2⟩)
        (fun V l o o' hl' ho hc => ⟨by rw [hRl.out]; exact ⟨by simp [World.putObj], fun j h1 h2 => World.putObj_heap_other (by have := hN.out; omega)⟩, World.putObj_heap_other (by have := hN.out; omega)⟩)
        ⟨by simpa using ki9.out, Keep.refl _ _ _⟩ ?seq
        (fun Y x a'' V => ∃ Bo : Nat, V.heap[Bo]? = some (.cells #[.int .i64 x.2.c, .string x.2.k, .string x.2.v] 60) ∧ a'' = { tmps := #[.int .u64 s, .slice a k cap, .pointer (some ⟨n0, 0, none⟩), .pointer (some ⟨n0 + 1, 0, none⟩), .pointer (some ⟨n0 + 1 + 1, 0, none⟩), .slice (some ⟨g, 0, none⟩) (bsz xs) c, .int .i64 0, .pointer (some ⟨M, 0, none⟩), .int .i64 (k : Int), .slice av (bsz xs) cv, .int .i64 ((bsz xs : Nat) : Int), .int .i64 0, .int .u64 s, .int .i64 (k : Int), .int .i64 0, .pointer (some ⟨ib, 0, none⟩), .int .u64 x.1, .pointer (some ⟨Bo, 0, none⟩), .bool true, .bool false, .tuple #[.slice (some ⟨g, 0, none⟩) (bsz xs) c, .int .i64 0], .int .u64 s, .slice a k cap, .tuple #[.slice (some ⟨g, 0, none⟩) (bsz xs) c, .int .i64 0], .slice (some ⟨g, 0, none⟩) (bsz xs) c, .int .i64 0, .int .i64 0, .bool false, undef, undef, undef, .pointer (some ⟨M, 0, none⟩), .pointer (some ⟨M, 0, none⟩), .bool false, .int .i64 (k : Int), .slice a k cap, .int .i64 (k : Int), .bool false, u38, u39, u40, u41, u42, u43, u44, u45, u46, u47, u48, u49, u50, u51, u52, u53, u54, u55, u56, u57, u58, u59, u60, u61, u62, u63, u64, u65, u66, u67, u68, u69, u70, u71, u72, u73, u74, u75, u76, u77, u78, u79, u80, u81, u82, u83, .tuple #[.slice av (bsz xs) cv, .int .i64 0], .pointer (some ⟨M, 0, none⟩), .int .u64 s, .tuple #[.slice av (bsz xs) cv, .int .i64 0], .slice av (bsz xs) cv, .int .i64 0, .tuple #[.int .i64 ((bsz xs : Nat) : Int), .int .i64 0], .slice a k cap, .tuple #[.int .i64 ((bsz xs : Nat) : Int), .int .i64 0], .int .i64 ((bsz xs : Nat) : Int), .int .i64 0, .tuple #[.int .u64 s, .int .i64 (k : Int), .int .i64 0], .slice (some ⟨g, 0, none⟩) (bsz xs) c, .tuple #[.int .u64 s, .int .i64 (k : Int), .int .i64 0], .int .u64 s, .int .i64 (k : Int), .int .i64 0, .int .i64 0, .bool false, .bool false, .slice av (bsz xs) cv, .string zz, .slice (some ⟨g, 0, none⟩) (bsz xs) c, .string zz, .bool false, .bool false, .bool false, .int .i64 ((bsz xs : Nat) : Int), .slice (some ⟨g, 0, none⟩) (bsz xs) c, .int .i64 ((bsz xs : Nat) : Int), .bool false, .bool false, .bool false, .int .i64 0, .bool false, .bool false, .bool false, .int .u64 s, .int .u64 s, .bool false, .bool false, .bool false, .int .i64 (k : Int), .slice a k cap, .int .i64 (k : Int), .bool false, .bool false, .bool false, .int .i64 0, .bool false, .bool false, .slice (some ⟨g, 0, none⟩) (bsz xs) c, .func (.func 54) #[] #[.pointer (some ⟨bx, 0, none⟩)], .int .u64 x.1, .agg #[.int .i64 x.2.c, .string x.2.k, .string x.2.v], undef, undef, undef, undef, undef, undef, undef, undef, undef, undef, undef, undef, undef, undef, undef, undef, undef, undef, undef, undef, undef, undef, undef, undef, undef, undef], defers := [] })
        ?hAx ?assign ?body ?done ?stop
      case seq =>
        intro l J Jx W1 hB1 hY h0
        refine (each_g 7 (by omega) l bx N Rl hRo.out a' (bsz xs) c' (enc s xs) J Jx (by have := (chk_parts (encE_ok hE).1); omega) hY W1 ((hB1.block _ hbx.out.lt).trans hbx.out) (fun W' h' => hBy.out W1 W' hB1 h') (by have := hB1.size; have := hN.out; omega) h0).mono ?_
        rintro r W' ⟨hv, (⟨W0, h1, h2⟩ | ⟨pre, h1, h2⟩)⟩
        · exact ⟨hv, .inl ⟨_, W0, h1, h2, rfl⟩⟩
        · exact ⟨hv, .inr ⟨pre, trivial, h2⟩⟩
      case hAx =>
        rintro Y x a'' V V' j ⟨Bo, h1, h2⟩ hg' hc
        refine ⟨Bo, (hg'.block Bo (blk_lt h1) (fun e => ?_)).trans h1, h2⟩
        cases e
        exact hc _ _ _ h1
      case assign =>
        intro l x V K1 hK1
        simp only [encs]
        gi_wp2
        exact hK1 _ _ (box_below _ _) ⟨V.heap.size, new_at _ _, rfl⟩
      case body =>
        rintro l pre x a'' W0 WY W1 V hI h0Y h01 hfr h12 hl' hlo hnc ⟨Bo, hBo, rfl⟩
        have hiV : Boxed V ib 3 (.int .i64 ((pre.length : Nat) : Int)) := Boxed.kept ((h01.block _ hI.1.lt).trans hI.1) h12 (by simp; have := hN.out; omega)
        have hkV : Keep N ib w9 V := (hI.2.trans (Keep.below (h01.mono (by have := hI.2.size; have := hN.out; omega)))).grown h12 (by have := hI.2.size; have := h01.size; have := hN.out; omega) (fun q e => by cases e; left; have := hN.out; omega)
        rw [t1.out] at hfr
        obtain ⟨hk', rfl⟩ := pre_item hfr
        have bV := FB.out V hkV
        have OV := O7.out.later bV
        obtain ⟨b, o, rfl, hat⟩ : ∃ b o, a = some ⟨b, o, none⟩ ∧ At3 V b (o + pre.length * 3) (xs.getD pre.length zo) := by
          cases a with
          | none => have := OV.2.2.1 rfl; omega
          | some ad =>
            obtain ⟨b, o, p⟩ := ad
            obtain ⟨rfl, h⟩ := OV.2.2.2.2 b o p rfl (by omega)
            exact ⟨b, o, rfl, h _ (by omega)⟩
        have hcv := OV.2.1
        have cs := (show Boxed V n0 28 (.int .u64 s) from (bV.block _ ks7.out.lt).trans ks7.out).cell
        have co := (show Boxed V (n0 + 1) 26 (.slice (some ⟨b, o, none⟩) k cap) from (bV.block _ kw7.out.lt).trans kw7.out).cell
        have ci := hiV.cell
        have fi := hiV.frozen
        revert hat hBo
        generalize xs.getD pre.length zo = x
        obtain ⟨xc, xk, xv⟩ := x
        intro hBo hat
        obtain ⟨q0, q1, q2⟩ := hat
        dsimp only at q0 q1 q2 hBo
        have y0 := cell_of hBo 0 _ rfl
        have y1 := cell_of hBo 1 _ rfl
        have y2 := cell_of hBo 2 _ rfl
        obtain ⟨j, hj⟩ : ∃ j, j = pre.length := ⟨_, rfl⟩
        rw [← hj] at ci q0 q1 q2 hk' ⊢
        have hjk : j < k := by omega
        have hkx : k ≤ 4096 := by omega
        have g1 : decide ((k : Int) ≤ (j : Int)) = false := decide_eq_false (by omega)
        have g2 : decide (k ≤ j) = false := decide_eq_false (by omega)
        have ij : (j : Int) < (k : Int) := by omega
        have kwj : IntKind.u64.wrap (j : Int) = (j : Int) := by simp [IntKind.wrap, IntKind.bits, IntKind.signed]; omega
        have nn : (IntKind.u64.wrap (s + (j : Int)) != IntKind.u64.wrap (s + (j : Int))) = false := bne_self_eq_false _
        replace hI := hid hI
        replace hBo := hid hBo
        replace hj := hid hj
        replace hiV := hid hiV
        replace hkV := hid hkV
        replace bV := hid bV
        replace OV := hid OV
        clear hfr
        gi_wp2_with fail
        refine Qi.region_round (by kernel_rfl) (by kernel_rfl) (by kernel_rfl) ?_
        repeat (quiet_step_in (fail))
        refine wpQuietIn_nil ?_
        intro _ hw'
        obtain ⟨nq, hw''⟩ := hw'
        subst hw''
        have kw2 : wrap64 ((j : Int) + 1) = (j : Int) + 1 := IntWalk.wrap64_in _ ⟨by omega, by omega⟩
        have iD : Boxed (V.drewN nq) ib 3 (.int .i64 (j : Int)) := by rw [hj.out]; exact hiV.out
        have ci3 := iD.cell
        have fi3 := iD.frozen
        have iS := hid (Boxed.set (.int .i64 ((j : Int) + 1)) iD)
        have kS : Hid (Keep N ib w9 ((V.drewN nq).setCell ⟨ib, 0, none⟩ (.int .i64 ((j : Int) + 1)))) := ⟨hkV.out.os, hkV.out.tape, hkV.out.output, by simpa using hkV.out.size, fun q h1 h2 => ((set_ne _ _ _ _ _ h2).trans (heap_drewN _ _ _)).trans (hkV.out.block q h1 h2)⟩
        have kP : Hid (Kq Rl bx V ((V.drewN nq).setCell ⟨ib, 0, none⟩ (.int .i64 ((j : Int) + 1)))) := ⟨by rw [hRl.out]; exact ⟨by simp, fun q h1 h2 => (set_ne _ _ _ _ _ h2).trans (heap_drewN _ _ _)⟩, (set_ne _ _ _ _ _ (by omega)).trans (heap_drewN _ _ _)⟩
        have kN : Hid (KeepsFrom w9.heap.size V ((V.drewN nq).setCell ⟨ib, 0, none⟩ (.int .i64 ((j : Int) + 1)))) := ((keeps_drew V nq).trans (KeepsOthers.setCell _ _ _)).from _
        replace iD := hid iD
        clear q0 q1 q2 y0 y1 y2 cs co ci fi g1 g2 ij kwj nn hcv h01 h12 hBo
        generalize V.drewN nq = WD at *
        gi_wp2_with fail
        refine ⟨kN.out, kP.out, ?_, kS.out⟩
        rw [List.length_append, List.length_singleton, ← hj.out]
        exact iS.out
      case done =>
        intro D l ys W0 V V' hD hI hB hF hgr hl' hnc hd
        have hkV : Keep N ib w9 V' := (hI.2.trans (Keep.below (hB.mono (by have := hI.2.size; have := hN.out; omega)))).grown hgr (by have := hI.2.size; have := hB.size; have := hN.out; omega) (fun q e => by cases e; left; have := hN.out; omega)
        have hiV : Boxed V' ib 3 (.int .i64 ((ys.length : Nat) : Int)) := Boxed.kept ((hB.block _ hI.1.lt).trans hI.1) hgr (by simp; have := hN.out; omega)
        rw [hF, t1.out, num_len, hx1] at hiV
        have bV := FB.out V' hkV
        have kr8 : Boxed V' (n0 + 1 + 1) 4 (.bool false) := (bV.block _ kr7.out.lt).trans kr7.out
        have co := (show Boxed V' (n0 + 1) 26 (.slice a k cap) from (bV.block _ kw7.out.lt).trans kw7.out).cell
        have ci := hiV.cell
        have cr := kr8.cell
        have fr := kr8.frozen
        have kr9 := hid (kr8.set (.bool true))
        have hd2 : Hid ((V'.setCell ⟨n0 + 1 + 1, 0, none⟩ (.bool true)).heap[D]? = some (.deferred (some []))) := (set_ne _ _ _ _ _ (by have := hN.out; omega)).trans hd
        have hlow : Hid (Below n0 w (V'.setCell ⟨n0 + 1 + 1, 0, none⟩ (.bool true))) := by
          have h1 : Below n0 w V' := B7.out.trans (bV.mono (by rw [← hib.out]; omega))
          exact h1.setCell (p := ⟨n0 + 1 + 1, 0, none⟩) (by simp; omega) _
        have bbk : ((k : Int) == (k : Int)) = true := beq_self_eq_true _
        replace hiV := hid hiV
        replace hkV := hid hkV
        replace bV := hid bV
        replace kr8 := hid kr8
        replace hd := hid hd
        clear hI hB hgr hnc
        gi_wp2_with fail
        refine ⟨by simp, .inl ⟨_, _, rfl, run_takeDeferred hd2.out, ?_⟩⟩
        have e1 : ((V'.setCell ⟨n0 + 1 + 1, 0, none⟩ (.bool true)).putObj D (.deferred none)).cell? ⟨n0 + 1 + 1, 0, none⟩ = some (.bool true) := (cell_same (World.putObj_heap_other (by have := hN.out; omega)) _).trans kr9.out.cell
        refine ⟨.bool true, ?_, rfl, ?_⟩
        · simp [results, Try.results7, go_sem, e1]
        · rw [← hn0.out]
          exact hlow.out.trans (belowK_b' (w := w9) (by have := hN.out; omega) _ D _ _ hD hd2.out)
      case stop =>
        intro D cc pre V hD _ hx
        exact hx.elim
end Go.Proofs.Ytmceanfgcehfeab.Wx

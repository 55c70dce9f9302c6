/- IkeySorts, walked. -/
import Derived.Test.YtbpgifpplnmjmaaRsd
import Derived.Test.YtbpgifpplnmjmaaSm
import Derived.Test.YtbpgifpplnmjmaaRnw
import Derived.Test.YtbpgifpplnmjmaaKr
import Derived.Deep.CutRange
import Derived.OrdersHeld
namespace Go.Proofs.Ytbpgifpplnmjmaa.So
open Go.ChangeShapes Go.WideShapes Go.ChangeAt Go.RowKit
open Go.Sort (grow)
open Go.Proofs.Ytbpgifpplnmjmaa.Gr hiding hid addr_add
open Go.Proofs.Ytbpgifpplnmjmaa.Ac
open Go.Proofs.Ytbpgifpplnmjmaa.Ik
open Go.Proofs.Ytbpgifpplnmjmaa.Ee
open Go.Proofs.Ytbpgifpplnmjmaa.Sb
open Go.Proofs.Ytbpgifpplnmjmaa.Ew
open Go.Proofs.Ytbpgifpplnmjmaa.Sd hiding below_grown
open Go.Proofs.Ytbpgifpplnmjmaa.Rsd
open Go.Proofs.Ytbpgifpplnmjmaa.Nw (newest newest_any c4)
open Go.Proofs.Ytbpgifpplnmjmaa.Nw (rnewest_any)
open Go.Proofs.Ytbpgifpplnmjmaa.Kd (names_any)
set_option linter.unusedVariables false
set_option linter.unusedSimpArgs false

theorem one_sl {W : World} {g : Nat} {x : E} (h : W.heap[g]? = some (.cells (eE.cs x).toArray 55)) (hx : x.ok) : eE.Sl W (some ⟨g, 0, none⟩) 1 1 [x] := by
  refine ⟨rfl, Nat.le_refl _, (fun e => by cases e), ?_, ?_⟩
  · intro y hy
    rw [List.mem_singleton] at hy
    subst hy
    exact hx
  · intro b o p e hl
    cases e
    refine ⟨rfl, fun i hi q u hq => ?_⟩
    have h0 : i = 0 := by omega
    subst h0
    have := cell_of h q u (by rw [List.getElem?_toArray]; exact hq)
    simpa using this
theorem text_self (a : ByteArray) : (a.toList == a.toList) = true := beq_self_eq_true _
set_option maxHeartbeats 1000000 in
theorem run_eq (a : ByteArray) (s c : Int) (v : ByteArray) (w : World) : (binOp .eql 55 (.agg #[.string a, .int .u64 s, .int .i64 c, .string v]) (.agg #[.string a, .int .u64 s, .int .i64 c, .string v])).run Try.prog w = .ok (.bool true) w := by
  have h1 := text_self a
  have h2 := text_self v
  go_simp
  try rfl

set_option maxHeartbeats 4000000 in
set_option maxRecDepth 100000 in
theorem sorts_any (la : Option Addr) (ln lc : Nat) (xs : List E) (key : ByteArray) (seq : Int) (w : World) (H : Ents w la ln lc xs) (hl : ln ≤ 140737488351232 / 48) (hkz : key.size ≤ maxLen) :
    Calls Try.prog 7 #[.slice la ln lc, .string key, .int .u64 seq] w fun e w' => e = .returned (.bool true) ∧ Below w.heap.size w w' := by
  have hln : Hid (xs.length = ln) := H.1
  have hnc := H.2.1
  have HL : Hid (∀ W, Below w.heap.size w W → Ents W la ln lc xs) := fun W b => H.later b
  have HS : Hid (∀ W, Below w.heap.size w W → eE.Sl W la ln lc xs) := fun W b => sl_of (H.later b)
  obtain ⟨mk, hmk⟩ : ∃ m : ByteArray, m = ⟨#[109, 97, 114, 107]⟩ := ⟨_, rfl⟩
  have hmok : Hid ((⟨mk, 1152921504606846976, 0, ⟨#[]⟩⟩ : E).ok) := by
    show E.ok _
    rw [hmk]
    refine ⟨?_, ⟨by show (0 : Int) ≤ 1152921504606846976; omega, by show (1152921504606846976 : Int) ≤ 18446744073709551615; omega⟩, ⟨by show (-9223372036854775808 : Int) ≤ 0; omega, by show (0 : Int) ≤ 9223372036854775807; omega⟩, ?_⟩
    · show (4 : Nat) ≤ maxLen; unfold maxLen; omega
    · show (0 : Nat) ≤ maxLen; unfold maxLen; omega
  have hxok : Hid (∀ x ∈ xs, x.ok) := H.2.2.2.1
  obtain ⟨gx, hgx⟩ : ∃ g, g = w.heap.size := ⟨_, rfl⟩
  obtain ⟨W1, hW1⟩ : ∃ W, W = w.alloc (.cells #[.string mk, .int .u64 1152921504606846976, .int .i64 0, .string ⟨#[]⟩] 55) := ⟨_, rfl⟩
  have kx : W1.heap[gx]? = some (.cells #[.string mk, .int .u64 1152921504606846976, .int .i64 0, .string ⟨#[]⟩] 55) := by rw [hW1, hgx]; exact new_at _ _
  have bx : Below w.heap.size w W1 := by rw [hW1]; exact box_below _ _
  have hk : Hid (∀ W, Below W1.heap.size W1 W → W.heap[gx]? = some (.cells #[.string mk, .int .u64 1152921504606846976, .int .i64 0, .string ⟨#[]⟩] 55)) := fun W b => (b.block _ (blk_lt kx)).trans kx
  have hgl : Hid (gx < W1.heap.size) := blk_lt kx
  replace bx := hid bx
  rw [hmk] at hW1
  replace hW1 := hid hW1
  replace hgx := hid hgx
  replace hmk := hid hmk
  clear H kx
  go_enter Try.func7, Try.ntmps7
  go_upto_region 2 with fail
  rw [← hW1.out, ← hgx.out]
  go_cut [8] from 18 to 23 (fun v wx => ∃ g c, v = .slice (some ⟨g, 0, none⟩) (ln + 1) c ∧ Hid (Acc eE W1 wx (.slice (some ⟨g, 0, none⟩) (ln + 1) c) (xs ++ [(⟨mk, 1152921504606846976, 0, ⟨#[]⟩⟩ : E)])))
  case first =>
    refine wp_region_held_drew (S := fun V => Below W1.heap.size W1 V) (by kernel_rfl) (drew_below _) (fun hS => ?_)
    generalize World.drew W1 = D at *
    refine wpAnyH_take (i := 1) (v := ?v1) rfl (by kernel_rfl) (by kernel_rfl) (by kernel_rfl) (fun _ _ _ h => h) (Or.inl ⟨by rfl, ?h1⟩) hS ?_
    case h1 => (intro W hW; go_simp; try (with_reducible rfl))
    go_simp
    refine wpAnyH_take (i := 3) (v := ?v2) rfl (by kernel_rfl) (by kernel_rfl) (by kernel_rfl) (fun _ _ _ h => h) (Or.inl ⟨by rfl, ?h2⟩) hS ?_
    case h2 => (intro W hW; have q0 := cell_of (hk.out _ hW) 0 _ rfl; have q1 := cell_of (hk.out _ hW) 1 _ rfl; have q2 := cell_of (hk.out _ hW) 2 _ rfl; have q3 := cell_of (hk.out _ hW) 3 _ rfl; go_simp; try (with_reducible rfl))
    go_simp
    refine wpAnyH_ready (rs := [0, 4]) (by kernel_rfl) (by simp) ?_
    refine AllReadyH.cons rfl (fun K hK => ?_) ?_
    · go_simp
      have A : Hid (Acc eE W1 (D.alloc (.cells #[] 55)) (.slice (some ⟨D.heap.size, 0, none⟩) 0 0) []) := Acc.from_ (Acc.made eE D) hS
      have bb := box_below D (.cells #[] 55)
      have hS' := hid (Below.up hS bb)
      clear bb
      refine hK.out _ _ hS'.out (fun hS => ?_)
      clear hK K hS'
      generalize hy0 : D.alloc (.cells #[] 55) = y0 at *
      generalize hg0 : D.heap.size = g0 at *
      clear hy0 hg0
      refine wpAnyH_ready (rs := [2, 4]) (by kernel_rfl) (by simp) ?_
      refine AllReadyH.cons rfl (fun K hK => ?_) ?_
      · obtain ⟨v2, y2, r2, o2, gr2, q2⟩ := El.app eE y0 W1.heap.size _ _ A.out.o la ln lc xs (HS.out _ (Below.up bx.out hS)) (by show (0 + ln) * 48 ≤ _; omega) (by show 0 + ln ≤ _; omega) A.out.sz
        have A2 : Acc eE W1 y2 v2 ([] ++ xs) := ⟨o2, below_grown A.out.lo A.out.sz gr2 (fun j hj => (own_lt A.out.o j hj).1)⟩
        rw [List.nil_append] at A2
        clear o2 gr2 q2 A
        have A := hid A2
        clear A2
        obtain ⟨a2, c2, hv2⟩ := A.out.shape
        obtain ⟨n2, hn2⟩ : ∃ n, n = xs.length := ⟨_, rfl⟩
        rw [← hn2] at hv2
        replace hn2 := hid hn2
        subst hv2
        replace r2 := hid r2
        refine wp_append_run (.tmp 18) (.tmp 19) 53 53 rfl (.slice (some ⟨g0, 0, none⟩) 0 0) (.slice la ln lc) (.slice a2 n2 c2) (by go_simp) (by go_simp) r2.out ?_
        go_simp
        refine hK.out _ _ A.out.lo (fun hS => ?_)
        clear hK K
        refine wpAnyH_ready (rs := [4]) (by kernel_rfl) (by simp) ?_
        refine AllReadyH.cons rfl (fun K hK => ?_) ?_
        · go_simp
          have kE := hid (new_at y2 (.cells #[.string mk, .int .u64 1152921504606846976, .int .i64 0, .string ⟨#[]⟩] 55))
          have bb := box_below y2 (.cells #[.string mk, .int .u64 1152921504606846976, .int .i64 0, .string ⟨#[]⟩] 55)
          have hS' := hid (Below.up hS bb)
          replace A := hid (A.out.later bb)
          clear bb
          refine hK.out _ _ hS'.out (fun hS => ?_)
          clear hK K hS'
          generalize hy4 : y2.alloc (.cells #[.string mk, .int .u64 1152921504606846976, .int .i64 0, .string ⟨#[]⟩] 55) = y4 at *
          generalize hg4 : y2.heap.size = g4 at *
          clear hy4 hg4
          refine wpAnyH_ready (rs := [5]) (by kernel_rfl) (by simp) ?_
          refine AllReadyH.cons rfl (fun K hK => ?_) ?_
          · obtain ⟨v5, y5, r5, A5⟩ := A.out.app (one_sl (x := (⟨mk, 1152921504606846976, 0, ⟨#[]⟩⟩ : E)) kE.out hmok.out) (by rw [hln.out]; show (ln + 1) * 48 ≤ _; omega) (by rw [hln.out]; omega)
            obtain ⟨g5, c5, hv5⟩ := A5.nn (by simp)
            rw [List.length_append, hln.out] at hv5
            change v5 = .slice (some ⟨g5, 0, none⟩) (ln + 1) c5 at hv5
            subst hv5
            replace A5 := hid A5
            replace r5 := hid r5
            refine wp_append_run (.tmp 20) (.tmp 22) 53 53 rfl (.slice a2 n2 c2) (.slice (some ⟨g4, 0, none⟩) 1 1) (.slice (some ⟨g5, 0, none⟩) (ln + 1) c5) (by go_simp) (by go_simp) r5.out ?_
            go_simp
            refine hK.out _ _ A5.out.lo (fun hS => ?_)
            clear hK K
            refine wpAnyH_take (i := 6) (v := ?v3) rfl (by kernel_rfl) (by kernel_rfl) (by kernel_rfl) (fun _ _ _ h => h) (Or.inl ⟨by rfl, ?h3⟩) hS ?_
            case h3 => (intro W hW; go_simp; try (with_reducible rfl))
            go_simp
            refine wpAnyH_done (by kernel_rfl) ?_ _
            go_wp2_with fail
            go_meet
            case rel => exact ⟨g5, c5, rfl, A5⟩
          exact AllReadyH.nil
        exact AllReadyH.nil
      refine AllReadyH.cons rfl (fun K hK => ?_) ?_
      · go_simp
        have kE := hid (new_at y0 (.cells #[.string mk, .int .u64 1152921504606846976, .int .i64 0, .string ⟨#[]⟩] 55))
        have bb := box_below y0 (.cells #[.string mk, .int .u64 1152921504606846976, .int .i64 0, .string ⟨#[]⟩] 55)
        have hS' := hid (Below.up hS bb)
        have hlt := hid (own_lt A.out.o g0 rfl).2
        replace A := hid (A.out.later bb)
        clear bb
        refine hK.out _ _ hS'.out (fun hS => ?_)
        clear hK K hS'
        generalize hy4 : y0.alloc (.cells #[.string mk, .int .u64 1152921504606846976, .int .i64 0, .string ⟨#[]⟩] 55) = y4 at *
        generalize hg4 : y0.heap.size = g4 at *
        have hne : Hid (g4 ≠ g0) := (by have := hlt.out; show _ ≠ _; omega)
        clear hy4 hg4
        refine wpAnyH_ready (rs := [2]) (by kernel_rfl) (by simp) ?_
        refine AllReadyH.cons rfl (fun K hK => ?_) ?_
        · obtain ⟨v2, y2, r2, o2, gr2, q2⟩ := El.app eE y4 W1.heap.size _ _ A.out.o la ln lc xs (HS.out _ (Below.up bx.out hS)) (by show (0 + ln) * 48 ≤ _; omega) (by show 0 + ln ≤ _; omega) A.out.sz
          have A2 : Acc eE W1 y2 v2 ([] ++ xs) := ⟨o2, below_grown A.out.lo A.out.sz gr2 (fun j hj => (own_lt A.out.o j hj).1)⟩
          rw [List.nil_append] at A2
          replace kE := hid ((gr2.block _ (blk_lt kE.out) (fun e => hne.out (Option.some.inj e))).trans kE.out)
          clear o2 gr2 q2 A
          have A := hid A2
          clear A2
          obtain ⟨a2, c2, hv2⟩ := A.out.shape
          obtain ⟨n2, hn2⟩ : ∃ n, n = xs.length := ⟨_, rfl⟩
          rw [← hn2] at hv2
          replace hn2 := hid hn2
          subst hv2
          replace r2 := hid r2
          refine wp_append_run (.tmp 18) (.tmp 19) 53 53 rfl (.slice (some ⟨g0, 0, none⟩) 0 0) (.slice la ln lc) (.slice a2 n2 c2) (by go_simp) (by go_simp) r2.out ?_
          go_simp
          refine hK.out _ _ A.out.lo (fun hS => ?_)
          clear hK K
          refine wpAnyH_ready (rs := [5]) (by kernel_rfl) (by simp) ?_
          refine AllReadyH.cons rfl (fun K hK => ?_) ?_
          · obtain ⟨v5, y5, r5, A5⟩ := A.out.app (one_sl (x := (⟨mk, 1152921504606846976, 0, ⟨#[]⟩⟩ : E)) kE.out hmok.out) (by rw [hln.out]; show (ln + 1) * 48 ≤ _; omega) (by rw [hln.out]; omega)
            obtain ⟨g5, c5, hv5⟩ := A5.nn (by simp)
            rw [List.length_append, hln.out] at hv5
            change v5 = .slice (some ⟨g5, 0, none⟩) (ln + 1) c5 at hv5
            subst hv5
            replace A5 := hid A5
            replace r5 := hid r5
            refine wp_append_run (.tmp 20) (.tmp 22) 53 53 rfl (.slice a2 n2 c2) (.slice (some ⟨g4, 0, none⟩) 1 1) (.slice (some ⟨g5, 0, none⟩) (ln + 1) c5) (by go_simp) (by go_simp) r5.out ?_
            go_simp
            refine hK.out _ _ A5.out.lo (fun hS => ?_)
            clear hK K
            refine wpAnyH_take (i := 6) (v := ?v4) rfl (by kernel_rfl) (by kernel_rfl) (by kernel_rfl) (fun _ _ _ h => h) (Or.inl ⟨by rfl, ?h4⟩) hS ?_
            case h4 => (intro W hW; go_simp; try (with_reducible rfl))
            go_simp
            refine wpAnyH_done (by kernel_rfl) ?_ _
            go_wp2_with fail
            go_meet
            case rel => exact ⟨g5, c5, rfl, A5⟩
          exact AllReadyH.nil
        exact AllReadyH.nil
      exact AllReadyH.nil
    refine AllReadyH.cons rfl (fun K hK => ?_) ?_
    · go_simp
      have kE := hid (new_at D (.cells #[.string mk, .int .u64 1152921504606846976, .int .i64 0, .string ⟨#[]⟩] 55))
      have bb := box_below D (.cells #[.string mk, .int .u64 1152921504606846976, .int .i64 0, .string ⟨#[]⟩] 55)
      have hS' := hid (Below.up hS bb)
      clear bb
      refine hK.out _ _ hS'.out (fun hS => ?_)
      clear hK K hS'
      generalize hy4 : D.alloc (.cells #[.string mk, .int .u64 1152921504606846976, .int .i64 0, .string ⟨#[]⟩] 55) = y4 at *
      generalize hg4 : D.heap.size = g4 at *
      clear hy4 hg4
      refine wpAnyH_ready (rs := [0]) (by kernel_rfl) (by simp) ?_
      refine AllReadyH.cons rfl (fun K hK => ?_) ?_
      · go_simp
        have A : Hid (Acc eE W1 (y4.alloc (.cells #[] 55)) (.slice (some ⟨y4.heap.size, 0, none⟩) 0 0) []) := Acc.from_ (Acc.made eE y4) hS
        have bb := box_below y4 (.cells #[] 55)
        have hS' := hid (Below.up hS bb)
        have hlt := hid (blk_lt kE.out)
        replace kE := hid ((bb.block _ (blk_lt kE.out)).trans kE.out)
        clear bb
        refine hK.out _ _ hS'.out (fun hS => ?_)
        clear hK K hS'
        generalize hy0 : y4.alloc (.cells #[] 55) = y0 at *
        generalize hg0 : y4.heap.size = g0 at *
        have hne : Hid (g4 ≠ g0) := (by have := hlt.out; show _ ≠ _; omega)
        clear hy0 hg0
        refine wpAnyH_ready (rs := [2]) (by kernel_rfl) (by simp) ?_
        refine AllReadyH.cons rfl (fun K hK => ?_) ?_
        · obtain ⟨v2, y2, r2, o2, gr2, q2⟩ := El.app eE y0 W1.heap.size _ _ A.out.o la ln lc xs (HS.out _ (Below.up bx.out hS)) (by show (0 + ln) * 48 ≤ _; omega) (by show 0 + ln ≤ _; omega) A.out.sz
          have A2 : Acc eE W1 y2 v2 ([] ++ xs) := ⟨o2, below_grown A.out.lo A.out.sz gr2 (fun j hj => (own_lt A.out.o j hj).1)⟩
          rw [List.nil_append] at A2
          replace kE := hid ((gr2.block _ (blk_lt kE.out) (fun e => hne.out (Option.some.inj e))).trans kE.out)
          clear o2 gr2 q2 A
          have A := hid A2
          clear A2
          obtain ⟨a2, c2, hv2⟩ := A.out.shape
          obtain ⟨n2, hn2⟩ : ∃ n, n = xs.length := ⟨_, rfl⟩
          rw [← hn2] at hv2
          replace hn2 := hid hn2
          subst hv2
          replace r2 := hid r2
          refine wp_append_run (.tmp 18) (.tmp 19) 53 53 rfl (.slice (some ⟨g0, 0, none⟩) 0 0) (.slice la ln lc) (.slice a2 n2 c2) (by go_simp) (by go_simp) r2.out ?_
          go_simp
          refine hK.out _ _ A.out.lo (fun hS => ?_)
          clear hK K
          refine wpAnyH_ready (rs := [5]) (by kernel_rfl) (by simp) ?_
          refine AllReadyH.cons rfl (fun K hK => ?_) ?_
          · obtain ⟨v5, y5, r5, A5⟩ := A.out.app (one_sl (x := (⟨mk, 1152921504606846976, 0, ⟨#[]⟩⟩ : E)) kE.out hmok.out) (by rw [hln.out]; show (ln + 1) * 48 ≤ _; omega) (by rw [hln.out]; omega)
            obtain ⟨g5, c5, hv5⟩ := A5.nn (by simp)
            rw [List.length_append, hln.out] at hv5
            change v5 = .slice (some ⟨g5, 0, none⟩) (ln + 1) c5 at hv5
            subst hv5
            replace A5 := hid A5
            replace r5 := hid r5
            refine wp_append_run (.tmp 20) (.tmp 22) 53 53 rfl (.slice a2 n2 c2) (.slice (some ⟨g4, 0, none⟩) 1 1) (.slice (some ⟨g5, 0, none⟩) (ln + 1) c5) (by go_simp) (by go_simp) r5.out ?_
            go_simp
            refine hK.out _ _ A5.out.lo (fun hS => ?_)
            clear hK K
            refine wpAnyH_take (i := 6) (v := ?v5) rfl (by kernel_rfl) (by kernel_rfl) (by kernel_rfl) (fun _ _ _ h => h) (Or.inl ⟨by rfl, ?h5⟩) hS ?_
            case h5 => (intro W hW; go_simp; try (with_reducible rfl))
            go_simp
            refine wpAnyH_done (by kernel_rfl) ?_ _
            go_wp2_with fail
            go_meet
            case rel => exact ⟨g5, c5, rfl, A5⟩
          exact AllReadyH.nil
        exact AllReadyH.nil
      exact AllReadyH.nil
    exact AllReadyH.nil
  case rest =>
    obtain ⟨g8, c8, rfl, A8⟩ := hcut
    obtain ⟨w2, hw2⟩ : ∃ W, W = wc := ⟨_, rfl⟩
    rw [← hw2] at A8 ⊢
    clear hw2 wc
    have b2 : Hid (Below w.heap.size w w2) := Below.up bx.out A8.out.lo
    have hok8 : ∀ x ∈ xs ++ [(⟨mk, 1152921504606846976, 0, ⟨#[]⟩⟩ : E)], x.ok := by
      intro x hx
      rcases List.mem_append.1 hx with h | h
      · exact hxok.out x h
      · rw [List.mem_singleton] at h; subst h; exact hmok.out
    obtain ⟨a8', c8', hv8, E8'⟩ := own_ents A8.out.o hok8
    have hv81 : a8' = some ⟨g8, 0, none⟩ ∧ c8' = c8 := by injection hv8 with h1 h2 h3; exact ⟨h1.symm, h3.symm⟩
    rw [hv81.1, hv81.2] at E8'
    clear hv81
    have E8 : Hid (Ents w2 (some ⟨g8, 0, none⟩) (ln + 1) c8 (xs ++ [(⟨mk, 1152921504606846976, 0, ⟨#[]⟩⟩ : E)])) := by
      show Ents _ _ _ _ _
      have := E8'
      rw [List.length_append, hln.out] at this
      exact this
    have hc8 : ln + 1 ≤ c8 := E8.out.2.1
    have E8n : Hid (Ents w2 (some ⟨g8, 0, none⟩) ln c8 xs) := by
      show Ents _ _ _ _ _
      have := ents_take E8.out (m := ln) (by omega)
      rw [List.take_append_of_le_length (by rw [hln.out]; omega), ← hln.out, List.take_length] at this
      rw [← hln.out]; exact this
    have M8 : Hid (At4 w2 g8 (ln * 4) (⟨mk, 1152921504606846976, 0, ⟨#[]⟩⟩ : E)) := by
      show At4 _ _ _ _
      have := (E8.out.2.2.2.2 _ _ _ rfl (by omega)).2 ln (by omega)
      have e : (xs ++ [(⟨mk, 1152921504606846976, 0, ⟨#[]⟩⟩ : E)]).getD ln ze = (⟨mk, 1152921504606846976, 0, ⟨#[]⟩⟩ : E) := by rw [← hln.out]; exact Sb.get_at xs (⟨mk, 1152921504606846976, 0, ⟨#[]⟩⟩ : E) ze []
      rwa [e, Nat.zero_add] at this
    have k2 := hid (hk.out _ A8.out.lo)
    have hg8 : Hid (g8 < w2.heap.size) := by show _ < _; exact (own_lt A8.out.o g8 rfl).2
    have hgx2 : Hid (gx < w2.heap.size) := blk_lt k2.out
    have d1 : (ln : Int) ≤ (ln : Int) + 1 := by omega
    have d4 : ln ≤ c8 := by omega
    have d2 : (ln : Int) ≤ (c8 : Int) := by omega
    have d3 : ((ln + 1 : Nat) : Int) = (ln : Int) + 1 := by omega
    clear E8' hv8 hok8 A8 hk hgl hmok
    go_upto_region 3 with fail
    go_cut [9, 10] from 24 to 33 (fun v9 v10 wx => ∃ g9 g10, v9 = .slice (some ⟨g9, 0, none⟩) ln ln ∧ v10 = .slice (some ⟨g10, 0, none⟩) ln ln ∧ Hid (ERow wx g9 ln (srtE xs)) ∧ Hid (ERow wx g10 ln (srtE xs)) ∧ Hid (g9 ≠ g10) ∧ Hid (Below w2.heap.size w2 wx) ∧ Hid (w2.heap.size ≤ g9))
    case first =>
      refine wp_region_held_drew (S := fun V => Below w2.heap.size w2 V) (by kernel_rfl) (drew_below _) (fun hS => ?_)
      generalize World.drew w2 = D at *
      refine wpAnyH_take (i := 0) (v := ?v6) rfl (by kernel_rfl) (by kernel_rfl) (by kernel_rfl) (fun _ _ _ h => h) (Or.inl ⟨by rfl, ?h6⟩) hS ?_
      case h6 => (intro W hW; go_simp; try (with_reducible rfl))
      go_simp
      refine wpAnyH_take (i := 1) (v := ?v7) rfl (by kernel_rfl) (by kernel_rfl) (by kernel_rfl) (fun _ _ _ h => h) (Or.inl ⟨by rfl, ?h7⟩) hS ?_
      case h7 => (intro W hW; go_simp; try (with_reducible rfl))
      go_simp
      refine wpAnyH_take (i := 2) (v := ?v8) rfl (by kernel_rfl) (by kernel_rfl) (by kernel_rfl) (fun _ _ _ h => h) (Or.inl ⟨by rfl, ?h8⟩) hS ?_
      case h8 => (intro W hW; go_simp; try (with_reducible rfl))
      go_simp
      refine wpAnyH_take (i := 3) (v := ?v9) rfl (by kernel_rfl) (by kernel_rfl) (by kernel_rfl) (fun _ _ _ h => h) (Or.inl ⟨by rfl, ?h9⟩) hS ?_
      case h9 => (intro W hW; go_simp; try (with_reducible rfl))
      go_simp
      refine wpAnyH_take (i := 5) (v := ?v10) rfl (by kernel_rfl) (by kernel_rfl) (by kernel_rfl) (fun _ _ _ h => h) (Or.inl ⟨by rfl, ?h10⟩) hS ?_
      case h10 => (intro W hW; go_simp; try (with_reducible rfl))
      go_simp
      refine wpAnyH_take (i := 6) (v := ?v11) rfl (by kernel_rfl) (by kernel_rfl) (by kernel_rfl) (fun _ _ _ h => h) (Or.inl ⟨by rfl, ?h11⟩) hS ?_
      case h11 => (intro W hW; go_simp; try (with_reducible rfl))
      go_simp
      refine wpAnyH_take (i := 7) (v := ?v12) rfl (by kernel_rfl) (by kernel_rfl) (by kernel_rfl) (fun _ _ _ h => h) (Or.inl ⟨by rfl, ?h12⟩) hS ?_
      case h12 => (intro W hW; go_simp; try (with_reducible rfl))
      go_simp
      refine wpAnyH_take (i := 8) (v := ?v13) rfl (by kernel_rfl) (by kernel_rfl) (by kernel_rfl) (fun _ _ _ h => h) (Or.inl ⟨by rfl, ?h13⟩) hS ?_
      case h13 => (intro W hW; go_simp; try (with_reducible rfl))
      go_simp
      refine wpAnyH_ready (rs := [4]) (by kernel_rfl) (by simp) ?_
      refine AllReadyH.cons rfl (fun K hK => ?_) ?_
      · go_simp
        have HSo := hid (sorted_any (some ⟨g8, 0, none⟩) ln c8 xs D (E8n.out.later hS) (by omega))
        have hlo4 : Hid (w2.heap.size ≤ D.heap.size) := hS.size
        go_wp2_with fail
        refine HSo.out.mono ?_
        rintro e y4 ⟨g_4, rfl, hge4, RW4, bb4⟩
        have hS' := hid (Below.up hS bb4)
        replace RW4 := hid RW4
        have hg4 : Hid (w2.heap.size ≤ g_4) := Nat.le_trans hlo4.out hge4
        replace hge4 := hid hge4
        clear bb4
        refine hK.out _ _ hS'.out (fun hS => ?_)
        clear hK K hS'
        refine wpAnyH_ready (rs := [9]) (by kernel_rfl) (by simp) ?_
        refine AllReadyH.cons rfl (fun K hK => ?_) ?_
        · go_simp
          have HSo := hid (sorted_any (some ⟨g8, 0, none⟩) ln c8 xs y4 (E8n.out.later hS) (by omega))
          have hlo9 : Hid (w2.heap.size ≤ y4.heap.size) := hS.size
          go_wp2_with fail
          refine HSo.out.mono ?_
          rintro e y9 ⟨g_9, rfl, hge9, RW9, bb9⟩
          have RW4' := hid (RW4.out.later bb9)
          have hne49 : Hid (g_4 ≠ g_9) := (by have := RW4.out.lt; show _ ≠ _; omega)
          have hS' := hid (Below.up hS bb9)
          replace RW9 := hid RW9
          have hg9 : Hid (w2.heap.size ≤ g_9) := Nat.le_trans hlo9.out hge9
          replace hge9 := hid hge9
          clear bb9
          refine hK.out _ _ hS'.out (fun hS => ?_)
          clear hK K hS'
          refine wpAnyH_take (i := 10) (v := ?v14) rfl (by kernel_rfl) (by kernel_rfl) (by kernel_rfl) (fun _ _ _ h => h) (Or.inl ⟨by rfl, ?h14⟩) hS ?_
          case h14 => (intro W hW; go_simp; try (with_reducible rfl))
          go_simp
          refine wpAnyH_take (i := 11) (v := ?v15) rfl (by kernel_rfl) (by kernel_rfl) (by kernel_rfl) (fun _ _ _ h => h) (Or.inl ⟨by rfl, ?h15⟩) hS ?_
          case h15 => (intro W hW; go_simp; try (with_reducible rfl))
          go_simp
          refine wpAnyH_done (by kernel_rfl) ?_ _
          have hSS := hid hS
          go_wp2_with fail
          go_meet
          case rel => exact ⟨g_4, g_9, rfl, rfl, RW4', RW9, hne49, hSS, hg4⟩
        exact AllReadyH.nil
      exact AllReadyH.nil
    case rest =>
      obtain ⟨g9, g10, rfl, rfl, R9, R10, h910, b3, hg9⟩ := hcut
      obtain ⟨w3, hw3⟩ : ∃ W, W = wc := ⟨_, rfl⟩
      rw [← hw3] at R9 R10 b3 ⊢
      clear hw3 wc
      have b3w := hid (Below.up b2.out b3.out)
      have h9lt : Hid (g9 < w3.heap.size) := R9.out.lt
      have HR := hid (rsorted_any la ln lc xs w3 (HL.out _ b3w.out) (by omega))
      
      
      go_wp2_with fail
      refine HR.out.mono ?_
      rintro e w4 ⟨v, rfl, A11⟩
      have hsl : (srtE xs).length = ln := by rw [srtE_len, hln.out]
      obtain ⟨a11, c11, hv, E11⟩ := own_ents A11.o (srtE_ok hxok.out)
      rw [hsl] at hv E11
      subst hv
      have b4 := A11.lo
      have E9 := hid (row_sl (R9.out.later b4) hsl (srtE_ok hxok.out))
      replace R9 := hid (R9.out.later b4)
      replace R10 := hid (R10.out.later b4)
      have b4w := hid (Below.up b3w.out b4)
      have b42 := hid (Below.up b3.out b4)
      replace E11 := hid E11
      have HQ := hid (same_any (some ⟨g9, 0, none⟩) a11 ln ln c11 (srtE xs) w4 E9.out E11.out (by omega))
      replace hsl := hid hsl
      have hd1 : Hid (∀ n, Below w4.heap.size w4 (w4.drewN n)) := fun n => drewN_below _ n
      have h11l : Hid (∀ ad, a11 = some ad → ad.block < w4.heap.size) := fun ad h => by subst h; exact (own_lt A11.o ad.block rfl).2
      have hb11 : Hid (∀ ad, a11 = some ad → g9 ≠ ad.block) := fun ad h e => by
        subst h
        have h1 := (own_lt A11.o ad.block rfl).1
        have h2 := h9lt.out
        omega
      clear b4 A11 HR
      go_wp2_with fail
      refine HQ.out.mono ?_
      rintro e w5 ⟨rfl, q5, hw5⟩
      have b45 : Below w4.heap.size w4 w5 := by rw [hw5]; exact drewN_below _ _
      clear hw5
      have b5w := hid (Below.up b4w.out b45)
      have b52 := hid (Below.up b42.out b45)
      replace R9 := hid (R9.out.later b45)
      replace R10 := hid (R10.out.later b45)
      replace E11 := hid (E11.out.later b45)
      have h11lt : Hid (∀ ad, a11 = some ad → ad.block < w5.heap.size) := fun ad h => Nat.lt_of_lt_of_le (h11l.out ad h) b45.size
      replace b45 := hid b45
      have k5 := hid ((b52.out.block _ hgx2.out).trans k2.out)
      have hgx9 : Hid (gx ≠ g9) := by show _ ≠ _; have := hgx2.out; have := hg9.out; omega
      obtain ⟨ym, hym⟩ : ∃ y, y = srtE xs := ⟨_, rfl⟩
      have hyml : Hid (ym.length = ln) := by show _ = _; rw [hym]; exact hsl.out
      rw [← hym] at R9
      clear hym HQ
      go_wp2_with fail
      go_loopw [12] (fun iv wr => ∃ (i : Nat) (ys : List E), iv = .int .i64 (i : Int) ∧ i ≤ ln ∧ Hid (ys.length = ln) ∧ Hid (ERow wr g9 ln ys) ∧ Hid (Fp (· = g9) w5 wr)) (fun iv _ => ln - (intOf iv).toNat)
      case atStart => exact ⟨0, ym, rfl, Nat.zero_le _, hyml, R9, Fp.refl _ _⟩
      case round =>
        clear R9 hyml ym
        obtain ⟨i, ys, rfl, hi, hyl, RY, FY⟩ := hrel
        by_cases hlt : i < ln
        · have i1 : (i : Int) < (ln : Int) := by omega
          have i2 : (0 : Int) ≤ (i : Int) := by omega
          have kk := hid ((FY.out.block gx (blk_lt k5.out) hgx9.out).trans k5.out)
          have q0 := cell_of kk.out 0 _ rfl
          have q1 := cell_of kk.out 1 _ rfl
          have q2 := cell_of kk.out 2 _ rfl
          have q3 := cell_of kk.out 3 _ rfl
          obtain ⟨p0, p1, p2, p3⟩ := RY.out.cell i (by rw [hyl.out]; exact hlt)
          have f0 := RY.out.fz (i * 4)
          have f1 := RY.out.fz (i * 4 + 1)
          have f2 := RY.out.fz (i * 4 + 2)
          have f3 := RY.out.fz (i * 4 + 3)
          obtain ⟨WS, hWS⟩ : ∃ W, W = st4 wr g9 (i * 4) (⟨mk, 1152921504606846976, 0, ⟨#[]⟩⟩ : E) := ⟨_, rfl⟩
          have RS := hid (RY.out.set i (⟨mk, 1152921504606846976, 0, ⟨#[]⟩⟩ : E) (by rw [hyl.out]; exact hlt))
          have FS := hid (st4_fp (i * 4) (⟨mk, 1152921504606846976, 0, ⟨#[]⟩⟩ : E) FY.out)
          rw [← hWS] at RS FS
          have hyl2 : Hid ((ys.set i (⟨mk, 1152921504606846976, 0, ⟨#[]⟩⟩ : E)).length = ln) := by show _ = _; rw [List.length_set]; exact hyl.out
          unfold st4 at hWS
          dsimp only at hWS
          replace hWS := hid hWS
          have hw6 : IntKind.i64.wrap ((i : Int) + 1) = ((i + 1 : Nat) : Int) := by rw [IntKind.wrap_i64]; omega
          clear kk
          go_wp2_with fail
          
          go_roundw
          case rel => exact ⟨i + 1, _, by first | rfl | go_num, by omega, hyl2, by first | exact RS | (have := RS; rw [hWS.out] at this; exact this), by first | exact FS | (have := FS; rw [hWS.out] at this; exact this)⟩
          case measure => simp [intOf]; omega
        · have i1 : ¬ (i : Int) < (ln : Int) := by omega
          obtain ⟨w6, hw6⟩ : ∃ W, W = wr := ⟨_, rfl⟩
          rw [← hw6] at FY ⊢
          clear hw6 RY hyl
          have hlo : ∀ j, j < w2.heap.size → w6.heap[j]? = w2.heap[j]? := fun j hj => (FY.out.block j (Nat.lt_of_lt_of_le hj b52.out.size) (by have := hg9.out; omega)).trans (b52.out.block j hj)
          have b62 : Hid (Below w2.heap.size w2 w6) := ⟨FY.out.os.trans b52.out.os, FY.out.tape.trans b52.out.tape, FY.out.output.trans b52.out.output, Nat.le_trans b52.out.size FY.out.size, hlo⟩
          have b6w := hid (Below.up b2.out b62.out)
          have E86 := hid (E8n.out.later b62.out)
          have M86 := hid (M8.out.later b62.out)
          have k6 := hid ((b62.out.block _ hgx2.out).trans k2.out)
          have R106 : Hid (ERow w6 g10 ln (srtE xs)) := R10.out.block (FY.out.block g10 R10.out.lt (fun e => h910.out e.symm))
          have HN := hid (newest_any (some ⟨g8, 0, none⟩) ln c8 xs key seq w6 E86.out (by omega) hkz)
          obtain ⟨ne, hne⟩ : ∃ x, x = (newest key seq xs).getD ze := ⟨_, rfl⟩
          obtain ⟨ns, hns⟩ : ∃ x, x = (newest key seq xs).isSome := ⟨_, rfl⟩
          rw [← hne, ← hns] at HN
          have E116 : Hid (Ents w6 a11 ln c11 (srtE xs)) := ents_of ((sl_of E11.out).block (fun ad had => FY.out.block ad.block (h11lt.out ad had) (fun e => hb11.out ad had e.symm)))
          have hR106l := R106.out.lt
          obtain ⟨nk, nq, nc, nv⟩ := ne
          unfold c4 at HN
          dsimp only at HN
          have e1 := run_eq nk nq nc nv
          have e2 := run_eq mk 1152921504606846976 0 ⟨#[]⟩
          replace e1 := hid e1
          replace e2 := hid e2
          have HRN : Hid (∀ W, Below w.heap.size w W → Calls Try.prog 31 #[.slice la ln lc, .string key, .int .u64 seq] W fun e w' => e = .returned (.tuple #[.agg #[.string nk, .int .u64 nq, .int .i64 nc, .string nv], .bool ns]) ∧ Below W.heap.size W w') := fun W b => by
            have := rnewest_any la ln lc xs key seq W (HL.out W b) (by omega)
            rw [← hne, ← hns] at this
            unfold c4 at this
            exact this
          replace hne := hid hne
          replace hns := hid hns
          clear hR106l
          go_wp2_with fail
          refine HN.out.mono ?_
          rintro e w7 ⟨rfl, b7⟩
          obtain ⟨w8, hw8⟩ : ∃ W, W = w7.alloc (.cells #[.string nk, .int .u64 nq, .int .i64 nc, .string nv] 55) := ⟨_, rfl⟩
          obtain ⟨g13, hg13⟩ : ∃ g, g = w7.heap.size := ⟨_, rfl⟩
          have k13 : Hid (w8.heap[g13]? = some (.cells #[.string nk, .int .u64 nq, .int .i64 nc, .string nv] 55)) := by show _ = _; rw [hw8, hg13]; exact new_at _ _
          have b8 : Hid (Below w6.heap.size w6 w8) := by show Below _ _ _; rw [hw8]; exact Below.up b7 (box_below _ _)
          have b8w := hid (Below.up b6w.out b8.out)
          replace hw8 := hid hw8
          replace hg13 := hid hg13
          clear b7 HN
          go_wp2_with fail
          rw [← hw8.out, ← hg13.out]
          refine (HRN.out w8 b8w.out).mono ?_
          rintro e w9 ⟨rfl, b9⟩
          obtain ⟨wA, hwA⟩ : ∃ W, W = w9.alloc (.cells #[.string nk, .int .u64 nq, .int .i64 nc, .string nv] 55) := ⟨_, rfl⟩
          obtain ⟨g15, hg15⟩ : ∃ g, g = w9.heap.size := ⟨_, rfl⟩
          have k15 : wA.heap[g15]? = some (.cells #[.string nk, .int .u64 nq, .int .i64 nc, .string nv] 55) := by rw [hwA, hg15]; exact new_at _ _
          have bA8 : Below w8.heap.size w8 wA := by rw [hwA]; exact Below.up b9 (box_below _ _)
          have bA : Below w6.heap.size w6 wA := Below.up b8.out bA8
          have bAw := hid (Below.up b6w.out bA)
          have kA13 := (bA8.block _ (blk_lt k13.out)).trans k13.out
          have kAx := (bA.block _ (blk_lt k6.out)).trans k6.out
          have MA := M86.out.later bA
          have EA8 := hid (E86.out.later bA)
          have EAl := hid (HL.out wA bAw.out)
          have EA10 := hid (row_sl (R106.out.later bA) hsl.out (srtE_ok hxok.out))
          have EA11 := hid (E116.out.later bA)
          have b6g : Hid (∀ d os, Below wA.heap.size wA (grow (redrawn wA d) os)) := fun d os => below_regrown wA d os
          have HQ1 : Hid (∀ d os, Calls Try.prog 29 #[.slice (some ⟨g10, 0, none⟩) ln ln, .slice a11 ln c11] (grow (redrawn wA d) os) fun e w' => e = .returned (.bool true) ∧ Below (grow (redrawn wA d) os).heap.size (grow (redrawn wA d) os) w') := fun d os => (same_any (some ⟨g10, 0, none⟩) a11 ln ln c11 (srtE xs) _ (EA10.out.later (b6g.out d os)) (EA11.out.later (b6g.out d os)) (by omega)).mono (fun e w' h => ⟨h.1, by obtain ⟨n, h2⟩ := h.2; rw [h2]; exact drewN_below _ _⟩)
          have HQ2 : Hid (∀ d os, Calls Try.prog 29 #[.slice (some ⟨g8, 0, none⟩) ln c8, .slice la ln lc] (grow (redrawn wA d) os) fun e w' => e = .returned (.bool true) ∧ Below (grow (redrawn wA d) os).heap.size (grow (redrawn wA d) os) w') := fun d os => (same_any (some ⟨g8, 0, none⟩) la ln c8 lc xs _ (EA8.out.later (b6g.out d os)) (EAl.out.later (b6g.out d os)) (by omega)).mono (fun e w' h => ⟨h.1, by obtain ⟨n, h2⟩ := h.2; rw [h2]; exact drewN_below _ _⟩)
          have HNM : Hid (∀ W, Calls Try.prog 13 #[] W fun e w' => e = .returned (.bool true) ∧ Below W.heap.size W w') := fun W => (names_any W).mono (fun e w' h => ⟨h.1, by rw [h.2]; exact Below.refl _ _⟩)
          obtain ⟨m0, m1, m2, m3⟩ := MA
          have x0 := cell_regrown m0
          have x1 := cell_regrown m1
          have x2 := cell_regrown m2
          have x3 := cell_regrown m3
          have y0 := cell_regrown (cell_of kA13 0 _ rfl)
          have y1 := cell_regrown (cell_of kA13 1 _ rfl)
          have y2 := cell_regrown (cell_of kA13 2 _ rfl)
          have y3 := cell_regrown (cell_of kA13 3 _ rfl)
          have z0 := cell_regrown (cell_of k15 0 _ rfl)
          have z1 := cell_regrown (cell_of k15 1 _ rfl)
          have z2 := cell_regrown (cell_of k15 2 _ rfl)
          have z3 := cell_regrown (cell_of k15 3 _ rfl)
          have v0 := cell_regrown (cell_of kAx 0 _ rfl)
          have v1 := cell_regrown (cell_of kAx 1 _ rfl)
          have v2 := cell_regrown (cell_of kAx 2 _ rfl)
          have v3 := cell_regrown (cell_of kAx 3 _ rfl)
          replace hwA := hid hwA
          replace hg15 := hid hg15
          clear b9 bA8 bA kA13 kAx k15 m0 m1 m2 m3 HRN
          have i3 : (ln : Int) < (ln : Int) + 1 := by omega
          have i4 : (0 : Int) ≤ (ln : Int) := by omega
          replace e1 := e1.out
          replace e2 := e2.out
          go_wp2_with fail
          rw [← hwA.out, ← hg15.out]
          refine wp_region_quiet_below (by kernel_rfl) (by kernel_rfl) ?_
          repeat (first | go_big_quiet_step (first | (go_at_call 29; with_reducible exact Calls.regrown_of (HQ1.out _ _)) | (go_at_call 29; with_reducible exact Calls.regrown_of (HQ2.out _ _)) | (go_at_call 13; exact Calls.regrown_of (HNM.out _))))
          
          refine wpQuiet_nil ?_
          intro wF hwF
          have bF : Hid (Below w.heap.size w wF) := by
            obtain ⟨⟨dq, osq⟩, hw''⟩ := hwF
            show Below _ _ _
            rw [hw'']
            exact Below.up bAw.out (below_regrown _ dq osq)
          clear hwF
          go_wp2_with fail
          go_ret
          exact ⟨rfl, bF.out⟩
end Go.Proofs.Ytbpgifpplnmjmaa.So

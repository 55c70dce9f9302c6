/- appendWord; Bytes of a builder. -/
import Derived.Test.YtkanjbeijoeenaaBa
namespace Go.Proofs.Ytkanjbeijoeenaa.Bb
open Go.ChangeShapes Go.WideShapes Go.ChangeAt Go.RowKit
open Go.Sort (grow)
open Go.Proofs.Ytkanjbeijoeenaa.By
open Go.Proofs.Ytkanjbeijoeenaa.Bl
open Go.Proofs.Ytkanjbeijoeenaa.Bn
open Go.Proofs.Ytkanjbeijoeenaa.Bp
open Go.Proofs.Ytkanjbeijoeenaa.Bm
open Go.Proofs.Ytkanjbeijoeenaa.Ba
open Go.Proofs.Ytkanjbeijoeenaa.Mb (hid box_below blk_lt new_at size_alloc cell_of fz_of set_of set_ne Fp gw own_blocks own_lt E ze At4 Ents OwnE drew_below drewN_below gw_low region_tail compare_below gw_sub)
set_option linter.unusedVariables false
set_option linter.unusedSimpArgs false

theorem wp_make_run {P : Program} {w w' : World} {o : Oper} {a : Act} {K : Act → World → Prop} {Q : Exit → Act → World → Prop} (l c : Operand) (t : TypeId) (hop : o.op = Op.makeSlice t l c)
    (u v v' : Value) (hl : a.eval l = u) (hc : a.eval c = v) (hrun : (Instr.makeSlice t u v).run P w = .ok v' w') (hK : K (a.put o.dst v') w') : o.wp P a w K Q := by
  unfold Oper.wp
  simp [execOp, hop, hl, hc, hrun, Result.andThen]
  exact hK
/-- The block's bytes. -/
def blk (S : BS) : List Int := S.ent ++ (S.pl.flatMap fun n : Nat => lb 4 (n : Int)) ++ lb 4 (S.pl.length : Int)
theorem flat_len (l : List Nat) : (l.flatMap fun n : Nat => lb 4 (n : Int)).length = 4 * l.length := by
  induction l with
  | nil => rfl
  | cons x l ih => rw [List.flatMap_cons, List.length_append, lb_len, ih, List.length_cons]; omega
theorem blk_len (S : BS) : (blk S).length = bsz S := by
  unfold blk bsz
  rw [List.length_append, List.length_append, flat_len, lb_len]; omega
theorem app_src (w : World) (base : Nat) (v : Value) (xs : List Int) (H : OwnB w base v xs) (a : Option Addr) (m c : Nat) (ys : List Int) (HB : Bytes w a m c ys) (hn : xs.length + m ≤ 70368744177664) (hbase : base ≤ w.heap.size) :
    ∃ v' w', (Builtin.append_ #[28, 28] 28 #[v, .slice a m c]).run Try.prog w = .ok v' w' ∧ OwnB w' base v' (xs ++ ys) ∧ w.grownBy w' v.ownBlock := by
  cases a with
  | none =>
    obtain ⟨i0, hi, hz0, hz1, hz2⟩ := info_parts info5
    obtain ⟨rfl, rfl⟩ := HB.2.2.1 rfl
    have hy : ys = [] := List.eq_nil_of_length_eq_zero HB.1
    subst hy
    exact ⟨v, w, run_append_owned_none (P := Try.prog) (w := w) base 28 28 5 i0 1 Try.underlying28 hi v xs.length _ H, by rw [List.append_nil]; exact H, World.grownBy.refl _ _⟩
  | some ad =>
    obtain ⟨v5, W5, r5, o5, g5, _⟩ := app_bytes w base v xs H ad m c ys HB.1 (HB.2.2.2.2 ad rfl) hn hbase
    exact ⟨v5, W5, r5, o5, g5⟩
set_option maxRecDepth 100000 in
theorem word_any (v : Value) (base : Nat) (xs : List Int) (n : Nat) (w : World) (H : OwnB w base v xs) (hl : xs.length ≤ 10000000000000) (hn : n ≤ 4294967295) (hbase : base ≤ w.heap.size) :
    Calls Try.prog 34 #[v, .int .i64 (n : Int)] w fun e w' => ∃ v', e = .returned v' ∧ OwnB w' base v' (xs ++ lb 4 (n : Int)) ∧ Below base w w' ∧ (v'.ownBlock = v.ownBlock ∨ ∃ j, v'.ownBlock = some j ∧ w.heap.size ≤ j) := by
  have hcv : IntKind.u32.wrap (n : Int) = (n : Int) := by rw [IntKind.wrap_u32]; omega
  have HP := putf32_any none 0 0 [] (n : Int) w (nil_bytes w) (by omega) (by omega)
  rw [List.nil_append, Nat.zero_add] at HP
  replace HP := hid HP
  replace H := hid H
  go_enter Try.func34, Try.ntmps34
  go_wp2_with fail
  refine HP.out.mono ?_
  rintro e w1 ⟨rfl, R1, b1⟩
  obtain ⟨v5, W5, r5, o5, g5, q5⟩ := app_bytes w1 base v xs (H.out.later b1) ⟨w.heap.size, 0, none⟩ 4 4 (lb 4 (n : Int)) (lb_len 4 _) (fun q hq => by rw [addr_add, Nat.zero_add]; exact R1.cell q hq) (by omega) (Nat.le_trans hbase b1.size)
  have BF : Hid (Below base w W5) := (b1.mono hbase).grown g5 (Nat.le_trans hbase b1.size) (fun j hj => (own_lt H.out j hj).1)
  have Q5 : Hid (v5.ownBlock = v.ownBlock ∨ ∃ j, v5.ownBlock = some j ∧ w.heap.size ≤ j) := by
    rcases q5 with h | h
    · exact .inl h
    · exact .inr ⟨_, h, b1.size⟩
  replace o5 := hid o5
  clear R1 b1 g5 q5
  go_wp2_with (at_builtin; refine By.wpList_append_run rfl _ _ 28 28 rfl _ _ _ rfl rfl r5 ?_)
  go_ret
  exact ⟨_, rfl, o5.out, BF.out, Q5.out⟩
set_option maxRecDepth 100000 in
set_option maxHeartbeats 4000000 in
theorem bytes_any {w : World} {base g gl : Nat} {ve vp : Value} {P : Nat → Prop} {S : BS} (H : Bt w base g gl ve vp P S) (hl1 : S.ent.length ≤ 1000000000) (hl2 : S.pl.length ≤ 1000000000) (heb : ∀ y ∈ S.ent, 0 ≤ y ∧ y ≤ 255) (hpb : ∀ p ∈ S.pl, p ≤ 4294967295) :
    Calls Try.prog 12 #[.pointer (some ⟨g, 0, none⟩)] w fun e w' => ∃ v, e = .returned v ∧ OwnB w' w.heap.size v (blk S) ∧ Below w.heap.size w w' := by
  obtain ⟨i0, hi, hz0, hz1, hz2⟩ := info_parts info5
  have HN := hid (isNone_any H)
  obtain ⟨ea, ec, rfl, he1, he2, he3⟩ := H.oe.shape
  obtain ⟨pa, pc, rfl, hp1, hp2, hp3⟩ := OwnN.shape H.op
  have HSZ : Hid (∀ W, Below w.heap.size w W → Calls Try.prog 14 #[.pointer (some ⟨g, 0, none⟩)] W fun e w' => e = .returned (.int .i64 (bsz S : Int)) ∧ Below W.heap.size W w') := fun W hW => size_any (H.later hW) (by omega) (by omega)
  have HC1 : Hid (∀ W, Below w.heap.size w W → W.cell? ⟨g, 1, none⟩ = some (.slice ea S.ent.length ec)) := fun W hW => cell_of (H.later hW).blk 1 _ rfl
  have HEB : Hid (∀ W, Below w.heap.size w W → Bytes W ea S.ent.length ec S.ent) := fun W hW => OwnB.bytes (H.later hW).oe heb
  have hbz : Hid (bsz S ≤ 10000000000) := by show _ ≤ _; unfold bsz; omega
  replace H := hid H
  replace hl1 := hid hl1
  replace hl2 := hid hl2
  replace hpb := hid hpb
  replace hp1 := hid hp1
  replace hp2 := hid hp2
  clear he1 he2 he3 heb
  go_enter Try.func12, Try.ntmps12
  go_wp2_with fail
  refine HN.out.mono ?_
  rintro e w ⟨rfl, rfl⟩
  go_wp2_with fail
  refine wp_region_held_drew (S := fun W => Below w.heap.size w W) (by kernel_rfl) ((Below.refl _ _).drew) (fun hS => ?_)
  generalize World.drew w = D at *
  refine wpAnyH_take (i := 0) (v := ?v1) rfl (by kernel_rfl) (by kernel_rfl) (by kernel_rfl) (fun _ _ _ h => h) (Or.inl ⟨by rfl, ?h1⟩) hS ?_
  case h1 => (intro W hW; go_simp; try (with_reducible rfl))
  go_simp
  refine wpAnyH_take (i := 3) (v := ?v2) rfl (by kernel_rfl) (by kernel_rfl) (by kernel_rfl) (fun _ _ _ h => h) (Or.inl ⟨by rfl, ?h2⟩) hS ?_
  case h2 => (intro W hW; go_simp; try (with_reducible rfl))
  go_simp
  refine wpAnyH_take (i := 4) (v := ?v3) rfl (by kernel_rfl) (by kernel_rfl) (by kernel_rfl) (fun _ _ _ h => h) (Or.inl ⟨by rfl, ?h3⟩) hS ?_
  case h3 => (intro W hW; go_simp; try (with_reducible rfl))
  go_simp
  refine wpAnyH_take (i := 5) (v := ?v4) rfl (by kernel_rfl) (by kernel_rfl) (by kernel_rfl) (fun _ _ _ h => h) (Or.inl ⟨by rfl, ?h4⟩) hS ?_
  case h4 => (intro W hW; go_simp; try (with_reducible rfl))
  go_simp
  refine wpAnyH_take (i := 6) (v := ?v5) rfl (by kernel_rfl) (by kernel_rfl) (by kernel_rfl) (fun _ _ _ h => h) (Or.inl ⟨by rfl, ?h5⟩) hS ?_
  case h5 => (intro W hW; have c1 := HC1.out W hW; go_simp; try (with_reducible rfl))
  go_simp
  refine wpAnyH_ready (rs := [1]) (by kernel_rfl) (by simp) ?_
  refine AllReadyH.cons rfl (fun K hK => ?_) ?_
  · go_simp
    go_wp2_with fail
    refine (HSZ.out _ hS).mono ?_
    rintro e x1 ⟨rfl, b1⟩
    refine hK.out _ _ (hS.trans (b1.mono hS.size)) (fun hS => ?_)
    clear hK K b1
    refine wpAnyH_ready (rs := [2]) (by kernel_rfl) (by simp) ?_
    refine AllReadyH.cons rfl (fun K hK => ?_) ?_
    · obtain ⟨x2, hrun, r1, r2⟩ := run_make_own (P := Try.prog) x1 w.heap.size 28 5 i0 (.int .u8 0) 1 Try.underlying28 hi hz0 hz1 .i64 .i64 (bsz S) (by rw [hz2]; have := hbz.out; omega) (by unfold maxLen; have := hbz.out; omega) hS.size
      refine wp_make_run _ _ _ rfl _ _ _ rfl rfl hrun ?_
      go_simp
      refine hK.out _ _ (hS.grown r2 hS.size (by simp)) (fun hS => ?_)
      clear hK K hrun
      refine wpAnyH_ready (rs := [7]) (by kernel_rfl) (by simp) ?_
      refine AllReadyH.cons rfl (fun K hK => ?_) ?_
      · obtain ⟨v5, x3, r5, o5, g5⟩ := app_src x2 w.heap.size _ [] r1 ea S.ent.length ec S.ent (HEB.out _ hS) (by have := hl1.out; simp; omega) hS.size
        obtain ⟨a5, c5, rfl, -, -, -⟩ := o5.shape
        refine wp_append_run _ _ _ _ rfl _ _ _ rfl rfl r5 ?_
        have hS3 : Below w.heap.size w x3 := hS.grown g5 hS.size (fun j hj => (own_lt r1 j hj).1)
        go_simp
        refine hK.out _ _ hS3 (fun hS => ?_)
        clear hK K r5 r1 r2 g5 hS3
        refine wpAnyH_take (i := 8) (v := ?v6) rfl (by kernel_rfl) (by kernel_rfl) (by kernel_rfl) (fun _ _ _ h => h) (Or.inl ⟨by rfl, ?h6⟩) hS ?_
        case h6 => (intro W hW; go_simp; try (with_reducible rfl))
        go_simp
        refine wpAnyH_done (by kernel_rfl) ?_ _
        have O3 : Hid (OwnB x3 w.heap.size (.slice a5 S.ent.length c5) (S.ent ++ (S.pl.take 0).flatMap fun n : Nat => lb 4 (n : Int))) := by
          show OwnB _ _ _ _
          rw [List.take_zero, List.flatMap_nil, List.append_nil]
          exact o5
        replace hS := hid hS
        clear o5
        have c2 : x3.cell? ⟨g, 2, none⟩ = some (.slice pa S.pl.length pc) := cell_of (H.out.later hS.out).blk 2 _ rfl
        have hpl := hl2.out
        generalize hPL : S.pl.length = PL at *
        go_wp2_with fail
        go_loopw [3, 21] (fun ov iv wr => ∃ (i : Nat) (av : Option Addr) (nv cv : Nat), i ≤ PL ∧ iv = .int .i64 (i : Int) ∧ ov = .slice av nv cv ∧ Hid (OwnB wr w.heap.size (.slice av nv cv) (S.ent ++ (S.pl.take i).flatMap fun n : Nat => lb 4 (n : Int))) ∧ Hid (Below w.heap.size w wr)) (fun _ iv _ => PL - (intOf iv).toNat)
        case atStart => exact ⟨0, a5, _, c5, by omega, rfl, rfl, O3, hS⟩
        case round =>
          obtain ⟨i, av, nv, cv, hi', rfl, rfl, HO, HB⟩ := hrel
          have hwl := flat_len (S.pl.take i)
          have htl : (S.pl.take i).length ≤ PL := by rw [List.length_take, hPL]; omega
          by_cases hip : i < PL
          · have hi2 : (i : Int) < (PL : Int) := by omega
            cases pa with
            | none => exact absurd (hp1.out rfl).1 (by omega)
            | some pad =>
              obtain ⟨hpx, hpy⟩ := hp2.out pad rfl
              obtain ⟨pb, po, pn⟩ := pad
              cases hpx
              have hc := (HB.out.cell (block_lt_of_cell (hpy i (by omega)))).trans (hpy i (by omega))
              dsimp only at hc
              have hsn : S.pl.take (i + 1) = S.pl.take i ++ [S.pl.getD i 0] := by
                rw [List.take_succ_eq_append_getElem (by omega)]
                simp [List.getD_eq_getElem?_getD, List.getElem?_eq_getElem (show i < S.pl.length by omega)]
              have hpv : S.pl.getD i 0 ≤ 4294967295 := hpb.out _ (by
                rw [List.getD_eq_getElem?_getD, List.getElem?_eq_getElem (show i < S.pl.length by omega)]
                simp)
              generalize S.pl.getD i 0 = pv at *
              have HW := hid (word_any _ w.heap.size _ pv wr HO.out (by have := hl1.out; rw [List.length_append]; omega) hpv HB.out.size)
              have hwr : IntKind.i64.wrap ((i : Int) + 1) = ((i + 1 : Nat) : Int) := by rw [IntKind.wrap_i64]; omega
              replace hsn := hid hsn
              go_wp2_with fail
              refine HW.out.mono ?_
              rintro e x4 ⟨v6, rfl, o6, b6, l6⟩
              obtain ⟨a6, c6, rfl, -, -, -⟩ := o6.shape
              have O6 : Hid (OwnB x4 w.heap.size (.slice a6 (S.ent ++ List.flatMap (fun n : Nat => lb 4 (n : Int)) (S.pl.take i) ++ lb 4 (pv : Int)).length c6) (S.ent ++ (S.pl.take (i + 1)).flatMap fun n : Nat => lb 4 (n : Int))) := by
                show OwnB _ _ _ _
                rw [hsn.out, List.flatMap_append, ← List.append_assoc]
                simpa using o6
              have B6 : Hid (Below w.heap.size w x4) := HB.out.trans b6
              clear o6 b6 l6
              generalize (S.ent ++ List.flatMap (fun n : Nat => lb 4 (n : Int)) (S.pl.take i) ++ lb 4 (pv : Int)).length = L6 at *
              go_wp2_with fail
              refine ⟨⟨i + 1, a6, L6, c6, by omega, by first | rfl | go_num, rfl, O6, B6⟩, ?_⟩
              simp only [intOf]; omega
          · have hi2 : ¬ (i : Int) < (PL : Int) := by omega
            have hti : S.pl.take i = S.pl := List.take_of_length_le (by omega)
            rw [hti] at HO hwl
            have c2' : wr.cell? ⟨g, 2, none⟩ = some (.slice pa PL pc) := cell_of (H.out.later HB.out).blk 2 _ rfl
            have HW := hid (word_any _ w.heap.size _ PL wr HO.out (by have := hl1.out; rw [List.length_append]; omega) (by omega) HB.out.size)
            go_wp2_with fail
            refine HW.out.mono ?_
            rintro e x4 ⟨v6, rfl, o6, b6, l6⟩
            have O6 : Hid (OwnB x4 w.heap.size v6 (blk S)) := by
              show OwnB _ _ _ _
              unfold blk
              rw [hPL]
              exact o6
            have B6 : Hid (Below w.heap.size w x4) := HB.out.trans b6
            clear o6 b6 l6
            go_wp2_with fail
            go_ret
            exact ⟨_, rfl, O6.out, B6.out⟩
      exact AllReadyH.nil
    exact AllReadyH.nil
  exact AllReadyH.nil
end Go.Proofs.Ytkanjbeijoeenaa.Bb

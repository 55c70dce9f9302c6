/- The document's disk: Remove, Rename. -/
import Derived.Test.YtgffojafdjcdoaaQd
namespace Go.Proofs.Ytgffojafdjcdoaa.Qe
open Go.ChangeShapes Go.WideShapes Go.ChangeAt Go.RowKit Go.Maps
open Go.Sort (grow)
open Go.Proofs.Ytgffojafdjcdoaa.By
open Go.Proofs.Ytgffojafdjcdoaa.Dk
open Go.Proofs.Ytgffojafdjcdoaa.Df (isN isQ isN_size)
open Go.Proofs.Ytgffojafdjcdoaa.Ap (wpList_append_run)
open Go.Proofs.Ytgffojafdjcdoaa.Pd
open Go.Proofs.Ytgffojafdjcdoaa.Qa
open Go.Proofs.Ytgffojafdjcdoaa.Qb
open Go.Proofs.Ytgffojafdjcdoaa.Qc
open Go.Proofs.Ytgffojafdjcdoaa.Qd
set_option linter.unusedVariables false
set_option linter.unusedSimpArgs false
theorem wp_append_run {P : Program} {w w' : World} {o : Oper} {a : Act} {K : Act → World → Prop} {Q : Exit → Act → World → Prop} (s x : Operand) (t tx : TypeId) (hop : o.op = Op.call { callee := Callee.builtin Builtin.append, args := #[s, x], argTypes := #[t, tx] })
    (u v v' : Value) (hs : a.eval s = u) (hx : a.eval x = v) (hrun : (Builtin.append_ #[t, tx] o.type #[u, v]).run P w = .ok v' w') (hK : K (a.put o.dst v') w') : o.wp P a w K Q := by
  unfold Oper.wp
  simp [execOp, hop, resolve, invoke, builtin, hs, hx, hrun, Result.andThen]
  exact hK
theorem tk_behind {w w1 w2 : World} {base g : Nat} {P : Nat → Prop} {R' : RS} (b : Below w.heap.size w w1) (h : Tk w1 w2 base g P R') : Tk w w2 base g P R' := by
  obtain ⟨v', P', h1, h2, h3⟩ := h
  exact ⟨v', P', h1, fr_before b h2, fun j hj => (h3 j hj).imp id (fun h => Nat.le_trans b.size h)⟩
set_option maxHeartbeats 4000000 in
set_option maxRecDepth 100000 in
theorem without_any {base g : Nat} {v : Value} {P : Nat → Prop} {R : RS} (s : ByteArray) (hs : s.size ≤ 9223372036854775807) (w : World) (H : RDk w base g v P R) (hok : RS.ok R) (hb : base ≤ w.heap.size) (r : RF) (hl : lkp R.rs s = some r) : Calls Try.prog 59 #[.pointer (some ⟨g, 0, none⟩), .int .i64 ((lo s R.rs).length : Int)] w fun e w' => e = .returned (.tuple #[]) ∧ Tk w w' base g P { R with rs := rm s R.rs } := by
  have hsrt := hok.srt
  have hlen := hok.len
  obtain ⟨a, c, rfl, hnc, _, _⟩ := H.own.shape
  have hlt : (lo s R.rs).length < R.rs.length := (List.getElem?_eq_some_iff.1 (at_place hsrt s hl)).1
  obtain ⟨D, hD⟩ : ∃ D, D = w.drew := ⟨_, rfl⟩
  have bD : Below w.heap.size w D := by rw [hD]; exact (Below.refl _ _).drew
  have HD := H.later bD
  obtain ⟨u1, u2, v9, W9, v11, W11, s1, s2, r9, r11, o11, B9, B11⟩ := two D (lo s R.rs).length HD.own hlt hlen
  have hut : R.rs.take (lo s R.rs).length ++ R.rs.drop ((lo s R.rs).length + 1) = rm s R.rs := by
    rw [take_lo hsrt, drop_some hsrt s hl]; rfl
  rw [hut] at o11
  obtain ⟨a11, c11, hv11, _⟩ := o11.shape
  generalize (rm s R.rs).length = n11 at hv11
  subst hv11
  have TL := hid (tk_laid (W := W11) bD (Fr.refl P D) HD hb o11 B11)
  have cD : D.cell? ⟨g, 0, none⟩ = some (.slice a R.rs.length c) := HD.cell 0 _ rfl
  have c8 : (D.alloc (.cells #[] 88)).cell? ⟨g, 0, none⟩ = some (.slice a R.rs.length c) := (HD.later (box_below _ _)).cell 0 _ rfl
  have c9 : W9.cell? ⟨g, 0, none⟩ = some (.slice a R.rs.length c) := (HD.later B9).cell 0 _ rfl
  have c11' : W11.cell? ⟨g, 0, none⟩ = some (.slice a R.rs.length c) := (HD.later B11).cell 0 _ rfl
  have f11 : W11.frozen? ⟨g, 0, none⟩ = false := fz_of (HD.later B11).cells 0
  obtain ⟨N, hN⟩ : ∃ N, N = R.rs.length := ⟨_, rfl⟩
  obtain ⟨L, hL⟩ : ∃ L, L = (lo s R.rs).length := ⟨_, rfl⟩
  rw [← hN] at cD c8 c9 c11' s1 s2 hlt hlen
  rw [← hL] at s1 s2 hlt ⊢
  have hwL : IntKind.i64.wrap ((L : Int) + 1) = (L : Int) + 1 := by rw [IntKind.wrap_i64]; omega
  have s2' : ∀ W : World, (Instr.slice 67 (.slice a N c) (some (.int .i64 ((L : Int) + 1))) none none).run Try.prog W = .ok u2 W := fun W => by
    rw [show ((L : Int) + 1) = ((L + 1 : Nat) : Int) by omega]; exact s2 W
  clear s2
  replace hN := hid hN
  replace hL := hid hL
  replace hut := hid hut
  replace r9 := hid r9
  replace r11 := hid r11
  replace hD := hid hD
  clear H HD hok hl B9 B11 o11 hsrt bD
  go_enter Try.func59, Try.ntmps59
  go_wp2_with fail
  refine wp_region_any (by kernel_rfl) ?_
  change wpAny _ _ _ _ _ _ _ (World.drew _)
  rw [← hD.out]
  refine wpAny_take (i := 0) (v := ?v1) rfl (by kernel_rfl) (by kernel_rfl) (by kernel_rfl) (fun _ _ _ h => h) (Or.inl ⟨by rfl, ?h1⟩) ?_
  case h1 => (intro w; go_simp; try (with_reducible rfl))
  go_simp
  refine wpAny_take (i := 2) (v := ?v2) rfl (by kernel_rfl) (by kernel_rfl) (by kernel_rfl) (fun _ _ _ h => h) (Or.inl ⟨by rfl, ?h2⟩) ?_
  case h2 => (intro w; go_simp; try (with_reducible rfl))
  go_simp
  refine wpAny_take (i := 3) (v := ?v3) rfl (by kernel_rfl) (by kernel_rfl) (by kernel_rfl) (fun _ _ _ h => h) (Or.inl ⟨by rfl, ?h3⟩) ?_
  case h3 => (intro w; go_simp; try (with_reducible rfl))
  go_simp
  refine wpAny_take (i := 4) (v := ?v4) rfl (by kernel_rfl) (by kernel_rfl) (by kernel_rfl) (fun _ _ _ h => h) (Or.inl ⟨by rfl, ?h4⟩) ?_
  case h4 => (intro w; go_simp; try (with_reducible rfl))
  go_simp
  refine wpAny_take (i := 6) (v := ?v5) rfl (by kernel_rfl) (by kernel_rfl) (by kernel_rfl) (fun _ _ _ h => h) (Or.inl ⟨by rfl, ?h5⟩) ?_
  case h5 => (intro w; go_simp; try (with_reducible rfl))
  go_simp
  refine wpAny_take (i := 9) (v := ?v6) rfl (by kernel_rfl) (by kernel_rfl) (by kernel_rfl) (fun _ _ _ h => h) (Or.inl ⟨by rfl, ?h6⟩) ?_
  case h6 => (intro w; go_simp; try (with_reducible rfl))
  go_simp
  refine wpAny_take (i := 10) (v := ?v7) rfl (by kernel_rfl) (by kernel_rfl) (by kernel_rfl) (fun _ _ _ h => h) (Or.inl ⟨by rfl, ?h7⟩) ?_
  case h7 => (intro w; go_simp; try (with_reducible rfl))
  go_simp
  refine wpAny_take (i := 11) (v := ?v8) rfl (by kernel_rfl) (by kernel_rfl) (by kernel_rfl) (fun _ _ _ h => h) (Or.inl ⟨by rfl, ?h8⟩) ?_
  case h8 => (intro w; go_simp; try (with_reducible rfl))
  go_simp
  refine wpAny_take (i := 13) (v := ?v9) rfl (by kernel_rfl) (by kernel_rfl) (by kernel_rfl) (fun _ _ _ h => h) (Or.inl ⟨by rfl, ?h9⟩) ?_
  case h9 => (intro w; go_simp; try (with_reducible rfl))
  go_simp
  refine wpAny_take (i := 14) (v := ?v10) rfl (by kernel_rfl) (by kernel_rfl) (by kernel_rfl) (fun _ _ _ h => h) (Or.inl ⟨by rfl, ?h10⟩) ?_
  case h10 => (intro w; go_simp; try (with_reducible rfl))
  go_simp
  refine wpAny_ready (rs := [1, 5, 12]) (by kernel_rfl) (by simp) ?_
  refine AllReady.cons rfl (fun K hK => ?_) ?_
  · go_simp
    refine hK _ _ ?_
    clear hK K
    refine wpAny_ready (rs := [5, 12]) (by kernel_rfl) (by simp) ?_
    refine AllReady.cons rfl (fun K hK => ?_) ?_
    · go_simp
      refine hK _ _ ?_
      clear hK K
      refine wpAny_take (i := 7) (v := ?v11) rfl (by kernel_rfl) (by kernel_rfl) (by kernel_rfl) (fun _ _ _ h => h) (Or.inl ⟨by rfl, ?h11⟩) ?_
      case h11 => (intro w; go_simp; try (with_reducible rfl))
      go_simp
      refine wpAny_ready (rs := [8, 12]) (by kernel_rfl) (by simp) ?_
      refine AllReady.cons rfl (fun K hK => ?_) ?_
      · rw [if_pos (by rfl)]
        refine wp_append_run _ _ 67 67 rfl _ _ _ (by rfl) (by rfl) r9.out ?_
        refine hK _ _ ?_
        clear hK K
        go_simp
        refine wpAny_ready (rs := [12]) (by kernel_rfl) (by simp) ?_
        refine AllReady.cons rfl (fun K hK => ?_) ?_
        · go_simp
          refine hK _ _ ?_
          clear hK K
          refine wpAny_take (i := 15) (v := ?v12) rfl (by kernel_rfl) (by kernel_rfl) (by kernel_rfl) (fun _ _ _ h => h) (Or.inl ⟨by rfl, ?h12⟩) ?_
          case h12 => (intro w; go_simp; try (with_reducible rfl))
          go_simp
          refine wpAny_ready (rs := [16]) (by kernel_rfl) (by simp) ?_
          refine AllReady.cons rfl (fun K hK => ?_) ?_
          · rw [if_pos (by rfl)]
            refine wp_append_run _ _ 67 67 rfl _ _ _ (by rfl) (by rfl) r11.out ?_
            refine hK _ _ ?_
            clear hK K
            go_simp
            refine wpAny_take (i := 17) (v := ?v13) rfl (by kernel_rfl) (by kernel_rfl) (by kernel_rfl) (fun _ _ _ h => h) (Or.inl ⟨by rfl, ?h13⟩) ?_
            case h13 => (intro w; go_simp; try (with_reducible rfl))
            go_simp
            refine wpAny_take (i := 18) (v := ?v14) rfl (by kernel_rfl) (by kernel_rfl) (by kernel_rfl) (fun _ _ _ h => h) (Or.inl ⟨by rfl, ?h14⟩) ?_
            case h14 => (intro w; go_simp; try (with_reducible rfl))
            go_simp
            refine wpAny_ready (rs := [19]) (by kernel_rfl) (by simp) ?_
            refine AllReady.cons rfl (fun K hK => ?_) ?_
            · go_simp
              refine hK _ _ ?_
              clear hK K
              refine wpAny_done (by kernel_rfl) ?_ _
              go_wp2_with fail
              exact bodyPost_end (v := .tuple #[]) (by simp [results, Try.results59, go_sem]) rfl ⟨rfl, TL.out⟩
            exact AllReady.nil
          exact AllReady.nil
        exact AllReady.nil
      refine AllReady.cons rfl (fun K hK => ?_) ?_
      · go_simp
        refine hK _ _ ?_
        clear hK K
        refine wpAny_take (i := 15) (v := ?v15) rfl (by kernel_rfl) (by kernel_rfl) (by kernel_rfl) (fun _ _ _ h => h) (Or.inl ⟨by rfl, ?h15⟩) ?_
        case h15 => (intro w; go_simp; try (with_reducible rfl))
        go_simp
        refine wpAny_ready (rs := [8]) (by kernel_rfl) (by simp) ?_
        refine AllReady.cons rfl (fun K hK => ?_) ?_
        · rw [if_pos (by rfl)]
          refine wp_append_run _ _ 67 67 rfl _ _ _ (by rfl) (by rfl) r9.out ?_
          refine hK _ _ ?_
          clear hK K
          go_simp
          refine wpAny_ready (rs := [16]) (by kernel_rfl) (by simp) ?_
          refine AllReady.cons rfl (fun K hK => ?_) ?_
          · rw [if_pos (by rfl)]
            refine wp_append_run _ _ 67 67 rfl _ _ _ (by rfl) (by rfl) r11.out ?_
            refine hK _ _ ?_
            clear hK K
            go_simp
            refine wpAny_take (i := 17) (v := ?v16) rfl (by kernel_rfl) (by kernel_rfl) (by kernel_rfl) (fun _ _ _ h => h) (Or.inl ⟨by rfl, ?h16⟩) ?_
            case h16 => (intro w; go_simp; try (with_reducible rfl))
            go_simp
            refine wpAny_take (i := 18) (v := ?v17) rfl (by kernel_rfl) (by kernel_rfl) (by kernel_rfl) (fun _ _ _ h => h) (Or.inl ⟨by rfl, ?h17⟩) ?_
            case h17 => (intro w; go_simp; try (with_reducible rfl))
            go_simp
            refine wpAny_ready (rs := [19]) (by kernel_rfl) (by simp) ?_
            refine AllReady.cons rfl (fun K hK => ?_) ?_
            · go_simp
              refine hK _ _ ?_
              clear hK K
              refine wpAny_done (by kernel_rfl) ?_ _
              go_wp2_with fail
              exact bodyPost_end (v := .tuple #[]) (by simp [results, Try.results59, go_sem]) rfl ⟨rfl, TL.out⟩
            exact AllReady.nil
          exact AllReady.nil
        exact AllReady.nil
      exact AllReady.nil
    refine AllReady.cons rfl (fun K hK => ?_) ?_
    · go_simp
      refine hK _ _ ?_
      clear hK K
      refine wpAny_take (i := 15) (v := ?v18) rfl (by kernel_rfl) (by kernel_rfl) (by kernel_rfl) (fun _ _ _ h => h) (Or.inl ⟨by rfl, ?h18⟩) ?_
      case h18 => (intro w; go_simp; try (with_reducible rfl))
      go_simp
      refine wpAny_ready (rs := [5]) (by kernel_rfl) (by simp) ?_
      refine AllReady.cons rfl (fun K hK => ?_) ?_
      · go_simp
        refine hK _ _ ?_
        clear hK K
        refine wpAny_take (i := 7) (v := ?v19) rfl (by kernel_rfl) (by kernel_rfl) (by kernel_rfl) (fun _ _ _ h => h) (Or.inl ⟨by rfl, ?h19⟩) ?_
        case h19 => (intro w; go_simp; try (with_reducible rfl))
        go_simp
        refine wpAny_ready (rs := [8]) (by kernel_rfl) (by simp) ?_
        refine AllReady.cons rfl (fun K hK => ?_) ?_
        · rw [if_pos (by rfl)]
          refine wp_append_run _ _ 67 67 rfl _ _ _ (by rfl) (by rfl) r9.out ?_
          refine hK _ _ ?_
          clear hK K
          go_simp
          refine wpAny_ready (rs := [16]) (by kernel_rfl) (by simp) ?_
          refine AllReady.cons rfl (fun K hK => ?_) ?_
          · rw [if_pos (by rfl)]
            refine wp_append_run _ _ 67 67 rfl _ _ _ (by rfl) (by rfl) r11.out ?_
            refine hK _ _ ?_
            clear hK K
            go_simp
            refine wpAny_take (i := 17) (v := ?v20) rfl (by kernel_rfl) (by kernel_rfl) (by kernel_rfl) (fun _ _ _ h => h) (Or.inl ⟨by rfl, ?h20⟩) ?_
            case h20 => (intro w; go_simp; try (with_reducible rfl))
            go_simp
            refine wpAny_take (i := 18) (v := ?v21) rfl (by kernel_rfl) (by kernel_rfl) (by kernel_rfl) (fun _ _ _ h => h) (Or.inl ⟨by rfl, ?h21⟩) ?_
            case h21 => (intro w; go_simp; try (with_reducible rfl))
            go_simp
            refine wpAny_ready (rs := [19]) (by kernel_rfl) (by simp) ?_
            refine AllReady.cons rfl (fun K hK => ?_) ?_
            · go_simp
              refine hK _ _ ?_
              clear hK K
              refine wpAny_done (by kernel_rfl) ?_ _
              go_wp2_with fail
              exact bodyPost_end (v := .tuple #[]) (by simp [results, Try.results59, go_sem]) rfl ⟨rfl, TL.out⟩
            exact AllReady.nil
          exact AllReady.nil
        exact AllReady.nil
      exact AllReady.nil
    exact AllReady.nil
  refine AllReady.cons rfl (fun K hK => ?_) ?_
  · go_simp
    refine hK _ _ ?_
    clear hK K
    refine wpAny_take (i := 7) (v := ?v22) rfl (by kernel_rfl) (by kernel_rfl) (by kernel_rfl) (fun _ _ _ h => h) (Or.inl ⟨by rfl, ?h22⟩) ?_
    case h22 => (intro w; go_simp; try (with_reducible rfl))
    go_simp
    refine wpAny_ready (rs := [1, 12]) (by kernel_rfl) (by simp) ?_
    refine AllReady.cons rfl (fun K hK => ?_) ?_
    · go_simp
      refine hK _ _ ?_
      clear hK K
      refine wpAny_ready (rs := [8, 12]) (by kernel_rfl) (by simp) ?_
      refine AllReady.cons rfl (fun K hK => ?_) ?_
      · rw [if_pos (by rfl)]
        refine wp_append_run _ _ 67 67 rfl _ _ _ (by rfl) (by rfl) r9.out ?_
        refine hK _ _ ?_
        clear hK K
        go_simp
        refine wpAny_ready (rs := [12]) (by kernel_rfl) (by simp) ?_
        refine AllReady.cons rfl (fun K hK => ?_) ?_
        · go_simp
          refine hK _ _ ?_
          clear hK K
          refine wpAny_take (i := 15) (v := ?v23) rfl (by kernel_rfl) (by kernel_rfl) (by kernel_rfl) (fun _ _ _ h => h) (Or.inl ⟨by rfl, ?h23⟩) ?_
          case h23 => (intro w; go_simp; try (with_reducible rfl))
          go_simp
          refine wpAny_ready (rs := [16]) (by kernel_rfl) (by simp) ?_
          refine AllReady.cons rfl (fun K hK => ?_) ?_
          · rw [if_pos (by rfl)]
            refine wp_append_run _ _ 67 67 rfl _ _ _ (by rfl) (by rfl) r11.out ?_
            refine hK _ _ ?_
            clear hK K
            go_simp
            refine wpAny_take (i := 17) (v := ?v24) rfl (by kernel_rfl) (by kernel_rfl) (by kernel_rfl) (fun _ _ _ h => h) (Or.inl ⟨by rfl, ?h24⟩) ?_
            case h24 => (intro w; go_simp; try (with_reducible rfl))
            go_simp
            refine wpAny_take (i := 18) (v := ?v25) rfl (by kernel_rfl) (by kernel_rfl) (by kernel_rfl) (fun _ _ _ h => h) (Or.inl ⟨by rfl, ?h25⟩) ?_
            case h25 => (intro w; go_simp; try (with_reducible rfl))
            go_simp
            refine wpAny_ready (rs := [19]) (by kernel_rfl) (by simp) ?_
            refine AllReady.cons rfl (fun K hK => ?_) ?_
            · go_simp
              refine hK _ _ ?_
              clear hK K
              refine wpAny_done (by kernel_rfl) ?_ _
              go_wp2_with fail
              exact bodyPost_end (v := .tuple #[]) (by simp [results, Try.results59, go_sem]) rfl ⟨rfl, TL.out⟩
            exact AllReady.nil
          exact AllReady.nil
        exact AllReady.nil
      refine AllReady.cons rfl (fun K hK => ?_) ?_
      · go_simp
        refine hK _ _ ?_
        clear hK K
        refine wpAny_take (i := 15) (v := ?v26) rfl (by kernel_rfl) (by kernel_rfl) (by kernel_rfl) (fun _ _ _ h => h) (Or.inl ⟨by rfl, ?h26⟩) ?_
        case h26 => (intro w; go_simp; try (with_reducible rfl))
        go_simp
        refine wpAny_ready (rs := [8]) (by kernel_rfl) (by simp) ?_
        refine AllReady.cons rfl (fun K hK => ?_) ?_
        · rw [if_pos (by rfl)]
          refine wp_append_run _ _ 67 67 rfl _ _ _ (by rfl) (by rfl) r9.out ?_
          refine hK _ _ ?_
          clear hK K
          go_simp
          refine wpAny_ready (rs := [16]) (by kernel_rfl) (by simp) ?_
          refine AllReady.cons rfl (fun K hK => ?_) ?_
          · rw [if_pos (by rfl)]
            refine wp_append_run _ _ 67 67 rfl _ _ _ (by rfl) (by rfl) r11.out ?_
            refine hK _ _ ?_
            clear hK K
            go_simp
            refine wpAny_take (i := 17) (v := ?v27) rfl (by kernel_rfl) (by kernel_rfl) (by kernel_rfl) (fun _ _ _ h => h) (Or.inl ⟨by rfl, ?h27⟩) ?_
            case h27 => (intro w; go_simp; try (with_reducible rfl))
            go_simp
            refine wpAny_take (i := 18) (v := ?v28) rfl (by kernel_rfl) (by kernel_rfl) (by kernel_rfl) (fun _ _ _ h => h) (Or.inl ⟨by rfl, ?h28⟩) ?_
            case h28 => (intro w; go_simp; try (with_reducible rfl))
            go_simp
            refine wpAny_ready (rs := [19]) (by kernel_rfl) (by simp) ?_
            refine AllReady.cons rfl (fun K hK => ?_) ?_
            · go_simp
              refine hK _ _ ?_
              clear hK K
              refine wpAny_done (by kernel_rfl) ?_ _
              go_wp2_with fail
              exact bodyPost_end (v := .tuple #[]) (by simp [results, Try.results59, go_sem]) rfl ⟨rfl, TL.out⟩
            exact AllReady.nil
          exact AllReady.nil
        exact AllReady.nil
      exact AllReady.nil
    refine AllReady.cons rfl (fun K hK => ?_) ?_
    · go_simp
      refine hK _ _ ?_
      clear hK K
      refine wpAny_take (i := 15) (v := ?v29) rfl (by kernel_rfl) (by kernel_rfl) (by kernel_rfl) (fun _ _ _ h => h) (Or.inl ⟨by rfl, ?h29⟩) ?_
      case h29 => (intro w; go_simp; try (with_reducible rfl))
      go_simp
      refine wpAny_ready (rs := [1]) (by kernel_rfl) (by simp) ?_
      refine AllReady.cons rfl (fun K hK => ?_) ?_
      · go_simp
        refine hK _ _ ?_
        clear hK K
        refine wpAny_ready (rs := [8]) (by kernel_rfl) (by simp) ?_
        refine AllReady.cons rfl (fun K hK => ?_) ?_
        · rw [if_pos (by rfl)]
          refine wp_append_run _ _ 67 67 rfl _ _ _ (by rfl) (by rfl) r9.out ?_
          refine hK _ _ ?_
          clear hK K
          go_simp
          refine wpAny_ready (rs := [16]) (by kernel_rfl) (by simp) ?_
          refine AllReady.cons rfl (fun K hK => ?_) ?_
          · rw [if_pos (by rfl)]
            refine wp_append_run _ _ 67 67 rfl _ _ _ (by rfl) (by rfl) r11.out ?_
            refine hK _ _ ?_
            clear hK K
            go_simp
            refine wpAny_take (i := 17) (v := ?v30) rfl (by kernel_rfl) (by kernel_rfl) (by kernel_rfl) (fun _ _ _ h => h) (Or.inl ⟨by rfl, ?h30⟩) ?_
            case h30 => (intro w; go_simp; try (with_reducible rfl))
            go_simp
            refine wpAny_take (i := 18) (v := ?v31) rfl (by kernel_rfl) (by kernel_rfl) (by kernel_rfl) (fun _ _ _ h => h) (Or.inl ⟨by rfl, ?h31⟩) ?_
            case h31 => (intro w; go_simp; try (with_reducible rfl))
            go_simp
            refine wpAny_ready (rs := [19]) (by kernel_rfl) (by simp) ?_
            refine AllReady.cons rfl (fun K hK => ?_) ?_
            · go_simp
              refine hK _ _ ?_
              clear hK K
              refine wpAny_done (by kernel_rfl) ?_ _
              go_wp2_with fail
              exact bodyPost_end (v := .tuple #[]) (by simp [results, Try.results59, go_sem]) rfl ⟨rfl, TL.out⟩
            exact AllReady.nil
          exact AllReady.nil
        exact AllReady.nil
      exact AllReady.nil
    exact AllReady.nil
  refine AllReady.cons rfl (fun K hK => ?_) ?_
  · go_simp
    refine hK _ _ ?_
    clear hK K
    refine wpAny_take (i := 15) (v := ?v32) rfl (by kernel_rfl) (by kernel_rfl) (by kernel_rfl) (fun _ _ _ h => h) (Or.inl ⟨by rfl, ?h32⟩) ?_
    case h32 => (intro w; go_simp; try (with_reducible rfl))
    go_simp
    refine wpAny_ready (rs := [1, 5]) (by kernel_rfl) (by simp) ?_
    refine AllReady.cons rfl (fun K hK => ?_) ?_
    · go_simp
      refine hK _ _ ?_
      clear hK K
      refine wpAny_ready (rs := [5]) (by kernel_rfl) (by simp) ?_
      refine AllReady.cons rfl (fun K hK => ?_) ?_
      · go_simp
        refine hK _ _ ?_
        clear hK K
        refine wpAny_take (i := 7) (v := ?v33) rfl (by kernel_rfl) (by kernel_rfl) (by kernel_rfl) (fun _ _ _ h => h) (Or.inl ⟨by rfl, ?h33⟩) ?_
        case h33 => (intro w; go_simp; try (with_reducible rfl))
        go_simp
        refine wpAny_ready (rs := [8]) (by kernel_rfl) (by simp) ?_
        refine AllReady.cons rfl (fun K hK => ?_) ?_
        · rw [if_pos (by rfl)]
          refine wp_append_run _ _ 67 67 rfl _ _ _ (by rfl) (by rfl) r9.out ?_
          refine hK _ _ ?_
          clear hK K
          go_simp
          refine wpAny_ready (rs := [16]) (by kernel_rfl) (by simp) ?_
          refine AllReady.cons rfl (fun K hK => ?_) ?_
          · rw [if_pos (by rfl)]
            refine wp_append_run _ _ 67 67 rfl _ _ _ (by rfl) (by rfl) r11.out ?_
            refine hK _ _ ?_
            clear hK K
            go_simp
            refine wpAny_take (i := 17) (v := ?v34) rfl (by kernel_rfl) (by kernel_rfl) (by kernel_rfl) (fun _ _ _ h => h) (Or.inl ⟨by rfl, ?h34⟩) ?_
            case h34 => (intro w; go_simp; try (with_reducible rfl))
            go_simp
            refine wpAny_take (i := 18) (v := ?v35) rfl (by kernel_rfl) (by kernel_rfl) (by kernel_rfl) (fun _ _ _ h => h) (Or.inl ⟨by rfl, ?h35⟩) ?_
            case h35 => (intro w; go_simp; try (with_reducible rfl))
            go_simp
            refine wpAny_ready (rs := [19]) (by kernel_rfl) (by simp) ?_
            refine AllReady.cons rfl (fun K hK => ?_) ?_
            · go_simp
              refine hK _ _ ?_
              clear hK K
              refine wpAny_done (by kernel_rfl) ?_ _
              go_wp2_with fail
              exact bodyPost_end (v := .tuple #[]) (by simp [results, Try.results59, go_sem]) rfl ⟨rfl, TL.out⟩
            exact AllReady.nil
          exact AllReady.nil
        exact AllReady.nil
      exact AllReady.nil
    refine AllReady.cons rfl (fun K hK => ?_) ?_
    · go_simp
      refine hK _ _ ?_
      clear hK K
      refine wpAny_take (i := 7) (v := ?v36) rfl (by kernel_rfl) (by kernel_rfl) (by kernel_rfl) (fun _ _ _ h => h) (Or.inl ⟨by rfl, ?h36⟩) ?_
      case h36 => (intro w; go_simp; try (with_reducible rfl))
      go_simp
      refine wpAny_ready (rs := [1]) (by kernel_rfl) (by simp) ?_
      refine AllReady.cons rfl (fun K hK => ?_) ?_
      · go_simp
        refine hK _ _ ?_
        clear hK K
        refine wpAny_ready (rs := [8]) (by kernel_rfl) (by simp) ?_
        refine AllReady.cons rfl (fun K hK => ?_) ?_
        · rw [if_pos (by rfl)]
          refine wp_append_run _ _ 67 67 rfl _ _ _ (by rfl) (by rfl) r9.out ?_
          refine hK _ _ ?_
          clear hK K
          go_simp
          refine wpAny_ready (rs := [16]) (by kernel_rfl) (by simp) ?_
          refine AllReady.cons rfl (fun K hK => ?_) ?_
          · rw [if_pos (by rfl)]
            refine wp_append_run _ _ 67 67 rfl _ _ _ (by rfl) (by rfl) r11.out ?_
            refine hK _ _ ?_
            clear hK K
            go_simp
            refine wpAny_take (i := 17) (v := ?v37) rfl (by kernel_rfl) (by kernel_rfl) (by kernel_rfl) (fun _ _ _ h => h) (Or.inl ⟨by rfl, ?h37⟩) ?_
            case h37 => (intro w; go_simp; try (with_reducible rfl))
            go_simp
            refine wpAny_take (i := 18) (v := ?v38) rfl (by kernel_rfl) (by kernel_rfl) (by kernel_rfl) (fun _ _ _ h => h) (Or.inl ⟨by rfl, ?h38⟩) ?_
            case h38 => (intro w; go_simp; try (with_reducible rfl))
            go_simp
            refine wpAny_ready (rs := [19]) (by kernel_rfl) (by simp) ?_
            refine AllReady.cons rfl (fun K hK => ?_) ?_
            · go_simp
              refine hK _ _ ?_
              clear hK K
              refine wpAny_done (by kernel_rfl) ?_ _
              go_wp2_with fail
              exact bodyPost_end (v := .tuple #[]) (by simp [results, Try.results59, go_sem]) rfl ⟨rfl, TL.out⟩
            exact AllReady.nil
          exact AllReady.nil
        exact AllReady.nil
      exact AllReady.nil
    exact AllReady.nil
  exact AllReady.nil
set_option maxHeartbeats 4000000 in
set_option maxRecDepth 100000 in
theorem remove_bad {base g : Nat} {v : Value} {P : Nat → Prop} {R : RS} (s : ByteArray) (hs : s.size ≤ 9223372036854775807) (w : World) (H : RDk w base g v P R) (hok : RS.ok R) (hb : base ≤ w.heap.size) (hi : isN s = false) : Calls Try.prog 39 #[.pointer (some ⟨g, 0, none⟩), .string s] w fun e w' => e = .returned (.int .i64 2) ∧ Tk w w' base g P R := by
  have HN := rname_any s hs w
  rw [hi] at HN
  replace HN := hid HN
  have HT := hid (tk_same H (Below.refl _ _))
  clear H hok
  go_enter Try.func39, Try.ntmps39
  go_wp2_with fail
  refine HN.out.mono ?_
  rintro e w1 ⟨rfl, rfl⟩
  go_wp2_with fail
  go_ret
  exact ⟨rfl, HT.out⟩
set_option maxHeartbeats 4000000 in
set_option maxRecDepth 100000 in
theorem remove_none {base g : Nat} {v : Value} {P : Nat → Prop} {R : RS} (s : ByteArray) (hs : s.size ≤ 9223372036854775807) (w : World) (H : RDk w base g v P R) (hok : RS.ok R) (hb : base ≤ w.heap.size) (hi : isN s = true) (hl : lkp R.rs s = none) : Calls Try.prog 39 #[.pointer (some ⟨g, 0, none⟩), .string s] w fun e w' => e = .returned (.int .i64 51) ∧ Tk w w' base g P R := by
  have HN := rname_any s hs w
  rw [hi] at HN
  replace HN := hid HN
  have HF := hid (rfind_no s hl w H hok)
  have HT : Hid (∀ w', Below w.heap.size w w' → Tk w w' base g P R) := fun w' b => tk_same H b
  clear H hok hl
  go_enter Try.func39, Try.ntmps39
  go_wp2_with fail
  refine HN.out.mono ?_
  rintro e w1 ⟨rfl, rfl⟩
  go_wp2_with fail
  refine HF.out.mono ?_
  rintro e w2 ⟨rfl, b2⟩
  replace b2 := hid b2
  go_wp2_with fail
  go_ret
  exact ⟨rfl, HT.out _ b2.out⟩
set_option maxHeartbeats 4000000 in
set_option maxRecDepth 100000 in
theorem remove_ok {base g : Nat} {v : Value} {P : Nat → Prop} {R : RS} (s : ByteArray) (hs : s.size ≤ 9223372036854775807) (w : World) (H : RDk w base g v P R) (hok : RS.ok R) (hb : base ≤ w.heap.size) (hi : isN s = true) (r : RF) (hl : lkp R.rs s = some r) : Calls Try.prog 39 #[.pointer (some ⟨g, 0, none⟩), .string s] w fun e w' => e = .returned (.int .i64 0) ∧ Tk w w' base g P { R with rs := rm s R.rs } := by
  have HN := rname_any s hs w
  rw [hi] at HN
  replace HN := hid HN
  have HF := hid (rfind_yes s r hl w H hok)
  have HW : Hid (∀ w1, Below w.heap.size w w1 → Calls Try.prog 59 #[.pointer (some ⟨g, 0, none⟩), .int .i64 ((lo s R.rs).length : Int)] w1 fun e w' => e = .returned (.tuple #[]) ∧ Tk w1 w' base g P { R with rs := rm s R.rs }) := fun w1 b => without_any s hs w1 (H.later b) hok (Nat.le_trans hb b.size) r hl
  clear H hok hl
  go_enter Try.func39, Try.ntmps39
  go_wp2_with fail
  refine HN.out.mono ?_
  rintro e w1 ⟨rfl, rfl⟩
  go_wp2_with fail
  refine HF.out.mono ?_
  rintro e w2 ⟨rfl, b2⟩
  replace b2 := hid b2
  go_wp2_with fail
  refine (HW.out _ b2.out).mono ?_
  rintro e w3 ⟨rfl, T3⟩
  replace T3 := hid T3
  go_wp2_with fail
  go_ret
  exact ⟨rfl, tk_behind b2.out T3.out⟩
theorem remove_any {base g : Nat} {v : Value} {P : Nat → Prop} {R : RS} (s : ByteArray) (hs : s.size ≤ 9223372036854775807) (w : World) (H : RDk w base g v P R) (hok : RS.ok R) (hb : base ≤ w.heap.size) : Calls Try.prog 39 #[.pointer (some ⟨g, 0, none⟩), .string s] w fun e w' => e = .returned (.int .i64 (rrmv R s).2) ∧ Tk w w' base g P (rrmv R s).1 := by
  unfold rrmv
  by_cases hi : isN s = false
  · rw [if_pos hi]; exact remove_bad s hs w H hok hb hi
  · rw [if_neg hi]
    replace hi : isN s = true := by simpa using hi
    cases hl : lkp R.rs s with
    | none => exact remove_none s hs w H hok hb hi hl
    | some r => exact remove_ok s hs w H hok hb hi r hl
end Go.Proofs.Ytgffojafdjcdoaa.Qe

/- Proved: for all bytes and every number, CodecForms returns true: what PutVarint lays for a number has Size bytes, one to ten; and what Varint reads as a number is just what PutVarint lays for it. -/
import Derived.Test.YtpinknkdcecajabWr
import Derived.ShutString
import Derived.ChangeOld
import Derived.Below
import Derived.SizedLaws
import Derived.Deep.RegionWith
namespace Go.Proofs.Ytpinknkdcecajab.codecForms
open Go.ChangeShapes Go.WideShapes Go.ChangeAt Go.RowKit
open Go.ChangeMaps (open_string shut_string)
open Go.Proofs.Ytpinknkdcecajab.Rd (Bytes ret_int addr_add)
open Go.Proofs.Ytpinknkdcecajab.Wr
set_option linter.unusedVariables false

set_option maxHeartbeats 1000000 in
theorem forms (a0 : Option Addr) (len cap : Nat) (zs : List Int) (v : Int) (w : World) (H : Bytes w a0 len cap zs) (hcap : cap ≤ 281474976710656) (hv : 0 ≤ v ∧ v ≤ 18446744073709551615) :
    Calls Try.prog 3 #[.slice a0 len cap, .int .u64 v] w fun e w' => e = .returned (.bool true) ∧ Below w.heap.size w w' := by
  have hnil : Bytes w none 0 0 [] := ⟨rfl, Nat.le_refl _, fun _ => ⟨rfl, rfl⟩, by simp, by simp⟩
  have L1 := Vb.vb_pos v
  have L2 := Vb.vb_le v
  have HH : Hid (Bytes w a0 len cap zs) := H
  have HN : Hid (Bytes w none 0 0 []) := hnil
  clear H hnil
  go_enter Try.func3, Try.ntmps3
  go_wp2_with fail
  refine (putv_any none 0 0 [] v _ HN.out hv (by omega)).mono ?_
  rintro e w1 ⟨rfl, R1, b1⟩
  simp only [Nat.zero_add, List.nil_append] at R1 ⊢
  generalize hL : (Vb.vb v).length = L at L1 L2 R1
  have HR1 : Hid (Row w1 w.heap.size w.heap.size L L (Vb.vb v)) := R1
  have HL : Hid ((Vb.vb v).length = L) := hL
  clear R1 hL
  go_wp2_with fail
  refine (Rd.size_any v _ hv).mono ?_
  rintro e w' ⟨rfl, rfl⟩
  rw [HL.out]
  go_wp2_with fail
  have hB1 : Bytes w' a0 len cap zs := ⟨HH.out.1, HH.out.2.1, HH.out.2.2.1, HH.out.2.2.2.1, fun x hx i hi => cell_later b1 (HH.out.2.2.2.2 x hx i hi)⟩
  have hF := Vb.vread_form zs HH.out.2.2.2.1
  have hE := Vb.vread_err zs 0
  refine (Rd.varint_any a0 len cap zs 0 _ hB1 hcap).mono ?_
  rintro e w'' ⟨rfl, rfl⟩
  by_cases he : (Vb.vread zs 0).2.2 = 0
  · obtain ⟨m, hm1, hml, hm2, hm3, hx0, hx1⟩ := hF he
    generalize Vb.vread zs 0 = r at he hm2 hm3 hx0 hx1
    obtain ⟨x, q, E⟩ := r
    simp only at he hm2 hm3 hx0 hx1
    subst he hm2
    rw [HH.out.1] at hml
    have HM : Hid (zs.take m = Vb.vb x) := hm3
    clear hm3 hE hF hB1
    cases a0 with
    | none => have := HH.out.2.2.1 rfl; omega
    | some ad =>
      have h0 := HH.out.2.2.2.2 ad rfl 0 (by omega)
      obtain ⟨b, off, spot⟩ := ad
      have hspot : spot = none := by simpa [Addr.add] using World.cell?_spot h0
      subst hspot
      clear h0
      have hlc : len ≤ cap := HH.out.2.1
      have hmc : m ≤ cap := by omega
      have hm1' : (1 : Int) ≤ (m : Int) := by omega
      have hml' : (m : Int) ≤ (len : Int) := by omega
      have d1 : decide ((1 : Int) ≤ (m : Int)) = true := by simpa using hm1'
      have d2 : decide ((m : Int) ≤ (len : Int)) = true := by simpa using hml'
      have hTB : Hid (Bytes w'' (some ⟨b, off, none⟩) m cap (Vb.vb x)) := by
        have := bytes_take (bytes_kept HH.out b1) m hml (by simp)
        rw [HM.out] at this
        exact this
      have k0 : Sem.run Try.prog (convert 22 9 (.slice (some ⟨b, off, none⟩) m cap)) w''.drew = .ok (.string (str (Vb.vb x))) w''.drew := Bytes.conv (W := w''.drew) hTB.out
      go_wp2_with fail
      refine wp_region_any (by kernel_rfl) ?_
      change wpAny _ _ _ _ _ _ _ (World.drew _)
      refine wpAny_take (i := 0) (v := ?v1) rfl (by kernel_rfl) (by kernel_rfl) (by kernel_rfl) (fun _ _ _ h => h) (Or.inl ⟨by rfl, ?h1⟩) ?_
      case h1 => (intro w; go_simp; try (with_reducible rfl))
      go_simp
      refine wpAny_take (i := 1) (v := ?v2) rfl (by kernel_rfl) (by kernel_rfl) (by kernel_rfl) (fun _ _ _ h => h) (Or.inl ⟨by rfl, ?h2⟩) ?_
      case h2 => (intro w; go_simp; try (with_reducible rfl))
      go_simp
      refine wpAny_take (i := 2) (v := ?v3) rfl (by kernel_rfl) (by kernel_rfl) (by kernel_rfl) (fun _ _ _ h => h) (Or.inl ⟨by rfl, ?h3⟩) ?_
      case h3 => (intro w; go_simp; try (with_reducible rfl))
      go_simp
      refine wpAny_take (i := 3) (v := ?v4) rfl (by kernel_rfl) (by kernel_rfl) (by kernel_rfl) (fun _ _ _ h => h) (Or.inl ⟨by rfl, ?h4⟩) ?_
      case h4 => (intro w; go_simp; try (with_reducible rfl))
      go_simp
      refine wpAny_take (i := 4) (v := ?v5) rfl (by kernel_rfl) (by kernel_rfl) (by kernel_rfl) (fun _ _ _ h => h) (Or.inl ⟨by rfl, ?h5⟩) ?_
      case h5 => (intro w; go_simp; try (with_reducible rfl))
      go_simp
      refine wpAny_take (i := 5) (v := ?v6) rfl (by kernel_rfl) (by kernel_rfl) (by kernel_rfl) (fun _ _ _ h => h) (Or.inl ⟨by rfl, ?h6⟩) ?_
      case h6 => (intro w; go_simp; try (with_reducible rfl))
      go_simp
      refine wpAny_take (i := 6) (v := ?v7) rfl (by kernel_rfl) (by kernel_rfl) (by kernel_rfl) (fun _ _ _ h => h) (Or.inl ⟨by rfl, ?h7⟩) ?_
      case h7 => (intro w; go_simp; try (with_reducible rfl))
      go_simp
      refine wpAny_take (i := 7) (v := ?v8) rfl (by kernel_rfl) (by kernel_rfl) (by kernel_rfl) (fun _ _ _ h => h) (Or.inl ⟨by rfl, ?h8⟩) ?_
      case h8 => (intro w; go_simp; try (with_reducible rfl))
      go_simp
      refine wpAny_take (i := 8) (v := ?v9) rfl (by kernel_rfl) (by kernel_rfl) (by kernel_rfl) (fun _ _ _ h => h) (Or.inl ⟨by rfl, ?h9⟩) ?_
      case h9 => (intro w; go_simp; try (with_reducible rfl))
      go_simp
      refine wpAny_take (i := 9) (v := ?v10) rfl (by kernel_rfl) (by kernel_rfl) (by kernel_rfl) (fun _ _ _ h => h) (Or.inl ⟨by rfl, ?h10⟩) ?_
      case h10 => (intro w; go_simp; try (with_reducible rfl))
      go_simp
      refine wpAny_take (i := 12) (v := ?v11) rfl (by kernel_rfl) (by kernel_rfl) (by kernel_rfl) (fun _ _ _ h => h) (Or.inl ⟨by rfl, ?h11⟩) ?_
      case h11 => (intro w; go_simp; try (with_reducible rfl))
      go_simp
      refine wpAny_take (i := 13) (v := ?v12) rfl (by kernel_rfl) (by kernel_rfl) (by kernel_rfl) (fun _ _ _ h => h) (Or.inl ⟨by rfl, ?h12⟩) ?_
      case h12 => (intro w; go_simp; try (with_reducible rfl))
      go_simp
      refine wpAny_take (i := 14) (v := ?v13) rfl (by kernel_rfl) (by kernel_rfl) (by kernel_rfl) (fun _ _ _ h => h) (Or.inl ⟨by rfl, ?h13⟩) ?_
      case h13 => (intro w; go_simp; try (with_reducible rfl))
      go_simp
      refine wpAny_ready (rs := [10, 15]) (by kernel_rfl) (by simp) ?_
      refine AllReady.cons rfl (fun K hK => ?_) ?_
      · go_simp
        go_wp2_with fail
        refine (putv_any none 0 0 [] x _ (nil_bytes _) ⟨hx0, hx1⟩ (by omega)).mono ?_
        rintro e w2 ⟨rfl, R2, b2⟩
        simp only [Nat.zero_add, List.nil_append] at R2 ⊢
        have k1 : Sem.run Try.prog (convert 22 9 (.slice (some ⟨w''.heap.size, 0, none⟩) (Vb.vb x).length (Vb.vb x).length)) w2 = .ok (.string (str (Vb.vb x))) w2 := R2.conv
        have k2 := Bytes.conv (bytes_kept (W := w''.drew) hTB.out b2)
        have BEL : Below w.heap.size w w2 := b1.trans ((Below.mono (w := w'') (w' := w2) ⟨b2.os, b2.tape, b2.output, b2.size, b2.block⟩ b1.size))
        clear R2 b2
        go_wp2_with fail
        refine wpAny_ready (rs := [11, 15]) (by kernel_rfl) (by simp) ?_
        refine AllReady.cons rfl (fun K hK => ?_) ?_
        · go_simp
          refine hK _ _ ?_
          clear hK K
          refine wpAny_ready (rs := [15]) (by kernel_rfl) (by simp) ?_
          refine AllReady.cons rfl (fun K hK => ?_) ?_
          · go_simp
            refine hK _ _ ?_
            clear hK K
            refine wpAny_take (i := 16) (v := ?v14) rfl (by kernel_rfl) (by kernel_rfl) (by kernel_rfl) (fun _ _ _ h => h) (Or.inl ⟨by rfl, ?h14⟩) ?_
            case h14 => (intro w; go_simp; try (with_reducible rfl))
            go_simp
            refine wpAny_take (i := 17) (v := ?v15) rfl (by kernel_rfl) (by kernel_rfl) (by kernel_rfl) (fun _ _ _ h => h) (Or.inl ⟨by rfl, ?h15⟩) ?_
            case h15 => (intro w; go_simp; try (with_reducible rfl))
            go_simp
            refine wpAny_take (i := 18) (v := ?v16) rfl (by kernel_rfl) (by kernel_rfl) (by kernel_rfl) (fun _ _ _ h => h) (Or.inl ⟨by rfl, ?h16⟩) ?_
            case h16 => (intro w; go_simp; try (with_reducible rfl))
            go_simp
            refine wpAny_done (by kernel_rfl) ?_ _
            go_wp2
            go_ret
            exact ⟨by simp, BEL⟩
          exact AllReady.nil
        refine AllReady.cons rfl (fun K hK => ?_) ?_
        · go_simp
          refine hK _ _ ?_
          clear hK K
          refine wpAny_ready (rs := [11]) (by kernel_rfl) (by simp) ?_
          refine AllReady.cons rfl (fun K hK => ?_) ?_
          · go_simp
            refine hK _ _ ?_
            clear hK K
            refine wpAny_take (i := 16) (v := ?v17) rfl (by kernel_rfl) (by kernel_rfl) (by kernel_rfl) (fun _ _ _ h => h) (Or.inl ⟨by rfl, ?h17⟩) ?_
            case h17 => (intro w; go_simp; try (with_reducible rfl))
            go_simp
            refine wpAny_take (i := 17) (v := ?v18) rfl (by kernel_rfl) (by kernel_rfl) (by kernel_rfl) (fun _ _ _ h => h) (Or.inl ⟨by rfl, ?h18⟩) ?_
            case h18 => (intro w; go_simp; try (with_reducible rfl))
            go_simp
            refine wpAny_take (i := 18) (v := ?v19) rfl (by kernel_rfl) (by kernel_rfl) (by kernel_rfl) (fun _ _ _ h => h) (Or.inl ⟨by rfl, ?h19⟩) ?_
            case h19 => (intro w; go_simp; try (with_reducible rfl))
            go_simp
            refine wpAny_done (by kernel_rfl) ?_ _
            go_wp2
            go_ret
            exact ⟨by simp, BEL⟩
          exact AllReady.nil
        exact AllReady.nil
      refine AllReady.cons rfl (fun K hK => ?_) ?_
      · go_simp
        refine hK _ _ ?_
        clear hK K
        refine wpAny_ready (rs := [10]) (by kernel_rfl) (by simp) ?_
        refine AllReady.cons rfl (fun K hK => ?_) ?_
        · go_simp
          go_wp2_with fail
          refine (putv_any none 0 0 [] x _ (nil_bytes _) ⟨hx0, hx1⟩ (by omega)).mono ?_
          rintro e w2 ⟨rfl, R2, b2⟩
          simp only [Nat.zero_add, List.nil_append] at R2 ⊢
          have k1 : Sem.run Try.prog (convert 22 9 (.slice (some ⟨w''.heap.size, 0, none⟩) (Vb.vb x).length (Vb.vb x).length)) w2 = .ok (.string (str (Vb.vb x))) w2 := R2.conv
          have k2 := Bytes.conv (bytes_kept (W := w''.drew) hTB.out b2)
          have BEL : Below w.heap.size w w2 := b1.trans ((Below.mono (w := w'') (w' := w2) ⟨b2.os, b2.tape, b2.output, b2.size, b2.block⟩ b1.size))
          clear R2 b2
          go_wp2_with fail
          refine wpAny_ready (rs := [11]) (by kernel_rfl) (by simp) ?_
          refine AllReady.cons rfl (fun K hK => ?_) ?_
          · go_simp
            refine hK _ _ ?_
            clear hK K
            refine wpAny_take (i := 16) (v := ?v20) rfl (by kernel_rfl) (by kernel_rfl) (by kernel_rfl) (fun _ _ _ h => h) (Or.inl ⟨by rfl, ?h20⟩) ?_
            case h20 => (intro w; go_simp; try (with_reducible rfl))
            go_simp
            refine wpAny_take (i := 17) (v := ?v21) rfl (by kernel_rfl) (by kernel_rfl) (by kernel_rfl) (fun _ _ _ h => h) (Or.inl ⟨by rfl, ?h21⟩) ?_
            case h21 => (intro w; go_simp; try (with_reducible rfl))
            go_simp
            refine wpAny_take (i := 18) (v := ?v22) rfl (by kernel_rfl) (by kernel_rfl) (by kernel_rfl) (fun _ _ _ h => h) (Or.inl ⟨by rfl, ?h22⟩) ?_
            case h22 => (intro w; go_simp; try (with_reducible rfl))
            go_simp
            refine wpAny_done (by kernel_rfl) ?_ _
            go_wp2
            go_ret
            exact ⟨by simp, BEL⟩
          exact AllReady.nil
        exact AllReady.nil
      exact AllReady.nil
  · obtain ⟨e1, e2⟩ := hE he
    generalize Vb.vread zs 0 = r at he e1 e2
    obtain ⟨x, q, E⟩ := r
    simp only at he e1 e2
    subst e1 e2
    have he' : (E == 0) = false := by simp [he]
    clear he hF hE
    go_wp2_with fail
    go_ret
    exact ⟨rfl, b1⟩

theorem bu64 {v : Int} (h : (Lit.int .u64 v).wf = true) : 0 ≤ v ∧ v ≤ 18446744073709551615 := by
  simpa [Lit.wf, IntKind.min, IntKind.max, IntKind.signed, IntKind.bits] using h
theorem walk (a0 : Option Addr) (len0 cap0 : Nat) (z0 : List Int) (a1 : Int) (w : World) (w0 : Bytes w a0 len0 cap0 z0) (c0 : cap0 ≤ 140737488351232) (w1 : (Lit.int .u64 a1).wf = true) :
    Calls Try.prog 3 #[.slice a0 len0 cap0, .int .u64 a1] w fun e w' => e = .returned (.bool true) ∧ Below w.heap.size w w' :=
  forms a0 len0 cap0 z0 a1 w w0 (by omega) (bu64 w1)

theorem own : ownKnob Try.prog.godebug = none := by kernel_rfl
theorem laidOut : laidOutB Try.prog = true := by kernel_rfl
theorem bytes5 : Try.prog.bytesOf 5 = 1 := by kernel_rfl
theorem u8_bd {y : Int} (h : (Lit.int .u8 y).wf = true) : 0 ≤ y ∧ y ≤ 255 := by
  simpa [Lit.wf, IntKind.min, IntKind.max, IntKind.signed, IntKind.bits] using h

/-! ### The row's step -/
set_option maxRecDepth 100000 in
theorem lifted (os : Os) (started : os.Started) (H : Type) (enc : TypeId × Value → H) :
    ReturnsInHanded {} Try.checked os 3 .any (Rows.codecFormsSpec.pre6 enc Try.prog Try.f3 Rows.codecFormsRow.domain false) (Rows.codecFormsSpec.post enc Try.prog Try.f3 false true false false) := by
  refine returnsInHanded_of_change_sized (C := Try.checked) own started (by kernel_rfl) Try.func3
    (ChangeSpec.witness6 (enc := enc) (C := Try.checked) false ⟨#[], #[.slice none 0 0, .int .u64 0], []⟩ 8 (by kernel_rfl) (by kernel_rfl) (by kernel_rfl) (by kernel_rfl)) ?_
  intro W base args ds gs before hval0 hW hcnd hsz0 _
  have hval : ∀ (j : Nat) t v, Try.f3.params[j]? = some t → args[j]? = some v → Value.okWide Try.prog W .any base t v := hval0
  have hsz : (DataW.weightsEach Try.prog (Try.f3.params.toList ++ Rows.codecFormsSpec.plain.varTypes Try.prog) (ds ++ gs)).all (· ≤ reachBytes) = true := hsz0
  have hW' := hW
  obtain ⟨p, q, hA0, hV, rfl, hfz, hnd⟩ := hW
  have hA : DataW.TrodAll enc Try.prog W 0 (fun _ => true) true Try.f3.params.toList args.toList ds p := hA0
  rw [Try.params3] at hA hval hsz
  obtain ⟨v0, vs0, d0, ds0, p0, q0, hargs, rfl, rfl, h0, r0⟩ := trodAll_cons hA
  obtain ⟨v1, vs1, d1, ds1, p1, q1, rfl, rfl, rfl, h1, r1⟩ := trodAll_cons r0
  obtain ⟨rfl, rfl, rfl⟩ := trodAll_nil r1
  obtain rfl : args = #[v0, v1] := by cases args; simp_all
  obtain ⟨rfl, rfl⟩ := trodVars_none hV
  obtain ⟨a0, len0, cap0, rfl⟩ := okWide_slice Try.underlying22 (hval 0 22 v0 rfl rfl)
  have k0 := h0
  have lt0 : ∀ x ∈ p0, x.block < W.heap.size := by obtain ⟨m, hm⟩ := k0; exact DataW.trod_lt m _ _ _ hm
  obtain ⟨z0, w0, c0⟩ : ∃ zs, Rd.Bytes W a0 len0 cap0 zs ∧ cap0 ≤ 140737488351232 := by
    obtain ⟨fuel, hf⟩ := h0
    rcases open_ints Try.underlying22 Try.underlying5 (by kernel_rfl) hf with ⟨hcs, _⟩ | ⟨x, l, c, zs, hcs, _, hl, hm, hz, hx, hcell, hwz⟩
    · simp [Value.cells] at hcs
      obtain ⟨rfl, rfl, rfl⟩ := hcs
      exact ⟨[], Wr.nil_bytes W, by omega⟩
    · simp [Value.cells] at hcs
      obtain ⟨rfl, rfl, rfl⟩ := hcs
      have hd : d0 = .slice (lits .u8 (zs.take len0)) (lits .u8 (zs.drop len0)) := (Prod.mk.inj hx).1
      have hz' : zs.length = cap0 := by simpa using hz
      have sz := sized_slice hsz (j := 0) (t := 22) (e := 5) rfl (by rw [hd]; rfl) Try.underlying22
      rw [bytes5] at sz
      simp only [lits, List.length_map, List.length_take, List.length_drop, reachBytes] at sz
      refine ⟨zs.take len0, ⟨by rw [List.length_take]; omega, hl, fun e => by simp at e, fun y hy => u8_bd (hwz y (List.mem_of_mem_take hy)), ?_⟩, by omega⟩
      intro x' hx' j hj
      simp at hx'
      subst hx'
      rw [hcell j (by omega)]
      simp [List.getD_eq_getElem?_getD, hj]
  obtain ⟨a1, rfl, rfl, rfl, w1⟩ := open_int Try.underlying23 (hval 1 23 v1 rfl rfl) h1
  clear hA0 hval0
  refine (walk a0 len0 cap0 z0 a1 W w0 c0 w1).mono fun e W' ⟨he, bel⟩ => ?_
  subst he
  exact ⟨_, rfl, _, _, _, [], _, [], hW', trodAll_mk1 (shut_bool Try.underlying4 _), (trodAll_cons_mk (Below.trod laidOut (by kernel_rfl) (of_decide_eq_true (by kernel_rfl)) k0 bel lt0) (trodAll_cons_mk (shut_int Try.underlying23 w1) trodAll_mk0)), rfl, bel.frame _, fun h => by cases h⟩

theorem over : Rows.codecFormsRow.holds Try.pinned (OpenSpec.ofChange Rows.codecFormsSpec) :=
  OpenClaim.holds_of_wide 3 Try.f3 rfl rfl rfl rfl rfl rfl rfl ⟨rfl, rfl, rfl, rfl, rfl⟩ rfl rfl rfl rfl rfl (by kernel_rfl) Try.func3 (by kernel_rfl)
    (of_decide_eq_true (by kernel_rfl)) (by unfold Func.isWrapper; first | (rw [if_pos (by decide +kernel)]; kernel_rfl) | (rw [if_neg (by decide +kernel)]; exact ⟨rfl, rfl⟩))
    (fun os started H enc _ => lifted os started H enc)
end Go.Proofs.Ytpinknkdcecajab.codecForms
namespace Go.Proofs.Ytpinknkdcecajab
theorem codecForms_holds : Rows.CodecFormsSaid := codecForms.over
#print axioms codecForms_holds
end Go.Proofs.Ytpinknkdcecajab

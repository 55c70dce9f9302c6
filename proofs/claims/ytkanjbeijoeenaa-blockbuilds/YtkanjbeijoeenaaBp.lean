/- put of a builder. -/
import Derived.Test.YtkanjbeijoeenaaBn
namespace Go.Proofs.Ytkanjbeijoeenaa.Bp
open Go.ChangeShapes Go.WideShapes Go.ChangeAt Go.RowKit
open Go.Sort (grow)
open Go.Proofs.Ytkanjbeijoeenaa.By
open Go.Proofs.Ytkanjbeijoeenaa.Bl
open Go.Proofs.Ytkanjbeijoeenaa.Bn
open Go.Proofs.Ytkanjbeijoeenaa.Mb (hid box_below blk_lt new_at size_alloc cell_of fz_of set_of set_ne Fp gw own_blocks own_lt E ze At4 Ents OwnE drew_below drewN_below gw_low region_tail compare_below gw_sub)
set_option linter.unusedVariables false
set_option linter.unusedSimpArgs false

theorem wp_append_run {P : Program} {w w' : World} {o : Oper} {a : Act} {K : Act → World → Prop} {Q : Exit → Act → World → Prop} (s x : Operand) (t tx : TypeId) (hop : o.op = Op.call { callee := Callee.builtin Builtin.append, args := #[s, x], argTypes := #[t, tx] })
    (u v v' : Value) (hs : a.eval s = u) (hx : a.eval x = v) (hrun : (Builtin.append_ #[t, tx] o.type #[u, v]).run P w = .ok v' w') (hK : K (a.put o.dst v') w') : o.wp P a w K Q := by
  unfold Oper.wp
  simp [execOp, hop, resolve, invoke, builtin, hs, hx, hrun, Result.andThen]
  exact hK
theorem row_of {w : World} {base : Nat} {v : Value} {xs : List Int} (h : OwnB w base v xs) (hx : xs ≠ []) : ∃ ge c, v = .slice (some ⟨ge, 0, none⟩) xs.length c ∧ Row w base ge xs.length c xs := by
  rcases h.2 with ⟨e, h0⟩ | ⟨ge, c, cur, e, hr⟩
  · exact absurd (List.eq_nil_of_length_eq_zero h0) hx
  · subst e; exact ⟨ge, c, rfl, h⟩
theorem gw_step {P : Nat → Prop} {w w1 w2 : World} (h1 : w.heap.size ≤ w1.heap.size) (h2 : w1.heap.size ≤ w2.heap.size) : ∀ j, gw (gw P w w1) w1 w2 j → gw P w w2 j := by
  rintro j ((h | h) | h)
  · exact .inl h
  · exact .inr ⟨h.1, by omega⟩
  · exact .inr ⟨by omega, h.2⟩
/-- A step of the builder behind a step. -/
theorem next_bt {w w1 w2 : World} {base g gl : Nat} {ve vp : Value} {P : Nat → Prop} {S : BS} (F : Fp P w w1) (hlow : ∀ j, P j → base ≤ j ∧ j < w.heap.size) (hb : base ≤ w.heap.size) (B : Bt w2 base g gl ve vp (gw (gw P w w1) w1 w2) S) (G : Fp (gw P w w1) w1 w2) : Bt w2 base g gl ve vp (gw P w w2) S ∧ Fp P w w2 :=
  ⟨B.wide (gw_step F.size G.size) (gw_low hb (Nat.le_trans F.size G.size) hlow), F.trans G⟩
theorem same_bt {w w1 w2 : World} {base g gl : Nat} {ve vp : Value} {P : Nat → Prop} {S : BS} (F : Fp P w w1) (hlow : ∀ j, P j → base ≤ j ∧ j < w.heap.size) (hb : base ≤ w.heap.size) (B : Bt w2 base g gl ve vp (gw P w w1) S) (G : Fp (gw P w w1) w1 w2) : Bt w2 base g gl ve vp (gw P w w2) S ∧ Fp P w w2 :=
  ⟨B.wide (fun j hj => by rcases hj with h | h; exact .inl h; exact .inr ⟨h.1, Nat.lt_of_lt_of_le h.2 G.size⟩) (gw_low hb (Nat.le_trans F.size G.size) hlow), F.trans G⟩
theorem next_bt2 {w wr x1 W5 Wn : World} {base g gl : Nat} {ve vp : Value} {P : Nat → Prop} {S : BS} (F : Fp P w wr) (hlow : ∀ j, P j → base ≤ j ∧ j < w.heap.size) (hb : base ≤ w.heap.size) (b : Below wr.heap.size wr x1) (B : Bt Wn base g gl ve vp (gw (gw P w wr) x1 W5) S) (G : Fp (gw P w wr) x1 Wn) (hz : W5.heap.size = Wn.heap.size) : Bt Wn base g gl ve vp (gw P w Wn) S ∧ Fp P w Wn := by
  have h1 := F.size
  have h2 := b.size
  have h3 := G.size
  refine ⟨B.wide ?_ (gw_low hb (by omega) hlow), (F.below b).trans (G.wide ?_)⟩
  · rintro j ((h | h) | h)
    · exact .inl h
    · exact .inr ⟨h.1, by omega⟩
    · exact .inr ⟨by omega, by omega⟩
  · rintro j _ (h | h)
    · exact .inl h
    · exact .inr ⟨h.1, by omega⟩
theorem setCell_size (w : World) (a : Addr) (v : Value) : (w.setCell a v).heap.size = w.heap.size := by simp
theorem gw_set {P : Nat → Prop} {w w1 : World} {a : Addr} {v : Value} : gw P w (w1.setCell a v) = gw P w w1 := by unfold gw; simp

/-- The three numbers ahead of an entry, the first i of them. -/
def vbs (sh m vs : Nat) : Nat → List Int
  | 0 => []
  | 1 => Vb.vb (sh : Int)
  | 2 => Vb.vb (sh : Int) ++ Vb.vb (m : Int)
  | _ => Vb.vb (sh : Int) ++ Vb.vb (m : Int) ++ Vb.vb (vs : Int)
theorem vbs_len (sh m vs i : Nat) : (vbs sh m vs i).length ≤ 30 := by
  have h1 := Vb.vb_le (sh : Int)
  have h2 := Vb.vb_le (m : Int)
  have h3 := Vb.vb_le (vs : Int)
  unfold vbs
  split <;> simp [List.length_append] <;> omega
theorem vbs_ne (e : List Int) (sh m vs : Nat) : e ++ vbs sh m vs 3 ≠ [] := by
  intro h
  have h1 := (List.append_eq_nil_iff.1 h).2
  have h2 : Vb.vb (sh : Int) ++ Vb.vb (m : Int) ++ Vb.vb (vs : Int) = [] := h1
  have h3 := (List.append_eq_nil_iff.1 (List.append_eq_nil_iff.1 h2).1).1
  have h4 := Vb.vb_pos (sh : Int)
  rw [h3] at h4
  simp at h4
theorem stp_eq (S : BS) (kz : List Int) (v : ByteArray) (sh m vs : Nat) (hs : sh = shd S kz) (hm : m = kz.length - sh) (hv : v.size = vs) : stp S kz v = ⟨S.r, S.ent ++ vbs sh m vs 3 ++ kz.drop sh ++ tx v, plS S, S.cnt + 1, kz⟩ := by
  have e : vbs sh m vs 3 = Vb.vb (sh : Int) ++ Vb.vb (m : Int) ++ Vb.vb (vs : Int) := rfl
  unfold stp eb
  rw [← hs, ← hm, hv, e]
  simp only [List.append_assoc]
theorem ix0 (x y z : Int) (w : World) : Sem.run Try.prog (Instr.index 101 (.agg #[.int .i64 x, .int .i64 y, .int .i64 z]) (.int .i64 0)) w = .ok (.int .i64 x) w := by kernel_rfl
theorem ix1 (x y z : Int) (w : World) : Sem.run Try.prog (Instr.index 101 (.agg #[.int .i64 x, .int .i64 y, .int .i64 z]) (.int .i64 1)) w = .ok (.int .i64 y) w := by kernel_rfl
theorem ix2 (x y z : Int) (w : World) : Sem.run Try.prog (Instr.index 101 (.agg #[.int .i64 x, .int .i64 y, .int .i64 z]) (.int .i64 2)) w = .ok (.int .i64 z) w := by kernel_rfl
set_option maxRecDepth 100000 in
theorem ix_any (sh m vs i : Nat) (hi : i < 3) (h1 : sh ≤ 65536) (h2 : m ≤ 65536) (h3 : vs ≤ 65536) : ∃ z : Nat, z ≤ 65536 ∧ (∀ w, Sem.run Try.prog (Instr.index 101 (.agg #[.int .i64 (sh : Int), .int .i64 (m : Int), .int .i64 (vs : Int)]) (.int .i64 (i : Int))) w = .ok (.int .i64 (z : Int)) w) ∧ vbs sh m vs (i + 1) = vbs sh m vs i ++ Vb.vb (z : Int) := by
  obtain rfl | rfl | rfl : i = 0 ∨ i = 1 ∨ i = 2 := by omega
  · exact ⟨sh, h1, fun w => by rw [show ((0 : Nat) : Int) = 0 from rfl]; exact ix0 _ _ _ w, rfl⟩
  · exact ⟨m, h2, fun w => by rw [show ((1 : Nat) : Int) = 1 from rfl]; exact ix1 _ _ _ w, rfl⟩
  · exact ⟨vs, h3, fun w => by rw [show ((2 : Nat) : Int) = 2 from rfl]; exact ix2 _ _ _ w, rfl⟩

set_option maxRecDepth 100000 in
set_option maxHeartbeats 8000000 in
theorem put_yes {w : World} {base g gl : Nat} {ve vp : Value} {P : Nat → Prop} {S : BS} (H : Bt w base g gl ve vp P S) (kb n : Nat) (kz : List Int) (v : ByteArray) (HK : Bytes w (some ⟨kb, 0, none⟩) n n kz) (hsh : shd S kz < n) (hk : n ≤ 1032) (hne : ¬ P kb) (hv : v.size ≤ 65536) (hb : base ≤ w.heap.size)
    (h1 : S.ent.length ≤ 100000000000) (h2 : S.pl.length ≤ 100000000000) (h3 : S.cnt ≤ 100000000000) :
    Calls Try.prog 39 #[.pointer (some ⟨g, 0, none⟩), .slice (some ⟨kb, 0, none⟩) n n, .string v] w fun e w' => (∃ u, e = .returned u) ∧ (∃ ve' vp', Bt w' base g gl ve' vp' (gw P w w') (stp S kz v)) ∧ Fp P w w' := by
  have c0 : w.cell? ⟨g, 0, none⟩ = some (.int .i64 (S.r : Int)) := cell_of H.blk 0 _ rfl
  have c3 : w.cell? ⟨g, 3, none⟩ = some (.int .i64 (S.cnt : Int)) := cell_of H.blk 3 _ rfl
  have hr0 : ((S.r : Int) == 0) = false := by have := H.r; rw [beq_eq_false_iff_ne]; omega
  have hr1 : ¬ (S.r : Int) = 0 := by have := H.r; omega
  have hr2 : (S.r : Int) ≠ -1 := by have := H.r; omega
  have hkl := hid HK.1
  have hkb := hid (block_lt_of_cell (HK.2.2.2.2 _ rfl 0 (by omega)))
  have hlow := hid H.low
  have KEYB : Hid (∀ W, Fp P w W → Bytes W (some ⟨kb, 0, none⟩) n n kz) := by
    intro W f
    refine ⟨HK.1, HK.2.1, HK.2.2.1, HK.2.2.2.1, fun x hx i hi => ?_⟩
    have h1 := HK.2.2.2.2 x hx i hi
    cases hx
    unfold World.cell? at h1 ⊢
    rw [show (Addr.add ⟨kb, 0, none⟩ i) = ⟨kb, i, none⟩ by rw [addr_add, Nat.zero_add]] at h1 ⊢
    rw [show W.heap[kb]? = w.heap[kb]? from f.block kb (by have := hkb.out; simpa [addr_add] using this) hne]
    exact h1
  obtain ⟨R0, hR0⟩ : ∃ R0 : Int, R0 = (S.r : Int) := ⟨_, rfl⟩
  obtain ⟨C0, hC0⟩ : ∃ C0 : Int, C0 = (S.cnt : Int) := ⟨_, rfl⟩
  rw [← hR0] at c0 hr0 hr1 hr2
  rw [← hC0] at c3
  replace hR0 := hid hR0
  replace hC0 := hid hC0
  have hC1 : 0 ≤ C0 := by rw [hC0.out]; omega
  have hR1 : 0 ≤ R0 := by rw [hR0.out]; omega
  have hC2 : C0 ≤ 100000000000 := by rw [hC0.out]; omega
  have hR2 : R0 ≤ 64 := by rw [hR0.out]; have := H.r; omega
  replace H := hid H
  replace HK := hid HK
  replace hne := hid hne
  replace hsh := hid hsh
  replace h1 := hid h1
  replace h2 := hid h2
  replace h3 := hid h3
  replace hb := hid hb
  go_enter Try.func39, Try.ntmps39
  go_wp2_with fail
  go_quiet (fail)
  have BN := drewN_below w nq
  generalize w.drewN nq = w1 at *
  rename_i K1 hK1 K0 hK0
  have key : ∀ (ve1 vp1 : Value) (sh : Nat) (W : World) (u10 u11 u12 u13 u14 u15 u16 u17 u18 u19 u20 u21 u22 u23 u24 u25 u26 u27 u28 u29 u30 u31 u32 u33 u34 u35 u36 u37 u38 u39 : Value), Hid (sh = shd S kz) → Hid (Bt W base g gl ve1 vp1 (gw P w W) ⟨S.r, S.ent, plS S, S.cnt, S.last⟩) → Hid (Fp P w W) → K1 { tmps := #[.pointer (some ⟨g, 0, none⟩), .slice (some ⟨kb, 0, none⟩) n n, .string v, undef, undef, undef, .int .i64 (sh : Int), undef, undef, undef, u10, u11, u12, u13, u14, u15, u16, u17, u18, u19, u20, u21, u22, u23, u24, u25, u26, u27, u28, u29, u30, u31, u32, u33, u34, u35, u36, u37, u38, u39, undef, undef, undef, undef, undef, undef, undef, undef, undef, undef, undef, undef, undef, undef, undef, undef, undef, undef, undef, undef, undef, undef, undef, undef, undef, undef, undef, undef, undef, undef, undef, undef, undef, undef, undef, undef, undef, undef, undef, undef, undef, undef, undef, undef, undef, undef, undef, undef, undef, undef, undef, undef], defers := [] } W := by
    intro ve1 vp1 sh W u10 u11 u12 u13 u14 u15 u16 u17 u18 u19 u20 u21 u22 u23 u24 u25 u26 u27 u28 u29 u30 u31 u32 u33 u34 u35 u36 u37 u38 u39 hsh1 HB HF
    refine hK1 _ _ ?_
    clear hK1 hK0 K0 K1
    have hshn : sh < n := by rw [hsh1.out]; exact hsh.out
    have q1 : (sh : Int) ≤ (n : Int) := by omega
    have q2 : 0 < n - sh := by omega
    obtain ⟨m, hm⟩ : ∃ m, m = n - sh := ⟨_, rfl⟩
    have hm1 : ((n : Int) - (sh : Int)) = (m : Int) := by omega
    replace hm := hid hm
    go_wp2_with fail
    rw [← hm.out]
    generalize hVS : v.size = vs at *
    replace hVS := hid hVS
    go_loopw [49] (fun iv wr => ∃ i : Nat, i ≤ 3 ∧ iv = .int .i64 (i : Int) ∧ (∃ ve2, Hid (Bt wr base g gl ve2 vp1 (gw P w wr) ⟨S.r, S.ent ++ vbs sh m vs i, plS S, S.cnt, S.last⟩)) ∧ Hid (Fp P w wr)) (fun iv _ => 3 - (intOf iv).toNat)
    case atStart => exact ⟨0, by omega, rfl, ⟨ve1, by show Bt _ _ _ _ _ _ _ _; rw [show S.ent ++ vbs sh m vs 0 = S.ent from List.append_nil _]; exact HB.out⟩, HF⟩
    case round =>
      obtain ⟨i, hi, rfl, ⟨ve2, HB2⟩, HF2⟩ := hrel
      by_cases hi3 : i < 3
      · have hbr := Nat.le_trans hb.out HF2.out.size
        obtain ⟨D, hD⟩ : ∃ D, D = World.drew wr := ⟨_, rfl⟩
        have bD : Below wr.heap.size wr D := by rw [hD]; exact drew_below wr
        have HBD := HB2.out.later bD
        obtain ⟨ea, ec, rfl, _, _, _⟩ := HBD.oe.shape
        have hBL := vbs_len sh m vs i
        have d1 : D.cell? ⟨g, 1, none⟩ = some (.slice ea (S.ent ++ vbs sh m vs i).length ec) := cell_of HBD.blk 1 _ rfl
        have hwr : IntKind.i64.wrap ((i : Int) + 1) = ((i + 1 : Nat) : Int) := by rw [IntKind.wrap_i64]; omega
        replace hD := hid hD
        obtain ⟨z, hz, hix, hvb⟩ := ix_any sh m vs i hi3 (by omega) (by have := hm.out; omega) hv
        replace hix := hix wr
        have hwz : IntKind.u64.wrap (z : Int) = (z : Int) := by rw [IntKind.wrap_u64]; omega
        have hi4 : (i : Int) < 3 := by omega
        have HP : Hid (Calls Try.prog 62 #[.slice none 0 0, .int .u64 (z : Int)] D fun e w' => e = .returned (.slice (some ⟨D.heap.size, 0, none⟩) (Vb.vb (z : Int)).length (Vb.vb (z : Int)).length) ∧ Row w' D.heap.size D.heap.size (Vb.vb (z : Int)).length (Vb.vb (z : Int)).length (Vb.vb (z : Int)) ∧ Below D.heap.size D w') := by
          have := putv_any none 0 0 [] (z : Int) D (nil_bytes D) (by omega) (by omega)
          rw [List.nil_append, Nat.zero_add] at this
          exact this
        generalize hLE : (S.ent ++ vbs sh m vs i).length = LE at *
        replace HBD := hid HBD
        replace hvb := hid hvb
        replace hLE := hid hLE
        clear hi3
        go_wp2_with fail
        refine wp_region_any (by kernel_rfl) ?_
        change wpAny _ _ _ _ _ _ _ (World.drew _)
        rw [← hD.out]
        refine wpAny_take (i := 0) (v := ?v1) rfl (by kernel_rfl) (by kernel_rfl) (by kernel_rfl) (fun _ _ _ h => h) (Or.inl ⟨by rfl, ?h1⟩) ?_
        case h1 => (intro w; go_simp; try (with_reducible rfl))
        go_simp
        refine wpAny_take (i := 1) (v := ?v2) rfl (by kernel_rfl) (by kernel_rfl) (by kernel_rfl) (fun _ _ _ h => h) (Or.inl ⟨by rfl, ?h2⟩) ?_
        case h2 => (intro w; go_simp; try (with_reducible rfl))
        go_simp
        refine wpAny_take (i := 2) (v := ?v3) rfl (by kernel_rfl) (by kernel_rfl) (by kernel_rfl) (fun _ _ _ h => h) (Or.inl ⟨by rfl, ?h3⟩) ?_
        case h3 => (intro w; go_simp; try (with_reducible rfl))
        go_simp
        refine wpAny_take (i := 3) (v := ?v4) rfl (by kernel_rfl) (by kernel_rfl) (by kernel_rfl) (fun _ _ _ h => h) (Or.inl ⟨by rfl, ?h4⟩) ?_
        case h4 => (intro w; go_simp; try (with_reducible rfl))
        go_simp
        refine wpAny_take (i := 5) (v := ?v5) rfl (by kernel_rfl) (by kernel_rfl) (by kernel_rfl) (fun _ _ _ h => h) (Or.inl ⟨by rfl, ?h5⟩) ?_
        case h5 => (intro w; go_simp; try (with_reducible rfl))
        go_simp
        refine wpAny_take (i := 6) (v := ?v6) rfl (by kernel_rfl) (by kernel_rfl) (by kernel_rfl) (fun _ _ _ h => h) (Or.inl ⟨by rfl, ?h6⟩) ?_
        case h6 => (intro w; go_simp; try (with_reducible rfl))
        go_simp
        refine wpAny_ready (rs := [4, 7]) (by kernel_rfl) (by simp) ?_
        refine AllReady.cons rfl (fun K hK => ?_) ?_
        · go_simp
          refine hK _ _ ?_
          clear hK K
          refine wpAny_ready (rs := [7]) (by kernel_rfl) (by simp) ?_
          refine AllReady.cons rfl (fun K hK => ?_) ?_
          · go_simp
            go_wp2_with fail
            refine HP.out.mono ?_
            rintro e x1 ⟨rfl, rx, bx⟩
            refine hK _ _ ?_
            clear hK K
            refine wpAny_ready (rs := [8]) (by kernel_rfl) (by simp) ?_
            refine AllReady.cons rfl (fun K hK => ?_) ?_
            · obtain ⟨v5, W5, r5, o5, g5, q5⟩ := app_bytes x1 base (.slice ea LE ec) (S.ent ++ vbs sh m vs i) (HBD.out.later bx).oe ⟨D.heap.size, 0, none⟩ (Vb.vb (z : Int)).length (Vb.vb (z : Int)).length (Vb.vb (z : Int)) rfl (fun q hq => by rw [addr_add, Nat.zero_add]; exact rx.cell q hq) (by have := hLE.out; have := h1.out; have := Vb.vb_le (z : Int); rw [List.length_append]; omega) (Nat.le_trans hbr (Nat.le_trans bD.size bx.size))
              obtain ⟨a5, c5, rfl, hs5, hs6, hs7⟩ := o5.shape
              clear hs5 hs6 hs7
              generalize hL5 : (S.ent ++ vbs sh m vs i ++ Vb.vb (z : Int)).length = L5 at r5 o5 q5
              clear hL5
              refine wp_append_run _ _ _ _ rfl _ _ _ rfl rfl r5 ?_
              go_simp
              refine hK _ _ ?_
              clear hK K
              refine wpAny_take (i := 9) (v := ?v7) rfl (by kernel_rfl) (by kernel_rfl) (by kernel_rfl) (fun _ _ _ h => h) (Or.inl ⟨by rfl, ?h7⟩) ?_
              case h7 => (intro w; go_simp; try (with_reducible rfl))
              go_simp
              refine wpAny_take (i := 10) (v := ?v8) rfl (by kernel_rfl) (by kernel_rfl) (by kernel_rfl) (fun _ _ _ h => h) (Or.inl ⟨by rfl, ?h8⟩) ?_
              case h8 => (intro w; go_simp; try (with_reducible rfl))
              go_simp
              refine wpAny_ready (rs := [11]) (by kernel_rfl) (by simp) ?_
              refine AllReady.cons rfl (fun K hK => ?_) ?_
              · have HBX := HBD.out.later bx
                have e5 : W5.heap[g]? = x1.heap[g]? := g5.block g (blk_lt HBX.blk) (fun e => by have := HBX.pe g e.symm; omega)
                have f5 : W5.frozen? ⟨g, 1, none⟩ = false := fz_of (e5.trans HBX.blk) 1
                have d5 : W5.cell? ⟨g, 1, none⟩ = some (.slice ea LE ec) := cell_of (e5.trans HBX.blk) 1 _ rfl
                go_simp
                refine hK _ _ ?_
                clear hK K
                refine wpAny_done (by kernel_rfl) ?_ _
                obtain ⟨B5, F5⟩ := (HBD.out.later bx).ents (Nat.le_trans hbr (Nat.le_trans bD.size bx.size)) g5 o5 (by rcases q5 with e | e; exact .inl e; exact .inr ⟨_, e, Nat.le_refl _⟩)
                obtain ⟨B6, F6⟩ := next_bt2 HF2.out hlow.out hb.out (bD.trans (bx.mono bD.size)) B5 F5 (setCell_size _ _ _).symm
                have B7 : Hid (Bt (W5.setCell ⟨g, 1, none⟩ (.slice a5 L5 c5)) base g gl (.slice a5 L5 c5) vp1 (gw P w (W5.setCell ⟨g, 1, none⟩ (.slice a5 L5 c5))) ⟨S.r, S.ent ++ vbs sh m vs (i + 1), plS S, S.cnt, S.last⟩) := by
                  rw [hvb.out, ← List.append_assoc]
                  exact B6
                replace F6 := hid F6
                clear B5 F5 B6 r5 o5 g5 q5 HBX e5 f5 d5 rx bx
                generalize W5.setCell ⟨g, 1, none⟩ (.slice a5 L5 c5) = W6 at *
                go_wp2_with fail
                refine ⟨⟨i + 1, by omega, by first | rfl | go_num, ⟨_, B7⟩, F6⟩, ?_⟩
                simp only [intOf]; omega
              exact AllReady.nil
            exact AllReady.nil
          exact AllReady.nil
        refine AllReady.cons rfl (fun K hK => ?_) ?_
        · go_simp
          go_wp2_with fail
          refine HP.out.mono ?_
          rintro e x1 ⟨rfl, rx, bx⟩
          refine hK _ _ ?_
          clear hK K
          refine wpAny_ready (rs := [4]) (by kernel_rfl) (by simp) ?_
          refine AllReady.cons rfl (fun K hK => ?_) ?_
          · have d1' := (bx.cell (block_lt_of_cell d1)).trans d1
            go_simp
            refine hK _ _ ?_
            clear hK K
            refine wpAny_ready (rs := [8]) (by kernel_rfl) (by simp) ?_
            refine AllReady.cons rfl (fun K hK => ?_) ?_
            · obtain ⟨v5, W5, r5, o5, g5, q5⟩ := app_bytes x1 base (.slice ea LE ec) (S.ent ++ vbs sh m vs i) (HBD.out.later bx).oe ⟨D.heap.size, 0, none⟩ (Vb.vb (z : Int)).length (Vb.vb (z : Int)).length (Vb.vb (z : Int)) rfl (fun q hq => by rw [addr_add, Nat.zero_add]; exact rx.cell q hq) (by have := hLE.out; have := h1.out; have := Vb.vb_le (z : Int); rw [List.length_append]; omega) (Nat.le_trans hbr (Nat.le_trans bD.size bx.size))
              obtain ⟨a5, c5, rfl, hs5, hs6, hs7⟩ := o5.shape
              clear hs5 hs6 hs7
              generalize hL5 : (S.ent ++ vbs sh m vs i ++ Vb.vb (z : Int)).length = L5 at r5 o5 q5
              clear hL5
              refine wp_append_run _ _ _ _ rfl _ _ _ rfl rfl r5 ?_
              go_simp
              refine hK _ _ ?_
              clear hK K
              refine wpAny_take (i := 9) (v := ?v9) rfl (by kernel_rfl) (by kernel_rfl) (by kernel_rfl) (fun _ _ _ h => h) (Or.inl ⟨by rfl, ?h9⟩) ?_
              case h9 => (intro w; go_simp; try (with_reducible rfl))
              go_simp
              refine wpAny_take (i := 10) (v := ?v10) rfl (by kernel_rfl) (by kernel_rfl) (by kernel_rfl) (fun _ _ _ h => h) (Or.inl ⟨by rfl, ?h10⟩) ?_
              case h10 => (intro w; go_simp; try (with_reducible rfl))
              go_simp
              refine wpAny_ready (rs := [11]) (by kernel_rfl) (by simp) ?_
              refine AllReady.cons rfl (fun K hK => ?_) ?_
              · have HBX := HBD.out.later bx
                have e5 : W5.heap[g]? = x1.heap[g]? := g5.block g (blk_lt HBX.blk) (fun e => by have := HBX.pe g e.symm; omega)
                have f5 : W5.frozen? ⟨g, 1, none⟩ = false := fz_of (e5.trans HBX.blk) 1
                have d5 : W5.cell? ⟨g, 1, none⟩ = some (.slice ea LE ec) := cell_of (e5.trans HBX.blk) 1 _ rfl
                go_simp
                refine hK _ _ ?_
                clear hK K
                refine wpAny_done (by kernel_rfl) ?_ _
                obtain ⟨B5, F5⟩ := (HBD.out.later bx).ents (Nat.le_trans hbr (Nat.le_trans bD.size bx.size)) g5 o5 (by rcases q5 with e | e; exact .inl e; exact .inr ⟨_, e, Nat.le_refl _⟩)
                obtain ⟨B6, F6⟩ := next_bt2 HF2.out hlow.out hb.out (bD.trans (bx.mono bD.size)) B5 F5 (setCell_size _ _ _).symm
                have B7 : Hid (Bt (W5.setCell ⟨g, 1, none⟩ (.slice a5 L5 c5)) base g gl (.slice a5 L5 c5) vp1 (gw P w (W5.setCell ⟨g, 1, none⟩ (.slice a5 L5 c5))) ⟨S.r, S.ent ++ vbs sh m vs (i + 1), plS S, S.cnt, S.last⟩) := by
                  rw [hvb.out, ← List.append_assoc]
                  exact B6
                replace F6 := hid F6
                clear B5 F5 B6 r5 o5 g5 q5 HBX e5 f5 d5 rx bx
                generalize W5.setCell ⟨g, 1, none⟩ (.slice a5 L5 c5) = W6 at *
                go_wp2_with fail
                refine ⟨⟨i + 1, by omega, by first | rfl | go_num, ⟨_, B7⟩, F6⟩, ?_⟩
                simp only [intOf]; omega
              exact AllReady.nil
            exact AllReady.nil
          exact AllReady.nil
        exact AllReady.nil
      · have hi4 : ¬ (i : Int) < 3 := by omega
        obtain rfl : i = 3 := by omega
        have hbr := Nat.le_trans hb.out HF2.out.size
        have hne3 := vbs_ne S.ent sh m vs
        obtain ⟨ge, ce, rfl, hro⟩ := row_of HB2.out.oe hne3
        have hBL := vbs_len sh m vs 3
        have c1 : wr.cell? ⟨g, 1, none⟩ = some (.slice (some ⟨ge, 0, none⟩) (S.ent ++ vbs sh m vs 3).length ce) := cell_of HB2.out.blk 1 _ rfl
        have hkz := KEYB.out wr HF2.out
        have hdl : (kz.drop sh).length = m := by rw [List.length_drop, hkl.out, hm.out]
        obtain ⟨v5, W5, r5, o5, g5, q5⟩ := app_bytes wr base _ _ HB2.out.oe ⟨kb, sh, none⟩ m m (kz.drop sh) hdl (fun q hq => by
          have h6 := hkz.2.2.2.2 _ rfl (sh + q) (by have := hm.out; omega)
          rw [addr_add, Nat.zero_add] at h6
          rw [addr_add, h6]
          simp [List.getD_eq_getElem?_getD]) (by have := h1.out; rw [List.length_append]; have := hm.out; omega) hbr
        obtain ⟨B5, F5⟩ := HB2.out.ents hbr g5 o5 (by rcases q5 with e | e; exact .inl e; exact .inr ⟨_, e, Nat.le_refl _⟩)
        obtain ⟨B6, F6⟩ := next_bt2 HF2.out hlow.out hb.out (Below.refl _ _) B5 F5 (setCell_size _ _ _).symm
        have e5 : W5.heap[g]? = wr.heap[g]? := g5.block g (blk_lt HB2.out.blk) (fun e => by have := HB2.out.pe g e.symm; omega)
        have f5 : W5.frozen? ⟨g, 1, none⟩ = false := fz_of (e5.trans HB2.out.blk) 1
        have d5 : W5.cell? ⟨g, 1, none⟩ = some (.slice (some ⟨ge, 0, none⟩) (S.ent ++ vbs sh m vs 3).length ce) := cell_of (e5.trans HB2.out.blk) 1 _ rfl
        have hne5 : S.ent ++ vbs sh m vs 3 ++ kz.drop sh ≠ [] := by
          intro e; exact hne3 (List.append_eq_nil_iff.1 e).1
        obtain ⟨ge5, ce5, rfl, hro5⟩ := row_of B6.oe hne5
        have hl5 : (S.ent ++ vbs sh m vs 3 ++ kz.drop sh).length ≤ 100000010000 := by have := h1.out; rw [List.length_append, List.length_append, hdl]; have := hm.out; omega
        generalize hL0 : (S.ent ++ vbs sh m vs 3).length = L0 at c1 r5 d5 g5 q5
        generalize hL5 : (S.ent ++ vbs sh m vs 3 ++ kz.drop sh).length = L5 at *
        obtain ⟨W6, hW6⟩ : ∃ W, W = W5.setCell ⟨g, 1, none⟩ (.slice (some ⟨ge5, 0, none⟩) L5 ce5) := ⟨_, rfl⟩
        rw [← hW6] at B6 F6 hro5
        have hb6 := Nat.le_trans hb.out F6.size
        obtain ⟨v7, W7, r7, o7, g7, q7⟩ := app_text W6 base ge5 L5 ce5 _ hro5 v (by rw [hVS.out]; omega) hb6
        have g7' : W6.grownBy W7 (Value.slice (some ⟨ge5, 0, none⟩) L5 ce5).ownBlock := g7
        obtain ⟨B7, F7⟩ := B6.ents hb6 g7' o7 (by rcases q7 with e | e; exact .inl e; exact .inr ⟨_, e, Nat.le_refl _⟩)
        obtain ⟨B8, F8⟩ := next_bt2 F6 hlow.out hb.out (Below.refl _ _) B7 F7 (setCell_size _ _ _).symm
        have e7 : W7.heap[g]? = W6.heap[g]? := g7'.block g (blk_lt B6.blk) (fun e => by have := B6.pe g e.symm; omega)
        have f7 : W7.frozen? ⟨g, 1, none⟩ = false := fz_of (e7.trans B6.blk) 1
        have d7 : W7.cell? ⟨g, 1, none⟩ = some (.slice (some ⟨ge5, 0, none⟩) L5 ce5) := cell_of (e7.trans B6.blk) 1 _ rfl
        obtain ⟨a7, c7, rfl, hs5, hs6, hs7⟩ := o7.shape
        generalize hL7 : (S.ent ++ vbs sh m vs 3 ++ kz.drop sh ++ tx v).length = L7 at r7 o7 q7 B7 F7 B8 F8
        obtain ⟨W8, hW8⟩ : ∃ W, W = W7.setCell ⟨g, 1, none⟩ (.slice a7 L7 c7) := ⟨_, rfl⟩
        rw [← hW8] at B8 F8
        have hgk : ¬ gw P w W8 kb := by
          rintro (h | h)
          · exact hne.out h
          · have := hkb.out; simp [addr_add] at this; omega
        have HKP := hid (keep_any B8 kb n n kz (KEYB.out W8 F8) hk hgk)
        have c6 : (W5.setCell ⟨g, 1, none⟩ (.slice (some ⟨ge5, 0, none⟩) L5 ce5)).cell? ⟨g, 1, none⟩ = some (.slice (some ⟨ge5, 0, none⟩) L5 ce5) := by rw [← hW6]; exact cell_of B6.blk 1 _ rfl
        rw [hW6] at r7
        replace hW6 := hid hW6
        replace hW8 := hid hW8
        replace F8 := hid F8
        replace B8 := hid B8
        clear B5 F5 B6 F6 B7 F7 o5 o7 g5 g7 g7' q5 q7 hs5 hs6 hs7 hro hro5 hkz hl5 hne3 hne5 hb6 e5 e7 hdl
        go_wp2_with (first | (at_builtin; refine By.wpList_append_run rfl _ _ 28 28 rfl _ _ _ rfl rfl r5 ?_) | (at_builtin; refine By.wpList_append_run rfl _ _ 28 9 rfl _ _ _ rfl rfl r7 ?_))
        rw [← hW8.out]
        refine HKP.out.mono ?_
        rintro e x9 ⟨⟨u9', rfl⟩, B9, F9⟩
        obtain ⟨B10, F10⟩ := same_bt F8.out hlow.out hb.out B9 F9
        have c3' : x9.cell? ⟨g, 3, none⟩ = some (.int .i64 (S.cnt : Int)) := cell_of B10.blk 3 _ rfl
        have f3' : x9.frozen? ⟨g, 3, none⟩ = false := fz_of B10.blk 3
        have hcw : IntKind.i64.wrap ((S.cnt : Int) + 1) = ((S.cnt + 1 : Nat) : Int) := by rw [IntKind.wrap_i64]; have := h3.out; omega
        obtain ⟨B11, F11⟩ := B10.count (S.cnt + 1)
        obtain ⟨B12, F12⟩ := same_bt F10 hlow.out hb.out B11 F11
        have hst := hid (stp_eq S kz v sh m vs hsh1.out (by rw [hkl.out]; exact hm.out) hVS.out)
        replace B12 := hid B12
        replace F12 := hid F12
        clear B9 F9 B10 F10 B11 F11
        generalize hCN : ((S.cnt + 1 : Nat) : Int) = CN at *
        generalize (S.cnt : Int) = CM at *
        go_wp2_with fail
        go_end0
        have B13 := B12.out
        rw [← hst.out] at B13
        exact ⟨⟨_, rfl⟩, ⟨_, _, B13⟩, F12.out⟩
  by_cases hrs : S.cnt % S.r = 0
  · have hrem : (C0 % R0 == 0) = true := by
      rw [hC0.out, hR0.out, ← Int.natCast_emod, hrs]; rfl
    have HPL : Hid (plS S = S.pl ++ [S.ent.length]) := by show _ = _; unfold plS; rw [if_pos hrs]
    have hs0 : Hid (0 = shd S kz) := by show _ = _; unfold shd; rw [if_pos hrs]
    obtain ⟨D, hD⟩ : ∃ D, D = World.drew w1 := ⟨_, rfl⟩
    have BD : Below w.heap.size w D := by rw [hD]; exact BN.drew
    have HD := H.out.later BD
    obtain ⟨ea, ec, rfl, he1, he2, he3⟩ := HD.oe.shape
    obtain ⟨pa, pc, rfl, hp1, hp2, hp3⟩ := OwnN.shape HD.op
    obtain ⟨v5, W5, r5, o5, g5, q5⟩ := app_nat D base (.slice pa S.pl.length pc) S.pl S.ent.length HD.op (by have := h2.out; omega) (Nat.le_trans hb.out BD.size)
    obtain ⟨B5, F5⟩ := HD.plcs (Nat.le_trans hb.out BD.size) g5 o5 (by rcases q5 with e | e; exact .inl e; exact .inr ⟨_, e, by omega⟩)
    obtain ⟨a5, c5, rfl, _, _, _⟩ := OwnN.shape o5
    have d1 : D.cell? ⟨g, 1, none⟩ = some (.slice ea S.ent.length ec) := cell_of HD.blk 1 _ rfl
    have d2 : D.cell? ⟨g, 2, none⟩ = some (.slice pa S.pl.length pc) := cell_of HD.blk 2 _ rfl
    have d2' : (D.alloc (.cells #[.int .i64 (S.ent.length : Int)] 3)).cell? ⟨g, 2, none⟩ = some (.slice pa S.pl.length pc) := cell_of ((HD.later (box_below D (.cells #[.int .i64 (S.ent.length : Int)] 3))).blk) 2 _ rfl
    have e5 : W5.heap[g]? = D.heap[g]? := g5.block g (blk_lt HD.blk) (fun e => by have := HD.pp g e.symm; omega)
    have f5 : W5.frozen? ⟨g, 2, none⟩ = false := fz_of (e5.trans HD.blk) 2
    have d5 : W5.cell? ⟨g, 2, none⟩ = some (.slice pa S.pl.length pc) := cell_of (e5.trans HD.blk) 2 _ rfl
    generalize hL5 : (S.pl ++ [S.ent.length]).length = L5 at r5 B5 F5 o5 q5
    obtain ⟨B6, F6⟩ : Bt (W5.setCell ⟨g, 2, none⟩ (.slice a5 L5 c5)) base g gl (.slice ea S.ent.length ec) (.slice a5 L5 c5) (gw P w (W5.setCell ⟨g, 2, none⟩ (.slice a5 L5 c5))) ⟨S.r, S.ent, plS S, S.cnt, S.last⟩ ∧ Fp P w (W5.setCell ⟨g, 2, none⟩ (.slice a5 L5 c5)) := by
      have F0 : Fp P w D := Fp.of BD
      rw [HPL.out]
      have hz5 := setCell_size W5 ⟨g, 2, none⟩ (.slice a5 L5 c5)
      have hs5 := F5.size
      refine ⟨B5.wide ?_ (gw_low hb.out (by have := BD.size; omega) hlow.out), F0.trans (F5.wide fun j _ hj => .inl hj)⟩
      rintro j (h | h)
      · exact .inl h
      · exact .inr ⟨by have := BD.size; omega, by omega⟩
    replace B6 := hid B6
    replace F6 := hid F6
    replace hD := hid hD
    clear HD o5 g5 q5 e5 BN c0 c3 hp1 hp2 hp3 he1 he2 he3 B5 F5 BD hL5
    generalize hLE : S.ent.length = LE at *
    generalize hLP : S.pl.length = LP at *
    go_wp2_with fail
    refine wp_region_any (by kernel_rfl) ?_
    change wpAny _ _ _ _ _ _ _ (World.drew _)
    rw [← hD.out]
    refine wpAny_take (i := 0) (v := ?v11) rfl (by kernel_rfl) (by kernel_rfl) (by kernel_rfl) (fun _ _ _ h => h) (Or.inl ⟨by rfl, ?h11⟩) ?_
    case h11 => (intro w; go_simp; try (with_reducible rfl))
    go_simp
    refine wpAny_take (i := 1) (v := ?v12) rfl (by kernel_rfl) (by kernel_rfl) (by kernel_rfl) (fun _ _ _ h => h) (Or.inl ⟨by rfl, ?h12⟩) ?_
    case h12 => (intro w; go_simp; try (with_reducible rfl))
    go_simp
    refine wpAny_take (i := 2) (v := ?v13) rfl (by kernel_rfl) (by kernel_rfl) (by kernel_rfl) (fun _ _ _ h => h) (Or.inl ⟨by rfl, ?h13⟩) ?_
    case h13 => (intro w; go_simp; try (with_reducible rfl))
    go_simp
    refine wpAny_take (i := 3) (v := ?v14) rfl (by kernel_rfl) (by kernel_rfl) (by kernel_rfl) (fun _ _ _ h => h) (Or.inl ⟨by rfl, ?h14⟩) ?_
    case h14 => (intro w; go_simp; try (with_reducible rfl))
    go_simp
    refine wpAny_take (i := 5) (v := ?v15) rfl (by kernel_rfl) (by kernel_rfl) (by kernel_rfl) (fun _ _ _ h => h) (Or.inl ⟨by rfl, ?h15⟩) ?_
    case h15 => (intro w; go_simp; try (with_reducible rfl))
    go_simp
    refine wpAny_take (i := 6) (v := ?v16) rfl (by kernel_rfl) (by kernel_rfl) (by kernel_rfl) (fun _ _ _ h => h) (Or.inl ⟨by rfl, ?h16⟩) ?_
    case h16 => (intro w; go_simp; try (with_reducible rfl))
    go_simp
    refine wpAny_take (i := 7) (v := ?v17) rfl (by kernel_rfl) (by kernel_rfl) (by kernel_rfl) (fun _ _ _ h => h) (Or.inl ⟨by rfl, ?h17⟩) ?_
    case h17 => (intro w; go_simp; try (with_reducible rfl))
    go_simp
    refine wpAny_ready (rs := [4, 8]) (by kernel_rfl) (by simp) ?_
    refine AllReady.cons rfl (fun K hK => ?_) ?_
    · go_simp
      refine hK _ _ ?_
      clear hK K
      refine wpAny_ready (rs := [8]) (by kernel_rfl) (by simp) ?_
      refine AllReady.cons rfl (fun K hK => ?_) ?_
      · go_simp
        refine hK _ _ ?_
        clear hK K
        refine wpAny_ready (rs := [9]) (by kernel_rfl) (by simp) ?_
        refine AllReady.cons rfl (fun K hK => ?_) ?_
        · go_simp
          refine hK _ _ ?_
          clear hK K
          refine wpAny_ready (rs := [10]) (by kernel_rfl) (by simp) ?_
          refine AllReady.cons rfl (fun K hK => ?_) ?_
          · go_simp
            refine hK _ _ ?_
            clear hK K
            refine wpAny_ready (rs := [11]) (by kernel_rfl) (by simp) ?_
            refine AllReady.cons rfl (fun K hK => ?_) ?_
            · refine wp_append_run _ _ _ _ rfl _ _ _ rfl rfl r5 ?_
              go_simp
              refine hK _ _ ?_
              clear hK K
              refine wpAny_take (i := 12) (v := ?v18) rfl (by kernel_rfl) (by kernel_rfl) (by kernel_rfl) (fun _ _ _ h => h) (Or.inl ⟨by rfl, ?h18⟩) ?_
              case h18 => (intro w; go_simp; try (with_reducible rfl))
              go_simp
              refine wpAny_take (i := 13) (v := ?v19) rfl (by kernel_rfl) (by kernel_rfl) (by kernel_rfl) (fun _ _ _ h => h) (Or.inl ⟨by rfl, ?h19⟩) ?_
              case h19 => (intro w; go_simp; try (with_reducible rfl))
              go_simp
              refine wpAny_ready (rs := [14]) (by kernel_rfl) (by simp) ?_
              refine AllReady.cons rfl (fun K hK => ?_) ?_
              · go_simp
                refine hK _ _ ?_
                clear hK K
                refine wpAny_done (by kernel_rfl) ?_ _
                exact key _ _ 0 _ _ _ _ _ _ _ _ _ _ _ _ _ _ _ _ _ _ _ _ _ _ _ _ _ _ _ _ _ _ _ hs0 B6 F6
              exact AllReady.nil
            exact AllReady.nil
          exact AllReady.nil
        exact AllReady.nil
      exact AllReady.nil
    refine AllReady.cons rfl (fun K hK => ?_) ?_
    · go_simp
      refine hK _ _ ?_
      clear hK K
      refine wpAny_ready (rs := [4, 9]) (by kernel_rfl) (by simp) ?_
      refine AllReady.cons rfl (fun K hK => ?_) ?_
      · go_simp
        refine hK _ _ ?_
        clear hK K
        refine wpAny_ready (rs := [9]) (by kernel_rfl) (by simp) ?_
        refine AllReady.cons rfl (fun K hK => ?_) ?_
        · go_simp
          refine hK _ _ ?_
          clear hK K
          refine wpAny_ready (rs := [10]) (by kernel_rfl) (by simp) ?_
          refine AllReady.cons rfl (fun K hK => ?_) ?_
          · go_simp
            refine hK _ _ ?_
            clear hK K
            refine wpAny_ready (rs := [11]) (by kernel_rfl) (by simp) ?_
            refine AllReady.cons rfl (fun K hK => ?_) ?_
            · refine wp_append_run _ _ _ _ rfl _ _ _ rfl rfl r5 ?_
              go_simp
              refine hK _ _ ?_
              clear hK K
              refine wpAny_take (i := 12) (v := ?v20) rfl (by kernel_rfl) (by kernel_rfl) (by kernel_rfl) (fun _ _ _ h => h) (Or.inl ⟨by rfl, ?h20⟩) ?_
              case h20 => (intro w; go_simp; try (with_reducible rfl))
              go_simp
              refine wpAny_take (i := 13) (v := ?v21) rfl (by kernel_rfl) (by kernel_rfl) (by kernel_rfl) (fun _ _ _ h => h) (Or.inl ⟨by rfl, ?h21⟩) ?_
              case h21 => (intro w; go_simp; try (with_reducible rfl))
              go_simp
              refine wpAny_ready (rs := [14]) (by kernel_rfl) (by simp) ?_
              refine AllReady.cons rfl (fun K hK => ?_) ?_
              · go_simp
                refine hK _ _ ?_
                clear hK K
                refine wpAny_done (by kernel_rfl) ?_ _
                exact key _ _ 0 _ _ _ _ _ _ _ _ _ _ _ _ _ _ _ _ _ _ _ _ _ _ _ _ _ _ _ _ _ _ _ hs0 B6 F6
              exact AllReady.nil
            exact AllReady.nil
          exact AllReady.nil
        exact AllReady.nil
      refine AllReady.cons rfl (fun K hK => ?_) ?_
      · go_simp
        refine hK _ _ ?_
        clear hK K
        refine wpAny_ready (rs := [4, 10]) (by kernel_rfl) (by simp) ?_
        refine AllReady.cons rfl (fun K hK => ?_) ?_
        · go_simp
          refine hK _ _ ?_
          clear hK K
          refine wpAny_ready (rs := [10]) (by kernel_rfl) (by simp) ?_
          refine AllReady.cons rfl (fun K hK => ?_) ?_
          · go_simp
            refine hK _ _ ?_
            clear hK K
            refine wpAny_ready (rs := [11]) (by kernel_rfl) (by simp) ?_
            refine AllReady.cons rfl (fun K hK => ?_) ?_
            · refine wp_append_run _ _ _ _ rfl _ _ _ rfl rfl r5 ?_
              go_simp
              refine hK _ _ ?_
              clear hK K
              refine wpAny_take (i := 12) (v := ?v22) rfl (by kernel_rfl) (by kernel_rfl) (by kernel_rfl) (fun _ _ _ h => h) (Or.inl ⟨by rfl, ?h22⟩) ?_
              case h22 => (intro w; go_simp; try (with_reducible rfl))
              go_simp
              refine wpAny_take (i := 13) (v := ?v23) rfl (by kernel_rfl) (by kernel_rfl) (by kernel_rfl) (fun _ _ _ h => h) (Or.inl ⟨by rfl, ?h23⟩) ?_
              case h23 => (intro w; go_simp; try (with_reducible rfl))
              go_simp
              refine wpAny_ready (rs := [14]) (by kernel_rfl) (by simp) ?_
              refine AllReady.cons rfl (fun K hK => ?_) ?_
              · go_simp
                refine hK _ _ ?_
                clear hK K
                refine wpAny_done (by kernel_rfl) ?_ _
                exact key _ _ 0 _ _ _ _ _ _ _ _ _ _ _ _ _ _ _ _ _ _ _ _ _ _ _ _ _ _ _ _ _ _ _ hs0 B6 F6
              exact AllReady.nil
            exact AllReady.nil
          exact AllReady.nil
        refine AllReady.cons rfl (fun K hK => ?_) ?_
        · go_simp
          refine hK _ _ ?_
          clear hK K
          refine wpAny_ready (rs := [4]) (by kernel_rfl) (by simp) ?_
          refine AllReady.cons rfl (fun K hK => ?_) ?_
          · go_simp
            refine hK _ _ ?_
            clear hK K
            refine wpAny_ready (rs := [11]) (by kernel_rfl) (by simp) ?_
            refine AllReady.cons rfl (fun K hK => ?_) ?_
            · refine wp_append_run _ _ _ _ rfl _ _ _ rfl rfl r5 ?_
              go_simp
              refine hK _ _ ?_
              clear hK K
              refine wpAny_take (i := 12) (v := ?v24) rfl (by kernel_rfl) (by kernel_rfl) (by kernel_rfl) (fun _ _ _ h => h) (Or.inl ⟨by rfl, ?h24⟩) ?_
              case h24 => (intro w; go_simp; try (with_reducible rfl))
              go_simp
              refine wpAny_take (i := 13) (v := ?v25) rfl (by kernel_rfl) (by kernel_rfl) (by kernel_rfl) (fun _ _ _ h => h) (Or.inl ⟨by rfl, ?h25⟩) ?_
              case h25 => (intro w; go_simp; try (with_reducible rfl))
              go_simp
              refine wpAny_ready (rs := [14]) (by kernel_rfl) (by simp) ?_
              refine AllReady.cons rfl (fun K hK => ?_) ?_
              · go_simp
                refine hK _ _ ?_
                clear hK K
                refine wpAny_done (by kernel_rfl) ?_ _
                exact key _ _ 0 _ _ _ _ _ _ _ _ _ _ _ _ _ _ _ _ _ _ _ _ _ _ _ _ _ _ _ _ _ _ _ hs0 B6 F6
              exact AllReady.nil
            exact AllReady.nil
          exact AllReady.nil
        exact AllReady.nil
      exact AllReady.nil
    exact AllReady.nil
  · have hrem : (C0 % R0 == 0) = false := by
      rw [hC0.out, hR0.out, ← Int.natCast_emod, beq_eq_false_iff_ne]; omega
    have hpl : plS S = S.pl := by unfold plS; rw [if_neg hrs]
    have hs0 : Hid (shr S.last kz = shd S kz) := by show _ = _; unfold shd; rw [if_neg hrs]
    have H1 := H.out.later BN
    have c4 : w1.cell? ⟨g, 4, none⟩ = some (.slice (some ⟨gl, 0, none⟩) S.last.length 1032) := cell_of H1.blk 4 _ rfl
    have hl1 := (H1.ol.bytes H1.bt)
    have HSH := hid (shared_any gl 0 S.last.length 1032 kb 0 n n S.last kz w1 hl1 (bytes_kept HK.out BN) (by have := hl1.2.1; omega) (by omega))
    have AFT : Hid (∀ W, Below w1.heap.size w1 W → Bt W base g gl ve vp (gw P w W) ⟨S.r, S.ent, plS S, S.cnt, S.last⟩ ∧ Fp P w W) := by
      intro W hW
      rw [hpl]
      have bW := BN.trans (hW.mono BN.size)
      exact ⟨(H.out.later bW).wide (fun j hj => .inl hj) (gw_low hb.out bW.size hlow.out), Fp.of bW⟩
    clear BN c0 c3 H1 hl1
    generalize S.last.length = LL at *
    go_wp2_with fail
    refine HSH.out.mono ?_
    rintro e x1 ⟨rfl, b1⟩
    have A1 := hid (AFT.out x1 b1).1
    have A2 := hid (AFT.out x1 b1).2
    clear b1
    go_wp2_with fail
    refine key ve vp _ _ _ _ _ _ _ _ _ _ _ _ _ _ _ _ _ _ _ _ _ _ _ _ _ _ _ _ _ _ _ _ hs0 A1 A2
end Go.Proofs.Ytkanjbeijoeenaa.Bp

/- Proved: for every number, all operations, every place and all bytes BatchWhole returns true: a batch that is cut short, or has bytes behind it, is refused, numbered and joined as well. -/
import Derived.Test.YtmceanfgcehfeabAm
import Derived.ShutString
import Derived.ChangeOld
import Derived.Below
import Derived.SizedLaws
import Derived.Deep.RegionWith
import Derived.Lib.SmallJoins
namespace Go.Proofs.Ytmceanfgcehfeab.batchWhole
open Go.Proofs.Ytmceanfgcehfeab
open Go.Proofs.Ytmceanfgcehfeab.Ob
open Go.Proofs.Ytmceanfgcehfeab.By (Row Bytes nil_bytes row_below lb bytes_kept bytes_take info5 one_cell)
open Go.Proofs.Ytmceanfgcehfeab.En
open Go.Proofs.Ytmceanfgcehfeab.De
open Go.Proofs.Ytmceanfgcehfeab.Pu
open Go.Proofs.Ytmceanfgcehfeab.Jo
open Go.Proofs.Ytmceanfgcehfeab.Wk
open Go.Proofs.Ytmceanfgcehfeab.Am
open Go.ChangeShapes Go.WideShapes Go.ChangeAt Go.RowKit Go.Joins
open Go.ChangeMaps (open_string shut_string)
set_option linter.unusedVariables false

theorem Boxed2.later {W W' : World} {g : Nat} {c : Array Value} (h : W.heap[g]? = some (.cells c 51 (0, 0))) (b : Below W.heap.size W W') : W'.heap[g]? = some (.cells c 51 (0, 0)) := (b.block g (Array.getElem?_eq_some_iff.1 h).1).trans h
theorem bcell {W : World} {g : Nat} {c : Array Value} (h : W.heap[g]? = some (.cells c 51 (0, 0))) (i : Nat) : W.cell? ⟨g, i, none⟩ = c[i]? := cell_of_row W g i c 51 (0, 0) h
theorem Row.kept' {w w' : World} {base g n cap : Nat} {xs : List Int} (h : Row w base g n cap xs) (b : Below w.heap.size w w') : Row w' base g n cap xs := row_below h b
theorem wp_append_run {P : Program} {w w' : World} {o : Oper} {a : Act} {K : Act → World → Prop} {Q : Exit → Act → World → Prop} (s x : Operand) (t tx : TypeId) (hop : o.op = Op.call { callee := Callee.builtin Builtin.append, args := #[s, x], argTypes := #[t, tx] })
    (u v v' : Value) (hs : a.eval s = u) (hx : a.eval x = v) (hrun : (Builtin.append_ #[t, tx] o.type #[u, v]).run P w = .ok v' w') (hK : K (a.put o.dst v') w') : o.wp P a w K Q := by
  unfold Oper.wp
  simp [execOp, hop, resolve, invoke, builtin, hs, hx, hrun, Result.andThen]
  exact hK
theorem bytes_grown {w w' : World} {a : Option Addr} {len cap : Nat} {zs : List Int} {row : Option Nat} (h : Bytes w a len cap zs) (g : w.grownBy w' row) (hne : ∀ x, a = some x → len = 0 ∨ row ≠ some x.block) : Bytes w' a len cap zs := by
  refine ⟨h.1, h.2.1, h.2.2.1, h.2.2.2.1, fun x hx i hi => ?_⟩
  have hc := h.2.2.2.2 x hx i hi
  refine g.cell hc ?_
  rcases hne x hx with h' | h'
  · omega
  · have : (x.add i).block = x.block := by unfold Addr.add; split <;> rfl
    rw [this]; exact h'.symm
/-- The bytes joined, as the law joins them: an equation for each of the two appends. -/
theorem two_appends (W : World) (g n c : Nat) (Z : List Int) (base0 : Nat) (R : Row W base0 g n c Z) (hn : n ≤ 1048576) (b : Option Addr) (lenb capb : Nat) (us : List Int) (HU : Bytes W b lenb capb us) (hub : capb ≤ 140737488351232) :
    ∃ (v1 : Value) (W1 : World) (v2 : Value) (W2 : World), (Builtin.append_ #[33, 33] 33 #[.slice (some ⟨W.heap.size, 0, none⟩) 0 0, .slice (some ⟨g, 0, none⟩) n c]).run Try.prog (W.alloc (.cells #[] 5)) = .ok v1 W1 ∧
      (Builtin.append_ #[33, 33] 33 #[v1, .slice b lenb capb]).run Try.prog W1 = .ok v2 W2 ∧ Below W.heap.size W W1 ∧ Below W.heap.size W W2 ∧ W2.ownsRow W.heap.size 5 1 v2 (n + lenb) ((Z ++ us).map (Value.int .u8)) := by
  obtain ⟨i0, hi, hz0, hz1, hz2⟩ := info_parts info5
  have own0 : (W.alloc (.cells #[] 5)).ownsRow W.heap.size 5 1 (.slice (some ⟨W.heap.size, 0, none⟩) 0 0) 0 [] := World.ownsRow_made W #[] 0 (Nat.le_refl _) (by unfold maxLen; omega) rfl
  have b0 := box_below W (.cells #[] 5)
  have hlz := R.len
  obtain ⟨v1, W1, r1, o1, g1, _⟩ := run_append_own_wide (P := Try.prog) (W.alloc (.cells #[] 5)) W.heap.size 33 33 5 i0 (.int .u8 0) 1 1 Try.underlying33 hi hz0 hz1 hz2 rfl (by decide) _ 0 [] own0 ⟨g, 0, none⟩ n c (Z.map (Value.int .u8)) (by simp; exact hlz) (World.ownsRow.cells (row_below R b0) (g := g) rfl) (one_cell Z) (by unfold maxLen; omega) (by omega) (by simp)
  have B1 : Below W.heap.size W W1 := b0.grown g1 (by simp) (fun j hj => (World.ownsRow.lt own0 j hj).1)
  rw [Nat.zero_add, List.nil_append] at o1
  have HU1 := bytes_kept HU B1
  cases b with
  | none =>
    obtain ⟨rfl, rfl⟩ := HU.2.2.1 rfl
    have hu : us = [] := List.eq_nil_of_length_eq_zero HU.1
    subst hu
    have r2 := run_append_owned_none (P := Try.prog) (w := W1) W.heap.size 33 33 5 i0 1 Try.underlying33 hi v1 n _ o1
    exact ⟨v1, W1, v1, W1, r1, r2, B1, B1, by simpa using o1⟩
  | some ad =>
    have hlu := HU.1
    have hlc := HU.2.1
    obtain ⟨v2, W2, r2, o2, g2, _⟩ := run_append_own_wide (P := Try.prog) W1 W.heap.size 33 33 5 i0 (.int .u8 0) 1 1 Try.underlying33 hi hz0 hz1 hz2 rfl (by decide) v1 n _ o1 ad lenb capb (us.map (Value.int .u8)) (by simp; exact hlu) ((By.bytes_later HU1 (Below.refl _ _)).2 ad rfl) (one_cell us) (by unfold maxLen; omega) (by omega) B1.size
    exact ⟨v1, W1, v2, W2, r1, r2, B1, B1.grown g2 B1.size (fun j hj => (World.ownsRow.lt o1 j hj).1), by rw [List.map_append]; exact o2⟩
set_option maxRecDepth 100000 in
set_option maxHeartbeats 4000000 in
theorem walk_no (s : Int) (a : Option Addr) (len cap : Nat) (xs : List O) (x : Int) (b : Option Addr) (lenb capb : Nat) (us : List Int) (w : World) (hs : 0 ≤ s ∧ s ≤ 18446744073709551615) (H : Ops w a len cap xs) (hl : len ≤ 140737488351232 / 40) (hx : -9223372036854775808 ≤ x ∧ x ≤ 9223372036854775807) (H2 : Bytes w b lenb capb us) (hl2 : capb ≤ 140737488351232) (hE : encE s xs ≠ 0) :
    Calls Try.prog 5 #[.int .u64 s, .slice a len cap, .agg #[.int .i64 x, .slice b lenb capb]] w fun e w' => e = .returned (.bool true) ∧ Below w.heap.size w w' := by
  have F1 : Hid (∀ w, Ops w a len cap xs → Calls Try.prog 20 #[.int .u64 s, .slice a len cap] w fun e w' => e = .returned (.tuple #[.slice none 0 0, .int .i64 (encE s xs)]) ∧ Below w.heap.size w w') := fun w h2 => encode_no s a len cap xs w h2 (by omega) hs hE
  have e0 : (encE s xs == 0) = false := by simp [hE]
  have e1 : (encE s xs != 0) = true := by simp [hE]
  clear hE
  generalize encE s xs = E at F1 e0 e1
  obtain ⟨W0, hW0⟩ : ∃ W0, W0 = w.alloc (.cells #[.int .i64 x, .slice b lenb capb] 51) := ⟨_, rfl⟩
  obtain ⟨gx, hgx⟩ : ∃ gx, gx = w.heap.size := ⟨_, rfl⟩
  have K0 : Hid (W0.heap[gx]? = some (.cells #[.int .i64 x, .slice b lenb capb] 51 (0, 0))) := by show _ = _; rw [hW0, hgx]; show (w.heap.push _)[w.heap.size]? = _; simp
  have BW0 : Hid (Below w.heap.size w W0) := by show Below _ _ _; rw [hW0]; exact box_below _ _
  have HW0 := hid hW0
  have HGx := hid hgx
  have HH := hid H
  have HU := hid H2
  clear hW0 hgx H H2
  go_enter Try.func5, Try.ntmps5
  go_wp2_with fail
  rw [← HW0.out, ← HGx.out]
  refine (works_any W0).mono ?_
  rintro e w1 ⟨rfl, b1⟩
  have HB1 : Hid (Below w.heap.size w w1) := BW0.out.trans (b1.mono BW0.out.size)
  have K1 := hid (Boxed2.later K0.out b1)
  clear b1 BW0 HW0 K0
  go_wp2_with fail
  refine (F1.out w1 (HH.out.later HB1.out)).mono ?_
  rintro e w2 ⟨rfl, b2⟩
  have HB2 : Hid (Below w.heap.size w w2) := HB1.out.trans (b2.mono HB1.out.size)
  clear b2 HB1 F1
  go_wp2_with fail
  go_ret
  exact ⟨rfl, HB2.out⟩
set_option maxRecDepth 100000 in
set_option maxHeartbeats 8000000 in
theorem walk_ok (s : Int) (a : Option Addr) (len cap : Nat) (xs : List O) (x : Int) (b : Option Addr) (lenb capb : Nat) (us : List Int) (w : World) (hs : 0 ≤ s ∧ s ≤ 18446744073709551615) (H : Ops w a len cap xs) (hl : len ≤ 140737488351232 / 40) (hx : -9223372036854775808 ≤ x ∧ x ≤ 9223372036854775807) (H2 : Bytes w b lenb capb us) (hl2 : capb ≤ 140737488351232) (hE : encE s xs = 0) (E : Int) (hEq : E = (if lenb = 0 then 0 else 41)) :
    Calls Try.prog 5 #[.int .u64 s, .slice a len cap, .agg #[.int .i64 x, .slice b lenb capb]] w fun e w' => e = .returned (.bool true) ∧ Below w.heap.size w w' := by
  have hlu := H2.1
  have hlub := H2.2.1
  have m1 := all_may xs (chk_parts (encE_ok hE).1).2.1
  have EB := hid (enc_bytes s xs m1)
  have hN := enc_len s xs
  have hbd : bsz xs ≤ 1048576 := (chk_parts (encE_ok hE).1).2.2.1
  have hb12 : 12 ≤ bsz xs := by unfold bsz; omega
  have FE := hid (fun W hW => encode_ok s a len cap xs W (H.later hW) hs hE)
  have HCut : Hid (∀ k, k < bsz xs → dec ((enc s xs).take k) = none) := fun k hk => dec_cut s xs hs hE k (by rw [hN]; exact hk)
  have HDE := hid (dec_enc s xs hs hE)
  have HLong : Hid (∀ W a' c', Bytes W a' (bsz xs + lenb) c' (enc s xs ++ us) → Calls Try.prog 21 #[.slice a' (bsz xs + lenb) c'] W fun e w' => (∃ (S' : Int) (v' : Value), e = .returned (.tuple #[.int .u64 S', v', .int .i64 E])) ∧ Below W.heap.size W w') := fun W a' c' hb => by
    by_cases h0 : lenb = 0
    · have hu : us = [] := List.eq_nil_of_length_eq_zero (by omega)
      subst hu
      rw [hEq, if_pos h0]
      rw [List.append_nil] at hb
      refine (decode_ok a' _ c' _ W hb s xs HDE.out).mono ?_
      rintro e w' ⟨v, rfl, _, b⟩
      exact ⟨⟨s, v, rfl⟩, b⟩
    · rw [hEq, if_neg h0]
      have hu : us ≠ [] := fun e => by rw [e] at hlu; simp at hlu; omega
      refine (decode_no' a' _ c' _ W hb (by omega) (dec_long s xs hs hE us hu)).mono ?_
      rintro e w' ⟨rfl, b⟩
      exact ⟨⟨0, _, rfl⟩, b⟩
  have HRen : Hid (∀ k, k < bsz xs → renR ((enc s xs).take k) s = (41, [])) := fun k hk => by unfold renR; rw [HCut.out k hk]
  have HJoin : Hid (∀ k, k < bsz xs → joinR (enc s xs) ((enc s xs).take k) = (41, [])) := fun k hk => by unfold joinR; rw [HDE.out]; simp only; rw [HCut.out k hk]
  have q0 : ((E == 0) == ((lenb : Int) == 0)) = true := by
    rw [hEq]
    by_cases h0 : lenb = 0
    · rw [if_pos h0, h0]; rfl
    · rw [if_neg h0, show ((lenb : Int) == 0) = false from by simp; omega]; rfl
  have HEq := hid hEq
  clear hE m1 hEq
  generalize enc s xs = Z at *
  generalize bsz xs = N at *
  obtain ⟨W0, hW0⟩ : ∃ W0, W0 = w.alloc (.cells #[.int .i64 x, .slice b lenb capb] 51) := ⟨_, rfl⟩
  obtain ⟨gx, hgx⟩ : ∃ gx, gx = w.heap.size := ⟨_, rfl⟩
  have K0 : Hid (W0.heap[gx]? = some (.cells #[.int .i64 x, .slice b lenb capb] 51 (0, 0))) := by show _ = _; rw [hW0, hgx]; show (w.heap.push _)[w.heap.size]? = _; simp
  have BW0 : Hid (Below w.heap.size w W0) := by show Below _ _ _; rw [hW0]; exact box_below _ _
  have HW0 := hid hW0
  have HGx := hid hgx
  have HH := hid H
  have HU := hid H2
  clear hW0 hgx H H2
  go_enter Try.func5, Try.ntmps5
  go_wp2_with fail
  rw [← HW0.out, ← HGx.out]
  refine (works_any W0).mono ?_
  rintro e w1 ⟨rfl, b1⟩
  have HB1 : Hid (Below w.heap.size w w1) := BW0.out.trans (b1.mono BW0.out.size)
  have K1 := hid (Boxed2.later K0.out b1)
  clear b1 BW0 HW0 K0
  go_wp2_with fail
  refine (FE.out w1 HB1.out).mono ?_
  rintro e w2 ⟨g, c, rfl, R2, b2⟩
  have HB2 : Hid (Below w.heap.size w w2) := HB1.out.trans (b2.mono HB1.out.size)
  have K2 := hid (Boxed2.later K1.out b2)
  have HR2 := hid R2
  have l2 := R2.lt
  have s12 := b2.size
  have z1 := HB1.out.size
  have cx0 : w2.cell? ⟨gx, 0, none⟩ = some (.int .i64 x) := bcell K2.out 0
  have hNc : N ≤ c := (By.full R2).choose_spec.2.2
  have i12 : ¬ (N : Int) < 12 := by omega
  clear HB1 b2 R2 K1
  go_wp2_with fail
  refine (among_any x N w2 hx (by omega)).mono ?_
  rintro e w2' ⟨⟨k, hk, rfl⟩, rfl⟩
  have ik : (k : Int) ≤ (N : Int) := by omega
  have ikc : (k : Int) ≤ (c : Int) := by omega
  obtain ⟨v1, W1, v2, W2, r1, r2, B1, B2, O2⟩ := two_appends w2'.drew g N c Z w1.heap.size (show Row w2'.drew w1.heap.size g N c Z from HR2.out) hbd b lenb capb us (bytes_kept HU.out HB2.out.drew) hl2
  have B1' : Hid (Below w2'.heap.size w2'.drew W1) := B1
  have B2' : Hid (Below w2'.heap.size w2'.drew W2) := B2
  have HO2 := hid O2
  have dx1 : w2'.drew.cell? ⟨gx, 1, none⟩ = some (.slice b lenb capb) := bcell (show w2'.drew.heap[gx]? = _ from K2.out) 1
  have dx2 : W1.cell? ⟨gx, 1, none⟩ = some (.slice b lenb capb) := bcell (Boxed2.later (show w2'.drew.heap[gx]? = _ from K2.out) B1) 1
  have r1' : (Builtin.append_ #[33, 33] 33 #[.slice (some ⟨w2'.heap.size, 0, none⟩) 0 0, .slice (some ⟨g, 0, none⟩) N c]).run Try.prog (w2'.alloc (.cells #[] 5)).drew = .ok v1 W1 := r1
  have dx3 : (w2'.alloc (.cells #[] 5)).drew.cell? ⟨gx, 1, none⟩ = some (.slice b lenb capb) := bcell (Boxed2.later (show w2'.heap[gx]? = _ from K2.out) (box_below w2' (.cells #[] 5))) 1
  have dx4 : (w2'.alloc (.cells #[] 5)).cell? ⟨gx, 1, none⟩ = some (.slice b lenb capb) := dx3
  have dx0 : w2'.cell? ⟨gx, 1, none⟩ = some (.slice b lenb capb) := dx1
  obtain ⟨aL, cL, hvL, YL⟩ : ∃ aL cL, v2 = .slice aL (N + lenb) cL ∧ Bytes W2 aL (N + lenb) cL (Z ++ us) := by
    have hb : ∀ y ∈ Z ++ us, 0 ≤ y ∧ y ≤ 255 := fun y hy => by
      rcases List.mem_append.1 hy with h | h
      · exact EB.out y h
      · exact HU.out.2.2.2.1 y h
    obtain ⟨gL, cL, e, RL⟩ := By.shape O2 (by omega)
    exact ⟨_, cL, e, RL.bytes hb⟩
  subst hvL
  have HYL := hid YL
  have HBW2 : Hid (Below w.heap.size w W2) := HB2.out.drew.trans (B2.mono (by have := HB2.out.size; exact this))
  have R22 : Row W2 w1.heap.size g N c Z := row_below (show Row w2'.drew w1.heap.size g N c Z from HR2.out) B2
  have HYb := hid (R22.bytes EB.out)
  have HYc := hid (bytes_take (R22.bytes EB.out) k (by omega) (by simp))
  have kx1 : W2.cell? ⟨gx, 1, none⟩ = some (.slice b lenb capb) := bcell (Boxed2.later (show w2'.drew.heap[gx]? = _ from K2.out) B2) 1
  have KW2 := hid (Boxed2.later (show w2'.drew.heap[gx]? = _ from K2.out) B2)
  have HCk := hid (HCut.out k hk)
  have HRk := hid (HRen.out k hk)
  have HJk := hid (HJoin.out k hk)
  clear r1 B1 B2 O2 HRen HJoin HCut HDE HEq R22 HR2 YL HO2 B1' B2'
  go_wp2_with fail
  refine wp_region_any (by kernel_rfl) ?_
  change wpAny _ _ _ _ _ _ _ (World.drew _)
  refine wpAny_take (i := 1) (v := ?v1) rfl (by kernel_rfl) (by kernel_rfl) (by kernel_rfl) (fun _ _ _ h => h) (Or.inl ⟨by rfl, ?h1⟩) ?_
  case h1 => (intro w; go_simp; try (with_reducible rfl))
  go_simp
  refine wpAny_take (i := 3) (v := ?v2) rfl (by kernel_rfl) (by kernel_rfl) (by kernel_rfl) (fun _ _ _ h => h) (Or.inl ⟨by rfl, ?h2⟩) ?_
  case h2 => (intro w; go_simp; try (with_reducible rfl))
  go_simp
  refine wpAny_ready (rs := [0, 4]) (by kernel_rfl) (by simp) ?_
  refine AllReady.cons rfl (fun K hK => ?_) ?_
  · go_simp
    refine hK _ _ ?_
    clear hK K
    refine wpAny_ready (rs := [2, 4]) (by kernel_rfl) (by simp) ?_
    refine AllReady.cons rfl (fun K hK => ?_) ?_
    · rw [if_pos (by rfl)]
      refine wp_append_run _ _ 33 33 rfl _ _ _ (by rfl) (by rfl) r1' ?_
      refine hK _ _ ?_
      clear hK K
      go_simp
      refine wpAny_ready (rs := [4]) (by kernel_rfl) (by simp) ?_
      refine AllReady.cons rfl (fun K hK => ?_) ?_
      · go_simp
        refine hK _ _ ?_
        clear hK K
        refine wpAny_ready (rs := [5]) (by kernel_rfl) (by simp) ?_
        refine AllReady.cons rfl (fun K hK => ?_) ?_
        · rw [if_pos (by rfl)]
          refine wp_append_run _ _ 33 33 rfl _ _ _ (by rfl) (by rfl) r2 ?_
          refine hK _ _ ?_
          clear hK K
          go_simp
          refine wpAny_take (i := 6) (v := ?v3) rfl (by kernel_rfl) (by kernel_rfl) (by kernel_rfl) (fun _ _ _ h => h) (Or.inl ⟨by rfl, ?h3⟩) ?_
          case h3 => (intro w; go_simp; try (with_reducible rfl))
          go_simp
          refine wpAny_done (by kernel_rfl) ?_ _
          clear dx0 dx1 dx2 dx3 dx4 cx0 r1' r2
          go_wp2_with fail
          refine (decode_no (some ⟨g, 0, none⟩) k c (Z.take k) W2 HYc.out (by omega) HCk.out).mono ?_
          rintro e w5 ⟨rfl, b5⟩
          have HB5 : Hid (Below w.heap.size w w5) := HBW2.out.trans (b5.mono HBW2.out.size)
          have HYb := hid (bytes_kept HYb.out b5)
          have HYc := hid (bytes_kept HYc.out b5)
          have HYL := hid (bytes_kept HYL.out b5)
          have KW2 := hid (Boxed2.later KW2.out b5)
          clear b5 HBW2 kx1
          go_wp2_with fail
          refine (HLong.out w5 aL cL HYL.out).mono ?_
          rintro e w6 ⟨⟨S6, v6, rfl⟩, b6⟩
          have HB6 : Hid (Below w.heap.size w w6) := HB5.out.trans (b6.mono HB5.out.size)
          have HYb := hid (bytes_kept HYb.out b6)
          have HYc := hid (bytes_kept HYc.out b6)
          have KW2 := hid (Boxed2.later KW2.out b6)
          clear b6 HB5 HLong
          go_wp2_with fail
          refine (renumber_any (some ⟨g, 0, none⟩) k c (Z.take k) s w6 HYc.out (by omega) hs).mono ?_
          rw [HRk.out]
          rintro e w7 ⟨v7, rfl, _, b7⟩
          have HB7 : Hid (Below w.heap.size w w7) := HB6.out.trans (b7.mono HB6.out.size)
          have HYb := hid (bytes_kept HYb.out b7)
          have HYc := hid (bytes_kept HYc.out b7)
          have KW2 := hid (Boxed2.later KW2.out b7)
          clear b7 HB6
          go_wp2_with fail
          refine (join_any (some ⟨g, 0, none⟩) N c Z (some ⟨g, 0, none⟩) k c (Z.take k) w7 HYb.out (by omega) HYc.out (by omega)).mono ?_
          rw [HJk.out]
          rintro e w8 ⟨v8, rfl, _, b8⟩
          have HB8 : Hid (Below w.heap.size w w8) := HB7.out.trans (b8.mono HB7.out.size)
          have kx8 : w8.cell? ⟨gx, 1, none⟩ = some (.slice b lenb capb) := bcell (Boxed2.later KW2.out b8) 1
          clear b8 HB7
          go_wp2_with fail
          go_ret
          exact ⟨rfl, HB8.out⟩
        exact AllReady.nil
      exact AllReady.nil
    refine AllReady.cons rfl (fun K hK => ?_) ?_
    · go_simp
      refine hK _ _ ?_
      clear hK K
      refine wpAny_ready (rs := [2]) (by kernel_rfl) (by simp) ?_
      refine AllReady.cons rfl (fun K hK => ?_) ?_
      · rw [if_pos (by rfl)]
        refine wp_append_run _ _ 33 33 rfl _ _ _ (by rfl) (by rfl) r1' ?_
        refine hK _ _ ?_
        clear hK K
        go_simp
        refine wpAny_ready (rs := [5]) (by kernel_rfl) (by simp) ?_
        refine AllReady.cons rfl (fun K hK => ?_) ?_
        · rw [if_pos (by rfl)]
          refine wp_append_run _ _ 33 33 rfl _ _ _ (by rfl) (by rfl) r2 ?_
          refine hK _ _ ?_
          clear hK K
          go_simp
          refine wpAny_take (i := 6) (v := ?v4) rfl (by kernel_rfl) (by kernel_rfl) (by kernel_rfl) (fun _ _ _ h => h) (Or.inl ⟨by rfl, ?h4⟩) ?_
          case h4 => (intro w; go_simp; try (with_reducible rfl))
          go_simp
          refine wpAny_done (by kernel_rfl) ?_ _
          clear dx0 dx1 dx2 dx3 dx4 cx0 r1' r2
          go_wp2_with fail
          refine (decode_no (some ⟨g, 0, none⟩) k c (Z.take k) W2 HYc.out (by omega) HCk.out).mono ?_
          rintro e w5 ⟨rfl, b5⟩
          have HB5 : Hid (Below w.heap.size w w5) := HBW2.out.trans (b5.mono HBW2.out.size)
          have HYb := hid (bytes_kept HYb.out b5)
          have HYc := hid (bytes_kept HYc.out b5)
          have HYL := hid (bytes_kept HYL.out b5)
          have KW2 := hid (Boxed2.later KW2.out b5)
          clear b5 HBW2 kx1
          go_wp2_with fail
          refine (HLong.out w5 aL cL HYL.out).mono ?_
          rintro e w6 ⟨⟨S6, v6, rfl⟩, b6⟩
          have HB6 : Hid (Below w.heap.size w w6) := HB5.out.trans (b6.mono HB5.out.size)
          have HYb := hid (bytes_kept HYb.out b6)
          have HYc := hid (bytes_kept HYc.out b6)
          have KW2 := hid (Boxed2.later KW2.out b6)
          clear b6 HB5 HLong
          go_wp2_with fail
          refine (renumber_any (some ⟨g, 0, none⟩) k c (Z.take k) s w6 HYc.out (by omega) hs).mono ?_
          rw [HRk.out]
          rintro e w7 ⟨v7, rfl, _, b7⟩
          have HB7 : Hid (Below w.heap.size w w7) := HB6.out.trans (b7.mono HB6.out.size)
          have HYb := hid (bytes_kept HYb.out b7)
          have HYc := hid (bytes_kept HYc.out b7)
          have KW2 := hid (Boxed2.later KW2.out b7)
          clear b7 HB6
          go_wp2_with fail
          refine (join_any (some ⟨g, 0, none⟩) N c Z (some ⟨g, 0, none⟩) k c (Z.take k) w7 HYb.out (by omega) HYc.out (by omega)).mono ?_
          rw [HJk.out]
          rintro e w8 ⟨v8, rfl, _, b8⟩
          have HB8 : Hid (Below w.heap.size w w8) := HB7.out.trans (b8.mono HB7.out.size)
          have kx8 : w8.cell? ⟨gx, 1, none⟩ = some (.slice b lenb capb) := bcell (Boxed2.later KW2.out b8) 1
          clear b8 HB7
          go_wp2_with fail
          go_ret
          exact ⟨rfl, HB8.out⟩
        exact AllReady.nil
      exact AllReady.nil
    exact AllReady.nil
  refine AllReady.cons rfl (fun K hK => ?_) ?_
  · go_simp
    refine hK _ _ ?_
    clear hK K
    refine wpAny_ready (rs := [0]) (by kernel_rfl) (by simp) ?_
    refine AllReady.cons rfl (fun K hK => ?_) ?_
    · go_simp
      refine hK _ _ ?_
      clear hK K
      refine wpAny_ready (rs := [2]) (by kernel_rfl) (by simp) ?_
      refine AllReady.cons rfl (fun K hK => ?_) ?_
      · rw [if_pos (by rfl)]
        refine wp_append_run _ _ 33 33 rfl _ _ _ (by rfl) (by rfl) r1' ?_
        refine hK _ _ ?_
        clear hK K
        go_simp
        refine wpAny_ready (rs := [5]) (by kernel_rfl) (by simp) ?_
        refine AllReady.cons rfl (fun K hK => ?_) ?_
        · rw [if_pos (by rfl)]
          refine wp_append_run _ _ 33 33 rfl _ _ _ (by rfl) (by rfl) r2 ?_
          refine hK _ _ ?_
          clear hK K
          go_simp
          refine wpAny_take (i := 6) (v := ?v5) rfl (by kernel_rfl) (by kernel_rfl) (by kernel_rfl) (fun _ _ _ h => h) (Or.inl ⟨by rfl, ?h5⟩) ?_
          case h5 => (intro w; go_simp; try (with_reducible rfl))
          go_simp
          refine wpAny_done (by kernel_rfl) ?_ _
          clear dx0 dx1 dx2 dx3 dx4 cx0 r1' r2
          go_wp2_with fail
          refine (decode_no (some ⟨g, 0, none⟩) k c (Z.take k) W2 HYc.out (by omega) HCk.out).mono ?_
          rintro e w5 ⟨rfl, b5⟩
          have HB5 : Hid (Below w.heap.size w w5) := HBW2.out.trans (b5.mono HBW2.out.size)
          have HYb := hid (bytes_kept HYb.out b5)
          have HYc := hid (bytes_kept HYc.out b5)
          have HYL := hid (bytes_kept HYL.out b5)
          have KW2 := hid (Boxed2.later KW2.out b5)
          clear b5 HBW2 kx1
          go_wp2_with fail
          refine (HLong.out w5 aL cL HYL.out).mono ?_
          rintro e w6 ⟨⟨S6, v6, rfl⟩, b6⟩
          have HB6 : Hid (Below w.heap.size w w6) := HB5.out.trans (b6.mono HB5.out.size)
          have HYb := hid (bytes_kept HYb.out b6)
          have HYc := hid (bytes_kept HYc.out b6)
          have KW2 := hid (Boxed2.later KW2.out b6)
          clear b6 HB5 HLong
          go_wp2_with fail
          refine (renumber_any (some ⟨g, 0, none⟩) k c (Z.take k) s w6 HYc.out (by omega) hs).mono ?_
          rw [HRk.out]
          rintro e w7 ⟨v7, rfl, _, b7⟩
          have HB7 : Hid (Below w.heap.size w w7) := HB6.out.trans (b7.mono HB6.out.size)
          have HYb := hid (bytes_kept HYb.out b7)
          have HYc := hid (bytes_kept HYc.out b7)
          have KW2 := hid (Boxed2.later KW2.out b7)
          clear b7 HB6
          go_wp2_with fail
          refine (join_any (some ⟨g, 0, none⟩) N c Z (some ⟨g, 0, none⟩) k c (Z.take k) w7 HYb.out (by omega) HYc.out (by omega)).mono ?_
          rw [HJk.out]
          rintro e w8 ⟨v8, rfl, _, b8⟩
          have HB8 : Hid (Below w.heap.size w w8) := HB7.out.trans (b8.mono HB7.out.size)
          have kx8 : w8.cell? ⟨gx, 1, none⟩ = some (.slice b lenb capb) := bcell (Boxed2.later KW2.out b8) 1
          clear b8 HB7
          go_wp2_with fail
          go_ret
          exact ⟨rfl, HB8.out⟩
        exact AllReady.nil
      exact AllReady.nil
    exact AllReady.nil
  exact AllReady.nil
theorem walk (s : Int) (a : Option Addr) (len cap : Nat) (xs : List O) (x : Int) (b : Option Addr) (lenb capb : Nat) (us : List Int) (w : World) (hs : 0 ≤ s ∧ s ≤ 18446744073709551615) (H : Ops w a len cap xs) (hl : len ≤ 140737488351232 / 40) (hx : -9223372036854775808 ≤ x ∧ x ≤ 9223372036854775807) (H2 : Bytes w b lenb capb us) (hl2 : capb ≤ 140737488351232) :
    Calls Try.prog 5 #[.int .u64 s, .slice a len cap, .agg #[.int .i64 x, .slice b lenb capb]] w fun e w' => e = .returned (.bool true) ∧ Below w.heap.size w w' := by
  by_cases h : encE s xs = 0
  · exact walk_ok s a len cap xs x b lenb capb us w hs H hl hx H2 hl2 h _ rfl
  · exact walk_no s a len cap xs x b lenb capb us w hs H hl hx H2 hl2 h

theorem own : ownKnob Try.prog.godebug = none := by kernel_rfl
theorem laidOut : laidOutB Try.prog = true := by kernel_rfl
theorem u64_bd {v : Int} (h : (Lit.int .u64 v).wf = true) : 0 ≤ v ∧ v ≤ 18446744073709551615 := by
  simpa [Lit.wf, IntKind.min, IntKind.max, IntKind.signed, IntKind.bits] using h
theorem i64_bd {v : Int} (h : (Lit.int .i64 v).wf = true) : -9223372036854775808 ≤ v ∧ v ≤ 9223372036854775807 := by
  simpa [Lit.wf, IntKind.min, IntKind.max, IntKind.signed, IntKind.bits] using h

/-! ### The row's step -/
set_option maxRecDepth 100000 in
theorem lifted (os : Os) (started : os.Started) (H : Type) (enc : TypeId × Value → H) :
    ReturnsInHanded {} Try.checked os 5 .any (Rows.batchWholeSpec.pre6 enc Try.prog Try.f5 Rows.batchWholeRow.domain false) (Rows.batchWholeSpec.post enc Try.prog Try.f5 false true false false) := by
  refine returnsInHanded_of_change_sized (C := Try.checked) own started (by kernel_rfl) Try.func5
    (ChangeSpec.witness6 (enc := enc) (C := Try.checked) false ⟨#[], #[.int .u64 0, .slice none 0 0, .agg #[.int .i64 0, .slice none 0 0]], []⟩ 8 (by kernel_rfl) (by kernel_rfl) (by kernel_rfl) (by kernel_rfl)) ?_
  intro W base args ds gs before hval0 hW hcnd hsz0 _
  have hval : ∀ (j : Nat) t v, Try.f5.params[j]? = some t → args[j]? = some v → Value.okWide Try.prog W .any base t v := hval0
  have hsz : (DataW.weightsEach Try.prog (Try.f5.params.toList ++ Rows.batchWholeSpec.plain.varTypes Try.prog) (ds ++ gs)).all (· ≤ reachBytes) = true := hsz0
  have hW' := hW
  obtain ⟨p, q, hA0, hV, rfl, hfz, hnd⟩ := hW
  have hA : DataW.TrodAll enc Try.prog W 0 (fun _ => true) true Try.f5.params.toList args.toList ds p := hA0
  rw [Try.params5] at hA hval hsz
  obtain ⟨v0, vs0, d0, ds0, p0, q0, hargs, rfl, rfl, h0, r0⟩ := trodAll_cons hA
  obtain ⟨v1, vs1, d1, ds1, p1, q1, rfl, rfl, rfl, h1, r1⟩ := trodAll_cons r0
  obtain ⟨v2, vs2, d2, ds2, p2, q2, rfl, rfl, rfl, h2, r2⟩ := trodAll_cons r1
  obtain ⟨rfl, rfl, rfl⟩ := trodAll_nil r2
  obtain rfl : args = #[v0, v1, v2] := by cases args; simp_all
  obtain ⟨rfl, rfl⟩ := trodVars_none hV
  obtain ⟨a0, rfl, rfl, rfl, w0⟩ := open_int Try.underlying28 (hval 0 28 v0 rfl rfl) h0
  obtain ⟨a1, len1, cap1, rfl⟩ := okWide_slice Try.underlying26 (hval 1 26 v1 rfl rfl)
  have k1 := h1
  have lt1 : ∀ x ∈ p1, x.block < W.heap.size := by obtain ⟨m, hm⟩ := k1; exact DataW.trod_lt m _ _ _ hm
  obtain ⟨z1, w1, c1⟩ : ∃ zs, Ob.Ops W a1 len1 cap1 zs ∧ len1 ≤ 140737488351232 / 40 := by
    obtain ⟨fuel, hf⟩ := h1
    obtain ⟨⟨zs, hz⟩, hd⟩ := Ob.open_ops (by simpa [Value.cells] using hf)
    refine ⟨zs, hz, ?_⟩
    rcases hd with ⟨rfl, rfl⟩ | ⟨l, r, hd, hll⟩
    · omega
    · have sz := sized_slice hsz (j := 1) (t := 26) (e := 60) rfl (by simp only [List.cons_append, List.getElem?_cons_succ, List.getElem?_cons_zero]; rw [show d1 = _ from hd]) Try.underlying26
      rw [show Try.prog.bytesOf 60 = 40 from by kernel_rfl] at sz
      simp only [reachBytes] at sz
      omega
  have k2 := h2
  have lt2 : ∀ x ∈ p2, x.block < W.heap.size := by obtain ⟨m, hm⟩ := k2; exact DataW.trod_lt m _ _ _ hm
  have hws2 : ∀ m ∈ d2.weights Try.prog 51, m ≤ reachBytes := fun m hm => by
    have := List.all_eq_true.1 hsz m (DataW.weights_mem_each (j := 2) (t := 51) (d := d2) rfl rfl m hm)
    simpa using this
  obtain ⟨c20, c21, y20, y21, m2, rfl, hd2, hp2, hy20, hy21⟩ := open_agg2 Try.underlying51 (by kernel_rfl) (by kernel_rfl) (hval 2 51 v2 rfl rfl) h2
  obtain ⟨x20, e20, f20, w20⟩ := DataW.trod_int Try.underlying3 hy20
  simp only [List.cons.injEq, and_true] at e20
  subst e20
  obtain ⟨a21, l21, k21, x21, rfl, o21, b21⟩ := Am.open_bytesw hy21 (fun q hq => hws2 q (by rw [hd2]; simp only [DataW.weights, Try.underlying51]; exact DataW.weights_mem_each (j := 1) (d := y21.1) rfl rfl q hq))
  clear hA0 hval0
  refine (walk a0 a1 len1 cap1 z1 x20 a21 l21 k21 x21 W (u64_bd w0) w1 c1 (i64_bd w20) o21 b21).mono fun e W' ⟨he, bel⟩ => ?_
  subst he
  exact ⟨_, rfl, _, _, _, [], _, [], hW', trodAll_mk1 (shut_bool Try.underlying4 _), (trodAll_cons_mk (shut_int Try.underlying28 w0) (trodAll_cons_mk (Below.trod laidOut (by kernel_rfl) (of_decide_eq_true (by kernel_rfl)) k1 bel lt1) (trodAll_cons_mk (Below.trod laidOut (by kernel_rfl) (of_decide_eq_true (by kernel_rfl)) k2 bel lt2) trodAll_mk0))), rfl, bel.frame _, fun h => by cases h⟩

theorem over : Rows.batchWholeRow.holds Try.pinned (OpenSpec.ofChange Rows.batchWholeSpec) :=
  OpenClaim.holds_of_wide 5 Try.f5 rfl rfl rfl rfl rfl rfl rfl ⟨rfl, rfl, rfl, rfl, rfl⟩ rfl rfl rfl rfl rfl (by kernel_rfl) Try.func5 (by kernel_rfl)
    (of_decide_eq_true (by kernel_rfl)) (by unfold Func.isWrapper; first | (rw [if_pos (by decide +kernel)]; kernel_rfl) | (rw [if_neg (by decide +kernel)]; exact ⟨rfl, rfl⟩))
    (fun os started H enc _ => lifted os started H enc)
end Go.Proofs.Ytmceanfgcehfeab.batchWhole
namespace Go.Proofs.Ytmceanfgcehfeab
theorem batchWhole_holds : Rows.BatchWholeSaid := batchWhole.over
#print axioms batchWhole_holds
end Go.Proofs.Ytmceanfgcehfeab

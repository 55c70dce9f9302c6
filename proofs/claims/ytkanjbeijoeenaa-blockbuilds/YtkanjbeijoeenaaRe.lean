/- Encode and Decode by the document's definition. -/
import Derived.Test.YtkanjbeijoeenaaEb
import Derived.Test.YtkanjbeijoeenaaBd
import Derived.Test.YtkanjbeijoeenaaCr
import Derived.OrdersHeld
import Derived.Deep.RegionHeld
namespace Go.Proofs.Ytkanjbeijoeenaa.En
open Go.ChangeShapes Go.WideShapes Go.ChangeAt Go.RowKit
open Go.Proofs.Ytkanjbeijoeenaa.Kd (kindB sizeB seqB kind_true kind_false size_true size_false seq_true seq_false un0 un1 unE runpack_any)
open Go.Proofs.Ytkanjbeijoeenaa.By
open Go.Proofs.Ytkanjbeijoeenaa.Mr
set_option linter.unusedVariables false

theorem below_setCells (w : World) (g : Nat) : ∀ (vs : List Value) (o : Nat) (w' : World), Below g w w' → Below g w (w'.setCells g o vs)
  | [], _, _, h => h
  | v :: r, o, w', h => by
    rw [World.setCells]
    exact below_setCells w g r (o + 1) _ (h.setCell (Nat.le_refl _) v)

/-- append of bytes to a row that []byte of a text laid. -/
theorem app_mrow {W : World} {g cap : Nat} {xs : List Int} (M : Mrow W g cap xs) (hx : ∀ y ∈ xs, 0 ≤ y ∧ y ≤ 255) {a : Addr} {n c : Nat} {ys : List Int} (H : Bytes W (some a) n c ys) (hsz : xs.length + n ≤ 2048) (hcap : cap ≤ maxLen) :
    ∃ (g' c' : Nat) (W' : World), (Builtin.append_ #[28, 28] 28 #[.slice (some ⟨g, 0, none⟩) xs.length cap, .slice (some a) n c]).run Try.prog W = .ok (.slice (some ⟨g', 0, none⟩) (xs.length + n) c') W' ∧
      Bytes W' (some ⟨g', 0, none⟩) (xs.length + n) c' (xs ++ ys) ∧ Below g W W' ∧ g ≤ g' := by
  obtain ⟨i0, hi, hz0, hz1, hz2⟩ := info_parts info5
  have hyl : ys.length = n := H.1
  have hbytes : ∀ y ∈ xs ++ ys, 0 ≤ y ∧ y ≤ 255 := fun y hy => by
    rcases List.mem_append.1 hy with h | h
    · exact hx y h
    · exact H.2.2.2.1 y h
  have hsrc : Src Try.prog i0.size 28 (.slice (some a) n c) n (ys.map (Value.int .u8)) W := by
    rw [hz1]
    exact Src.ofSlice W Try.underlying28 a n c _ (by simp [hyl]) ((bytes_later H (Below.refl _ _)).2 a rfl) (one_cell ys)
  by_cases h : xs.length + n ≤ cap
  · have run := run_append_room_src (P := Try.prog) W 28 28 28 5 i0 Try.underlying28 hi g 0 xs.length cap _ n _ hsrc h
      (by intro j hj; rw [hz1]; simp at hj; exact M.there _ (by omega))
      (by intro j hj; rw [hz1]; simp at hj; exact M.frozen _ (by omega))
    rw [hz1] at run
    simp only [Nat.zero_add, Nat.mul_one] at run
    refine ⟨g, cap, _, run, ⟨by simp [hyl], h, fun e => by simp at e, hbytes, ?_⟩, below_setCells W g _ _ W (Below.refl _ _), Nat.le_refl _⟩
    intro x hx' i hi'
    simp at hx'
    subst hx'
    rw [addr_add, Nat.zero_add]
    by_cases hlt : i < xs.length
    · rw [World.cell?_setCells_out g _ _ _ _ (fun _ _ => Or.inl (by simpa using hlt)), M.cell i hlt]
      simp [List.getD_eq_getElem?_getD, List.getElem?_append, hlt]
    · obtain ⟨j, rfl⟩ : ∃ j, i = xs.length + j := ⟨i - xs.length, by omega⟩
      rw [World.cell?_setCells_in g _ _ _ (by intro k hk; simp at hk; exact M.there _ (by omega)) j (by simp; omega)]
      have hj : j < ys.length := by omega
      simp [List.getD_eq_getElem?_getD, hj]
  · have hold : (Builtin.firstCells i0.size xs.length (.slice (some ⟨g, 0, none⟩) xs.length cap)).run Try.prog W.drew = .ok (xs.map (Value.int .u8)).toArray W.drew := by
      rw [hz1]
      refine run_firstCells_some W.drew 1 xs.length _ xs.length cap _ (by simp) ?_
      intro j u hu
      rw [addr_add, Nat.zero_add]
      have hj : j < xs.length := by have := (List.getElem?_eq_some_iff.1 hu).1; simpa using this
      rw [List.getElem?_map, List.getElem?_eq_getElem hj] at hu
      simp at hu
      have := M.cell j hj
      rw [List.getD_eq_getElem?_getD, List.getElem?_eq_getElem hj] at this
      rw [← hu]
      exact this
    have run := run_append_grow_src (P := Try.prog) W 28 28 28 5 i0 (.int .u8 0) Try.underlying28 hi hz0 (some ⟨g, 0, none⟩) xs.length cap (xs.map (Value.int .u8)) hold _ n _ hsrc (by omega) (by omega) (by rw [hz2, Nat.mul_one]; have := nextslicecap_le (need := xs.length + n) (old := cap) (by omega); omega)
    have hge := grownCap_ge W (xs.length + n) cap 5
    refine ⟨_, _, _, run, ⟨by simp [hyl], hge, fun e => by simp at e, hbytes, ?_⟩, ⟨rfl, rfl, rfl, by simp, fun k hk => heap_alloc_old W.drew _ (Nat.lt_trans hk M.lt)⟩, Nat.le_of_lt M.lt⟩
    intro x hx' i hi'
    simp at hx'
    subst hx'
    rw [addr_add, Nat.zero_add]
    have hnew := heap_alloc_new W.drew (.cells ((xs.map (Value.int .u8) ++ ys.map (Value.int .u8)).toArray ++ Builtin.zeroCells (Value.int .u8 0).cells (grownCap W (xs.length + n) cap 5 - (xs.length + n))) 5)
    rw [show W.drew.heap.size = W.heap.size from rfl] at hnew
    simp only [World.cell?]
    rw [hnew]
    have hi2 : i < (xs ++ ys).length := by rw [List.length_append]; omega
    rw [← List.map_append]
    simp only [Option.isSome_none, Bool.false_eq_true, if_false]
    rw [Array.getElem?_append_left (by simp at hi2 ⊢; omega), List.getElem?_toArray, List.getElem?_map, List.getElem?_eq_getElem hi2, List.getD_eq_getElem?_getD, List.getElem?_eq_getElem hi2]
    rfl
/-- The struct that an internal key is boxed in. -/
def Box (g : Nat) (a : ByteArray) (s k : Int) (W : World) : Prop := W.cell? ⟨g, 0, none⟩ = some (.string a) ∧ W.cell? ⟨g, 1, none⟩ = some (.int .u64 s) ∧ W.cell? ⟨g, 2, none⟩ = some (.int .i64 k)
theorem Box.lt {g : Nat} {a : ByteArray} {s k : Int} {W : World} (h : Box g a s k W) : g < W.heap.size := block_lt_of_cell h.1
theorem hid {p : Prop} (h : p) : Hid p := h
theorem wp_append_run {P : Program} {w w' : World} {o : Oper} {a : Act} {K : Act → World → Prop} {Q : Exit → Act → World → Prop} (s x : Operand) (t tx : TypeId) (hop : o.op = Op.call { callee := Callee.builtin Builtin.append, args := #[s, x], argTypes := #[t, tx] })
    (u v v' : Value) (hs : a.eval s = u) (hx : a.eval x = v) (hrun : (Builtin.append_ #[t, tx] o.type #[u, v]).run P w = .ok v' w') (hK : K (a.put o.dst v') w') : o.wp P a w K Q := by
  unfold Oper.wp
  simp [execOp, hop, resolve, invoke, builtin, hs, hx, hrun, Result.andThen]
  exact hK
theorem S4 {g : Nat} {a : ByteArray} {s k : Int} (V W W4 : World) (hV : Box g a s k V) (hW : Box g a s k W) (b : Below V.heap.size W W4) : Box g a s k W4 := by
  have hlt := hV.lt
  exact ⟨(b.cell (p := ⟨g, 0, none⟩) hlt).trans hW.1, (b.cell (p := ⟨g, 1, none⟩) hlt).trans hW.2.1, (b.cell (p := ⟨g, 2, none⟩) hlt).trans hW.2.2⟩
theorem rencode_no (a : ByteArray) (s k : Int) (w : World) (ha : a.size ≤ maxLen) (h : vld a s k = false) :
    Calls Try.prog 30 #[.agg #[.string a, .int .u64 s, .int .i64 k]] w fun e w' => e = .returned (.tuple #[.slice none 0 0, .int .i64 2]) ∧ Below w.heap.size w w' := by
  have V : Cm.vld a s k = false := h
  have M : Hid (a.size ≤ maxLen) := ha
  clear h
  go_enter Try.func30, Try.ntmps30
  go_wp2_with fail
  refine (Cm.rvalid_any a s k _ M.out).mono ?_
  rw [V]
  rintro e w' ⟨rfl, b1⟩
  have HB : Hid (Below w.heap.size w w') := (one_below w _).trans (b1.mono (one_below w _).size)
  clear b1
  go_wp2_with fail
  go_ret2
  exact ⟨rfl, HB.out⟩

set_option maxHeartbeats 4000000 in
set_option maxRecDepth 100000 in
theorem rencode_yes (a : ByteArray) (s k : Int) (w : World) (ha : a.size ≤ maxLen) (hs : 0 ≤ s) (h : vld a s k = true) :
    Calls Try.prog 30 #[.agg #[.string a, .int .u64 s, .int .i64 k]] w fun e w' => ∃ g c, e = .returned (.tuple #[.slice (some ⟨g, 0, none⟩) (a.size + 8) c, .int .i64 0]) ∧ Bytes w' (some ⟨g, 0, none⟩) (a.size + 8) c (tx a ++ lb 8 (s * 256 + k)) ∧ w.heap.size ≤ g ∧ Below w.heap.size w w' := by
  have V : Cm.vld a s k = true := h
  have M : Hid (a.size ≤ maxLen) := ha
  obtain ⟨h1, h2, h3⟩ := vld_true h
  have hsz := size_true h1
  have hsq := seq_true h2
  have hk0 : 0 ≤ k := by have := kind_true h3; omega
  have hk1 : k ≤ 255 := by have := kind_true h3; omega
  obtain ⟨p, hp⟩ : ∃ p, p = s * 256 + k := ⟨_, rfl⟩
  have P : Hid (0 ≤ p ∧ p ≤ 18446744073709551615) := by show _ ∧ _; omega
  have WR : Hid (IntKind.u64.wrap (IntKind.u64.wrap (s * 256) + IntKind.u64.wrap k) = p) := by
    show _ = _
    rw [IntKind.wrap_u64, IntKind.wrap_u64, IntKind.wrap_u64]
    omega
  rw [← hp]
  clear hp
  have hsz2 : a.size ≤ 1024 := by omega
  obtain ⟨g, hg⟩ : ∃ g, g = w.heap.size := ⟨_, rfl⟩
  have HG : Hid (w.heap.size = g) := hg.symm
  obtain ⟨W0, hW0⟩ : ∃ W0, W0 = w.alloc (.cells #[.string a, .int .u64 s, .int .i64 k] 36) := ⟨_, rfl⟩
  have c1 : W0.cell? ⟨g, 0, none⟩ = some (.string a) := by rw [hW0, hg]; go_simp
  have c2 : W0.cell? ⟨g, 1, none⟩ = some (.int .u64 s) := by rw [hW0, hg]; go_simp
  have c3 : W0.cell? ⟨g, 2, none⟩ = some (.int .i64 k) := by rw [hW0, hg]; go_simp
  have HB0 : Hid (Below w.heap.size w W0) := by rw [hW0]; exact one_below w _
  have HW0 : Hid (w.alloc (.cells #[.string a, .int .u64 s, .int .i64 k] 36) = W0) := hW0.symm
  clear h h1 h2 h3 hg hW0 hsz ha
  go_enter Try.func30, Try.ntmps30
  go_wp2_with fail
  rw [HW0.out, HG.out]
  refine (Cm.rvalid_any a s k _ M.out).mono ?_
  rw [V]
  rintro e W ⟨rfl, b1⟩
  have HB : Hid (Below w.heap.size w W) := HB0.out.trans (b1.mono HB0.out.size)
  have hS0 : (Box g a s k) W := ⟨(b1.cell (block_lt_of_cell c1)).trans c1, (b1.cell (block_lt_of_cell c2)).trans c2, (b1.cell (block_lt_of_cell c3)).trans c3⟩
  have hS : (Box g a s k) W.drew := hS0
  clear b1 c1 c2 c3 HB0 HW0 V
  have HS0 : Hid ((Box g a s k) W) := hS0
  clear hS0
  go_wp2_with fail
  refine wp_region_held (S := (Box g a s k)) (by kernel_rfl) ?_
  change wpAnyH _ _ _ _ _ _ _ _ (World.drew _)
  refine wpAnyH_take (i := 0) (v := ?v1) rfl (by kernel_rfl) (by kernel_rfl) (by kernel_rfl) (fun _ _ _ h => h) (Or.inl ⟨by rfl, ?h1⟩) hS ?_
  case h1 => (intro w' hS'; obtain ⟨q1, q2, q3⟩ := hS'; go_simp; try (with_reducible rfl))
  go_simp
  refine wpAnyH_take (i := 1) (v := ?v2) rfl (by kernel_rfl) (by kernel_rfl) (by kernel_rfl) (fun _ _ _ h => h) (Or.inl ⟨by rfl, ?h2⟩) hS ?_
  case h2 => (intro w' hS'; obtain ⟨q1, q2, q3⟩ := hS'; go_simp; try (with_reducible rfl))
  go_simp
  refine wpAnyH_take (i := 3) (v := ?v3) rfl (by kernel_rfl) (by kernel_rfl) (by kernel_rfl) (fun _ _ _ h => h) (Or.inl ⟨by rfl, ?h3⟩) hS ?_
  case h3 => (intro w' hS'; obtain ⟨q1, q2, q3⟩ := hS'; go_simp; try (with_reducible rfl))
  go_simp
  refine wpAnyH_take (i := 4) (v := ?v4) rfl (by kernel_rfl) (by kernel_rfl) (by kernel_rfl) (fun _ _ _ h => h) (Or.inl ⟨by rfl, ?h4⟩) hS ?_
  case h4 => (intro w' hS'; obtain ⟨q1, q2, q3⟩ := hS'; go_simp; try (with_reducible rfl))
  go_simp
  refine wpAnyH_take (i := 5) (v := ?v5) rfl (by kernel_rfl) (by kernel_rfl) (by kernel_rfl) (fun _ _ _ h => h) (Or.inl ⟨by rfl, ?h5⟩) hS ?_
  case h5 => (intro w' hS'; obtain ⟨q1, q2, q3⟩ := hS'; go_simp; try (with_reducible rfl))
  go_simp
  refine wpAnyH_take (i := 6) (v := ?v6) rfl (by kernel_rfl) (by kernel_rfl) (by kernel_rfl) (fun _ _ _ h => h) (Or.inl ⟨by rfl, ?h6⟩) hS ?_
  case h6 => (intro w' hS'; obtain ⟨q1, q2, q3⟩ := hS'; go_simp; try (with_reducible rfl))
  go_simp
  refine wpAnyH_take (i := 7) (v := ?v7) rfl (by kernel_rfl) (by kernel_rfl) (by kernel_rfl) (fun _ _ _ h => h) (Or.inl ⟨by rfl, ?h7⟩) hS ?_
  case h7 => (intro w' hS'; obtain ⟨q1, q2, q3⟩ := hS'; go_simp; try (with_reducible rfl))
  go_simp
  refine wpAnyH_take (i := 8) (v := ?v8) rfl (by kernel_rfl) (by kernel_rfl) (by kernel_rfl) (fun _ _ _ h => h) (Or.inl ⟨by rfl, ?h8⟩) hS ?_
  case h8 => (intro w' hS'; obtain ⟨q1, q2, q3⟩ := hS'; go_simp; try (with_reducible rfl))
  go_simp
  refine wpAnyH_take (i := 9) (v := ?v9) rfl (by kernel_rfl) (by kernel_rfl) (by kernel_rfl) (fun _ _ _ h => h) (Or.inl ⟨by rfl, ?h9⟩) hS ?_
  case h9 => (intro w' hS'; obtain ⟨q1, q2, q3⟩ := hS'; go_simp; try (with_reducible rfl))
  go_simp
  refine wpAnyH_ready (rs := [2, 10]) (by kernel_rfl) (by simp) ?_
  refine AllReadyH.cons rfl (fun K hK => ?_) ?_
  · obtain ⟨W2, cap, run2, row2, b2, z2, c2⟩ := conv_bytes a W.drew M.out
    have row2 : Mrow W2 W.heap.size cap (tx a) := row2
    have b2 : Below W.heap.size W.drew W2 := b2
    clear z2
    have hS2 : (Box g a s k) W2 := ⟨(b2.cell (block_lt_of_cell hS.1)).trans hS.1, (b2.cell (block_lt_of_cell hS.2.1)).trans hS.2.1, (b2.cell (block_lt_of_cell hS.2.2)).trans hS.2.2⟩
    go_simp
    refine hK.out _ _ hS2 (fun _ => ?_)
    clear hK K
    refine wpAnyH_ready (rs := [10]) (by kernel_rfl) (by simp) ?_
    refine AllReadyH.cons rfl (fun K hK => ?_) ?_
    · go_simp
      go_wp2_with fail
      rw [WR.out]
      refine (rfix_any p 8 _ P.out (by omega)).mono ?_
      rintro e W3 ⟨g3, c3, rfl, R3, b3⟩
      have hS3 : (Box g a s k) W3 := ⟨(b3.cell (block_lt_of_cell hS2.1)).trans hS2.1, (b3.cell (block_lt_of_cell hS2.2.1)).trans hS2.2.1, (b3.cell (block_lt_of_cell hS2.2.2)).trans hS2.2.2⟩
      have row3 := row2.later b3
      have Y3 := R3.bytes (lb_bytes 8 _)
      obtain ⟨g4, c4, W4, run4, Y4, b4, l4⟩ := app_mrow row3 (tx_bytes a) Y3 (by rw [tx_len]; omega) c2
      rw [tx_len] at run4 Y4
      have FB : Hid (Below w.heap.size w W4) := by
        have h0 : Below w.heap.size w W.drew := HB.out.drew
        have h1 : Below w.heap.size w W2 := h0.trans (b2.mono h0.size)
        have h2 : Below w.heap.size w W3 := h1.trans (b3.mono h1.size)
        exact h2.trans (b4.mono h0.size)
      have FL : Hid (w.heap.size ≤ g4) := Nat.le_trans HB.out.size l4
      have FY : Hid (Bytes W4 (some ⟨g4, 0, none⟩) (a.size + 8) c4 (tx a ++ lb 8 p)) := Y4
      have hS4 : (Box g a s k) W4 := S4 W.drew W3 W4 hS hS3 b4
      clear Y4 b4 l4 row3 Y3 R3
      refine hK.out _ _ hS3 (fun _ => ?_)
      clear hK K
      refine wpAnyH_ready (rs := [11]) (by kernel_rfl) (by simp) ?_
      refine AllReadyH.cons rfl (fun K hK => ?_) ?_
      · rw [if_pos (by rfl)]
        refine wp_append_run _ _ 28 28 rfl _ _ _ (by rfl) (by rfl) run4 ?_
        refine hK.out _ _ hS4 (fun _ => ?_)
        clear hK K
        go_simp
        refine wpAnyH_take (i := 12) (v := ?v10) rfl (by kernel_rfl) (by kernel_rfl) (by kernel_rfl) (fun _ _ _ h => h) (Or.inl ⟨by rfl, ?h10⟩) hS4 ?_
        case h10 => (intro w' hS'; obtain ⟨q1, q2, q3⟩ := hS'; go_simp; try (with_reducible rfl))
        go_simp
        refine wpAnyH_take (i := 13) (v := ?v11) rfl (by kernel_rfl) (by kernel_rfl) (by kernel_rfl) (fun _ _ _ h => h) (Or.inl ⟨by rfl, ?h11⟩) hS4 ?_
        case h11 => (intro w' hS'; obtain ⟨q1, q2, q3⟩ := hS'; go_simp; try (with_reducible rfl))
        go_simp
        refine wpAnyH_done (by kernel_rfl) ?_ _
        go_wp2_with fail
        go_ret2
        exact ⟨g4, c4, rfl, FY.out, FL.out, FB.out⟩
      exact AllReadyH.nil
    exact AllReadyH.nil
  refine AllReadyH.cons rfl (fun K hK => ?_) ?_
  · go_simp
    go_wp2_with fail
    rw [WR.out]
    refine (rfix_any p 8 _ P.out (by omega)).mono ?_
    rintro e W3 ⟨g3, c3, rfl, R3, b3⟩
    have hS3 : (Box g a s k) W3 := ⟨(b3.cell (block_lt_of_cell hS.1)).trans hS.1, (b3.cell (block_lt_of_cell hS.2.1)).trans hS.2.1, (b3.cell (block_lt_of_cell hS.2.2)).trans hS.2.2⟩
    refine hK.out _ _ hS3 (fun _ => ?_)
    clear hK K
    refine wpAnyH_ready (rs := [2]) (by kernel_rfl) (by simp) ?_
    refine AllReadyH.cons rfl (fun K hK => ?_) ?_
    · obtain ⟨W2, cap, run2, row2, b2, z2, c2⟩ := conv_bytes a W3 M.out
      have hS2 : (Box g a s k) W2 := ⟨(b2.cell (block_lt_of_cell hS3.1)).trans hS3.1, (b2.cell (block_lt_of_cell hS3.2.1)).trans hS3.2.1, (b2.cell (block_lt_of_cell hS3.2.2)).trans hS3.2.2⟩
      have row3 := row2
      have Y3 := bytes_kept (R3.bytes (lb_bytes 8 _)) b2
      obtain ⟨g4, c4, W4, run4, Y4, b4, l4⟩ := app_mrow row3 (tx_bytes a) Y3 (by rw [tx_len]; omega) c2
      rw [tx_len] at run4 Y4
      go_simp
      have FB : Hid (Below w.heap.size w W4) := by
        have h0 : Below w.heap.size w W.drew := HB.out.drew
        have h1 : Below w.heap.size w W3 := h0.trans (b3.mono h0.size)
        have h2 : Below w.heap.size w W2 := h1.trans (b2.mono h1.size)
        exact h2.trans (b4.mono h1.size)
      have FL : Hid (w.heap.size ≤ g4) := Nat.le_trans (Nat.le_trans HB.out.size b3.size) l4
      have FY : Hid (Bytes W4 (some ⟨g4, 0, none⟩) (a.size + 8) c4 (tx a ++ lb 8 p)) := Y4
      have hS4 : (Box g a s k) W4 := S4 W3 W2 W4 hS3 hS2 b4
      clear Y4 b4 l4 row3 
      refine hK.out _ _ hS2 (fun _ => ?_)
      clear hK K
      refine wpAnyH_ready (rs := [11]) (by kernel_rfl) (by simp) ?_
      refine AllReadyH.cons rfl (fun K hK => ?_) ?_
      · rw [if_pos (by rfl)]
        refine wp_append_run _ _ 28 28 rfl _ _ _ (by rfl) (by rfl) run4 ?_
        refine hK.out _ _ hS4 (fun _ => ?_)
        clear hK K
        go_simp
        refine wpAnyH_take (i := 12) (v := ?v12) rfl (by kernel_rfl) (by kernel_rfl) (by kernel_rfl) (fun _ _ _ h => h) (Or.inl ⟨by rfl, ?h12⟩) hS4 ?_
        case h12 => (intro w' hS'; obtain ⟨q1, q2, q3⟩ := hS'; go_simp; try (with_reducible rfl))
        go_simp
        refine wpAnyH_take (i := 13) (v := ?v13) rfl (by kernel_rfl) (by kernel_rfl) (by kernel_rfl) (fun _ _ _ h => h) (Or.inl ⟨by rfl, ?h13⟩) hS4 ?_
        case h13 => (intro w' hS'; obtain ⟨q1, q2, q3⟩ := hS'; go_simp; try (with_reducible rfl))
        go_simp
        refine wpAnyH_done (by kernel_rfl) ?_ _
        go_wp2_with fail
        go_ret2
        exact ⟨g4, c4, rfl, FY.out, FL.out, FB.out⟩
      exact AllReadyH.nil
    exact AllReadyH.nil
  exact AllReadyH.nil

end Go.Proofs.Ytkanjbeijoeenaa.En

/- count and Add of a memtable. -/
import Derived.Test.YtefihoohdaegeaaPt
namespace Go.Proofs.Ytefihoohdaegeaa.Ad
open Go.ChangeShapes Go.WideShapes Go.ChangeAt Go.RowKit Go.Shelf
open Go.Sort (grow)
open Go.Proofs.Ytefihoohdaegeaa.Lx
open Go.Proofs.Ytefihoohdaegeaa.Tm (T zt vd ret_bool ret_int)
open Go.Proofs.Ytefihoohdaegeaa.Rw
open Go.Proofs.Ytefihoohdaegeaa.Es
open Go.Proofs.Ytefihoohdaegeaa.Fm
open Go.Proofs.Ytefihoohdaegeaa.Sa
open Go.Proofs.Ytefihoohdaegeaa.Sg
open Go.Proofs.Ytefihoohdaegeaa.In
open Go.Proofs.Ytefihoohdaegeaa.Tb
open Go.Proofs.Ytefihoohdaegeaa.Ck
open Go.Proofs.Ytefihoohdaegeaa.Pt
open Go.Proofs.Ytefihoohdaegeaa.Cm (ik)
open Go.Proofs.Ytefihoohdaegeaa.Mm (box_below)
open Go.Proofs.Ytefihoohdaegeaa.Tr (new_at cell_of Bx)
set_option linter.unusedVariables false
set_option linter.unusedSimpArgs false

set_option maxHeartbeats 2000000 in
set_option maxRecDepth 100000 in
theorem count_0 (g gl gs bm : Nat) (S : St) (q c : Int) (k v : ByteArray) (w : World) (H : Tc w g (S.cells gl gs bm)) (hk : k.size ≤ 1024) (hv : v.size ≤ 65536) (h0 : 0 ≤ S.sz) (h1 : S.sz ≤ 1000000000000000000) (hl : S.lo = 0) :
    Calls Try.prog 52 #[.pointer (some ⟨g, 0, none⟩), .int .u64 q, .agg #[.int .i64 c, .string k, .string v]] w fun e w' => e = .returned (.tuple #[]) ∧ Tc w' g (St.cells (St.count S q k v) gl gs bm) ∧ Fp (fun j => j = g) w w' := by
  obtain ⟨W0, hW0⟩ : ∃ W, W = w.alloc (.cells #[.int .i64 c, .string k, .string v] 32) := ⟨_, rfl⟩
  have B0 : Below w.heap.size w W0 := by rw [hW0]; exact box_below _ _
  obtain ⟨gt, hgt⟩ : ∃ n, n = w.heap.size := ⟨_, rfl⟩
  have kA : W0.heap[gt]? = some (.cells #[.int .i64 c, .string k, .string v] 32) := by rw [hW0, hgt]; exact new_at _ _
  obtain ⟨D, hD⟩ : ∃ D, D = World.drew W0 := ⟨_, rfl⟩
  have kD : D.heap[gt]? = some (.cells #[.int .i64 c, .string k, .string v] 32) := by rw [hD]; exact kA
  have BD : Below w.heap.size w D := by rw [hD]; exact B0.drew
  have HTD : Tc D g (S.cells gl gs bm) := (BD.block g H.lt).trans H
  have HS := hid (sizeof_any c k v D hk hv)
  have c5 : D.cell? ⟨g, 5, none⟩ = some (.int .i64 S.sz) := HTD.cell 5
  have t0 := cell_of kD 0 (.int .i64 c) rfl
  have t1 := cell_of kD 1 (.string k) rfl
  have t2 := cell_of kD 2 (.string v) rfl
  obtain ⟨L, hL⟩ : ∃ L : Int, L = 16 + (k.size : Int) + v.size := ⟨_, rfl⟩
  have hL0 : 0 ≤ L := by omega
  have hL1 : L ≤ 100000 := by omega
  rw [← hL] at HS
  have FIN : Hid (∀ w5, Tc w5 g (S.cells gl gs bm) → Fp (fun j => j = g) w w5 → Ending.returned (Value.tuple #[]) = .returned (.tuple #[]) ∧ Tc (((w5.setCell ⟨g, 5, none⟩ (.int .i64 (S.sz + L))).setCell ⟨g, 6, none⟩ (.int .u64 q)).setCell ⟨g, 7, none⟩ (.int .u64 (max S.hi q))) g (St.cells (St.count S q k v) gl gs bm) ∧ Fp (fun j => j = g) w (((w5.setCell ⟨g, 5, none⟩ (.int .i64 (S.sz + L))).setCell ⟨g, 6, none⟩ (.int .u64 q)).setCell ⟨g, 7, none⟩ (.int .u64 (max S.hi q)))) := by
    intro w5 T5 F5
    refine ⟨rfl, ?_, ((F5.set (.inl rfl) _ _).set (.inl rfl) _ _).set (.inl rfl) _ _⟩
    have := Tc.set (Tc.set (Tc.set T5 5 (.int .i64 (S.sz + L))) 6 (.int .u64 q)) 7 (.int .u64 (max S.hi q))
    unfold St.count
    rw [if_pos (.inl hl)]
    rw [← hL]
    exact this
  have hwr : wrap64 (S.sz + L) = S.sz + L := by unfold wrap64; omega
  replace hW0 := hid hW0
  replace hgt := hid hgt
  replace hD := hid hD
  replace hL := hid hL
  replace BD := hid BD
  replace HTD := hid HTD
  clear B0 kA kD H hk hv
  go_enter Try.func52, Try.ntmps52
  go_wp2_with fail
  rw [← hW0.out, ← hgt.out]
  refine wp_region_any (by kernel_rfl) ?_
  change wpAny _ _ _ _ _ _ _ (World.drew _)
  rw [← hD.out]
  refine wpAny_take (i := 0) (v := ?v1) rfl (by kernel_rfl) (by kernel_rfl) (by kernel_rfl) (fun _ _ _ h => h) (Or.inl ⟨by rfl, ?h1⟩) ?_
  case h1 => (intro w; go_simp; try (with_reducible rfl))
  go_simp
  refine wpAny_take (i := 1) (v := ?v2) rfl (by kernel_rfl) (by kernel_rfl) (by kernel_rfl) (fun _ _ _ h => h) (Or.inl ⟨by rfl, ?h2⟩) ?_
  case h2 => (intro w; go_simp; try (with_reducible rfl))
  go_simp
  refine wpAny_take (i := 2) (v := ?v3) rfl (by kernel_rfl) (by kernel_rfl) (by kernel_rfl) (fun _ _ _ h => h) (Or.inl ⟨by rfl, ?h3⟩) ?_
  case h3 => (intro w; go_simp; try (with_reducible rfl))
  go_simp
  refine wpAny_ready (rs := [3, 4]) (by kernel_rfl) (by simp) ?_
  refine AllReady.cons rfl (fun K hK => ?_) ?_
  · go_simp
    refine hK _ _ ?_
    clear hK K
    refine wpAny_ready (rs := [4]) (by kernel_rfl) (by simp) ?_
    refine AllReady.cons rfl (fun K hK => ?_) ?_
    · go_simp
      refine hK _ _ ?_
      clear hK K
      refine wpAny_ready (rs := [5]) (by kernel_rfl) (by simp) ?_
      refine AllReady.cons rfl (fun K hK => ?_) ?_
      · go_simp
        go_wp2_with fail
        refine HS.out.mono ?_
        rintro e w5 ⟨rfl, b5⟩
        have T5 := hid ((b5.block g HTD.out.lt).trans HTD.out)
        have F5 := hid ((Fp.of (P := fun j => j = g) BD.out).below b5)
        have x5 : w5.cell? ⟨g, 5, none⟩ = some (.int .i64 S.sz) := Tc.cell T5.out 5
        have x6 : w5.cell? ⟨g, 6, none⟩ = some (.int .u64 S.lo) := Tc.cell T5.out 6
        have x7 : w5.cell? ⟨g, 7, none⟩ = some (.int .u64 S.hi) := Tc.cell T5.out 7
        have f5 := Tc.fz T5.out 5
        have f6 := Tc.fz T5.out 6
        have f7 := Tc.fz T5.out 7
        clear b5
        go_wp2_with fail
        refine wpAny_take (i := 6) (v := ?v4) rfl (by kernel_rfl) (by kernel_rfl) (by kernel_rfl) (fun _ _ _ h => h) (Or.inl ⟨by rfl, ?h4⟩) ?_
        case h4 => (intro w; go_simp; try (with_reducible rfl))
        go_simp
        refine wpAny_take (i := 7) (v := ?v5) rfl (by kernel_rfl) (by kernel_rfl) (by kernel_rfl) (fun _ _ _ h => h) (Or.inl ⟨by rfl, ?h5⟩) ?_
        case h5 => (intro w; go_simp; try (with_reducible rfl))
        go_simp
        refine wpAny_take (i := 8) (v := ?v6) rfl (by kernel_rfl) (by kernel_rfl) (by kernel_rfl) (fun _ _ _ h => h) (Or.inl ⟨by rfl, ?h6⟩) ?_
        case h6 => (intro w; go_simp; try (with_reducible rfl))
        go_simp
        refine wpAny_ready (rs := [9]) (by kernel_rfl) (by simp) ?_
        refine AllReady.cons rfl (fun K hK => ?_) ?_
        · go_simp
          refine hK _ _ ?_
          clear hK K
          refine wpAny_done (by kernel_rfl) ?_ _
          go_wp2_with fail
          go_end0
          exact ⟨rfl, (FIN.out _ T5.out F5.out).2⟩
        exact AllReady.nil
      exact AllReady.nil
    exact AllReady.nil
  refine AllReady.cons rfl (fun K hK => ?_) ?_
  · go_simp
    refine hK _ _ ?_
    clear hK K
    refine wpAny_ready (rs := [3, 5]) (by kernel_rfl) (by simp) ?_
    refine AllReady.cons rfl (fun K hK => ?_) ?_
    · go_simp
      refine hK _ _ ?_
      clear hK K
      refine wpAny_ready (rs := [5]) (by kernel_rfl) (by simp) ?_
      refine AllReady.cons rfl (fun K hK => ?_) ?_
      · go_simp
        go_wp2_with fail
        refine HS.out.mono ?_
        rintro e w5 ⟨rfl, b5⟩
        have T5 := hid ((b5.block g HTD.out.lt).trans HTD.out)
        have F5 := hid ((Fp.of (P := fun j => j = g) BD.out).below b5)
        have x5 : w5.cell? ⟨g, 5, none⟩ = some (.int .i64 S.sz) := Tc.cell T5.out 5
        have x6 : w5.cell? ⟨g, 6, none⟩ = some (.int .u64 S.lo) := Tc.cell T5.out 6
        have x7 : w5.cell? ⟨g, 7, none⟩ = some (.int .u64 S.hi) := Tc.cell T5.out 7
        have f5 := Tc.fz T5.out 5
        have f6 := Tc.fz T5.out 6
        have f7 := Tc.fz T5.out 7
        clear b5
        go_wp2_with fail
        refine wpAny_take (i := 6) (v := ?v7) rfl (by kernel_rfl) (by kernel_rfl) (by kernel_rfl) (fun _ _ _ h => h) (Or.inl ⟨by rfl, ?h7⟩) ?_
        case h7 => (intro w; go_simp; try (with_reducible rfl))
        go_simp
        refine wpAny_take (i := 7) (v := ?v8) rfl (by kernel_rfl) (by kernel_rfl) (by kernel_rfl) (fun _ _ _ h => h) (Or.inl ⟨by rfl, ?h8⟩) ?_
        case h8 => (intro w; go_simp; try (with_reducible rfl))
        go_simp
        refine wpAny_take (i := 8) (v := ?v9) rfl (by kernel_rfl) (by kernel_rfl) (by kernel_rfl) (fun _ _ _ h => h) (Or.inl ⟨by rfl, ?h9⟩) ?_
        case h9 => (intro w; go_simp; try (with_reducible rfl))
        go_simp
        refine wpAny_ready (rs := [9]) (by kernel_rfl) (by simp) ?_
        refine AllReady.cons rfl (fun K hK => ?_) ?_
        · go_simp
          refine hK _ _ ?_
          clear hK K
          refine wpAny_done (by kernel_rfl) ?_ _
          go_wp2_with fail
          go_end0
          exact ⟨rfl, (FIN.out _ T5.out F5.out).2⟩
        exact AllReady.nil
      exact AllReady.nil
    refine AllReady.cons rfl (fun K hK => ?_) ?_
    · go_simp
      go_wp2_with fail
      refine HS.out.mono ?_
      rintro e w5 ⟨rfl, b5⟩
      have T5 := hid ((b5.block g HTD.out.lt).trans HTD.out)
      have F5 := hid ((Fp.of (P := fun j => j = g) BD.out).below b5)
      have x5 : w5.cell? ⟨g, 5, none⟩ = some (.int .i64 S.sz) := Tc.cell T5.out 5
      have x6 : w5.cell? ⟨g, 6, none⟩ = some (.int .u64 S.lo) := Tc.cell T5.out 6
      have x7 : w5.cell? ⟨g, 7, none⟩ = some (.int .u64 S.hi) := Tc.cell T5.out 7
      have f5 := Tc.fz T5.out 5
      have f6 := Tc.fz T5.out 6
      have f7 := Tc.fz T5.out 7
      clear b5
      go_wp2_with fail
      refine wpAny_ready (rs := [3]) (by kernel_rfl) (by simp) ?_
      refine AllReady.cons rfl (fun K hK => ?_) ?_
      · go_simp
        refine hK _ _ ?_
        clear hK K
        refine wpAny_take (i := 6) (v := ?v10) rfl (by kernel_rfl) (by kernel_rfl) (by kernel_rfl) (fun _ _ _ h => h) (Or.inl ⟨by rfl, ?h10⟩) ?_
        case h10 => (intro w; go_simp; try (with_reducible rfl))
        go_simp
        refine wpAny_take (i := 7) (v := ?v11) rfl (by kernel_rfl) (by kernel_rfl) (by kernel_rfl) (fun _ _ _ h => h) (Or.inl ⟨by rfl, ?h11⟩) ?_
        case h11 => (intro w; go_simp; try (with_reducible rfl))
        go_simp
        refine wpAny_take (i := 8) (v := ?v12) rfl (by kernel_rfl) (by kernel_rfl) (by kernel_rfl) (fun _ _ _ h => h) (Or.inl ⟨by rfl, ?h12⟩) ?_
        case h12 => (intro w; go_simp; try (with_reducible rfl))
        go_simp
        refine wpAny_ready (rs := [9]) (by kernel_rfl) (by simp) ?_
        refine AllReady.cons rfl (fun K hK => ?_) ?_
        · go_simp
          refine hK _ _ ?_
          clear hK K
          refine wpAny_done (by kernel_rfl) ?_ _
          go_wp2_with fail
          go_end0
          exact ⟨rfl, (FIN.out _ T5.out F5.out).2⟩
        exact AllReady.nil
      exact AllReady.nil
    exact AllReady.nil
  exact AllReady.nil

set_option maxHeartbeats 2000000 in
set_option maxRecDepth 100000 in
theorem count_1 (g gl gs bm : Nat) (S : St) (q c : Int) (k v : ByteArray) (w : World) (H : Tc w g (S.cells gl gs bm)) (hk : k.size ≤ 1024) (hv : v.size ≤ 65536) (h0 : 0 ≤ S.sz) (h1 : S.sz ≤ 1000000000000000000) (hl : S.lo ≠ 0) (hl' : (S.lo == 0) = false) (hq : q < S.lo) :
    Calls Try.prog 52 #[.pointer (some ⟨g, 0, none⟩), .int .u64 q, .agg #[.int .i64 c, .string k, .string v]] w fun e w' => e = .returned (.tuple #[]) ∧ Tc w' g (St.cells (St.count S q k v) gl gs bm) ∧ Fp (fun j => j = g) w w' := by
  obtain ⟨W0, hW0⟩ : ∃ W, W = w.alloc (.cells #[.int .i64 c, .string k, .string v] 32) := ⟨_, rfl⟩
  have B0 : Below w.heap.size w W0 := by rw [hW0]; exact box_below _ _
  obtain ⟨gt, hgt⟩ : ∃ n, n = w.heap.size := ⟨_, rfl⟩
  have kA : W0.heap[gt]? = some (.cells #[.int .i64 c, .string k, .string v] 32) := by rw [hW0, hgt]; exact new_at _ _
  obtain ⟨D, hD⟩ : ∃ D, D = World.drew W0 := ⟨_, rfl⟩
  have kD : D.heap[gt]? = some (.cells #[.int .i64 c, .string k, .string v] 32) := by rw [hD]; exact kA
  have BD : Below w.heap.size w D := by rw [hD]; exact B0.drew
  have HTD : Tc D g (S.cells gl gs bm) := (BD.block g H.lt).trans H
  have HS := hid (sizeof_any c k v D hk hv)
  have c5 : D.cell? ⟨g, 5, none⟩ = some (.int .i64 S.sz) := HTD.cell 5
  have t0 := cell_of kD 0 (.int .i64 c) rfl
  have t1 := cell_of kD 1 (.string k) rfl
  have t2 := cell_of kD 2 (.string v) rfl
  obtain ⟨L, hL⟩ : ∃ L : Int, L = 16 + (k.size : Int) + v.size := ⟨_, rfl⟩
  have hL0 : 0 ≤ L := by omega
  have hL1 : L ≤ 100000 := by omega
  rw [← hL] at HS
  have FIN : Hid (∀ w5, Tc w5 g (S.cells gl gs bm) → Fp (fun j => j = g) w w5 → Ending.returned (Value.tuple #[]) = .returned (.tuple #[]) ∧ Tc (((w5.setCell ⟨g, 5, none⟩ (.int .i64 (S.sz + L))).setCell ⟨g, 6, none⟩ (.int .u64 q)).setCell ⟨g, 7, none⟩ (.int .u64 (max S.hi q))) g (St.cells (St.count S q k v) gl gs bm) ∧ Fp (fun j => j = g) w (((w5.setCell ⟨g, 5, none⟩ (.int .i64 (S.sz + L))).setCell ⟨g, 6, none⟩ (.int .u64 q)).setCell ⟨g, 7, none⟩ (.int .u64 (max S.hi q)))) := by
    intro w5 T5 F5
    refine ⟨rfl, ?_, ((F5.set (.inl rfl) _ _).set (.inl rfl) _ _).set (.inl rfl) _ _⟩
    have := Tc.set (Tc.set (Tc.set T5 5 (.int .i64 (S.sz + L))) 6 (.int .u64 q)) 7 (.int .u64 (max S.hi q))
    unfold St.count
    rw [if_pos (.inr hq)]
    rw [← hL]
    exact this
  have hwr : wrap64 (S.sz + L) = S.sz + L := by unfold wrap64; omega
  replace hW0 := hid hW0
  replace hgt := hid hgt
  replace hD := hid hD
  replace hL := hid hL
  replace BD := hid BD
  replace HTD := hid HTD
  clear B0 kA kD H hk hv
  go_enter Try.func52, Try.ntmps52
  go_wp2_with fail
  rw [← hW0.out, ← hgt.out]
  refine wp_region_any (by kernel_rfl) ?_
  change wpAny _ _ _ _ _ _ _ (World.drew _)
  rw [← hD.out]
  refine wpAny_take (i := 0) (v := ?v13) rfl (by kernel_rfl) (by kernel_rfl) (by kernel_rfl) (fun _ _ _ h => h) (Or.inl ⟨by rfl, ?h13⟩) ?_
  case h13 => (intro w; go_simp; try (with_reducible rfl))
  go_simp
  refine wpAny_take (i := 1) (v := ?v14) rfl (by kernel_rfl) (by kernel_rfl) (by kernel_rfl) (fun _ _ _ h => h) (Or.inl ⟨by rfl, ?h14⟩) ?_
  case h14 => (intro w; go_simp; try (with_reducible rfl))
  go_simp
  refine wpAny_take (i := 2) (v := ?v15) rfl (by kernel_rfl) (by kernel_rfl) (by kernel_rfl) (fun _ _ _ h => h) (Or.inl ⟨by rfl, ?h15⟩) ?_
  case h15 => (intro w; go_simp; try (with_reducible rfl))
  go_simp
  refine wpAny_ready (rs := [3, 4]) (by kernel_rfl) (by simp) ?_
  refine AllReady.cons rfl (fun K hK => ?_) ?_
  · go_simp
    refine hK _ _ ?_
    clear hK K
    refine wpAny_ready (rs := [4]) (by kernel_rfl) (by simp) ?_
    refine AllReady.cons rfl (fun K hK => ?_) ?_
    · go_simp
      refine hK _ _ ?_
      clear hK K
      refine wpAny_ready (rs := [5]) (by kernel_rfl) (by simp) ?_
      refine AllReady.cons rfl (fun K hK => ?_) ?_
      · go_simp
        go_wp2_with fail
        refine HS.out.mono ?_
        rintro e w5 ⟨rfl, b5⟩
        have T5 := hid ((b5.block g HTD.out.lt).trans HTD.out)
        have F5 := hid ((Fp.of (P := fun j => j = g) BD.out).below b5)
        have x5 : w5.cell? ⟨g, 5, none⟩ = some (.int .i64 S.sz) := Tc.cell T5.out 5
        have x6 : w5.cell? ⟨g, 6, none⟩ = some (.int .u64 S.lo) := Tc.cell T5.out 6
        have x7 : w5.cell? ⟨g, 7, none⟩ = some (.int .u64 S.hi) := Tc.cell T5.out 7
        have f5 := Tc.fz T5.out 5
        have f6 := Tc.fz T5.out 6
        have f7 := Tc.fz T5.out 7
        clear b5
        go_wp2_with fail
        refine wpAny_take (i := 6) (v := ?v16) rfl (by kernel_rfl) (by kernel_rfl) (by kernel_rfl) (fun _ _ _ h => h) (Or.inl ⟨by rfl, ?h16⟩) ?_
        case h16 => (intro w; go_simp; try (with_reducible rfl))
        go_simp
        refine wpAny_take (i := 7) (v := ?v17) rfl (by kernel_rfl) (by kernel_rfl) (by kernel_rfl) (fun _ _ _ h => h) (Or.inl ⟨by rfl, ?h17⟩) ?_
        case h17 => (intro w; go_simp; try (with_reducible rfl))
        go_simp
        refine wpAny_take (i := 8) (v := ?v18) rfl (by kernel_rfl) (by kernel_rfl) (by kernel_rfl) (fun _ _ _ h => h) (Or.inl ⟨by rfl, ?h18⟩) ?_
        case h18 => (intro w; go_simp; try (with_reducible rfl))
        go_simp
        refine wpAny_ready (rs := [9]) (by kernel_rfl) (by simp) ?_
        refine AllReady.cons rfl (fun K hK => ?_) ?_
        · go_simp
          refine hK _ _ ?_
          clear hK K
          refine wpAny_done (by kernel_rfl) ?_ _
          go_wp2_with fail
          go_end0
          exact ⟨rfl, (FIN.out _ T5.out F5.out).2⟩
        exact AllReady.nil
      exact AllReady.nil
    exact AllReady.nil
  refine AllReady.cons rfl (fun K hK => ?_) ?_
  · go_simp
    refine hK _ _ ?_
    clear hK K
    refine wpAny_ready (rs := [3, 5]) (by kernel_rfl) (by simp) ?_
    refine AllReady.cons rfl (fun K hK => ?_) ?_
    · go_simp
      refine hK _ _ ?_
      clear hK K
      refine wpAny_ready (rs := [5]) (by kernel_rfl) (by simp) ?_
      refine AllReady.cons rfl (fun K hK => ?_) ?_
      · go_simp
        go_wp2_with fail
        refine HS.out.mono ?_
        rintro e w5 ⟨rfl, b5⟩
        have T5 := hid ((b5.block g HTD.out.lt).trans HTD.out)
        have F5 := hid ((Fp.of (P := fun j => j = g) BD.out).below b5)
        have x5 : w5.cell? ⟨g, 5, none⟩ = some (.int .i64 S.sz) := Tc.cell T5.out 5
        have x6 : w5.cell? ⟨g, 6, none⟩ = some (.int .u64 S.lo) := Tc.cell T5.out 6
        have x7 : w5.cell? ⟨g, 7, none⟩ = some (.int .u64 S.hi) := Tc.cell T5.out 7
        have f5 := Tc.fz T5.out 5
        have f6 := Tc.fz T5.out 6
        have f7 := Tc.fz T5.out 7
        clear b5
        go_wp2_with fail
        refine wpAny_take (i := 6) (v := ?v19) rfl (by kernel_rfl) (by kernel_rfl) (by kernel_rfl) (fun _ _ _ h => h) (Or.inl ⟨by rfl, ?h19⟩) ?_
        case h19 => (intro w; go_simp; try (with_reducible rfl))
        go_simp
        refine wpAny_take (i := 7) (v := ?v20) rfl (by kernel_rfl) (by kernel_rfl) (by kernel_rfl) (fun _ _ _ h => h) (Or.inl ⟨by rfl, ?h20⟩) ?_
        case h20 => (intro w; go_simp; try (with_reducible rfl))
        go_simp
        refine wpAny_take (i := 8) (v := ?v21) rfl (by kernel_rfl) (by kernel_rfl) (by kernel_rfl) (fun _ _ _ h => h) (Or.inl ⟨by rfl, ?h21⟩) ?_
        case h21 => (intro w; go_simp; try (with_reducible rfl))
        go_simp
        refine wpAny_ready (rs := [9]) (by kernel_rfl) (by simp) ?_
        refine AllReady.cons rfl (fun K hK => ?_) ?_
        · go_simp
          refine hK _ _ ?_
          clear hK K
          refine wpAny_done (by kernel_rfl) ?_ _
          go_wp2_with fail
          go_end0
          exact ⟨rfl, (FIN.out _ T5.out F5.out).2⟩
        exact AllReady.nil
      exact AllReady.nil
    refine AllReady.cons rfl (fun K hK => ?_) ?_
    · go_simp
      go_wp2_with fail
      refine HS.out.mono ?_
      rintro e w5 ⟨rfl, b5⟩
      have T5 := hid ((b5.block g HTD.out.lt).trans HTD.out)
      have F5 := hid ((Fp.of (P := fun j => j = g) BD.out).below b5)
      have x5 : w5.cell? ⟨g, 5, none⟩ = some (.int .i64 S.sz) := Tc.cell T5.out 5
      have x6 : w5.cell? ⟨g, 6, none⟩ = some (.int .u64 S.lo) := Tc.cell T5.out 6
      have x7 : w5.cell? ⟨g, 7, none⟩ = some (.int .u64 S.hi) := Tc.cell T5.out 7
      have f5 := Tc.fz T5.out 5
      have f6 := Tc.fz T5.out 6
      have f7 := Tc.fz T5.out 7
      clear b5
      go_wp2_with fail
      refine wpAny_ready (rs := [3]) (by kernel_rfl) (by simp) ?_
      refine AllReady.cons rfl (fun K hK => ?_) ?_
      · go_simp
        refine hK _ _ ?_
        clear hK K
        refine wpAny_take (i := 6) (v := ?v22) rfl (by kernel_rfl) (by kernel_rfl) (by kernel_rfl) (fun _ _ _ h => h) (Or.inl ⟨by rfl, ?h22⟩) ?_
        case h22 => (intro w; go_simp; try (with_reducible rfl))
        go_simp
        refine wpAny_take (i := 7) (v := ?v23) rfl (by kernel_rfl) (by kernel_rfl) (by kernel_rfl) (fun _ _ _ h => h) (Or.inl ⟨by rfl, ?h23⟩) ?_
        case h23 => (intro w; go_simp; try (with_reducible rfl))
        go_simp
        refine wpAny_take (i := 8) (v := ?v24) rfl (by kernel_rfl) (by kernel_rfl) (by kernel_rfl) (fun _ _ _ h => h) (Or.inl ⟨by rfl, ?h24⟩) ?_
        case h24 => (intro w; go_simp; try (with_reducible rfl))
        go_simp
        refine wpAny_ready (rs := [9]) (by kernel_rfl) (by simp) ?_
        refine AllReady.cons rfl (fun K hK => ?_) ?_
        · go_simp
          refine hK _ _ ?_
          clear hK K
          refine wpAny_done (by kernel_rfl) ?_ _
          go_wp2_with fail
          go_end0
          exact ⟨rfl, (FIN.out _ T5.out F5.out).2⟩
        exact AllReady.nil
      exact AllReady.nil
    exact AllReady.nil
  exact AllReady.nil

set_option maxHeartbeats 2000000 in
set_option maxRecDepth 100000 in
theorem count_2 (g gl gs bm : Nat) (S : St) (q c : Int) (k v : ByteArray) (w : World) (H : Tc w g (S.cells gl gs bm)) (hk : k.size ≤ 1024) (hv : v.size ≤ 65536) (h0 : 0 ≤ S.sz) (h1 : S.sz ≤ 1000000000000000000) (hl : S.lo ≠ 0) (hl' : (S.lo == 0) = false) (hq : ¬ q < S.lo) :
    Calls Try.prog 52 #[.pointer (some ⟨g, 0, none⟩), .int .u64 q, .agg #[.int .i64 c, .string k, .string v]] w fun e w' => e = .returned (.tuple #[]) ∧ Tc w' g (St.cells (St.count S q k v) gl gs bm) ∧ Fp (fun j => j = g) w w' := by
  obtain ⟨W0, hW0⟩ : ∃ W, W = w.alloc (.cells #[.int .i64 c, .string k, .string v] 32) := ⟨_, rfl⟩
  have B0 : Below w.heap.size w W0 := by rw [hW0]; exact box_below _ _
  obtain ⟨gt, hgt⟩ : ∃ n, n = w.heap.size := ⟨_, rfl⟩
  have kA : W0.heap[gt]? = some (.cells #[.int .i64 c, .string k, .string v] 32) := by rw [hW0, hgt]; exact new_at _ _
  obtain ⟨D, hD⟩ : ∃ D, D = World.drew W0 := ⟨_, rfl⟩
  have kD : D.heap[gt]? = some (.cells #[.int .i64 c, .string k, .string v] 32) := by rw [hD]; exact kA
  have BD : Below w.heap.size w D := by rw [hD]; exact B0.drew
  have HTD : Tc D g (S.cells gl gs bm) := (BD.block g H.lt).trans H
  have HS := hid (sizeof_any c k v D hk hv)
  have c5 : D.cell? ⟨g, 5, none⟩ = some (.int .i64 S.sz) := HTD.cell 5
  have t0 := cell_of kD 0 (.int .i64 c) rfl
  have t1 := cell_of kD 1 (.string k) rfl
  have t2 := cell_of kD 2 (.string v) rfl
  obtain ⟨L, hL⟩ : ∃ L : Int, L = 16 + (k.size : Int) + v.size := ⟨_, rfl⟩
  have hL0 : 0 ≤ L := by omega
  have hL1 : L ≤ 100000 := by omega
  rw [← hL] at HS
  have FIN : Hid (∀ w5, Tc w5 g (S.cells gl gs bm) → Fp (fun j => j = g) w w5 → Ending.returned (Value.tuple #[]) = .returned (.tuple #[]) ∧ Tc ((w5.setCell ⟨g, 5, none⟩ (.int .i64 (S.sz + L))).setCell ⟨g, 7, none⟩ (.int .u64 (max S.hi q))) g (St.cells (St.count S q k v) gl gs bm) ∧ Fp (fun j => j = g) w ((w5.setCell ⟨g, 5, none⟩ (.int .i64 (S.sz + L))).setCell ⟨g, 7, none⟩ (.int .u64 (max S.hi q)))) := by
    intro w5 T5 F5
    refine ⟨rfl, ?_, (F5.set (.inl rfl) _ _).set (.inl rfl) _ _⟩
    have := Tc.set (Tc.set T5 5 (.int .i64 (S.sz + L))) 7 (.int .u64 (max S.hi q))
    unfold St.count
    rw [if_neg (fun h => h.elim hl hq)]
    rw [← hL]
    exact this
  have hwr : wrap64 (S.sz + L) = S.sz + L := by unfold wrap64; omega
  replace hW0 := hid hW0
  replace hgt := hid hgt
  replace hD := hid hD
  replace hL := hid hL
  replace BD := hid BD
  replace HTD := hid HTD
  clear B0 kA kD H hk hv
  go_enter Try.func52, Try.ntmps52
  go_wp2_with fail
  rw [← hW0.out, ← hgt.out]
  refine wp_region_any (by kernel_rfl) ?_
  change wpAny _ _ _ _ _ _ _ (World.drew _)
  rw [← hD.out]
  refine wpAny_take (i := 0) (v := ?v25) rfl (by kernel_rfl) (by kernel_rfl) (by kernel_rfl) (fun _ _ _ h => h) (Or.inl ⟨by rfl, ?h25⟩) ?_
  case h25 => (intro w; go_simp; try (with_reducible rfl))
  go_simp
  refine wpAny_take (i := 1) (v := ?v26) rfl (by kernel_rfl) (by kernel_rfl) (by kernel_rfl) (fun _ _ _ h => h) (Or.inl ⟨by rfl, ?h26⟩) ?_
  case h26 => (intro w; go_simp; try (with_reducible rfl))
  go_simp
  refine wpAny_take (i := 2) (v := ?v27) rfl (by kernel_rfl) (by kernel_rfl) (by kernel_rfl) (fun _ _ _ h => h) (Or.inl ⟨by rfl, ?h27⟩) ?_
  case h27 => (intro w; go_simp; try (with_reducible rfl))
  go_simp
  refine wpAny_ready (rs := [3, 4]) (by kernel_rfl) (by simp) ?_
  refine AllReady.cons rfl (fun K hK => ?_) ?_
  · go_simp
    refine hK _ _ ?_
    clear hK K
    refine wpAny_ready (rs := [4]) (by kernel_rfl) (by simp) ?_
    refine AllReady.cons rfl (fun K hK => ?_) ?_
    · go_simp
      refine hK _ _ ?_
      clear hK K
      refine wpAny_ready (rs := [5]) (by kernel_rfl) (by simp) ?_
      refine AllReady.cons rfl (fun K hK => ?_) ?_
      · go_simp
        go_wp2_with fail
        refine HS.out.mono ?_
        rintro e w5 ⟨rfl, b5⟩
        have T5 := hid ((b5.block g HTD.out.lt).trans HTD.out)
        have F5 := hid ((Fp.of (P := fun j => j = g) BD.out).below b5)
        have x5 : w5.cell? ⟨g, 5, none⟩ = some (.int .i64 S.sz) := Tc.cell T5.out 5
        have x6 : w5.cell? ⟨g, 6, none⟩ = some (.int .u64 S.lo) := Tc.cell T5.out 6
        have x7 : w5.cell? ⟨g, 7, none⟩ = some (.int .u64 S.hi) := Tc.cell T5.out 7
        have f5 := Tc.fz T5.out 5
        have f6 := Tc.fz T5.out 6
        have f7 := Tc.fz T5.out 7
        clear b5
        go_wp2_with fail
        refine wpAny_take (i := 6) (v := ?v28) rfl (by kernel_rfl) (by kernel_rfl) (by kernel_rfl) (fun _ _ _ h => h) (Or.inl ⟨by rfl, ?h28⟩) ?_
        case h28 => (intro w; go_simp; try (with_reducible rfl))
        go_simp
        refine wpAny_take (i := 7) (v := ?v29) rfl (by kernel_rfl) (by kernel_rfl) (by kernel_rfl) (fun _ _ _ h => h) (Or.inl ⟨by rfl, ?h29⟩) ?_
        case h29 => (intro w; go_simp; try (with_reducible rfl))
        go_simp
        refine wpAny_take (i := 8) (v := ?v30) rfl (by kernel_rfl) (by kernel_rfl) (by kernel_rfl) (fun _ _ _ h => h) (Or.inl ⟨by rfl, ?h30⟩) ?_
        case h30 => (intro w; go_simp; try (with_reducible rfl))
        go_simp
        refine wpAny_ready (rs := [9]) (by kernel_rfl) (by simp) ?_
        refine AllReady.cons rfl (fun K hK => ?_) ?_
        · go_simp
          refine hK _ _ ?_
          clear hK K
          refine wpAny_done (by kernel_rfl) ?_ _
          go_wp2_with fail
          go_end0
          exact ⟨rfl, (FIN.out _ T5.out F5.out).2⟩
        exact AllReady.nil
      exact AllReady.nil
    exact AllReady.nil
  refine AllReady.cons rfl (fun K hK => ?_) ?_
  · go_simp
    refine hK _ _ ?_
    clear hK K
    refine wpAny_ready (rs := [3, 5]) (by kernel_rfl) (by simp) ?_
    refine AllReady.cons rfl (fun K hK => ?_) ?_
    · go_simp
      refine hK _ _ ?_
      clear hK K
      refine wpAny_ready (rs := [5]) (by kernel_rfl) (by simp) ?_
      refine AllReady.cons rfl (fun K hK => ?_) ?_
      · go_simp
        go_wp2_with fail
        refine HS.out.mono ?_
        rintro e w5 ⟨rfl, b5⟩
        have T5 := hid ((b5.block g HTD.out.lt).trans HTD.out)
        have F5 := hid ((Fp.of (P := fun j => j = g) BD.out).below b5)
        have x5 : w5.cell? ⟨g, 5, none⟩ = some (.int .i64 S.sz) := Tc.cell T5.out 5
        have x6 : w5.cell? ⟨g, 6, none⟩ = some (.int .u64 S.lo) := Tc.cell T5.out 6
        have x7 : w5.cell? ⟨g, 7, none⟩ = some (.int .u64 S.hi) := Tc.cell T5.out 7
        have f5 := Tc.fz T5.out 5
        have f6 := Tc.fz T5.out 6
        have f7 := Tc.fz T5.out 7
        clear b5
        go_wp2_with fail
        refine wpAny_take (i := 6) (v := ?v31) rfl (by kernel_rfl) (by kernel_rfl) (by kernel_rfl) (fun _ _ _ h => h) (Or.inl ⟨by rfl, ?h31⟩) ?_
        case h31 => (intro w; go_simp; try (with_reducible rfl))
        go_simp
        refine wpAny_take (i := 7) (v := ?v32) rfl (by kernel_rfl) (by kernel_rfl) (by kernel_rfl) (fun _ _ _ h => h) (Or.inl ⟨by rfl, ?h32⟩) ?_
        case h32 => (intro w; go_simp; try (with_reducible rfl))
        go_simp
        refine wpAny_take (i := 8) (v := ?v33) rfl (by kernel_rfl) (by kernel_rfl) (by kernel_rfl) (fun _ _ _ h => h) (Or.inl ⟨by rfl, ?h33⟩) ?_
        case h33 => (intro w; go_simp; try (with_reducible rfl))
        go_simp
        refine wpAny_ready (rs := [9]) (by kernel_rfl) (by simp) ?_
        refine AllReady.cons rfl (fun K hK => ?_) ?_
        · go_simp
          refine hK _ _ ?_
          clear hK K
          refine wpAny_done (by kernel_rfl) ?_ _
          go_wp2_with fail
          go_end0
          exact ⟨rfl, (FIN.out _ T5.out F5.out).2⟩
        exact AllReady.nil
      exact AllReady.nil
    refine AllReady.cons rfl (fun K hK => ?_) ?_
    · go_simp
      go_wp2_with fail
      refine HS.out.mono ?_
      rintro e w5 ⟨rfl, b5⟩
      have T5 := hid ((b5.block g HTD.out.lt).trans HTD.out)
      have F5 := hid ((Fp.of (P := fun j => j = g) BD.out).below b5)
      have x5 : w5.cell? ⟨g, 5, none⟩ = some (.int .i64 S.sz) := Tc.cell T5.out 5
      have x6 : w5.cell? ⟨g, 6, none⟩ = some (.int .u64 S.lo) := Tc.cell T5.out 6
      have x7 : w5.cell? ⟨g, 7, none⟩ = some (.int .u64 S.hi) := Tc.cell T5.out 7
      have f5 := Tc.fz T5.out 5
      have f6 := Tc.fz T5.out 6
      have f7 := Tc.fz T5.out 7
      clear b5
      go_wp2_with fail
      refine wpAny_ready (rs := [3]) (by kernel_rfl) (by simp) ?_
      refine AllReady.cons rfl (fun K hK => ?_) ?_
      · go_simp
        refine hK _ _ ?_
        clear hK K
        refine wpAny_take (i := 6) (v := ?v34) rfl (by kernel_rfl) (by kernel_rfl) (by kernel_rfl) (fun _ _ _ h => h) (Or.inl ⟨by rfl, ?h34⟩) ?_
        case h34 => (intro w; go_simp; try (with_reducible rfl))
        go_simp
        refine wpAny_take (i := 7) (v := ?v35) rfl (by kernel_rfl) (by kernel_rfl) (by kernel_rfl) (fun _ _ _ h => h) (Or.inl ⟨by rfl, ?h35⟩) ?_
        case h35 => (intro w; go_simp; try (with_reducible rfl))
        go_simp
        refine wpAny_take (i := 8) (v := ?v36) rfl (by kernel_rfl) (by kernel_rfl) (by kernel_rfl) (fun _ _ _ h => h) (Or.inl ⟨by rfl, ?h36⟩) ?_
        case h36 => (intro w; go_simp; try (with_reducible rfl))
        go_simp
        refine wpAny_ready (rs := [9]) (by kernel_rfl) (by simp) ?_
        refine AllReady.cons rfl (fun K hK => ?_) ?_
        · go_simp
          refine hK _ _ ?_
          clear hK K
          refine wpAny_done (by kernel_rfl) ?_ _
          go_wp2_with fail
          go_end0
          exact ⟨rfl, (FIN.out _ T5.out F5.out).2⟩
        exact AllReady.nil
      exact AllReady.nil
    exact AllReady.nil
  exact AllReady.nil

theorem count_any (g gl gs bm : Nat) (S : St) (q c : Int) (k v : ByteArray) (w : World) (H : Tc w g (S.cells gl gs bm)) (hk : k.size ≤ 1024) (hv : v.size ≤ 65536) (h0 : 0 ≤ S.sz) (h1 : S.sz ≤ 1000000000000000000) :
    Calls Try.prog 52 #[.pointer (some ⟨g, 0, none⟩), .int .u64 q, .agg #[.int .i64 c, .string k, .string v]] w fun e w' => e = .returned (.tuple #[]) ∧ Tc w' g (St.cells (St.count S q k v) gl gs bm) ∧ Fp (fun j => j = g) w w' := by
  by_cases hl : S.lo = 0
  · exact count_0 g gl gs bm S q c k v w H hk hv h0 h1 hl
  · by_cases hq : q < S.lo
    · exact count_1 g gl gs bm S q c k v w H hk hv h0 h1 hl (by simpa using hl) hq
    · exact count_2 g gl gs bm S q c k v w H hk hv h0 h1 hl (by simpa using hl) hq
/-- What Add answers. -/
def adE (S : St) (q c : Int) (k v : ByteArray) (h : Int) : Int := if chk S q c k v h ≠ 0 then chk S q c k v h else if c = 2 then (if has S.ts k q = true then 81 else 0) else insE 1048576 S.ns S.ord k q c h
/-- What is there behind it. -/
def adS (S : St) (q c : Int) (k v : ByteArray) (h : Int) : St := if adE S q c k v h ≠ 0 then S else if c = 2 then St.count { S with ts := S.ts ++ [⟨k, v, q⟩] } q k v else St.count { S with ns := S.ns ++ [⟨k, q, c, .string v, h.toNat⟩], ord := ordI S.ns S.ord (ik k q c) (S.ns.length + 1) } q k v
theorem chk_zero {S : St} {q c : Int} {k v : ByteArray} {h : Int} (e : chk S q c k v h = 0) : S.dn = false ∧ (1 ≤ q ∧ q ≤ 72057594037927935) ∧ may c k v = true ∧ (1 ≤ h ∧ h ≤ 12) := by
  unfold chk at e
  by_cases h1 : S.dn = true
  · rw [if_pos h1] at e; cases e
  · rw [if_neg h1] at e
    by_cases h2 : q < 1 ∨ 72057594037927935 < q
    · rw [if_pos h2] at e; cases e
    · rw [if_neg h2] at e
      by_cases h3 : may c k v = false
      · rw [if_pos h3] at e; cases e
      · rw [if_neg h3] at e
        by_cases h4 : h < 1 ∨ 12 < h
        · rw [if_pos h4] at e; cases e
        · exact ⟨by simpa using h1, by omega, by simpa using h3, by omega⟩
theorem may_sizes {c : Int} {k v : ByteArray} (e : may c k v = true) : (1 ≤ k.size ∧ k.size ≤ 1024) ∧ v.size ≤ 65536 ∧ (c = 0 ∨ c = 1 ∨ c = 2) ∧ (c = 2 → (1 ≤ v.size ∧ v.size ≤ 1024) ∧ lt k v = true) := by
  unfold may at e
  rw [Bool.and_eq_true] at e
  have h1 := Kd.size_true e.1
  have e2 := e.2
  by_cases c0 : c = 0
  · rw [if_pos c0] at e2
    have := of_decide_eq_true e2
    exact ⟨by omega, by omega, .inl c0, by omega⟩
  · rw [if_neg c0] at e2
    by_cases c1 : c = 1
    · rw [if_pos c1] at e2
      have := of_decide_eq_true e2
      exact ⟨by omega, by omega, .inr (.inl c1), by omega⟩
    · rw [if_neg c1] at e2
      by_cases c2 : c = 2
      · rw [if_pos c2, Bool.and_eq_true] at e2
        have := Kd.size_true e2.1
        exact ⟨by omega, by omega, .inr (.inr c2), fun _ => ⟨by omega, e2.2⟩⟩
      · rw [if_neg c2] at e2; cases e2
theorem vd_of {c q : Int} {k v : ByteArray} (hc : c = 2) (e : may c k v = true) (hq : 1 ≤ q ∧ q ≤ 72057594037927935) : vd ⟨k, v, q⟩ = true ∧ (⟨k, v, q⟩ : T).ok := by
  obtain ⟨h1, h2, _, h4⟩ := may_sizes e
  obtain ⟨h5, h6⟩ := h4 hc
  refine ⟨?_, ?_⟩
  · unfold vd
    simp only [h6, Bool.and_true, Bool.true_and, Bool.and_eq_true, decide_eq_true_eq]
    omega
  · refine ⟨⟨by show 0 ≤ q; omega, by show q ≤ _; omega⟩, ?_, ?_⟩
    · show k.size ≤ _; unfold maxLen; omega
    · show v.size ≤ _; unfold maxLen; omega
end Go.Proofs.Ytefihoohdaegeaa.Ad

/- put and count of a memtable. -/
import Derived.Test.YtefihoohdaegeaaCk
import Derived.StillTailTactics
namespace Go.Proofs.Ytefihoohdaegeaa.Pt
open Go.ChangeShapes Go.WideShapes Go.ChangeAt Go.RowKit Go.Shelf
open Go.Sort (grow)
open Go.Proofs.Ytefihoohdaegeaa.Lx
open Go.Proofs.Ytefihoohdaegeaa.Tm (T zt vd ret_bool ret_int)
open Go.Proofs.Ytefihoohdaegeaa.Rw
open Go.Proofs.Ytefihoohdaegeaa.Es
open Go.Proofs.Ytefihoohdaegeaa.Fm
open Go.Proofs.Ytefihoohdaegeaa.Sa
open Go.Proofs.Ytefihoohdaegeaa.Sg
open Go.Proofs.Ytefihoohdaegeaa.In
open Go.Proofs.Ytefihoohdaegeaa.Gs (insert_no insert_yes)
open Go.Proofs.Ytefihoohdaegeaa.Tb
open Go.Proofs.Ytefihoohdaegeaa.Ck
open Go.Proofs.Ytefihoohdaegeaa.Cm (ik)
open Go.Proofs.Ytefihoohdaegeaa.Mm (box_below)
open Go.Proofs.Ytefihoohdaegeaa.Tr (new_at cell_of Bx)
set_option linter.unusedVariables false
set_option linter.unusedSimpArgs false

theorem region_tail {P : Program} {id : Nat} {Q : Exit → Act → World → Prop} {a : Act} {w : World} {l : List Oper} (n : Nat) (hm : P.follows .mixedOrders = true) (hB : Region.lexTailB .any l.toArray n = true)
    (h : wpStill P l.toArray w.drew (fun a' => wpList P l.toArray Q (l.drop n) a' w.drew) (l.take n) a) : (Code.region id l.toArray true).wp P Q a w := wp_region_still_tail n hm hB h
theorem fr_fp {g b : Nat} {w w' : World} (h : Li.Fr g b w w') : Fp (fun j => j = g ∨ j = b) w w' := ⟨h.os, h.tape, h.output, h.size, fun j hj hn => h.block j hj (fun e => hn (.inl e)) (fun e => hn (.inr e))⟩

set_option maxHeartbeats 2000000 in
set_option maxRecDepth 100000 in
theorem put_no (base g gl bl gs bm : Nat) (vt : Value) (P : Nat → Prop) (S : St) (q c : Int) (k v : ByteArray) (h : Int) (w : World) (H : Tx w base g gl bl gs bm vt P S) (hbase : base ≤ w.heap.size) (hk : k.size ≤ maxLen) (hc : c ≠ 2) (hE : insE 1048576 S.ns S.ord k q c h ≠ 0) :
    Calls Try.prog 51 #[.pointer (some ⟨g, 0, none⟩), .int .u64 q, .agg #[.int .i64 c, .string k, .string v], .int .i64 h] w fun e w' => e = .returned (.int .i64 (insE 1048576 S.ns S.ord k q c h)) ∧ Below w.heap.size w w' := by
  obtain ⟨W0, hW0⟩ : ∃ W, W = w.alloc (.cells #[.int .i64 c, .string k, .string v] 32) := ⟨_, rfl⟩
  obtain ⟨W1, hW1⟩ : ∃ W, W = W0.alloc (.cells #[.string k, .int .u64 q, .int .i64 c] 48) := ⟨_, rfl⟩
  have B0 : Below w.heap.size w W0 := by rw [hW0]; exact box_below _ _
  have B01 : Below W0.heap.size W0 W1 := by rw [hW1]; exact box_below _ _
  have B1 : Below w.heap.size w W1 := B0.trans (B01.mono B0.size)
  obtain ⟨gt, hgt⟩ : ∃ n, n = w.heap.size := ⟨_, rfl⟩
  have kA : W0.heap[gt]? = some (.cells #[.int .i64 c, .string k, .string v] 32) := by rw [hW0, hgt]; exact new_at _ _
  have s0 : W0.heap.size = gt + 1 := by rw [hW0, hgt]; simp
  have s1 : W1.heap.size = gt + 2 := by rw [hW1]; simp [s0]
  have kB : W1.heap[gt]? = some (.cells #[.int .i64 c, .string k, .string v] 32) := (B01.block gt (by omega)).trans kA
  have kK : Bx W1 (gt + 1) k q c := by rw [hW1, ← s0]; exact new_at _ _
  have HX := H.later B1
  have bd : Below W1.heap.size W1 W1.drew := (Below.refl _ _).drew
  have HI := hid (insert_no base gl bl 1048576 S.ns S.ord k q c v h W1.drew (HX.l.later bd) (by have := B1.size; exact Nat.le_trans hbase this) hk hE)
  have c2 : W1.cell? ⟨g, 2, none⟩ = some (.pointer (some ⟨gl, 0, none⟩)) := HX.c.cell 2
  have c2d : W1.drew.cell? ⟨g, 2, none⟩ = some (.pointer (some ⟨gl, 0, none⟩)) := c2
  have t0 := cell_of kA 0 (.int .i64 c) rfl
  have t1 := cell_of kA 1 (.string k) rfl
  have u0 := cell_of kB 0 (.int .i64 c) rfl
  have u2 : W1.drew.cell? ⟨gt, 2, none⟩ = some (.string v) := cell_of kB 2 (.string v) rfl
  have y0 : W1.drew.cell? ⟨gt + 1, 0, none⟩ = some (.string k) := kK.c0
  have y1 : W1.drew.cell? ⟨gt + 1, 1, none⟩ = some (.int .u64 q) := kK.c1
  have y2 : W1.drew.cell? ⟨gt + 1, 2, none⟩ = some (.int .i64 c) := kK.c2
  have e2 : (c != 2) = true := by simp [hc]
  generalize insE 1048576 S.ns S.ord k q c h = R at *
  replace hW0 := hid hW0
  replace hW1 := hid hW1
  replace hgt := hid hgt
  replace s0 := hid s0
  replace B1 := hid B1
  replace bd := hid bd
  clear hE hc kA kB kK HX B0 B01 H s1 hbase
  go_enter Try.func51, Try.ntmps51
  go_wp2_with fail
  rw [← hW0.out, ← hgt.out]
  go_wp2_with fail
  rw [← hW1.out]
  refine region_tail 8 (by kernel_rfl) (by kernel_rfl) ?_
  simp only [List.take_succ_cons, List.take_zero, List.drop_succ_cons, List.drop_zero]
  repeat still_step
  refine wpStill_nil ?_
  go_wp2_with fail
  refine HI.out.mono ?_
  rintro e w2 ⟨rfl, b2⟩
  have B2 := hid (B1.out.trans ((bd.out.trans (b2.mono bd.out.size)).mono B1.out.size))
  go_wp2_with fail
  go_ret
  exact ⟨rfl, B2.out⟩

set_option maxHeartbeats 2000000 in
set_option maxRecDepth 100000 in
theorem put_yes (base g gl bl gs bm : Nat) (vt : Value) (P : Nat → Prop) (S : St) (q c : Int) (k v : ByteArray) (h : Int) (w : World) (H : Tx w base g gl bl gs bm vt P S) (hbase : base ≤ w.heap.size) (hk : k.size ≤ maxLen) (hc : c ≠ 2) (hE : insE 1048576 S.ns S.ord k q c h = 0) :
    Calls Try.prog 51 #[.pointer (some ⟨g, 0, none⟩), .int .u64 q, .agg #[.int .i64 c, .string k, .string v], .int .i64 h] w fun e w' => e = .returned (.int .i64 0) ∧ Fp (fun j => j = gl ∨ j = bl) w w' ∧ ∃ b', (b' = bl ∨ w.heap.size ≤ b') ∧ SL w' base gl b' 1048576 (S.ns ++ [⟨k, q, c, .string v, h.toNat⟩]) (ordI S.ns S.ord (ik k q c) (S.ns.length + 1)) := by
  obtain ⟨W0, hW0⟩ : ∃ W, W = w.alloc (.cells #[.int .i64 c, .string k, .string v] 32) := ⟨_, rfl⟩
  obtain ⟨W1, hW1⟩ : ∃ W, W = W0.alloc (.cells #[.string k, .int .u64 q, .int .i64 c] 48) := ⟨_, rfl⟩
  have B0 : Below w.heap.size w W0 := by rw [hW0]; exact box_below _ _
  have B01 : Below W0.heap.size W0 W1 := by rw [hW1]; exact box_below _ _
  have B1 : Below w.heap.size w W1 := B0.trans (B01.mono B0.size)
  obtain ⟨gt, hgt⟩ : ∃ n, n = w.heap.size := ⟨_, rfl⟩
  have kA : W0.heap[gt]? = some (.cells #[.int .i64 c, .string k, .string v] 32) := by rw [hW0, hgt]; exact new_at _ _
  have s0 : W0.heap.size = gt + 1 := by rw [hW0, hgt]; simp
  have s1 : W1.heap.size = gt + 2 := by rw [hW1]; simp [s0]
  have kB : W1.heap[gt]? = some (.cells #[.int .i64 c, .string k, .string v] 32) := (B01.block gt (by omega)).trans kA
  have kK : Bx W1 (gt + 1) k q c := by rw [hW1, ← s0]; exact new_at _ _
  have HX := H.later B1
  have bd : Below W1.heap.size W1 W1.drew := (Below.refl _ _).drew
  have HI := hid (insert_yes base gl bl 1048576 S.ns S.ord k q c v h W1.drew (HX.l.later bd) (by have := B1.size; exact Nat.le_trans hbase this) hk hE)
  have c2 : W1.cell? ⟨g, 2, none⟩ = some (.pointer (some ⟨gl, 0, none⟩)) := HX.c.cell 2
  have c2d : W1.drew.cell? ⟨g, 2, none⟩ = some (.pointer (some ⟨gl, 0, none⟩)) := c2
  have t0 := cell_of kA 0 (.int .i64 c) rfl
  have t1 := cell_of kA 1 (.string k) rfl
  have u0 := cell_of kB 0 (.int .i64 c) rfl
  have u2 : W1.drew.cell? ⟨gt, 2, none⟩ = some (.string v) := cell_of kB 2 (.string v) rfl
  have y0 : W1.drew.cell? ⟨gt + 1, 0, none⟩ = some (.string k) := kK.c0
  have y1 : W1.drew.cell? ⟨gt + 1, 1, none⟩ = some (.int .u64 q) := kK.c1
  have y2 : W1.drew.cell? ⟨gt + 1, 2, none⟩ = some (.int .i64 c) := kK.c2
  have e2 : (c != 2) = true := by simp [hc]
  generalize S.ns ++ [(⟨k, q, c, .string v, h.toNat⟩ : N)] = NS at *
  generalize ordI S.ns S.ord (ik k q c) (S.ns.length + 1) = OR at *
  replace hW0 := hid hW0
  replace hW1 := hid hW1
  replace hgt := hid hgt
  replace s0 := hid s0
  replace B1 := hid B1
  replace bd := hid bd
  clear hE hc kA kB kK HX B0 B01 H s1 hbase
  go_enter Try.func51, Try.ntmps51
  go_wp2_with fail
  rw [← hW0.out, ← hgt.out]
  go_wp2_with fail
  rw [← hW1.out]
  refine region_tail 8 (by kernel_rfl) (by kernel_rfl) ?_
  simp only [List.take_succ_cons, List.take_zero, List.drop_succ_cons, List.drop_zero]
  repeat still_step
  refine wpStill_nil ?_
  go_wp2_with fail
  refine HI.out.mono ?_
  rintro e w2 ⟨rfl, f2, b', hb', hs2⟩
  have BB : Below w.heap.size w W1.drew := B1.out.trans (bd.out.mono B1.out.size)
  have F2 : Hid (Fp (fun j => j = gl ∨ j = bl) w w2) := by
    have f := fr_fp f2
    exact ⟨f.os.trans BB.os, f.tape.trans BB.tape, f.output.trans BB.output, Nat.le_trans BB.size f.size, fun j hj hn => (f.block j (Nat.lt_of_lt_of_le hj BB.size) hn).trans (BB.block j hj)⟩
  have HB' : Hid (b' = bl ∨ w.heap.size ≤ b') := hb'.imp id (fun h => Nat.le_trans BB.size h)
  replace hs2 := hid hs2
  clear f2 hb' BB
  go_wp2_with fail
  go_ret
  exact ⟨rfl, F2.out, b', HB'.out, hs2.out⟩

set_option maxHeartbeats 2000000 in
set_option maxRecDepth 100000 in
theorem put_there (base g gl bl gs bm : Nat) (vt : Value) (P : Nat → Prop) (S : St) (q : Int) (k v : ByteArray) (h : Int) (w : World) (H : Tx w base g gl bl gs bm vt P S) (hh : has S.ts k q = true) :
    Calls Try.prog 51 #[.pointer (some ⟨g, 0, none⟩), .int .u64 q, .agg #[.int .i64 2, .string k, .string v], .int .i64 h] w fun e w' => e = .returned (.int .i64 81) ∧ Below w.heap.size w w' := by
  obtain ⟨c, hcc⟩ : ∃ c : Int, c = 2 := ⟨_, rfl⟩
  rw [← hcc]
  obtain ⟨W0, hW0⟩ : ∃ W, W = w.alloc (.cells #[.int .i64 c, .string k, .string v] 32) := ⟨_, rfl⟩
  obtain ⟨W1, hW1⟩ : ∃ W, W = W0.alloc (.cells #[.string k, .int .u64 q, .int .i64 c] 48) := ⟨_, rfl⟩
  have B0 : Below w.heap.size w W0 := by rw [hW0]; exact box_below _ _
  have B01 : Below W0.heap.size W0 W1 := by rw [hW1]; exact box_below _ _
  have B1 : Below w.heap.size w W1 := B0.trans (B01.mono B0.size)
  obtain ⟨gt, hgt⟩ : ∃ n, n = w.heap.size := ⟨_, rfl⟩
  have kA : W0.heap[gt]? = some (.cells #[.int .i64 c, .string k, .string v] 32) := by rw [hW0, hgt]; exact new_at _ _
  have s0 : W0.heap.size = gt + 1 := by rw [hW0, hgt]; simp
  have s1 : W1.heap.size = gt + 2 := by rw [hW1]; simp [s0]
  have kB : W1.heap[gt]? = some (.cells #[.int .i64 c, .string k, .string v] 32) := (B01.block gt (by omega)).trans kA
  have kK : Bx W1 (gt + 1) k q c := by rw [hW1, ← s0]; exact new_at _ _
  have HX := H.later B1
  obtain ⟨D, hD⟩ : ∃ D, D = World.drew W1 := ⟨_, rfl⟩
  have BD : Below W1.heap.size W1 D := by rw [hD]; exact (Below.refl _ _).drew
  have bA := box_below D (.cells #[] 143)
  have HD := HX.later BD
  have HA := HD.later bA
  have kD : Bx D (gt + 1) k q c := kK.later BD
  have kE := kD.later bA
  have lD := HD.m.look k q
  have lA := HA.m.look k q
  rw [hh] at lD lA
  have cD : D.cell? ⟨g, 4, none⟩ = some (.map (some bm)) := HD.c.cell 4
  have cA : (D.alloc (.cells #[] 143)).cell? ⟨g, 4, none⟩ = some (.map (some bm)) := HA.c.cell 4
  have t0 := cell_of kA 0 (.int .i64 c) rfl
  have t1 := cell_of kA 1 (.string k) rfl
  have u0 := cell_of kB 0 (.int .i64 c) rfl
  have y0 := kD.c0
  have y1 := kD.c1
  have y2 := kD.c2
  have z0 := kE.c0
  have z1 := kE.c1
  have z2 := kE.c2
  have BF : Hid (Below w.heap.size w (D.alloc (.cells #[] 143))) := B1.trans ((BD.trans (bA.mono BD.size)).mono B1.size)
  subst hcc
  replace hW0 := hid hW0
  replace hW1 := hid hW1
  replace hgt := hid hgt
  replace s0 := hid s0
  replace hD := hid hD
  clear kA kB kK HX B0 B01 H s1 hh B1 BD bA HD HA kD kE
  go_enter Try.func51, Try.ntmps51
  go_wp2_with fail
  rw [← hW0.out, ← hgt.out]
  go_wp2_with fail
  rw [← hW1.out]
  refine wp_region_any (by kernel_rfl) ?_
  change wpAny _ _ _ _ _ _ _ (World.drew _)
  rw [← hD.out]
  refine wpAny_take (i := 0) (v := ?v1) rfl (by kernel_rfl) (by kernel_rfl) (by kernel_rfl) (fun _ _ _ h => h) (Or.inl ⟨by rfl, ?h1⟩) ?_
  case h1 => (intro w; go_simp; try (with_reducible rfl))
  go_simp
  refine wpAny_take (i := 1) (v := ?v2) rfl (by kernel_rfl) (by kernel_rfl) (by kernel_rfl) (fun _ _ _ h => h) (Or.inl ⟨by rfl, ?h2⟩) ?_
  case h2 => (intro w; go_simp; try (with_reducible rfl))
  go_simp
  refine wpAny_take (i := 2) (v := ?v3) rfl (by kernel_rfl) (by kernel_rfl) (by kernel_rfl) (fun _ _ _ h => h) (Or.inl ⟨by rfl, ?h3⟩) ?_
  case h3 => (intro w; go_simp; try (with_reducible rfl))
  go_simp
  refine wpAny_ready (rs := [3, 4, 9]) (by kernel_rfl) (by simp) ?_
  refine AllReady.cons rfl (fun K hK => ?_) ?_
  · go_simp
    refine hK _ _ ?_
    clear hK K
    refine wpAny_ready (rs := [4, 9]) (by kernel_rfl) (by simp) ?_
    refine AllReady.cons rfl (fun K hK => ?_) ?_
    · go_simp
      refine hK _ _ ?_
      clear hK K
      refine wpAny_ready (rs := [5, 9]) (by kernel_rfl) (by simp) ?_
      refine AllReady.cons rfl (fun K hK => ?_) ?_
      · go_simp
        refine hK _ _ ?_
        clear hK K
        refine wpAny_take (i := 6) (v := ?v4) rfl (by kernel_rfl) (by kernel_rfl) (by kernel_rfl) (fun _ _ _ h => h) (Or.inl ⟨by rfl, ?h4⟩) ?_
        case h4 => (intro w; go_simp; try (with_reducible rfl))
        go_simp
        refine wpAny_take (i := 7) (v := ?v5) rfl (by kernel_rfl) (by kernel_rfl) (by kernel_rfl) (fun _ _ _ h => h) (Or.inl ⟨by rfl, ?h5⟩) ?_
        case h5 => (intro w; go_simp; try (with_reducible rfl))
        go_simp
        refine wpAny_take (i := 8) (v := ?v6) rfl (by kernel_rfl) (by kernel_rfl) (by kernel_rfl) (fun _ _ _ h => h) (Or.inl ⟨by rfl, ?h6⟩) ?_
        case h6 => (intro w; go_simp; try (with_reducible rfl))
        go_simp
        refine wpAny_ready (rs := [9]) (by kernel_rfl) (by simp) ?_
        refine AllReady.cons rfl (fun K hK => ?_) ?_
        · go_simp
          refine hK _ _ ?_
          clear hK K
          refine wpAny_ready (rs := [10]) (by kernel_rfl) (by simp) ?_
          refine AllReady.cons rfl (fun K hK => ?_) ?_
          · go_simp
            refine hK _ _ ?_
            clear hK K
            refine wpAny_take (i := 11) (v := ?v7) rfl (by kernel_rfl) (by kernel_rfl) (by kernel_rfl) (fun _ _ _ h => h) (Or.inl ⟨by rfl, ?h7⟩) ?_
            case h7 => (intro w; go_simp; try (with_reducible rfl))
            go_simp
            refine wpAny_done (by kernel_rfl) ?_ _
            go_wp2_with fail
            go_ret
            exact ⟨rfl, BF.out⟩
          exact AllReady.nil
        exact AllReady.nil
      refine AllReady.cons rfl (fun K hK => ?_) ?_
      · go_simp
        refine hK _ _ ?_
        clear hK K
        refine wpAny_ready (rs := [5]) (by kernel_rfl) (by simp) ?_
        refine AllReady.cons rfl (fun K hK => ?_) ?_
        · go_simp
          refine hK _ _ ?_
          clear hK K
          refine wpAny_take (i := 6) (v := ?v8) rfl (by kernel_rfl) (by kernel_rfl) (by kernel_rfl) (fun _ _ _ h => h) (Or.inl ⟨by rfl, ?h8⟩) ?_
          case h8 => (intro w; go_simp; try (with_reducible rfl))
          go_simp
          refine wpAny_take (i := 7) (v := ?v9) rfl (by kernel_rfl) (by kernel_rfl) (by kernel_rfl) (fun _ _ _ h => h) (Or.inl ⟨by rfl, ?h9⟩) ?_
          case h9 => (intro w; go_simp; try (with_reducible rfl))
          go_simp
          refine wpAny_take (i := 8) (v := ?v10) rfl (by kernel_rfl) (by kernel_rfl) (by kernel_rfl) (fun _ _ _ h => h) (Or.inl ⟨by rfl, ?h10⟩) ?_
          case h10 => (intro w; go_simp; try (with_reducible rfl))
          go_simp
          refine wpAny_ready (rs := [10]) (by kernel_rfl) (by simp) ?_
          refine AllReady.cons rfl (fun K hK => ?_) ?_
          · go_simp
            refine hK _ _ ?_
            clear hK K
            refine wpAny_take (i := 11) (v := ?v11) rfl (by kernel_rfl) (by kernel_rfl) (by kernel_rfl) (fun _ _ _ h => h) (Or.inl ⟨by rfl, ?h11⟩) ?_
            case h11 => (intro w; go_simp; try (with_reducible rfl))
            go_simp
            refine wpAny_done (by kernel_rfl) ?_ _
            go_wp2_with fail
            go_ret
            exact ⟨rfl, BF.out⟩
          exact AllReady.nil
        exact AllReady.nil
      exact AllReady.nil
    refine AllReady.cons rfl (fun K hK => ?_) ?_
    · go_simp
      refine hK _ _ ?_
      clear hK K
      refine wpAny_ready (rs := [4]) (by kernel_rfl) (by simp) ?_
      refine AllReady.cons rfl (fun K hK => ?_) ?_
      · go_simp
        refine hK _ _ ?_
        clear hK K
        refine wpAny_ready (rs := [5]) (by kernel_rfl) (by simp) ?_
        refine AllReady.cons rfl (fun K hK => ?_) ?_
        · go_simp
          refine hK _ _ ?_
          clear hK K
          refine wpAny_take (i := 6) (v := ?v12) rfl (by kernel_rfl) (by kernel_rfl) (by kernel_rfl) (fun _ _ _ h => h) (Or.inl ⟨by rfl, ?h12⟩) ?_
          case h12 => (intro w; go_simp; try (with_reducible rfl))
          go_simp
          refine wpAny_take (i := 7) (v := ?v13) rfl (by kernel_rfl) (by kernel_rfl) (by kernel_rfl) (fun _ _ _ h => h) (Or.inl ⟨by rfl, ?h13⟩) ?_
          case h13 => (intro w; go_simp; try (with_reducible rfl))
          go_simp
          refine wpAny_take (i := 8) (v := ?v14) rfl (by kernel_rfl) (by kernel_rfl) (by kernel_rfl) (fun _ _ _ h => h) (Or.inl ⟨by rfl, ?h14⟩) ?_
          case h14 => (intro w; go_simp; try (with_reducible rfl))
          go_simp
          refine wpAny_ready (rs := [10]) (by kernel_rfl) (by simp) ?_
          refine AllReady.cons rfl (fun K hK => ?_) ?_
          · go_simp
            refine hK _ _ ?_
            clear hK K
            refine wpAny_take (i := 11) (v := ?v15) rfl (by kernel_rfl) (by kernel_rfl) (by kernel_rfl) (fun _ _ _ h => h) (Or.inl ⟨by rfl, ?h15⟩) ?_
            case h15 => (intro w; go_simp; try (with_reducible rfl))
            go_simp
            refine wpAny_done (by kernel_rfl) ?_ _
            go_wp2_with fail
            go_ret
            exact ⟨rfl, BF.out⟩
          exact AllReady.nil
        exact AllReady.nil
      exact AllReady.nil
    exact AllReady.nil
  refine AllReady.cons rfl (fun K hK => ?_) ?_
  · go_simp
    refine hK _ _ ?_
    clear hK K
    refine wpAny_ready (rs := [3, 9]) (by kernel_rfl) (by simp) ?_
    refine AllReady.cons rfl (fun K hK => ?_) ?_
    · go_simp
      refine hK _ _ ?_
      clear hK K
      refine wpAny_ready (rs := [5, 9]) (by kernel_rfl) (by simp) ?_
      refine AllReady.cons rfl (fun K hK => ?_) ?_
      · go_simp
        refine hK _ _ ?_
        clear hK K
        refine wpAny_take (i := 6) (v := ?v16) rfl (by kernel_rfl) (by kernel_rfl) (by kernel_rfl) (fun _ _ _ h => h) (Or.inl ⟨by rfl, ?h16⟩) ?_
        case h16 => (intro w; go_simp; try (with_reducible rfl))
        go_simp
        refine wpAny_take (i := 7) (v := ?v17) rfl (by kernel_rfl) (by kernel_rfl) (by kernel_rfl) (fun _ _ _ h => h) (Or.inl ⟨by rfl, ?h17⟩) ?_
        case h17 => (intro w; go_simp; try (with_reducible rfl))
        go_simp
        refine wpAny_take (i := 8) (v := ?v18) rfl (by kernel_rfl) (by kernel_rfl) (by kernel_rfl) (fun _ _ _ h => h) (Or.inl ⟨by rfl, ?h18⟩) ?_
        case h18 => (intro w; go_simp; try (with_reducible rfl))
        go_simp
        refine wpAny_ready (rs := [9]) (by kernel_rfl) (by simp) ?_
        refine AllReady.cons rfl (fun K hK => ?_) ?_
        · go_simp
          refine hK _ _ ?_
          clear hK K
          refine wpAny_ready (rs := [10]) (by kernel_rfl) (by simp) ?_
          refine AllReady.cons rfl (fun K hK => ?_) ?_
          · go_simp
            refine hK _ _ ?_
            clear hK K
            refine wpAny_take (i := 11) (v := ?v19) rfl (by kernel_rfl) (by kernel_rfl) (by kernel_rfl) (fun _ _ _ h => h) (Or.inl ⟨by rfl, ?h19⟩) ?_
            case h19 => (intro w; go_simp; try (with_reducible rfl))
            go_simp
            refine wpAny_done (by kernel_rfl) ?_ _
            go_wp2_with fail
            go_ret
            exact ⟨rfl, BF.out⟩
          exact AllReady.nil
        exact AllReady.nil
      refine AllReady.cons rfl (fun K hK => ?_) ?_
      · go_simp
        refine hK _ _ ?_
        clear hK K
        refine wpAny_ready (rs := [5]) (by kernel_rfl) (by simp) ?_
        refine AllReady.cons rfl (fun K hK => ?_) ?_
        · go_simp
          refine hK _ _ ?_
          clear hK K
          refine wpAny_take (i := 6) (v := ?v20) rfl (by kernel_rfl) (by kernel_rfl) (by kernel_rfl) (fun _ _ _ h => h) (Or.inl ⟨by rfl, ?h20⟩) ?_
          case h20 => (intro w; go_simp; try (with_reducible rfl))
          go_simp
          refine wpAny_take (i := 7) (v := ?v21) rfl (by kernel_rfl) (by kernel_rfl) (by kernel_rfl) (fun _ _ _ h => h) (Or.inl ⟨by rfl, ?h21⟩) ?_
          case h21 => (intro w; go_simp; try (with_reducible rfl))
          go_simp
          refine wpAny_take (i := 8) (v := ?v22) rfl (by kernel_rfl) (by kernel_rfl) (by kernel_rfl) (fun _ _ _ h => h) (Or.inl ⟨by rfl, ?h22⟩) ?_
          case h22 => (intro w; go_simp; try (with_reducible rfl))
          go_simp
          refine wpAny_ready (rs := [10]) (by kernel_rfl) (by simp) ?_
          refine AllReady.cons rfl (fun K hK => ?_) ?_
          · go_simp
            refine hK _ _ ?_
            clear hK K
            refine wpAny_take (i := 11) (v := ?v23) rfl (by kernel_rfl) (by kernel_rfl) (by kernel_rfl) (fun _ _ _ h => h) (Or.inl ⟨by rfl, ?h23⟩) ?_
            case h23 => (intro w; go_simp; try (with_reducible rfl))
            go_simp
            refine wpAny_done (by kernel_rfl) ?_ _
            go_wp2_with fail
            go_ret
            exact ⟨rfl, BF.out⟩
          exact AllReady.nil
        exact AllReady.nil
      exact AllReady.nil
    refine AllReady.cons rfl (fun K hK => ?_) ?_
    · go_simp
      refine hK _ _ ?_
      clear hK K
      refine wpAny_ready (rs := [3]) (by kernel_rfl) (by simp) ?_
      refine AllReady.cons rfl (fun K hK => ?_) ?_
      · go_simp
        refine hK _ _ ?_
        clear hK K
        refine wpAny_ready (rs := [5]) (by kernel_rfl) (by simp) ?_
        refine AllReady.cons rfl (fun K hK => ?_) ?_
        · go_simp
          refine hK _ _ ?_
          clear hK K
          refine wpAny_take (i := 6) (v := ?v24) rfl (by kernel_rfl) (by kernel_rfl) (by kernel_rfl) (fun _ _ _ h => h) (Or.inl ⟨by rfl, ?h24⟩) ?_
          case h24 => (intro w; go_simp; try (with_reducible rfl))
          go_simp
          refine wpAny_take (i := 7) (v := ?v25) rfl (by kernel_rfl) (by kernel_rfl) (by kernel_rfl) (fun _ _ _ h => h) (Or.inl ⟨by rfl, ?h25⟩) ?_
          case h25 => (intro w; go_simp; try (with_reducible rfl))
          go_simp
          refine wpAny_take (i := 8) (v := ?v26) rfl (by kernel_rfl) (by kernel_rfl) (by kernel_rfl) (fun _ _ _ h => h) (Or.inl ⟨by rfl, ?h26⟩) ?_
          case h26 => (intro w; go_simp; try (with_reducible rfl))
          go_simp
          refine wpAny_ready (rs := [10]) (by kernel_rfl) (by simp) ?_
          refine AllReady.cons rfl (fun K hK => ?_) ?_
          · go_simp
            refine hK _ _ ?_
            clear hK K
            refine wpAny_take (i := 11) (v := ?v27) rfl (by kernel_rfl) (by kernel_rfl) (by kernel_rfl) (fun _ _ _ h => h) (Or.inl ⟨by rfl, ?h27⟩) ?_
            case h27 => (intro w; go_simp; try (with_reducible rfl))
            go_simp
            refine wpAny_done (by kernel_rfl) ?_ _
            go_wp2_with fail
            go_ret
            exact ⟨rfl, BF.out⟩
          exact AllReady.nil
        exact AllReady.nil
      exact AllReady.nil
    exact AllReady.nil
  refine AllReady.cons rfl (fun K hK => ?_) ?_
  · go_simp
    refine hK _ _ ?_
    clear hK K
    refine wpAny_ready (rs := [3, 4]) (by kernel_rfl) (by simp) ?_
    refine AllReady.cons rfl (fun K hK => ?_) ?_
    · go_simp
      refine hK _ _ ?_
      clear hK K
      refine wpAny_ready (rs := [4]) (by kernel_rfl) (by simp) ?_
      refine AllReady.cons rfl (fun K hK => ?_) ?_
      · go_simp
        refine hK _ _ ?_
        clear hK K
        refine wpAny_ready (rs := [5]) (by kernel_rfl) (by simp) ?_
        refine AllReady.cons rfl (fun K hK => ?_) ?_
        · go_simp
          refine hK _ _ ?_
          clear hK K
          refine wpAny_take (i := 6) (v := ?v28) rfl (by kernel_rfl) (by kernel_rfl) (by kernel_rfl) (fun _ _ _ h => h) (Or.inl ⟨by rfl, ?h28⟩) ?_
          case h28 => (intro w; go_simp; try (with_reducible rfl))
          go_simp
          refine wpAny_take (i := 7) (v := ?v29) rfl (by kernel_rfl) (by kernel_rfl) (by kernel_rfl) (fun _ _ _ h => h) (Or.inl ⟨by rfl, ?h29⟩) ?_
          case h29 => (intro w; go_simp; try (with_reducible rfl))
          go_simp
          refine wpAny_take (i := 8) (v := ?v30) rfl (by kernel_rfl) (by kernel_rfl) (by kernel_rfl) (fun _ _ _ h => h) (Or.inl ⟨by rfl, ?h30⟩) ?_
          case h30 => (intro w; go_simp; try (with_reducible rfl))
          go_simp
          refine wpAny_ready (rs := [10]) (by kernel_rfl) (by simp) ?_
          refine AllReady.cons rfl (fun K hK => ?_) ?_
          · go_simp
            refine hK _ _ ?_
            clear hK K
            refine wpAny_take (i := 11) (v := ?v31) rfl (by kernel_rfl) (by kernel_rfl) (by kernel_rfl) (fun _ _ _ h => h) (Or.inl ⟨by rfl, ?h31⟩) ?_
            case h31 => (intro w; go_simp; try (with_reducible rfl))
            go_simp
            refine wpAny_done (by kernel_rfl) ?_ _
            go_wp2_with fail
            go_ret
            exact ⟨rfl, BF.out⟩
          exact AllReady.nil
        exact AllReady.nil
      exact AllReady.nil
    refine AllReady.cons rfl (fun K hK => ?_) ?_
    · go_simp
      refine hK _ _ ?_
      clear hK K
      refine wpAny_ready (rs := [3]) (by kernel_rfl) (by simp) ?_
      refine AllReady.cons rfl (fun K hK => ?_) ?_
      · go_simp
        refine hK _ _ ?_
        clear hK K
        refine wpAny_ready (rs := [5]) (by kernel_rfl) (by simp) ?_
        refine AllReady.cons rfl (fun K hK => ?_) ?_
        · go_simp
          refine hK _ _ ?_
          clear hK K
          refine wpAny_take (i := 6) (v := ?v32) rfl (by kernel_rfl) (by kernel_rfl) (by kernel_rfl) (fun _ _ _ h => h) (Or.inl ⟨by rfl, ?h32⟩) ?_
          case h32 => (intro w; go_simp; try (with_reducible rfl))
          go_simp
          refine wpAny_take (i := 7) (v := ?v33) rfl (by kernel_rfl) (by kernel_rfl) (by kernel_rfl) (fun _ _ _ h => h) (Or.inl ⟨by rfl, ?h33⟩) ?_
          case h33 => (intro w; go_simp; try (with_reducible rfl))
          go_simp
          refine wpAny_take (i := 8) (v := ?v34) rfl (by kernel_rfl) (by kernel_rfl) (by kernel_rfl) (fun _ _ _ h => h) (Or.inl ⟨by rfl, ?h34⟩) ?_
          case h34 => (intro w; go_simp; try (with_reducible rfl))
          go_simp
          refine wpAny_ready (rs := [10]) (by kernel_rfl) (by simp) ?_
          refine AllReady.cons rfl (fun K hK => ?_) ?_
          · go_simp
            refine hK _ _ ?_
            clear hK K
            refine wpAny_take (i := 11) (v := ?v35) rfl (by kernel_rfl) (by kernel_rfl) (by kernel_rfl) (fun _ _ _ h => h) (Or.inl ⟨by rfl, ?h35⟩) ?_
            case h35 => (intro w; go_simp; try (with_reducible rfl))
            go_simp
            refine wpAny_done (by kernel_rfl) ?_ _
            go_wp2_with fail
            go_ret
            exact ⟨rfl, BF.out⟩
          exact AllReady.nil
        exact AllReady.nil
      exact AllReady.nil
    exact AllReady.nil
  exact AllReady.nil

theorem sb_map {w : World} {g b : Nat} {v : Value} {ts : List T} (h : Sb w g v) (m : Bg w b ts) : g ≠ b := by
  rintro rfl
  obtain ⟨es, cl, m1, _⟩ := m
  unfold Sb at h
  rw [m1] at h
  cases h
theorem row_map {w : World} {b base n e size : Nat} {v : Value} {xs : List Value} {ts : List T} (o : w.ownsRow base e size v n xs) (m : Bg w b ts) : some b ≠ v.ownBlock := by
  intro eq
  obtain ⟨es, cl, m1, _⟩ := m
  rcases o.2 with ⟨rfl, _⟩ | ⟨g', cap', cur, rfl, hb, hg, hr⟩
  · simp [Value.ownBlock] at eq
  · simp [Value.ownBlock] at eq
    subst eq
    rw [hg] at m1
    cases m1
theorem tc_map {w : World} {g b : Nat} {c : Array Value} {ts : List T} (h : Tc w g c) (m : Bg w b ts) : g ≠ b := by
  rintro rfl
  obtain ⟨es, cl, m1, _⟩ := m
  unfold Tc at h
  rw [m1] at h
  cases h
theorem bx_map {w : World} {g b : Nat} {c : Array Value} {t : TypeId} {ts : List T} (h : w.heap[g]? = some (.cells c t)) (m : Bg w b ts) : g ≠ b := by
  rintro rfl
  obtain ⟨es, cl, m1, _⟩ := m
  rw [m1] at h
  cases h
set_option maxHeartbeats 4000000 in
set_option maxRecDepth 100000 in
theorem put_tomb (base g gl bl gs bm : Nat) (vt : Value) (P : Nat → Prop) (S : St) (q : Int) (k v : ByteArray) (h : Int) (w : World) (H : Tx w base g gl bl gs bm vt P S) (hbase : base ≤ w.heap.size) (hh : has S.ts k q = false) (hv : vd ⟨k, v, q⟩ = true) (hn : (S.ts.length + 1) * 40 ≤ 140737488355328) :
    Calls Try.prog 51 #[.pointer (some ⟨g, 0, none⟩), .int .u64 q, .agg #[.int .i64 2, .string k, .string v], .int .i64 h] w fun e w' => e = .returned (.int .i64 0) ∧ Fp (fun j => j = gs ∨ vt.ownBlock = some j ∨ j = bm) w w' ∧ ∃ vt', Sb w' gs vt' ∧ OwnT w' base vt' (S.ts ++ [⟨k, v, q⟩]) ∧ Bg w' bm (S.ts ++ [⟨k, v, q⟩]) ∧ (∀ j, vt'.ownBlock = some j → vt.ownBlock = some j ∨ w.heap.size ≤ j) := by
  obtain ⟨c, hcc⟩ : ∃ c : Int, c = 2 := ⟨_, rfl⟩
  rw [← hcc]
  obtain ⟨W0, hW0⟩ : ∃ W, W = w.alloc (.cells #[.int .i64 c, .string k, .string v] 32) := ⟨_, rfl⟩
  obtain ⟨W1, hW1⟩ : ∃ W, W = W0.alloc (.cells #[.string k, .int .u64 q, .int .i64 c] 48) := ⟨_, rfl⟩
  have B0 : Below w.heap.size w W0 := by rw [hW0]; exact box_below _ _
  have B01 : Below W0.heap.size W0 W1 := by rw [hW1]; exact box_below _ _
  have B1 : Below w.heap.size w W1 := B0.trans (B01.mono B0.size)
  obtain ⟨gt, hgt⟩ : ∃ n, n = w.heap.size := ⟨_, rfl⟩
  have kA : W0.heap[gt]? = some (.cells #[.int .i64 c, .string k, .string v] 32) := by rw [hW0, hgt]; exact new_at _ _
  have s0 : W0.heap.size = gt + 1 := by rw [hW0, hgt]; simp
  have s1 : W1.heap.size = gt + 2 := by rw [hW1]; simp [s0]
  have kB : W1.heap[gt]? = some (.cells #[.int .i64 c, .string k, .string v] 32) := (B01.block gt (by omega)).trans kA
  have kK : Bx W1 (gt + 1) k q c := by rw [hW1, ← s0]; exact new_at _ _
  have HX := H.later B1
  obtain ⟨D, hD⟩ : ∃ D, D = World.drew W1 := ⟨_, rfl⟩
  have BD : Below W1.heap.size W1 D := by rw [hD]; exact (Below.refl _ _).drew
  have bA := box_below D (.cells #[] 143)
  have HD := HX.later BD
  have HA := HD.later bA
  have kD : Bx D (gt + 1) k q c := kK.later BD
  have kE := kD.later bA
  have lD := HD.m.look k q
  have lA := HA.m.look k q
  rw [hh] at lD lA
  have cD : D.cell? ⟨g, 4, none⟩ = some (.map (some bm)) := HD.c.cell 4
  have cA : (D.alloc (.cells #[] 143)).cell? ⟨g, 4, none⟩ = some (.map (some bm)) := HA.c.cell 4
  obtain ⟨A, hA⟩ : ∃ A, A = D.alloc (.cells #[] 143) := ⟨_, rfl⟩
  have kBA : A.heap[gt]? = some (.cells #[.int .i64 c, .string k, .string v] 32) := by rw [hA]; exact (bA.block gt (by have := BD.size; omega)).trans ((BD.block gt (by omega)).trans kB)
  have kEA : Bx A (gt + 1) k q c := by rw [hA]; exact kE
  have HAA : Tx A base g gl bl gs bm vt P S := by rw [hA]; exact HA
  have BA : Below w.heap.size w A := by rw [hA]; exact B1.trans ((BD.trans (bA.mono BD.size)).mono B1.size)
  obtain ⟨E, hE⟩ : ∃ E, E = World.drew A := ⟨_, rfl⟩
  have bE : Below A.heap.size A E := by rw [hE]; exact (Below.refl _ _).drew
  have HE := HAA.later bE
  have kEE := kEA.later bE
  have kBE : E.heap[gt]? = some (.cells #[.int .i64 c, .string k, .string v] 32) := (bE.block gt (Array.getElem?_eq_some_iff.1 kBA).1).trans kBA
  have BE : Below w.heap.size w E := BA.trans (bE.mono BA.size)
  have cE : E.cell? ⟨g, 4, none⟩ = some (.map (some bm)) := HE.c.cell 4
  obtain ⟨W7, hrun, hm7, g7⟩ := HE.m.more ⟨k, v, q⟩ hh
  unfold mkey at hrun
  dsimp only at hrun
  obtain ⟨F, hF⟩ : ∃ F, F = World.drew W7 := ⟨_, rfl⟩
  have bF : Below W7.heap.size W7 F := by rw [hF]; exact (Below.refl _ _).drew
  have s7 : Sb W7 gs vt := (g7.block gs HE.s.lt (fun e => sb_map HE.s HE.m (Option.some.inj e))).trans HE.s
  have o7 : OwnT W7 base vt S.ts := own_blocks HE.o (fun j hj => g7.block j (own_lt HE.o j hj).2 (fun e => row_map HE.o HE.m (by rw [hj]; exact e.symm)))
  have c7 : Tc W7 g (S.cells gl gs bm) := (g7.block g HE.c.lt (fun e => tc_map HE.c HE.m (Option.some.inj e))).trans HE.c
  have k7 : W7.heap[gt]? = some (.cells #[.int .i64 c, .string k, .string v] 32) := (g7.block gt (Array.getElem?_eq_some_iff.1 kBE).1 (fun e => bx_map kBE HE.m (Option.some.inj e))).trans kBE
  have sF : Sb F gs vt := (bF.block gs s7.lt).trans s7
  have oF : OwnT F base vt S.ts := own_blocks o7 (fun j hj => bF.block j (own_lt o7 j hj).2)
  have mF : Bg F bm (S.ts ++ [⟨k, v, q⟩]) := hm7.blk (bF.block bm hm7.lt)
  have cF : Tc F g (S.cells gl gs bm) := (bF.block g c7.lt).trans c7
  have kF : F.heap[gt]? = some (.cells #[.int .i64 c, .string k, .string v] 32) := (bF.block gt (Array.getElem?_eq_some_iff.1 k7).1).trans k7
  have hs7 := g7.size
  have hsF := bF.size
  have hsE := BE.size
  have FF : Fp (fun j => j = gs ∨ vt.ownBlock = some j ∨ j = bm) w F := Fp.below (Fp.grown (Fp.of BE) g7 (fun j hj => .inl (.inr (.inr (Option.some.inj hj).symm)))) bF
  have HS := hid (setadd_yes base gs vt S.ts k v q F sF oF hv hn (by omega))
  have x3 : F.cell? ⟨g, 3, none⟩ = some (.pointer (some ⟨gs, 0, none⟩)) := cF.cell 3
  have x5 := cell_of kF 1 (.string k) rfl
  have x7 := cell_of kF 2 (.string v) rfl
  have t0 := cell_of kA 0 (.int .i64 c) rfl
  have t1 := cell_of kA 1 (.string k) rfl
  have u0 := cell_of kB 0 (.int .i64 c) rfl
  have y0 := kD.c0
  have y1 := kD.c1
  have y2 := kD.c2
  have z0 := kE.c0
  have z1 := kE.c1
  have z2 := kE.c2
  have r0 := kEE.c0
  have r1 := kEE.c1
  have r2 := kEE.c2
  have hwF : w.heap.size ≤ F.heap.size := by omega
  replace FF := hid FF
  replace mF := hid mF
  replace sF := hid sF
  subst hcc
  replace hrun := hrun
  replace hW0 := hid hW0
  replace hW1 := hid hW1
  replace hgt := hid hgt
  replace s0 := hid s0
  replace hD := hid hD
  replace hA := hid hA
  replace hE := hid hE
  replace hF := hid hF
  replace hwF := hid hwF
  replace oF := hid oF
  have FIN : Hid (∀ w2 vt', Sb w2 gs vt' → OwnT w2 base vt' (S.ts ++ [⟨k, v, q⟩]) → Fp (fun j => j = gs ∨ vt.ownBlock = some j) F w2 → (∀ j, vt'.ownBlock = some j → vt.ownBlock = some j ∨ F.heap.size ≤ j) → Fp (fun j => j = gs ∨ vt.ownBlock = some j ∨ j = bm) w w2 ∧ ∃ vt', Sb w2 gs vt' ∧ OwnT w2 base vt' (S.ts ++ [⟨k, v, q⟩]) ∧ Bg w2 bm (S.ts ++ [⟨k, v, q⟩]) ∧ (∀ j, vt'.ownBlock = some j → vt.ownBlock = some j ∨ w.heap.size ≤ j)) := by
    intro w2 vt' h1 h2 h3 h4
    refine ⟨FF.out.trans (h3.wide (fun j _ hj => .inl (hj.imp id .inl))), vt', h1, h2, mF.out.blk (h3.block bm mF.out.lt ?_), fun j hj => (h4 j hj).imp id (Nat.le_trans hwF.out)⟩
    rintro (e | e)
    · exact sb_map sF.out mF.out e.symm
    · exact row_map oF.out mF.out e.symm
  clear kA kB kK HX B0 B01 H s1 hh B1 BD bA HD HA kD kE BA bE BE HE kEE kBE HAA kEA kBA hm7 g7 bF s7 o7 c7 k7 cF kF hs7 hsF hsE hn hv hbase
  go_enter Try.func51, Try.ntmps51
  go_wp2_with fail
  rw [← hW0.out, ← hgt.out]
  go_wp2_with fail
  rw [← hW1.out]
  refine wp_region_any (by kernel_rfl) ?_
  change wpAny _ _ _ _ _ _ _ (World.drew _)
  rw [← hD.out]
  refine wpAny_take (i := 0) (v := ?v36) rfl (by kernel_rfl) (by kernel_rfl) (by kernel_rfl) (fun _ _ _ h => h) (Or.inl ⟨by rfl, ?h36⟩) ?_
  case h36 => (intro w; go_simp; try (with_reducible rfl))
  go_simp
  refine wpAny_take (i := 1) (v := ?v37) rfl (by kernel_rfl) (by kernel_rfl) (by kernel_rfl) (fun _ _ _ h => h) (Or.inl ⟨by rfl, ?h37⟩) ?_
  case h37 => (intro w; go_simp; try (with_reducible rfl))
  go_simp
  refine wpAny_take (i := 2) (v := ?v38) rfl (by kernel_rfl) (by kernel_rfl) (by kernel_rfl) (fun _ _ _ h => h) (Or.inl ⟨by rfl, ?h38⟩) ?_
  case h38 => (intro w; go_simp; try (with_reducible rfl))
  go_simp
  refine wpAny_ready (rs := [3, 4, 9]) (by kernel_rfl) (by simp) ?_
  refine AllReady.cons rfl (fun K hK => ?_) ?_
  · go_simp
    refine hK _ _ ?_
    clear hK K
    refine wpAny_ready (rs := [4, 9]) (by kernel_rfl) (by simp) ?_
    refine AllReady.cons rfl (fun K hK => ?_) ?_
    · go_simp
      refine hK _ _ ?_
      clear hK K
      refine wpAny_ready (rs := [5, 9]) (by kernel_rfl) (by simp) ?_
      refine AllReady.cons rfl (fun K hK => ?_) ?_
      · go_simp
        refine hK _ _ ?_
        clear hK K
        refine wpAny_take (i := 6) (v := ?v39) rfl (by kernel_rfl) (by kernel_rfl) (by kernel_rfl) (fun _ _ _ h => h) (Or.inl ⟨by rfl, ?h39⟩) ?_
        case h39 => (intro w; go_simp; try (with_reducible rfl))
        go_simp
        refine wpAny_take (i := 7) (v := ?v40) rfl (by kernel_rfl) (by kernel_rfl) (by kernel_rfl) (fun _ _ _ h => h) (Or.inl ⟨by rfl, ?h40⟩) ?_
        case h40 => (intro w; go_simp; try (with_reducible rfl))
        go_simp
        refine wpAny_take (i := 8) (v := ?v41) rfl (by kernel_rfl) (by kernel_rfl) (by kernel_rfl) (fun _ _ _ h => h) (Or.inl ⟨by rfl, ?h41⟩) ?_
        case h41 => (intro w; go_simp; try (with_reducible rfl))
        go_simp
        refine wpAny_ready (rs := [9]) (by kernel_rfl) (by simp) ?_
        refine AllReady.cons rfl (fun K hK => ?_) ?_
        · go_simp
          refine hK _ _ ?_
          clear hK K
          refine wpAny_ready (rs := [10]) (by kernel_rfl) (by simp) ?_
          refine AllReady.cons rfl (fun K hK => ?_) ?_
          · go_simp
            refine hK _ _ ?_
            clear hK K
            refine wpAny_take (i := 11) (v := ?v42) rfl (by kernel_rfl) (by kernel_rfl) (by kernel_rfl) (fun _ _ _ h => h) (Or.inl ⟨by rfl, ?h42⟩) ?_
            case h42 => (intro w; go_simp; try (with_reducible rfl))
            go_simp
            refine wpAny_done (by kernel_rfl) ?_ _
            rw [← hA.out]
            go_wp2_with fail
            refine wp_region_any (by kernel_rfl) ?_
            change wpAny _ _ _ _ _ _ _ (World.drew _)
            rw [← hE.out]
            refine wpAny_take (i := 0) (v := ?v43) rfl (by kernel_rfl) (by kernel_rfl) (by kernel_rfl) (fun _ _ _ h => h) (Or.inl ⟨by rfl, ?h43⟩) ?_
            case h43 => (intro w; go_simp; try (with_reducible rfl))
            go_simp
            refine wpAny_take (i := 1) (v := ?v44) rfl (by kernel_rfl) (by kernel_rfl) (by kernel_rfl) (fun _ _ _ h => h) (Or.inl ⟨by rfl, ?h44⟩) ?_
            case h44 => (intro w; go_simp; try (with_reducible rfl))
            go_simp
            refine wpAny_take (i := 2) (v := ?v45) rfl (by kernel_rfl) (by kernel_rfl) (by kernel_rfl) (fun _ _ _ h => h) (Or.inl ⟨by rfl, ?h45⟩) ?_
            case h45 => (intro w; go_simp; try (with_reducible rfl))
            go_simp
            refine wpAny_take (i := 5) (v := ?v46) rfl (by kernel_rfl) (by kernel_rfl) (by kernel_rfl) (fun _ _ _ h => h) (Or.inl ⟨by rfl, ?h46⟩) ?_
            case h46 => (intro w; go_simp; try (with_reducible rfl))
            go_simp
            refine wpAny_ready (rs := [3, 4]) (by kernel_rfl) (by simp) ?_
            refine AllReady.cons rfl (fun K hK => ?_) ?_
            · go_simp
              refine hK _ _ ?_
              clear hK K
              refine wpAny_ready (rs := [4]) (by kernel_rfl) (by simp) ?_
              refine AllReady.cons rfl (fun K hK => ?_) ?_
              · go_simp
                refine hK _ _ ?_
                clear hK K
                refine wpAny_ready (rs := [6]) (by kernel_rfl) (by simp) ?_
                refine AllReady.cons rfl (fun K hK => ?_) ?_
                · go_simp
                  refine hK _ _ ?_
                  clear hK K
                  refine wpAny_done (by kernel_rfl) ?_ _
                  go_wp2_with fail
                  refine region_tail 10 (by kernel_rfl) (by kernel_rfl) ?_
                  rw [← hF.out]
                  simp only [List.take_succ_cons, List.take_zero, List.drop_succ_cons, List.drop_zero]
                  repeat still_step
                  refine wpStill_nil ?_
                  go_wp2_with fail
                  refine HS.out.mono ?_
                  rintro e w2 ⟨rfl, vt', h1, h2, h3, h4⟩
                  have h5 := hid (FIN.out w2 vt' h1 h2 h3 h4)
                  clear h1 h2 h3 h4
                  go_wp2_with fail
                  go_ret
                  exact ⟨rfl, h5.out⟩
                exact AllReady.nil
              exact AllReady.nil
            refine AllReady.cons rfl (fun K hK => ?_) ?_
            · go_simp
              refine hK _ _ ?_
              clear hK K
              refine wpAny_ready (rs := [3]) (by kernel_rfl) (by simp) ?_
              refine AllReady.cons rfl (fun K hK => ?_) ?_
              · go_simp
                refine hK _ _ ?_
                clear hK K
                refine wpAny_ready (rs := [6]) (by kernel_rfl) (by simp) ?_
                refine AllReady.cons rfl (fun K hK => ?_) ?_
                · go_simp
                  refine hK _ _ ?_
                  clear hK K
                  refine wpAny_done (by kernel_rfl) ?_ _
                  go_wp2_with fail
                  refine region_tail 10 (by kernel_rfl) (by kernel_rfl) ?_
                  rw [← hF.out]
                  simp only [List.take_succ_cons, List.take_zero, List.drop_succ_cons, List.drop_zero]
                  repeat still_step
                  refine wpStill_nil ?_
                  go_wp2_with fail
                  refine HS.out.mono ?_
                  rintro e w2 ⟨rfl, vt', h1, h2, h3, h4⟩
                  have h5 := hid (FIN.out w2 vt' h1 h2 h3 h4)
                  clear h1 h2 h3 h4
                  go_wp2_with fail
                  go_ret
                  exact ⟨rfl, h5.out⟩
                exact AllReady.nil
              exact AllReady.nil
            exact AllReady.nil
          exact AllReady.nil
        exact AllReady.nil
      refine AllReady.cons rfl (fun K hK => ?_) ?_
      · go_simp
        refine hK _ _ ?_
        clear hK K
        refine wpAny_ready (rs := [5]) (by kernel_rfl) (by simp) ?_
        refine AllReady.cons rfl (fun K hK => ?_) ?_
        · go_simp
          refine hK _ _ ?_
          clear hK K
          refine wpAny_take (i := 6) (v := ?v47) rfl (by kernel_rfl) (by kernel_rfl) (by kernel_rfl) (fun _ _ _ h => h) (Or.inl ⟨by rfl, ?h47⟩) ?_
          case h47 => (intro w; go_simp; try (with_reducible rfl))
          go_simp
          refine wpAny_take (i := 7) (v := ?v48) rfl (by kernel_rfl) (by kernel_rfl) (by kernel_rfl) (fun _ _ _ h => h) (Or.inl ⟨by rfl, ?h48⟩) ?_
          case h48 => (intro w; go_simp; try (with_reducible rfl))
          go_simp
          refine wpAny_take (i := 8) (v := ?v49) rfl (by kernel_rfl) (by kernel_rfl) (by kernel_rfl) (fun _ _ _ h => h) (Or.inl ⟨by rfl, ?h49⟩) ?_
          case h49 => (intro w; go_simp; try (with_reducible rfl))
          go_simp
          refine wpAny_ready (rs := [10]) (by kernel_rfl) (by simp) ?_
          refine AllReady.cons rfl (fun K hK => ?_) ?_
          · go_simp
            refine hK _ _ ?_
            clear hK K
            refine wpAny_take (i := 11) (v := ?v50) rfl (by kernel_rfl) (by kernel_rfl) (by kernel_rfl) (fun _ _ _ h => h) (Or.inl ⟨by rfl, ?h50⟩) ?_
            case h50 => (intro w; go_simp; try (with_reducible rfl))
            go_simp
            refine wpAny_done (by kernel_rfl) ?_ _
            rw [← hA.out]
            go_wp2_with fail
            refine wp_region_any (by kernel_rfl) ?_
            change wpAny _ _ _ _ _ _ _ (World.drew _)
            rw [← hE.out]
            refine wpAny_take (i := 0) (v := ?v51) rfl (by kernel_rfl) (by kernel_rfl) (by kernel_rfl) (fun _ _ _ h => h) (Or.inl ⟨by rfl, ?h51⟩) ?_
            case h51 => (intro w; go_simp; try (with_reducible rfl))
            go_simp
            refine wpAny_take (i := 1) (v := ?v52) rfl (by kernel_rfl) (by kernel_rfl) (by kernel_rfl) (fun _ _ _ h => h) (Or.inl ⟨by rfl, ?h52⟩) ?_
            case h52 => (intro w; go_simp; try (with_reducible rfl))
            go_simp
            refine wpAny_take (i := 2) (v := ?v53) rfl (by kernel_rfl) (by kernel_rfl) (by kernel_rfl) (fun _ _ _ h => h) (Or.inl ⟨by rfl, ?h53⟩) ?_
            case h53 => (intro w; go_simp; try (with_reducible rfl))
            go_simp
            refine wpAny_take (i := 5) (v := ?v54) rfl (by kernel_rfl) (by kernel_rfl) (by kernel_rfl) (fun _ _ _ h => h) (Or.inl ⟨by rfl, ?h54⟩) ?_
            case h54 => (intro w; go_simp; try (with_reducible rfl))
            go_simp
            refine wpAny_ready (rs := [3, 4]) (by kernel_rfl) (by simp) ?_
            refine AllReady.cons rfl (fun K hK => ?_) ?_
            · go_simp
              refine hK _ _ ?_
              clear hK K
              refine wpAny_ready (rs := [4]) (by kernel_rfl) (by simp) ?_
              refine AllReady.cons rfl (fun K hK => ?_) ?_
              · go_simp
                refine hK _ _ ?_
                clear hK K
                refine wpAny_ready (rs := [6]) (by kernel_rfl) (by simp) ?_
                refine AllReady.cons rfl (fun K hK => ?_) ?_
                · go_simp
                  refine hK _ _ ?_
                  clear hK K
                  refine wpAny_done (by kernel_rfl) ?_ _
                  go_wp2_with fail
                  refine region_tail 10 (by kernel_rfl) (by kernel_rfl) ?_
                  rw [← hF.out]
                  simp only [List.take_succ_cons, List.take_zero, List.drop_succ_cons, List.drop_zero]
                  repeat still_step
                  refine wpStill_nil ?_
                  go_wp2_with fail
                  refine HS.out.mono ?_
                  rintro e w2 ⟨rfl, vt', h1, h2, h3, h4⟩
                  have h5 := hid (FIN.out w2 vt' h1 h2 h3 h4)
                  clear h1 h2 h3 h4
                  go_wp2_with fail
                  go_ret
                  exact ⟨rfl, h5.out⟩
                exact AllReady.nil
              exact AllReady.nil
            refine AllReady.cons rfl (fun K hK => ?_) ?_
            · go_simp
              refine hK _ _ ?_
              clear hK K
              refine wpAny_ready (rs := [3]) (by kernel_rfl) (by simp) ?_
              refine AllReady.cons rfl (fun K hK => ?_) ?_
              · go_simp
                refine hK _ _ ?_
                clear hK K
                refine wpAny_ready (rs := [6]) (by kernel_rfl) (by simp) ?_
                refine AllReady.cons rfl (fun K hK => ?_) ?_
                · go_simp
                  refine hK _ _ ?_
                  clear hK K
                  refine wpAny_done (by kernel_rfl) ?_ _
                  go_wp2_with fail
                  refine region_tail 10 (by kernel_rfl) (by kernel_rfl) ?_
                  rw [← hF.out]
                  simp only [List.take_succ_cons, List.take_zero, List.drop_succ_cons, List.drop_zero]
                  repeat still_step
                  refine wpStill_nil ?_
                  go_wp2_with fail
                  refine HS.out.mono ?_
                  rintro e w2 ⟨rfl, vt', h1, h2, h3, h4⟩
                  have h5 := hid (FIN.out w2 vt' h1 h2 h3 h4)
                  clear h1 h2 h3 h4
                  go_wp2_with fail
                  go_ret
                  exact ⟨rfl, h5.out⟩
                exact AllReady.nil
              exact AllReady.nil
            exact AllReady.nil
          exact AllReady.nil
        exact AllReady.nil
      exact AllReady.nil
    refine AllReady.cons rfl (fun K hK => ?_) ?_
    · go_simp
      refine hK _ _ ?_
      clear hK K
      refine wpAny_ready (rs := [4]) (by kernel_rfl) (by simp) ?_
      refine AllReady.cons rfl (fun K hK => ?_) ?_
      · go_simp
        refine hK _ _ ?_
        clear hK K
        refine wpAny_ready (rs := [5]) (by kernel_rfl) (by simp) ?_
        refine AllReady.cons rfl (fun K hK => ?_) ?_
        · go_simp
          refine hK _ _ ?_
          clear hK K
          refine wpAny_take (i := 6) (v := ?v55) rfl (by kernel_rfl) (by kernel_rfl) (by kernel_rfl) (fun _ _ _ h => h) (Or.inl ⟨by rfl, ?h55⟩) ?_
          case h55 => (intro w; go_simp; try (with_reducible rfl))
          go_simp
          refine wpAny_take (i := 7) (v := ?v56) rfl (by kernel_rfl) (by kernel_rfl) (by kernel_rfl) (fun _ _ _ h => h) (Or.inl ⟨by rfl, ?h56⟩) ?_
          case h56 => (intro w; go_simp; try (with_reducible rfl))
          go_simp
          refine wpAny_take (i := 8) (v := ?v57) rfl (by kernel_rfl) (by kernel_rfl) (by kernel_rfl) (fun _ _ _ h => h) (Or.inl ⟨by rfl, ?h57⟩) ?_
          case h57 => (intro w; go_simp; try (with_reducible rfl))
          go_simp
          refine wpAny_ready (rs := [10]) (by kernel_rfl) (by simp) ?_
          refine AllReady.cons rfl (fun K hK => ?_) ?_
          · go_simp
            refine hK _ _ ?_
            clear hK K
            refine wpAny_take (i := 11) (v := ?v58) rfl (by kernel_rfl) (by kernel_rfl) (by kernel_rfl) (fun _ _ _ h => h) (Or.inl ⟨by rfl, ?h58⟩) ?_
            case h58 => (intro w; go_simp; try (with_reducible rfl))
            go_simp
            refine wpAny_done (by kernel_rfl) ?_ _
            rw [← hA.out]
            go_wp2_with fail
            refine wp_region_any (by kernel_rfl) ?_
            change wpAny _ _ _ _ _ _ _ (World.drew _)
            rw [← hE.out]
            refine wpAny_take (i := 0) (v := ?v59) rfl (by kernel_rfl) (by kernel_rfl) (by kernel_rfl) (fun _ _ _ h => h) (Or.inl ⟨by rfl, ?h59⟩) ?_
            case h59 => (intro w; go_simp; try (with_reducible rfl))
            go_simp
            refine wpAny_take (i := 1) (v := ?v60) rfl (by kernel_rfl) (by kernel_rfl) (by kernel_rfl) (fun _ _ _ h => h) (Or.inl ⟨by rfl, ?h60⟩) ?_
            case h60 => (intro w; go_simp; try (with_reducible rfl))
            go_simp
            refine wpAny_take (i := 2) (v := ?v61) rfl (by kernel_rfl) (by kernel_rfl) (by kernel_rfl) (fun _ _ _ h => h) (Or.inl ⟨by rfl, ?h61⟩) ?_
            case h61 => (intro w; go_simp; try (with_reducible rfl))
            go_simp
            refine wpAny_take (i := 5) (v := ?v62) rfl (by kernel_rfl) (by kernel_rfl) (by kernel_rfl) (fun _ _ _ h => h) (Or.inl ⟨by rfl, ?h62⟩) ?_
            case h62 => (intro w; go_simp; try (with_reducible rfl))
            go_simp
            refine wpAny_ready (rs := [3, 4]) (by kernel_rfl) (by simp) ?_
            refine AllReady.cons rfl (fun K hK => ?_) ?_
            · go_simp
              refine hK _ _ ?_
              clear hK K
              refine wpAny_ready (rs := [4]) (by kernel_rfl) (by simp) ?_
              refine AllReady.cons rfl (fun K hK => ?_) ?_
              · go_simp
                refine hK _ _ ?_
                clear hK K
                refine wpAny_ready (rs := [6]) (by kernel_rfl) (by simp) ?_
                refine AllReady.cons rfl (fun K hK => ?_) ?_
                · go_simp
                  refine hK _ _ ?_
                  clear hK K
                  refine wpAny_done (by kernel_rfl) ?_ _
                  go_wp2_with fail
                  refine region_tail 10 (by kernel_rfl) (by kernel_rfl) ?_
                  rw [← hF.out]
                  simp only [List.take_succ_cons, List.take_zero, List.drop_succ_cons, List.drop_zero]
                  repeat still_step
                  refine wpStill_nil ?_
                  go_wp2_with fail
                  refine HS.out.mono ?_
                  rintro e w2 ⟨rfl, vt', h1, h2, h3, h4⟩
                  have h5 := hid (FIN.out w2 vt' h1 h2 h3 h4)
                  clear h1 h2 h3 h4
                  go_wp2_with fail
                  go_ret
                  exact ⟨rfl, h5.out⟩
                exact AllReady.nil
              exact AllReady.nil
            refine AllReady.cons rfl (fun K hK => ?_) ?_
            · go_simp
              refine hK _ _ ?_
              clear hK K
              refine wpAny_ready (rs := [3]) (by kernel_rfl) (by simp) ?_
              refine AllReady.cons rfl (fun K hK => ?_) ?_
              · go_simp
                refine hK _ _ ?_
                clear hK K
                refine wpAny_ready (rs := [6]) (by kernel_rfl) (by simp) ?_
                refine AllReady.cons rfl (fun K hK => ?_) ?_
                · go_simp
                  refine hK _ _ ?_
                  clear hK K
                  refine wpAny_done (by kernel_rfl) ?_ _
                  go_wp2_with fail
                  refine region_tail 10 (by kernel_rfl) (by kernel_rfl) ?_
                  rw [← hF.out]
                  simp only [List.take_succ_cons, List.take_zero, List.drop_succ_cons, List.drop_zero]
                  repeat still_step
                  refine wpStill_nil ?_
                  go_wp2_with fail
                  refine HS.out.mono ?_
                  rintro e w2 ⟨rfl, vt', h1, h2, h3, h4⟩
                  have h5 := hid (FIN.out w2 vt' h1 h2 h3 h4)
                  clear h1 h2 h3 h4
                  go_wp2_with fail
                  go_ret
                  exact ⟨rfl, h5.out⟩
                exact AllReady.nil
              exact AllReady.nil
            exact AllReady.nil
          exact AllReady.nil
        exact AllReady.nil
      exact AllReady.nil
    exact AllReady.nil
  refine AllReady.cons rfl (fun K hK => ?_) ?_
  · go_simp
    refine hK _ _ ?_
    clear hK K
    refine wpAny_ready (rs := [3, 9]) (by kernel_rfl) (by simp) ?_
    refine AllReady.cons rfl (fun K hK => ?_) ?_
    · go_simp
      refine hK _ _ ?_
      clear hK K
      refine wpAny_ready (rs := [5, 9]) (by kernel_rfl) (by simp) ?_
      refine AllReady.cons rfl (fun K hK => ?_) ?_
      · go_simp
        refine hK _ _ ?_
        clear hK K
        refine wpAny_take (i := 6) (v := ?v63) rfl (by kernel_rfl) (by kernel_rfl) (by kernel_rfl) (fun _ _ _ h => h) (Or.inl ⟨by rfl, ?h63⟩) ?_
        case h63 => (intro w; go_simp; try (with_reducible rfl))
        go_simp
        refine wpAny_take (i := 7) (v := ?v64) rfl (by kernel_rfl) (by kernel_rfl) (by kernel_rfl) (fun _ _ _ h => h) (Or.inl ⟨by rfl, ?h64⟩) ?_
        case h64 => (intro w; go_simp; try (with_reducible rfl))
        go_simp
        refine wpAny_take (i := 8) (v := ?v65) rfl (by kernel_rfl) (by kernel_rfl) (by kernel_rfl) (fun _ _ _ h => h) (Or.inl ⟨by rfl, ?h65⟩) ?_
        case h65 => (intro w; go_simp; try (with_reducible rfl))
        go_simp
        refine wpAny_ready (rs := [9]) (by kernel_rfl) (by simp) ?_
        refine AllReady.cons rfl (fun K hK => ?_) ?_
        · go_simp
          refine hK _ _ ?_
          clear hK K
          refine wpAny_ready (rs := [10]) (by kernel_rfl) (by simp) ?_
          refine AllReady.cons rfl (fun K hK => ?_) ?_
          · go_simp
            refine hK _ _ ?_
            clear hK K
            refine wpAny_take (i := 11) (v := ?v66) rfl (by kernel_rfl) (by kernel_rfl) (by kernel_rfl) (fun _ _ _ h => h) (Or.inl ⟨by rfl, ?h66⟩) ?_
            case h66 => (intro w; go_simp; try (with_reducible rfl))
            go_simp
            refine wpAny_done (by kernel_rfl) ?_ _
            rw [← hA.out]
            go_wp2_with fail
            refine wp_region_any (by kernel_rfl) ?_
            change wpAny _ _ _ _ _ _ _ (World.drew _)
            rw [← hE.out]
            refine wpAny_take (i := 0) (v := ?v67) rfl (by kernel_rfl) (by kernel_rfl) (by kernel_rfl) (fun _ _ _ h => h) (Or.inl ⟨by rfl, ?h67⟩) ?_
            case h67 => (intro w; go_simp; try (with_reducible rfl))
            go_simp
            refine wpAny_take (i := 1) (v := ?v68) rfl (by kernel_rfl) (by kernel_rfl) (by kernel_rfl) (fun _ _ _ h => h) (Or.inl ⟨by rfl, ?h68⟩) ?_
            case h68 => (intro w; go_simp; try (with_reducible rfl))
            go_simp
            refine wpAny_take (i := 2) (v := ?v69) rfl (by kernel_rfl) (by kernel_rfl) (by kernel_rfl) (fun _ _ _ h => h) (Or.inl ⟨by rfl, ?h69⟩) ?_
            case h69 => (intro w; go_simp; try (with_reducible rfl))
            go_simp
            refine wpAny_take (i := 5) (v := ?v70) rfl (by kernel_rfl) (by kernel_rfl) (by kernel_rfl) (fun _ _ _ h => h) (Or.inl ⟨by rfl, ?h70⟩) ?_
            case h70 => (intro w; go_simp; try (with_reducible rfl))
            go_simp
            refine wpAny_ready (rs := [3, 4]) (by kernel_rfl) (by simp) ?_
            refine AllReady.cons rfl (fun K hK => ?_) ?_
            · go_simp
              refine hK _ _ ?_
              clear hK K
              refine wpAny_ready (rs := [4]) (by kernel_rfl) (by simp) ?_
              refine AllReady.cons rfl (fun K hK => ?_) ?_
              · go_simp
                refine hK _ _ ?_
                clear hK K
                refine wpAny_ready (rs := [6]) (by kernel_rfl) (by simp) ?_
                refine AllReady.cons rfl (fun K hK => ?_) ?_
                · go_simp
                  refine hK _ _ ?_
                  clear hK K
                  refine wpAny_done (by kernel_rfl) ?_ _
                  go_wp2_with fail
                  refine region_tail 10 (by kernel_rfl) (by kernel_rfl) ?_
                  rw [← hF.out]
                  simp only [List.take_succ_cons, List.take_zero, List.drop_succ_cons, List.drop_zero]
                  repeat still_step
                  refine wpStill_nil ?_
                  go_wp2_with fail
                  refine HS.out.mono ?_
                  rintro e w2 ⟨rfl, vt', h1, h2, h3, h4⟩
                  have h5 := hid (FIN.out w2 vt' h1 h2 h3 h4)
                  clear h1 h2 h3 h4
                  go_wp2_with fail
                  go_ret
                  exact ⟨rfl, h5.out⟩
                exact AllReady.nil
              exact AllReady.nil
            refine AllReady.cons rfl (fun K hK => ?_) ?_
            · go_simp
              refine hK _ _ ?_
              clear hK K
              refine wpAny_ready (rs := [3]) (by kernel_rfl) (by simp) ?_
              refine AllReady.cons rfl (fun K hK => ?_) ?_
              · go_simp
                refine hK _ _ ?_
                clear hK K
                refine wpAny_ready (rs := [6]) (by kernel_rfl) (by simp) ?_
                refine AllReady.cons rfl (fun K hK => ?_) ?_
                · go_simp
                  refine hK _ _ ?_
                  clear hK K
                  refine wpAny_done (by kernel_rfl) ?_ _
                  go_wp2_with fail
                  refine region_tail 10 (by kernel_rfl) (by kernel_rfl) ?_
                  rw [← hF.out]
                  simp only [List.take_succ_cons, List.take_zero, List.drop_succ_cons, List.drop_zero]
                  repeat still_step
                  refine wpStill_nil ?_
                  go_wp2_with fail
                  refine HS.out.mono ?_
                  rintro e w2 ⟨rfl, vt', h1, h2, h3, h4⟩
                  have h5 := hid (FIN.out w2 vt' h1 h2 h3 h4)
                  clear h1 h2 h3 h4
                  go_wp2_with fail
                  go_ret
                  exact ⟨rfl, h5.out⟩
                exact AllReady.nil
              exact AllReady.nil
            exact AllReady.nil
          exact AllReady.nil
        exact AllReady.nil
      refine AllReady.cons rfl (fun K hK => ?_) ?_
      · go_simp
        refine hK _ _ ?_
        clear hK K
        refine wpAny_ready (rs := [5]) (by kernel_rfl) (by simp) ?_
        refine AllReady.cons rfl (fun K hK => ?_) ?_
        · go_simp
          refine hK _ _ ?_
          clear hK K
          refine wpAny_take (i := 6) (v := ?v71) rfl (by kernel_rfl) (by kernel_rfl) (by kernel_rfl) (fun _ _ _ h => h) (Or.inl ⟨by rfl, ?h71⟩) ?_
          case h71 => (intro w; go_simp; try (with_reducible rfl))
          go_simp
          refine wpAny_take (i := 7) (v := ?v72) rfl (by kernel_rfl) (by kernel_rfl) (by kernel_rfl) (fun _ _ _ h => h) (Or.inl ⟨by rfl, ?h72⟩) ?_
          case h72 => (intro w; go_simp; try (with_reducible rfl))
          go_simp
          refine wpAny_take (i := 8) (v := ?v73) rfl (by kernel_rfl) (by kernel_rfl) (by kernel_rfl) (fun _ _ _ h => h) (Or.inl ⟨by rfl, ?h73⟩) ?_
          case h73 => (intro w; go_simp; try (with_reducible rfl))
          go_simp
          refine wpAny_ready (rs := [10]) (by kernel_rfl) (by simp) ?_
          refine AllReady.cons rfl (fun K hK => ?_) ?_
          · go_simp
            refine hK _ _ ?_
            clear hK K
            refine wpAny_take (i := 11) (v := ?v74) rfl (by kernel_rfl) (by kernel_rfl) (by kernel_rfl) (fun _ _ _ h => h) (Or.inl ⟨by rfl, ?h74⟩) ?_
            case h74 => (intro w; go_simp; try (with_reducible rfl))
            go_simp
            refine wpAny_done (by kernel_rfl) ?_ _
            rw [← hA.out]
            go_wp2_with fail
            refine wp_region_any (by kernel_rfl) ?_
            change wpAny _ _ _ _ _ _ _ (World.drew _)
            rw [← hE.out]
            refine wpAny_take (i := 0) (v := ?v75) rfl (by kernel_rfl) (by kernel_rfl) (by kernel_rfl) (fun _ _ _ h => h) (Or.inl ⟨by rfl, ?h75⟩) ?_
            case h75 => (intro w; go_simp; try (with_reducible rfl))
            go_simp
            refine wpAny_take (i := 1) (v := ?v76) rfl (by kernel_rfl) (by kernel_rfl) (by kernel_rfl) (fun _ _ _ h => h) (Or.inl ⟨by rfl, ?h76⟩) ?_
            case h76 => (intro w; go_simp; try (with_reducible rfl))
            go_simp
            refine wpAny_take (i := 2) (v := ?v77) rfl (by kernel_rfl) (by kernel_rfl) (by kernel_rfl) (fun _ _ _ h => h) (Or.inl ⟨by rfl, ?h77⟩) ?_
            case h77 => (intro w; go_simp; try (with_reducible rfl))
            go_simp
            refine wpAny_take (i := 5) (v := ?v78) rfl (by kernel_rfl) (by kernel_rfl) (by kernel_rfl) (fun _ _ _ h => h) (Or.inl ⟨by rfl, ?h78⟩) ?_
            case h78 => (intro w; go_simp; try (with_reducible rfl))
            go_simp
            refine wpAny_ready (rs := [3, 4]) (by kernel_rfl) (by simp) ?_
            refine AllReady.cons rfl (fun K hK => ?_) ?_
            · go_simp
              refine hK _ _ ?_
              clear hK K
              refine wpAny_ready (rs := [4]) (by kernel_rfl) (by simp) ?_
              refine AllReady.cons rfl (fun K hK => ?_) ?_
              · go_simp
                refine hK _ _ ?_
                clear hK K
                refine wpAny_ready (rs := [6]) (by kernel_rfl) (by simp) ?_
                refine AllReady.cons rfl (fun K hK => ?_) ?_
                · go_simp
                  refine hK _ _ ?_
                  clear hK K
                  refine wpAny_done (by kernel_rfl) ?_ _
                  go_wp2_with fail
                  refine region_tail 10 (by kernel_rfl) (by kernel_rfl) ?_
                  rw [← hF.out]
                  simp only [List.take_succ_cons, List.take_zero, List.drop_succ_cons, List.drop_zero]
                  repeat still_step
                  refine wpStill_nil ?_
                  go_wp2_with fail
                  refine HS.out.mono ?_
                  rintro e w2 ⟨rfl, vt', h1, h2, h3, h4⟩
                  have h5 := hid (FIN.out w2 vt' h1 h2 h3 h4)
                  clear h1 h2 h3 h4
                  go_wp2_with fail
                  go_ret
                  exact ⟨rfl, h5.out⟩
                exact AllReady.nil
              exact AllReady.nil
            refine AllReady.cons rfl (fun K hK => ?_) ?_
            · go_simp
              refine hK _ _ ?_
              clear hK K
              refine wpAny_ready (rs := [3]) (by kernel_rfl) (by simp) ?_
              refine AllReady.cons rfl (fun K hK => ?_) ?_
              · go_simp
                refine hK _ _ ?_
                clear hK K
                refine wpAny_ready (rs := [6]) (by kernel_rfl) (by simp) ?_
                refine AllReady.cons rfl (fun K hK => ?_) ?_
                · go_simp
                  refine hK _ _ ?_
                  clear hK K
                  refine wpAny_done (by kernel_rfl) ?_ _
                  go_wp2_with fail
                  refine region_tail 10 (by kernel_rfl) (by kernel_rfl) ?_
                  rw [← hF.out]
                  simp only [List.take_succ_cons, List.take_zero, List.drop_succ_cons, List.drop_zero]
                  repeat still_step
                  refine wpStill_nil ?_
                  go_wp2_with fail
                  refine HS.out.mono ?_
                  rintro e w2 ⟨rfl, vt', h1, h2, h3, h4⟩
                  have h5 := hid (FIN.out w2 vt' h1 h2 h3 h4)
                  clear h1 h2 h3 h4
                  go_wp2_with fail
                  go_ret
                  exact ⟨rfl, h5.out⟩
                exact AllReady.nil
              exact AllReady.nil
            exact AllReady.nil
          exact AllReady.nil
        exact AllReady.nil
      exact AllReady.nil
    refine AllReady.cons rfl (fun K hK => ?_) ?_
    · go_simp
      refine hK _ _ ?_
      clear hK K
      refine wpAny_ready (rs := [3]) (by kernel_rfl) (by simp) ?_
      refine AllReady.cons rfl (fun K hK => ?_) ?_
      · go_simp
        refine hK _ _ ?_
        clear hK K
        refine wpAny_ready (rs := [5]) (by kernel_rfl) (by simp) ?_
        refine AllReady.cons rfl (fun K hK => ?_) ?_
        · go_simp
          refine hK _ _ ?_
          clear hK K
          refine wpAny_take (i := 6) (v := ?v79) rfl (by kernel_rfl) (by kernel_rfl) (by kernel_rfl) (fun _ _ _ h => h) (Or.inl ⟨by rfl, ?h79⟩) ?_
          case h79 => (intro w; go_simp; try (with_reducible rfl))
          go_simp
          refine wpAny_take (i := 7) (v := ?v80) rfl (by kernel_rfl) (by kernel_rfl) (by kernel_rfl) (fun _ _ _ h => h) (Or.inl ⟨by rfl, ?h80⟩) ?_
          case h80 => (intro w; go_simp; try (with_reducible rfl))
          go_simp
          refine wpAny_take (i := 8) (v := ?v81) rfl (by kernel_rfl) (by kernel_rfl) (by kernel_rfl) (fun _ _ _ h => h) (Or.inl ⟨by rfl, ?h81⟩) ?_
          case h81 => (intro w; go_simp; try (with_reducible rfl))
          go_simp
          refine wpAny_ready (rs := [10]) (by kernel_rfl) (by simp) ?_
          refine AllReady.cons rfl (fun K hK => ?_) ?_
          · go_simp
            refine hK _ _ ?_
            clear hK K
            refine wpAny_take (i := 11) (v := ?v82) rfl (by kernel_rfl) (by kernel_rfl) (by kernel_rfl) (fun _ _ _ h => h) (Or.inl ⟨by rfl, ?h82⟩) ?_
            case h82 => (intro w; go_simp; try (with_reducible rfl))
            go_simp
            refine wpAny_done (by kernel_rfl) ?_ _
            rw [← hA.out]
            go_wp2_with fail
            refine wp_region_any (by kernel_rfl) ?_
            change wpAny _ _ _ _ _ _ _ (World.drew _)
            rw [← hE.out]
            refine wpAny_take (i := 0) (v := ?v83) rfl (by kernel_rfl) (by kernel_rfl) (by kernel_rfl) (fun _ _ _ h => h) (Or.inl ⟨by rfl, ?h83⟩) ?_
            case h83 => (intro w; go_simp; try (with_reducible rfl))
            go_simp
            refine wpAny_take (i := 1) (v := ?v84) rfl (by kernel_rfl) (by kernel_rfl) (by kernel_rfl) (fun _ _ _ h => h) (Or.inl ⟨by rfl, ?h84⟩) ?_
            case h84 => (intro w; go_simp; try (with_reducible rfl))
            go_simp
            refine wpAny_take (i := 2) (v := ?v85) rfl (by kernel_rfl) (by kernel_rfl) (by kernel_rfl) (fun _ _ _ h => h) (Or.inl ⟨by rfl, ?h85⟩) ?_
            case h85 => (intro w; go_simp; try (with_reducible rfl))
            go_simp
            refine wpAny_take (i := 5) (v := ?v86) rfl (by kernel_rfl) (by kernel_rfl) (by kernel_rfl) (fun _ _ _ h => h) (Or.inl ⟨by rfl, ?h86⟩) ?_
            case h86 => (intro w; go_simp; try (with_reducible rfl))
            go_simp
            refine wpAny_ready (rs := [3, 4]) (by kernel_rfl) (by simp) ?_
            refine AllReady.cons rfl (fun K hK => ?_) ?_
            · go_simp
              refine hK _ _ ?_
              clear hK K
              refine wpAny_ready (rs := [4]) (by kernel_rfl) (by simp) ?_
              refine AllReady.cons rfl (fun K hK => ?_) ?_
              · go_simp
                refine hK _ _ ?_
                clear hK K
                refine wpAny_ready (rs := [6]) (by kernel_rfl) (by simp) ?_
                refine AllReady.cons rfl (fun K hK => ?_) ?_
                · go_simp
                  refine hK _ _ ?_
                  clear hK K
                  refine wpAny_done (by kernel_rfl) ?_ _
                  go_wp2_with fail
                  refine region_tail 10 (by kernel_rfl) (by kernel_rfl) ?_
                  rw [← hF.out]
                  simp only [List.take_succ_cons, List.take_zero, List.drop_succ_cons, List.drop_zero]
                  repeat still_step
                  refine wpStill_nil ?_
                  go_wp2_with fail
                  refine HS.out.mono ?_
                  rintro e w2 ⟨rfl, vt', h1, h2, h3, h4⟩
                  have h5 := hid (FIN.out w2 vt' h1 h2 h3 h4)
                  clear h1 h2 h3 h4
                  go_wp2_with fail
                  go_ret
                  exact ⟨rfl, h5.out⟩
                exact AllReady.nil
              exact AllReady.nil
            refine AllReady.cons rfl (fun K hK => ?_) ?_
            · go_simp
              refine hK _ _ ?_
              clear hK K
              refine wpAny_ready (rs := [3]) (by kernel_rfl) (by simp) ?_
              refine AllReady.cons rfl (fun K hK => ?_) ?_
              · go_simp
                refine hK _ _ ?_
                clear hK K
                refine wpAny_ready (rs := [6]) (by kernel_rfl) (by simp) ?_
                refine AllReady.cons rfl (fun K hK => ?_) ?_
                · go_simp
                  refine hK _ _ ?_
                  clear hK K
                  refine wpAny_done (by kernel_rfl) ?_ _
                  go_wp2_with fail
                  refine region_tail 10 (by kernel_rfl) (by kernel_rfl) ?_
                  rw [← hF.out]
                  simp only [List.take_succ_cons, List.take_zero, List.drop_succ_cons, List.drop_zero]
                  repeat still_step
                  refine wpStill_nil ?_
                  go_wp2_with fail
                  refine HS.out.mono ?_
                  rintro e w2 ⟨rfl, vt', h1, h2, h3, h4⟩
                  have h5 := hid (FIN.out w2 vt' h1 h2 h3 h4)
                  clear h1 h2 h3 h4
                  go_wp2_with fail
                  go_ret
                  exact ⟨rfl, h5.out⟩
                exact AllReady.nil
              exact AllReady.nil
            exact AllReady.nil
          exact AllReady.nil
        exact AllReady.nil
      exact AllReady.nil
    exact AllReady.nil
  refine AllReady.cons rfl (fun K hK => ?_) ?_
  · go_simp
    refine hK _ _ ?_
    clear hK K
    refine wpAny_ready (rs := [3, 4]) (by kernel_rfl) (by simp) ?_
    refine AllReady.cons rfl (fun K hK => ?_) ?_
    · go_simp
      refine hK _ _ ?_
      clear hK K
      refine wpAny_ready (rs := [4]) (by kernel_rfl) (by simp) ?_
      refine AllReady.cons rfl (fun K hK => ?_) ?_
      · go_simp
        refine hK _ _ ?_
        clear hK K
        refine wpAny_ready (rs := [5]) (by kernel_rfl) (by simp) ?_
        refine AllReady.cons rfl (fun K hK => ?_) ?_
        · go_simp
          refine hK _ _ ?_
          clear hK K
          refine wpAny_take (i := 6) (v := ?v87) rfl (by kernel_rfl) (by kernel_rfl) (by kernel_rfl) (fun _ _ _ h => h) (Or.inl ⟨by rfl, ?h87⟩) ?_
          case h87 => (intro w; go_simp; try (with_reducible rfl))
          go_simp
          refine wpAny_take (i := 7) (v := ?v88) rfl (by kernel_rfl) (by kernel_rfl) (by kernel_rfl) (fun _ _ _ h => h) (Or.inl ⟨by rfl, ?h88⟩) ?_
          case h88 => (intro w; go_simp; try (with_reducible rfl))
          go_simp
          refine wpAny_take (i := 8) (v := ?v89) rfl (by kernel_rfl) (by kernel_rfl) (by kernel_rfl) (fun _ _ _ h => h) (Or.inl ⟨by rfl, ?h89⟩) ?_
          case h89 => (intro w; go_simp; try (with_reducible rfl))
          go_simp
          refine wpAny_ready (rs := [10]) (by kernel_rfl) (by simp) ?_
          refine AllReady.cons rfl (fun K hK => ?_) ?_
          · go_simp
            refine hK _ _ ?_
            clear hK K
            refine wpAny_take (i := 11) (v := ?v90) rfl (by kernel_rfl) (by kernel_rfl) (by kernel_rfl) (fun _ _ _ h => h) (Or.inl ⟨by rfl, ?h90⟩) ?_
            case h90 => (intro w; go_simp; try (with_reducible rfl))
            go_simp
            refine wpAny_done (by kernel_rfl) ?_ _
            rw [← hA.out]
            go_wp2_with fail
            refine wp_region_any (by kernel_rfl) ?_
            change wpAny _ _ _ _ _ _ _ (World.drew _)
            rw [← hE.out]
            refine wpAny_take (i := 0) (v := ?v91) rfl (by kernel_rfl) (by kernel_rfl) (by kernel_rfl) (fun _ _ _ h => h) (Or.inl ⟨by rfl, ?h91⟩) ?_
            case h91 => (intro w; go_simp; try (with_reducible rfl))
            go_simp
            refine wpAny_take (i := 1) (v := ?v92) rfl (by kernel_rfl) (by kernel_rfl) (by kernel_rfl) (fun _ _ _ h => h) (Or.inl ⟨by rfl, ?h92⟩) ?_
            case h92 => (intro w; go_simp; try (with_reducible rfl))
            go_simp
            refine wpAny_take (i := 2) (v := ?v93) rfl (by kernel_rfl) (by kernel_rfl) (by kernel_rfl) (fun _ _ _ h => h) (Or.inl ⟨by rfl, ?h93⟩) ?_
            case h93 => (intro w; go_simp; try (with_reducible rfl))
            go_simp
            refine wpAny_take (i := 5) (v := ?v94) rfl (by kernel_rfl) (by kernel_rfl) (by kernel_rfl) (fun _ _ _ h => h) (Or.inl ⟨by rfl, ?h94⟩) ?_
            case h94 => (intro w; go_simp; try (with_reducible rfl))
            go_simp
            refine wpAny_ready (rs := [3, 4]) (by kernel_rfl) (by simp) ?_
            refine AllReady.cons rfl (fun K hK => ?_) ?_
            · go_simp
              refine hK _ _ ?_
              clear hK K
              refine wpAny_ready (rs := [4]) (by kernel_rfl) (by simp) ?_
              refine AllReady.cons rfl (fun K hK => ?_) ?_
              · go_simp
                refine hK _ _ ?_
                clear hK K
                refine wpAny_ready (rs := [6]) (by kernel_rfl) (by simp) ?_
                refine AllReady.cons rfl (fun K hK => ?_) ?_
                · go_simp
                  refine hK _ _ ?_
                  clear hK K
                  refine wpAny_done (by kernel_rfl) ?_ _
                  go_wp2_with fail
                  refine region_tail 10 (by kernel_rfl) (by kernel_rfl) ?_
                  rw [← hF.out]
                  simp only [List.take_succ_cons, List.take_zero, List.drop_succ_cons, List.drop_zero]
                  repeat still_step
                  refine wpStill_nil ?_
                  go_wp2_with fail
                  refine HS.out.mono ?_
                  rintro e w2 ⟨rfl, vt', h1, h2, h3, h4⟩
                  have h5 := hid (FIN.out w2 vt' h1 h2 h3 h4)
                  clear h1 h2 h3 h4
                  go_wp2_with fail
                  go_ret
                  exact ⟨rfl, h5.out⟩
                exact AllReady.nil
              exact AllReady.nil
            refine AllReady.cons rfl (fun K hK => ?_) ?_
            · go_simp
              refine hK _ _ ?_
              clear hK K
              refine wpAny_ready (rs := [3]) (by kernel_rfl) (by simp) ?_
              refine AllReady.cons rfl (fun K hK => ?_) ?_
              · go_simp
                refine hK _ _ ?_
                clear hK K
                refine wpAny_ready (rs := [6]) (by kernel_rfl) (by simp) ?_
                refine AllReady.cons rfl (fun K hK => ?_) ?_
                · go_simp
                  refine hK _ _ ?_
                  clear hK K
                  refine wpAny_done (by kernel_rfl) ?_ _
                  go_wp2_with fail
                  refine region_tail 10 (by kernel_rfl) (by kernel_rfl) ?_
                  rw [← hF.out]
                  simp only [List.take_succ_cons, List.take_zero, List.drop_succ_cons, List.drop_zero]
                  repeat still_step
                  refine wpStill_nil ?_
                  go_wp2_with fail
                  refine HS.out.mono ?_
                  rintro e w2 ⟨rfl, vt', h1, h2, h3, h4⟩
                  have h5 := hid (FIN.out w2 vt' h1 h2 h3 h4)
                  clear h1 h2 h3 h4
                  go_wp2_with fail
                  go_ret
                  exact ⟨rfl, h5.out⟩
                exact AllReady.nil
              exact AllReady.nil
            exact AllReady.nil
          exact AllReady.nil
        exact AllReady.nil
      exact AllReady.nil
    refine AllReady.cons rfl (fun K hK => ?_) ?_
    · go_simp
      refine hK _ _ ?_
      clear hK K
      refine wpAny_ready (rs := [3]) (by kernel_rfl) (by simp) ?_
      refine AllReady.cons rfl (fun K hK => ?_) ?_
      · go_simp
        refine hK _ _ ?_
        clear hK K
        refine wpAny_ready (rs := [5]) (by kernel_rfl) (by simp) ?_
        refine AllReady.cons rfl (fun K hK => ?_) ?_
        · go_simp
          refine hK _ _ ?_
          clear hK K
          refine wpAny_take (i := 6) (v := ?v95) rfl (by kernel_rfl) (by kernel_rfl) (by kernel_rfl) (fun _ _ _ h => h) (Or.inl ⟨by rfl, ?h95⟩) ?_
          case h95 => (intro w; go_simp; try (with_reducible rfl))
          go_simp
          refine wpAny_take (i := 7) (v := ?v96) rfl (by kernel_rfl) (by kernel_rfl) (by kernel_rfl) (fun _ _ _ h => h) (Or.inl ⟨by rfl, ?h96⟩) ?_
          case h96 => (intro w; go_simp; try (with_reducible rfl))
          go_simp
          refine wpAny_take (i := 8) (v := ?v97) rfl (by kernel_rfl) (by kernel_rfl) (by kernel_rfl) (fun _ _ _ h => h) (Or.inl ⟨by rfl, ?h97⟩) ?_
          case h97 => (intro w; go_simp; try (with_reducible rfl))
          go_simp
          refine wpAny_ready (rs := [10]) (by kernel_rfl) (by simp) ?_
          refine AllReady.cons rfl (fun K hK => ?_) ?_
          · go_simp
            refine hK _ _ ?_
            clear hK K
            refine wpAny_take (i := 11) (v := ?v98) rfl (by kernel_rfl) (by kernel_rfl) (by kernel_rfl) (fun _ _ _ h => h) (Or.inl ⟨by rfl, ?h98⟩) ?_
            case h98 => (intro w; go_simp; try (with_reducible rfl))
            go_simp
            refine wpAny_done (by kernel_rfl) ?_ _
            rw [← hA.out]
            go_wp2_with fail
            refine wp_region_any (by kernel_rfl) ?_
            change wpAny _ _ _ _ _ _ _ (World.drew _)
            rw [← hE.out]
            refine wpAny_take (i := 0) (v := ?v99) rfl (by kernel_rfl) (by kernel_rfl) (by kernel_rfl) (fun _ _ _ h => h) (Or.inl ⟨by rfl, ?h99⟩) ?_
            case h99 => (intro w; go_simp; try (with_reducible rfl))
            go_simp
            refine wpAny_take (i := 1) (v := ?v100) rfl (by kernel_rfl) (by kernel_rfl) (by kernel_rfl) (fun _ _ _ h => h) (Or.inl ⟨by rfl, ?h100⟩) ?_
            case h100 => (intro w; go_simp; try (with_reducible rfl))
            go_simp
            refine wpAny_take (i := 2) (v := ?v101) rfl (by kernel_rfl) (by kernel_rfl) (by kernel_rfl) (fun _ _ _ h => h) (Or.inl ⟨by rfl, ?h101⟩) ?_
            case h101 => (intro w; go_simp; try (with_reducible rfl))
            go_simp
            refine wpAny_take (i := 5) (v := ?v102) rfl (by kernel_rfl) (by kernel_rfl) (by kernel_rfl) (fun _ _ _ h => h) (Or.inl ⟨by rfl, ?h102⟩) ?_
            case h102 => (intro w; go_simp; try (with_reducible rfl))
            go_simp
            refine wpAny_ready (rs := [3, 4]) (by kernel_rfl) (by simp) ?_
            refine AllReady.cons rfl (fun K hK => ?_) ?_
            · go_simp
              refine hK _ _ ?_
              clear hK K
              refine wpAny_ready (rs := [4]) (by kernel_rfl) (by simp) ?_
              refine AllReady.cons rfl (fun K hK => ?_) ?_
              · go_simp
                refine hK _ _ ?_
                clear hK K
                refine wpAny_ready (rs := [6]) (by kernel_rfl) (by simp) ?_
                refine AllReady.cons rfl (fun K hK => ?_) ?_
                · go_simp
                  refine hK _ _ ?_
                  clear hK K
                  refine wpAny_done (by kernel_rfl) ?_ _
                  go_wp2_with fail
                  refine region_tail 10 (by kernel_rfl) (by kernel_rfl) ?_
                  rw [← hF.out]
                  simp only [List.take_succ_cons, List.take_zero, List.drop_succ_cons, List.drop_zero]
                  repeat still_step
                  refine wpStill_nil ?_
                  go_wp2_with fail
                  refine HS.out.mono ?_
                  rintro e w2 ⟨rfl, vt', h1, h2, h3, h4⟩
                  have h5 := hid (FIN.out w2 vt' h1 h2 h3 h4)
                  clear h1 h2 h3 h4
                  go_wp2_with fail
                  go_ret
                  exact ⟨rfl, h5.out⟩
                exact AllReady.nil
              exact AllReady.nil
            refine AllReady.cons rfl (fun K hK => ?_) ?_
            · go_simp
              refine hK _ _ ?_
              clear hK K
              refine wpAny_ready (rs := [3]) (by kernel_rfl) (by simp) ?_
              refine AllReady.cons rfl (fun K hK => ?_) ?_
              · go_simp
                refine hK _ _ ?_
                clear hK K
                refine wpAny_ready (rs := [6]) (by kernel_rfl) (by simp) ?_
                refine AllReady.cons rfl (fun K hK => ?_) ?_
                · go_simp
                  refine hK _ _ ?_
                  clear hK K
                  refine wpAny_done (by kernel_rfl) ?_ _
                  go_wp2_with fail
                  refine region_tail 10 (by kernel_rfl) (by kernel_rfl) ?_
                  rw [← hF.out]
                  simp only [List.take_succ_cons, List.take_zero, List.drop_succ_cons, List.drop_zero]
                  repeat still_step
                  refine wpStill_nil ?_
                  go_wp2_with fail
                  refine HS.out.mono ?_
                  rintro e w2 ⟨rfl, vt', h1, h2, h3, h4⟩
                  have h5 := hid (FIN.out w2 vt' h1 h2 h3 h4)
                  clear h1 h2 h3 h4
                  go_wp2_with fail
                  go_ret
                  exact ⟨rfl, h5.out⟩
                exact AllReady.nil
              exact AllReady.nil
            exact AllReady.nil
          exact AllReady.nil
        exact AllReady.nil
      exact AllReady.nil
    exact AllReady.nil
  exact AllReady.nil

/-- One operation more: what is told of all together. -/
def St.count (S : St) (q : Int) (k v : ByteArray) : St := { S with sz := S.sz + (16 + (k.size : Int) + v.size), lo := if S.lo = 0 ∨ q < S.lo then q else S.lo, hi := max S.hi q }
theorem Tc.set {w : World} {g : Nat} {c : Array Value} (h : Tc w g c) (i : Nat) (u : Value) : Tc (w.setCell ⟨g, i, none⟩ u) g (c.setIfInBounds i u) := Tr.set_of h i u
end Go.Proofs.Ytefihoohdaegeaa.Pt

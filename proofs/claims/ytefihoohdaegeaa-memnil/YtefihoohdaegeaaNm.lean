/- Memtables, cursors and queues that are none, on: Next, Prev, Seek, Here; Add, Get; a queue's Get. -/
import Derived.Test.YtefihoohdaegeaaNn
namespace Go.Proofs.Ytefihoohdaegeaa.Nm
open Go.ChangeShapes Go.WideShapes Go.ChangeAt Go.RowKit Go.Shelf
open Go.Proofs.Ytefihoohdaegeaa.Lx (hid)
open Go.Proofs.Ytefihoohdaegeaa.Ee (E ze Ents At4)
open Go.Proofs.Ytefihoohdaegeaa.Nw (c4 newest newest_any)
open Go.Proofs.Ytefihoohdaegeaa.Mm (box_below)
open Go.Proofs.Ytefihoohdaegeaa.Tr (new_at cell_of size_alloc blk_lt)
open Go.Proofs.Ytefihoohdaegeaa.Nn
set_option linter.unusedVariables false
set_option linter.unusedSimpArgs false
abbrev zE : Array Value := #[.string ⟨#[]⟩, .int .u64 0, .int .i64 0, .string ⟨#[]⟩]
set_option maxHeartbeats 4000000 in
set_option maxRecDepth 100000 in
theorem cnext (p : Option Addr) (w : World) (H : NoC w p) : Calls Try.prog 35 #[.pointer p] w fun e w' => e = .returned (.bool false) ∧ Below w.heap.size w w' := by
  have cd : Below w.heap.size w w.drew := (Below.refl _ _).drew
  have HN := hid (cnone_any p w.drew (H.later cd))
  replace cd := hid cd
  clear H
  go_enter Try.func35, Try.ntmps35
  go_wp2_with fail
  refine wp_region_any (by kernel_rfl) ?_
  change wpAny _ _ _ _ _ _ _ (World.drew _)
  refine wpAny_take (i := 0) (v := ?v1) rfl (by kernel_rfl) (by kernel_rfl) (by kernel_rfl) (fun _ _ _ h => h) (Or.inl ⟨by rfl, ?h1⟩) ?_
  case h1 => (intro w; go_simp; try (with_reducible rfl))
  go_simp
  refine wpAny_ready (rs := [1]) (by kernel_rfl) (by simp) ?_
  refine AllReady.cons rfl (fun K hK => ?_) ?_
  · go_simp
    go_wp2_with fail
    refine (HN.out).mono ?_
    rintro e w1 ⟨rfl, rfl⟩
    go_simp
    refine hK _ _ ?_
    clear hK K
    refine wpAny_take (i := 2) (v := ?v2) rfl (by kernel_rfl) (by kernel_rfl) (by kernel_rfl) (fun _ _ _ h => h) (Or.inl ⟨by rfl, ?h2⟩) ?_
    case h2 => (intro w; go_simp; try (with_reducible rfl))
    go_simp
    refine wpAny_take (i := 3) (v := ?v3) rfl (by kernel_rfl) (by kernel_rfl) (by kernel_rfl) (fun _ _ _ h => h) (Or.inl ⟨by rfl, ?h3⟩) ?_
    case h3 => (intro w; go_simp; try (with_reducible rfl))
    go_simp
    refine wpAny_take (i := 4) (v := undef) rfl (by kernel_rfl) (by kernel_rfl) (by kernel_rfl) (fun _ _ _ h => h) (Or.inr ⟨by rfl, rfl⟩) ?_
    go_simp
    refine wpAny_take (i := 5) (v := undef) rfl (by kernel_rfl) (by kernel_rfl) (by kernel_rfl) (fun _ _ _ h => h) (Or.inr ⟨by rfl, rfl⟩) ?_
    go_simp
    refine wpAny_take (i := 6) (v := undef) rfl (by kernel_rfl) (by kernel_rfl) (by kernel_rfl) (fun _ _ _ h => h) (Or.inr ⟨by rfl, rfl⟩) ?_
    go_simp
    refine wpAny_take (i := 7) (v := undef) rfl (by kernel_rfl) (by kernel_rfl) (by kernel_rfl) (fun _ _ _ h => h) (Or.inr ⟨by rfl, rfl⟩) ?_
    go_simp
    refine wpAny_take (i := 8) (v := undef) rfl (by kernel_rfl) (by kernel_rfl) (by kernel_rfl) (fun _ _ _ h => h) (Or.inr ⟨by rfl, rfl⟩) ?_
    go_simp
    refine wpAny_take (i := 9) (v := undef) rfl (by kernel_rfl) (by kernel_rfl) (by kernel_rfl) (fun _ _ _ h => h) (Or.inr ⟨by rfl, rfl⟩) ?_
    go_simp
    refine wpAny_take (i := 10) (v := undef) rfl (by kernel_rfl) (by kernel_rfl) (by kernel_rfl) (fun _ _ _ h => h) (Or.inr ⟨by rfl, rfl⟩) ?_
    go_simp
    refine wpAny_take (i := 11) (v := undef) rfl (by kernel_rfl) (by kernel_rfl) (by kernel_rfl) (fun _ _ _ h => h) (Or.inr ⟨by rfl, rfl⟩) ?_
    go_simp
    refine wpAny_take (i := 12) (v := undef) rfl (by kernel_rfl) (by kernel_rfl) (by kernel_rfl) (fun _ _ _ h => h) (Or.inr ⟨by rfl, rfl⟩) ?_
    go_simp
    refine wpAny_take (i := 13) (v := undef) rfl (by kernel_rfl) (by kernel_rfl) (by kernel_rfl) (fun _ _ _ h => h) (Or.inr ⟨by rfl, rfl⟩) ?_
    go_simp
    refine wpAny_take (i := 14) (v := undef) rfl (by kernel_rfl) (by kernel_rfl) (by kernel_rfl) (fun _ _ _ h => h) (Or.inr ⟨by rfl, rfl⟩) ?_
    go_simp
    refine wpAny_take (i := 15) (v := undef) rfl (by kernel_rfl) (by kernel_rfl) (by kernel_rfl) (fun _ _ _ h => h) (Or.inr ⟨by rfl, rfl⟩) ?_
    go_simp
    refine wpAny_take (i := 16) (v := undef) rfl (by kernel_rfl) (by kernel_rfl) (by kernel_rfl) (fun _ _ _ h => h) (Or.inr ⟨by rfl, rfl⟩) ?_
    go_simp
    refine wpAny_take (i := 17) (v := ?v4) rfl (by kernel_rfl) (by kernel_rfl) (by kernel_rfl) (fun _ _ _ h => h) (Or.inl ⟨by rfl, ?h4⟩) ?_
    case h4 => (intro w; go_simp; try (with_reducible rfl))
    go_simp
    refine wpAny_take (i := 18) (v := ?v5) rfl (by kernel_rfl) (by kernel_rfl) (by kernel_rfl) (fun _ _ _ h => h) (Or.inl ⟨by rfl, ?h5⟩) ?_
    case h5 => (intro w; go_simp; try (with_reducible rfl))
    go_simp
    refine wpAny_done (by kernel_rfl) ?_ _
    go_wp2_with fail
    go_ret
    exact ⟨rfl, cd.out⟩
  exact AllReady.nil
set_option maxHeartbeats 4000000 in
set_option maxRecDepth 100000 in
theorem cprev (p : Option Addr) (w : World) (H : NoC w p) : Calls Try.prog 36 #[.pointer p] w fun e w' => e = .returned (.bool false) ∧ Below w.heap.size w w' := by
  have cd : Below w.heap.size w w.drew := (Below.refl _ _).drew
  have HN := hid (cnone_any p w.drew (H.later cd))
  replace cd := hid cd
  clear H
  go_enter Try.func36, Try.ntmps36
  go_wp2_with fail
  refine wp_region_any (by kernel_rfl) ?_
  change wpAny _ _ _ _ _ _ _ (World.drew _)
  refine wpAny_take (i := 0) (v := ?v6) rfl (by kernel_rfl) (by kernel_rfl) (by kernel_rfl) (fun _ _ _ h => h) (Or.inl ⟨by rfl, ?h6⟩) ?_
  case h6 => (intro w; go_simp; try (with_reducible rfl))
  go_simp
  refine wpAny_ready (rs := [1]) (by kernel_rfl) (by simp) ?_
  refine AllReady.cons rfl (fun K hK => ?_) ?_
  · go_simp
    go_wp2_with fail
    refine (HN.out).mono ?_
    rintro e w1 ⟨rfl, rfl⟩
    go_simp
    refine hK _ _ ?_
    clear hK K
    refine wpAny_take (i := 2) (v := ?v7) rfl (by kernel_rfl) (by kernel_rfl) (by kernel_rfl) (fun _ _ _ h => h) (Or.inl ⟨by rfl, ?h7⟩) ?_
    case h7 => (intro w; go_simp; try (with_reducible rfl))
    go_simp
    refine wpAny_take (i := 3) (v := ?v8) rfl (by kernel_rfl) (by kernel_rfl) (by kernel_rfl) (fun _ _ _ h => h) (Or.inl ⟨by rfl, ?h8⟩) ?_
    case h8 => (intro w; go_simp; try (with_reducible rfl))
    go_simp
    refine wpAny_take (i := 4) (v := undef) rfl (by kernel_rfl) (by kernel_rfl) (by kernel_rfl) (fun _ _ _ h => h) (Or.inr ⟨by rfl, rfl⟩) ?_
    go_simp
    refine wpAny_take (i := 5) (v := undef) rfl (by kernel_rfl) (by kernel_rfl) (by kernel_rfl) (fun _ _ _ h => h) (Or.inr ⟨by rfl, rfl⟩) ?_
    go_simp
    refine wpAny_take (i := 6) (v := undef) rfl (by kernel_rfl) (by kernel_rfl) (by kernel_rfl) (fun _ _ _ h => h) (Or.inr ⟨by rfl, rfl⟩) ?_
    go_simp
    refine wpAny_take (i := 7) (v := undef) rfl (by kernel_rfl) (by kernel_rfl) (by kernel_rfl) (fun _ _ _ h => h) (Or.inr ⟨by rfl, rfl⟩) ?_
    go_simp
    refine wpAny_take (i := 8) (v := undef) rfl (by kernel_rfl) (by kernel_rfl) (by kernel_rfl) (fun _ _ _ h => h) (Or.inr ⟨by rfl, rfl⟩) ?_
    go_simp
    refine wpAny_take (i := 9) (v := undef) rfl (by kernel_rfl) (by kernel_rfl) (by kernel_rfl) (fun _ _ _ h => h) (Or.inr ⟨by rfl, rfl⟩) ?_
    go_simp
    refine wpAny_take (i := 10) (v := undef) rfl (by kernel_rfl) (by kernel_rfl) (by kernel_rfl) (fun _ _ _ h => h) (Or.inr ⟨by rfl, rfl⟩) ?_
    go_simp
    refine wpAny_take (i := 11) (v := undef) rfl (by kernel_rfl) (by kernel_rfl) (by kernel_rfl) (fun _ _ _ h => h) (Or.inr ⟨by rfl, rfl⟩) ?_
    go_simp
    refine wpAny_take (i := 12) (v := undef) rfl (by kernel_rfl) (by kernel_rfl) (by kernel_rfl) (fun _ _ _ h => h) (Or.inr ⟨by rfl, rfl⟩) ?_
    go_simp
    refine wpAny_take (i := 13) (v := undef) rfl (by kernel_rfl) (by kernel_rfl) (by kernel_rfl) (fun _ _ _ h => h) (Or.inr ⟨by rfl, rfl⟩) ?_
    go_simp
    refine wpAny_take (i := 14) (v := undef) rfl (by kernel_rfl) (by kernel_rfl) (by kernel_rfl) (fun _ _ _ h => h) (Or.inr ⟨by rfl, rfl⟩) ?_
    go_simp
    refine wpAny_take (i := 15) (v := undef) rfl (by kernel_rfl) (by kernel_rfl) (by kernel_rfl) (fun _ _ _ h => h) (Or.inr ⟨by rfl, rfl⟩) ?_
    go_simp
    refine wpAny_take (i := 16) (v := undef) rfl (by kernel_rfl) (by kernel_rfl) (by kernel_rfl) (fun _ _ _ h => h) (Or.inr ⟨by rfl, rfl⟩) ?_
    go_simp
    refine wpAny_take (i := 17) (v := ?v9) rfl (by kernel_rfl) (by kernel_rfl) (by kernel_rfl) (fun _ _ _ h => h) (Or.inl ⟨by rfl, ?h9⟩) ?_
    case h9 => (intro w; go_simp; try (with_reducible rfl))
    go_simp
    refine wpAny_take (i := 18) (v := ?v10) rfl (by kernel_rfl) (by kernel_rfl) (by kernel_rfl) (fun _ _ _ h => h) (Or.inl ⟨by rfl, ?h10⟩) ?_
    case h10 => (intro w; go_simp; try (with_reducible rfl))
    go_simp
    refine wpAny_done (by kernel_rfl) ?_ _
    go_wp2_with fail
    go_ret
    exact ⟨rfl, cd.out⟩
  exact AllReady.nil
set_option maxHeartbeats 4000000 in
set_option maxRecDepth 100000 in
theorem cseek (p : Option Addr) (c0 c1 c2 : Value) (w : World) (H : NoC w p) : Calls Try.prog 34 #[.pointer p, .agg #[c0, c1, c2]] w fun e w' => e = .returned (.bool false) ∧ Below w.heap.size w w' := by
  have cd : Below w.heap.size w (w.alloc (.cells #[c0, c1, c2] 48)).drew := (box_below _ _).drew
  have HN := hid (cnone_any p (w.alloc (.cells #[c0, c1, c2] 48)).drew (H.later cd))
  replace cd := hid cd
  clear H
  go_enter Try.func34, Try.ntmps34
  go_wp2_with fail
  refine wp_region_any (by kernel_rfl) ?_
  change wpAny _ _ _ _ _ _ _ (World.drew _)
  refine wpAny_take (i := 0) (v := ?v11) rfl (by kernel_rfl) (by kernel_rfl) (by kernel_rfl) (fun _ _ _ h => h) (Or.inl ⟨by rfl, ?h11⟩) ?_
  case h11 => (intro w; go_simp; try (with_reducible rfl))
  go_simp
  refine wpAny_ready (rs := [1]) (by kernel_rfl) (by simp) ?_
  refine AllReady.cons rfl (fun K hK => ?_) ?_
  · go_simp
    go_wp2_with fail
    refine (HN.out).mono ?_
    rintro e w1 ⟨rfl, rfl⟩
    go_simp
    refine hK _ _ ?_
    clear hK K
    refine wpAny_take (i := 2) (v := ?v12) rfl (by kernel_rfl) (by kernel_rfl) (by kernel_rfl) (fun _ _ _ h => h) (Or.inl ⟨by rfl, ?h12⟩) ?_
    case h12 => (intro w; go_simp; try (with_reducible rfl))
    go_simp
    refine wpAny_take (i := 3) (v := ?v13) rfl (by kernel_rfl) (by kernel_rfl) (by kernel_rfl) (fun _ _ _ h => h) (Or.inl ⟨by rfl, ?h13⟩) ?_
    case h13 => (intro w; go_simp; try (with_reducible rfl))
    go_simp
    refine wpAny_take (i := 4) (v := undef) rfl (by kernel_rfl) (by kernel_rfl) (by kernel_rfl) (fun _ _ _ h => h) (Or.inr ⟨by rfl, rfl⟩) ?_
    go_simp
    refine wpAny_take (i := 5) (v := undef) rfl (by kernel_rfl) (by kernel_rfl) (by kernel_rfl) (fun _ _ _ h => h) (Or.inr ⟨by rfl, rfl⟩) ?_
    go_simp
    refine wpAny_take (i := 6) (v := undef) rfl (by kernel_rfl) (by kernel_rfl) (by kernel_rfl) (fun _ _ _ h => h) (Or.inr ⟨by rfl, rfl⟩) ?_
    go_simp
    refine wpAny_take (i := 7) (v := undef) rfl (by kernel_rfl) (by kernel_rfl) (by kernel_rfl) (fun _ _ _ h => h) (Or.inr ⟨by rfl, rfl⟩) ?_
    go_simp
    refine wpAny_take (i := 8) (v := undef) rfl (by kernel_rfl) (by kernel_rfl) (by kernel_rfl) (fun _ _ _ h => h) (Or.inr ⟨by rfl, rfl⟩) ?_
    go_simp
    refine wpAny_take (i := 9) (v := undef) rfl (by kernel_rfl) (by kernel_rfl) (by kernel_rfl) (fun _ _ _ h => h) (Or.inr ⟨by rfl, rfl⟩) ?_
    go_simp
    refine wpAny_take (i := 10) (v := undef) rfl (by kernel_rfl) (by kernel_rfl) (by kernel_rfl) (fun _ _ _ h => h) (Or.inr ⟨by rfl, rfl⟩) ?_
    go_simp
    refine wpAny_take (i := 11) (v := undef) rfl (by kernel_rfl) (by kernel_rfl) (by kernel_rfl) (fun _ _ _ h => h) (Or.inr ⟨by rfl, rfl⟩) ?_
    go_simp
    refine wpAny_take (i := 12) (v := ?v14) rfl (by kernel_rfl) (by kernel_rfl) (by kernel_rfl) (fun _ _ _ h => h) (Or.inl ⟨by rfl, ?h14⟩) ?_
    case h14 => (intro w; go_simp; try (with_reducible rfl))
    go_simp
    refine wpAny_take (i := 13) (v := ?v15) rfl (by kernel_rfl) (by kernel_rfl) (by kernel_rfl) (fun _ _ _ h => h) (Or.inl ⟨by rfl, ?h15⟩) ?_
    case h15 => (intro w; go_simp; try (with_reducible rfl))
    go_simp
    refine wpAny_done (by kernel_rfl) ?_ _
    go_wp2_with fail
    go_ret
    exact ⟨rfl, cd.out⟩
  exact AllReady.nil
set_option maxHeartbeats 4000000 in
set_option maxRecDepth 100000 in
theorem chere (p : Option Addr) (w : World) (H : NoC w p) : Calls Try.prog 18 #[.pointer p] w fun e w' => e = .returned (.tuple #[.agg zE, .bool false]) ∧ Below w.heap.size w w' := by
  obtain ⟨W0, hW0⟩ : ∃ W, W = w.alloc (.cells zE 56) := ⟨_, rfl⟩
  obtain ⟨g0, hg0⟩ : ∃ g, g = w.heap.size := ⟨_, rfl⟩
  have b0 : Below w.heap.size w W0 := by rw [hW0]; exact box_below _ _
  have k0 : W0.heap[g0]? = some (.cells zE 56) := by rw [hW0, hg0]; exact new_at _ _
  have HN := hid (cnone_any p W0 (H.later b0))
  have q0 := cell_of k0 0 (.string ⟨#[]⟩) rfl
  have q1 := cell_of k0 1 (.int .u64 0) rfl
  have q2 := cell_of k0 2 (.int .i64 0) rfl
  have q3 := cell_of k0 3 (.string ⟨#[]⟩) rfl
  have f0 := Tr.fz_of k0
  replace b0 := hid b0
  replace hW0 := hid hW0
  replace hg0 := hid hg0
  clear H k0
  go_enter Try.func18, Try.ntmps18
  go_wp2_with fail
  rw [← hW0.out]
  try rw [← hg0.out]
  refine HN.out.mono ?_
  rintro e w1 ⟨rfl, rfl⟩
  go_wp2_with fail
  exact bodyPost_ret (v := .tuple #[.agg zE, .bool false]) (by simp [results, Try.results18, go_sem, q0, q1, q2, q3]) rfl ⟨rfl, ((((b0.out.setCell (Nat.le_of_eq hg0.out.symm) _).setCell (Nat.le_of_eq hg0.out.symm) _).setCell (Nat.le_of_eq hg0.out.symm) _).setCell (Nat.le_of_eq hg0.out.symm) _)⟩
theorem tcheck (p : Option Addr) (sq ht c0 c1 c2 : Value) (w : World) (H : NoT w p) : Calls Try.prog 50 #[.pointer p, sq, .agg #[c0, c1, c2], ht] w fun e w' => e = .returned (.int .i64 1) ∧ Below w.heap.size w w' := by
  have b0 := box_below w (.cells #[c0, c1, c2] 32)
  have HN := hid (tnone_any p _ (H.later b0))
  replace b0 := hid b0
  clear H
  go_enter Try.func50, Try.ntmps50
  go_wp2_with fail
  refine HN.out.mono ?_
  rintro e w1 ⟨rfl, rfl⟩
  go_wp2_with fail
  go_ret
  exact ⟨rfl, b0.out⟩
theorem tadd (p : Option Addr) (sq ht c0 c1 c2 : Value) (w : World) (H : NoT w p) : Calls Try.prog 13 #[.pointer p, sq, .agg #[c0, c1, c2], ht] w fun e w' => e = .returned (.int .i64 1) ∧ Below w.heap.size w w' := by
  have b0 := box_below w (.cells #[c0, c1, c2] 32)
  have k0 := new_at w (.cells #[c0, c1, c2] 32)
  have q0 := cell_of k0 0 _ rfl
  have q1 := cell_of k0 1 _ rfl
  have q2 := cell_of k0 2 _ rfl
  have HN := hid (tcheck p sq ht c0 c1 c2 _ (H.later b0))
  replace b0 := hid b0
  clear H k0
  go_enter Try.func13, Try.ntmps13
  go_wp2_with fail
  refine HN.out.mono ?_
  rintro e w1 ⟨rfl, b1⟩
  have B1 := hid (b0.out.trans (b1.mono b0.out.size))
  clear b1 q0 q1 q2
  go_wp2_with fail
  go_ret
  exact ⟨rfl, B1.out⟩
set_option maxHeartbeats 8000000 in
set_option maxRecDepth 100000 in
theorem find_one (gs cap : Nat) (p : Option Addr) (k : ByteArray) (q : Int) (w : World) (H : NoT w p) (hc : w.cell? ⟨gs, 0, none⟩ = some (.pointer p)) (hk : k.size ≤ maxLen) :
    Calls Try.prog 66 #[.string k, .int .u64 q, .slice (some ⟨gs, 0, none⟩) 1 cap] w fun e w' => e = .returned (.tuple #[.agg zE, .bool false]) ∧ Below w.heap.size w w' := by
  obtain ⟨W0, hW0⟩ : ∃ W, W = w.alloc (.cells #[.string ⟨#[]⟩, .int .u64 0, .int .i64 0, .string ⟨#[]⟩] 56) := ⟨_, rfl⟩
  have B0 : Below w.heap.size w W0 := by rw [hW0]; exact box_below _ _
  obtain ⟨gr, hgr⟩ : ∃ n, n = w.heap.size := ⟨_, rfl⟩
  have kR : W0.heap[gr]? = some (.cells #[.string ⟨#[]⟩, .int .u64 0, .int .i64 0, .string ⟨#[]⟩] 56) := by rw [hW0, hgr]; exact new_at _ _
  have HT := hid (tnone_any p W0 (H.later B0))
  have hc0 : W0.cell? ⟨gs, 0, none⟩ = some (.pointer p) := (B0.cell (block_lt_of_cell hc)).trans hc
  have HN := newest_any none 0 0 [] k q W0 ⟨rfl, Nat.le_refl _, fun _ => ⟨rfl, rfl⟩, fun _ h => (by cases h), fun _ _ _ h => by cases h⟩ (by omega) hk
  have e0 : (newest k q []) = none := rfl
  rw [e0] at HN
  replace HN : Calls Try.prog 88 #[.slice none 0 0, .string k, .int .u64 q] W0 fun e w' => e = .returned (.tuple #[.agg #[.string ⟨#[]⟩, .int .u64 0, .int .i64 0, .string ⟨#[]⟩], .bool false]) ∧ Below W0.heap.size W0 w' := HN
  replace HN := hid HN
  replace hW0 := hid hW0
  replace hgr := hid hgr
  replace kR := hid kR
  replace B0 := hid B0
  clear H hc
  go_enter Try.func66, Try.ntmps66
  go_wp2_with fail
  rw [← hW0.out, ← hgr.out]
  go_loopw [8, 9, 20] (fun ev cv iv wr => ev = .slice none 0 0 ∧ cv = .int .u64 0 ∧ wr = W0 ∧ (iv = .int .i64 0 ∨ iv = .int .i64 1))
    (fun _ _ iv _ => 1 - (intOf iv).toNat)
  case atStart => exact ⟨rfl, rfl, rfl, .inl rfl⟩
  case round =>
    obtain ⟨rfl, rfl, rfl, hi⟩ := hrel
    rcases hi with rfl | rfl
    · go_wp2_with fail
      refine HT.out.mono ?_
      rintro e w1 ⟨rfl, rfl⟩
      go_wp2_with fail
      first
        | (refine ⟨⟨rfl, rfl, rfl, .inr rfl⟩, ?_⟩; simp only [intOf]; decide)
        | (simp [intOf])
    · clear hc0
      go_wp2_with fail
      refine HN.out.mono ?_
      rintro e w1 ⟨rfl, b1⟩
      have B1 := hid (B0.out.trans (b1.mono B0.out.size))
      have k1 := (b1.block gr (blk_lt kR.out)).trans kR.out
      have b2 := box_below w1 (.cells #[.string ⟨#[]⟩, .int .u64 0, .int .i64 0, .string ⟨#[]⟩] 56)
      have k2 := (b2.block gr (blk_lt k1)).trans k1
      have B2 := hid (B1.out.trans (b2.mono B1.out.size))
      have z0 := cell_of k2 0 (.string ⟨#[]⟩) rfl
      have z1 := cell_of k2 1 (.int .u64 0) rfl
      have z2 := cell_of k2 2 (.int .i64 0) rfl
      have z3 := cell_of k2 3 (.string ⟨#[]⟩) rfl
      have f0 := Tr.fz_of k2
      clear b1 b2 k1 k2 HN
      go_wp2_with fail
      have hle : w.heap.size ≤ gr := Nat.le_of_eq hgr.out.symm
      exact bodyPost_ret (v := .tuple #[.agg zE, .bool false]) (by simp [results, Try.results66, go_sem, z0, z1, z2, z3]) rfl ⟨rfl, ((((B2.out.setCell hle _).setCell hle _).setCell hle _).setCell hle _)⟩
theorem tget (p : Option Addr) (k : ByteArray) (q : Int) (w : World) (H : NoT w p) (hk : k.size ≤ maxLen) : Calls Try.prog 25 #[.pointer p, .string k, .int .u64 q] w fun e w' => e = .returned (.tuple #[.agg zE, .bool false]) ∧ Below w.heap.size w w' := by
  obtain ⟨W0, hW0⟩ : ∃ W, W = w.alloc (.cells #[.string ⟨#[]⟩, .int .u64 0, .int .i64 0, .string ⟨#[]⟩] 56) := ⟨_, rfl⟩
  have B0 : Below w.heap.size w W0 := by rw [hW0]; exact box_below _ _
  obtain ⟨gr, hgr⟩ : ∃ n, n = w.heap.size := ⟨_, rfl⟩
  have hn0 : W0.heap.size = gr + 1 := by rw [hW0, hgr]; simp
  have kR : W0.heap[gr]? = some (.cells #[.string ⟨#[]⟩, .int .u64 0, .int .i64 0, .string ⟨#[]⟩] 56) := by rw [hW0, hgr]; exact new_at _ _
  obtain ⟨W1, hW1⟩ : ∃ W, W = W0.alloc (.cells #[.pointer p] 23) := ⟨_, rfl⟩
  have b1 : Below W0.heap.size W0 W1 := by rw [hW1]; exact box_below _ _
  have k1 : W1.heap[gr + 1]? = some (.cells #[.pointer p] 23) := by rw [hW1, ← hn0]; exact new_at _ _
  have kR1 := (b1.block gr (by omega)).trans kR
  have B1 : Below w.heap.size w W1 := B0.trans (b1.mono B0.size)
  have HF := hid (find_one (gr + 1) 1 p k q W1 (H.later B1) (cell_of k1 0 _ rfl) hk)
  replace hW0 := hid hW0
  replace hW1 := hid hW1
  replace hgr := hid hgr
  replace B1 := hid B1
  replace kR1 := hid kR1
  clear B0 kR b1 k1 hn0 H
  go_enter Try.func25, Try.ntmps25
  go_wp2_with fail
  rw [← hW0.out, ← hgr.out, ← hW1.out]
  refine HF.out.mono ?_
  rintro e w2 ⟨rfl, b2⟩
  have B2 := hid (B1.out.trans (b2.mono B1.out.size))
  have k2 := (b2.block gr (blk_lt kR1.out)).trans kR1.out
  have z0 := cell_of k2 0 (.string ⟨#[]⟩) rfl
  have z1 := cell_of k2 1 (.int .u64 0) rfl
  have z2 := cell_of k2 2 (.int .i64 0) rfl
  have z3 := cell_of k2 3 (.string ⟨#[]⟩) rfl
  have f0 := Tr.fz_of k2
  clear b2 k2 HF
  go_wp2_with fail
  have hle : w.heap.size ≤ gr := Nat.le_of_eq hgr.out.symm
  exact bodyPost_ret (v := .tuple #[.agg zE, .bool false]) (by simp [results, Try.results25, go_sem, z0, z1, z2, z3]) rfl ⟨rfl, ((((B2.out.setCell hle _).setCell hle _).setCell hle _).setCell hle _)⟩
theorem qget (p : Option Addr) (k : ByteArray) (q : Int) (w : World) (H : NoQ w p) (hk : k.size ≤ maxLen) : Calls Try.prog 37 #[.pointer p, .string k, .int .u64 q] w fun e w' => e = .returned (.tuple #[.agg zE, .bool false]) ∧ Below w.heap.size w w' := by
  obtain ⟨W0, hW0⟩ : ∃ W, W = w.alloc (.cells #[.string ⟨#[]⟩, .int .u64 0, .int .i64 0, .string ⟨#[]⟩] 56) := ⟨_, rfl⟩
  have B0 : Below w.heap.size w W0 := by rw [hW0]; exact box_below _ _
  obtain ⟨gr, hgr⟩ : ∃ n, n = w.heap.size := ⟨_, rfl⟩
  have kR : W0.heap[gr]? = some (.cells #[.string ⟨#[]⟩, .int .u64 0, .int .i64 0, .string ⟨#[]⟩] 56) := by rw [hW0, hgr]; exact new_at _ _
  have HQ := hid (qtables p W0 (H.later B0))
  have HF := Gt.find_any none 0 0 [] k q W0 ⟨rfl, Nat.le_refl _, fun _ => ⟨rfl, rfl⟩, fun _ _ _ h => by cases h⟩ (fun _ h => by cases h) (by omega) (fun _ h => by cases h) hk
  have e0 : Gt.fnd [] k q = (ze, false) := rfl
  rw [e0] at HF
  replace HF : Calls Try.prog 66 #[.string k, .int .u64 q, .slice none 0 0] W0 fun e w' => e = .returned (.tuple #[.agg zE, .bool false]) ∧ Below W0.heap.size W0 w' := HF
  replace HF := hid HF
  replace hW0 := hid hW0
  replace hgr := hid hgr
  replace B0 := hid B0
  replace kR := hid kR
  clear H
  go_enter Try.func37, Try.ntmps37
  go_wp2_with fail
  rw [← hW0.out]
  try rw [← hgr.out]
  refine HQ.out.mono ?_
  rintro e w1 ⟨rfl, rfl⟩
  go_wp2_with fail
  refine HF.out.mono ?_
  rintro e w2 ⟨rfl, b2⟩
  have B2 := hid (B0.out.trans (b2.mono B0.out.size))
  have k2 := (b2.block gr (blk_lt kR.out)).trans kR.out
  have z0 := cell_of k2 0 (.string ⟨#[]⟩) rfl
  have z1 := cell_of k2 1 (.int .u64 0) rfl
  have z2 := cell_of k2 2 (.int .i64 0) rfl
  have z3 := cell_of k2 3 (.string ⟨#[]⟩) rfl
  have f0 := Tr.fz_of k2
  clear b2 k2 HF
  go_wp2_with fail
  have hle : w.heap.size ≤ gr := Nat.le_of_eq hgr.out.symm
  exact bodyPost_ret (v := .tuple #[.agg zE, .bool false]) (by simp [results, Try.results37, go_sem, z0, z1, z2, z3]) rfl ⟨rfl, ((((B2.out.setCell hle _).setCell hle _).setCell hle _).setCell hle _)⟩
end Go.Proofs.Ytefihoohdaegeaa.Nm

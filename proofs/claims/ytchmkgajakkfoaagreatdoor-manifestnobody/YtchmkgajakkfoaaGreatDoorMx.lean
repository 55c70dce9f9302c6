/- Load of no disk; ManifestNobody walked. -/
import Derived.Test.YtchmkgajakkfoaaGreatDoorMw
namespace Go.Proofs.YtchmkgajakkfoaaGreatDoor.Mx
open Go.ChangeShapes Go.WideShapes Go.ChangeAt Go.RowKit Go.Maps
open Go.Proofs.YtchmkgajakkfoaaGreatDoor.Gr
open Go.Proofs.YtchmkgajakkfoaaGreatDoor.Mn
open Go.Proofs.YtchmkgajakkfoaaGreatDoor.Md
open Go.Proofs.YtchmkgajakkfoaaGreatDoor.Mw
set_option linter.unusedVariables false
set_option linter.unusedSimpArgs false

theorem blk_drew {X : World} {g : Nat} {o : Obj} (h : X.heap[g]? = some o) : X.drew.heap[g]? = some o := h
set_option maxHeartbeats 400000 in
theorem load_in (x y : Int) (w : World) : Calls Tryz.prog 61 #[.pointer none, .int .i64 x, .int .i64 y] w fun e w' => e = .returned (.tuple #[ZS, nilE]) ∧ Below w.heap.size w w' := by
  unfold nilE
  obtain ⟨g, hg⟩ : ∃ g, g = w.heap.size := ⟨_, rfl⟩
  obtain ⟨W1, hW1⟩ : ∃ W, W = w.alloc (.cells Z5 37) := ⟨_, rfl⟩
  have k1 : W1.heap[g]? = some (.cells Z5 37) := by rw [hW1, hg]; exact new_at _ _
  have b1 : Below w.heap.size w W1 := by rw [hW1]; exact box_below _ _
  have c1 := hid (nodisk_any W1)
  have hk : Hid (∀ W2, Below W1.heap.size W1 W2 → W2.heap[g]? = some (.cells Z5 37)) := fun W2 b => (b.block _ (blk_lt k1)).trans k1
  replace hW1 := hid hW1
  replace hg := hid hg
  replace b1 := hid b1
  clear k1
  go_enter Tryz.func61, Tryz.ntmps61
  go_wp2_with (first | (go_at_call 51; rw [← hW1.out, ← hg.out]; refine c1.out.mono ?_; rintro e w1 ⟨rfl, b2⟩; have k2 := hk.out _ b2; have q0 := cell_of k2 0 _ rfl; have q1 := cell_of k2 1 _ rfl; have q2 := cell_of k2 2 _ rfl; have q3 := cell_of k2 3 _ rfl; have q4 := cell_of k2 4 _ rfl; have z0 := fz_of k2 0; have z1 := fz_of k2 1; have z2 := fz_of k2 2; have z3 := fz_of k2 3; have z4 := fz_of k2 4; have k3 := hid (five_blk k2); have b3 := hid (five_below (Below.up b1.out b2) (Nat.le_of_eq hg.out.symm)); clear k2 b2))
  obtain ⟨WB, hWB⟩ : ∃ W, W = five w1 g := ⟨_, rfl⟩
  rw [← hWB] at k3 b3
  unfold five at hWB
  rw [← hWB]
  have x0 := cell_of k3.out 0 _ rfl
  have x1 := cell_of k3.out 1 _ rfl
  have x2 := cell_of k3.out 2 _ rfl
  have x3 := cell_of k3.out 3 _ rfl
  have x4 := cell_of k3.out 4 _ rfl
  clear q0 q1 q2 q3 q4 z0 z1 z2 z3 z4 hWB
  exact bodyPost_ret (v := .tuple #[ZS, .iface 40 (.int .i64 1)]) (by simp [results, Tryz.results61, go_sem, x0, x1, x2, x3, x4, ZS]) rfl ⟨rfl, b3.out⟩
set_option maxHeartbeats 400000 in
theorem load_nil (x y : Int) (w : World) : Calls Tryz.prog 21 #[.pointer none, .int .i64 x, .int .i64 y] w fun e w' => e = .returned (.tuple #[ZS, .int .i64 1]) ∧ Below w.heap.size w w' := by
  obtain ⟨g, hg⟩ : ∃ g, g = w.heap.size := ⟨_, rfl⟩
  obtain ⟨W1, hW1⟩ : ∃ W, W = w.alloc (.cells Z5 37) := ⟨_, rfl⟩
  have k1 : W1.heap[g]? = some (.cells Z5 37) := by rw [hW1, hg]; exact new_at _ _
  have b1 : Below w.heap.size w W1 := by rw [hW1]; exact box_below _ _
  have c1 := hid (load_in x y W1)
  have hk : Hid (∀ W2, Below W1.heap.size W1 W2 → W2.heap[g]? = some (.cells Z5 37)) := fun W2 b => (b.block _ (blk_lt k1)).trans k1
  have c2 := hid told_any
  unfold ZS nilE at *
  replace hW1 := hid hW1
  replace hg := hid hg
  replace b1 := hid b1
  clear k1
  go_enter Tryz.func21, Tryz.ntmps21
  go_wp2_with (first | (go_at_call 61; rw [← hW1.out, ← hg.out]; refine c1.out.mono ?_; rintro e w1 ⟨rfl, b2⟩))
  obtain ⟨W2, hW2⟩ : ∃ W, W = w1.alloc (.cells Z5 37) := ⟨_, rfl⟩
  obtain ⟨g2, hg2⟩ : ∃ g, g = w1.heap.size := ⟨_, rfl⟩
  have j2 : W2.heap[g2]? = some (.cells Z5 37) := by rw [hW2, hg2]; exact new_at _ _
  have b3 : Below W1.heap.size W1 W2 := Below.up b2 (by rw [hW2]; exact box_below _ _)
  rw [← hW2, ← hg2]
  have k2 := hk.out _ b3
  have q0 := cell_of k2 0 _ rfl
  have q1 := cell_of k2 1 _ rfl
  have q2 := cell_of k2 2 _ rfl
  have q3 := cell_of k2 3 _ rfl
  have q4 := cell_of k2 4 _ rfl
  have z0 := fz_of k2 0
  have z1 := fz_of k2 1
  have z2 := fz_of k2 2
  have z3 := fz_of k2 3
  have z4 := fz_of k2 4
  have y0 := cell_of j2 0 _ rfl
  have y1 := cell_of j2 1 _ rfl
  have y2 := cell_of j2 2 _ rfl
  have y3 := cell_of j2 3 _ rfl
  have y4 := cell_of j2 4 _ rfl
  have kB : ((five W2 g).drew).heap[g]? = some (.cells Z5 37) := blk_drew (five_blk (W := W2) k2)
  have bB := hid (Below.up (five_below (g := g) (Below.up b1.out b3) (Nat.le_of_eq hg.out.symm)) (drew_below _))
  obtain ⟨WB, hWB⟩ : ∃ W, W = (five W2 g).drew := ⟨_, rfl⟩
  rw [← hWB] at kB bB
  unfold five at hWB
  replace hWB := hid hWB
  have x0 := hid (cell_of kB 0 _ rfl)
  have x1 := hid (cell_of kB 1 _ rfl)
  have x2 := hid (cell_of kB 2 _ rfl)
  have x3 := hid (cell_of kB 3 _ rfl)
  have x4 := hid (cell_of kB 4 _ rfl)
  clear k2 j2 b3 b2 kB hW2 hg2
  go_region_with (first | (go_at_call 36; refine (c2.out _).mono ?_; rintro e w2 ⟨rfl, hw2⟩; subst hw2))
  all_goals
    rw [← hWB.out]
    clear q0 q1 q2 q3 q4 z0 z1 z2 z3 z4 y0 y1 y2 y3 y4
    replace x0 := x0.out
    replace x1 := x1.out
    replace x2 := x2.out
    replace x3 := x3.out
    replace x4 := x4.out
    go_wp2_with fail
    exact bodyPost_ret (v := .tuple #[.agg #[.slice none 0 0, .int .i64 0, .int .i64 0, .int .u64 0, .int .i64 0], .int .i64 1]) (by simp [results, Tryz.results21, go_sem, x0, x1, x2, x3, x4]) rfl ⟨rfl, bB.out⟩
/-! ### The law -/
abbrev Z9 : Array Value := #[.int .i64 0, .string ⟨#[]⟩, .slice none 0 0, .int .i64 0, .int .i64 0, .int .u64 0, .int .i64 0, .int .i64 0, .int .i64 0]
set_option maxRecDepth 20000 in
set_option maxHeartbeats 1000000 in
theorem nobody_any (a b c : Int) (d1 d2 : Option Addr) (n1 n2 c1 c2 : Nat) (w : World) :
    Calls Tryz.prog 5 #[.agg #[.int .i64 a, .int .i64 b, .int .u64 c, .slice d1 n1 c1, .slice d2 n2 c2]] w fun e w' => e = .returned (.bool true) ∧ Below w.heap.size w w' := by
  obtain ⟨ge, hge⟩ : ∃ g, g = w.heap.size := ⟨_, rfl⟩
  obtain ⟨W1, hW1⟩ : ∃ W, W = w.alloc (.cells #[.int .i64 a, .int .i64 b, .int .u64 c, .slice d1 n1 c1, .slice d2 n2 c2] 51) := ⟨_, rfl⟩
  have k1 : W1.heap[ge]? = some (.cells #[.int .i64 a, .int .i64 b, .int .u64 c, .slice d1 n1 c1, .slice d2 n2 c2] 51) := by rw [hW1, hge]; exact new_at _ _
  have b1 : Below w.heap.size w W1 := by rw [hW1]; exact box_below _ _
  have HN := hid (new_any W1)
  have hk : Hid (∀ W, Below W1.heap.size W1 W → W.heap[ge]? = some (.cells #[.int .i64 a, .int .i64 b, .int .u64 c, .slice d1 n1 c1, .slice d2 n2 c2] 51)) := fun W b => (b.block _ (blk_lt k1)).trans k1
  have HB := hid (begin_nil 64)
  have HL := hid (load_nil 64 1)
  have HC := hid current_nil
  unfold ZS at HB HL
  replace b1 := hid b1
  replace hW1 := hid hW1
  replace hge := hid hge
  clear k1
  go_enter Tryz.func5, Tryz.ntmps5
  go_wp2_with (first | (go_at_call 23; rw [← hW1.out, ← hge.out]; refine HN.out.mono ?_; rintro e w2 ⟨gd, gb, rfl, N2, b2⟩; replace N2 := hid N2; replace b2 := hid b2))
  obtain ⟨gm, hgm⟩ : ∃ g, g = w2.heap.size := ⟨_, rfl⟩
  obtain ⟨W3, hW3⟩ : ∃ W, W = w2.alloc (.cells Z9 76) := ⟨_, rfl⟩
  have k3 : W3.heap[gm]? = some (.cells Z9 76) := by rw [hW3, hgm]; exact new_at _ _
  have b3 : Below w2.heap.size w2 W3 := by rw [hW3]; exact box_below _ _
  have hs3 : w2.heap.size + 1 = W3.heap.size := by rw [hW3]; exact (size_alloc _ _).symm
  obtain ⟨W4, hW4⟩ : ∃ W, W = W3.alloc (.cells #[.pointer none, .pointer (some ⟨gm, 0, none⟩)] 39) := ⟨_, rfl⟩
  obtain ⟨gr, hgr⟩ : ∃ g, g = W3.heap.size := ⟨_, rfl⟩
  have k4 : W4.heap[gr]? = some (.cells #[.pointer none, .pointer (some ⟨gm, 0, none⟩)] 39) := by rw [hW4, hgr]; exact new_at _ _
  have b4 : Below W3.heap.size W3 W4 := by rw [hW4]; exact box_below _ _
  rw [← hgm, ← hW3, hgm, hs3, ← hgm, ← hgr, ← hW4]
  have km : W4.heap[gm]? = some (.cells Z9 76) := (b4.block _ (blk_lt k3)).trans k3
  have b24 := hid (Below.up b2.out (Below.up b3 b4))
  have N4 := hid (N2.out.later (Below.up b3 b4))
  have hp : Hid (∀ wr, Below W4.heap.size W4 wr → ∀ i, i < 2 → ∃ p, wr.cell? ⟨gr, i, none⟩ = some p ∧ Non wr p) := by
    intro wr b i hi
    have kr := (b.block _ (blk_lt k4)).trans k4
    have kg := (b.block _ (blk_lt km)).trans km
    match i, hi with
    | 0, _ => exact ⟨_, cell_of kr 0 _ rfl, .inl rfl⟩
    | 1, _ => exact ⟨_, cell_of kr 1 _ rfl, .inr ⟨gm, rfl, cell_of kg 0 _ rfl⟩⟩
  clear hW3 hW4 hgr hgm hs3 k3 k4 km b3 b4 N2 b2 HN
  go_loopw [24] (fun ii wr => ∃ i : Nat, ii = .int .i64 i ∧ i ≤ 2 ∧ Hid (Below W4.heap.size W4 wr)) (fun ii _ => 2 - (intOf ii).toNat)
  case atStart => exact ⟨0, rfl, by omega, Below.refl _ _⟩
  case round =>
    obtain ⟨i, rfl, hi, bw⟩ := hrel
    by_cases hlt : i < 2
    · obtain ⟨p, hpc, hnon⟩ := hp.out wr bw.out i hlt
      have kw := hk.out wr (Below.up b24.out bw.out)
      have cS := hid (size_non hnon)
      have cT := hid (state_non hnon)
      have cA : Hid (∀ W, Below wr.heap.size wr W → Calls Tryz.prog 14 #[p, .pointer (some ⟨gd, 0, none⟩), .agg #[.int .i64 a, .int .i64 b, .int .u64 c, .slice d1 n1 c1, .slice d2 n2 c2]] W fun e w' => e = .returned (.int .i64 1) ∧ Below W.heap.size W w') := fun W b => append_non (hnon.later b) _ _ _ _ _ _
      unfold ZS at cT
      replace kw := hid kw
      have ik0 : (i : Int) < 2 := by omega
      have ok0 : (0 : Int) ≤ (i : Int) := by omega
      clear hnon
      have g0 := hid (fun (w5 : World) (b5 : Below wr.heap.size wr w5) => (Below.up b5 (box_below w5 (.cells Z5 37))).block _ (blk_lt kw.out) |>.trans kw.out)
      go_wp2_with (first
        | (go_at_call 16; refine cS.out.mono ?_; rintro e w4 ⟨rfl, hw4⟩; subst hw4)
        | (go_at_call 17; refine cT.out.mono ?_; rintro e w5 ⟨rfl, b5⟩; have kk := g0.out w5 b5; have f0 := cell_of kk 0 _ rfl; have f1 := cell_of kk 1 _ rfl; have f2 := cell_of kk 2 _ rfl; have f3 := cell_of kk 3 _ rfl; have f4 := cell_of kk 4 _ rfl; have b6 := hid (Below.up b5 (box_below w5 (.cells Z5 37))); have k6 := hid (new_at w5 (.cells Z5 37)); clear kk b5)
        | (go_at_call 14; refine (cA.out _ b6.out).mono ?_; rintro e w7 ⟨rfl, b7⟩; have kk := (b7.block _ (blk_lt k6.out)).trans k6.out; have h0 := cell_of kk 0 _ rfl; have h1 := cell_of kk 1 _ rfl; have h2 := cell_of kk 2 _ rfl; have h3 := cell_of kk 3 _ rfl; have h4 := cell_of kk 4 _ rfl; have b8 := hid (Below.up bw.out (Below.up b6.out b7)); clear f0 f1 f2 f3 f4 kk b7))
      go_roundw
      case rel => exact ⟨i + 1, by go_num, by omega, b8⟩
      case measure => simp [intOf]; omega
    · have hie : i = 2 := by omega
      subst hie
      have NL : Hid (∀ W, Below wr.heap.size wr W → Calls Tryz.prog 24 #[.pointer (some ⟨gd, 0, none⟩)] W fun e w' => ∃ a c, e = .returned (.slice a 0 c) ∧ Below W.heap.size W w') := fun W b => list_any (N4.out.later (Below.up bw.out b))
      go_wp2_with (first
        | (go_at_call 10; refine (HB.out _).mono ?_; rintro e w5 ⟨rfl, b5⟩; replace b5 := hid b5)
        | (go_at_call 21; refine (HL.out _).mono ?_; rintro e w6 ⟨rfl, b6⟩; replace b6 := hid (Below.up (Below.up b5.out b6) (box_below w6 (.cells Z5 37))))
        | (go_at_call 19; refine (HC.out _).mono ?_; rintro e w7 ⟨rfl, b7⟩; replace b7 := hid (Below.up b6.out b7))
        | (go_at_call 24; refine (NL.out _ b7.out).mono ?_; rintro e w8 ⟨al, cl, rfl, b8⟩; replace b8 := hid (Below.up b7.out b8)))
      go_ret
      exact ⟨rfl, Below.up b1.out (Below.up b24.out (Below.up bw.out b8.out))⟩
end Go.Proofs.YtchmkgajakkfoaaGreatDoor.Mx

/- Add of a set of tombs. -/
import Derived.Test.YtefihoohdaegeaaFm
import Derived.Test.YtefihoohdaegeaaLi
import Derived.Maps.AppendAt
namespace Go.Proofs.Ytefihoohdaegeaa.Sa
open Go.ChangeShapes Go.WideShapes Go.ChangeAt Go.RowKit Go.Shelf
open Go.Proofs.Ytefihoohdaegeaa.Lx
open Go.Proofs.Ytefihoohdaegeaa.Tm
open Go.Proofs.Ytefihoohdaegeaa.Mt
open Go.Proofs.Ytefihoohdaegeaa.Rw
open Go.Proofs.Ytefihoohdaegeaa.Es
open Go.Proofs.Ytefihoohdaegeaa.Fm
open Go.Proofs.Ytefihoohdaegeaa.Li (wp_append_run)
set_option linter.unusedVariables false
set_option linter.unusedSimpArgs false

theorem sb_row {w : World} {g base n : Nat} {v u : Value} {xs : List Value} (h : Sb w g u) (o : w.ownsRow base 111 3 v n xs) : some g ≠ v.ownBlock := by
  intro e
  rcases o.2 with ⟨rfl, _⟩ | ⟨g', cap', cur, rfl, hb, hg, hr⟩
  · simp [Value.ownBlock] at e
  · simp [Value.ownBlock] at e
    subst e
    unfold Sb at h
    rw [hg] at h
    simp at h
theorem row_block {w : World} {base e size n : Nat} {v : Value} {xs : List Value} (h : w.ownsRow base e size v n xs) : ∃ a c, v = .slice a n c := by
  rcases h.2 with ⟨e, h0⟩ | ⟨g, c, cur, e, _⟩
  · rw [h0]; exact ⟨_, _, e⟩
  · exact ⟨_, _, e⟩
/-- A row of tombs, and one more: the block of what comes. -/
theorem app_tomb' (w : World) (base : Nat) (v : Value) (l : List T) (x : T) (H : OwnT w base v l) (hn : (l.length + 1) * 40 ≤ 140737488355328) (hbase : base ≤ w.heap.size) :
    ∃ v' w', (Builtin.append_ #[26, 26] 26 #[v, .slice (some ⟨w.heap.size, 0, none⟩) 1 1]).run Try.prog (w.alloc (.cells #[.string x.b, .string x.e, .int .u64 x.s] 111)) = .ok v' w' ∧ OwnT w' base v' (l ++ [x]) ∧ w.grownBy w' v.ownBlock ∧ (∀ j, v'.ownBlock = some j → v.ownBlock = some j ∨ w.heap.size ≤ j) := by
  obtain ⟨i0, hi, hz0, hz1, hz2⟩ := info_parts infoT
  have b1 := box_below w (.cells #[.string x.b, .string x.e, .int .u64 x.s] 111)
  have H2 := row_later H b1
  have n4 := new_at w (.cells #[.string x.b, .string x.e, .int .u64 x.s] 111)
  obtain ⟨v5, W5, r5, o5, g5, _, q5⟩ := run_append_own_at (P := Try.prog) (w.alloc (.cells #[.string x.b, .string x.e, .int .u64 x.s] 111)) base 26 26 111 i0 _ 3 40 Try.underlying26 hi hz0 hz1 hz2 rfl (by decide) v l.length _ H2 ⟨w.heap.size, 0, none⟩ 1 1 [.string x.b, .string x.e, .int .u64 x.s] rfl (by
    intro q u hq
    rw [show (⟨w.heap.size, 0, none⟩ : Addr).add q = ⟨w.heap.size, q, none⟩ by unfold Addr.add; split <;> simp_all]
    exact cell_of n4 q u (by simpa using hq)) (by intro u hu; simp at hu; rcases hu with rfl | rfl | rfl <;> rfl) (by unfold maxLen; omega) (by omega) (by rw [size_alloc]; omega)
  refine ⟨v5, W5, r5, ?_, ?_, ?_⟩
  · unfold OwnT
    rw [List.length_append, tcs_append]
    exact o5
  · exact ⟨g5.os.trans b1.os, g5.tape.trans b1.tape, g5.output.trans b1.output, Nat.le_trans b1.size g5.size, fun k hk hne => (g5.block k (Nat.lt_of_lt_of_le hk b1.size) hne).trans (b1.block k hk)⟩
  · intro j hj
    rcases q5 with h | h
    · exact .inl (h ▸ hj)
    · rw [h] at hj
      have := Option.some.inj hj
      rw [size_alloc] at this
      exact .inr (by omega)
set_option maxHeartbeats 2000000 in
set_option maxRecDepth 100000 in
theorem setadd_yes (base g : Nat) (v : Value) (xs : List T) (b e : ByteArray) (s : Int) (w : World) (H : Sb w g v) (HO : OwnT w base v xs) (hv : vd ⟨b, e, s⟩ = true) (hn : (xs.length + 1) * 40 ≤ 140737488355328) (hbase : base ≤ w.heap.size) :
    Calls Try.prog 82 #[.pointer (some ⟨g, 0, none⟩), .agg #[.string b, .string e, .int .u64 s]] w fun r w' => r = .returned (.int .i64 0) ∧ ∃ v', Sb w' g v' ∧ OwnT w' base v' (xs ++ [⟨b, e, s⟩]) ∧ Fp (fun j => j = g ∨ v.ownBlock = some j) w w' ∧ (∀ j, v'.ownBlock = some j → v.ownBlock = some j ∨ w.heap.size ≤ j) := by
  obtain ⟨W0, hW0⟩ : ∃ W, W = w.alloc (.cells #[.string b, .string e, .int .u64 s] 111) := ⟨_, rfl⟩
  have HV := valid_any b e s W0
  rw [hv] at HV
  obtain ⟨W1, hW1⟩ : ∃ W, W = W0.alloc (.cells #[.string b, .string e, .int .u64 s] 111) := ⟨_, rfl⟩
  rw [← hW1] at HV
  have B0 : Below w.heap.size w W0 := by rw [hW0]; exact box_below _ _
  have B1 : Below w.heap.size w W1 := by rw [hW1]; exact B0.alloc B0.size _
  obtain ⟨D, hD⟩ : ∃ D, D = World.drew W1 := ⟨_, rfl⟩
  have BD : Below w.heap.size w D := by rw [hD]; exact B1.drew
  obtain ⟨gt, hgt⟩ : ∃ n, n = w.heap.size := ⟨_, rfl⟩
  have k0 : Bt W0 gt ⟨b, e, s⟩ := by rw [hW0, hgt]; exact new_at _ _
  have hl0 : gt < W0.heap.size := by rw [hW0, hgt]; simp
  have k1 : Bt W1 gt ⟨b, e, s⟩ := by rw [hW1]; exact k0.later (box_below _ _)
  have kD : Bt D gt ⟨b, e, s⟩ := by rw [hD]; exact k1
  have HD : Sb D g v := (BD.block g H.lt).trans H
  have HOD : OwnT D base v xs := row_later HO BD
  obtain ⟨v', w', hrun, hown, hgr, hblk⟩ := app_tomb' D base v xs ⟨b, e, s⟩ HOD hn (by have := BD.size; omega)
  obtain ⟨d, hd⟩ : ∃ n, n = D.heap.size := ⟨_, rfl⟩
  obtain ⟨an, ac, rfl⟩ := row_block HO
  obtain ⟨an', ac', rfl⟩ := row_block hown
  have Hw : Sb w' g (.slice an xs.length ac) := (hgr.block g HD.lt (sb_row HD HOD)).trans HD
  have c0 : W0.cell? ⟨g, 0, none⟩ = some (.bool true) := Sb.c0 ((B0.block g H.lt).trans H)
  rw [hW0] at c0
  have t0 := k0.c0
  have t1 := k0.c1
  have t2 := k0.c2
  have s0 := kD.c0
  have s1 := kD.c1
  have s2 := kD.c2
  have c1 := HD.c1
  have cA : (D.alloc (.cells #[.string b, .string e, .int .u64 s] 111)).cell? ⟨g, 1, none⟩ = some (.slice an xs.length ac) := Sb.c1 (((box_below D _).block g HD.lt).trans HD)
  have cw := Hw.c1
  have fw := Hw.fz 1
  dsimp only at t0 t1 t2 s0 s1 s2 hrun
  have FIN : Hid (Ending.returned (.int .i64 0) = .returned (.int .i64 0) ∧ ∃ v', Sb (w'.setCell ⟨g, 1, none⟩ (.slice an' (xs ++ [(⟨b, e, s⟩ : T)]).length ac')) g v' ∧ OwnT (w'.setCell ⟨g, 1, none⟩ (.slice an' (xs ++ [(⟨b, e, s⟩ : T)]).length ac')) base v' (xs ++ [⟨b, e, s⟩]) ∧ Fp (fun j => j = g ∨ (Value.slice an xs.length ac).ownBlock = some j) w (w'.setCell ⟨g, 1, none⟩ (.slice an' (xs ++ [(⟨b, e, s⟩ : T)]).length ac')) ∧ (∀ j, v'.ownBlock = some j → (Value.slice an xs.length ac).ownBlock = some j ∨ w.heap.size ≤ j)) := by
    refine ⟨rfl, _, Hw.set _, ?_, ?_, fun j hj => (hblk j hj).imp id (fun h => by have := BD.size; omega)⟩
    · refine own_blocks hown (fun j hj => Below.heap_setCell w' _ _ j (fun e => sb_row Hw hown ?_))
      rw [hj, show j = g from e]
    · refine Fp.set (Fp.grown (Fp.of BD) hgr (fun j hj => .inl (.inr hj))) (.inl (.inl rfl)) _ _
  replace hrun := hid hrun
  replace hW0 := hid hW0
  replace hgt := hid hgt
  replace hD := hid hD
  replace hd := hid hd
  replace HV := hid HV
  clear B0 B1 BD k0 k1 kD HD HOD hown hgr hblk Hw hn hbase hW1 hv HO H hl0
  generalize (xs ++ [(⟨b, e, s⟩ : T)]).length = L' at *
  go_enter Try.func82, Try.ntmps82
  go_wp2_with fail
  rw [← hW0.out, ← hgt.out]
  go_wp2_with fail
  refine HV.out.mono ?_
  rintro r w1 ⟨rfl, rfl⟩
  go_wp2_with fail
  refine wp_region_any (by kernel_rfl) ?_
  change wpAny _ _ _ _ _ _ _ (World.drew _)
  rw [← hD.out]
  refine wpAny_take (i := 0) (v := ?v1) rfl (by kernel_rfl) (by kernel_rfl) (by kernel_rfl) (fun _ _ _ h => h) (Or.inl ⟨by rfl, ?h1⟩) ?_
  case h1 => (intro w; go_simp; try (with_reducible rfl))
  go_simp
  refine wpAny_take (i := 1) (v := ?v2) rfl (by kernel_rfl) (by kernel_rfl) (by kernel_rfl) (fun _ _ _ h => h) (Or.inl ⟨by rfl, ?h2⟩) ?_
  case h2 => (intro w; go_simp; try (with_reducible rfl))
  go_simp
  refine wpAny_take (i := 2) (v := ?v3) rfl (by kernel_rfl) (by kernel_rfl) (by kernel_rfl) (fun _ _ _ h => h) (Or.inl ⟨by rfl, ?h3⟩) ?_
  case h3 => (intro w; go_simp; try (with_reducible rfl))
  go_simp
  refine wpAny_take (i := 3) (v := ?v4) rfl (by kernel_rfl) (by kernel_rfl) (by kernel_rfl) (fun _ _ _ h => h) (Or.inl ⟨by rfl, ?h4⟩) ?_
  case h4 => (intro w; go_simp; try (with_reducible rfl))
  go_simp
  refine wpAny_ready (rs := [4, 5]) (by kernel_rfl) (by simp) ?_
  refine AllReady.cons rfl (fun K hK => ?_) ?_
  · go_simp
    refine hK _ _ ?_
    clear hK K
    refine wpAny_ready (rs := [5]) (by kernel_rfl) (by simp) ?_
    refine AllReady.cons rfl (fun K hK => ?_) ?_
    · go_simp
      refine hK _ _ ?_
      clear hK K
      refine wpAny_ready (rs := [6]) (by kernel_rfl) (by simp) ?_
      refine AllReady.cons rfl (fun K hK => ?_) ?_
      · go_simp
        refine hK _ _ ?_
        clear hK K
        refine wpAny_ready (rs := [7]) (by kernel_rfl) (by simp) ?_
        refine AllReady.cons rfl (fun K hK => ?_) ?_
        · rw [if_pos (by rfl)]
          refine wp_append_run _ _ 26 26 rfl _ _ _ (by rfl) (by rfl) hrun.out ?_
          refine hK _ _ ?_
          clear hK K
          go_simp
          refine wpAny_take (i := 8) (v := ?v5) rfl (by kernel_rfl) (by kernel_rfl) (by kernel_rfl) (fun _ _ _ h => h) (Or.inl ⟨by rfl, ?h5⟩) ?_
          case h5 => (intro w; go_simp; try (with_reducible rfl))
          go_simp
          refine wpAny_take (i := 9) (v := ?v6) rfl (by kernel_rfl) (by kernel_rfl) (by kernel_rfl) (fun _ _ _ h => h) (Or.inl ⟨by rfl, ?h6⟩) ?_
          case h6 => (intro w; go_simp; try (with_reducible rfl))
          go_simp
          refine wpAny_ready (rs := [10]) (by kernel_rfl) (by simp) ?_
          refine AllReady.cons rfl (fun K hK => ?_) ?_
          · go_simp
            refine hK _ _ ?_
            clear hK K
            refine wpAny_done (by kernel_rfl) ?_ _
            go_wp2_with fail
            go_ret
            exact ⟨rfl, FIN.out.2⟩
          exact AllReady.nil
        exact AllReady.nil
      exact AllReady.nil
    exact AllReady.nil
  refine AllReady.cons rfl (fun K hK => ?_) ?_
  · go_simp
    refine hK _ _ ?_
    clear hK K
    refine wpAny_ready (rs := [4, 6]) (by kernel_rfl) (by simp) ?_
    refine AllReady.cons rfl (fun K hK => ?_) ?_
    · go_simp
      refine hK _ _ ?_
      clear hK K
      refine wpAny_ready (rs := [6]) (by kernel_rfl) (by simp) ?_
      refine AllReady.cons rfl (fun K hK => ?_) ?_
      · go_simp
        refine hK _ _ ?_
        clear hK K
        refine wpAny_ready (rs := [7]) (by kernel_rfl) (by simp) ?_
        refine AllReady.cons rfl (fun K hK => ?_) ?_
        · rw [if_pos (by rfl)]
          refine wp_append_run _ _ 26 26 rfl _ _ _ (by rfl) (by rfl) hrun.out ?_
          refine hK _ _ ?_
          clear hK K
          go_simp
          refine wpAny_take (i := 8) (v := ?v7) rfl (by kernel_rfl) (by kernel_rfl) (by kernel_rfl) (fun _ _ _ h => h) (Or.inl ⟨by rfl, ?h7⟩) ?_
          case h7 => (intro w; go_simp; try (with_reducible rfl))
          go_simp
          refine wpAny_take (i := 9) (v := ?v8) rfl (by kernel_rfl) (by kernel_rfl) (by kernel_rfl) (fun _ _ _ h => h) (Or.inl ⟨by rfl, ?h8⟩) ?_
          case h8 => (intro w; go_simp; try (with_reducible rfl))
          go_simp
          refine wpAny_ready (rs := [10]) (by kernel_rfl) (by simp) ?_
          refine AllReady.cons rfl (fun K hK => ?_) ?_
          · go_simp
            refine hK _ _ ?_
            clear hK K
            refine wpAny_done (by kernel_rfl) ?_ _
            go_wp2_with fail
            go_ret
            exact ⟨rfl, FIN.out.2⟩
          exact AllReady.nil
        exact AllReady.nil
      exact AllReady.nil
    refine AllReady.cons rfl (fun K hK => ?_) ?_
    · go_simp
      refine hK _ _ ?_
      clear hK K
      refine wpAny_ready (rs := [4]) (by kernel_rfl) (by simp) ?_
      refine AllReady.cons rfl (fun K hK => ?_) ?_
      · go_simp
        refine hK _ _ ?_
        clear hK K
        refine wpAny_ready (rs := [7]) (by kernel_rfl) (by simp) ?_
        refine AllReady.cons rfl (fun K hK => ?_) ?_
        · rw [if_pos (by rfl)]
          refine wp_append_run _ _ 26 26 rfl _ _ _ (by rfl) (by rfl) hrun.out ?_
          refine hK _ _ ?_
          clear hK K
          go_simp
          refine wpAny_take (i := 8) (v := ?v9) rfl (by kernel_rfl) (by kernel_rfl) (by kernel_rfl) (fun _ _ _ h => h) (Or.inl ⟨by rfl, ?h9⟩) ?_
          case h9 => (intro w; go_simp; try (with_reducible rfl))
          go_simp
          refine wpAny_take (i := 9) (v := ?v10) rfl (by kernel_rfl) (by kernel_rfl) (by kernel_rfl) (fun _ _ _ h => h) (Or.inl ⟨by rfl, ?h10⟩) ?_
          case h10 => (intro w; go_simp; try (with_reducible rfl))
          go_simp
          refine wpAny_ready (rs := [10]) (by kernel_rfl) (by simp) ?_
          refine AllReady.cons rfl (fun K hK => ?_) ?_
          · go_simp
            refine hK _ _ ?_
            clear hK K
            refine wpAny_done (by kernel_rfl) ?_ _
            go_wp2_with fail
            go_ret
            exact ⟨rfl, FIN.out.2⟩
          exact AllReady.nil
        exact AllReady.nil
      exact AllReady.nil
    exact AllReady.nil
  exact AllReady.nil
end Go.Proofs.Ytefihoohdaegeaa.Sa

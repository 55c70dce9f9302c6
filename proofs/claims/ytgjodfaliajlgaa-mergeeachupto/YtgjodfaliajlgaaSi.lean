/- insertionSortCmpFunc of the library at entries: a part of a row in order, those that are alike as they stood. -/
import Derived.Test.YtgjodfaliajlgaaEw
namespace Go.Proofs.Ytgjodfaliajlgaa.Si
open Go.ChangeShapes Go.WideShapes Go.ChangeAt Go.RowKit
open Go.Sort (grow)
open Go.Proofs.Ytgjodfaliajlgaa.Gr (Fp drewN_below drew_below)
open Go.Proofs.Ytgjodfaliajlgaa.Ik
open Go.Proofs.Ytgjodfaliajlgaa.Ee
open Go.Proofs.Ytgjodfaliajlgaa.Sb
open Go.Proofs.Ytgjodfaliajlgaa.Ew
set_option linter.unusedVariables false
set_option linter.unusedSimpArgs false

set_option maxHeartbeats 1000000 in
set_option maxRecDepth 20000 in
theorem ins_any (g n c a b : Nat) (P M S : List E) (w : World) (H : ERow w g c (P ++ (M ++ S))) (ha : P.length = a) (hb : a + M.length = b) (hn : b + S.length = n) (hbig : n ≤ 140737488355328) :
    Calls Try.prog 81 #[.slice (some ⟨g, 0, none⟩) n c, .int .i64 a, .int .i64 b, cf] w fun e w' => e = .returned (.tuple #[]) ∧ ∃ M', ERow w' g c (P ++ (M' ++ S)) ∧ Srt le M' ∧ Eqf le M' M ∧ Fp (· = g) w w' := by
  have hcap : n ≤ c := by have := H.le; simp at this; omega
  replace H := hid H
  have hbn : b ≤ n := by omega
  have hab : a ≤ b := by omega
  replace ha := hid ha
  replace hb := hid hb
  replace hn := hid hn
  have hw1 : IntKind.i64.wrap ((a : Int) + 1) = ((a + 1 : Nat) : Int) := by rw [IntKind.wrap_i64]; omega
  unfold cf
  go_enter Try.func81, Try.ntmps81
  go_wp2_with fail
  go_loopw [8] (fun iv wr => ∃ (i k : Nat) (Q R : List E), iv = .int .i64 (i : Int) ∧ Hid (i = a + 1 + k) ∧ Hid (Q.length ≤ k + 1) ∧ Hid (R = [] ∨ Q.length = k + 1) ∧ i ≤ b + 1 ∧ Hid (ERow wr g c (P ++ (Q ++ R ++ S))) ∧ Hid (Srt le Q) ∧ Hid (Eqf le (Q ++ R) M) ∧ Hid (Fp (· = g) w wr)) (fun iv _ => (b + 1 - intOf iv).toNat)
  case atStart =>
    refine ⟨a + 1, 0, M.take 1, M.drop 1, by go_num, rfl, ?_, ?_, by omega, ?_, ?_, ?_, Fp.refl _ _⟩
    · show _ ≤ _; rw [List.length_take]; omega
    · show _ ∨ _
      cases M with
      | nil => exact .inl rfl
      | cons x M => exact .inr rfl
    · show ERow _ _ _ _; rw [List.take_append_drop]; exact H.out
    · exact Srt.short (by rw [List.length_take]; omega)
    · show Eqf _ _ _; rw [List.take_append_drop]; exact Eqf.refl _
  case round =>
    obtain ⟨i, k, Q, R, rfl, hik, hQ, hR, hi, HR, hs, he, HF⟩ := hrel
    have hlen : Hid (Q.length + R.length = M.length) := by show _ = _; have := he.out.1; simpa using this
    by_cases hlt : i < b
    · have hR1 : R ≠ [] := by
        intro e
        have h1 := hlen.out
        rw [e] at h1
        have := hQ.out; have := hik.out; have := hb.out
        simp at h1; omega
      have hQ1 : Hid (Q.length = k + 1) := hR.out.resolve_left hR1
      obtain ⟨x, R', hx⟩ := cons_ex (P := R) (List.length_pos_iff.2 hR1)
      subst hx
      have h6 : (i : Int) < (b : Int) := by omega
      clear hR hR1
      go_wp2_with fail
      obtain ⟨wo, hwo⟩ : ∃ wo : World, wo = wr := ⟨_, rfl⟩
      rw [← hwo] at HR HF
      have HF0 := HF
      clear HF
      go_loopw [9] (fun jv wx => ∃ (p1 : Nat) (A B : List E), jv = .int .i64 (p1 : Int) ∧ Hid ((P ++ A).length = p1) ∧ Hid (Q = A ++ B) ∧ Hid (∀ y ∈ B, le y x = false) ∧ Hid (ERow wx g c ((P ++ A) ++ x :: (B ++ (R' ++ S)))) ∧ Hid (Eqf le (A ++ x :: (B ++ R')) M) ∧ Hid (Fp (· = g) w wx)) (fun jv _ => (intOf jv).toNat)
      case atStart =>
        refine ⟨i, Q, [], by go_num, ?_, ?_, ?_, ?_, ?_, ?_⟩
        · show _ = _; rw [List.length_append, ha.out, hQ1.out, hik.out]; omega
        · show _ = _; simp
        · intro y hy; cases hy
        · show ERow _ _ _ _; have := HR.out; rw [← hwo]; simpa using this
        · show Eqf _ _ _; have := he.out; simpa using this
        · show Fp _ _ _; rw [← hwo]; exact HF0.out
      case round =>
        obtain ⟨p1, A, B, rfl, hp, hQA, hB, HX, heX, HF⟩ := hrel
        clear HR HF0 hwo
        obtain ⟨wx, hwx⟩ : ∃ W : World, W = wr := ⟨_, rfl⟩
        rw [← hwx] at HX HF ⊢
        clear hwx
        have hpn : p1 < n := by
          have h1 := hp.out; have h2 := hlen.out; have h3 := hb.out; have h4 := ha.out
          have h5 := congrArg List.length hQA.out
          simp at h1 h2 h5; omega
        have hap : a ≤ p1 := by have h1 := hp.out; rw [List.length_append, ha.out] at h1; omega
        by_cases hA : a < p1
        · obtain ⟨A', y, hA'⟩ := snoc_ex (P := A) (by have h1 := hp.out; rw [List.length_append, ha.out] at h1; omega)
          subst hA'
          obtain ⟨p2, hp2⟩ : ∃ p2, p1 = p2 + 1 := ⟨p1 - 1, by omega⟩
          have h7 : (a : Int) < (p1 : Int) := by omega
          have h8 : IntKind.i64.wrap ((p1 : Int) - 1) = (p2 : Int) := by rw [IntKind.wrap_i64]; omega
          have i1 : (p1 : Int) < (n : Int) := by omega
          have i2 : (p2 : Int) < (n : Int) := by omega
          have o1 : (0 : Int) ≤ (p1 : Int) := by omega
          have o2 : (0 : Int) ≤ (p2 : Int) := by omega
          have hPA : Hid ((P ++ A').length = p2) := by show _ = _; have := hp.out; simp at this ⊢; omega
          obtain ⟨ys, hys⟩ : ∃ ys, ys = (P ++ (A' ++ [y])) ++ x :: (B ++ (R' ++ S)) := ⟨_, rfl⟩
          have hys2 : Hid (ys = (P ++ A') ++ y :: x :: (B ++ (R' ++ S))) := by show _ = _; rw [hys]; simp
          rw [← hys] at HX
          replace hys := hid hys
          have hz1 : Hid (ys.getD p1 ze = x) := by show _ = _; rw [hys.out, ← hp.out]; exact Sb.get_at _ _ _ _
          have hz2 : Hid (ys.getD p2 ze = y) := by show _ = _; rw [hys2.out, ← hPA.out]; exact Sb.get_at _ _ _ _
          have hp1 : Hid (p1 < ys.length) := by show _ < _; rw [hys.out, ← hp.out]; simp
          have hp2' : Hid (p2 < ys.length) := by show _ < _; rw [hys2.out, ← hPA.out]; simp
          replace hp2 := hid hp2
          have x1 := HX.out.cell p1 hp1.out
          have y1 := HX.out.cell p2 hp2'.out
          rw [hz1.out] at x1
          rw [hz2.out] at y1
          have HC : Hid (∀ W, Calls Try.prog 55 #[.agg #[.string x.k, .int .u64 x.s, .int .i64 x.c, .string x.v], .agg #[.string y.k, .int .u64 y.s, .int .i64 y.c, .string y.v]] W fun e w' => e = .returned (.int .i64 (cmp x.ik y.ik)) ∧ Below W.heap.size W w') := fun W => cmp_any x y W
          have hside : (cmp x.ik y.ik < 0 ∧ Hid (le y x = false)) ∨ (¬ cmp x.ik y.ik < 0 ∧ Hid (le y x = true)) := by
            by_cases h : cmp x.ik y.ik < 0
            · exact .inl ⟨h, le_lt.2 h⟩
            · exact .inr ⟨h, le_ge.2 h⟩
          obtain ⟨x10, x11, x12, x13⟩ := x1
          obtain ⟨y10, y11, y12, y13⟩ := y1
          generalize cmp x.ik y.ik = C at *
          obtain ⟨z1, hz1'⟩ : ∃ z, z = x := ⟨_, rfl⟩
          obtain ⟨z2, hz2'⟩ : ∃ z, z = y := ⟨_, rfl⟩
          rw [← hz1'] at hz1
          rw [← hz2'] at hz2
          replace hz1' := hid hz1'
          replace hz2' := hid hz2'
          have x20 := cell_regrown x10
          have x21 := cell_regrown x11
          have x22 := cell_regrown x12
          have x23 := cell_regrown x13
          have y20 := cell_regrown y10
          have y21 := cell_regrown y11
          have y22 := cell_regrown y12
          have y23 := cell_regrown y13
          clear x10 x11 x12 x13 y10 y11 y12 y13
          generalize hxk : x.k = xk at HC x20
          generalize hxs : x.s = xs at HC x21
          generalize hxc : x.c = xc at HC x22
          generalize hxv : x.v = xv at HC x23
          generalize hyk : y.k = yk at HC y20
          generalize hysq : y.s = ysq at HC y21
          generalize hyc : y.c = yc at HC y22
          generalize hyv : y.v = yv at HC y23
          clear hxk hxs hxc hxv hyk hysq hyc hyv
          have hp2e := hp2
          clear hp2
          have hp2 := hp2'
          clear hp2'
          rcases hside with ⟨hC, hle⟩ | ⟨hC, hle⟩
          · go_wp2_with fail
            refine wp_region_quiet_below (by kernel_rfl) (by kernel_rfl) ?_
            repeat (first | go_big_quiet_step (first | (go_at_call 55; exact Calls.regrown_of (HC.out _))) | quiet_step (first | (go_at_call 55; exact Calls.regrown_of (HC.out _))))
            refine wpQuiet_nil ?_
            intro w3 hw3
            have b3 : Below wx.heap.size wx w3 := by
              obtain ⟨⟨dq, osq⟩, hw''⟩ := hw3
              rw [hw'']
              exact below_regrown _ dq osq
            replace b3 := hid b3
            clear hw3 x20 x21 x22 x23 y20 y21 y22 y23 HC
            have A0 := hid (HX.out.later b3.out)
            have F3 := hid (HF.out.below b3.out)
            clear HX HF b3
            obtain ⟨wy, hwy⟩ : ∃ W : World, W = w3 := ⟨_, rfl⟩
            clear hwy wy
            go_wp2_with fail
            refine wp_region_any (by kernel_rfl) ?_
            change wpAny _ _ _ _ _ _ _ (World.drew _)
            obtain ⟨D, hD⟩ : ∃ D, D = World.drew w3 := ⟨_, rfl⟩
            rw [← hD]
            have AD : Hid (ERow D g c ys) := (A0.out.later (by rw [hD]; exact drew_below w3))
            have FD : Hid (Fp (· = g) w3 D) := (Fp.of (P := (· = g)) (w1 := D) (by rw [hD]; exact drew_below w3))
            obtain ⟨W1, hW1⟩ : ∃ W, W = st4 D g (p1 * 4) z2 := ⟨_, rfl⟩
            have A1 := hid (AD.out.set p1 z2 hp1.out)
            have F1 := hid (st4_fp (p1 * 4) z2 FD.out)
            rw [← hW1] at A1 F1
            obtain ⟨W2, hW2⟩ : ∃ W, W = st4 W1 g (p2 * 4) z1 := ⟨_, rfl⟩
            have AF := hid (A1.out.set p2 z1 (by rw [List.length_set]; exact hp2.out))
            have FF := hid (st4_fp (p2 * 4) z1 F1.out)
            rw [← hW2] at AF FF
            have q1 := AD.out.cell p1 hp1.out
            have q2 := AD.out.cell p2 hp2.out
            rw [hz1.out] at q1
            rw [hz2.out] at q2
            have s1 := A1.out.cell p2 (by rw [List.length_set]; exact hp2.out)
            have f0 := AD.out.fz (p1 * 4)
            have f1 := AD.out.fz (p1 * 4 + 1)
            have f2 := AD.out.fz (p1 * 4 + 2)
            have f3 := AD.out.fz (p1 * 4 + 3)
            have e0 := hid (A1.out.fz (p2 * 4))
            have e1 := hid (A1.out.fz (p2 * 4 + 1))
            have e2 := hid (A1.out.fz (p2 * 4 + 2))
            have e3 := hid (A1.out.fz (p2 * 4 + 3))
            obtain ⟨q10, q11, q12, q13⟩ := q1
            obtain ⟨q20, q21, q22, q23⟩ := q2
            replace s1 := hid s1
            obtain ⟨z1k, z1s, z1c, z1v⟩ := z1
            obtain ⟨z2k, z2s, z2c, z2v⟩ := z2
            dsimp only at q10 q11 q12 q13 q20 q21 q22 q23
            unfold st4 at hW1 hW2
            dsimp only at hW1 hW2
            replace hW1 := hid hW1
            replace hW2 := hid hW2
            replace hD := hid hD
            refine wpAny_take (i := 0) (v := ?v1) rfl (by kernel_rfl) (by kernel_rfl) (by kernel_rfl) (fun _ _ _ h => h) (Or.inl ⟨by rfl, ?h1⟩) ?_
            case h1 => (intro w; go_simp; try (with_reducible rfl))
            go_simp
            refine wpAny_take (i := 1) (v := ?v2) rfl (by kernel_rfl) (by kernel_rfl) (by kernel_rfl) (fun _ _ _ h => h) (Or.inl ⟨by rfl, ?h2⟩) ?_
            case h2 => (intro w; go_simp; try (with_reducible rfl))
            go_simp
            refine wpAny_take (i := 2) (v := ?v3) rfl (by kernel_rfl) (by kernel_rfl) (by kernel_rfl) (fun _ _ _ h => h) (Or.inl ⟨by rfl, ?h3⟩) ?_
            case h3 => (intro w; go_simp; try (with_reducible rfl))
            go_simp
            refine wpAny_take (i := 3) (v := ?v4) rfl (by kernel_rfl) (by kernel_rfl) (by kernel_rfl) (fun _ _ _ h => h) (Or.inl ⟨by rfl, ?h4⟩) ?_
            case h4 => (intro w; go_simp; try (with_reducible rfl))
            go_simp
            refine wpAny_take (i := 4) (v := ?v5) rfl (by kernel_rfl) (by kernel_rfl) (by kernel_rfl) (fun _ _ _ h => h) (Or.inl ⟨by rfl, ?h5⟩) ?_
            case h5 => (intro w; go_simp; try (with_reducible rfl))
            go_simp
            refine wpAny_take (i := 5) (v := ?v6) rfl (by kernel_rfl) (by kernel_rfl) (by kernel_rfl) (fun _ _ _ h => h) (Or.inl ⟨by rfl, ?h6⟩) ?_
            case h6 => (intro w; go_simp; try (with_reducible rfl))
            go_simp
            refine wpAny_take (i := 6) (v := ?v7) rfl (by kernel_rfl) (by kernel_rfl) (by kernel_rfl) (fun _ _ _ h => h) (Or.inl ⟨by rfl, ?h7⟩) ?_
            case h7 => (intro w; go_simp; try (with_reducible rfl))
            go_simp
            refine wpAny_take (i := 7) (v := ?v8) rfl (by kernel_rfl) (by kernel_rfl) (by kernel_rfl) (fun _ _ _ h => h) (Or.inl ⟨by rfl, ?h8⟩) ?_
            case h8 => (intro w; go_simp; try (with_reducible rfl))
            go_simp
            refine wpAny_take (i := 8) (v := ?v9) rfl (by kernel_rfl) (by kernel_rfl) (by kernel_rfl) (fun _ _ _ h => h) (Or.inl ⟨by rfl, ?h9⟩) ?_
            case h9 => (intro w; go_simp; try (with_reducible rfl))
            go_simp
            refine wpAny_take (i := 10) (v := ?v10) rfl (by kernel_rfl) (by kernel_rfl) (by kernel_rfl) (fun _ _ _ h => h) (Or.inl ⟨by rfl, ?h10⟩) ?_
            case h10 => (intro w; go_simp; try (with_reducible rfl))
            go_simp
            refine wpAny_take (i := 11) (v := ?v11) rfl (by kernel_rfl) (by kernel_rfl) (by kernel_rfl) (fun _ _ _ h => h) (Or.inl ⟨by rfl, ?h11⟩) ?_
            case h11 => (intro w; go_simp; try (with_reducible rfl))
            go_simp
            refine wpAny_take (i := 12) (v := ?v12) rfl (by kernel_rfl) (by kernel_rfl) (by kernel_rfl) (fun _ _ _ h => h) (Or.inl ⟨by rfl, ?h12⟩) ?_
            case h12 => (intro w; go_simp; try (with_reducible rfl))
            go_simp
            refine wpAny_ready (rs := [9, 13]) (by kernel_rfl) (by simp) ?_
            refine AllReady.cons rfl (fun K hK => ?_) ?_
            · go_simp
              refine hK _ _ ?_
              clear hK K
              refine wpAny_ready (rs := [13]) (by kernel_rfl) (by simp) ?_
              refine AllReady.cons rfl (fun K hK => ?_) ?_
              · go_simp
                refine hK _ _ ?_
                clear hK K
                refine wpAny_take (i := 14) (v := ?v13) rfl (by kernel_rfl) (by kernel_rfl) (by kernel_rfl) (fun _ _ _ h => h) (Or.inl ⟨by rfl, ?h13⟩) ?_
                case h13 => (intro w; go_simp; try (with_reducible rfl))
                go_simp
                refine wpAny_ready (rs := [15]) (by kernel_rfl) (by simp) ?_
                refine AllReady.cons rfl (fun K hK => ?_) ?_
                · go_simp
                  refine hK _ _ ?_
                  clear hK K
                  rw [← hW1.out]
                  obtain ⟨s10, s11, s12, s13⟩ := s1.out
                  clear q10 q11 q12 q13 q20 q21 q22 q23 f0 f1 f2 f3 s1
                  replace e0 := e0.out
                  replace e1 := e1.out
                  replace e2 := e2.out
                  replace e3 := e3.out
                  refine wpAny_take (i := 16) (v := ?v14) rfl (by kernel_rfl) (by kernel_rfl) (by kernel_rfl) (fun _ _ _ h => h) (Or.inl ⟨by rfl, ?h14⟩) ?_
                  case h14 => (intro w; go_simp; try (with_reducible rfl))
                  go_simp
                  refine wpAny_ready (rs := [17]) (by kernel_rfl) (by simp) ?_
                  refine AllReady.cons rfl (fun K hK => ?_) ?_
                  · go_simp
                    refine hK _ _ ?_
                    clear hK K
                    rw [← hW2.out]
                    clear s10 s11 s12 s13 e0 e1 e2 e3
                    refine wpAny_done (by kernel_rfl) ?_ _
                    have AF2 : Hid (ERow W2 g c ((P ++ A') ++ x :: (y :: B ++ (R' ++ S)))) := by
                      show ERow _ _ _ _
                      have h1 := AF.out
                      have h2 : (⟨z1k, z1s, z1c, z1v⟩ : E) = x := hz1'.out
                      have h3 : (⟨z2k, z2s, z2c, z2v⟩ : E) = y := hz2'.out
                      rw [h2, h3, hys2.out, hp2e.out, ← hPA.out, swap_next] at h1
                      exact h1
                    have FF2 : Hid (Fp (· = g) w W2) := F3.out.tr (FF.out.wide (fun j _ h => .inl h))
                    have hB2 : Hid (∀ q ∈ y :: B, le q x = false) := by
                      intro q hq
                      rcases List.mem_cons.1 hq with rfl | hq
                      · exact hle.out
                      · exact hB.out q hq
                    have he2 : Hid (Eqf le (A' ++ x :: (y :: B ++ R')) M) := by
                      have h1 := heX.out
                      have h2 := down_step le_tot le_trn hle.out A' (B ++ R')
                      refine h2.symm.trans ?_
                      simpa using h1
                    have hQ2 : Hid (Q = A' ++ (y :: B)) := by show _ = _; rw [hQA.out]; simp
                    clear AF FF AD FD A1 F1 hW1 hW2 hD A0 F3 hz1 hz2 hz1' hz2' hys hys2 heX hB hQA
                    go_wp2_with fail
                    go_roundw
                    case rel => exact ⟨p2, A', y :: B, by go_num, hPA, hQ2, hB2, AF2, he2, FF2⟩
                    case measure => (simp [intOf]; have := hp2e.out; omega)
                  exact AllReady.nil
                exact AllReady.nil
              exact AllReady.nil
            refine AllReady.cons rfl (fun K hK => ?_) ?_
            · go_simp
              refine hK _ _ ?_
              clear hK K
              refine wpAny_ready (rs := [9]) (by kernel_rfl) (by simp) ?_
              refine AllReady.cons rfl (fun K hK => ?_) ?_
              · go_simp
                refine hK _ _ ?_
                clear hK K
                refine wpAny_take (i := 14) (v := ?v15) rfl (by kernel_rfl) (by kernel_rfl) (by kernel_rfl) (fun _ _ _ h => h) (Or.inl ⟨by rfl, ?h15⟩) ?_
                case h15 => (intro w; go_simp; try (with_reducible rfl))
                go_simp
                refine wpAny_ready (rs := [15]) (by kernel_rfl) (by simp) ?_
                refine AllReady.cons rfl (fun K hK => ?_) ?_
                · go_simp
                  refine hK _ _ ?_
                  clear hK K
                  rw [← hW1.out]
                  obtain ⟨s10, s11, s12, s13⟩ := s1.out
                  clear q10 q11 q12 q13 q20 q21 q22 q23 f0 f1 f2 f3 s1
                  replace e0 := e0.out
                  replace e1 := e1.out
                  replace e2 := e2.out
                  replace e3 := e3.out
                  refine wpAny_take (i := 16) (v := ?v16) rfl (by kernel_rfl) (by kernel_rfl) (by kernel_rfl) (fun _ _ _ h => h) (Or.inl ⟨by rfl, ?h16⟩) ?_
                  case h16 => (intro w; go_simp; try (with_reducible rfl))
                  go_simp
                  refine wpAny_ready (rs := [17]) (by kernel_rfl) (by simp) ?_
                  refine AllReady.cons rfl (fun K hK => ?_) ?_
                  · go_simp
                    refine hK _ _ ?_
                    clear hK K
                    rw [← hW2.out]
                    clear s10 s11 s12 s13 e0 e1 e2 e3
                    refine wpAny_done (by kernel_rfl) ?_ _
                    have AF2 : Hid (ERow W2 g c ((P ++ A') ++ x :: (y :: B ++ (R' ++ S)))) := by
                      show ERow _ _ _ _
                      have h1 := AF.out
                      have h2 : (⟨z1k, z1s, z1c, z1v⟩ : E) = x := hz1'.out
                      have h3 : (⟨z2k, z2s, z2c, z2v⟩ : E) = y := hz2'.out
                      rw [h2, h3, hys2.out, hp2e.out, ← hPA.out, swap_next] at h1
                      exact h1
                    have FF2 : Hid (Fp (· = g) w W2) := F3.out.tr (FF.out.wide (fun j _ h => .inl h))
                    have hB2 : Hid (∀ q ∈ y :: B, le q x = false) := by
                      intro q hq
                      rcases List.mem_cons.1 hq with rfl | hq
                      · exact hle.out
                      · exact hB.out q hq
                    have he2 : Hid (Eqf le (A' ++ x :: (y :: B ++ R')) M) := by
                      have h1 := heX.out
                      have h2 := down_step le_tot le_trn hle.out A' (B ++ R')
                      refine h2.symm.trans ?_
                      simpa using h1
                    have hQ2 : Hid (Q = A' ++ (y :: B)) := by show _ = _; rw [hQA.out]; simp
                    clear AF FF AD FD A1 F1 hW1 hW2 hD A0 F3 hz1 hz2 hz1' hz2' hys hys2 heX hB hQA
                    go_wp2_with fail
                    go_roundw
                    case rel => exact ⟨p2, A', y :: B, by go_num, hPA, hQ2, hB2, AF2, he2, FF2⟩
                    case measure => (simp [intOf]; have := hp2e.out; omega)
                  exact AllReady.nil
                exact AllReady.nil
              exact AllReady.nil
            exact AllReady.nil
          · go_wp2_with fail
            refine wp_region_quiet_below (by kernel_rfl) (by kernel_rfl) ?_
            repeat (first | go_big_quiet_step (first | (go_at_call 55; exact Calls.regrown_of (HC.out _))) | quiet_step (first | (go_at_call 55; exact Calls.regrown_of (HC.out _))))
            refine wpQuiet_nil ?_
            intro w3 hw3
            have b3 : Below wx.heap.size wx w3 := by
              obtain ⟨⟨dq, osq⟩, hw''⟩ := hw3
              rw [hw'']
              exact below_regrown _ dq osq
            replace b3 := hid b3
            clear hw3 x20 x21 x22 x23 y20 y21 y22 y23 HC
            have A0 := hid (HX.out.later b3.out)
            have F3 := hid (HF.out.below b3.out)
            clear HX HF b3
            have hdone : Hid (Srt le ((A' ++ [y]) ++ x :: B)) := down_done le_tot le_trn (by rw [← hQA.out]; exact hs.out) hB.out (.inr ⟨A', y, rfl, hle.out⟩)
            have AF2 : Hid (ERow w3 g c (P ++ (((A' ++ [y]) ++ x :: B) ++ R' ++ S))) := by
              show ERow _ _ _ _
              have h1 := A0.out
              rw [hys.out] at h1
              simpa using h1
            have he2 : Hid (Eqf le (((A' ++ [y]) ++ x :: B) ++ R') M) := by
              show Eqf _ _ _
              have := heX.out
              simpa using this
            have hl2 : Hid (((A' ++ [y]) ++ x :: B).length = k + 2) := by
              show _ = _
              have h1 := hQ1.out
              rw [hQA.out] at h1
              simp at h1 ⊢; omega
            have hw5 : IntKind.i64.wrap ((i : Int) + 1) = ((i + 1 : Nat) : Int) := by rw [IntKind.wrap_i64]; omega
            clear A0 hys hys2 heX hB hQA hz1 hz2 hz1' hz2'
            go_wp2_with fail
            go_roundw
            case rel => exact ⟨i + 1, k + 1, (A' ++ [y]) ++ x :: B, R', by first | rfl | go_num, by show _ = _; rw [hik.out]; omega, Nat.le_of_eq hl2.out, .inr hl2.out, by omega, AF2, hdone, he2, F3⟩
            case measure => simp [intOf]; omega
        · have hpa : p1 = a := by omega
          have hA0 : A = [] := List.eq_nil_of_length_eq_zero (by have h1 := hp.out; rw [List.length_append, ha.out] at h1; omega)
          subst hA0
          have h7 : ¬ (a : Int) < (p1 : Int) := by omega
          have hdone : Hid (Srt le ([] ++ x :: B)) := down_done le_tot le_trn (by rw [← hQA.out]; exact hs.out) hB.out (.inl rfl)
          have AF2 : Hid (ERow wx g c (P ++ ((x :: B) ++ R' ++ S))) := by
            show ERow _ _ _ _
            have h1 := HX.out
            simpa using h1
          have he2 : Hid (Eqf le ((x :: B) ++ R') M) := by
            show Eqf _ _ _
            have := heX.out
            simpa using this
          have hl2 : Hid ((x :: B).length = k + 2) := by
            show _ = _
            have h1 := hQ1.out
            rw [hQA.out] at h1
            simp at h1 ⊢; omega
          have hw5 : IntKind.i64.wrap ((i : Int) + 1) = ((i + 1 : Nat) : Int) := by rw [IntKind.wrap_i64]; omega
          replace hpa := hid hpa
          clear HX heX hB hQA
          go_wp2_with fail
          go_quiet (fail)
          go_wp2_with fail
          go_roundw
          case rel => exact ⟨i + 1, k + 1, x :: B, R', by first | rfl | go_num, by show _ = _; rw [hik.out]; omega, Nat.le_of_eq hl2.out, .inr hl2.out, by omega, AF2.out.later (drewN_below _ _), hdone, he2, HF.out.below (drewN_below _ _)⟩
          case measure => simp [intOf]; omega
    · have hR0 : R = [] := by
        rcases hR.out with e | e
        · exact e
        · have := hlen.out; have := hb.out; have := hik.out
          exact List.eq_nil_of_length_eq_zero (by omega)
      subst hR0
      have h6 : ¬ (i : Int) < (b : Int) := by omega
      have A2 : Hid (ERow wr g c (P ++ (Q ++ S))) := by show ERow _ _ _ _; have := HR.out; simpa using this
      have e2 : Hid (Eqf le Q M) := by show Eqf _ _ _; have := he.out; simpa using this
      clear HR he hR
      go_wp2_with fail
      refine bodyPost_end (results_none rfl _ _ _) rfl ?_
      exact ⟨rfl, Q, A2.out, hs.out, e2.out, HF.out⟩
end Go.Proofs.Ytgjodfaliajlgaa.Si

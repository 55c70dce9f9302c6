/- swapRangeCmpFunc and rotateCmpFunc of the library at entries: two parts of a row change places. -/
import Derived.Test.YtgjodfaliajlgaaEw
namespace Go.Proofs.Ytgjodfaliajlgaa.Sr
open Go.ChangeShapes Go.WideShapes Go.ChangeAt Go.RowKit
open Go.Sort (grow)
open Go.Proofs.Ytgjodfaliajlgaa.Gr (Fp drewN_below drew_below)
open Go.Proofs.Ytgjodfaliajlgaa.Ik
open Go.Proofs.Ytgjodfaliajlgaa.Ee
open Go.Proofs.Ytgjodfaliajlgaa.Sb
open Go.Proofs.Ytgjodfaliajlgaa.Ew
set_option linter.unusedVariables false
set_option linter.unusedSimpArgs false

theorem swap_seq (P M S : List E) (u v : E) (p1 p2 : Nat) (h1 : P.length = p1) (h2 : P.length + 1 + M.length = p2) : ((P ++ u :: (M ++ v :: S)).set p1 v).set p2 u = P ++ v :: (M ++ u :: S) := by
  subst h1 h2; exact swap_at P M S u v
set_option maxHeartbeats 1000000 in
set_option maxRecDepth 20000 in
theorem swaprange_any (g n c a b m : Nat) (P U M V S : List E) (w : World) (H : ERow w g c (P ++ (U ++ (M ++ (V ++ S))))) (ha : P.length = a) (hb : P.length + U.length + M.length = b) (hm : U.length = m) (hm2 : V.length = m) (hn : b + m + S.length = n) (hbig : n ≤ 140737488355328) :
    Calls Try.prog 87 #[.slice (some ⟨g, 0, none⟩) n c, .int .i64 a, .int .i64 b, .int .i64 m, cf] w fun e w' => e = .returned (.tuple #[]) ∧ ERow w' g c (P ++ (V ++ (M ++ (U ++ S)))) ∧ Fp (· = g) w w' := by
  have hcap : n ≤ c := by have := H.le; simp at this; omega
  replace H := hid H
  have hbn : b + m ≤ n := by omega
  have hab : a + m ≤ b := by omega
  replace ha := hid ha
  replace hb := hid hb
  replace hn := hid hn
  replace hm := hid hm
  replace hm2 := hid hm2
  unfold cf
  go_enter Try.func87, Try.ntmps87
  go_wp2_with fail
  go_loopw [10] (fun iv wr => ∃ (i : Nat) (U1 U2 V1 V2 : List E), iv = .int .i64 (i : Int) ∧ i ≤ m ∧ Hid (U = U1 ++ U2) ∧ Hid (V = V1 ++ V2) ∧ Hid (U1.length = i) ∧ Hid (V1.length = i) ∧ Hid (ERow wr g c ((P ++ V1) ++ (U2 ++ ((M ++ U1) ++ (V2 ++ S))))) ∧ Hid (Fp (· = g) w wr)) (fun iv _ => (m - intOf iv).toNat)
  case atStart =>
    refine ⟨0, [], U, [], V, by go_num, by omega, rfl, rfl, rfl, rfl, ?_, Fp.refl _ _⟩
    show ERow _ _ _ _
    have := H.out
    simpa using this
  case round =>
    obtain ⟨i, U1, U2, V1, V2, rfl, hi, hU, hV, hU1, hV1, HX, HF⟩ := hrel
    by_cases hlt : i < m
    · obtain ⟨u, U2', hu⟩ := cons_ex (P := U2) (by have h1 := hm.out; rw [hU.out, List.length_append, hU1.out] at h1; omega)
      obtain ⟨v, V2', hv⟩ := cons_ex (P := V2) (by have h1 := hm2.out; rw [hV.out, List.length_append, hV1.out] at h1; omega)
      subst hu hv
      obtain ⟨wx, hwx⟩ : ∃ W : World, W = wr := ⟨_, rfl⟩
      rw [← hwx] at HX HF ⊢
      clear hwx
      have h6 : (i : Int) < (m : Int) := by omega
      obtain ⟨p1, hp1e⟩ : ∃ p, p = a + i := ⟨_, rfl⟩
      obtain ⟨p2, hp2e⟩ : ∃ p, p = b + i := ⟨_, rfl⟩
      have g1 : IntKind.i64.wrap ((a : Int) + (i : Int)) = (p1 : Int) := by rw [IntKind.wrap_i64]; omega
      have g2 : IntKind.i64.wrap ((b : Int) + (i : Int)) = (p2 : Int) := by rw [IntKind.wrap_i64]; omega
      have i1 : (p1 : Int) < (n : Int) := by omega
      have i2 : (p2 : Int) < (n : Int) := by omega
      have o1 : (0 : Int) ≤ (p1 : Int) := by omega
      have o2 : (0 : Int) ≤ (p2 : Int) := by omega
      have hPV : Hid ((P ++ V1).length = p1) := by show _ = _; rw [List.length_append, ha.out, hV1.out, hp1e]
      have hPV2 : Hid ((P ++ V1).length + 1 + (U2' ++ (M ++ U1)).length = p2) := by
        show _ = _
        have h1 := hm.out
        have h2 := hb.out
        rw [hU.out] at h1 h2
        have h3 := hV1.out; have h4 := hU1.out; have h5 := ha.out
        simp at h1 h2 ⊢; omega
      obtain ⟨ys, hys⟩ : ∃ ys, ys = (P ++ V1) ++ u :: ((U2' ++ (M ++ U1)) ++ v :: (V2' ++ S)) := ⟨_, rfl⟩
      have A0 : Hid (ERow wx g c ys) := by show ERow _ _ _ _; rw [hys]; have := HX.out; simpa using this
      replace hys := hid hys
      have hz1 : Hid (ys.getD p1 ze = u) := by show _ = _; rw [hys.out, ← hPV.out]; exact Sb.get_at _ _ _ _
      have hz2 : Hid (ys.getD p2 ze = v) := by show _ = _; rw [hys.out, ← hPV2.out]; exact Sb.get_at2 _ _ _ _ _ _
      have hp1 : Hid (p1 < ys.length) := by show _ < _; rw [hys.out, ← hPV.out]; simp
      have hp2 : Hid (p2 < ys.length) := by show _ < _; rw [hys.out, ← hPV2.out]; simp; omega
      obtain ⟨z1, hz1'⟩ : ∃ z, z = u := ⟨_, rfl⟩
      obtain ⟨z2, hz2'⟩ : ∃ z, z = v := ⟨_, rfl⟩
      rw [← hz1'] at hz1
      rw [← hz2'] at hz2
      replace hz1' := hid hz1'
      replace hz2' := hid hz2'
      replace hp1e := hid hp1e
      replace hp2e := hid hp2e
      clear HX
      go_wp2_with fail
      refine wp_region_any (by kernel_rfl) ?_
      change wpAny _ _ _ _ _ _ _ (World.drew _)
      obtain ⟨D, hD⟩ : ∃ D, D = World.drew wx := ⟨_, rfl⟩
      rw [← hD]
      have AD : Hid (ERow D g c ys) := (A0.out.later (by rw [hD]; exact drew_below wx))
      have FD : Hid (Fp (· = g) wx D) := (Fp.of (P := (· = g)) (w1 := D) (by rw [hD]; exact drew_below wx))
      obtain ⟨W1, hW1⟩ : ∃ W, W = st4 D g (p1 * 4) z2 := ⟨_, rfl⟩
      have A1 := hid (AD.out.set p1 z2 hp1.out)
      have F1 := hid (st4_fp (p1 * 4) z2 FD.out)
      rw [← hW1] at A1 F1
      obtain ⟨W2, hW2⟩ : ∃ W, W = st4 W1 g (p2 * 4) z1 := ⟨_, rfl⟩
      have AF := hid (A1.out.set p2 z1 (by rw [List.length_set]; exact hp2.out))
      have FF := hid (st4_fp (p2 * 4) z1 F1.out)
      rw [← hW2] at AF FF
      have q1 := AD.out.cell p1 hp1.out
      have q2 := AD.out.cell p2 hp2.out
      rw [hz1.out] at q1
      rw [hz2.out] at q2
      have s1 := A1.out.cell p2 (by rw [List.length_set]; exact hp2.out)
      have f0 := AD.out.fz (p1 * 4)
      have f1 := AD.out.fz (p1 * 4 + 1)
      have f2 := AD.out.fz (p1 * 4 + 2)
      have f3 := AD.out.fz (p1 * 4 + 3)
      have e0 := hid (A1.out.fz (p2 * 4))
      have e1 := hid (A1.out.fz (p2 * 4 + 1))
      have e2 := hid (A1.out.fz (p2 * 4 + 2))
      have e3 := hid (A1.out.fz (p2 * 4 + 3))
      obtain ⟨q10, q11, q12, q13⟩ := q1
      obtain ⟨q20, q21, q22, q23⟩ := q2
      replace s1 := hid s1
      obtain ⟨z1k, z1s, z1c, z1v⟩ := z1
      obtain ⟨z2k, z2s, z2c, z2v⟩ := z2
      dsimp only at q10 q11 q12 q13 q20 q21 q22 q23
      unfold st4 at hW1 hW2
      dsimp only at hW1 hW2
      replace hW1 := hid hW1
      replace hW2 := hid hW2
      replace hD := hid hD
      refine wpAny_take (i := 0) (v := ?v1) rfl (by kernel_rfl) (by kernel_rfl) (by kernel_rfl) (fun _ _ _ h => h) (Or.inl ⟨by rfl, ?h1⟩) ?_
      case h1 => (intro w; go_simp; try (with_reducible rfl))
      go_simp
      refine wpAny_take (i := 1) (v := ?v2) rfl (by kernel_rfl) (by kernel_rfl) (by kernel_rfl) (fun _ _ _ h => h) (Or.inl ⟨by rfl, ?h2⟩) ?_
      case h2 => (intro w; go_simp; try (with_reducible rfl))
      go_simp
      refine wpAny_take (i := 2) (v := ?v3) rfl (by kernel_rfl) (by kernel_rfl) (by kernel_rfl) (fun _ _ _ h => h) (Or.inl ⟨by rfl, ?h3⟩) ?_
      case h3 => (intro w; go_simp; try (with_reducible rfl))
      go_simp
      refine wpAny_take (i := 3) (v := ?v4) rfl (by kernel_rfl) (by kernel_rfl) (by kernel_rfl) (fun _ _ _ h => h) (Or.inl ⟨by rfl, ?h4⟩) ?_
      case h4 => (intro w; go_simp; try (with_reducible rfl))
      go_simp
      refine wpAny_take (i := 4) (v := ?v5) rfl (by kernel_rfl) (by kernel_rfl) (by kernel_rfl) (fun _ _ _ h => h) (Or.inl ⟨by rfl, ?h5⟩) ?_
      case h5 => (intro w; go_simp; try (with_reducible rfl))
      go_simp
      refine wpAny_take (i := 5) (v := ?v6) rfl (by kernel_rfl) (by kernel_rfl) (by kernel_rfl) (fun _ _ _ h => h) (Or.inl ⟨by rfl, ?h6⟩) ?_
      case h6 => (intro w; go_simp; try (with_reducible rfl))
      go_simp
      refine wpAny_take (i := 6) (v := ?v7) rfl (by kernel_rfl) (by kernel_rfl) (by kernel_rfl) (fun _ _ _ h => h) (Or.inl ⟨by rfl, ?h7⟩) ?_
      case h7 => (intro w; go_simp; try (with_reducible rfl))
      go_simp
      refine wpAny_take (i := 7) (v := ?v8) rfl (by kernel_rfl) (by kernel_rfl) (by kernel_rfl) (fun _ _ _ h => h) (Or.inl ⟨by rfl, ?h8⟩) ?_
      case h8 => (intro w; go_simp; try (with_reducible rfl))
      go_simp
      refine wpAny_take (i := 8) (v := ?v9) rfl (by kernel_rfl) (by kernel_rfl) (by kernel_rfl) (fun _ _ _ h => h) (Or.inl ⟨by rfl, ?h9⟩) ?_
      case h9 => (intro w; go_simp; try (with_reducible rfl))
      go_simp
      refine wpAny_take (i := 9) (v := ?v10) rfl (by kernel_rfl) (by kernel_rfl) (by kernel_rfl) (fun _ _ _ h => h) (Or.inl ⟨by rfl, ?h10⟩) ?_
      case h10 => (intro w; go_simp; try (with_reducible rfl))
      go_simp
      refine wpAny_take (i := 10) (v := ?v11) rfl (by kernel_rfl) (by kernel_rfl) (by kernel_rfl) (fun _ _ _ h => h) (Or.inl ⟨by rfl, ?h11⟩) ?_
      case h11 => (intro w; go_simp; try (with_reducible rfl))
      go_simp
      refine wpAny_take (i := 11) (v := ?v12) rfl (by kernel_rfl) (by kernel_rfl) (by kernel_rfl) (fun _ _ _ h => h) (Or.inl ⟨by rfl, ?h12⟩) ?_
      case h12 => (intro w; go_simp; try (with_reducible rfl))
      go_simp
      refine wpAny_take (i := 12) (v := ?v13) rfl (by kernel_rfl) (by kernel_rfl) (by kernel_rfl) (fun _ _ _ h => h) (Or.inl ⟨by rfl, ?h13⟩) ?_
      case h13 => (intro w; go_simp; try (with_reducible rfl))
      go_simp
      refine wpAny_take (i := 14) (v := ?v14) rfl (by kernel_rfl) (by kernel_rfl) (by kernel_rfl) (fun _ _ _ h => h) (Or.inl ⟨by rfl, ?h14⟩) ?_
      case h14 => (intro w; go_simp; try (with_reducible rfl))
      go_simp
      refine wpAny_take (i := 15) (v := ?v15) rfl (by kernel_rfl) (by kernel_rfl) (by kernel_rfl) (fun _ _ _ h => h) (Or.inl ⟨by rfl, ?h15⟩) ?_
      case h15 => (intro w; go_simp; try (with_reducible rfl))
      go_simp
      refine wpAny_take (i := 16) (v := ?v16) rfl (by kernel_rfl) (by kernel_rfl) (by kernel_rfl) (fun _ _ _ h => h) (Or.inl ⟨by rfl, ?h16⟩) ?_
      case h16 => (intro w; go_simp; try (with_reducible rfl))
      go_simp
      refine wpAny_take (i := 17) (v := ?v17) rfl (by kernel_rfl) (by kernel_rfl) (by kernel_rfl) (fun _ _ _ h => h) (Or.inl ⟨by rfl, ?h17⟩) ?_
      case h17 => (intro w; go_simp; try (with_reducible rfl))
      go_simp
      refine wpAny_take (i := 18) (v := ?v18) rfl (by kernel_rfl) (by kernel_rfl) (by kernel_rfl) (fun _ _ _ h => h) (Or.inl ⟨by rfl, ?h18⟩) ?_
      case h18 => (intro w; go_simp; try (with_reducible rfl))
      go_simp
      refine wpAny_ready (rs := [13, 19]) (by kernel_rfl) (by simp) ?_
      refine AllReady.cons rfl (fun K hK => ?_) ?_
      · go_simp
        refine hK _ _ ?_
        clear hK K
        refine wpAny_ready (rs := [19]) (by kernel_rfl) (by simp) ?_
        refine AllReady.cons rfl (fun K hK => ?_) ?_
        · go_simp
          refine hK _ _ ?_
          clear hK K
          refine wpAny_take (i := 20) (v := ?v19) rfl (by kernel_rfl) (by kernel_rfl) (by kernel_rfl) (fun _ _ _ h => h) (Or.inl ⟨by rfl, ?h19⟩) ?_
          case h19 => (intro w; go_simp; try (with_reducible rfl))
          go_simp
          refine wpAny_ready (rs := [21]) (by kernel_rfl) (by simp) ?_
          refine AllReady.cons rfl (fun K hK => ?_) ?_
          · go_simp
            refine hK _ _ ?_
            clear hK K
            rw [← hW1.out]
            obtain ⟨s10, s11, s12, s13⟩ := s1.out
            clear q10 q11 q12 q13 q20 q21 q22 q23 f0 f1 f2 f3 s1
            replace e0 := e0.out
            replace e1 := e1.out
            replace e2 := e2.out
            replace e3 := e3.out
            refine wpAny_take (i := 22) (v := ?v20) rfl (by kernel_rfl) (by kernel_rfl) (by kernel_rfl) (fun _ _ _ h => h) (Or.inl ⟨by rfl, ?h20⟩) ?_
            case h20 => (intro w; go_simp; try (with_reducible rfl))
            go_simp
            refine wpAny_ready (rs := [23]) (by kernel_rfl) (by simp) ?_
            refine AllReady.cons rfl (fun K hK => ?_) ?_
            · go_simp
              refine hK _ _ ?_
              clear hK K
              rw [← hW2.out]
              clear s10 s11 s12 s13 e0 e1 e2 e3
              refine wpAny_done (by kernel_rfl) ?_ _
              have AF2 : Hid (ERow W2 g c ((P ++ (V1 ++ [v])) ++ (U2' ++ ((M ++ (U1 ++ [u])) ++ (V2' ++ S))))) := by
                show ERow _ _ _ _
                have h1 := AF.out
                have h2 : (⟨z1k, z1s, z1c, z1v⟩ : E) = u := hz1'.out
                have h3 : (⟨z2k, z2s, z2c, z2v⟩ : E) = v := hz2'.out
                rw [h2, h3, hys.out, swap_seq _ _ _ _ _ _ _ hPV.out hPV2.out] at h1
                simpa using h1
              have FF2 : Hid (Fp (· = g) w W2) := HF.out.tr (FF.out.wide (fun j _ h => .inl h))
              have hU2 : Hid (U = (U1 ++ [u]) ++ U2') := by show _ = _; rw [hU.out]; simp
              have hV2 : Hid (V = (V1 ++ [v]) ++ V2') := by show _ = _; rw [hV.out]; simp
              have hl1 : Hid ((U1 ++ [u]).length = i + 1) := by show _ = _; rw [List.length_append, hU1.out]; rfl
              have hl2 : Hid ((V1 ++ [v]).length = i + 1) := by show _ = _; rw [List.length_append, hV1.out]; rfl
              have hw5 : IntKind.i64.wrap ((i : Int) + 1) = ((i + 1 : Nat) : Int) := by rw [IntKind.wrap_i64]; omega
              clear AF FF AD FD A1 F1 hW1 hW2 hD A0 hz1 hz2 hz1' hz2' hys hU hV HF
              go_wp2_with fail
              go_roundw
              case rel => exact ⟨i + 1, _, _, _, _, by first | rfl | go_num, by omega, hU2, hV2, hl1, hl2, AF2, FF2⟩
              case measure => (simp [intOf]; omega)
            exact AllReady.nil
          exact AllReady.nil
        exact AllReady.nil
      refine AllReady.cons rfl (fun K hK => ?_) ?_
      · go_simp
        refine hK _ _ ?_
        clear hK K
        refine wpAny_ready (rs := [13]) (by kernel_rfl) (by simp) ?_
        refine AllReady.cons rfl (fun K hK => ?_) ?_
        · go_simp
          refine hK _ _ ?_
          clear hK K
          refine wpAny_take (i := 20) (v := ?v21) rfl (by kernel_rfl) (by kernel_rfl) (by kernel_rfl) (fun _ _ _ h => h) (Or.inl ⟨by rfl, ?h21⟩) ?_
          case h21 => (intro w; go_simp; try (with_reducible rfl))
          go_simp
          refine wpAny_ready (rs := [21]) (by kernel_rfl) (by simp) ?_
          refine AllReady.cons rfl (fun K hK => ?_) ?_
          · go_simp
            refine hK _ _ ?_
            clear hK K
            rw [← hW1.out]
            obtain ⟨s10, s11, s12, s13⟩ := s1.out
            clear q10 q11 q12 q13 q20 q21 q22 q23 f0 f1 f2 f3 s1
            replace e0 := e0.out
            replace e1 := e1.out
            replace e2 := e2.out
            replace e3 := e3.out
            refine wpAny_take (i := 22) (v := ?v22) rfl (by kernel_rfl) (by kernel_rfl) (by kernel_rfl) (fun _ _ _ h => h) (Or.inl ⟨by rfl, ?h22⟩) ?_
            case h22 => (intro w; go_simp; try (with_reducible rfl))
            go_simp
            refine wpAny_ready (rs := [23]) (by kernel_rfl) (by simp) ?_
            refine AllReady.cons rfl (fun K hK => ?_) ?_
            · go_simp
              refine hK _ _ ?_
              clear hK K
              rw [← hW2.out]
              clear s10 s11 s12 s13 e0 e1 e2 e3
              refine wpAny_done (by kernel_rfl) ?_ _
              have AF2 : Hid (ERow W2 g c ((P ++ (V1 ++ [v])) ++ (U2' ++ ((M ++ (U1 ++ [u])) ++ (V2' ++ S))))) := by
                show ERow _ _ _ _
                have h1 := AF.out
                have h2 : (⟨z1k, z1s, z1c, z1v⟩ : E) = u := hz1'.out
                have h3 : (⟨z2k, z2s, z2c, z2v⟩ : E) = v := hz2'.out
                rw [h2, h3, hys.out, swap_seq _ _ _ _ _ _ _ hPV.out hPV2.out] at h1
                simpa using h1
              have FF2 : Hid (Fp (· = g) w W2) := HF.out.tr (FF.out.wide (fun j _ h => .inl h))
              have hU2 : Hid (U = (U1 ++ [u]) ++ U2') := by show _ = _; rw [hU.out]; simp
              have hV2 : Hid (V = (V1 ++ [v]) ++ V2') := by show _ = _; rw [hV.out]; simp
              have hl1 : Hid ((U1 ++ [u]).length = i + 1) := by show _ = _; rw [List.length_append, hU1.out]; rfl
              have hl2 : Hid ((V1 ++ [v]).length = i + 1) := by show _ = _; rw [List.length_append, hV1.out]; rfl
              have hw5 : IntKind.i64.wrap ((i : Int) + 1) = ((i + 1 : Nat) : Int) := by rw [IntKind.wrap_i64]; omega
              clear AF FF AD FD A1 F1 hW1 hW2 hD A0 hz1 hz2 hz1' hz2' hys hU hV HF
              go_wp2_with fail
              go_roundw
              case rel => exact ⟨i + 1, _, _, _, _, by first | rfl | go_num, by omega, hU2, hV2, hl1, hl2, AF2, FF2⟩
              case measure => (simp [intOf]; omega)
            exact AllReady.nil
          exact AllReady.nil
        exact AllReady.nil
      exact AllReady.nil
    · have him : i = m := by omega
      subst him
      have hU0 : U2 = [] := List.eq_nil_of_length_eq_zero (by have h1 := hm.out; rw [hU.out, List.length_append, hU1.out] at h1; omega)
      have hV0 : V2 = [] := List.eq_nil_of_length_eq_zero (by have h1 := hm2.out; rw [hV.out, List.length_append, hV1.out] at h1; omega)
      subst hU0 hV0
      have A2 : Hid (ERow wr g c (P ++ (V ++ (M ++ (U ++ S))))) := by
        show ERow _ _ _ _
        have h1 := HX.out
        rw [hU.out, hV.out]
        simpa using h1
      clear HX hU hV
      go_wp2_with fail
      refine bodyPost_end (results_none rfl _ _ _) rfl ?_
      exact ⟨rfl, A2.out, HF.out⟩
set_option maxHeartbeats 1000000 in
set_option maxRecDepth 20000 in
theorem rotate_any (g n c a m b : Nat) (P U V S : List E) (w : World) (H : ERow w g c (P ++ (U ++ (V ++ S)))) (ha : P.length = a) (hm : a + U.length = m) (hb : m + V.length = b) (hU : 0 < U.length) (hV : 0 < V.length) (hn : b + S.length = n) (hbig : n ≤ 140737488355328) :
    Calls Try.prog 85 #[.slice (some ⟨g, 0, none⟩) n c, .int .i64 a, .int .i64 m, .int .i64 b, cf] w fun e w' => e = .returned (.tuple #[]) ∧ ERow w' g c (P ++ (V ++ (U ++ S))) ∧ Fp (· = g) w w' := by
  replace H := hid H
  obtain ⟨i0, hi0⟩ : ∃ i, i = U.length := ⟨_, rfl⟩
  obtain ⟨j0, hj0⟩ : ∃ j, j = V.length := ⟨_, rfl⟩
  have e1 : IntKind.i64.wrap ((m : Int) - (a : Int)) = (i0 : Int) := by rw [IntKind.wrap_i64]; omega
  have e2 : IntKind.i64.wrap ((b : Int) - (m : Int)) = (j0 : Int) := by rw [IntKind.wrap_i64]; omega
  have hmn : m ≤ n := by omega
  have hi0' : 0 < i0 := by omega
  have hj0' : 0 < j0 := by omega
  have hij : i0 + j0 ≤ n := by omega
  replace hi0 := hid hi0
  replace hj0 := hid hj0
  replace ha := hid ha
  replace hb := hid hb
  replace hn := hid hn
  replace hm := hid hm
  clear hU hV
  obtain ⟨T, hT⟩ : ∃ T, T = P ++ (V ++ (U ++ S)) := ⟨_, rfl⟩
  rw [← hT]
  replace hT := hid hT
  unfold cf
  go_enter Try.func85, Try.ntmps85
  go_wp2_with fail
  go_loopw [10, 11] (fun iv jv wr => ∃ (i j : Nat) (P U V S : List E), iv = .int .i64 (i : Int) ∧ jv = .int .i64 (j : Int) ∧ 0 < i ∧ 0 < j ∧ i + j ≤ n ∧ i ≤ m ∧ m + j ≤ n ∧ Hid (P.length + i = m) ∧ Hid (U.length = i) ∧ Hid (V.length = j) ∧ Hid (m + j + S.length = n) ∧ Hid (ERow wr g c (P ++ (U ++ (V ++ S)))) ∧ Hid (P ++ (V ++ (U ++ S)) = T) ∧ Hid (Fp (· = g) w wr)) (fun iv jv _ => (intOf iv + intOf jv).toNat)
  case atStart =>
    refine ⟨i0, j0, P, U, V, S, by first | rfl | go_num, by first | rfl | go_num, hi0', hj0', hij, ?_, ?_, ?_, hi0.out.symm, hj0.out.symm, ?_, H, hT.out.symm, Fp.refl _ _⟩
    · have := hm.out; have := hi0.out; omega
    · have := hb.out; have := hj0.out; have := hn.out; omega
    · show _ = _; have := hm.out; have := hi0.out; have := ha.out; omega
    · show _ = _; have := hb.out; have := hj0.out; have := hn.out; omega
  case round =>
    clear ha hm hb hn H hT hi0 hj0
    obtain ⟨i, j, P, U, V, S, rfl, rfl, hi, hj, hij2, him, hmj, hP, hU, hV, hS, HX, hT, HF⟩ := hrel
    by_cases hne : i = j
    · subst hne
      have q1 : IntKind.i64.wrap ((m : Int) - (i : Int)) = ((m - i : Nat) : Int) := by rw [IntKind.wrap_i64]; omega
      obtain ⟨p1, hp1⟩ : ∃ p, p = m - i := ⟨_, rfl⟩
      rw [← hp1] at q1
      have HS := hid (swaprange_any g n c p1 m i P U [] V S wr HX.out (by have := hP.out; omega) (by have := hP.out; have := hU.out; simp; omega) hU.out hV.out hS.out hbig)
      replace hp1 := hid hp1
      unfold cf at HS
      go_wp2_with (first | (go_at_call 87; refine HS.out.mono ?_; rintro e w1 ⟨rfl, A1, F1⟩; replace A1 := hid A1; replace F1 := hid F1))
      refine bodyPost_end (results_none rfl _ _ _) rfl ?_
      refine ⟨rfl, ?_, HF.out.tr (F1.out.wide (fun j _ h => .inl h))⟩
      rw [← hT.out]; exact A1.out
    · have h6 : ¬ (i : Int) = (j : Int) := by omega
      by_cases hgt : j < i
      · have h7 : (j : Int) < (i : Int) := by omega
        obtain ⟨p1, hp1⟩ : ∃ p, p = m - i := ⟨_, rfl⟩
        have q1 : IntKind.i64.wrap ((m : Int) - (i : Int)) = (p1 : Int) := by rw [IntKind.wrap_i64]; omega
        have q2 : IntKind.i64.wrap ((i : Int) - (j : Int)) = ((i - j : Nat) : Int) := by rw [IntKind.wrap_i64]; omega
        obtain ⟨U1, U2, hU12, hU1⟩ := cut_ex U j (by rw [hU.out]; omega)
        have hU2 : U2.length = i - j := by have := hU.out; rw [hU12, List.length_append] at this; omega
        have HS := hid (swaprange_any g n c p1 m j P U1 U2 V S wr (by have := HX.out; rw [hU12] at this; simpa using this) (by have := hP.out; omega) (by have := hP.out; omega) hU1 hV.out hS.out hbig)
        unfold cf at HS
        replace hp1 := hid hp1
        go_wp2_with (first | (go_at_call 87; refine HS.out.mono ?_; rintro e w1 ⟨rfl, A1, F1⟩; replace A1 := hid A1; replace F1 := hid F1))
        go_roundw
        case rel =>
          refine ⟨i - j, j, P ++ V, U2, U1, S, by first | rfl | go_num, rfl, by omega, by omega, by omega, by omega, by omega, ?_, hU2, hU1, hS, ?_, ?_, HF.out.tr (F1.out.wide (fun j _ h => .inl h))⟩
          · show _ = _; have := hP.out; have := hV.out; rw [List.length_append]; omega
          · show ERow _ _ _ _; have := A1.out; simpa using this
          · show _ = _; rw [← hT.out, hU12]; simp
        case measure => simp [intOf]; omega
      · have h7 : ¬ (j : Int) < (i : Int) := by omega
        obtain ⟨p1, hp1⟩ : ∃ p, p = m - i := ⟨_, rfl⟩
        obtain ⟨p2, hp2⟩ : ∃ p, p = m + j - i := ⟨_, rfl⟩
        have q1 : IntKind.i64.wrap ((m : Int) - (i : Int)) = (p1 : Int) := by rw [IntKind.wrap_i64]; omega
        have q3 : IntKind.i64.wrap ((m : Int) + (j : Int)) = ((m + j : Nat) : Int) := by rw [IntKind.wrap_i64]; omega
        have q4 : IntKind.i64.wrap (((m + j : Nat) : Int) - (i : Int)) = (p2 : Int) := by rw [IntKind.wrap_i64]; omega
        have q5 : IntKind.i64.wrap ((m : Int) + (j : Int) - (i : Int)) = (p2 : Int) := by rw [IntKind.wrap_i64]; omega
        have q2 : IntKind.i64.wrap ((j : Int) - (i : Int)) = ((j - i : Nat) : Int) := by rw [IntKind.wrap_i64]; omega
        obtain ⟨V1, V2, hV12, hV1⟩ := cut_ex V (j - i) (by rw [hV.out]; omega)
        have hV2 : V2.length = i := by have := hV.out; rw [hV12, List.length_append] at this; omega
        have HS := hid (swaprange_any g n c p1 p2 i P U V1 V2 S wr (by have := HX.out; rw [hV12] at this; simpa using this) (by have := hP.out; omega) (by have := hP.out; have := hU.out; omega) hU.out hV2 (by have := hS.out; omega) hbig)
        unfold cf at HS
        replace hp1 := hid hp1
        replace hp2 := hid hp2
        go_wp2_with (first | (go_at_call 87; refine HS.out.mono ?_; rintro e w1 ⟨rfl, A1, F1⟩; replace A1 := hid A1; replace F1 := hid F1))
        go_roundw
        case rel =>
          refine ⟨i, j - i, P, V2, V1, U ++ S, rfl, by first | rfl | go_num, by omega, by omega, by omega, by omega, by omega, hP, hV2, hV1, ?_, ?_, ?_, HF.out.tr (F1.out.wide (fun j _ h => .inl h))⟩
          · show _ = _; have := hS.out; have := hU.out; rw [List.length_append]; omega
          · show ERow _ _ _ _; have := A1.out; simpa using this
          · show _ = _; rw [← hT.out, hV12]; simp
        case measure => simp [intOf]; omega
end Go.Proofs.Ytgjodfaliajlgaa.Sr

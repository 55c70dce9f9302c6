/- symMergeCmpFunc of the library at entries: two parts of a row that stand side by side in order, put together by halves. -/
import Derived.Test.YtgjodfaliajlgaaSr
import Derived.Test.YtgjodfaliajlgaaSy
namespace Go.Proofs.Ytgjodfaliajlgaa.Sz
open Go.ChangeShapes Go.WideShapes Go.ChangeAt Go.RowKit
open Go.Sort (grow)
open Go.Proofs.Ytgjodfaliajlgaa.Gr (Fp drewN_below drew_below)
open Go.Proofs.Ytgjodfaliajlgaa.Ik
open Go.Proofs.Ytgjodfaliajlgaa.Ee
open Go.Proofs.Ytgjodfaliajlgaa.Sb
open Go.Proofs.Ytgjodfaliajlgaa.Ew
open Go.Proofs.Ytgjodfaliajlgaa.Sr
open Go.Proofs.Ytgjodfaliajlgaa.Sy
set_option linter.unusedVariables false
set_option linter.unusedSimpArgs false

def Sym (g n c a m b : Nat) (P A B S : List E) (w : World) : Prop :=
  Calls Try.prog 82 #[.slice (some ⟨g, 0, none⟩) n c, .int .i64 a, .int .i64 m, .int .i64 b, .func (.func 55) #[] #[]] w fun e w' => e = .returned (.tuple #[]) ∧ ∃ M, ERow w' g c (P ++ (M ++ S)) ∧ Srt le M ∧ Eqf le M (A ++ B) ∧ Fp (· = g) w w'
set_option maxHeartbeats 1000000 in
set_option maxRecDepth 100000 in
theorem sym_one (g n c a m b : Nat) (P : List E) (x0 : E) (B S : List E) (w : World) (H : ERow w g c (P ++ ([x0] ++ (B ++ S)))) (ha : P.length = a) (hm : m = a + 1) (hb : m + B.length = b) (hn : b + S.length = n) (hbig : n ≤ 140737488355328) (sB : Srt le B) : Sym g n c a m b P [x0] B S w := by
  have hcap : n ≤ c := by have := H.le; simp at this; omega
  obtain ⟨B1, B2, hBB, k1, k2⟩ := one_cut le_tot le_trn sB x0
  obtain ⟨s, hs⟩ : ∃ s, s = m + B1.length := ⟨_, rfl⟩
  have hlB : B1.length + B2.length = B.length := by rw [hBB]; simp
  have hs1 : m ≤ s := by omega
  have hs2 : s ≤ b := by omega
  have hfin : Hid (Srt le (B1 ++ x0 :: B2) ∧ Eqf le (B1 ++ x0 :: B2) ([x0] ++ B)) := by
    have := one_done le_tot le_trn (by rw [← hBB]; exact sB) k1 k2
    rw [hBB]; exact this
  obtain ⟨ys, hys0⟩ : ∃ ys, ys = P ++ ([x0] ++ (B ++ S)) := ⟨_, rfl⟩
  rw [← hys0] at H
  have hyl : Hid (ys.length = n) := by show _ = _; rw [hys0]; simp; omega
  have hya : Hid (ys.getD a ze = x0) := by show _ = _; rw [hys0, ← ha]; exact Sb.get_at _ _ _ _
  have hyh : Hid (∀ h, m ≤ h → h < b → (h < s → le x0 (ys.getD h ze) = false) ∧ (s ≤ h → le x0 (ys.getD h ze) = true)) := by
    intro h h1 h2
    constructor
    · intro h3
      refine k1 _ ?_
      have e : ys = (P ++ [x0]) ++ (B1 ++ (B2 ++ S)) := by rw [hys0, hBB]; simp
      rw [e]
      exact get_in _ _ _ _ _ (by simp; omega) (by simp; omega)
    · intro h3
      refine k2 _ ?_
      have e : ys = (P ++ [x0] ++ B1) ++ (B2 ++ S) := by rw [hys0, hBB]; simp
      rw [e]
      exact get_in _ _ _ _ _ (by simp; omega) (by simp; omega)
  have HY := hid H
  have hB1 : Hid (s = m + B1.length) := hs
  have hma : Hid (m = a + 1) := hm
  have hmn : a < n ∧ m ≤ b ∧ b ≤ n ∧ a < m := by omega
  obtain ⟨hmn1, hmn2, hmn3, hmn4⟩ := hmn
  have e1 : IntKind.i64.wrap ((m : Int) - (a : Int)) = 1 := by rw [IntKind.wrap_i64]; omega
  replace hBB := hid hBB
  replace hys0 := hid hys0
  replace ha := hid ha
  replace hb := hid hb
  replace hn := hid hn
  clear H hs k1 k2 hlB hm
  unfold Sym
  go_enter Try.func82, Try.ntmps82
  go_wp2_with fail
  go_loopw [10, 11] (fun iv jv wr => ∃ i j : Nat, iv = .int .i64 (i : Int) ∧ jv = .int .i64 (j : Int) ∧ m ≤ i ∧ i ≤ s ∧ s ≤ j ∧ j ≤ b ∧ Hid (Below w.heap.size w wr)) (fun iv jv _ => (intOf jv - intOf iv).toNat)
  case atStart => exact ⟨m, b, by first | rfl | go_num, by first | rfl | go_num, Nat.le_refl _, hs1, hs2, Nat.le_refl _, Below.refl _ _⟩
  case round =>
    obtain ⟨i, j, rfl, rfl, hi0, hi, hj, hjn, HB⟩ := hrel
    by_cases hij : i < j
    · have hij' : (i : Int) < (j : Int) := by omega
      obtain ⟨h, hh⟩ : ∃ h, h = (i + j) / 2 := ⟨_, rfl⟩
      have hh1 : IntKind.i64.wrap ((i : Int) + (j : Int)) = (i : Int) + (j : Int) := by rw [IntKind.wrap_i64]; omega
      have hh2 : IntKind.u64.wrap ((i : Int) + (j : Int)) = (i : Int) + (j : Int) := by rw [IntKind.wrap_u64]; omega
      have hh3 : ((i : Int) + (j : Int)) / 2 = (h : Int) := by omega
      have hh4 : IntKind.i64.wrap (h : Int) = (h : Int) := by rw [IntKind.wrap_i64]; omega
      have hhi : i ≤ h ∧ h < j := by omega
      have hlo : m ≤ h := by omega
      have hhi2 : h < b := by omega

      obtain ⟨q1, hq1⟩ : ∃ q, q = h := ⟨_, rfl⟩
      obtain ⟨q2, hq2⟩ : ∃ q, q = a := ⟨_, rfl⟩
      have i1 : (q1 : Int) < (n : Int) := by omega
      have i2 : (q2 : Int) < (n : Int) := by omega
      have o1 : (0 : Int) ≤ (q1 : Int) := by omega
      have o2 : (0 : Int) ≤ (q2 : Int) := by omega
      have A0 := HY.out.later HB.out
      have x1 := A0.cell q1 (by rw [hyl.out]; omega)
      have y1 := A0.cell q2 (by rw [hyl.out]; omega)
      clear A0
      obtain ⟨x, hx⟩ : ∃ x, x = ys.getD q1 ze := ⟨_, rfl⟩
      obtain ⟨y, hy⟩ : ∃ y, y = ys.getD q2 ze := ⟨_, rfl⟩
      rw [← hx] at x1
      rw [← hy] at y1
      have HC : Hid (∀ W, Calls Try.prog 55 #[.agg #[.string x.k, .int .u64 x.s, .int .i64 x.c, .string x.v], .agg #[.string y.k, .int .u64 y.s, .int .i64 y.c, .string y.v]] W fun e w' => e = .returned (.int .i64 (cmp x.ik y.ik)) ∧ Below W.heap.size W w') := fun W => cmp_any x y W
      have hside : (cmp x.ik y.ik < 0 ∧ h < s) ∨ (¬ cmp x.ik y.ik < 0 ∧ s ≤ h) := by
        have hz := hyh.out h hlo hhi2
        have hxx : x = ys.getD h ze := by rw [hx, hq1]
        have hyy : y = x0 := by rw [hy, hq2]; exact hya.out
        by_cases hhm : h < s
        · refine .inl ⟨le_lt.1 ?_, hhm⟩
          rw [hxx, hyy]; exact hz.1 hhm
        · refine .inr ⟨le_ge.1 ?_, by omega⟩
          rw [hxx, hyy]; exact hz.2 (by omega)
      obtain ⟨x10, x11, x12, x13⟩ := x1
      obtain ⟨y10, y11, y12, y13⟩ := y1
      clear hx hy
      generalize cmp x.ik y.ik = C at *
      have x20 := cell_regrown x10
      have x21 := cell_regrown x11
      have x22 := cell_regrown x12
      have x23 := cell_regrown x13
      have y20 := cell_regrown y10
      have y21 := cell_regrown y11
      have y22 := cell_regrown y12
      have y23 := cell_regrown y13
      clear x10 x11 x12 x13 y10 y11 y12 y13
      generalize hxk : x.k = xk at HC x20
      generalize hxs : x.s = xs at HC x21
      generalize hxc : x.c = xc at HC x22
      generalize hxv : x.v = xv at HC x23
      generalize hyk : y.k = yk at HC y20
      generalize hysq : y.s = ysq at HC y21
      generalize hyc : y.c = yc at HC y22
      generalize hyv : y.v = yv at HC y23
      clear hxk hxs hxc hxv hyk hysq hyc hyv
      replace hh := hid hh
      clear hij
      subst q1
      subst q2
      rcases hside with ⟨hC, hs⟩ | ⟨hC, hs⟩
      · go_wp2_with fail
        refine wp_region_quiet_below (by kernel_rfl) (by kernel_rfl) ?_
        repeat (first | go_big_quiet_step (first | (go_at_call 55; exact Calls.regrown_of (HC.out _))) | quiet_step (first | (go_at_call 55; exact Calls.regrown_of (HC.out _))))
        refine wpQuiet_nil ?_
        intro w3 hw3
        have b3 : Below wr.heap.size wr w3 := by
          obtain ⟨⟨dq, osq⟩, hw''⟩ := hw3
          rw [hw'']
          exact below_regrown _ dq osq
        have HB3 := hid (HB.out.trans (b3.mono HB.out.size))
        clear hw3 b3 x20 x21 x22 x23 y20 y21 y22 y23 HC
        have h5 : IntKind.i64.wrap ((h : Int) + 1) = ((h + 1 : Nat) : Int) := by rw [IntKind.wrap_i64]; omega
        go_wp2_with fail
        go_roundw
        case rel => exact ⟨h + 1, j, by first | rfl | go_num, rfl, by omega, by omega, hj, hjn, HB3⟩
        case measure => (simp [intOf]; have := hh.out; omega)
      · go_wp2_with fail
        refine wp_region_quiet_below (by kernel_rfl) (by kernel_rfl) ?_
        repeat (first | go_big_quiet_step (first | (go_at_call 55; exact Calls.regrown_of (HC.out _))) | quiet_step (first | (go_at_call 55; exact Calls.regrown_of (HC.out _))))
        refine wpQuiet_nil ?_
        intro w3 hw3
        have b3 : Below wr.heap.size wr w3 := by
          obtain ⟨⟨dq, osq⟩, hw''⟩ := hw3
          rw [hw'']
          exact below_regrown _ dq osq
        have HB3 := hid (HB.out.trans (b3.mono HB.out.size))
        clear hw3 b3 x20 x21 x22 x23 y20 y21 y22 y23 HC
        have h5 : IntKind.i64.wrap ((h : Int) + 1) = ((h + 1 : Nat) : Int) := by rw [IntKind.wrap_i64]; omega
        go_wp2_with fail
        go_roundw
        case rel => exact ⟨i, h, rfl, by first | rfl | go_num, hi0, hi, by omega, by have := hh.out; omega, HB3⟩
        case measure => (simp [intOf]; have := hh.out; omega)
    · have hie : i = s := by omega
      have hje : i = j := by omega
      subst hie
      subst hje
      have hij' : ¬ (i : Int) < (i : Int) := by omega
      have g1 : IntKind.i64.wrap ((i : Int) - 1) = ((i - 1 : Nat) : Int) := by rw [IntKind.wrap_i64]; omega
      obtain ⟨t, ht⟩ : ∃ t, t = i - 1 := ⟨_, rfl⟩
      rw [← ht] at g1
      replace ht := hid ht
      have HB0 := HB
      have HR0 := hid (HY.out.later HB.out)
      clear HY HB
      go_wp2_with fail
      go_loopw [13] (fun kv wr => ∃ (p1 : Nat) (L1 L2 : List E), kv = .int .i64 (p1 : Int) ∧ Hid ((P ++ L1).length = p1) ∧ Hid (B1 = L1 ++ L2) ∧ Hid (ERow wr g c ((P ++ L1) ++ x0 :: (L2 ++ (B2 ++ S)))) ∧ Hid (Fp (· = g) w wr)) (fun kv _ => (t - intOf kv).toNat)
      case atStart =>
        refine ⟨a, [], B1, by first | rfl | go_num, ?_, rfl, ?_, Fp.of HB0.out⟩
        · show _ = _; rw [List.append_nil]; exact ha.out
        · show ERow _ _ _ _; have h1 := HR0.out; rw [hys0.out, hBB.out] at h1; simpa using h1
      case round =>
        obtain ⟨p1, L1, L2, rfl, hpl, hL, HX, HF⟩ := hrel
        clear HB0 HR0
        have hpt : p1 + L2.length = t := by
          have h1 := hpl.out; have h2 := ht.out; have h3 := hB1.out; have h4 := ha.out; have h5 := hma.out
          rw [hL.out] at h3
          simp at h1 h3; omega
        by_cases hlt : p1 < t
        · obtain ⟨y, L2', hL2'⟩ := cons_ex (P := L2) (by omega)
          subst hL2'
          obtain ⟨wx, hwx⟩ : ∃ W : World, W = wr := ⟨_, rfl⟩
          rw [← hwx] at HX HF ⊢
          clear hwx
          obtain ⟨p2, hp2e⟩ : ∃ p2, p2 = p1 + 1 := ⟨_, rfl⟩
          have h6 : (p1 : Int) < (t : Int) := by omega
          have htn : t < n := by have := ht.out; omega
          have h8 : IntKind.i64.wrap ((p1 : Int) + 1) = (p2 : Int) := by rw [IntKind.wrap_i64]; omega
          have i1 : (p1 : Int) < (n : Int) := by omega
          have i2 : (p2 : Int) < (n : Int) := by omega
          have o1 : (0 : Int) ≤ (p1 : Int) := by omega
          have o2 : (0 : Int) ≤ (p2 : Int) := by omega
          obtain ⟨ys, hys⟩ : ∃ ys, ys = (P ++ L1) ++ x0 :: y :: (L2' ++ (B2 ++ S)) := ⟨_, rfl⟩
          have A0 : Hid (ERow wx g c ys) := by show ERow _ _ _ _; rw [hys]; have := HX.out; simpa using this
          replace hys := hid hys
          replace hp2e := hid hp2e
          have hz1 : Hid (ys.getD p1 ze = x0) := by show _ = _; rw [hys.out, ← hpl.out]; exact Sb.get_at _ _ _ _
          have hz2 : Hid (ys.getD p2 ze = y) := by show _ = _; rw [hys.out, hp2e.out, ← hpl.out]; have := Sb.get_at2 (P ++ L1) [] (L2' ++ (B2 ++ S)) x0 y ze; simpa using this
          have hp1 : Hid (p1 < ys.length) := by show _ < _; rw [hys.out, ← hpl.out]; simp
          have hp2 : Hid (p2 < ys.length) := by show _ < _; rw [hys.out, hp2e.out, ← hpl.out]; simp; omega
          obtain ⟨z1, hz1'⟩ : ∃ z, z = x0 := ⟨_, rfl⟩
          obtain ⟨z2, hz2'⟩ : ∃ z, z = y := ⟨_, rfl⟩
          rw [← hz1'] at hz1
          rw [← hz2'] at hz2
          replace hz1' := hid hz1'
          replace hz2' := hid hz2'
          clear HX
          go_wp2_with fail
          refine wp_region_any (by kernel_rfl) ?_
          change wpAny _ _ _ _ _ _ _ (World.drew _)
          obtain ⟨D, hD⟩ : ∃ D, D = World.drew wx := ⟨_, rfl⟩
          rw [← hD]
          have AD : Hid (ERow D g c ys) := (A0.out.later (by rw [hD]; exact drew_below wx))
          have FD : Hid (Fp (· = g) wx D) := (Fp.of (P := (· = g)) (w1 := D) (by rw [hD]; exact drew_below wx))
          obtain ⟨W1, hW1⟩ : ∃ W, W = st4 D g (p1 * 4) z2 := ⟨_, rfl⟩
          have A1 := hid (AD.out.set p1 z2 hp1.out)
          have F1 := hid (st4_fp (p1 * 4) z2 FD.out)
          rw [← hW1] at A1 F1
          obtain ⟨W2, hW2⟩ : ∃ W, W = st4 W1 g (p2 * 4) z1 := ⟨_, rfl⟩
          have AF := hid (A1.out.set p2 z1 (by rw [List.length_set]; exact hp2.out))
          have FF := hid (st4_fp (p2 * 4) z1 F1.out)
          rw [← hW2] at AF FF
          have q1 := AD.out.cell p1 hp1.out
          have q2 := AD.out.cell p2 hp2.out
          rw [hz1.out] at q1
          rw [hz2.out] at q2
          have s1 := A1.out.cell p2 (by rw [List.length_set]; exact hp2.out)
          have f0 := AD.out.fz (p1 * 4)
          have f1 := AD.out.fz (p1 * 4 + 1)
          have f2 := AD.out.fz (p1 * 4 + 2)
          have f3 := AD.out.fz (p1 * 4 + 3)
          have e0 := hid (A1.out.fz (p2 * 4))
          have e1 := hid (A1.out.fz (p2 * 4 + 1))
          have e2 := hid (A1.out.fz (p2 * 4 + 2))
          have e3 := hid (A1.out.fz (p2 * 4 + 3))
          obtain ⟨q10, q11, q12, q13⟩ := q1
          obtain ⟨q20, q21, q22, q23⟩ := q2
          replace s1 := hid s1
          obtain ⟨z1k, z1s, z1c, z1v⟩ := z1
          obtain ⟨z2k, z2s, z2c, z2v⟩ := z2
          dsimp only at q10 q11 q12 q13 q20 q21 q22 q23
          unfold st4 at hW1 hW2
          dsimp only at hW1 hW2
          replace hW1 := hid hW1
          replace hW2 := hid hW2
          replace hD := hid hD
          refine wpAny_take (i := 0) (v := ?v1) rfl (by kernel_rfl) (by kernel_rfl) (by kernel_rfl) (fun _ _ _ h => h) (Or.inl ⟨by rfl, ?h1⟩) ?_
          case h1 => (intro w; go_simp; try (with_reducible rfl))
          go_simp
          refine wpAny_take (i := 1) (v := ?v2) rfl (by kernel_rfl) (by kernel_rfl) (by kernel_rfl) (fun _ _ _ h => h) (Or.inl ⟨by rfl, ?h2⟩) ?_
          case h2 => (intro w; go_simp; try (with_reducible rfl))
          go_simp
          refine wpAny_take (i := 2) (v := ?v3) rfl (by kernel_rfl) (by kernel_rfl) (by kernel_rfl) (fun _ _ _ h => h) (Or.inl ⟨by rfl, ?h3⟩) ?_
          case h3 => (intro w; go_simp; try (with_reducible rfl))
          go_simp
          refine wpAny_take (i := 3) (v := ?v4) rfl (by kernel_rfl) (by kernel_rfl) (by kernel_rfl) (fun _ _ _ h => h) (Or.inl ⟨by rfl, ?h4⟩) ?_
          case h4 => (intro w; go_simp; try (with_reducible rfl))
          go_simp
          refine wpAny_take (i := 4) (v := ?v5) rfl (by kernel_rfl) (by kernel_rfl) (by kernel_rfl) (fun _ _ _ h => h) (Or.inl ⟨by rfl, ?h5⟩) ?_
          case h5 => (intro w; go_simp; try (with_reducible rfl))
          go_simp
          refine wpAny_take (i := 5) (v := ?v6) rfl (by kernel_rfl) (by kernel_rfl) (by kernel_rfl) (fun _ _ _ h => h) (Or.inl ⟨by rfl, ?h6⟩) ?_
          case h6 => (intro w; go_simp; try (with_reducible rfl))
          go_simp
          refine wpAny_take (i := 6) (v := ?v7) rfl (by kernel_rfl) (by kernel_rfl) (by kernel_rfl) (fun _ _ _ h => h) (Or.inl ⟨by rfl, ?h7⟩) ?_
          case h7 => (intro w; go_simp; try (with_reducible rfl))
          go_simp
          refine wpAny_take (i := 7) (v := ?v8) rfl (by kernel_rfl) (by kernel_rfl) (by kernel_rfl) (fun _ _ _ h => h) (Or.inl ⟨by rfl, ?h8⟩) ?_
          case h8 => (intro w; go_simp; try (with_reducible rfl))
          go_simp
          refine wpAny_take (i := 8) (v := ?v9) rfl (by kernel_rfl) (by kernel_rfl) (by kernel_rfl) (fun _ _ _ h => h) (Or.inl ⟨by rfl, ?h9⟩) ?_
          case h9 => (intro w; go_simp; try (with_reducible rfl))
          go_simp
          refine wpAny_take (i := 10) (v := ?v10) rfl (by kernel_rfl) (by kernel_rfl) (by kernel_rfl) (fun _ _ _ h => h) (Or.inl ⟨by rfl, ?h10⟩) ?_
          case h10 => (intro w; go_simp; try (with_reducible rfl))
          go_simp
          refine wpAny_take (i := 11) (v := ?v11) rfl (by kernel_rfl) (by kernel_rfl) (by kernel_rfl) (fun _ _ _ h => h) (Or.inl ⟨by rfl, ?h11⟩) ?_
          case h11 => (intro w; go_simp; try (with_reducible rfl))
          go_simp
          refine wpAny_take (i := 12) (v := ?v12) rfl (by kernel_rfl) (by kernel_rfl) (by kernel_rfl) (fun _ _ _ h => h) (Or.inl ⟨by rfl, ?h12⟩) ?_
          case h12 => (intro w; go_simp; try (with_reducible rfl))
          go_simp
          refine wpAny_ready (rs := [9, 13]) (by kernel_rfl) (by simp) ?_
          refine AllReady.cons rfl (fun K hK => ?_) ?_
          · go_simp
            refine hK _ _ ?_
            clear hK K
            refine wpAny_ready (rs := [13]) (by kernel_rfl) (by simp) ?_
            refine AllReady.cons rfl (fun K hK => ?_) ?_
            · go_simp
              refine hK _ _ ?_
              clear hK K
              refine wpAny_take (i := 14) (v := ?v13) rfl (by kernel_rfl) (by kernel_rfl) (by kernel_rfl) (fun _ _ _ h => h) (Or.inl ⟨by rfl, ?h13⟩) ?_
              case h13 => (intro w; go_simp; try (with_reducible rfl))
              go_simp
              refine wpAny_ready (rs := [15]) (by kernel_rfl) (by simp) ?_
              refine AllReady.cons rfl (fun K hK => ?_) ?_
              · go_simp
                refine hK _ _ ?_
                clear hK K
                rw [← hW1.out]
                obtain ⟨s10, s11, s12, s13⟩ := s1.out
                clear q10 q11 q12 q13 q20 q21 q22 q23 f0 f1 f2 f3 s1
                replace e0 := e0.out
                replace e1 := e1.out
                replace e2 := e2.out
                replace e3 := e3.out
                refine wpAny_take (i := 16) (v := ?v14) rfl (by kernel_rfl) (by kernel_rfl) (by kernel_rfl) (fun _ _ _ h => h) (Or.inl ⟨by rfl, ?h14⟩) ?_
                case h14 => (intro w; go_simp; try (with_reducible rfl))
                go_simp
                refine wpAny_ready (rs := [17]) (by kernel_rfl) (by simp) ?_
                refine AllReady.cons rfl (fun K hK => ?_) ?_
                · go_simp
                  refine hK _ _ ?_
                  clear hK K
                  rw [← hW2.out]
                  clear s10 s11 s12 s13 e0 e1 e2 e3
                  refine wpAny_done (by kernel_rfl) ?_ _
                  have AF2 : Hid (ERow W2 g c ((P ++ (L1 ++ [y])) ++ x0 :: (L2' ++ (B2 ++ S)))) := by
                    show ERow _ _ _ _
                    have h1 := AF.out
                    have h2 : (⟨z1k, z1s, z1c, z1v⟩ : E) = x0 := hz1'.out
                    have h3 : (⟨z2k, z2s, z2c, z2v⟩ : E) = y := hz2'.out
                    rw [h2, h3, hys.out, hp2e.out, ← hpl.out, swap_next'] at h1
                    simpa using h1
                  have FF2 : Hid (Fp (· = g) w W2) := HF.out.tr (FF.out.wide (fun j _ h => .inl h))
                  have hL2 : Hid (B1 = (L1 ++ [y]) ++ L2') := by show _ = _; rw [hL.out]; simp
                  have hpl2 : Hid ((P ++ (L1 ++ [y])).length = p2) := by show _ = _; have := hpl.out; have := hp2e.out; simp at *; omega
                  clear AF FF AD FD A1 F1 hW1 hW2 hD A0 hz1 hz2 hz1' hz2' hys hL HF
                  go_wp2_with fail
                  go_roundw
                  case rel => exact ⟨p2, _, _, by first | rfl | go_num, hpl2, hL2, AF2, FF2⟩
                  case measure => (simp [intOf]; have := hp2e.out; omega)
                exact AllReady.nil
              exact AllReady.nil
            exact AllReady.nil
          refine AllReady.cons rfl (fun K hK => ?_) ?_
          · go_simp
            refine hK _ _ ?_
            clear hK K
            refine wpAny_ready (rs := [9]) (by kernel_rfl) (by simp) ?_
            refine AllReady.cons rfl (fun K hK => ?_) ?_
            · go_simp
              refine hK _ _ ?_
              clear hK K
              refine wpAny_take (i := 14) (v := ?v15) rfl (by kernel_rfl) (by kernel_rfl) (by kernel_rfl) (fun _ _ _ h => h) (Or.inl ⟨by rfl, ?h15⟩) ?_
              case h15 => (intro w; go_simp; try (with_reducible rfl))
              go_simp
              refine wpAny_ready (rs := [15]) (by kernel_rfl) (by simp) ?_
              refine AllReady.cons rfl (fun K hK => ?_) ?_
              · go_simp
                refine hK _ _ ?_
                clear hK K
                rw [← hW1.out]
                obtain ⟨s10, s11, s12, s13⟩ := s1.out
                clear q10 q11 q12 q13 q20 q21 q22 q23 f0 f1 f2 f3 s1
                replace e0 := e0.out
                replace e1 := e1.out
                replace e2 := e2.out
                replace e3 := e3.out
                refine wpAny_take (i := 16) (v := ?v16) rfl (by kernel_rfl) (by kernel_rfl) (by kernel_rfl) (fun _ _ _ h => h) (Or.inl ⟨by rfl, ?h16⟩) ?_
                case h16 => (intro w; go_simp; try (with_reducible rfl))
                go_simp
                refine wpAny_ready (rs := [17]) (by kernel_rfl) (by simp) ?_
                refine AllReady.cons rfl (fun K hK => ?_) ?_
                · go_simp
                  refine hK _ _ ?_
                  clear hK K
                  rw [← hW2.out]
                  clear s10 s11 s12 s13 e0 e1 e2 e3
                  refine wpAny_done (by kernel_rfl) ?_ _
                  have AF2 : Hid (ERow W2 g c ((P ++ (L1 ++ [y])) ++ x0 :: (L2' ++ (B2 ++ S)))) := by
                    show ERow _ _ _ _
                    have h1 := AF.out
                    have h2 : (⟨z1k, z1s, z1c, z1v⟩ : E) = x0 := hz1'.out
                    have h3 : (⟨z2k, z2s, z2c, z2v⟩ : E) = y := hz2'.out
                    rw [h2, h3, hys.out, hp2e.out, ← hpl.out, swap_next'] at h1
                    simpa using h1
                  have FF2 : Hid (Fp (· = g) w W2) := HF.out.tr (FF.out.wide (fun j _ h => .inl h))
                  have hL2 : Hid (B1 = (L1 ++ [y]) ++ L2') := by show _ = _; rw [hL.out]; simp
                  have hpl2 : Hid ((P ++ (L1 ++ [y])).length = p2) := by show _ = _; have := hpl.out; have := hp2e.out; simp at *; omega
                  clear AF FF AD FD A1 F1 hW1 hW2 hD A0 hz1 hz2 hz1' hz2' hys hL HF
                  go_wp2_with fail
                  go_roundw
                  case rel => exact ⟨p2, _, _, by first | rfl | go_num, hpl2, hL2, AF2, FF2⟩
                  case measure => (simp [intOf]; have := hp2e.out; omega)
                exact AllReady.nil
              exact AllReady.nil
            exact AllReady.nil
          exact AllReady.nil
        · have h6 : ¬ (p1 : Int) < (t : Int) := by omega
          have hL2 : L2 = [] := List.eq_nil_of_length_eq_zero (by omega)
          subst hL2
          have A2 : Hid (ERow wr g c (P ++ ((B1 ++ x0 :: B2) ++ S))) := by
            show ERow _ _ _ _
            have h1 := HX.out
            rw [hL.out]
            simpa using h1
          clear HX hL
          go_wp2_with fail
          refine bodyPost_ret (results_none rfl _ _ _) rfl ?_
          exact ⟨rfl, _, A2.out, hfin.out.1, hfin.out.2, HF.out⟩
set_option maxHeartbeats 1000000 in
set_option maxRecDepth 100000 in
theorem sym_last (g n c a m b : Nat) (P A : List E) (y0 : E) (S : List E) (w : World) (H : ERow w g c (P ++ (A ++ ([y0] ++ S)))) (ha : P.length = a) (hm : a + A.length = m) (hb : b = m + 1) (hA : 2 ≤ A.length) (hn : b + S.length = n) (hbig : n ≤ 140737488355328) (sA : Srt le A) : Sym g n c a m b P A [y0] S w := by
  have hcap : n ≤ c := by have := H.le; simp at this; omega
  obtain ⟨A1, A2, hAA, k1, k2⟩ := last_cut le_tot le_trn sA y0
  obtain ⟨s, hs⟩ : ∃ s, s = a + A1.length := ⟨_, rfl⟩
  have hlA : A1.length + A2.length = A.length := by rw [hAA]; simp
  have hs1 : a ≤ s := by omega
  have hs2 : s ≤ m := by omega
  have hfin : Hid (Srt le (A1 ++ y0 :: A2) ∧ Eqf le (A1 ++ y0 :: A2) (A ++ [y0])) := by
    have := last_done le_tot le_trn (by rw [← hAA]; exact sA) k1 k2
    rw [hAA]; exact this
  obtain ⟨ys, hys0⟩ : ∃ ys, ys = P ++ (A ++ ([y0] ++ S)) := ⟨_, rfl⟩
  rw [← hys0] at H
  have hyl : Hid (ys.length = n) := by show _ = _; rw [hys0]; simp; omega
  have hym : Hid (ys.getD m ze = y0) := by
    show _ = _
    have e : ys = (P ++ A) ++ y0 :: S := by rw [hys0]; simp
    rw [e, show m = (P ++ A).length by simp; omega]; exact Sb.get_at _ _ _ _
  have hyh : Hid (∀ h, a ≤ h → h < m → (h < s → le (ys.getD h ze) y0 = true) ∧ (s ≤ h → le (ys.getD h ze) y0 = false)) := by
    intro h h1 h2
    constructor
    · intro h3
      refine k1 _ ?_
      have e : ys = P ++ (A1 ++ (A2 ++ ([y0] ++ S))) := by rw [hys0, hAA]; simp
      rw [e]
      exact get_in _ _ _ _ _ (by omega) (by omega)
    · intro h3
      refine k2 _ ?_
      have e : ys = (P ++ A1) ++ (A2 ++ ([y0] ++ S)) := by rw [hys0, hAA]; simp
      rw [e]
      exact get_in _ _ _ _ _ (by simp; omega) (by simp; omega)
  have HY := hid H
  have hA1 : Hid (s = a + A1.length) := hs
  have hmn : a < n ∧ m < b ∧ b ≤ n ∧ a + 1 < m := by omega
  obtain ⟨hmn1, hmn2, hmn3, hmn4⟩ := hmn
  have e1 : IntKind.i64.wrap ((m : Int) - (a : Int)) = ((m - a : Nat) : Int) := by rw [IntKind.wrap_i64]; omega
  obtain ⟨d, hd⟩ : ∃ d, d = m - a := ⟨_, rfl⟩
  rw [← hd] at e1
  have e2 : ((d : Int) == 1) = false := by rw [beq_eq_false_iff_ne]; omega
  have e3 : IntKind.i64.wrap ((b : Int) - (m : Int)) = 1 := by rw [IntKind.wrap_i64]; omega
  replace hd := hid hd
  replace hAA := hid hAA
  replace hys0 := hid hys0
  replace ha := hid ha
  replace hb := hid hb
  replace hm := hid hm
  replace hn := hid hn
  clear H hs k1 k2 hlA hA
  unfold Sym
  go_enter Try.func82, Try.ntmps82
  go_wp2_with fail
  go_loopw [14, 15] (fun iv jv wr => ∃ i j : Nat, iv = .int .i64 (i : Int) ∧ jv = .int .i64 (j : Int) ∧ a ≤ i ∧ i ≤ s ∧ s ≤ j ∧ j ≤ m ∧ Hid (Below w.heap.size w wr)) (fun iv jv _ => (intOf jv - intOf iv).toNat)
  case atStart => exact ⟨a, m, by first | rfl | go_num, by first | rfl | go_num, Nat.le_refl _, hs1, hs2, Nat.le_refl _, Below.refl _ _⟩
  case round =>
    obtain ⟨i, j, rfl, rfl, hi0, hi, hj, hjn, HB⟩ := hrel
    by_cases hij : i < j
    · have hij' : (i : Int) < (j : Int) := by omega
      obtain ⟨h, hh⟩ : ∃ h, h = (i + j) / 2 := ⟨_, rfl⟩
      have hh1 : IntKind.i64.wrap ((i : Int) + (j : Int)) = (i : Int) + (j : Int) := by rw [IntKind.wrap_i64]; omega
      have hh2 : IntKind.u64.wrap ((i : Int) + (j : Int)) = (i : Int) + (j : Int) := by rw [IntKind.wrap_u64]; omega
      have hh3 : ((i : Int) + (j : Int)) / 2 = (h : Int) := by omega
      have hh4 : IntKind.i64.wrap (h : Int) = (h : Int) := by rw [IntKind.wrap_i64]; omega
      have hhi : i ≤ h ∧ h < j := by omega
      have hlo : a ≤ h := by omega
      have hhi2 : h < m := by omega

      obtain ⟨q1, hq1⟩ : ∃ q, q = m := ⟨_, rfl⟩
      obtain ⟨q2, hq2⟩ : ∃ q, q = h := ⟨_, rfl⟩
      have i1 : (q1 : Int) < (n : Int) := by omega
      have i2 : (q2 : Int) < (n : Int) := by omega
      have o1 : (0 : Int) ≤ (q1 : Int) := by omega
      have o2 : (0 : Int) ≤ (q2 : Int) := by omega
      have A0 := HY.out.later HB.out
      have x1 := A0.cell q1 (by rw [hyl.out]; omega)
      have y1 := A0.cell q2 (by rw [hyl.out]; omega)
      clear A0
      obtain ⟨x, hx⟩ : ∃ x, x = ys.getD q1 ze := ⟨_, rfl⟩
      obtain ⟨y, hy⟩ : ∃ y, y = ys.getD q2 ze := ⟨_, rfl⟩
      rw [← hx] at x1
      rw [← hy] at y1
      have HC : Hid (∀ W, Calls Try.prog 55 #[.agg #[.string x.k, .int .u64 x.s, .int .i64 x.c, .string x.v], .agg #[.string y.k, .int .u64 y.s, .int .i64 y.c, .string y.v]] W fun e w' => e = .returned (.int .i64 (cmp x.ik y.ik)) ∧ Below W.heap.size W w') := fun W => cmp_any x y W
      have hside : (cmp x.ik y.ik < 0 ∧ s ≤ h) ∨ (¬ cmp x.ik y.ik < 0 ∧ h < s) := by
        have hz := hyh.out h hlo hhi2
        have hxx : x = y0 := by rw [hx, hq1]; exact hym.out
        have hyy : y = ys.getD h ze := by rw [hy, hq2]
        by_cases hhm : h < s
        · refine .inr ⟨le_ge.1 ?_, hhm⟩
          rw [hxx, hyy]; exact hz.1 hhm
        · refine .inl ⟨le_lt.1 ?_, by omega⟩
          rw [hxx, hyy]; exact hz.2 (by omega)
      obtain ⟨x10, x11, x12, x13⟩ := x1
      obtain ⟨y10, y11, y12, y13⟩ := y1
      clear hx hy
      generalize cmp x.ik y.ik = C at *
      have x20 := cell_regrown x10
      have x21 := cell_regrown x11
      have x22 := cell_regrown x12
      have x23 := cell_regrown x13
      have y20 := cell_regrown y10
      have y21 := cell_regrown y11
      have y22 := cell_regrown y12
      have y23 := cell_regrown y13
      clear x10 x11 x12 x13 y10 y11 y12 y13
      generalize hxk : x.k = xk at HC x20
      generalize hxs : x.s = xs at HC x21
      generalize hxc : x.c = xc at HC x22
      generalize hxv : x.v = xv at HC x23
      generalize hyk : y.k = yk at HC y20
      generalize hysq : y.s = ysq at HC y21
      generalize hyc : y.c = yc at HC y22
      generalize hyv : y.v = yv at HC y23
      clear hxk hxs hxc hxv hyk hysq hyc hyv
      replace hh := hid hh
      clear hij
      subst q1
      subst q2
      rcases hside with ⟨hC, hs⟩ | ⟨hC, hs⟩
      · go_wp2_with fail
        refine wp_region_quiet_below (by kernel_rfl) (by kernel_rfl) ?_
        repeat (first | go_big_quiet_step (first | (go_at_call 55; exact Calls.regrown_of (HC.out _))) | quiet_step (first | (go_at_call 55; exact Calls.regrown_of (HC.out _))))
        refine wpQuiet_nil ?_
        intro w3 hw3
        have b3 : Below wr.heap.size wr w3 := by
          obtain ⟨⟨dq, osq⟩, hw''⟩ := hw3
          rw [hw'']
          exact below_regrown _ dq osq
        have HB3 := hid (HB.out.trans (b3.mono HB.out.size))
        clear hw3 b3 x20 x21 x22 x23 y20 y21 y22 y23 HC
        have h5 : IntKind.i64.wrap ((h : Int) + 1) = ((h + 1 : Nat) : Int) := by rw [IntKind.wrap_i64]; omega
        go_wp2_with fail
        go_roundw
        case rel => exact ⟨i, h, rfl, by first | rfl | go_num, hi0, hi, by omega, by have := hh.out; omega, HB3⟩
        case measure => (simp [intOf]; have := hh.out; omega)
      · go_wp2_with fail
        refine wp_region_quiet_below (by kernel_rfl) (by kernel_rfl) ?_
        repeat (first | go_big_quiet_step (first | (go_at_call 55; exact Calls.regrown_of (HC.out _))) | quiet_step (first | (go_at_call 55; exact Calls.regrown_of (HC.out _))))
        refine wpQuiet_nil ?_
        intro w3 hw3
        have b3 : Below wr.heap.size wr w3 := by
          obtain ⟨⟨dq, osq⟩, hw''⟩ := hw3
          rw [hw'']
          exact below_regrown _ dq osq
        have HB3 := hid (HB.out.trans (b3.mono HB.out.size))
        clear hw3 b3 x20 x21 x22 x23 y20 y21 y22 y23 HC
        have h5 : IntKind.i64.wrap ((h : Int) + 1) = ((h + 1 : Nat) : Int) := by rw [IntKind.wrap_i64]; omega
        go_wp2_with fail
        all_goals first | (exfalso; rename_i hbad; have hbad2 := hbad; simp at hbad2; omega) | skip
        go_roundw
        case rel => exact ⟨h + 1, j, by first | rfl | go_num, rfl, by omega, by omega, hj, hjn, HB3⟩
        case measure => (simp [intOf]; have := hh.out; omega)
    · have hie : i = s := by omega
      have hje : i = j := by omega
      subst hie
      subst hje
      have hij' : ¬ (i : Int) < (i : Int) := by omega
      have HB0 := HB
      have HR0 := hid (HY.out.later HB.out)
      clear HY HB
      go_wp2_with fail
      go_loopw [17] (fun kv wr => ∃ (p1 : Nat) (L1 L2 : List E), kv = .int .i64 (p1 : Int) ∧ Hid ((P ++ A1 ++ L1).length = p1) ∧ Hid (A2 = L1 ++ L2) ∧ Hid (ERow wr g c ((P ++ A1 ++ L1) ++ y0 :: (L2 ++ S))) ∧ Hid (Fp (· = g) w wr)) (fun kv _ => (intOf kv).toNat)
      case atStart =>
        refine ⟨m, A2, [], by first | rfl | go_num, ?_, ?_, ?_, Fp.of HB0.out⟩
        · show _ = _; have h1 := hm.out; have h2 := ha.out; rw [hAA.out] at h1; simp at h1 ⊢; omega
        · show _ = _; simp
        · show ERow _ _ _ _; have h1 := HR0.out; rw [hys0.out, hAA.out] at h1; simpa using h1
      case round =>
        obtain ⟨p1, L1, L2, rfl, hpl, hL, HX, HF⟩ := hrel
        clear HB0 HR0
        have hpt : p1 = i + L1.length := by
          have h1 := hpl.out; have h3 := hA1.out; have h4 := ha.out
          simp at h1; omega
        have hpn : p1 < n := by
          have h1 := hpl.out; have h3 := hm.out; have h4 := ha.out; have h5 := hmn2; have h6 := hmn3
          rw [hAA.out, hL.out] at h3
          simp at h1 h3; omega
        by_cases hlt : i < p1
        · obtain ⟨L1', x, hL1'⟩ := snoc_ex (P := L1) (by omega)
          subst hL1'
          obtain ⟨wx, hwx⟩ : ∃ W : World, W = wr := ⟨_, rfl⟩
          rw [← hwx] at HX HF ⊢
          clear hwx
          obtain ⟨p2, hp1e⟩ : ∃ p2, p1 = p2 + 1 := ⟨p1 - 1, by omega⟩
          have h6 : (i : Int) < (p1 : Int) := by omega
          have h8 : IntKind.i64.wrap ((p1 : Int) - 1) = (p2 : Int) := by rw [IntKind.wrap_i64]; omega
          have i1 : (p1 : Int) < (n : Int) := by omega
          have i2 : (p2 : Int) < (n : Int) := by omega
          have o1 : (0 : Int) ≤ (p1 : Int) := by omega
          have o2 : (0 : Int) ≤ (p2 : Int) := by omega
          have hpl2 : Hid ((P ++ A1 ++ L1').length = p2) := by show _ = _; have := hpl.out; simp at this ⊢; omega
          obtain ⟨ys, hys⟩ : ∃ ys, ys = (P ++ A1 ++ L1') ++ x :: y0 :: (L2 ++ S) := ⟨_, rfl⟩
          have A0 : Hid (ERow wx g c ys) := by show ERow _ _ _ _; rw [hys]; have := HX.out; simpa using this
          replace hys := hid hys
          replace hp1e := hid hp1e
          replace hpt := hid hpt
          have hz1 : Hid (ys.getD p1 ze = y0) := by show _ = _; rw [hys.out, hp1e.out, ← hpl2.out]; have := Sb.get_at2 (P ++ A1 ++ L1') [] (L2 ++ S) x y0 ze; simpa using this
          have hz2 : Hid (ys.getD p2 ze = x) := by show _ = _; rw [hys.out, ← hpl2.out]; exact Sb.get_at _ _ _ _
          have hp1 : Hid (p1 < ys.length) := by show _ < _; rw [hys.out, hp1e.out, ← hpl2.out]; simp; omega
          have hp2 : Hid (p2 < ys.length) := by show _ < _; rw [hys.out, ← hpl2.out]; simp
          obtain ⟨z1, hz1'⟩ : ∃ z, z = y0 := ⟨_, rfl⟩
          obtain ⟨z2, hz2'⟩ : ∃ z, z = x := ⟨_, rfl⟩
          rw [← hz1'] at hz1
          rw [← hz2'] at hz2
          replace hz1' := hid hz1'
          replace hz2' := hid hz2'
          clear HX
          go_wp2_with fail
          refine wp_region_any (by kernel_rfl) ?_
          change wpAny _ _ _ _ _ _ _ (World.drew _)
          obtain ⟨D, hD⟩ : ∃ D, D = World.drew wx := ⟨_, rfl⟩
          rw [← hD]
          have AD : Hid (ERow D g c ys) := (A0.out.later (by rw [hD]; exact drew_below wx))
          have FD : Hid (Fp (· = g) wx D) := (Fp.of (P := (· = g)) (w1 := D) (by rw [hD]; exact drew_below wx))
          obtain ⟨W1, hW1⟩ : ∃ W, W = st4 D g (p1 * 4) z2 := ⟨_, rfl⟩
          have Aq1 := hid (AD.out.set p1 z2 hp1.out)
          have F1 := hid (st4_fp (p1 * 4) z2 FD.out)
          rw [← hW1] at Aq1 F1
          obtain ⟨W2, hW2⟩ : ∃ W, W = st4 W1 g (p2 * 4) z1 := ⟨_, rfl⟩
          have AF := hid (Aq1.out.set p2 z1 (by rw [List.length_set]; exact hp2.out))
          have FF := hid (st4_fp (p2 * 4) z1 F1.out)
          rw [← hW2] at AF FF
          have q1 := AD.out.cell p1 hp1.out
          have q2 := AD.out.cell p2 hp2.out
          rw [hz1.out] at q1
          rw [hz2.out] at q2
          have s1 := Aq1.out.cell p2 (by rw [List.length_set]; exact hp2.out)
          have f0 := AD.out.fz (p1 * 4)
          have f1 := AD.out.fz (p1 * 4 + 1)
          have f2 := AD.out.fz (p1 * 4 + 2)
          have f3 := AD.out.fz (p1 * 4 + 3)
          have e0 := hid (Aq1.out.fz (p2 * 4))
          have e1 := hid (Aq1.out.fz (p2 * 4 + 1))
          have e2 := hid (Aq1.out.fz (p2 * 4 + 2))
          have e3 := hid (Aq1.out.fz (p2 * 4 + 3))
          obtain ⟨q10, q11, q12, q13⟩ := q1
          obtain ⟨q20, q21, q22, q23⟩ := q2
          replace s1 := hid s1
          obtain ⟨z1k, z1s, z1c, z1v⟩ := z1
          obtain ⟨z2k, z2s, z2c, z2v⟩ := z2
          dsimp only at q10 q11 q12 q13 q20 q21 q22 q23
          unfold st4 at hW1 hW2
          dsimp only at hW1 hW2
          replace hW1 := hid hW1
          replace hW2 := hid hW2
          replace hD := hid hD
          refine wpAny_take (i := 0) (v := ?v17) rfl (by kernel_rfl) (by kernel_rfl) (by kernel_rfl) (fun _ _ _ h => h) (Or.inl ⟨by rfl, ?h17⟩) ?_
          case h17 => (intro w; go_simp; try (with_reducible rfl))
          go_simp
          refine wpAny_take (i := 1) (v := ?v18) rfl (by kernel_rfl) (by kernel_rfl) (by kernel_rfl) (fun _ _ _ h => h) (Or.inl ⟨by rfl, ?h18⟩) ?_
          case h18 => (intro w; go_simp; try (with_reducible rfl))
          go_simp
          refine wpAny_take (i := 2) (v := ?v19) rfl (by kernel_rfl) (by kernel_rfl) (by kernel_rfl) (fun _ _ _ h => h) (Or.inl ⟨by rfl, ?h19⟩) ?_
          case h19 => (intro w; go_simp; try (with_reducible rfl))
          go_simp
          refine wpAny_take (i := 3) (v := ?v20) rfl (by kernel_rfl) (by kernel_rfl) (by kernel_rfl) (fun _ _ _ h => h) (Or.inl ⟨by rfl, ?h20⟩) ?_
          case h20 => (intro w; go_simp; try (with_reducible rfl))
          go_simp
          refine wpAny_take (i := 4) (v := ?v21) rfl (by kernel_rfl) (by kernel_rfl) (by kernel_rfl) (fun _ _ _ h => h) (Or.inl ⟨by rfl, ?h21⟩) ?_
          case h21 => (intro w; go_simp; try (with_reducible rfl))
          go_simp
          refine wpAny_take (i := 5) (v := ?v22) rfl (by kernel_rfl) (by kernel_rfl) (by kernel_rfl) (fun _ _ _ h => h) (Or.inl ⟨by rfl, ?h22⟩) ?_
          case h22 => (intro w; go_simp; try (with_reducible rfl))
          go_simp
          refine wpAny_take (i := 6) (v := ?v23) rfl (by kernel_rfl) (by kernel_rfl) (by kernel_rfl) (fun _ _ _ h => h) (Or.inl ⟨by rfl, ?h23⟩) ?_
          case h23 => (intro w; go_simp; try (with_reducible rfl))
          go_simp
          refine wpAny_take (i := 7) (v := ?v24) rfl (by kernel_rfl) (by kernel_rfl) (by kernel_rfl) (fun _ _ _ h => h) (Or.inl ⟨by rfl, ?h24⟩) ?_
          case h24 => (intro w; go_simp; try (with_reducible rfl))
          go_simp
          refine wpAny_take (i := 8) (v := ?v25) rfl (by kernel_rfl) (by kernel_rfl) (by kernel_rfl) (fun _ _ _ h => h) (Or.inl ⟨by rfl, ?h25⟩) ?_
          case h25 => (intro w; go_simp; try (with_reducible rfl))
          go_simp
          refine wpAny_take (i := 10) (v := ?v26) rfl (by kernel_rfl) (by kernel_rfl) (by kernel_rfl) (fun _ _ _ h => h) (Or.inl ⟨by rfl, ?h26⟩) ?_
          case h26 => (intro w; go_simp; try (with_reducible rfl))
          go_simp
          refine wpAny_take (i := 11) (v := ?v27) rfl (by kernel_rfl) (by kernel_rfl) (by kernel_rfl) (fun _ _ _ h => h) (Or.inl ⟨by rfl, ?h27⟩) ?_
          case h27 => (intro w; go_simp; try (with_reducible rfl))
          go_simp
          refine wpAny_take (i := 12) (v := ?v28) rfl (by kernel_rfl) (by kernel_rfl) (by kernel_rfl) (fun _ _ _ h => h) (Or.inl ⟨by rfl, ?h28⟩) ?_
          case h28 => (intro w; go_simp; try (with_reducible rfl))
          go_simp
          refine wpAny_ready (rs := [9, 13]) (by kernel_rfl) (by simp) ?_
          refine AllReady.cons rfl (fun K hK => ?_) ?_
          · go_simp
            refine hK _ _ ?_
            clear hK K
            refine wpAny_ready (rs := [13]) (by kernel_rfl) (by simp) ?_
            refine AllReady.cons rfl (fun K hK => ?_) ?_
            · go_simp
              refine hK _ _ ?_
              clear hK K
              refine wpAny_take (i := 14) (v := ?v29) rfl (by kernel_rfl) (by kernel_rfl) (by kernel_rfl) (fun _ _ _ h => h) (Or.inl ⟨by rfl, ?h29⟩) ?_
              case h29 => (intro w; go_simp; try (with_reducible rfl))
              go_simp
              refine wpAny_ready (rs := [15]) (by kernel_rfl) (by simp) ?_
              refine AllReady.cons rfl (fun K hK => ?_) ?_
              · go_simp
                refine hK _ _ ?_
                clear hK K
                rw [← hW1.out]
                obtain ⟨s10, s11, s12, s13⟩ := s1.out
                clear q10 q11 q12 q13 q20 q21 q22 q23 f0 f1 f2 f3 s1
                replace e0 := e0.out
                replace e1 := e1.out
                replace e2 := e2.out
                replace e3 := e3.out
                refine wpAny_take (i := 16) (v := ?v30) rfl (by kernel_rfl) (by kernel_rfl) (by kernel_rfl) (fun _ _ _ h => h) (Or.inl ⟨by rfl, ?h30⟩) ?_
                case h30 => (intro w; go_simp; try (with_reducible rfl))
                go_simp
                refine wpAny_ready (rs := [17]) (by kernel_rfl) (by simp) ?_
                refine AllReady.cons rfl (fun K hK => ?_) ?_
                · go_simp
                  refine hK _ _ ?_
                  clear hK K
                  rw [← hW2.out]
                  clear s10 s11 s12 s13 e0 e1 e2 e3
                  refine wpAny_done (by kernel_rfl) ?_ _
                  have AF2 : Hid (ERow W2 g c ((P ++ A1 ++ L1') ++ y0 :: (x :: L2 ++ S))) := by
                    show ERow _ _ _ _
                    have h1 := AF.out
                    have h2 : (⟨z1k, z1s, z1c, z1v⟩ : E) = y0 := hz1'.out
                    have h3 : (⟨z2k, z2s, z2c, z2v⟩ : E) = x := hz2'.out
                    rw [h2, h3, hys.out, hp1e.out, ← hpl2.out, swap_next] at h1
                    simpa using h1
                  have FF2 : Hid (Fp (· = g) w W2) := HF.out.tr (FF.out.wide (fun j _ h => .inl h))
                  have hL2 : Hid (A2 = L1' ++ (x :: L2)) := by show _ = _; rw [hL.out]; simp
                  clear AF FF AD FD Aq1 F1 hW1 hW2 hD A0 hz1 hz2 hz1' hz2' hys hL HF
                  go_wp2_with fail
                  go_roundw
                  case rel => exact ⟨p2, _, _, by first | rfl | go_num, hpl2, hL2, AF2, FF2⟩
                  case measure => (simp [intOf]; have := hp1e.out; omega)
                exact AllReady.nil
              exact AllReady.nil
            exact AllReady.nil
          refine AllReady.cons rfl (fun K hK => ?_) ?_
          · go_simp
            refine hK _ _ ?_
            clear hK K
            refine wpAny_ready (rs := [9]) (by kernel_rfl) (by simp) ?_
            refine AllReady.cons rfl (fun K hK => ?_) ?_
            · go_simp
              refine hK _ _ ?_
              clear hK K
              refine wpAny_take (i := 14) (v := ?v31) rfl (by kernel_rfl) (by kernel_rfl) (by kernel_rfl) (fun _ _ _ h => h) (Or.inl ⟨by rfl, ?h31⟩) ?_
              case h31 => (intro w; go_simp; try (with_reducible rfl))
              go_simp
              refine wpAny_ready (rs := [15]) (by kernel_rfl) (by simp) ?_
              refine AllReady.cons rfl (fun K hK => ?_) ?_
              · go_simp
                refine hK _ _ ?_
                clear hK K
                rw [← hW1.out]
                obtain ⟨s10, s11, s12, s13⟩ := s1.out
                clear q10 q11 q12 q13 q20 q21 q22 q23 f0 f1 f2 f3 s1
                replace e0 := e0.out
                replace e1 := e1.out
                replace e2 := e2.out
                replace e3 := e3.out
                refine wpAny_take (i := 16) (v := ?v32) rfl (by kernel_rfl) (by kernel_rfl) (by kernel_rfl) (fun _ _ _ h => h) (Or.inl ⟨by rfl, ?h32⟩) ?_
                case h32 => (intro w; go_simp; try (with_reducible rfl))
                go_simp
                refine wpAny_ready (rs := [17]) (by kernel_rfl) (by simp) ?_
                refine AllReady.cons rfl (fun K hK => ?_) ?_
                · go_simp
                  refine hK _ _ ?_
                  clear hK K
                  rw [← hW2.out]
                  clear s10 s11 s12 s13 e0 e1 e2 e3
                  refine wpAny_done (by kernel_rfl) ?_ _
                  have AF2 : Hid (ERow W2 g c ((P ++ A1 ++ L1') ++ y0 :: (x :: L2 ++ S))) := by
                    show ERow _ _ _ _
                    have h1 := AF.out
                    have h2 : (⟨z1k, z1s, z1c, z1v⟩ : E) = y0 := hz1'.out
                    have h3 : (⟨z2k, z2s, z2c, z2v⟩ : E) = x := hz2'.out
                    rw [h2, h3, hys.out, hp1e.out, ← hpl2.out, swap_next] at h1
                    simpa using h1
                  have FF2 : Hid (Fp (· = g) w W2) := HF.out.tr (FF.out.wide (fun j _ h => .inl h))
                  have hL2 : Hid (A2 = L1' ++ (x :: L2)) := by show _ = _; rw [hL.out]; simp
                  clear AF FF AD FD Aq1 F1 hW1 hW2 hD A0 hz1 hz2 hz1' hz2' hys hL HF
                  go_wp2_with fail
                  go_roundw
                  case rel => exact ⟨p2, _, _, by first | rfl | go_num, hpl2, hL2, AF2, FF2⟩
                  case measure => (simp [intOf]; have := hp1e.out; omega)
                exact AllReady.nil
              exact AllReady.nil
            exact AllReady.nil
          exact AllReady.nil
        · have h6 : ¬ (i : Int) < (p1 : Int) := by omega
          have hL1 : L1 = [] := List.eq_nil_of_length_eq_zero (by omega)
          subst hL1
          have AE : Hid (ERow wr g c (P ++ ((A1 ++ y0 :: A2) ++ S))) := by
            show ERow _ _ _ _
            have h1 := HX.out
            rw [hL.out]
            simpa using h1
          clear HX hL
          go_wp2_with fail
          refine bodyPost_ret (results_none rfl _ _ _) rfl ?_
          exact ⟨rfl, _, AE.out, hfin.out.1, hfin.out.2, HF.out⟩
set_option maxHeartbeats 2000000 in
set_option maxRecDepth 100000 in
theorem sym_morea (g n c a m b mid : Nat) (P A B S : List E) (w : World) (H : ERow w g c (P ++ (A ++ (B ++ S)))) (ha : P.length = a) (hm : a + A.length = m) (hb : m + B.length = b) (hA : 2 ≤ A.length) (hB : 2 ≤ B.length) (hn : b + S.length = n) (hbig : n ≤ 140737488355328) (sA : Srt le A) (sB : Srt le B) (hmid : mid = (a + b) / 2) (hmm : mid < m)
    (IH : ∀ (g n c : Nat) (a' m' b' : Nat) (P A B S : List E) (w : World), ERow w g c (P ++ (A ++ (B ++ S))) → P.length = a' → a' + A.length = m' → m' + B.length = b' → 0 < A.length → 0 < B.length → b' + S.length = n → (b' - a' < b - a ∧ n ≤ 140737488355328) → Srt le A → Srt le B → Sym g n c a' m' b' P A B S w) : Sym g n c a m b P A B S w := by
  have hcap : n ≤ c := by have := H.le; simp at this; omega
  obtain ⟨s, hs1, hs2, f1, f2, A1, A2, B1, B2, hAA, hBB, hA1, hB1, k1, k2⟩ := sym_cut le_tot le_trn ze P A B S a m b mid (mid + m - b) mid ha hm hb sA sB hmid hA hB (.inl ⟨hmm, rfl, rfl⟩)
  obtain ⟨s0, hs0⟩ : ∃ s, s = (mid + m - b) := ⟨_, rfl⟩
  obtain ⟨r0, hr0⟩ : ∃ s, s = mid := ⟨_, rfl⟩
  rw [← hs0] at hs1 f1
  rw [← hr0] at hs2 f2
  obtain ⟨ys, hys0⟩ : ∃ ys, ys = P ++ (A ++ (B ++ S)) := ⟨_, rfl⟩
  rw [← hys0] at H f1 f2
  have hyl : Hid (ys.length = n) := by show _ = _; rw [hys0]; simp; omega
  have HY := hid H
  obtain ⟨nn, hnn⟩ : ∃ q, q = mid + m := ⟨_, rfl⟩
  obtain ⟨pp, hpp⟩ : ∃ q, q = mid + m - 1 := ⟨_, rfl⟩
  have hmn : a < n ∧ m < b ∧ b ≤ n ∧ a + 1 < m ∧ a < mid ∧ mid < b ∧ 1 ≤ m := by omega
  obtain ⟨hmn1, hmn2, hmn3, hmn4, hmn5, hmn6, hmn7⟩ := hmn
  have hrange : s0 ≤ r0 ∧ r0 ≤ m ∧ r0 ≤ mid ∧ a ≤ s0 := by omega
  obtain ⟨hr1, hr2, hr3, hr4⟩ := hrange
  have hrr : Hid (∀ h, s0 ≤ h → h < r0 → m ≤ mid + m - 1 - h ∧ mid + m - 1 - h < b) := by intro h h1 h2; omega
  have e1 : IntKind.i64.wrap ((m : Int) - (a : Int)) = ((m - a : Nat) : Int) := by rw [IntKind.wrap_i64]; omega
  obtain ⟨d, hd⟩ : ∃ d, d = m - a := ⟨_, rfl⟩
  rw [← hd] at e1
  have e2 : ((d : Int) == 1) = false := by rw [beq_eq_false_iff_ne]; omega
  have e3 : IntKind.i64.wrap ((b : Int) - (m : Int)) = ((b - m : Nat) : Int) := by rw [IntKind.wrap_i64]; omega
  obtain ⟨d2, hd2⟩ : ∃ d, d = b - m := ⟨_, rfl⟩
  rw [← hd2] at e3
  have e4 : ((d2 : Int) == 1) = false := by rw [beq_eq_false_iff_ne]; omega
  have hh1 : IntKind.i64.wrap ((a : Int) + (b : Int)) = (a : Int) + (b : Int) := by rw [IntKind.wrap_i64]; omega
  have hh2 : IntKind.u64.wrap ((a : Int) + (b : Int)) = (a : Int) + (b : Int) := by rw [IntKind.wrap_u64]; omega
  have hh3 : ((a : Int) + (b : Int)) / 2 = (mid : Int) := by omega
  have hh4 : IntKind.i64.wrap (mid : Int) = (mid : Int) := by rw [IntKind.wrap_i64]; omega
  have e5 : IntKind.i64.wrap ((mid : Int) + (m : Int)) = (nn : Int) := by rw [IntKind.wrap_i64]; omega
  have e6 : IntKind.i64.wrap ((nn : Int) - 1) = (pp : Int) := by rw [IntKind.wrap_i64]; omega
  have e7 : IntKind.i64.wrap ((nn : Int) - (b : Int)) = ((nn - b : Nat) : Int)  := by rw [IntKind.wrap_i64]; omega
  have e8 : (mid : Int) < (m : Int) := by omega
  rw [show nn - b = s0 by omega] at e7
  have hmd := hid hmid
  have hf1 := hid f1
  have hf2 := hid f2
  have hk1 := hid k1
  have hk2 := hid k2
  replace hAA := hid hAA
  replace hBB := hid hBB
  replace hA1 := hid hA1
  replace hB1 := hid hB1
  replace hys0 := hid hys0
  replace hd := hid hd
  replace hd2 := hid hd2
  replace hnn := hid hnn
  replace hpp := hid hpp
  replace ha := hid ha
  replace hb := hid hb
  replace hm := hid hm
  replace hn := hid hn
  replace sA := hid sA
  replace sB := hid sB
  replace hs0 := hid hs0
  subst r0
  clear H f1 f2 k1 k2 hA hB hmid
  replace IH := hid IH
  unfold Sym
  go_enter Try.func82, Try.ntmps82
  go_wp2_with fail
  go_loopw [20, 21] (fun iv jv wr => ∃ i j : Nat, iv = .int .i64 (i : Int) ∧ jv = .int .i64 (j : Int) ∧ s0 ≤ i ∧ i ≤ s ∧ s ≤ j ∧ j ≤ mid ∧ Hid (Below w.heap.size w wr)) (fun iv jv _ => (intOf jv - intOf iv).toNat)
  case atStart => exact ⟨s0, mid, by first | rfl | go_num, by first | rfl | go_num, Nat.le_refl _, hs1, hs2, Nat.le_refl _, Below.refl _ _⟩
  case round =>
    obtain ⟨i, j, rfl, rfl, hi0, hi, hj, hjn, HB⟩ := hrel
    by_cases hij : i < j
    · have hij' : (i : Int) < (j : Int) := by omega
      obtain ⟨h, hh⟩ : ∃ h, h = (i + j) / 2 := ⟨_, rfl⟩
      have hh1 : IntKind.i64.wrap ((i : Int) + (j : Int)) = (i : Int) + (j : Int) := by rw [IntKind.wrap_i64]; omega
      have hh2 : IntKind.u64.wrap ((i : Int) + (j : Int)) = (i : Int) + (j : Int) := by rw [IntKind.wrap_u64]; omega
      have hh3 : ((i : Int) + (j : Int)) / 2 = (h : Int) := by omega
      have hh4 : IntKind.i64.wrap (h : Int) = (h : Int) := by rw [IntKind.wrap_i64]; omega
      have hhi : i ≤ h ∧ h < j := by omega
      have hlo : s0 ≤ h := by omega
      have hhi2 : h < mid := by omega
      have hpq := hrr.out h hlo hhi2
      have gp : IntKind.i64.wrap ((pp : Int) - (h : Int)) = ((mid + m - 1 - h : Nat) : Int) := by rw [IntKind.wrap_i64]; have := hpp.out; omega
      obtain ⟨q1, hq1⟩ : ∃ q, q = mid + m - 1 - h := ⟨_, rfl⟩
      obtain ⟨q2, hq2⟩ : ∃ q, q = h := ⟨_, rfl⟩
      rw [← hq1] at gp
      have i1 : (q1 : Int) < (n : Int) := by omega
      have i2 : (q2 : Int) < (n : Int) := by omega
      have o1 : (0 : Int) ≤ (q1 : Int) := by omega
      have o2 : (0 : Int) ≤ (q2 : Int) := by omega
      have A0 := HY.out.later HB.out
      have x1 := A0.cell q1 (by rw [hyl.out]; omega)
      have y1 := A0.cell q2 (by rw [hyl.out]; omega)
      clear A0
      obtain ⟨x, hx⟩ : ∃ x, x = ys.getD q1 ze := ⟨_, rfl⟩
      obtain ⟨y, hy⟩ : ∃ y, y = ys.getD q2 ze := ⟨_, rfl⟩
      rw [← hx] at x1
      rw [← hy] at y1
      have HC : Hid (∀ W, Calls Try.prog 55 #[.agg #[.string x.k, .int .u64 x.s, .int .i64 x.c, .string x.v], .agg #[.string y.k, .int .u64 y.s, .int .i64 y.c, .string y.v]] W fun e w' => e = .returned (.int .i64 (cmp x.ik y.ik)) ∧ Below W.heap.size W w') := fun W => cmp_any x y W
      have hside : (cmp x.ik y.ik < 0 ∧ s ≤ h) ∨ (¬ cmp x.ik y.ik < 0 ∧ h < s) := by
        have hxx : x = ys.getD (mid + m - 1 - h) ze := by rw [hx, hq1]
        have hyy : y = ys.getD h ze := by rw [hy, hq2]
        by_cases hhm : h < s
        · refine .inr ⟨le_ge.1 ?_, hhm⟩
          rw [hxx, hyy]; exact hf1.out h hlo hhm
        · refine .inl ⟨le_lt.1 ?_, by omega⟩
          rw [hxx, hyy]; exact hf2.out h (by omega) hhi2
      obtain ⟨x10, x11, x12, x13⟩ := x1
      obtain ⟨y10, y11, y12, y13⟩ := y1
      clear hx hy hpq
      generalize cmp x.ik y.ik = C at *
      have x20 := cell_regrown x10
      have x21 := cell_regrown x11
      have x22 := cell_regrown x12
      have x23 := cell_regrown x13
      have y20 := cell_regrown y10
      have y21 := cell_regrown y11
      have y22 := cell_regrown y12
      have y23 := cell_regrown y13
      clear x10 x11 x12 x13 y10 y11 y12 y13
      generalize hxk : x.k = xk at HC x20
      generalize hxs : x.s = xs at HC x21
      generalize hxc : x.c = xc at HC x22
      generalize hxv : x.v = xv at HC x23
      generalize hyk : y.k = yk at HC y20
      generalize hysq : y.s = ysq at HC y21
      generalize hyc : y.c = yc at HC y22
      generalize hyv : y.v = yv at HC y23
      clear hxk hxs hxc hxv hyk hysq hyc hyv
      replace hh := hid hh
      clear hij
      replace hq1 := hid hq1
      subst q2
      rcases hside with ⟨hC, hs⟩ | ⟨hC, hs⟩
      · go_wp2_with fail
        refine wp_region_quiet_below (by kernel_rfl) (by kernel_rfl) ?_
        repeat (first | go_big_quiet_step (first | (go_at_call 55; exact Calls.regrown_of (HC.out _))) | quiet_step (first | (go_at_call 55; exact Calls.regrown_of (HC.out _))))
        refine wpQuiet_nil ?_
        intro w3 hw3
        have b3 : Below wr.heap.size wr w3 := by
          obtain ⟨⟨dq, osq⟩, hw''⟩ := hw3
          rw [hw'']
          exact below_regrown _ dq osq
        have HB3 := hid (HB.out.trans (b3.mono HB.out.size))
        clear hw3 b3 x20 x21 x22 x23 y20 y21 y22 y23 HC
        have h5 : IntKind.i64.wrap ((h : Int) + 1) = ((h + 1 : Nat) : Int) := by rw [IntKind.wrap_i64]; omega
        go_wp2_with fail
        go_roundw
        case rel => exact ⟨i, h, rfl, by first | rfl | go_num, hi0, hi, by omega, by have := hh.out; omega, HB3⟩
        case measure => (simp [intOf]; have := hh.out; omega)
      · go_wp2_with fail
        refine wp_region_quiet_below (by kernel_rfl) (by kernel_rfl) ?_
        repeat (first | go_big_quiet_step (first | (go_at_call 55; exact Calls.regrown_of (HC.out _))) | quiet_step (first | (go_at_call 55; exact Calls.regrown_of (HC.out _))))
        refine wpQuiet_nil ?_
        intro w3 hw3
        have b3 : Below wr.heap.size wr w3 := by
          obtain ⟨⟨dq, osq⟩, hw''⟩ := hw3
          rw [hw'']
          exact below_regrown _ dq osq
        have HB3 := hid (HB.out.trans (b3.mono HB.out.size))
        clear hw3 b3 x20 x21 x22 x23 y20 y21 y22 y23 HC
        have h5 : IntKind.i64.wrap ((h : Int) + 1) = ((h + 1 : Nat) : Int) := by rw [IntKind.wrap_i64]; omega
        go_wp2_with fail
        all_goals first | (exfalso; rename_i hbad; have hbad2 := hbad; simp at hbad2; omega) | skip
        go_roundw
        case rel => exact ⟨h + 1, j, by first | rfl | go_num, rfl, by omega, by omega, hj, hjn, HB3⟩
        case measure => (simp [intOf]; have := hh.out; omega)
    · have hie : i = s := by omega
      have hje : i = j := by omega
      subst hie
      subst hje
      have hij' : ¬ (i : Int) < (i : Int) := by omega
      obtain ⟨en, hen⟩ : ∃ e, e = mid + m - i := ⟨_, rfl⟩
      have ge : IntKind.i64.wrap ((nn : Int) - (i : Int)) = (en : Int) := by rw [IntKind.wrap_i64]; have := hnn.out; omega
      have HR0 := hid (HY.out.later HB.out)
      have HF0 : Hid (Fp (· = g) w wr) := Fp.of HB.out
      clear HY HB
      have lens : P.length = a ∧ a + A1.length = i ∧ i + A2.length = m ∧ m + B1.length = en ∧ en + B2.length = b ∧ i + B1.length = mid := by
        have h1 := hm.out; have h2 := hb.out; have h3 := hA1.out; have h4 := hB1.out
        rw [hAA.out] at h1
        rw [hBB.out] at h2
        simp at h1 h2
        have h5 := ha.out
        refine ⟨h5, h3, ?_, ?_, ?_, h4⟩ <;> omega
      obtain ⟨l1, l2, l3, l4, l5, l6⟩ := lens
      have hbn : b + S.length = n := hn.out
      have R0 : Hid (ERow wr g c ((P ++ A1) ++ (A2 ++ (B1 ++ (B2 ++ S))))) := by
        show ERow _ _ _ _
        have h1 := HR0.out
        rw [hys0.out, hAA.out, hBB.out] at h1
        simpa using h1
      have sAB : Hid (Srt le A1 ∧ Srt le A2 ∧ Srt le B1 ∧ Srt le B2) := by
        have h1 := sA.out; have h2 := sB.out
        rw [hAA.out] at h1
        rw [hBB.out] at h2
        exact ⟨h1.left, h1.right, h2.left, h2.right⟩
      have he0 : Hid (∀ M1 M2, Srt le M1 → Eqf le M1 (A1 ++ B1) → Srt le M2 → Eqf le M2 (A2 ++ B2) → Srt le (M1 ++ M2) ∧ Eqf le (M1 ++ M2) (A ++ B)) := by
        intro M1 M2 t1 t2 t3 t4
        have := sym_done le_tot le_trn hk1.out hk2.out t1 t2 t3 t4
        rw [hAA.out, hBB.out]; exact this
      clear HR0 hys0 hAA hBB hk1 hk2 hf1 hf2 hyl sA sB hA1 hB1 ha hm hb hen
      by_cases hX1 : i < m
      · have c1 : (i : Int) < (m : Int) := by omega
        by_cases hY1 : m < en
        · have c2 : (m : Int) < (en : Int) := by omega
          have H1 := hid (rotate_any g n c i m en (P ++ A1) A2 B1 (B2 ++ S) wr R0.out (by rw [List.length_append]; omega) (by omega) (by omega) (by omega) (by omega) (by simp; omega) hbig)
          unfold cf at H1
          go_wp2_with fail
          refine H1.out.mono ?_
          rintro e w7 ⟨rfl, R1', F1'⟩
          have F1 : Hid (Fp (· = g) w w7) := HF0.out.tr (F1'.wide (fun j _ h => .inl h))
          have R1 : Hid (ERow w7 g c (P ++ (A1 ++ (B1 ++ (A2 ++ (B2 ++ S)))))) := by show ERow _ _ _ _; simpa using R1'
          clear R1' F1' H1 R0
          by_cases hZ : a < i
          · have c3 : (a : Int) < (i : Int) := by omega
            have c4 : (i : Int) < (mid : Int) := by omega
            have H2 := hid (IH g n c a i mid P A1 B1 (A2 ++ (B2 ++ S)) w7 R1.out (by omega) (by omega) (by omega) (by omega) (by omega) (by simp; omega) (by have := hmd.out; omega) sAB.out.1 sAB.out.2.2.1)
            unfold Sym at H2
            go_wp2_with fail
            refine H2.out.mono ?_
            rintro e w8 ⟨rfl, M1, R2', s1, e1, F2'⟩
            have F2 : Hid (Fp (· = g) w w8) := F1.out.tr (F2'.wide (fun j _ h => .inl h))
            have R2 : Hid (ERow w8 g c ((P ++ M1) ++ (A2 ++ (B2 ++ S)))) := by show ERow _ _ _ _; simpa using R2'
            have t1s := hid s1
            have t1e := hid e1
            have t1l : Hid (M1.length = A1.length + B1.length) := by show _ = _; have := e1.1; simpa using this
            clear R2' F2' s1 e1 H2
            have c5 : (mid : Int) < (en : Int) := by omega
            by_cases hT : en < b
            · have c6 : (en : Int) < (b : Int) := by omega
              have H3 := hid (IH g n c mid en b (P ++ M1) A2 B2 S w8 R2.out (by have := t1l.out; rw [List.length_append]; omega) (by omega) (by omega) (by omega) (by omega) (by omega) (by have := hmd.out; omega) sAB.out.2.1 sAB.out.2.2.2)
              unfold Sym at H3
              go_wp2_with fail
              refine H3.out.mono ?_
              rintro e w9 ⟨rfl, M2, R3, s2, e2, F3⟩
              have F4 : Hid (Fp (· = g) w w9) := F2.out.tr (F3.wide (fun j _ h => .inl h))
              replace R3 := hid R3
              replace s2 := hid s2
              replace e2 := hid e2
              clear F3 H3
              go_wp2_with fail
              refine bodyPost_end (results_none rfl _ _ _) rfl ?_
              have hz := he0.out M1 M2 t1s.out t1e.out s2.out e2.out
              exact ⟨rfl, M1 ++ M2, by have := R3.out; simpa using this, hz.1, hz.2, F4.out⟩
            · have c6 : ¬ (en : Int) < (b : Int) := by omega
              have hz3 : Hid (A2 = [] ∨ B2 = []) := .inr (List.eq_nil_of_length_eq_zero (by omega))
              go_wp2_with fail
              refine bodyPost_end (results_none rfl _ _ _) rfl ?_
              have s2 : Srt le (A2 ++ B2) := by
                rcases hz3.out with e | e
                · rw [e]; exact sAB.out.2.2.2
                · rw [e, List.append_nil]; exact sAB.out.2.1
              have hz := he0.out M1 (A2 ++ B2) t1s.out t1e.out s2 (Eqf.refl _)
              exact ⟨rfl, M1 ++ (A2 ++ B2), by have := R2.out; simpa using this, hz.1, hz.2, F2.out⟩
          · have c3 : ¬ (a : Int) < (i : Int) := by omega
            have hz2 : Hid (A1 = [] ∨ B1 = []) := .inl (List.eq_nil_of_length_eq_zero (by omega))
            have R2 : Hid (ERow w7 g c ((P ++ (A1 ++ B1)) ++ (A2 ++ (B2 ++ S)))) := by show ERow _ _ _ _; have := R1.out; simpa using this
            have t1s : Hid (Srt le (A1 ++ B1)) := by
              show Srt _ _
              rcases hz2.out with e | e
              · rw [e]; exact sAB.out.2.2.1
              · rw [e, List.append_nil]; exact sAB.out.1
            have t1e : Hid (Eqf le (A1 ++ B1) (A1 ++ B1)) := Eqf.refl _
            have t1l : Hid ((A1 ++ B1).length = A1.length + B1.length) := by show _ = _; simp
            have c5 : (mid : Int) < (en : Int) := by omega
            by_cases hT : en < b
            · have c6 : (en : Int) < (b : Int) := by omega
              have H3 := hid (IH g n c mid en b (P ++ (A1 ++ B1)) A2 B2 S w7 R2.out (by have := t1l.out; rw [List.length_append]; omega) (by omega) (by omega) (by omega) (by omega) (by omega) (by have := hmd.out; omega) sAB.out.2.1 sAB.out.2.2.2)
              unfold Sym at H3
              go_wp2_with fail
              refine H3.out.mono ?_
              rintro e w9 ⟨rfl, M2, R3, s2, e2, F3⟩
              have F4 : Hid (Fp (· = g) w w9) := F1.out.tr (F3.wide (fun j _ h => .inl h))
              replace R3 := hid R3
              replace s2 := hid s2
              replace e2 := hid e2
              clear F3 H3
              go_wp2_with fail
              refine bodyPost_end (results_none rfl _ _ _) rfl ?_
              have hz := he0.out (A1 ++ B1) M2 t1s.out t1e.out s2.out e2.out
              exact ⟨rfl, (A1 ++ B1) ++ M2, by have := R3.out; simpa using this, hz.1, hz.2, F4.out⟩
            · have c6 : ¬ (en : Int) < (b : Int) := by omega
              have hz3 : Hid (A2 = [] ∨ B2 = []) := .inr (List.eq_nil_of_length_eq_zero (by omega))
              go_wp2_with fail
              refine bodyPost_end (results_none rfl _ _ _) rfl ?_
              have s2 : Srt le (A2 ++ B2) := by
                rcases hz3.out with e | e
                · rw [e]; exact sAB.out.2.2.2
                · rw [e, List.append_nil]; exact sAB.out.2.1
              have hz := he0.out (A1 ++ B1) (A2 ++ B2) t1s.out t1e.out s2 (Eqf.refl _)
              exact ⟨rfl, (A1 ++ B1) ++ (A2 ++ B2), by have := R2.out; simpa using this, hz.1, hz.2, F1.out⟩
        · have c2 : ¬ (m : Int) < (en : Int) := by omega
          have hz1 : Hid (A2 = [] ∨ B1 = []) := .inr (List.eq_nil_of_length_eq_zero (by omega))
          have R1 : Hid (ERow wr g c (P ++ (A1 ++ (B1 ++ (A2 ++ (B2 ++ S)))))) := by
            show ERow _ _ _ _
            have h1 := R0.out
            rcases hz1.out with e | e <;> rw [e] at h1 ⊢ <;> simpa using h1
          clear R0
          by_cases hZ : a < i
          · have c3 : (a : Int) < (i : Int) := by omega
            have c4 : ¬ (i : Int) < (mid : Int) := by omega
            have hz2 : Hid (A1 = [] ∨ B1 = []) := .inr (List.eq_nil_of_length_eq_zero (by omega))
            have R2 : Hid (ERow wr g c ((P ++ (A1 ++ B1)) ++ (A2 ++ (B2 ++ S)))) := by show ERow _ _ _ _; have := R1.out; simpa using this
            have t1s : Hid (Srt le (A1 ++ B1)) := by
              show Srt _ _
              rcases hz2.out with e | e
              · rw [e]; exact sAB.out.2.2.1
              · rw [e, List.append_nil]; exact sAB.out.1
            have t1e : Hid (Eqf le (A1 ++ B1) (A1 ++ B1)) := Eqf.refl _
            have t1l : Hid ((A1 ++ B1).length = A1.length + B1.length) := by show _ = _; simp
            have c5 : (mid : Int) < (en : Int) := by omega
            by_cases hT : en < b
            · have c6 : (en : Int) < (b : Int) := by omega
              have H3 := hid (IH g n c mid en b (P ++ (A1 ++ B1)) A2 B2 S wr R2.out (by have := t1l.out; rw [List.length_append]; omega) (by omega) (by omega) (by omega) (by omega) (by omega) (by have := hmd.out; omega) sAB.out.2.1 sAB.out.2.2.2)
              unfold Sym at H3
              go_wp2_with fail
              refine H3.out.mono ?_
              rintro e w9 ⟨rfl, M2, R3, s2, e2, F3⟩
              have F4 : Hid (Fp (· = g) w w9) := HF0.out.tr (F3.wide (fun j _ h => .inl h))
              replace R3 := hid R3
              replace s2 := hid s2
              replace e2 := hid e2
              clear F3 H3
              go_wp2_with fail
              refine bodyPost_end (results_none rfl _ _ _) rfl ?_
              have hz := he0.out (A1 ++ B1) M2 t1s.out t1e.out s2.out e2.out
              exact ⟨rfl, (A1 ++ B1) ++ M2, by have := R3.out; simpa using this, hz.1, hz.2, F4.out⟩
            · have c6 : ¬ (en : Int) < (b : Int) := by omega
              have hz3 : Hid (A2 = [] ∨ B2 = []) := .inr (List.eq_nil_of_length_eq_zero (by omega))
              go_wp2_with fail
              refine bodyPost_end (results_none rfl _ _ _) rfl ?_
              have s2 : Srt le (A2 ++ B2) := by
                rcases hz3.out with e | e
                · rw [e]; exact sAB.out.2.2.2
                · rw [e, List.append_nil]; exact sAB.out.2.1
              have hz := he0.out (A1 ++ B1) (A2 ++ B2) t1s.out t1e.out s2 (Eqf.refl _)
              exact ⟨rfl, (A1 ++ B1) ++ (A2 ++ B2), by have := R2.out; simpa using this, hz.1, hz.2, HF0.out⟩
          · have c3 : ¬ (a : Int) < (i : Int) := by omega
            have hz2 : Hid (A1 = [] ∨ B1 = []) := .inl (List.eq_nil_of_length_eq_zero (by omega))
            have R2 : Hid (ERow wr g c ((P ++ (A1 ++ B1)) ++ (A2 ++ (B2 ++ S)))) := by show ERow _ _ _ _; have := R1.out; simpa using this
            have t1s : Hid (Srt le (A1 ++ B1)) := by
              show Srt _ _
              rcases hz2.out with e | e
              · rw [e]; exact sAB.out.2.2.1
              · rw [e, List.append_nil]; exact sAB.out.1
            have t1e : Hid (Eqf le (A1 ++ B1) (A1 ++ B1)) := Eqf.refl _
            have t1l : Hid ((A1 ++ B1).length = A1.length + B1.length) := by show _ = _; simp
            have c5 : (mid : Int) < (en : Int) := by omega
            by_cases hT : en < b
            · have c6 : (en : Int) < (b : Int) := by omega
              have H3 := hid (IH g n c mid en b (P ++ (A1 ++ B1)) A2 B2 S wr R2.out (by have := t1l.out; rw [List.length_append]; omega) (by omega) (by omega) (by omega) (by omega) (by omega) (by have := hmd.out; omega) sAB.out.2.1 sAB.out.2.2.2)
              unfold Sym at H3
              go_wp2_with fail
              refine H3.out.mono ?_
              rintro e w9 ⟨rfl, M2, R3, s2, e2, F3⟩
              have F4 : Hid (Fp (· = g) w w9) := HF0.out.tr (F3.wide (fun j _ h => .inl h))
              replace R3 := hid R3
              replace s2 := hid s2
              replace e2 := hid e2
              clear F3 H3
              go_wp2_with fail
              refine bodyPost_end (results_none rfl _ _ _) rfl ?_
              have hz := he0.out (A1 ++ B1) M2 t1s.out t1e.out s2.out e2.out
              exact ⟨rfl, (A1 ++ B1) ++ M2, by have := R3.out; simpa using this, hz.1, hz.2, F4.out⟩
            · have c6 : ¬ (en : Int) < (b : Int) := by omega
              have hz3 : Hid (A2 = [] ∨ B2 = []) := .inr (List.eq_nil_of_length_eq_zero (by omega))
              go_wp2_with fail
              refine bodyPost_end (results_none rfl _ _ _) rfl ?_
              have s2 : Srt le (A2 ++ B2) := by
                rcases hz3.out with e | e
                · rw [e]; exact sAB.out.2.2.2
                · rw [e, List.append_nil]; exact sAB.out.2.1
              have hz := he0.out (A1 ++ B1) (A2 ++ B2) t1s.out t1e.out s2 (Eqf.refl _)
              exact ⟨rfl, (A1 ++ B1) ++ (A2 ++ B2), by have := R2.out; simpa using this, hz.1, hz.2, HF0.out⟩
      · exfalso; omega
set_option maxHeartbeats 2000000 in
set_option maxRecDepth 100000 in
theorem sym_moreb (g n c a m b mid : Nat) (P A B S : List E) (w : World) (H : ERow w g c (P ++ (A ++ (B ++ S)))) (ha : P.length = a) (hm : a + A.length = m) (hb : m + B.length = b) (hA : 2 ≤ A.length) (hB : 2 ≤ B.length) (hn : b + S.length = n) (hbig : n ≤ 140737488355328) (sA : Srt le A) (sB : Srt le B) (hmid : mid = (a + b) / 2) (hmm : ¬ mid < m)
    (IH : ∀ (g n c : Nat) (a' m' b' : Nat) (P A B S : List E) (w : World), ERow w g c (P ++ (A ++ (B ++ S))) → P.length = a' → a' + A.length = m' → m' + B.length = b' → 0 < A.length → 0 < B.length → b' + S.length = n → (b' - a' < b - a ∧ n ≤ 140737488355328) → Srt le A → Srt le B → Sym g n c a' m' b' P A B S w) : Sym g n c a m b P A B S w := by
  have hcap : n ≤ c := by have := H.le; simp at this; omega
  obtain ⟨s, hs1, hs2, f1, f2, A1, A2, B1, B2, hAA, hBB, hA1, hB1, k1, k2⟩ := sym_cut le_tot le_trn ze P A B S a m b mid a m ha hm hb sA sB hmid hA hB (.inr ⟨by omega, rfl, rfl⟩)
  obtain ⟨s0, hs0⟩ : ∃ s, s = a := ⟨_, rfl⟩
  obtain ⟨r0, hr0⟩ : ∃ s, s = m := ⟨_, rfl⟩
  rw [← hs0] at hs1 f1
  rw [← hr0] at hs2 f2
  obtain ⟨ys, hys0⟩ : ∃ ys, ys = P ++ (A ++ (B ++ S)) := ⟨_, rfl⟩
  rw [← hys0] at H f1 f2
  have hyl : Hid (ys.length = n) := by show _ = _; rw [hys0]; simp; omega
  have HY := hid H
  obtain ⟨nn, hnn⟩ : ∃ q, q = mid + m := ⟨_, rfl⟩
  obtain ⟨pp, hpp⟩ : ∃ q, q = mid + m - 1 := ⟨_, rfl⟩
  have hmn : a < n ∧ m < b ∧ b ≤ n ∧ a + 1 < m ∧ a < mid ∧ mid < b ∧ 1 ≤ m := by omega
  obtain ⟨hmn1, hmn2, hmn3, hmn4, hmn5, hmn6, hmn7⟩ := hmn
  have hrange : s0 ≤ r0 ∧ r0 ≤ m ∧ r0 ≤ mid ∧ a ≤ s0 := by omega
  obtain ⟨hr1, hr2, hr3, hr4⟩ := hrange
  have hrr : Hid (∀ h, s0 ≤ h → h < r0 → m ≤ mid + m - 1 - h ∧ mid + m - 1 - h < b) := by intro h h1 h2; omega
  have e1 : IntKind.i64.wrap ((m : Int) - (a : Int)) = ((m - a : Nat) : Int) := by rw [IntKind.wrap_i64]; omega
  obtain ⟨d, hd⟩ : ∃ d, d = m - a := ⟨_, rfl⟩
  rw [← hd] at e1
  have e2 : ((d : Int) == 1) = false := by rw [beq_eq_false_iff_ne]; omega
  have e3 : IntKind.i64.wrap ((b : Int) - (m : Int)) = ((b - m : Nat) : Int) := by rw [IntKind.wrap_i64]; omega
  obtain ⟨d2, hd2⟩ : ∃ d, d = b - m := ⟨_, rfl⟩
  rw [← hd2] at e3
  have e4 : ((d2 : Int) == 1) = false := by rw [beq_eq_false_iff_ne]; omega
  have hh1 : IntKind.i64.wrap ((a : Int) + (b : Int)) = (a : Int) + (b : Int) := by rw [IntKind.wrap_i64]; omega
  have hh2 : IntKind.u64.wrap ((a : Int) + (b : Int)) = (a : Int) + (b : Int) := by rw [IntKind.wrap_u64]; omega
  have hh3 : ((a : Int) + (b : Int)) / 2 = (mid : Int) := by omega
  have hh4 : IntKind.i64.wrap (mid : Int) = (mid : Int) := by rw [IntKind.wrap_i64]; omega
  have e5 : IntKind.i64.wrap ((mid : Int) + (m : Int)) = (nn : Int) := by rw [IntKind.wrap_i64]; omega
  have e6 : IntKind.i64.wrap ((nn : Int) - 1) = (pp : Int) := by rw [IntKind.wrap_i64]; omega
  have e7 : IntKind.i64.wrap ((nn : Int) - (b : Int)) = ((nn - b : Nat) : Int) ∨ True := by exact .inr trivial
  have e8 : ¬ (mid : Int) < (m : Int) := by omega
  clear e7
  have hmd := hid hmid
  have hf1 := hid f1
  have hf2 := hid f2
  have hk1 := hid k1
  have hk2 := hid k2
  replace hAA := hid hAA
  replace hBB := hid hBB
  replace hA1 := hid hA1
  replace hB1 := hid hB1
  replace hys0 := hid hys0
  replace hd := hid hd
  replace hd2 := hid hd2
  replace hnn := hid hnn
  replace hpp := hid hpp
  replace ha := hid ha
  replace hb := hid hb
  replace hm := hid hm
  replace hn := hid hn
  replace sA := hid sA
  replace sB := hid sB
  subst s0
  subst r0
  clear H f1 f2 k1 k2 hA hB hmid
  replace IH := hid IH
  unfold Sym
  go_enter Try.func82, Try.ntmps82
  go_wp2_with fail
  go_loopw [20, 21] (fun iv jv wr => ∃ i j : Nat, iv = .int .i64 (i : Int) ∧ jv = .int .i64 (j : Int) ∧ a ≤ i ∧ i ≤ s ∧ s ≤ j ∧ j ≤ m ∧ Hid (Below w.heap.size w wr)) (fun iv jv _ => (intOf jv - intOf iv).toNat)
  case atStart => exact ⟨a, m, by first | rfl | go_num, by first | rfl | go_num, Nat.le_refl _, hs1, hs2, Nat.le_refl _, Below.refl _ _⟩
  case round =>
    obtain ⟨i, j, rfl, rfl, hi0, hi, hj, hjn, HB⟩ := hrel
    by_cases hij : i < j
    · have hij' : (i : Int) < (j : Int) := by omega
      obtain ⟨h, hh⟩ : ∃ h, h = (i + j) / 2 := ⟨_, rfl⟩
      have hh1 : IntKind.i64.wrap ((i : Int) + (j : Int)) = (i : Int) + (j : Int) := by rw [IntKind.wrap_i64]; omega
      have hh2 : IntKind.u64.wrap ((i : Int) + (j : Int)) = (i : Int) + (j : Int) := by rw [IntKind.wrap_u64]; omega
      have hh3 : ((i : Int) + (j : Int)) / 2 = (h : Int) := by omega
      have hh4 : IntKind.i64.wrap (h : Int) = (h : Int) := by rw [IntKind.wrap_i64]; omega
      have hhi : i ≤ h ∧ h < j := by omega
      have hlo : a ≤ h := by omega
      have hhi2 : h < m := by omega
      have hpq := hrr.out h hlo hhi2
      have gp : IntKind.i64.wrap ((pp : Int) - (h : Int)) = ((mid + m - 1 - h : Nat) : Int) := by rw [IntKind.wrap_i64]; have := hpp.out; omega
      obtain ⟨q1, hq1⟩ : ∃ q, q = mid + m - 1 - h := ⟨_, rfl⟩
      obtain ⟨q2, hq2⟩ : ∃ q, q = h := ⟨_, rfl⟩
      rw [← hq1] at gp
      have i1 : (q1 : Int) < (n : Int) := by omega
      have i2 : (q2 : Int) < (n : Int) := by omega
      have o1 : (0 : Int) ≤ (q1 : Int) := by omega
      have o2 : (0 : Int) ≤ (q2 : Int) := by omega
      have A0 := HY.out.later HB.out
      have x1 := A0.cell q1 (by rw [hyl.out]; omega)
      have y1 := A0.cell q2 (by rw [hyl.out]; omega)
      clear A0
      obtain ⟨x, hx⟩ : ∃ x, x = ys.getD q1 ze := ⟨_, rfl⟩
      obtain ⟨y, hy⟩ : ∃ y, y = ys.getD q2 ze := ⟨_, rfl⟩
      rw [← hx] at x1
      rw [← hy] at y1
      have HC : Hid (∀ W, Calls Try.prog 55 #[.agg #[.string x.k, .int .u64 x.s, .int .i64 x.c, .string x.v], .agg #[.string y.k, .int .u64 y.s, .int .i64 y.c, .string y.v]] W fun e w' => e = .returned (.int .i64 (cmp x.ik y.ik)) ∧ Below W.heap.size W w') := fun W => cmp_any x y W
      have hside : (cmp x.ik y.ik < 0 ∧ s ≤ h) ∨ (¬ cmp x.ik y.ik < 0 ∧ h < s) := by
        have hxx : x = ys.getD (mid + m - 1 - h) ze := by rw [hx, hq1]
        have hyy : y = ys.getD h ze := by rw [hy, hq2]
        by_cases hhm : h < s
        · refine .inr ⟨le_ge.1 ?_, hhm⟩
          rw [hxx, hyy]; exact hf1.out h hlo hhm
        · refine .inl ⟨le_lt.1 ?_, by omega⟩
          rw [hxx, hyy]; exact hf2.out h (by omega) hhi2
      obtain ⟨x10, x11, x12, x13⟩ := x1
      obtain ⟨y10, y11, y12, y13⟩ := y1
      clear hx hy hpq
      generalize cmp x.ik y.ik = C at *
      have x20 := cell_regrown x10
      have x21 := cell_regrown x11
      have x22 := cell_regrown x12
      have x23 := cell_regrown x13
      have y20 := cell_regrown y10
      have y21 := cell_regrown y11
      have y22 := cell_regrown y12
      have y23 := cell_regrown y13
      clear x10 x11 x12 x13 y10 y11 y12 y13
      generalize hxk : x.k = xk at HC x20
      generalize hxs : x.s = xs at HC x21
      generalize hxc : x.c = xc at HC x22
      generalize hxv : x.v = xv at HC x23
      generalize hyk : y.k = yk at HC y20
      generalize hysq : y.s = ysq at HC y21
      generalize hyc : y.c = yc at HC y22
      generalize hyv : y.v = yv at HC y23
      clear hxk hxs hxc hxv hyk hysq hyc hyv
      replace hh := hid hh
      clear hij
      replace hq1 := hid hq1
      subst q2
      rcases hside with ⟨hC, hs⟩ | ⟨hC, hs⟩
      · go_wp2_with fail
        refine wp_region_quiet_below (by kernel_rfl) (by kernel_rfl) ?_
        repeat (first | go_big_quiet_step (first | (go_at_call 55; exact Calls.regrown_of (HC.out _))) | quiet_step (first | (go_at_call 55; exact Calls.regrown_of (HC.out _))))
        refine wpQuiet_nil ?_
        intro w3 hw3
        have b3 : Below wr.heap.size wr w3 := by
          obtain ⟨⟨dq, osq⟩, hw''⟩ := hw3
          rw [hw'']
          exact below_regrown _ dq osq
        have HB3 := hid (HB.out.trans (b3.mono HB.out.size))
        clear hw3 b3 x20 x21 x22 x23 y20 y21 y22 y23 HC
        have h5 : IntKind.i64.wrap ((h : Int) + 1) = ((h + 1 : Nat) : Int) := by rw [IntKind.wrap_i64]; omega
        go_wp2_with fail
        go_roundw
        case rel => exact ⟨i, h, rfl, by first | rfl | go_num, hi0, hi, by omega, by have := hh.out; omega, HB3⟩
        case measure => (simp [intOf]; have := hh.out; omega)
      · go_wp2_with fail
        refine wp_region_quiet_below (by kernel_rfl) (by kernel_rfl) ?_
        repeat (first | go_big_quiet_step (first | (go_at_call 55; exact Calls.regrown_of (HC.out _))) | quiet_step (first | (go_at_call 55; exact Calls.regrown_of (HC.out _))))
        refine wpQuiet_nil ?_
        intro w3 hw3
        have b3 : Below wr.heap.size wr w3 := by
          obtain ⟨⟨dq, osq⟩, hw''⟩ := hw3
          rw [hw'']
          exact below_regrown _ dq osq
        have HB3 := hid (HB.out.trans (b3.mono HB.out.size))
        clear hw3 b3 x20 x21 x22 x23 y20 y21 y22 y23 HC
        have h5 : IntKind.i64.wrap ((h : Int) + 1) = ((h + 1 : Nat) : Int) := by rw [IntKind.wrap_i64]; omega
        go_wp2_with fail
        all_goals first | (exfalso; rename_i hbad; have hbad2 := hbad; simp at hbad2; omega) | skip
        go_roundw
        case rel => exact ⟨h + 1, j, by first | rfl | go_num, rfl, by omega, by omega, hj, hjn, HB3⟩
        case measure => (simp [intOf]; have := hh.out; omega)
    · have hie : i = s := by omega
      have hje : i = j := by omega
      subst hie
      subst hje
      have hij' : ¬ (i : Int) < (i : Int) := by omega
      obtain ⟨en, hen⟩ : ∃ e, e = mid + m - i := ⟨_, rfl⟩
      have ge : IntKind.i64.wrap ((nn : Int) - (i : Int)) = (en : Int) := by rw [IntKind.wrap_i64]; have := hnn.out; omega
      have HR0 := hid (HY.out.later HB.out)
      have HF0 : Hid (Fp (· = g) w wr) := Fp.of HB.out
      clear HY HB
      have lens : P.length = a ∧ a + A1.length = i ∧ i + A2.length = m ∧ m + B1.length = en ∧ en + B2.length = b ∧ i + B1.length = mid := by
        have h1 := hm.out; have h2 := hb.out; have h3 := hA1.out; have h4 := hB1.out
        rw [hAA.out] at h1
        rw [hBB.out] at h2
        simp at h1 h2
        have h5 := ha.out
        refine ⟨h5, h3, ?_, ?_, ?_, h4⟩ <;> omega
      obtain ⟨l1, l2, l3, l4, l5, l6⟩ := lens
      have hbn : b + S.length = n := hn.out
      have R0 : Hid (ERow wr g c ((P ++ A1) ++ (A2 ++ (B1 ++ (B2 ++ S))))) := by
        show ERow _ _ _ _
        have h1 := HR0.out
        rw [hys0.out, hAA.out, hBB.out] at h1
        simpa using h1
      have sAB : Hid (Srt le A1 ∧ Srt le A2 ∧ Srt le B1 ∧ Srt le B2) := by
        have h1 := sA.out; have h2 := sB.out
        rw [hAA.out] at h1
        rw [hBB.out] at h2
        exact ⟨h1.left, h1.right, h2.left, h2.right⟩
      have he0 : Hid (∀ M1 M2, Srt le M1 → Eqf le M1 (A1 ++ B1) → Srt le M2 → Eqf le M2 (A2 ++ B2) → Srt le (M1 ++ M2) ∧ Eqf le (M1 ++ M2) (A ++ B)) := by
        intro M1 M2 t1 t2 t3 t4
        have := sym_done le_tot le_trn hk1.out hk2.out t1 t2 t3 t4
        rw [hAA.out, hBB.out]; exact this
      clear HR0 hys0 hAA hBB hk1 hk2 hf1 hf2 hyl sA sB hA1 hB1 ha hm hb hen
      by_cases hX1 : i < m
      · have c1 : (i : Int) < (m : Int) := by omega
        by_cases hY1 : m < en
        · have c2 : (m : Int) < (en : Int) := by omega
          have H1 := hid (rotate_any g n c i m en (P ++ A1) A2 B1 (B2 ++ S) wr R0.out (by rw [List.length_append]; omega) (by omega) (by omega) (by omega) (by omega) (by simp; omega) hbig)
          unfold cf at H1
          go_wp2_with fail
          refine H1.out.mono ?_
          rintro e w7 ⟨rfl, R1', F1'⟩
          have F1 : Hid (Fp (· = g) w w7) := HF0.out.tr (F1'.wide (fun j _ h => .inl h))
          have R1 : Hid (ERow w7 g c (P ++ (A1 ++ (B1 ++ (A2 ++ (B2 ++ S)))))) := by show ERow _ _ _ _; simpa using R1'
          clear R1' F1' H1 R0
          by_cases hZ : a < i
          · have c3 : (a : Int) < (i : Int) := by omega
            have c4 : (i : Int) < (mid : Int) := by omega
            have H2 := hid (IH g n c a i mid P A1 B1 (A2 ++ (B2 ++ S)) w7 R1.out (by omega) (by omega) (by omega) (by omega) (by omega) (by simp; omega) (by have := hmd.out; omega) sAB.out.1 sAB.out.2.2.1)
            unfold Sym at H2
            go_wp2_with fail
            refine H2.out.mono ?_
            rintro e w8 ⟨rfl, M1, R2', s1, e1, F2'⟩
            have F2 : Hid (Fp (· = g) w w8) := F1.out.tr (F2'.wide (fun j _ h => .inl h))
            have R2 : Hid (ERow w8 g c ((P ++ M1) ++ (A2 ++ (B2 ++ S)))) := by show ERow _ _ _ _; simpa using R2'
            have t1s := hid s1
            have t1e := hid e1
            have t1l : Hid (M1.length = A1.length + B1.length) := by show _ = _; have := e1.1; simpa using this
            clear R2' F2' s1 e1 H2
            have c5 : (mid : Int) < (en : Int) := by omega
            by_cases hT : en < b
            · have c6 : (en : Int) < (b : Int) := by omega
              have H3 := hid (IH g n c mid en b (P ++ M1) A2 B2 S w8 R2.out (by have := t1l.out; rw [List.length_append]; omega) (by omega) (by omega) (by omega) (by omega) (by omega) (by have := hmd.out; omega) sAB.out.2.1 sAB.out.2.2.2)
              unfold Sym at H3
              go_wp2_with fail
              refine H3.out.mono ?_
              rintro e w9 ⟨rfl, M2, R3, s2, e2, F3⟩
              have F4 : Hid (Fp (· = g) w w9) := F2.out.tr (F3.wide (fun j _ h => .inl h))
              replace R3 := hid R3
              replace s2 := hid s2
              replace e2 := hid e2
              clear F3 H3
              go_wp2_with fail
              refine bodyPost_end (results_none rfl _ _ _) rfl ?_
              have hz := he0.out M1 M2 t1s.out t1e.out s2.out e2.out
              exact ⟨rfl, M1 ++ M2, by have := R3.out; simpa using this, hz.1, hz.2, F4.out⟩
            · have c6 : ¬ (en : Int) < (b : Int) := by omega
              have hz3 : Hid (A2 = [] ∨ B2 = []) := .inr (List.eq_nil_of_length_eq_zero (by omega))
              go_wp2_with fail
              refine bodyPost_end (results_none rfl _ _ _) rfl ?_
              have s2 : Srt le (A2 ++ B2) := by
                rcases hz3.out with e | e
                · rw [e]; exact sAB.out.2.2.2
                · rw [e, List.append_nil]; exact sAB.out.2.1
              have hz := he0.out M1 (A2 ++ B2) t1s.out t1e.out s2 (Eqf.refl _)
              exact ⟨rfl, M1 ++ (A2 ++ B2), by have := R2.out; simpa using this, hz.1, hz.2, F2.out⟩
          · have c3 : ¬ (a : Int) < (i : Int) := by omega
            have hz2 : Hid (A1 = [] ∨ B1 = []) := .inl (List.eq_nil_of_length_eq_zero (by omega))
            have R2 : Hid (ERow w7 g c ((P ++ (A1 ++ B1)) ++ (A2 ++ (B2 ++ S)))) := by show ERow _ _ _ _; have := R1.out; simpa using this
            have t1s : Hid (Srt le (A1 ++ B1)) := by
              show Srt _ _
              rcases hz2.out with e | e
              · rw [e]; exact sAB.out.2.2.1
              · rw [e, List.append_nil]; exact sAB.out.1
            have t1e : Hid (Eqf le (A1 ++ B1) (A1 ++ B1)) := Eqf.refl _
            have t1l : Hid ((A1 ++ B1).length = A1.length + B1.length) := by show _ = _; simp
            have c5 : (mid : Int) < (en : Int) := by omega
            by_cases hT : en < b
            · have c6 : (en : Int) < (b : Int) := by omega
              have H3 := hid (IH g n c mid en b (P ++ (A1 ++ B1)) A2 B2 S w7 R2.out (by have := t1l.out; rw [List.length_append]; omega) (by omega) (by omega) (by omega) (by omega) (by omega) (by have := hmd.out; omega) sAB.out.2.1 sAB.out.2.2.2)
              unfold Sym at H3
              go_wp2_with fail
              refine H3.out.mono ?_
              rintro e w9 ⟨rfl, M2, R3, s2, e2, F3⟩
              have F4 : Hid (Fp (· = g) w w9) := F1.out.tr (F3.wide (fun j _ h => .inl h))
              replace R3 := hid R3
              replace s2 := hid s2
              replace e2 := hid e2
              clear F3 H3
              go_wp2_with fail
              refine bodyPost_end (results_none rfl _ _ _) rfl ?_
              have hz := he0.out (A1 ++ B1) M2 t1s.out t1e.out s2.out e2.out
              exact ⟨rfl, (A1 ++ B1) ++ M2, by have := R3.out; simpa using this, hz.1, hz.2, F4.out⟩
            · have c6 : ¬ (en : Int) < (b : Int) := by omega
              have hz3 : Hid (A2 = [] ∨ B2 = []) := .inr (List.eq_nil_of_length_eq_zero (by omega))
              go_wp2_with fail
              refine bodyPost_end (results_none rfl _ _ _) rfl ?_
              have s2 : Srt le (A2 ++ B2) := by
                rcases hz3.out with e | e
                · rw [e]; exact sAB.out.2.2.2
                · rw [e, List.append_nil]; exact sAB.out.2.1
              have hz := he0.out (A1 ++ B1) (A2 ++ B2) t1s.out t1e.out s2 (Eqf.refl _)
              exact ⟨rfl, (A1 ++ B1) ++ (A2 ++ B2), by have := R2.out; simpa using this, hz.1, hz.2, F1.out⟩
        · have c2 : ¬ (m : Int) < (en : Int) := by omega
          have hz1 : Hid (A2 = [] ∨ B1 = []) := .inr (List.eq_nil_of_length_eq_zero (by omega))
          have R1 : Hid (ERow wr g c (P ++ (A1 ++ (B1 ++ (A2 ++ (B2 ++ S)))))) := by
            show ERow _ _ _ _
            have h1 := R0.out
            rcases hz1.out with e | e <;> rw [e] at h1 ⊢ <;> simpa using h1
          clear R0
          by_cases hZ : a < i
          · have c3 : (a : Int) < (i : Int) := by omega
            have c4 : ¬ (i : Int) < (mid : Int) := by omega
            have hz2 : Hid (A1 = [] ∨ B1 = []) := .inr (List.eq_nil_of_length_eq_zero (by omega))
            have R2 : Hid (ERow wr g c ((P ++ (A1 ++ B1)) ++ (A2 ++ (B2 ++ S)))) := by show ERow _ _ _ _; have := R1.out; simpa using this
            have t1s : Hid (Srt le (A1 ++ B1)) := by
              show Srt _ _
              rcases hz2.out with e | e
              · rw [e]; exact sAB.out.2.2.1
              · rw [e, List.append_nil]; exact sAB.out.1
            have t1e : Hid (Eqf le (A1 ++ B1) (A1 ++ B1)) := Eqf.refl _
            have t1l : Hid ((A1 ++ B1).length = A1.length + B1.length) := by show _ = _; simp
            have c5 : (mid : Int) < (en : Int) := by omega
            by_cases hT : en < b
            · have c6 : (en : Int) < (b : Int) := by omega
              have H3 := hid (IH g n c mid en b (P ++ (A1 ++ B1)) A2 B2 S wr R2.out (by have := t1l.out; rw [List.length_append]; omega) (by omega) (by omega) (by omega) (by omega) (by omega) (by have := hmd.out; omega) sAB.out.2.1 sAB.out.2.2.2)
              unfold Sym at H3
              go_wp2_with fail
              refine H3.out.mono ?_
              rintro e w9 ⟨rfl, M2, R3, s2, e2, F3⟩
              have F4 : Hid (Fp (· = g) w w9) := HF0.out.tr (F3.wide (fun j _ h => .inl h))
              replace R3 := hid R3
              replace s2 := hid s2
              replace e2 := hid e2
              clear F3 H3
              go_wp2_with fail
              refine bodyPost_end (results_none rfl _ _ _) rfl ?_
              have hz := he0.out (A1 ++ B1) M2 t1s.out t1e.out s2.out e2.out
              exact ⟨rfl, (A1 ++ B1) ++ M2, by have := R3.out; simpa using this, hz.1, hz.2, F4.out⟩
            · have c6 : ¬ (en : Int) < (b : Int) := by omega
              have hz3 : Hid (A2 = [] ∨ B2 = []) := .inr (List.eq_nil_of_length_eq_zero (by omega))
              go_wp2_with fail
              refine bodyPost_end (results_none rfl _ _ _) rfl ?_
              have s2 : Srt le (A2 ++ B2) := by
                rcases hz3.out with e | e
                · rw [e]; exact sAB.out.2.2.2
                · rw [e, List.append_nil]; exact sAB.out.2.1
              have hz := he0.out (A1 ++ B1) (A2 ++ B2) t1s.out t1e.out s2 (Eqf.refl _)
              exact ⟨rfl, (A1 ++ B1) ++ (A2 ++ B2), by have := R2.out; simpa using this, hz.1, hz.2, HF0.out⟩
          · have c3 : ¬ (a : Int) < (i : Int) := by omega
            have hz2 : Hid (A1 = [] ∨ B1 = []) := .inl (List.eq_nil_of_length_eq_zero (by omega))
            have R2 : Hid (ERow wr g c ((P ++ (A1 ++ B1)) ++ (A2 ++ (B2 ++ S)))) := by show ERow _ _ _ _; have := R1.out; simpa using this
            have t1s : Hid (Srt le (A1 ++ B1)) := by
              show Srt _ _
              rcases hz2.out with e | e
              · rw [e]; exact sAB.out.2.2.1
              · rw [e, List.append_nil]; exact sAB.out.1
            have t1e : Hid (Eqf le (A1 ++ B1) (A1 ++ B1)) := Eqf.refl _
            have t1l : Hid ((A1 ++ B1).length = A1.length + B1.length) := by show _ = _; simp
            have c5 : (mid : Int) < (en : Int) := by omega
            by_cases hT : en < b
            · have c6 : (en : Int) < (b : Int) := by omega
              have H3 := hid (IH g n c mid en b (P ++ (A1 ++ B1)) A2 B2 S wr R2.out (by have := t1l.out; rw [List.length_append]; omega) (by omega) (by omega) (by omega) (by omega) (by omega) (by have := hmd.out; omega) sAB.out.2.1 sAB.out.2.2.2)
              unfold Sym at H3
              go_wp2_with fail
              refine H3.out.mono ?_
              rintro e w9 ⟨rfl, M2, R3, s2, e2, F3⟩
              have F4 : Hid (Fp (· = g) w w9) := HF0.out.tr (F3.wide (fun j _ h => .inl h))
              replace R3 := hid R3
              replace s2 := hid s2
              replace e2 := hid e2
              clear F3 H3
              go_wp2_with fail
              refine bodyPost_end (results_none rfl _ _ _) rfl ?_
              have hz := he0.out (A1 ++ B1) M2 t1s.out t1e.out s2.out e2.out
              exact ⟨rfl, (A1 ++ B1) ++ M2, by have := R3.out; simpa using this, hz.1, hz.2, F4.out⟩
            · have c6 : ¬ (en : Int) < (b : Int) := by omega
              have hz3 : Hid (A2 = [] ∨ B2 = []) := .inr (List.eq_nil_of_length_eq_zero (by omega))
              go_wp2_with fail
              refine bodyPost_end (results_none rfl _ _ _) rfl ?_
              have s2 : Srt le (A2 ++ B2) := by
                rcases hz3.out with e | e
                · rw [e]; exact sAB.out.2.2.2
                · rw [e, List.append_nil]; exact sAB.out.2.1
              have hz := he0.out (A1 ++ B1) (A2 ++ B2) t1s.out t1e.out s2 (Eqf.refl _)
              exact ⟨rfl, (A1 ++ B1) ++ (A2 ++ B2), by have := R2.out; simpa using this, hz.1, hz.2, HF0.out⟩
      · have c1 : ¬ (i : Int) < (m : Int) := by omega
        have hz1 : Hid (A2 = [] ∨ B1 = []) := .inl (List.eq_nil_of_length_eq_zero (by omega))
        have R1 : Hid (ERow wr g c (P ++ (A1 ++ (B1 ++ (A2 ++ (B2 ++ S)))))) := by
          show ERow _ _ _ _
          have h1 := R0.out
          rcases hz1.out with e | e <;> rw [e] at h1 ⊢ <;> simpa using h1
        clear R0
        by_cases hZ : a < i
        · have c3 : (a : Int) < (i : Int) := by omega
          by_cases hY : i < mid
          · have c4 : (i : Int) < (mid : Int) := by omega
            have H2 := hid (IH g n c a i mid P A1 B1 (A2 ++ (B2 ++ S)) wr R1.out (by omega) (by omega) (by omega) (by omega) (by omega) (by simp; omega) (by have := hmd.out; omega) sAB.out.1 sAB.out.2.2.1)
            unfold Sym at H2
            go_wp2_with fail
            refine H2.out.mono ?_
            rintro e w8 ⟨rfl, M1, R2', s1, e1, F2'⟩
            have F2 : Hid (Fp (· = g) w w8) := HF0.out.tr (F2'.wide (fun j _ h => .inl h))
            have R2 : Hid (ERow w8 g c ((P ++ M1) ++ (A2 ++ (B2 ++ S)))) := by show ERow _ _ _ _; simpa using R2'
            have t1s := hid s1
            have t1e := hid e1
            have t1l : Hid (M1.length = A1.length + B1.length) := by show _ = _; have := e1.1; simpa using this
            clear R2' F2' s1 e1 H2
            have c5 : ¬ (mid : Int) < (en : Int) := by omega
            have hz3 : Hid (A2 = [] ∨ B2 = []) := .inl (List.eq_nil_of_length_eq_zero (by omega))
            go_wp2_with fail
            refine bodyPost_end (results_none rfl _ _ _) rfl ?_
            have s2 : Srt le (A2 ++ B2) := by
              rcases hz3.out with e | e
              · rw [e]; exact sAB.out.2.2.2
              · rw [e, List.append_nil]; exact sAB.out.2.1
            have hz := he0.out M1 (A2 ++ B2) t1s.out t1e.out s2 (Eqf.refl _)
            exact ⟨rfl, M1 ++ (A2 ++ B2), by have := R2.out; simpa using this, hz.1, hz.2, F2.out⟩
          · have c4 : ¬ (i : Int) < (mid : Int) := by omega
            have hz2 : Hid (A1 = [] ∨ B1 = []) := .inr (List.eq_nil_of_length_eq_zero (by omega))
            have R2 : Hid (ERow wr g c ((P ++ (A1 ++ B1)) ++ (A2 ++ (B2 ++ S)))) := by show ERow _ _ _ _; have := R1.out; simpa using this
            have t1s : Hid (Srt le (A1 ++ B1)) := by
              show Srt _ _
              rcases hz2.out with e | e
              · rw [e]; exact sAB.out.2.2.1
              · rw [e, List.append_nil]; exact sAB.out.1
            have t1e : Hid (Eqf le (A1 ++ B1) (A1 ++ B1)) := Eqf.refl _
            have t1l : Hid ((A1 ++ B1).length = A1.length + B1.length) := by show _ = _; simp
            have c5 : ¬ (mid : Int) < (en : Int) := by omega
            have hz3 : Hid (A2 = [] ∨ B2 = []) := .inl (List.eq_nil_of_length_eq_zero (by omega))
            go_wp2_with fail
            refine bodyPost_end (results_none rfl _ _ _) rfl ?_
            have s2 : Srt le (A2 ++ B2) := by
              rcases hz3.out with e | e
              · rw [e]; exact sAB.out.2.2.2
              · rw [e, List.append_nil]; exact sAB.out.2.1
            have hz := he0.out (A1 ++ B1) (A2 ++ B2) t1s.out t1e.out s2 (Eqf.refl _)
            exact ⟨rfl, (A1 ++ B1) ++ (A2 ++ B2), by have := R2.out; simpa using this, hz.1, hz.2, HF0.out⟩
        · have c3 : ¬ (a : Int) < (i : Int) := by omega
          have hz2 : Hid (A1 = [] ∨ B1 = []) := .inl (List.eq_nil_of_length_eq_zero (by omega))
          have R2 : Hid (ERow wr g c ((P ++ (A1 ++ B1)) ++ (A2 ++ (B2 ++ S)))) := by show ERow _ _ _ _; have := R1.out; simpa using this
          have t1s : Hid (Srt le (A1 ++ B1)) := by
            show Srt _ _
            rcases hz2.out with e | e
            · rw [e]; exact sAB.out.2.2.1
            · rw [e, List.append_nil]; exact sAB.out.1
          have t1e : Hid (Eqf le (A1 ++ B1) (A1 ++ B1)) := Eqf.refl _
          have t1l : Hid ((A1 ++ B1).length = A1.length + B1.length) := by show _ = _; simp
          have c5 : ¬ (mid : Int) < (en : Int) := by omega
          have hz3 : Hid (A2 = [] ∨ B2 = []) := .inl (List.eq_nil_of_length_eq_zero (by omega))
          go_wp2_with fail
          refine bodyPost_end (results_none rfl _ _ _) rfl ?_
          have s2 : Srt le (A2 ++ B2) := by
            rcases hz3.out with e | e
            · rw [e]; exact sAB.out.2.2.2
            · rw [e, List.append_nil]; exact sAB.out.2.1
          have hz := he0.out (A1 ++ B1) (A2 ++ B2) t1s.out t1e.out s2 (Eqf.refl _)
          exact ⟨rfl, (A1 ++ B1) ++ (A2 ++ B2), by have := R2.out; simpa using this, hz.1, hz.2, HF0.out⟩
theorem sym_all_ : ∀ (d : Nat) (g n c : Nat) (a m b : Nat) (P A B S : List E) (w : World), ERow w g c (P ++ (A ++ (B ++ S))) → P.length = a → a + A.length = m → m + B.length = b → 0 < A.length → 0 < B.length → b + S.length = n → (b - a < d ∧ n ≤ 140737488355328) → Srt le A → Srt le B → Sym g n c a m b P A B S w := by
  intro d
  induction d with
  | zero => intro g n c a m b P A B S w _ _ _ _ _ _ _ h; omega
  | succ d ih =>
    intro g n c a m b P A B S w H ha hm hb hA hB hn hd sA sB
    by_cases h1 : A.length = 1
    · obtain ⟨x, A', e⟩ := cons_ex hA
      have e' : A' = [] := List.eq_nil_of_length_eq_zero (by rw [e] at h1; simpa using h1)
      subst e'
      subst e
      exact sym_one g n c a m b P x B S w H ha (by simp at hm; omega) hb hn hd.2 sB
    · by_cases h2 : B.length = 1
      · obtain ⟨y, B', e⟩ := cons_ex hB
        have e' : B' = [] := List.eq_nil_of_length_eq_zero (by rw [e] at h2; simpa using h2)
        subst e'
        subst e
        exact sym_last g n c a m b P A y S w H ha hm (by simp at hb; omega) (by omega) hn hd.2 sA
      · by_cases h3 : (a + b) / 2 < m
        · exact sym_morea g n c a m b _ P A B S w H ha hm hb (by omega) (by omega) hn hd.2 sA sB rfl h3 (fun g n c a' m' b' P A B S w k1 k2 k3 k4 k5 k6 k7 k8 k9 k10 => ih g n c a' m' b' P A B S w k1 k2 k3 k4 k5 k6 k7 ⟨by omega, k8.2⟩ k9 k10)
        · exact sym_moreb g n c a m b _ P A B S w H ha hm hb (by omega) (by omega) hn hd.2 sA sB rfl h3 (fun g n c a' m' b' P A B S w k1 k2 k3 k4 k5 k6 k7 k8 k9 k10 => ih g n c a' m' b' P A B S w k1 k2 k3 k4 k5 k6 k7 ⟨by omega, k8.2⟩ k9 k10)
theorem symmerge_any (g n c a m b : Nat) (P A B S : List E) (w : World) (H : ERow w g c (P ++ (A ++ (B ++ S)))) (ha : P.length = a) (hm : a + A.length = m) (hb : m + B.length = b) (hA : 0 < A.length) (hB : 0 < B.length) (hn : b + S.length = n) (hbig : n ≤ 140737488355328) (sA : Srt le A) (sB : Srt le B) :
    Calls Try.prog 82 #[.slice (some ⟨g, 0, none⟩) n c, .int .i64 a, .int .i64 m, .int .i64 b, cf] w fun e w' => e = .returned (.tuple #[]) ∧ ∃ M, ERow w' g c (P ++ (M ++ S)) ∧ Srt le M ∧ Eqf le M (A ++ B) ∧ Fp (· = g) w w' :=
  sym_all_ (b - a + 1) g n c a m b P A B S w H ha hm hb hA hB hn ⟨by omega, hbig⟩ sA sB
end Go.Proofs.Ytgjodfaliajlgaa.Sz

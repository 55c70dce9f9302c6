/- VersionCuts walked. -/
import Derived.Test.YtkpihibeohjfnabLc
namespace Go.Proofs.Ytkpihibeohjfnab.Ld
open Go.ChangeShapes Go.WideShapes Go.ChangeAt Go.RowKit
open Go.Proofs.Ytkpihibeohjfnab.Gr
open Go.Proofs.Ytkpihibeohjfnab.Ev
open Go.Proofs.Ytkpihibeohjfnab.Oe
open Go.Proofs.Ytkpihibeohjfnab.Lv
open Go.Proofs.Ytkpihibeohjfnab.Vp
open Go.Proofs.Ytkpihibeohjfnab.Vq
open Go.Proofs.Ytkpihibeohjfnab.Vr
open Go.Proofs.Ytkpihibeohjfnab.Vt
open Go.Proofs.Ytkpihibeohjfnab.Vu
open Go.Proofs.Ytkpihibeohjfnab.Vv
open Go.Proofs.Ytkpihibeohjfnab.Vw
open Go.Proofs.Ytkpihibeohjfnab.Vx
open Go.Proofs.Ytkpihibeohjfnab.On
open Go.Proofs.Ytkpihibeohjfnab.Fq
open Go.Proofs.Ytkpihibeohjfnab.Lc
open Go.Proofs.Ytkpihibeohjfnab.Lx (lt)
set_option linter.unusedVariables false
set_option linter.unusedSimpArgs false

theorem blk_later {W W' : World} {j : Nat} {o : Obj} (h : W.heap[j]? = some o) (b : Below W.heap.size W W') : W'.heap[j]? = some o := (b.block _ (blk_lt h)).trans h
theorem mem_take {f : Fi} {xs : List Fi} {j : Nat} (h : j < xs.length) : f ∈ xs.take (j + 1) ↔ f ∈ xs.take j ∨ xs.getD j zf = f := by
  rw [El.take_snoc (E := eFi) h, List.mem_append, List.mem_singleton]
  exact or_congr Iff.rfl eq_comm
set_option maxRecDepth 100000 in
set_option maxHeartbeats 1000000 in
theorem cuts_idle (a : Option Addr) (len cap : Nat) (L : List (List Fi)) (lv : Int) (p q k : ByteArray) (w : World) (H : Lvs w a len cap L) (hw : wL L ≤ 1048576) (hid' : lt p k = false ∨ (lt p k = true ∧ ¬ q.size = 0 ∧ lt k q = false)) :
    Calls Try.prog 3 #[.slice a len cap, .agg #[.int .i64 lv, .string p, .string q, .string k]] w fun e w' => e = .returned (.bool true) ∧ Below w.heap.size w w' := by
  have hll := wL_len L
  have hlen := H.len_eq
  have hcap := H.cap_le
  have hn8 : len ≤ 1048576 := by omega
  obtain ⟨g3, hg3⟩ : ∃ g, g = w.heap.size := ⟨_, rfl⟩
  obtain ⟨W0, hW0⟩ : ∃ W, W = w.alloc (.cells #[.int .i64 lv, .string p, .string q, .string k] 25) := ⟨_, rfl⟩
  have k0 : W0.heap[g3]? = some (.cells #[.int .i64 lv, .string p, .string q, .string k] 25) := by rw [hW0, hg3]; exact new_at _ _
  have b0 : Below w.heap.size w W0 := by rw [hW0]; exact box_below _ _
  have c1 := hid (one_any W0)
  have hq : Hid (∀ V, Below W0.heap.size W0 V → V.cell? ⟨g3, 0, none⟩ = some (.int .i64 lv) ∧ V.cell? ⟨g3, 1, none⟩ = some (.string p) ∧ V.cell? ⟨g3, 2, none⟩ = some (.string q) ∧ V.cell? ⟨g3, 3, none⟩ = some (.string k)) := fun V b => ⟨cell_of (blk_later k0 b) 0 _ rfl, cell_of (blk_later k0 b) 1 _ rfl, cell_of (blk_later k0 b) 2 _ rfl, cell_of (blk_later k0 b) 3 _ rfl⟩
  have ls := Lx.leq_s 9 k p
  change binOp .leq 9 (.string k) (.string p) = pure (.bool (!(lt p k))) at ls
  have gs := Lx.geq_s 9 k q
  change binOp .geq 9 (.string k) (.string q) = pure (.bool (!(lt k q))) at gs
  replace hW0 := hid hW0
  replace hg3 := hid hg3
  replace b0 := hid b0
  clear k0 H hll hlen
  rcases hid' with h | ⟨h1, h2, h3⟩
  · rw [h] at ls
    clear h
    go_enter Try.func3, Try.ntmps3
    go_wp2_with (first | (go_at_call 4; rw [← hW0.out, ← hg3.out]; refine c1.out.mono ?_; rintro e w1 ⟨rfl, b1⟩; obtain ⟨x0, x1, x2, x3⟩ := hq.out w1 b1; replace b1 := hid b1))
    go_ret
    exact ⟨rfl, Below.up b0.out b1.out⟩
  · rw [h1] at ls
    rw [h3] at gs
    have h4 := ne_emp h2
    clear h1 h2 h3
    go_enter Try.func3, Try.ntmps3
    go_wp2_with (first | (go_at_call 4; rw [← hW0.out, ← hg3.out]; refine c1.out.mono ?_; rintro e w1 ⟨rfl, b1⟩; obtain ⟨x0, x1, x2, x3⟩ := hq.out w1 b1; replace b1 := hid b1))
    go_ret
    exact ⟨rfl, Below.up b0.out b1.out⟩
set_option maxRecDepth 100000 in
set_option maxHeartbeats 4000000 in
theorem cuts_work (a : Option Addr) (len cap : Nat) (L : List (List Fi)) (lv : Int) (p q k : ByteArray) (w : World) (H : Lvs w a len cap L) (hw : wL L ≤ 1048576) (h1 : lt p k = true) (h2 : q.size = 0 ∨ lt k q = true) :
    Calls Try.prog 3 #[.slice a len cap, .agg #[.int .i64 lv, .string p, .string q, .string k]] w fun e w' => e = .returned (.bool true) ∧ Below w.heap.size w w' := by
  have hll := wL_len L
  have hlen := H.len_eq
  have hcap := H.cap_le
  have hn8 : len ≤ 1048576 := by omega
  obtain ⟨g3, hg3⟩ : ∃ g, g = w.heap.size := ⟨_, rfl⟩
  obtain ⟨W0, hW0⟩ : ∃ W, W = w.alloc (.cells #[.int .i64 lv, .string p, .string q, .string k] 25) := ⟨_, rfl⟩
  have k0 : W0.heap[g3]? = some (.cells #[.int .i64 lv, .string p, .string q, .string k] 25) := by rw [hW0, hg3]; exact new_at _ _
  have b0 : Below w.heap.size w W0 := by rw [hW0]; exact box_below _ _
  have c1 := hid (one_any W0)
  have hq : Hid (∀ V, Below W0.heap.size W0 V → V.cell? ⟨g3, 0, none⟩ = some (.int .i64 lv) ∧ V.cell? ⟨g3, 1, none⟩ = some (.string p) ∧ V.cell? ⟨g3, 2, none⟩ = some (.string q) ∧ V.cell? ⟨g3, 3, none⟩ = some (.string k)) := fun V b => ⟨cell_of (blk_later k0 b) 0 _ rfl, cell_of (blk_later k0 b) 1 _ rfl, cell_of (blk_later k0 b) 2 _ rfl, cell_of (blk_later k0 b) 3 _ rfl⟩
  have ls := Lx.leq_s 9 k p
  change binOp .leq 9 (.string k) (.string p) = pure (.bool (!(lt p k))) at ls
  have gs := Lx.geq_s 9 k q
  change binOp .geq 9 (.string k) (.string q) = pure (.bool (!(lt k q))) at gs
  replace hW0 := hid hW0
  replace hg3 := hid hg3
  replace b0 := hid b0
  have c2 : Hid (∀ V (p q : ByteArray), Below W0.heap.size W0 V → Calls Try.prog 5 #[.slice a len cap, .int .i64 lv, .string p, .string q] V fun e w' => ∃ b n c, e = .returned (.slice b n c) ∧ n ≤ 1048576 ∧ eFi.Sl w' b n c (over L lv p q) ∧ Below V.heap.size V w') := by
    intro V p q b
    have HV := H.later (Below.up b0.out b)
    refine (over_any a len cap L lv p q V HV hw).mono ?_
    rintro e w' ⟨v, rfl, A⟩
    obtain ⟨b', c', hv'⟩ := A.shape
    subst hv'
    exact ⟨b', _, c', rfl, Nat.le_trans (over_ok HV lv p q).2 hw, (Acc.sl A (over_ok HV lv p q).1).2, A.lo⟩
  have hC := hid (cuts L lv p q k h1 h2)
  rw [h1] at ls
  clear k0 H hll hlen hw
  by_cases h0 : q.size = 0
  · have hq0 : q = ⟨#[]⟩ := emp h0
    subst hq0
    clear h0 h1 h2
    go_enter Try.func3, Try.ntmps3
    go_wp2_with (first | (go_at_call 4; rw [← hW0.out, ← hg3.out]; refine c1.out.mono ?_; rintro e w1 ⟨rfl, b1⟩; obtain ⟨x0, x1, x2, x3⟩ := hq.out w1 b1; replace b1 := hid b1) | (go_at_call 5; refine (c2.out _ p ⟨#[]⟩ b1.out).mono ?_; rintro e w5 ⟨ab, na, ac, rfl, hna, SA, b5⟩; have b5W := hid (Below.up b1.out b5); replace SA := hid SA; clear b5))
    clear x0 x1 x2 x3
    refine wp_region_held_drew (S := fun V => Below w5.heap.size w5 V) (by kernel_rfl) (drew_below _) (fun hS => ?_)
    generalize World.drew w5 = D at *
    refine wpAnyH_take (i := 0) (v := ?v15) rfl (by kernel_rfl) (by kernel_rfl) (by kernel_rfl) (fun _ _ _ h => h) (Or.inl ⟨by rfl, ?h15⟩) hS ?_
    case h15 => (intro W hW; go_simp; try (with_reducible rfl))
    go_simp
    refine wpAnyH_take (i := 1) (v := ?v16) rfl (by kernel_rfl) (by kernel_rfl) (by kernel_rfl) (fun _ _ _ h => h) (Or.inl ⟨by rfl, ?h16⟩) hS ?_
    case h16 => (intro W hW; go_simp; try (with_reducible rfl))
    go_simp
    refine wpAnyH_take (i := 2) (v := ?v17) rfl (by kernel_rfl) (by kernel_rfl) (by kernel_rfl) (fun _ _ _ h => h) (Or.inl ⟨by rfl, ?h17⟩) hS ?_
    case h17 => (intro W hW; have cc := (hq.out _ (Below.up b5W.out hW)).1; go_simp; try (with_reducible rfl))
    go_simp
    refine wpAnyH_take (i := 3) (v := ?v18) rfl (by kernel_rfl) (by kernel_rfl) (by kernel_rfl) (fun _ _ _ h => h) (Or.inl ⟨by rfl, ?h18⟩) hS ?_
    case h18 => (intro W hW; go_simp; try (with_reducible rfl))
    go_simp
    refine wpAnyH_take (i := 4) (v := ?v19) rfl (by kernel_rfl) (by kernel_rfl) (by kernel_rfl) (fun _ _ _ h => h) (Or.inl ⟨by rfl, ?h19⟩) hS ?_
    case h19 => (intro W hW; have cc := (hq.out _ (Below.up b5W.out hW)).2.1; go_simp; try (with_reducible rfl))
    go_simp
    refine wpAnyH_take (i := 5) (v := ?v20) rfl (by kernel_rfl) (by kernel_rfl) (by kernel_rfl) (fun _ _ _ h => h) (Or.inl ⟨by rfl, ?h20⟩) hS ?_
    case h20 => (intro W hW; go_simp; try (with_reducible rfl))
    go_simp
    refine wpAnyH_take (i := 6) (v := ?v21) rfl (by kernel_rfl) (by kernel_rfl) (by kernel_rfl) (fun _ _ _ h => h) (Or.inl ⟨by rfl, ?h21⟩) hS ?_
    case h21 => (intro W hW; have cc := (hq.out _ (Below.up b5W.out hW)).2.2.2; go_simp; try (with_reducible rfl))
    go_simp
    refine wpAnyH_take (i := 8) (v := ?v22) rfl (by kernel_rfl) (by kernel_rfl) (by kernel_rfl) (fun _ _ _ h => h) (Or.inl ⟨by rfl, ?h22⟩) hS ?_
    case h22 => (intro W hW; go_simp; try (with_reducible rfl))
    go_simp
    refine wpAnyH_take (i := 9) (v := ?v23) rfl (by kernel_rfl) (by kernel_rfl) (by kernel_rfl) (fun _ _ _ h => h) (Or.inl ⟨by rfl, ?h23⟩) hS ?_
    case h23 => (intro W hW; go_simp; try (with_reducible rfl))
    go_simp
    refine wpAnyH_take (i := 10) (v := ?v24) rfl (by kernel_rfl) (by kernel_rfl) (by kernel_rfl) (fun _ _ _ h => h) (Or.inl ⟨by rfl, ?h24⟩) hS ?_
    case h24 => (intro W hW; have cc := (hq.out _ (Below.up b5W.out hW)).1; go_simp; try (with_reducible rfl))
    go_simp
    refine wpAnyH_take (i := 11) (v := ?v25) rfl (by kernel_rfl) (by kernel_rfl) (by kernel_rfl) (fun _ _ _ h => h) (Or.inl ⟨by rfl, ?h25⟩) hS ?_
    case h25 => (intro W hW; go_simp; try (with_reducible rfl))
    go_simp
    refine wpAnyH_take (i := 12) (v := ?v26) rfl (by kernel_rfl) (by kernel_rfl) (by kernel_rfl) (fun _ _ _ h => h) (Or.inl ⟨by rfl, ?h26⟩) hS ?_
    case h26 => (intro W hW; have cc := (hq.out _ (Below.up b5W.out hW)).2.2.2; go_simp; try (with_reducible rfl))
    go_simp
    refine wpAnyH_take (i := 13) (v := ?v27) rfl (by kernel_rfl) (by kernel_rfl) (by kernel_rfl) (fun _ _ _ h => h) (Or.inl ⟨by rfl, ?h27⟩) hS ?_
    case h27 => (intro W hW; go_simp; try (with_reducible rfl))
    go_simp
    refine wpAnyH_take (i := 14) (v := ?v28) rfl (by kernel_rfl) (by kernel_rfl) (by kernel_rfl) (fun _ _ _ h => h) (Or.inl ⟨by rfl, ?h28⟩) hS ?_
    case h28 => (intro W hW; have cc := (hq.out _ (Below.up b5W.out hW)).2.2.1; go_simp; try (with_reducible rfl))
    go_simp
    refine wpAnyH_ready (rs := [7]) (by kernel_rfl) (by simp) ?_
    refine AllReadyH.cons rfl (fun K hK => ?_) ?_
    · go_simp
      go_wp2_with fail
      refine (c2.out _ p k (Below.up b5W.out hS)).mono ?_
      rintro e w6 ⟨xb, nx, xc, rfl, hnx, SX, b6⟩
      refine hK.out _ _ (Below.up hS b6) (fun hS => ?_)
      clear hK K
      refine wpAnyH_ready (rs := [15]) (by kernel_rfl) (by simp) ?_
      refine AllReadyH.cons rfl (fun K hK => ?_) ?_
      · go_simp
        go_wp2_with fail
        refine (c2.out _ k ⟨#[]⟩ (Below.up b5W.out hS)).mono ?_
        rintro e w7 ⟨yb, ny, yc, rfl, hny, SY, b7⟩
        refine hK.out _ _ (Below.up hS b7) (fun hS => ?_)
        clear hK K
        refine wpAnyH_take (i := 16) (v := ?v29) rfl (by kernel_rfl) (by kernel_rfl) (by kernel_rfl) (fun _ _ _ h => h) (Or.inl ⟨by rfl, ?h29⟩) hS ?_
        case h29 => (intro W hW; go_simp; try (with_reducible rfl))
        go_simp
        refine wpAnyH_take (i := 17) (v := ?v30) rfl (by kernel_rfl) (by kernel_rfl) (by kernel_rfl) (fun _ _ _ h => h) (Or.inl ⟨by rfl, ?h30⟩) hS ?_
        case h30 => (intro W hW; go_simp; try (with_reducible rfl))
        go_simp
        refine wpAnyH_done (by kernel_rfl) ?_ _
        replace SX := hid (SX.later b7)
        replace SY := hid SY
        replace SA := hid (SA.out.later hS)
        have b7W := hid (Below.up b5W.out hS)
        clear b6 b7 hS
        go_wp2_with fail
        go_loopw [8] (fun ii wr => ∃ i : Nat, ii = .int .i64 i ∧ i ≤ na ∧ Hid (Below w7.heap.size w7 wr)) (fun ii _ => na - (intOf ii).toNat)
        case atStart => exact ⟨0, rfl, by omega, Below.refl _ _⟩
        case round =>
          obtain ⟨i, rfl, hi, b8r⟩ := hrel
          have bw8 := hid (Below.up b7W.out b8r.out)
          by_cases hil : i < na
          · replace SX := hid (SX.out.later b8r.out)
            replace SY := hid (SY.out.later b8r.out)
            have SAr := SA.out.later b8r.out
            obtain ⟨fb, fo, hfa, hat⟩ := get1 SAr i hil
            have hlA := SAr.c
            have hat2 := hat i hil
            rw [show eFi.z = zf from rfl, show eFi.k = 6 from rfl] at hat2
            have hmem : (over L lv p ⟨#[]⟩).getD i zf ∈ over L lv p ⟨#[]⟩ := El.get_mem (E := eFi) (by rw [SAr.n]; exact hil)
            obtain ⟨f, hf⟩ : ∃ f, f = (over L lv p ⟨#[]⟩).getD i zf := ⟨_, rfl⟩
            rw [← hf] at hat2 hmem
            have hfxy := hid (hC.out.any f hmem)
            have hfo := hid (hC.out.own f hmem)
            have FA : Hid (∀ V, Below wr.heap.size wr V → eFi.At V fb (fo + i * 6) f) := fun V b => El.At.later hat2 b
            have ii0 : (i : Int) < (na : Int) := by omega
            have io0 : (0 : Int) ≤ (i : Int) := by omega
            subst hfa
            obtain ⟨w8, hw8⟩ : ∃ x, x = wr := ⟨_, rfl⟩
            rw [← hw8] at SX SY FA b8r bw8
            rw [← hw8]
            clear hw8 wr hat hat2 hmem hf SAr
            go_wp2_with fail
            go_loopw [9, 10] (fun bv jj wr => ∃ (j : Nat) (B : Bool), jj = .int .i64 j ∧ j ≤ nx ∧ bv = .bool B ∧ Hid (B = true ↔ (f ∈ (over L lv p k).take j)) ∧ Hid (Below w8.heap.size w8 wr)) (fun _ jj _ => nx - (intOf jj).toNat)
            case atStart => exact ⟨0, false, rfl, by omega, rfl, (by show _ ↔ _; simp), Below.refl _ _⟩
            case round =>
              skip
              obtain ⟨j, B, rfl, hj, rfl, hB, b9⟩ := hrel
              by_cases hjl : j < nx
              · have SX := SX.out.later b9.out
                obtain ⟨xb, xo, hxa, hat⟩ := get1 SX j hjl
                have hlx := SX.c
                have hA := fi_at (hat j hjl)
                rw [show eFi.z = zf from rfl, show eFi.k = 6 from rfl] at hA
                have hmt := hid (mem_take (f := f) (xs := (over L lv p k)) (j := j) (by rw [SX.n]; exact hjl))
                have hF := fi_at (FA.out _ (Below.up (Below.refl _ _) b9.out))
                have hre := run_eql ((over L lv p k).getD j zf) f
                have hfi := feq_iff ((over L lv p k).getD j zf) f
                clear hat SX
                generalize (over L lv p k).getD j zf = g at *
                generalize hfb : feq g f = FB at *
                have jk0 : (j : Int) < (nx : Int) := by omega
                have jo0 : (0 : Int) ≤ (j : Int) := by omega
                unfold fv at hre
                cases B with
                | true =>
                  have hB' : Hid (f ∈ (over L lv p k).take (j + 1)) := by
                    show _
                    rw [hmt.out]
                    have := hB.out
                    simp only [true_iff] at this
                    exact .inl this
                  clear hre hfi hfb hA hF hxa
                  go_wp2_with fail
                  go_quiet (fail)
                  go_wp2_with fail
                  go_roundw
                  case rel => exact ⟨j + 1, true, by go_num, by omega, rfl, ⟨fun _ => hB'.out, fun _ => rfl⟩, hid (Below.up b9.out (drewN_below _ _))⟩
                  case measure => simp [intOf]; omega
                | false =>
                  have hB' : Hid (FB = true ↔ (f ∈ (over L lv p k).take (j + 1))) := by
                    show _ ↔ _
                    rw [hmt.out, hfi]
                    have := hB.out
                    simp only [Bool.false_eq_true, false_iff] at this
                    exact ⟨fun h => .inr h, fun h => h.resolve_left this⟩
                  subst hxa
                  obtain ⟨gn, gz, gt, gu, glo, ghi⟩ := g
                  obtain ⟨fn, fz, ft, fu, flo, fhi⟩ := f
                  obtain ⟨e1, e2, e3, e4, e5, e6⟩ := hA
                  obtain ⟨d1, d2, d3, d4, d5, d6⟩ := hF
                  dsimp only at *
                  clear hfb hfi
                  go_wp2_with fail
                  go_quiet (fail)
                  go_wp2_with fail
                  go_roundw
                  case rel => exact ⟨j + 1, FB, by go_num, by omega, rfl, hB', hid (Below.up b9.out (drewN_below _ _))⟩
                  case measure => simp [intOf]; omega
              · have hje : j = nx := by omega
                subst hje
                have hBX : Hid (B = true ↔ f ∈ (over L lv p k)) := by
                  have := hB.out
                  rw [← SX.out.n, List.take_length] at this
                  exact this
                replace hB := hBX
                clear hBX
                go_wp2_with fail
                go_loopw [9, 11] (fun bv jj wr => ∃ (j : Nat) (B : Bool), jj = .int .i64 j ∧ j ≤ ny ∧ bv = .bool B ∧ Hid (B = true ↔ (f ∈ over L lv p k ∨ f ∈ (over L lv k ⟨#[]⟩).take j)) ∧ Hid (Below w8.heap.size w8 wr)) (fun _ jj _ => ny - (intOf jj).toNat)
                case atStart => exact ⟨0, B, rfl, by omega, rfl, (by show _ ↔ _; rw [hB.out]; simp), b9⟩
                case round =>
                  clear hB b9
                  obtain ⟨j, B, rfl, hj, rfl, hB, b9⟩ := hrel
                  by_cases hjl : j < ny
                  · have SX := SY.out.later b9.out
                    obtain ⟨xb, xo, hxa, hat⟩ := get1 SX j hjl
                    have hlx := SX.c
                    have hA := fi_at (hat j hjl)
                    rw [show eFi.z = zf from rfl, show eFi.k = 6 from rfl] at hA
                    have hmt := hid (mem_take (f := f) (xs := (over L lv k ⟨#[]⟩)) (j := j) (by rw [SX.n]; exact hjl))
                    have hF := fi_at (FA.out _ (Below.up (Below.refl _ _) b9.out))
                    have hre := run_eql ((over L lv k ⟨#[]⟩).getD j zf) f
                    have hfi := feq_iff ((over L lv k ⟨#[]⟩).getD j zf) f
                    clear hat SX
                    generalize (over L lv k ⟨#[]⟩).getD j zf = g at *
                    generalize hfb : feq g f = FB at *
                    have jk0 : (j : Int) < (ny : Int) := by omega
                    have jo0 : (0 : Int) ≤ (j : Int) := by omega
                    unfold fv at hre
                    cases B with
                    | true =>
                      have hB' : Hid (f ∈ over L lv p k ∨ f ∈ (over L lv k ⟨#[]⟩).take (j + 1)) := by
                        show _
                        rw [hmt.out]
                        have := hB.out
                        simp only [true_iff] at this
                        exact this.elim .inl (fun h => .inr (.inl h))
                      clear hre hfi hfb hA hF hxa
                      go_wp2_with fail
                      go_quiet (fail)
                      go_wp2_with fail
                      go_roundw
                      case rel => exact ⟨j + 1, true, by go_num, by omega, rfl, ⟨fun _ => hB'.out, fun _ => rfl⟩, hid (Below.up b9.out (drewN_below _ _))⟩
                      case measure => simp [intOf]; omega
                    | false =>
                      have hB' : Hid (FB = true ↔ (f ∈ over L lv p k ∨ f ∈ (over L lv k ⟨#[]⟩).take (j + 1))) := by
                        show _ ↔ _
                        rw [hmt.out, hfi]
                        have := hB.out
                        simp only [Bool.false_eq_true, false_iff] at this
                        exact ⟨fun h => .inr (.inr h), fun h => (h.resolve_left (fun h => this (.inl h))).resolve_left (fun h => this (.inr h))⟩
                      subst hxa
                      obtain ⟨gn, gz, gt, gu, glo, ghi⟩ := g
                      obtain ⟨fn, fz, ft, fu, flo, fhi⟩ := f
                      obtain ⟨e1, e2, e3, e4, e5, e6⟩ := hA
                      obtain ⟨d1, d2, d3, d4, d5, d6⟩ := hF
                      dsimp only at *
                      clear hfb hfi
                      go_wp2_with fail
                      go_quiet (fail)
                      go_wp2_with fail
                      go_roundw
                      case rel => exact ⟨j + 1, FB, by go_num, by omega, rfl, hB', hid (Below.up b9.out (drewN_below _ _))⟩
                      case measure => simp [intOf]; omega
                  · have hje : j = ny := by omega
                    subst hje
                    have hBX : Hid (B = true ↔ f ∈ over L lv p k ∨ f ∈ (over L lv k ⟨#[]⟩)) := by
                      have := hB.out
                      rw [← SY.out.n, List.take_length] at this
                      exact this
                    replace hB := hBX
                    clear hBX
                    have hBt : B = true := hB.out.2 hfxy.out
                    subst hBt
                    go_wp2_with fail
                    refine wp_region_held_drew (S := fun V => Below wr.heap.size wr V) (by kernel_rfl) (drew_below _) (fun hS => ?_)
                    generalize World.drew wr = D at *
                    refine wpAnyH_take (i := 0) (v := ?v1) rfl (by kernel_rfl) (by kernel_rfl) (by kernel_rfl) (fun _ _ _ h => h) (Or.inl ⟨by rfl, ?h1⟩) hS ?_
                    case h1 => (intro W hW; go_simp; try (with_reducible rfl))
                    go_simp
                    refine wpAnyH_take (i := 1) (v := ?v2) rfl (by kernel_rfl) (by kernel_rfl) (by kernel_rfl) (fun _ _ _ h => h) (Or.inl ⟨by rfl, ?h2⟩) hS ?_
                    case h2 => (intro W hW; go_simp; try (with_reducible rfl))
                    go_simp
                    refine wpAnyH_take (i := 2) (v := ?v3) rfl (by kernel_rfl) (by kernel_rfl) (by kernel_rfl) (fun _ _ _ h => h) (Or.inl ⟨by rfl, ?h3⟩) hS ?_
                    case h3 => (intro W hW; have cc := (hq.out _ (Below.up bw8.out (Below.up b9.out hW))).1; go_simp; try (with_reducible rfl))
                    go_simp
                    refine wpAnyH_take (i := 3) (v := ?v4) rfl (by kernel_rfl) (by kernel_rfl) (by kernel_rfl) (fun _ _ _ h => h) (Or.inl ⟨by rfl, ?h4⟩) hS ?_
                    case h4 => (intro W hW; go_simp; try (with_reducible rfl))
                    go_simp
                    refine wpAnyH_take (i := 4) (v := ?v5) rfl (by kernel_rfl) (by kernel_rfl) (by kernel_rfl) (fun _ _ _ h => h) (Or.inl ⟨by rfl, ?h5⟩) hS ?_
                    case h5 => (intro W hW; go_simp; try (with_reducible rfl))
                    go_simp
                    refine wpAnyH_take (i := 5) (v := ?v6) rfl (by kernel_rfl) (by kernel_rfl) (by kernel_rfl) (fun _ _ _ h => h) (Or.inl ⟨by rfl, ?h6⟩) hS ?_
                    case h6 => (intro W hW; go_simp; try (with_reducible rfl))
                    go_simp
                    refine wpAnyH_take (i := 6) (v := ?v7) rfl (by kernel_rfl) (by kernel_rfl) (by kernel_rfl) (fun _ _ _ h => h) (Or.inl ⟨by rfl, ?h7⟩) hS ?_
                    case h7 => (intro W hW; go_simp; try (with_reducible rfl))
                    go_simp
                    refine wpAnyH_take (i := 7) (v := ?v8) rfl (by kernel_rfl) (by kernel_rfl) (by kernel_rfl) (fun _ _ _ h => h) (Or.inl ⟨by rfl, ?h8⟩) hS ?_
                    case h8 => (intro W hW; have cc := (fi_at (FA.out _ (Below.up b9.out hW))).2.2.1; go_simp; try (with_reducible rfl))
                    go_simp
                    refine wpAnyH_take (i := 8) (v := ?v9) rfl (by kernel_rfl) (by kernel_rfl) (by kernel_rfl) (fun _ _ _ h => h) (Or.inl ⟨by rfl, ?h9⟩) hS ?_
                    case h9 => (intro W hW; go_simp; try (with_reducible rfl))
                    go_simp
                    refine wpAnyH_take (i := 9) (v := ?v10) rfl (by kernel_rfl) (by kernel_rfl) (by kernel_rfl) (fun _ _ _ h => h) (Or.inl ⟨by rfl, ?h10⟩) hS ?_
                    case h10 => (intro W hW; go_simp; try (with_reducible rfl))
                    go_simp
                    refine wpAnyH_take (i := 10) (v := ?v11) rfl (by kernel_rfl) (by kernel_rfl) (by kernel_rfl) (fun _ _ _ h => h) (Or.inl ⟨by rfl, ?h11⟩) hS ?_
                    case h11 => (intro W hW; go_simp; try (with_reducible rfl))
                    go_simp
                    refine wpAnyH_take (i := 11) (v := ?v12) rfl (by kernel_rfl) (by kernel_rfl) (by kernel_rfl) (fun _ _ _ h => h) (Or.inl ⟨by rfl, ?h12⟩) hS ?_
                    case h12 => (intro W hW; go_simp; try (with_reducible rfl))
                    go_simp
                    refine wpAnyH_take (i := 12) (v := ?v13) rfl (by kernel_rfl) (by kernel_rfl) (by kernel_rfl) (fun _ _ _ h => h) (Or.inl ⟨by rfl, ?h13⟩) hS ?_
                    case h13 => (intro W hW; have cc := (fi_at (FA.out _ (Below.up b9.out hW))).2.2.2.1; go_simp; try (with_reducible rfl))
                    go_simp
                    refine wpAnyH_ready (rs := [13]) (by kernel_rfl) (by simp) ?_
                    refine AllReadyH.cons rfl (fun K hK => ?_) ?_
                    · go_simp
                      go_wp2_with fail
                      refine (c2.out _ f.a f.b (Below.up bw8.out (Below.up b9.out hS))).mono ?_
                      rintro e w11 ⟨ob, no, oc, rfl, hno, SO, b11⟩
                      refine hK.out _ _ (Below.up hS b11) (fun hS => ?_)
                      clear hK K
                      refine wpAnyH_take (i := 14) (v := ?v14) rfl (by kernel_rfl) (by kernel_rfl) (by kernel_rfl) (fun _ _ _ h => h) (Or.inl ⟨by rfl, ?h14⟩) hS ?_
                      case h14 => (intro W hW; go_simp; try (with_reducible rfl))
                      go_simp
                      refine wpAnyH_done (by kernel_rfl) ?_ _
                      replace SO := hid SO
                      have b9W := hid (Below.up b9.out hS)
                      clear b9 hS b11
                      go_wp2_with fail
                      go_loopw [13, 14] (fun bv jj wr => ∃ (j : Nat) (B : Bool), jj = .int .i64 j ∧ j ≤ no ∧ bv = .bool B ∧ Hid (B = true ↔ (f ∈ (over L lv f.a f.b).take j)) ∧ Hid (Below w11.heap.size w11 wr)) (fun _ jj _ => no - (intOf jj).toNat)
                      case atStart => exact ⟨0, false, rfl, by omega, rfl, (by show _ ↔ _; simp), Below.refl _ _⟩
                      case round =>
                        skip
                        obtain ⟨j, B, rfl, hj, rfl, hB, b9⟩ := hrel
                        by_cases hjl : j < no
                        · have SX := SO.out.later b9.out
                          obtain ⟨xb, xo, hxa, hat⟩ := get1 SX j hjl
                          have hlx := SX.c
                          have hA := fi_at (hat j hjl)
                          rw [show eFi.z = zf from rfl, show eFi.k = 6 from rfl] at hA
                          have hmt := hid (mem_take (f := f) (xs := (over L lv f.a f.b)) (j := j) (by rw [SX.n]; exact hjl))
                          have hF := fi_at (FA.out _ (Below.up b9W.out b9.out))
                          have hre := run_eql ((over L lv f.a f.b).getD j zf) f
                          have hfi := feq_iff ((over L lv f.a f.b).getD j zf) f
                          clear hat SX
                          generalize (over L lv f.a f.b).getD j zf = g at *
                          generalize hfb : feq g f = FB at *
                          have jk0 : (j : Int) < (no : Int) := by omega
                          have jo0 : (0 : Int) ≤ (j : Int) := by omega
                          unfold fv at hre
                          cases B with
                          | true =>
                            have hB' : Hid (f ∈ (over L lv f.a f.b).take (j + 1)) := by
                              show _
                              rw [hmt.out]
                              have := hB.out
                              simp only [true_iff] at this
                              exact .inl this
                            clear hre hfi hfb hA hF hxa
                            go_wp2_with fail
                            go_quiet (fail)
                            go_wp2_with fail
                            go_roundw
                            case rel => exact ⟨j + 1, true, by go_num, by omega, rfl, ⟨fun _ => hB'.out, fun _ => rfl⟩, hid (Below.up b9.out (drewN_below _ _))⟩
                            case measure => simp [intOf]; omega
                          | false =>
                            have hB' : Hid (FB = true ↔ (f ∈ (over L lv f.a f.b).take (j + 1))) := by
                              show _ ↔ _
                              rw [hmt.out, hfi]
                              have := hB.out
                              simp only [Bool.false_eq_true, false_iff] at this
                              exact ⟨fun h => .inr h, fun h => h.resolve_left this⟩
                            subst hxa
                            obtain ⟨gn, gz, gt, gu, glo, ghi⟩ := g
                            obtain ⟨fn, fz, ft, fu, flo, fhi⟩ := f
                            obtain ⟨e1, e2, e3, e4, e5, e6⟩ := hA
                            obtain ⟨d1, d2, d3, d4, d5, d6⟩ := hF
                            dsimp only at *
                            clear hfb hfi
                            go_wp2_with fail
                            go_quiet (fail)
                            go_wp2_with fail
                            go_roundw
                            case rel => exact ⟨j + 1, FB, by go_num, by omega, rfl, hB', hid (Below.up b9.out (drewN_below _ _))⟩
                            case measure => simp [intOf]; omega
                        · have hje : j = no := by omega
                          subst hje
                          have hBX : Hid (B = true ↔ f ∈ (over L lv f.a f.b)) := by
                            have := hB.out
                            rw [← SO.out.n, List.take_length] at this
                            exact this
                          replace hB := hBX
                          clear hBX
                          have hBt : B = true := hB.out.2 hfo.out
                          subst hBt
                          go_wp2_with fail
                          go_roundw
                          case rel => exact ⟨i + 1, by go_num, by omega, hid (Below.up b8r.out (Below.up b9W.out b9.out))⟩
                          case measure => simp [intOf]; omega
                    exact AllReadyH.nil
          · have hie : i = na := by omega
            subst hie
            have t1 : decide ((nx : Int) ≤ (i : Int)) = true := decide_eq_true (by have := hC.out.x; rw [SX.out.n, SA.out.n] at this; omega)
            have t2 : decide ((ny : Int) ≤ (i : Int)) = true := decide_eq_true (by have := hC.out.y; rw [SY.out.n, SA.out.n] at this; omega)
            have t3 : (i : Int) ≤ (nx : Int) + (ny : Int) := by have := hC.out.xy; rw [SX.out.n, SY.out.n, SA.out.n] at this; omega
            have u1 : nx ≤ i := by have := hC.out.x; rw [SX.out.n, SA.out.n] at this; omega
            have u2 : ny ≤ i := by have := hC.out.y; rw [SY.out.n, SA.out.n] at this; omega
            have u3 : i ≤ nx + ny := by have := hC.out.xy; rw [SX.out.n, SY.out.n, SA.out.n] at this; omega
            go_wp2_with fail
            go_ret
            exact ⟨ret_bool (by first | rfl | simp [u1, u2, u3]), Below.up b0.out bw8.out⟩
      exact AllReadyH.nil
    exact AllReadyH.nil
  · have h4 := ne_emp h0
    have h3 : lt k q = true := h2.resolve_left h0
    rw [h3] at gs
    clear h0 h1 h2 h3
    go_enter Try.func3, Try.ntmps3
    go_wp2_with (first | (go_at_call 4; rw [← hW0.out, ← hg3.out]; refine c1.out.mono ?_; rintro e w1 ⟨rfl, b1⟩; obtain ⟨x0, x1, x2, x3⟩ := hq.out w1 b1; replace b1 := hid b1) | (go_at_call 5; refine (c2.out _ p q b1.out).mono ?_; rintro e w5 ⟨ab, na, ac, rfl, hna, SA, b5⟩; have b5W := hid (Below.up b1.out b5); replace SA := hid SA; clear b5))
    clear x0 x1 x2 x3
    refine wp_region_held_drew (S := fun V => Below w5.heap.size w5 V) (by kernel_rfl) (drew_below _) (fun hS => ?_)
    generalize World.drew w5 = D at *
    refine wpAnyH_take (i := 0) (v := ?v45) rfl (by kernel_rfl) (by kernel_rfl) (by kernel_rfl) (fun _ _ _ h => h) (Or.inl ⟨by rfl, ?h45⟩) hS ?_
    case h45 => (intro W hW; go_simp; try (with_reducible rfl))
    go_simp
    refine wpAnyH_take (i := 1) (v := ?v46) rfl (by kernel_rfl) (by kernel_rfl) (by kernel_rfl) (fun _ _ _ h => h) (Or.inl ⟨by rfl, ?h46⟩) hS ?_
    case h46 => (intro W hW; go_simp; try (with_reducible rfl))
    go_simp
    refine wpAnyH_take (i := 2) (v := ?v47) rfl (by kernel_rfl) (by kernel_rfl) (by kernel_rfl) (fun _ _ _ h => h) (Or.inl ⟨by rfl, ?h47⟩) hS ?_
    case h47 => (intro W hW; have cc := (hq.out _ (Below.up b5W.out hW)).1; go_simp; try (with_reducible rfl))
    go_simp
    refine wpAnyH_take (i := 3) (v := ?v48) rfl (by kernel_rfl) (by kernel_rfl) (by kernel_rfl) (fun _ _ _ h => h) (Or.inl ⟨by rfl, ?h48⟩) hS ?_
    case h48 => (intro W hW; go_simp; try (with_reducible rfl))
    go_simp
    refine wpAnyH_take (i := 4) (v := ?v49) rfl (by kernel_rfl) (by kernel_rfl) (by kernel_rfl) (fun _ _ _ h => h) (Or.inl ⟨by rfl, ?h49⟩) hS ?_
    case h49 => (intro W hW; have cc := (hq.out _ (Below.up b5W.out hW)).2.1; go_simp; try (with_reducible rfl))
    go_simp
    refine wpAnyH_take (i := 5) (v := ?v50) rfl (by kernel_rfl) (by kernel_rfl) (by kernel_rfl) (fun _ _ _ h => h) (Or.inl ⟨by rfl, ?h50⟩) hS ?_
    case h50 => (intro W hW; go_simp; try (with_reducible rfl))
    go_simp
    refine wpAnyH_take (i := 6) (v := ?v51) rfl (by kernel_rfl) (by kernel_rfl) (by kernel_rfl) (fun _ _ _ h => h) (Or.inl ⟨by rfl, ?h51⟩) hS ?_
    case h51 => (intro W hW; have cc := (hq.out _ (Below.up b5W.out hW)).2.2.2; go_simp; try (with_reducible rfl))
    go_simp
    refine wpAnyH_take (i := 8) (v := ?v52) rfl (by kernel_rfl) (by kernel_rfl) (by kernel_rfl) (fun _ _ _ h => h) (Or.inl ⟨by rfl, ?h52⟩) hS ?_
    case h52 => (intro W hW; go_simp; try (with_reducible rfl))
    go_simp
    refine wpAnyH_take (i := 9) (v := ?v53) rfl (by kernel_rfl) (by kernel_rfl) (by kernel_rfl) (fun _ _ _ h => h) (Or.inl ⟨by rfl, ?h53⟩) hS ?_
    case h53 => (intro W hW; go_simp; try (with_reducible rfl))
    go_simp
    refine wpAnyH_take (i := 10) (v := ?v54) rfl (by kernel_rfl) (by kernel_rfl) (by kernel_rfl) (fun _ _ _ h => h) (Or.inl ⟨by rfl, ?h54⟩) hS ?_
    case h54 => (intro W hW; have cc := (hq.out _ (Below.up b5W.out hW)).1; go_simp; try (with_reducible rfl))
    go_simp
    refine wpAnyH_take (i := 11) (v := ?v55) rfl (by kernel_rfl) (by kernel_rfl) (by kernel_rfl) (fun _ _ _ h => h) (Or.inl ⟨by rfl, ?h55⟩) hS ?_
    case h55 => (intro W hW; go_simp; try (with_reducible rfl))
    go_simp
    refine wpAnyH_take (i := 12) (v := ?v56) rfl (by kernel_rfl) (by kernel_rfl) (by kernel_rfl) (fun _ _ _ h => h) (Or.inl ⟨by rfl, ?h56⟩) hS ?_
    case h56 => (intro W hW; have cc := (hq.out _ (Below.up b5W.out hW)).2.2.2; go_simp; try (with_reducible rfl))
    go_simp
    refine wpAnyH_take (i := 13) (v := ?v57) rfl (by kernel_rfl) (by kernel_rfl) (by kernel_rfl) (fun _ _ _ h => h) (Or.inl ⟨by rfl, ?h57⟩) hS ?_
    case h57 => (intro W hW; go_simp; try (with_reducible rfl))
    go_simp
    refine wpAnyH_take (i := 14) (v := ?v58) rfl (by kernel_rfl) (by kernel_rfl) (by kernel_rfl) (fun _ _ _ h => h) (Or.inl ⟨by rfl, ?h58⟩) hS ?_
    case h58 => (intro W hW; have cc := (hq.out _ (Below.up b5W.out hW)).2.2.1; go_simp; try (with_reducible rfl))
    go_simp
    refine wpAnyH_ready (rs := [7]) (by kernel_rfl) (by simp) ?_
    refine AllReadyH.cons rfl (fun K hK => ?_) ?_
    · go_simp
      go_wp2_with fail
      refine (c2.out _ p k (Below.up b5W.out hS)).mono ?_
      rintro e w6 ⟨xb, nx, xc, rfl, hnx, SX, b6⟩
      refine hK.out _ _ (Below.up hS b6) (fun hS => ?_)
      clear hK K
      refine wpAnyH_ready (rs := [15]) (by kernel_rfl) (by simp) ?_
      refine AllReadyH.cons rfl (fun K hK => ?_) ?_
      · go_simp
        go_wp2_with fail
        refine (c2.out _ k q (Below.up b5W.out hS)).mono ?_
        rintro e w7 ⟨yb, ny, yc, rfl, hny, SY, b7⟩
        refine hK.out _ _ (Below.up hS b7) (fun hS => ?_)
        clear hK K
        refine wpAnyH_take (i := 16) (v := ?v59) rfl (by kernel_rfl) (by kernel_rfl) (by kernel_rfl) (fun _ _ _ h => h) (Or.inl ⟨by rfl, ?h59⟩) hS ?_
        case h59 => (intro W hW; go_simp; try (with_reducible rfl))
        go_simp
        refine wpAnyH_take (i := 17) (v := ?v60) rfl (by kernel_rfl) (by kernel_rfl) (by kernel_rfl) (fun _ _ _ h => h) (Or.inl ⟨by rfl, ?h60⟩) hS ?_
        case h60 => (intro W hW; go_simp; try (with_reducible rfl))
        go_simp
        refine wpAnyH_done (by kernel_rfl) ?_ _
        replace SX := hid (SX.later b7)
        replace SY := hid SY
        replace SA := hid (SA.out.later hS)
        have b7W := hid (Below.up b5W.out hS)
        clear b6 b7 hS
        go_wp2_with fail
        go_loopw [8] (fun ii wr => ∃ i : Nat, ii = .int .i64 i ∧ i ≤ na ∧ Hid (Below w7.heap.size w7 wr)) (fun ii _ => na - (intOf ii).toNat)
        case atStart => exact ⟨0, rfl, by omega, Below.refl _ _⟩
        case round =>
          obtain ⟨i, rfl, hi, b8r⟩ := hrel
          have bw8 := hid (Below.up b7W.out b8r.out)
          by_cases hil : i < na
          · replace SX := hid (SX.out.later b8r.out)
            replace SY := hid (SY.out.later b8r.out)
            have SAr := SA.out.later b8r.out
            obtain ⟨fb, fo, hfa, hat⟩ := get1 SAr i hil
            have hlA := SAr.c
            have hat2 := hat i hil
            rw [show eFi.z = zf from rfl, show eFi.k = 6 from rfl] at hat2
            have hmem : (over L lv p q).getD i zf ∈ over L lv p q := El.get_mem (E := eFi) (by rw [SAr.n]; exact hil)
            obtain ⟨f, hf⟩ : ∃ f, f = (over L lv p q).getD i zf := ⟨_, rfl⟩
            rw [← hf] at hat2 hmem
            have hfxy := hid (hC.out.any f hmem)
            have hfo := hid (hC.out.own f hmem)
            have FA : Hid (∀ V, Below wr.heap.size wr V → eFi.At V fb (fo + i * 6) f) := fun V b => El.At.later hat2 b
            have ii0 : (i : Int) < (na : Int) := by omega
            have io0 : (0 : Int) ≤ (i : Int) := by omega
            subst hfa
            obtain ⟨w8, hw8⟩ : ∃ x, x = wr := ⟨_, rfl⟩
            rw [← hw8] at SX SY FA b8r bw8
            rw [← hw8]
            clear hw8 wr hat hat2 hmem hf SAr
            go_wp2_with fail
            go_loopw [9, 10] (fun bv jj wr => ∃ (j : Nat) (B : Bool), jj = .int .i64 j ∧ j ≤ nx ∧ bv = .bool B ∧ Hid (B = true ↔ (f ∈ (over L lv p k).take j)) ∧ Hid (Below w8.heap.size w8 wr)) (fun _ jj _ => nx - (intOf jj).toNat)
            case atStart => exact ⟨0, false, rfl, by omega, rfl, (by show _ ↔ _; simp), Below.refl _ _⟩
            case round =>
              skip
              obtain ⟨j, B, rfl, hj, rfl, hB, b9⟩ := hrel
              by_cases hjl : j < nx
              · have SX := SX.out.later b9.out
                obtain ⟨xb, xo, hxa, hat⟩ := get1 SX j hjl
                have hlx := SX.c
                have hA := fi_at (hat j hjl)
                rw [show eFi.z = zf from rfl, show eFi.k = 6 from rfl] at hA
                have hmt := hid (mem_take (f := f) (xs := (over L lv p k)) (j := j) (by rw [SX.n]; exact hjl))
                have hF := fi_at (FA.out _ (Below.up (Below.refl _ _) b9.out))
                have hre := run_eql ((over L lv p k).getD j zf) f
                have hfi := feq_iff ((over L lv p k).getD j zf) f
                clear hat SX
                generalize (over L lv p k).getD j zf = g at *
                generalize hfb : feq g f = FB at *
                have jk0 : (j : Int) < (nx : Int) := by omega
                have jo0 : (0 : Int) ≤ (j : Int) := by omega
                unfold fv at hre
                cases B with
                | true =>
                  have hB' : Hid (f ∈ (over L lv p k).take (j + 1)) := by
                    show _
                    rw [hmt.out]
                    have := hB.out
                    simp only [true_iff] at this
                    exact .inl this
                  clear hre hfi hfb hA hF hxa
                  go_wp2_with fail
                  go_quiet (fail)
                  go_wp2_with fail
                  go_roundw
                  case rel => exact ⟨j + 1, true, by go_num, by omega, rfl, ⟨fun _ => hB'.out, fun _ => rfl⟩, hid (Below.up b9.out (drewN_below _ _))⟩
                  case measure => simp [intOf]; omega
                | false =>
                  have hB' : Hid (FB = true ↔ (f ∈ (over L lv p k).take (j + 1))) := by
                    show _ ↔ _
                    rw [hmt.out, hfi]
                    have := hB.out
                    simp only [Bool.false_eq_true, false_iff] at this
                    exact ⟨fun h => .inr h, fun h => h.resolve_left this⟩
                  subst hxa
                  obtain ⟨gn, gz, gt, gu, glo, ghi⟩ := g
                  obtain ⟨fn, fz, ft, fu, flo, fhi⟩ := f
                  obtain ⟨e1, e2, e3, e4, e5, e6⟩ := hA
                  obtain ⟨d1, d2, d3, d4, d5, d6⟩ := hF
                  dsimp only at *
                  clear hfb hfi
                  go_wp2_with fail
                  go_quiet (fail)
                  go_wp2_with fail
                  go_roundw
                  case rel => exact ⟨j + 1, FB, by go_num, by omega, rfl, hB', hid (Below.up b9.out (drewN_below _ _))⟩
                  case measure => simp [intOf]; omega
              · have hje : j = nx := by omega
                subst hje
                have hBX : Hid (B = true ↔ f ∈ (over L lv p k)) := by
                  have := hB.out
                  rw [← SX.out.n, List.take_length] at this
                  exact this
                replace hB := hBX
                clear hBX
                go_wp2_with fail
                go_loopw [9, 11] (fun bv jj wr => ∃ (j : Nat) (B : Bool), jj = .int .i64 j ∧ j ≤ ny ∧ bv = .bool B ∧ Hid (B = true ↔ (f ∈ over L lv p k ∨ f ∈ (over L lv k q).take j)) ∧ Hid (Below w8.heap.size w8 wr)) (fun _ jj _ => ny - (intOf jj).toNat)
                case atStart => exact ⟨0, B, rfl, by omega, rfl, (by show _ ↔ _; rw [hB.out]; simp), b9⟩
                case round =>
                  clear hB b9
                  obtain ⟨j, B, rfl, hj, rfl, hB, b9⟩ := hrel
                  by_cases hjl : j < ny
                  · have SX := SY.out.later b9.out
                    obtain ⟨xb, xo, hxa, hat⟩ := get1 SX j hjl
                    have hlx := SX.c
                    have hA := fi_at (hat j hjl)
                    rw [show eFi.z = zf from rfl, show eFi.k = 6 from rfl] at hA
                    have hmt := hid (mem_take (f := f) (xs := (over L lv k q)) (j := j) (by rw [SX.n]; exact hjl))
                    have hF := fi_at (FA.out _ (Below.up (Below.refl _ _) b9.out))
                    have hre := run_eql ((over L lv k q).getD j zf) f
                    have hfi := feq_iff ((over L lv k q).getD j zf) f
                    clear hat SX
                    generalize (over L lv k q).getD j zf = g at *
                    generalize hfb : feq g f = FB at *
                    have jk0 : (j : Int) < (ny : Int) := by omega
                    have jo0 : (0 : Int) ≤ (j : Int) := by omega
                    unfold fv at hre
                    cases B with
                    | true =>
                      have hB' : Hid (f ∈ over L lv p k ∨ f ∈ (over L lv k q).take (j + 1)) := by
                        show _
                        rw [hmt.out]
                        have := hB.out
                        simp only [true_iff] at this
                        exact this.elim .inl (fun h => .inr (.inl h))
                      clear hre hfi hfb hA hF hxa
                      go_wp2_with fail
                      go_quiet (fail)
                      go_wp2_with fail
                      go_roundw
                      case rel => exact ⟨j + 1, true, by go_num, by omega, rfl, ⟨fun _ => hB'.out, fun _ => rfl⟩, hid (Below.up b9.out (drewN_below _ _))⟩
                      case measure => simp [intOf]; omega
                    | false =>
                      have hB' : Hid (FB = true ↔ (f ∈ over L lv p k ∨ f ∈ (over L lv k q).take (j + 1))) := by
                        show _ ↔ _
                        rw [hmt.out, hfi]
                        have := hB.out
                        simp only [Bool.false_eq_true, false_iff] at this
                        exact ⟨fun h => .inr (.inr h), fun h => (h.resolve_left (fun h => this (.inl h))).resolve_left (fun h => this (.inr h))⟩
                      subst hxa
                      obtain ⟨gn, gz, gt, gu, glo, ghi⟩ := g
                      obtain ⟨fn, fz, ft, fu, flo, fhi⟩ := f
                      obtain ⟨e1, e2, e3, e4, e5, e6⟩ := hA
                      obtain ⟨d1, d2, d3, d4, d5, d6⟩ := hF
                      dsimp only at *
                      clear hfb hfi
                      go_wp2_with fail
                      go_quiet (fail)
                      go_wp2_with fail
                      go_roundw
                      case rel => exact ⟨j + 1, FB, by go_num, by omega, rfl, hB', hid (Below.up b9.out (drewN_below _ _))⟩
                      case measure => simp [intOf]; omega
                  · have hje : j = ny := by omega
                    subst hje
                    have hBX : Hid (B = true ↔ f ∈ over L lv p k ∨ f ∈ (over L lv k q)) := by
                      have := hB.out
                      rw [← SY.out.n, List.take_length] at this
                      exact this
                    replace hB := hBX
                    clear hBX
                    have hBt : B = true := hB.out.2 hfxy.out
                    subst hBt
                    go_wp2_with fail
                    refine wp_region_held_drew (S := fun V => Below wr.heap.size wr V) (by kernel_rfl) (drew_below _) (fun hS => ?_)
                    generalize World.drew wr = D at *
                    refine wpAnyH_take (i := 0) (v := ?v31) rfl (by kernel_rfl) (by kernel_rfl) (by kernel_rfl) (fun _ _ _ h => h) (Or.inl ⟨by rfl, ?h31⟩) hS ?_
                    case h31 => (intro W hW; go_simp; try (with_reducible rfl))
                    go_simp
                    refine wpAnyH_take (i := 1) (v := ?v32) rfl (by kernel_rfl) (by kernel_rfl) (by kernel_rfl) (fun _ _ _ h => h) (Or.inl ⟨by rfl, ?h32⟩) hS ?_
                    case h32 => (intro W hW; go_simp; try (with_reducible rfl))
                    go_simp
                    refine wpAnyH_take (i := 2) (v := ?v33) rfl (by kernel_rfl) (by kernel_rfl) (by kernel_rfl) (fun _ _ _ h => h) (Or.inl ⟨by rfl, ?h33⟩) hS ?_
                    case h33 => (intro W hW; have cc := (hq.out _ (Below.up bw8.out (Below.up b9.out hW))).1; go_simp; try (with_reducible rfl))
                    go_simp
                    refine wpAnyH_take (i := 3) (v := ?v34) rfl (by kernel_rfl) (by kernel_rfl) (by kernel_rfl) (fun _ _ _ h => h) (Or.inl ⟨by rfl, ?h34⟩) hS ?_
                    case h34 => (intro W hW; go_simp; try (with_reducible rfl))
                    go_simp
                    refine wpAnyH_take (i := 4) (v := ?v35) rfl (by kernel_rfl) (by kernel_rfl) (by kernel_rfl) (fun _ _ _ h => h) (Or.inl ⟨by rfl, ?h35⟩) hS ?_
                    case h35 => (intro W hW; go_simp; try (with_reducible rfl))
                    go_simp
                    refine wpAnyH_take (i := 5) (v := ?v36) rfl (by kernel_rfl) (by kernel_rfl) (by kernel_rfl) (fun _ _ _ h => h) (Or.inl ⟨by rfl, ?h36⟩) hS ?_
                    case h36 => (intro W hW; go_simp; try (with_reducible rfl))
                    go_simp
                    refine wpAnyH_take (i := 6) (v := ?v37) rfl (by kernel_rfl) (by kernel_rfl) (by kernel_rfl) (fun _ _ _ h => h) (Or.inl ⟨by rfl, ?h37⟩) hS ?_
                    case h37 => (intro W hW; go_simp; try (with_reducible rfl))
                    go_simp
                    refine wpAnyH_take (i := 7) (v := ?v38) rfl (by kernel_rfl) (by kernel_rfl) (by kernel_rfl) (fun _ _ _ h => h) (Or.inl ⟨by rfl, ?h38⟩) hS ?_
                    case h38 => (intro W hW; have cc := (fi_at (FA.out _ (Below.up b9.out hW))).2.2.1; go_simp; try (with_reducible rfl))
                    go_simp
                    refine wpAnyH_take (i := 8) (v := ?v39) rfl (by kernel_rfl) (by kernel_rfl) (by kernel_rfl) (fun _ _ _ h => h) (Or.inl ⟨by rfl, ?h39⟩) hS ?_
                    case h39 => (intro W hW; go_simp; try (with_reducible rfl))
                    go_simp
                    refine wpAnyH_take (i := 9) (v := ?v40) rfl (by kernel_rfl) (by kernel_rfl) (by kernel_rfl) (fun _ _ _ h => h) (Or.inl ⟨by rfl, ?h40⟩) hS ?_
                    case h40 => (intro W hW; go_simp; try (with_reducible rfl))
                    go_simp
                    refine wpAnyH_take (i := 10) (v := ?v41) rfl (by kernel_rfl) (by kernel_rfl) (by kernel_rfl) (fun _ _ _ h => h) (Or.inl ⟨by rfl, ?h41⟩) hS ?_
                    case h41 => (intro W hW; go_simp; try (with_reducible rfl))
                    go_simp
                    refine wpAnyH_take (i := 11) (v := ?v42) rfl (by kernel_rfl) (by kernel_rfl) (by kernel_rfl) (fun _ _ _ h => h) (Or.inl ⟨by rfl, ?h42⟩) hS ?_
                    case h42 => (intro W hW; go_simp; try (with_reducible rfl))
                    go_simp
                    refine wpAnyH_take (i := 12) (v := ?v43) rfl (by kernel_rfl) (by kernel_rfl) (by kernel_rfl) (fun _ _ _ h => h) (Or.inl ⟨by rfl, ?h43⟩) hS ?_
                    case h43 => (intro W hW; have cc := (fi_at (FA.out _ (Below.up b9.out hW))).2.2.2.1; go_simp; try (with_reducible rfl))
                    go_simp
                    refine wpAnyH_ready (rs := [13]) (by kernel_rfl) (by simp) ?_
                    refine AllReadyH.cons rfl (fun K hK => ?_) ?_
                    · go_simp
                      go_wp2_with fail
                      refine (c2.out _ f.a f.b (Below.up bw8.out (Below.up b9.out hS))).mono ?_
                      rintro e w11 ⟨ob, no, oc, rfl, hno, SO, b11⟩
                      refine hK.out _ _ (Below.up hS b11) (fun hS => ?_)
                      clear hK K
                      refine wpAnyH_take (i := 14) (v := ?v44) rfl (by kernel_rfl) (by kernel_rfl) (by kernel_rfl) (fun _ _ _ h => h) (Or.inl ⟨by rfl, ?h44⟩) hS ?_
                      case h44 => (intro W hW; go_simp; try (with_reducible rfl))
                      go_simp
                      refine wpAnyH_done (by kernel_rfl) ?_ _
                      replace SO := hid SO
                      have b9W := hid (Below.up b9.out hS)
                      clear b9 hS b11
                      go_wp2_with fail
                      go_loopw [13, 14] (fun bv jj wr => ∃ (j : Nat) (B : Bool), jj = .int .i64 j ∧ j ≤ no ∧ bv = .bool B ∧ Hid (B = true ↔ (f ∈ (over L lv f.a f.b).take j)) ∧ Hid (Below w11.heap.size w11 wr)) (fun _ jj _ => no - (intOf jj).toNat)
                      case atStart => exact ⟨0, false, rfl, by omega, rfl, (by show _ ↔ _; simp), Below.refl _ _⟩
                      case round =>
                        skip
                        obtain ⟨j, B, rfl, hj, rfl, hB, b9⟩ := hrel
                        by_cases hjl : j < no
                        · have SX := SO.out.later b9.out
                          obtain ⟨xb, xo, hxa, hat⟩ := get1 SX j hjl
                          have hlx := SX.c
                          have hA := fi_at (hat j hjl)
                          rw [show eFi.z = zf from rfl, show eFi.k = 6 from rfl] at hA
                          have hmt := hid (mem_take (f := f) (xs := (over L lv f.a f.b)) (j := j) (by rw [SX.n]; exact hjl))
                          have hF := fi_at (FA.out _ (Below.up b9W.out b9.out))
                          have hre := run_eql ((over L lv f.a f.b).getD j zf) f
                          have hfi := feq_iff ((over L lv f.a f.b).getD j zf) f
                          clear hat SX
                          generalize (over L lv f.a f.b).getD j zf = g at *
                          generalize hfb : feq g f = FB at *
                          have jk0 : (j : Int) < (no : Int) := by omega
                          have jo0 : (0 : Int) ≤ (j : Int) := by omega
                          unfold fv at hre
                          cases B with
                          | true =>
                            have hB' : Hid (f ∈ (over L lv f.a f.b).take (j + 1)) := by
                              show _
                              rw [hmt.out]
                              have := hB.out
                              simp only [true_iff] at this
                              exact .inl this
                            clear hre hfi hfb hA hF hxa
                            go_wp2_with fail
                            go_quiet (fail)
                            go_wp2_with fail
                            go_roundw
                            case rel => exact ⟨j + 1, true, by go_num, by omega, rfl, ⟨fun _ => hB'.out, fun _ => rfl⟩, hid (Below.up b9.out (drewN_below _ _))⟩
                            case measure => simp [intOf]; omega
                          | false =>
                            have hB' : Hid (FB = true ↔ (f ∈ (over L lv f.a f.b).take (j + 1))) := by
                              show _ ↔ _
                              rw [hmt.out, hfi]
                              have := hB.out
                              simp only [Bool.false_eq_true, false_iff] at this
                              exact ⟨fun h => .inr h, fun h => h.resolve_left this⟩
                            subst hxa
                            obtain ⟨gn, gz, gt, gu, glo, ghi⟩ := g
                            obtain ⟨fn, fz, ft, fu, flo, fhi⟩ := f
                            obtain ⟨e1, e2, e3, e4, e5, e6⟩ := hA
                            obtain ⟨d1, d2, d3, d4, d5, d6⟩ := hF
                            dsimp only at *
                            clear hfb hfi
                            go_wp2_with fail
                            go_quiet (fail)
                            go_wp2_with fail
                            go_roundw
                            case rel => exact ⟨j + 1, FB, by go_num, by omega, rfl, hB', hid (Below.up b9.out (drewN_below _ _))⟩
                            case measure => simp [intOf]; omega
                        · have hje : j = no := by omega
                          subst hje
                          have hBX : Hid (B = true ↔ f ∈ (over L lv f.a f.b)) := by
                            have := hB.out
                            rw [← SO.out.n, List.take_length] at this
                            exact this
                          replace hB := hBX
                          clear hBX
                          have hBt : B = true := hB.out.2 hfo.out
                          subst hBt
                          go_wp2_with fail
                          go_roundw
                          case rel => exact ⟨i + 1, by go_num, by omega, hid (Below.up b8r.out (Below.up b9W.out b9.out))⟩
                          case measure => simp [intOf]; omega
                    exact AllReadyH.nil
          · have hie : i = na := by omega
            subst hie
            have t1 : decide ((nx : Int) ≤ (i : Int)) = true := decide_eq_true (by have := hC.out.x; rw [SX.out.n, SA.out.n] at this; omega)
            have t2 : decide ((ny : Int) ≤ (i : Int)) = true := decide_eq_true (by have := hC.out.y; rw [SY.out.n, SA.out.n] at this; omega)
            have t3 : (i : Int) ≤ (nx : Int) + (ny : Int) := by have := hC.out.xy; rw [SX.out.n, SY.out.n, SA.out.n] at this; omega
            have u1 : nx ≤ i := by have := hC.out.x; rw [SX.out.n, SA.out.n] at this; omega
            have u2 : ny ≤ i := by have := hC.out.y; rw [SY.out.n, SA.out.n] at this; omega
            have u3 : i ≤ nx + ny := by have := hC.out.xy; rw [SX.out.n, SY.out.n, SA.out.n] at this; omega
            go_wp2_with fail
            go_ret
            exact ⟨ret_bool (by first | rfl | simp [u1, u2, u3]), Below.up b0.out bw8.out⟩
      exact AllReadyH.nil
    exact AllReadyH.nil
theorem cuts_any (a : Option Addr) (len cap : Nat) (L : List (List Fi)) (lv : Int) (p q k : ByteArray) (w : World) (H : Lvs w a len cap L) (hw : wL L ≤ 1048576) :
    Calls Try.prog 3 #[.slice a len cap, .agg #[.int .i64 lv, .string p, .string q, .string k]] w fun e w' => e = .returned (.bool true) ∧ Below w.heap.size w w' := by
  cases h1 : lt p k with
  | false => exact cuts_idle a len cap L lv p q k w H hw (.inl h1)
  | true =>
    by_cases h2 : q.size = 0 ∨ lt k q = true
    · exact cuts_work a len cap L lv p q k w H hw h1 h2
    · exact cuts_idle a len cap L lv p q k w H hw (.inr ⟨h1, fun e => h2 (.inl e), by cases h : lt k q with | false => rfl | true => exact absurd (.inr h) h2⟩)
end Go.Proofs.Ytkpihibeohjfnab.Ld

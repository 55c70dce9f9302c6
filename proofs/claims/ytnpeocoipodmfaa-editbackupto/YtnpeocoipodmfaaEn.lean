/- edit.Encode by its contract. -/
import Derived.Test.YtnpeocoipodmfaaBe
namespace Go.Proofs.Ytnpeocoipodmfaa.En
open Go.ChangeShapes Go.WideShapes Go.ChangeAt Go.RowKit
open Go.Proofs.Ytnpeocoipodmfaa.Gr
open Go.Proofs.Ytnpeocoipodmfaa.Ev
open Go.Proofs.Ytnpeocoipodmfaa.Va
open Go.Proofs.Ytnpeocoipodmfaa.Bu
open Go.Proofs.Ytnpeocoipodmfaa.Bv
open Go.Proofs.Ytnpeocoipodmfaa.Bs
open Go.Proofs.Ytnpeocoipodmfaa.Be
open Go.Proofs.Ytnpeocoipodmfaa.Le (wpList_append_run)
open Go.Proofs.Ytnpeocoipodmfaa.By (Row Bytes tx)
set_option linter.unusedVariables false
set_option linter.unusedSimpArgs false

theorem fr_of {a v m : Int} (h : fr a v m = true) : a ≤ v ∧ v ≤ m := by
  unfold fr at h
  rw [Bool.and_eq_true, decide_eq_true_eq, decide_eq_true_eq] at h
  exact h
theorem plc_of {p : Pl} (h : plc p = true) : (0 ≤ p.l ∧ p.l ≤ 6) ∧ 1 ≤ p.n ∧ p.n ≤ 2147483647 := by
  unfold plc at h
  rw [Bool.and_eq_true] at h
  exact ⟨fr_of h.1, fr_of h.2⟩
theorem vE_of {lg nx sq : Int} {ps : List Pl} {co : List Ad} (h : vE ⟨lg, nx, sq, ps, co⟩ = true) : (0 ≤ lg ∧ lg ≤ 2147483647) ∧ (0 ≤ nx ∧ nx ≤ 2147483647) ∧ sq ≤ 72057594037927935 ∧ (∀ p ∈ ps, plc p = true) ∧ (∀ x ∈ co, plc x.pl = true ∧ fil x.f = true) := by
  unfold vE goOk coOk at h
  simp only [Bool.and_eq_true, decide_eq_true_eq, List.all_eq_true] at h
  exact ⟨fr_of h.1, fr_of h.2.1, h.2.2.1, h.2.2.2.1.1, fun x hx => h.2.2.2.2.1 x hx⟩
theorem fil_of {f : Fi} (h : fil f = true) : (1 ≤ f.z ∧ f.z ≤ 268435456) ∧ f.a.size ≤ 1024 ∧ f.b.size ≤ 1025 ∧ 1 ≤ f.lo ∧ f.lo ≤ f.hi ∧ f.hi ≤ 72057594037927935 := by
  unfold fil at h
  simp only [Bool.and_eq_true, decide_eq_true_eq] at h
  have h2 := fr_of h.2.1
  exact ⟨fr_of h.1, by omega, by omega, h.2.2.2.2.1, h.2.2.2.2.2.1, h.2.2.2.2.2.2⟩
set_option maxHeartbeats 8000000 in
set_option maxRecDepth 100000 in
theorem encode_yes (v : Value) (e : Ed) (w : World) (HE : EV w v e) (hV : vE e = true) (hg : e.go.length ≤ 4294967296) (hc : e.co.length ≤ 4294967296) :
    Calls Try.prog 9 #[v] w fun en w' => ∃ v', en = .returned (.tuple #[v', .int .i64 0]) ∧ eB.Own w' w.heap.size v' (enc e) ∧ Below w.heap.size w w' := by
  have cV := fun W h => valid_any v e W h
  rw [hV] at cV
  replace cV : Hid (∀ W, EV W v e → Calls Try.prog 11 #[v] W fun en w' => en = .returned (.bool true) ∧ Below W.heap.size W w') := cV
  obtain ⟨lg, nx, sq, ps, co⟩ := e
  have HE2 := hid HE
  obtain ⟨hok, pa, pc, ca, cc, rfl, HP, HC⟩ := HE
  have hsq := hok.2.2.1
  unfold ev at cV HE2 ⊢
  dsimp only at *
  obtain ⟨f1, f2, f3, f4, f5⟩ := vE_of hV
  unfold bu at hsq
  obtain ⟨pn, hpn⟩ : ∃ n, n = ps.length := ⟨_, rfl⟩
  obtain ⟨cn, hcn⟩ : ∃ n, n = co.length := ⟨_, rfl⟩
  rw [← hpn] at HP hg cV HE2 ⊢
  rw [← hcn] at HC hc cV HE2 ⊢
  obtain ⟨gx, hgx⟩ : ∃ g, g = w.heap.size := ⟨_, rfl⟩
  obtain ⟨W1, hW1⟩ : ∃ W, W = w.alloc (.cells #[.int .i64 lg, .int .i64 nx, .int .u64 sq, .slice pa pn pc, .slice ca cn cc] 26) := ⟨_, rfl⟩
  have kx : W1.heap[gx]? = some (.cells #[.int .i64 lg, .int .i64 nx, .int .u64 sq, .slice pa pn pc, .slice ca cn cc] 26) := by rw [hW1, hgx]; exact new_at _ _
  have bx : Below w.heap.size w W1 := by rw [hW1]; exact box_below _ _
  have q0 := cell_of kx 0 _ rfl
  have q1 := cell_of kx 1 _ rfl
  have q2 := cell_of kx 2 _ rfl
  have q3 := cell_of kx 3 _ rfl
  have q4 := cell_of kx 4 _ rfl
  rw [hW1, hgx] at q0 q1 q2 q3 q4
  replace cV := hid (cV W1 (EV.later HE2.out bx))
  clear HE2
  have u1 : Hid (u64 lg) := ⟨by omega, by omega⟩
  have u2 : Hid (u64 nx) := ⟨by omega, by omega⟩
  have u3 : Hid (u64 sq) := ⟨by omega, by omega⟩
  have m1 : IntKind.u64.wrap lg = lg := by rw [IntKind.wrap_u64]; omega
  have m2 : IntKind.u64.wrap nx = nx := by rw [IntKind.wrap_u64]; omega
  have KX : Hid (∀ W, Below W1.heap.size W1 W → W.heap[gx]? = some (.cells #[.int .i64 lg, .int .i64 nx, .int .u64 sq, .slice pa pn pc, .slice ca cn cc] 26)) := fun W b => (b.block _ (blk_lt kx)).trans kx
  have HPl : Hid (∀ W, Below W1.heap.size W1 W → ePl.Sl W pa pn pc ps) := fun W b => HP.later (Below.up bx b)
  have HCl : Hid (∀ W, Below W1.heap.size W1 W → eAd.Sl W ca cn cc co) := fun W b => HC.later (Below.up bx b)
  have hpc := HP.c
  have hcc := HC.c
  have hS : Hid ((sdL ⟨lg, nx, sq, ps, co⟩).length ≤ 33) := sdL_len _
  replace f1 := hid f1
  replace f2 := hid f2
  replace f3 := hid f3
  replace f4 := hid f4
  replace f5 := hid f5
  replace bx := hid bx
  replace hW1 := hid hW1
  replace hgx := hid hgx
  replace hpn := hid hpn
  replace hcn := hid hcn
  clear kx hok hV HP HC hsq
  go_enter Try.func9, Try.ntmps9
  go_wp2_with fail
  rw [← hW1.out, ← hgx.out]
  refine cV.out.mono ?_
  rintro en w2 ⟨rfl, b2⟩
  clear q0 q1 q2 q3 q4
  have kx := KX.out w2 b2
  have q0 := cell_of kx 0 _ rfl
  clear kx
  go_wp2_with fail
  refine (said_any w2.heap.size _ [] 1 lg w2 (El.Own.nil _ _ _) (Nat.le_refl _) u1.out (by simp)).mono ?_
  rintro en w3 ⟨v3, rfl, o3, g3⟩
  have M3 := (Bt.start w2).step g3 o3
  clear o3 g3
  obtain ⟨a3, c3, hv3⟩ := row_block M3.own
  generalize (_ : List Int).length = n3 at hv3
  subst hv3
  clear q0
  have kx := KX.out w3 (Below.up b2 M3.lo)
  have q1 := cell_of kx 1 _ rfl
  clear kx
  go_wp2_with fail
  refine (said_any w2.heap.size _ _ 2 nx w3 M3.own M3.lo.size u2.out (by have := sd_len 1 lg; rw [List.nil_append]; omega)).mono ?_
  rintro en w4 ⟨v4, rfl, o4, g4⟩
  have M4 := M3.step g4 o4
  clear o4 g4 M3
  obtain ⟨a4, c4, hv4⟩ := row_block M4.own
  generalize (_ : List Int).length = n4 at hv4
  subst hv4
  clear q1
  have kx := KX.out w4 (Below.up b2 M4.lo)
  have q2 := cell_of kx 2 _ rfl
  clear kx
  go_wp2_with fail
  refine (said_any w2.heap.size _ _ 3 sq w4 M4.own M4.lo.size u3.out (by have := sd_len 1 lg; have := sd_len 2 nx; rw [List.nil_append, List.length_append]; omega)).mono ?_
  rintro en w5 ⟨v5, rfl, o5, g5⟩
  have M5 := M4.step g5 o5
  rw [List.nil_append] at M5
  change Bt w2 w5 v5 (sdL ⟨lg, nx, sq, ps, co⟩) at M5
  clear o5 g5 M4
  obtain ⟨a5, c5, hv5⟩ := row_block M5.own
  generalize (_ : List Int).length = n5 at hv5
  subst hv5
  clear q2
  generalize hSL : sdL ⟨lg, nx, sq, ps, co⟩ = SL at *
  replace hSL := hid hSL
  have HB : Hid (∀ (W0 W : World) (v0 v' : Value), w2.heap.size ≤ W0.heap.size → Gw W0 W v0 v' → w2.heap.size ≤ W.heap.size) := fun _ _ _ _ h g => Nat.le_trans h g.fp.size
  have kx := KX.out w5 (Below.up b2 M5.lo)
  have q3 := cell_of kx 3 _ rfl
  clear kx
  go_wp2_with fail
  clear q3
  go_loopw [4, 30] (fun vv ii wr => ∃ k : Nat, ii = .int .i64 k ∧ k ≤ pn ∧ Hid (Bt w2 wr vv (SL ++ goL (ps.take k)))) (fun _ ii _ => pn - (intOf ii).toNat)
  case atStart => exact ⟨0, rfl, by omega, by show Bt _ _ _ _; simpa [goL] using M5⟩
  case round =>
    clear M5
    obtain ⟨k, rfl, hk, M⟩ := hrel
    obtain ⟨ra, rc, hra⟩ := row_block M.out.own
    obtain ⟨LL, hLL⟩ : ∃ L, L = SL ++ goL (ps.take k) := ⟨_, rfl⟩
    rw [← hLL] at M hra
    obtain ⟨rn, hrn⟩ : ∃ n, n = LL.length := ⟨_, rfl⟩
    rw [← hrn] at hra
    subst hra
    have hbud : Hid (LL.length ≤ 90194313216 + 33) := by
      show _ ≤ _
      have h1 := goL_len (ps.take k)
      have h2 := hS.out
      rw [hLL, List.length_append]
      rw [List.length_take, Nat.min_eq_left (by have := hpn.out; omega)] at h1
      omega
    replace hLL := hid hLL
    replace hrn := hid hrn
    by_cases hlt : k < pn
    · obtain ⟨pb, po, rfl, hat⟩ := get1 (HPl.out wr (Below.up b2 M.out.lo)) k hlt
      obtain ⟨e1, e2⟩ := pl_at (hat k hlt)
      have hks : k < ps.length := by rw [← hpn.out]; exact hlt
      have htk : Hid (LL ++ goB (ps.getD k zp) = SL ++ goL (ps.take (k + 1))) := by show _ = _; rw [El.take_snoc (E := ePl) hks, goL_snoc, hLL.out, List.append_assoc]; rfl
      have hy := plc_of (f4.out _ (El.get_mem (E := ePl) hks))
      rw [show ePl.z = zp from rfl] at e1 e2 hy
      simp only [show ePl.k = 2 from rfl] at e1 e2
      clear hat hks
      generalize ps.getD k zp = y at *
      obtain ⟨yl, yn⟩ := y
      dsimp only at e1 e2 hy
      have n1 : IntKind.u64.wrap yl = yl := by rw [IntKind.wrap_u64]; omega
      have n2 : IntKind.u64.wrap yn = yn := by rw [IntKind.wrap_u64]; omega
      have hnums : Hid (∀ x ∈ [yl, yn], Go.Proofs.Ytnpeocoipodmfaa.Bv.u64 x) := by
        intro x hx
        simp only [List.mem_cons, List.not_mem_nil, or_false] at hx
        unfold Go.Proofs.Ytnpeocoipodmfaa.Bv.u64
        rcases hx with rfl | rfl <;> omega
      obtain ⟨W3, hW3⟩ : ∃ W, W = wr.alloc (.cells #[.int .i64 yl, .int .i64 yn] 57) := ⟨_, rfl⟩
      obtain ⟨gp, hgp⟩ : ∃ g, g = wr.heap.size := ⟨_, rfl⟩
      have b3 : Below wr.heap.size wr W3 := by rw [hW3]; exact box_below _ _
      have kp : W3.heap[gp]? = some (.cells #[.int .i64 yl, .int .i64 yn] 57) := by rw [hW3, hgp]; exact new_at _ _
      have M3 := M.out.later b3
      have HQ : Hid (∀ V, Ro (.slice ra rn rc) W3 V → V.cell? ⟨gp, 0, none⟩ = some (.int .i64 yl) ∧ V.cell? ⟨gp, 1, none⟩ = some (.int .i64 yn)) := fun V h => by
        have := h.blk M3.own kp (by decide)
        exact ⟨cell_of this 0 _ rfl, cell_of this 1 _ rfl⟩
      have jk0 : (k : Int) < (pn : Int) := by omega
      have jo0 : (0 : Int) ≤ (k : Int) := by omega
      replace HB : Hid (∀ (W : World) (v' : Value), Gw W3 W (.slice ra rn rc) v' → w2.heap.size ≤ W.heap.size) := fun _ _ g => HB.out _ _ _ _ M3.lo.size g
      replace hW3 := hid hW3
      replace hgp := hid hgp
      replace hy := hid hy
      replace M3 := hid M3
      replace M := hid M
      clear b3 kp M
      go_wp2_with fail
      rw [← hW3.out, ← hgp.out]
      refine wp_region_held_drew (S := Ro (.slice ra rn rc) W3) (by kernel_rfl) (Fp.of ((Below.refl _ _).drew)) (fun hS => ?_)
      have hD : Below W3.heap.size W3 W3.drew := (Below.refl _ _).drew
      have OV := hid (M3.out.later hD).own
      have GV := hid ((Gw.refl W3 (.slice ra rn rc)).below hD)
      clear hD
      generalize World.drew W3 = D at *
      refine wpAnyH_take (i := 0) (v := ?v14) rfl (by kernel_rfl) (by kernel_rfl) (by kernel_rfl) (fun _ _ _ h => h) (Or.inl ⟨by rfl, ?h14⟩) hS ?_
      case h14 => (intro W hW; go_simp; try (with_reducible rfl))
      go_simp
      refine wpAnyH_take (i := 3) (v := ?v15) rfl (by kernel_rfl) (by kernel_rfl) (by kernel_rfl) (fun _ _ _ h => h) (Or.inl ⟨by rfl, ?h15⟩) hS ?_
      case h15 => (intro W hW; go_simp; try (with_reducible rfl))
      go_simp
      refine wpAnyH_take (i := 4) (v := ?v16) rfl (by kernel_rfl) (by kernel_rfl) (by kernel_rfl) (fun _ _ _ h => h) (Or.inl ⟨by rfl, ?h16⟩) hS ?_
      case h16 => (intro W hW; have z1 := (HQ.out W hW).1; have z2 := (HQ.out W hW).2; go_simp; try (with_reducible rfl))
      go_simp
      refine wpAnyH_take (i := 5) (v := ?v17) rfl (by kernel_rfl) (by kernel_rfl) (by kernel_rfl) (fun _ _ _ h => h) (Or.inl ⟨by rfl, ?h17⟩) hS ?_
      case h17 => (intro W hW; go_simp; try (with_reducible rfl))
      go_simp
      refine wpAnyH_take (i := 6) (v := ?v18) rfl (by kernel_rfl) (by kernel_rfl) (by kernel_rfl) (fun _ _ _ h => h) (Or.inl ⟨by rfl, ?h18⟩) hS ?_
      case h18 => (intro W hW; go_simp; try (with_reducible rfl))
      go_simp
      refine wpAnyH_take (i := 7) (v := ?v19) rfl (by kernel_rfl) (by kernel_rfl) (by kernel_rfl) (fun _ _ _ h => h) (Or.inl ⟨by rfl, ?h19⟩) hS ?_
      case h19 => (intro W hW; have z1 := (HQ.out W hW).1; have z2 := (HQ.out W hW).2; go_simp; try (with_reducible rfl))
      go_simp
      refine wpAnyH_take (i := 8) (v := ?v20) rfl (by kernel_rfl) (by kernel_rfl) (by kernel_rfl) (fun _ _ _ h => h) (Or.inl ⟨by rfl, ?h20⟩) hS ?_
      case h20 => (intro W hW; go_simp; try (with_reducible rfl))
      go_simp
      refine wpAnyH_ready (rs := [1, 9]) (by kernel_rfl) (by simp) ?_
      refine AllReadyH.cons rfl (fun K hK => ?_) ?_
      · go_simp
        have bb := box_below D (.cells #[.int .u8 4] 5)
        have B1 := hid (new_at D (.cells #[.int .u8 4] 5))
        replace OV := hid (El.Own.later (E := eB) OV.out bb)
        replace GV := hid (GV.out.below bb)
        clear bb
        refine hK.out _ _ GV.out.fp (fun hS => ?_)
        clear hK K
        generalize D.alloc (.cells #[.int .u8 4] 5) = y1 at *
        generalize D.heap.size = g1 at *
        refine wpAnyH_ready (rs := [2, 9]) (by kernel_rfl) (by simp) ?_
        refine AllReadyH.cons rfl (fun K hK => ?_) ?_
        · obtain ⟨a2, c2, y2, r2, o2, g2⟩ := app_src OV.out (HB.out _ _ GV.out) B1.out (by decide) (by have := hbud.out; omega)
          replace GV := hid (GV.out.tr g2)
          replace OV := hid o2
          rw [← hrn.out] at r2 OV GV
          replace r2 := hid r2
          clear g2 o2 B1
          refine wp_append_run (.tmp 34) (.tmp 35) 27 27 rfl (.slice ra rn rc) (.slice (some ⟨g1, 0, none⟩) 1 1) (.slice a2 (rn + 1) c2) (by go_simp) (by go_simp) r2.out ?_
          go_simp
          refine hK.out _ _ GV.out.fp (fun hS => ?_)
          clear hK K
          refine wpAnyH_ready (rs := [9]) (by kernel_rfl) (by simp) ?_
          refine AllReadyH.cons rfl (fun K hK => ?_) ?_
          · go_simp
            have bb := box_below y2 (.cells #[.int .u64 yl, .int .u64 yn] 22)
            have B9 := hid (new_at y2 (.cells #[.int .u64 yl, .int .u64 yn] 22))
            replace OV := hid (El.Own.later (E := eB) OV.out bb)
            replace GV := hid (GV.out.below bb)
            clear bb
            refine hK.out _ _ GV.out.fp (fun hS => ?_)
            clear hK K
            generalize y2.alloc (.cells #[.int .u64 yl, .int .u64 yn] 22) = y9 at *
            generalize y2.heap.size = g9 at *
            refine wpAnyH_ready (rs := [10]) (by kernel_rfl) (by simp) ?_
            refine AllReadyH.cons rfl (fun K hK => ?_) ?_
            · go_simp
              go_wp2_with fail
              refine (numbers_any w2.heap.size g9 2 _ _ [yl, yn] y9 OV.out (HB.out _ _ GV.out) B9.out rfl hnums.out (by rw [List.length_append, List.length_singleton]; have := hbud.out; omega) (by omega)).mono ?_
              rintro en y10 ⟨v10, rfl, o10, g10⟩
              replace GV := hid (GV.out.tr g10)
              clear OV B9
              rw [List.append_assoc] at o10
              obtain ⟨a10, c10, ev10⟩ := row_block o10
              generalize (_ ++ _ : List Int).length = n10 at ev10
              subst ev10
              have OV := hid o10
              clear o10 g10
              refine hK.out _ _ GV.out.fp (fun hS => ?_)
              clear hK K
              refine wpAnyH_take (i := 11) (v := ?v21) rfl (by kernel_rfl) (by kernel_rfl) (by kernel_rfl) (fun _ _ _ h => h) (Or.inl ⟨by rfl, ?h21⟩) hS ?_
              case h21 => (intro W hW; go_simp; try (with_reducible rfl))
              go_simp
              refine wpAnyH_done (by kernel_rfl) ?_ _
              go_wp2_with fail
              go_roundw
              case rel => exact ⟨k + 1, by go_num, by omega, htk.out ▸ M3.out.step GV.out OV.out⟩
              case measure => simp [intOf]; omega
            exact AllReadyH.nil
          exact AllReadyH.nil
        refine AllReadyH.cons rfl (fun K hK => ?_) ?_
        · go_simp
          have bb := box_below y1 (.cells #[.int .u64 yl, .int .u64 yn] 22)
          replace B1 := hid ((bb.block _ (blk_lt B1.out)).trans B1.out)
          have B9 := hid (new_at y1 (.cells #[.int .u64 yl, .int .u64 yn] 22))
          replace OV := hid (El.Own.later (E := eB) OV.out bb)
          replace GV := hid (GV.out.below bb)
          clear bb
          refine hK.out _ _ GV.out.fp (fun hS => ?_)
          clear hK K
          generalize y1.alloc (.cells #[.int .u64 yl, .int .u64 yn] 22) = y9 at *
          generalize y1.heap.size = g9 at *
          refine wpAnyH_ready (rs := [2]) (by kernel_rfl) (by simp) ?_
          refine AllReadyH.cons rfl (fun K hK => ?_) ?_
          · obtain ⟨a2, c2, y2, r2, o2, g2⟩ := app_src OV.out (HB.out _ _ GV.out) B1.out (by decide) (by have := hbud.out; omega)
            replace B9 := hid (g2.blk OV.out B9.out (by decide))
            replace GV := hid (GV.out.tr g2)
            replace OV := hid o2
            rw [← hrn.out] at r2 OV GV
            replace r2 := hid r2
            clear g2 o2 B1
            refine wp_append_run (.tmp 34) (.tmp 35) 27 27 rfl (.slice ra rn rc) (.slice (some ⟨g1, 0, none⟩) 1 1) (.slice a2 (rn + 1) c2) (by go_simp) (by go_simp) r2.out ?_
            go_simp
            refine hK.out _ _ GV.out.fp (fun hS => ?_)
            clear hK K
            refine wpAnyH_ready (rs := [10]) (by kernel_rfl) (by simp) ?_
            refine AllReadyH.cons rfl (fun K hK => ?_) ?_
            · go_simp
              go_wp2_with fail
              refine (numbers_any w2.heap.size g9 2 _ _ [yl, yn] y2 OV.out (HB.out _ _ GV.out) B9.out rfl hnums.out (by rw [List.length_append, List.length_singleton]; have := hbud.out; omega) (by omega)).mono ?_
              rintro en y10 ⟨v10, rfl, o10, g10⟩
              replace GV := hid (GV.out.tr g10)
              clear OV B9
              rw [List.append_assoc] at o10
              obtain ⟨a10, c10, ev10⟩ := row_block o10
              generalize (_ ++ _ : List Int).length = n10 at ev10
              subst ev10
              have OV := hid o10
              clear o10 g10
              refine hK.out _ _ GV.out.fp (fun hS => ?_)
              clear hK K
              refine wpAnyH_take (i := 11) (v := ?v22) rfl (by kernel_rfl) (by kernel_rfl) (by kernel_rfl) (fun _ _ _ h => h) (Or.inl ⟨by rfl, ?h22⟩) hS ?_
              case h22 => (intro W hW; go_simp; try (with_reducible rfl))
              go_simp
              refine wpAnyH_done (by kernel_rfl) ?_ _
              go_wp2_with fail
              go_roundw
              case rel => exact ⟨k + 1, by go_num, by omega, htk.out ▸ M3.out.step GV.out OV.out⟩
              case measure => simp [intOf]; omega
            exact AllReadyH.nil
          exact AllReadyH.nil
        exact AllReadyH.nil
      refine AllReadyH.cons rfl (fun K hK => ?_) ?_
      · go_simp
        have bb := box_below D (.cells #[.int .u64 yl, .int .u64 yn] 22)
        have B9 := hid (new_at D (.cells #[.int .u64 yl, .int .u64 yn] 22))
        replace OV := hid (El.Own.later (E := eB) OV.out bb)
        replace GV := hid (GV.out.below bb)
        clear bb
        refine hK.out _ _ GV.out.fp (fun hS => ?_)
        clear hK K
        generalize D.alloc (.cells #[.int .u64 yl, .int .u64 yn] 22) = y9 at *
        generalize D.heap.size = g9 at *
        refine wpAnyH_ready (rs := [1]) (by kernel_rfl) (by simp) ?_
        refine AllReadyH.cons rfl (fun K hK => ?_) ?_
        · go_simp
          have bb := box_below y9 (.cells #[.int .u8 4] 5)
          replace B9 := hid ((bb.block _ (blk_lt B9.out)).trans B9.out)
          have B1 := hid (new_at y9 (.cells #[.int .u8 4] 5))
          replace OV := hid (El.Own.later (E := eB) OV.out bb)
          replace GV := hid (GV.out.below bb)
          clear bb
          refine hK.out _ _ GV.out.fp (fun hS => ?_)
          clear hK K
          generalize y9.alloc (.cells #[.int .u8 4] 5) = y1 at *
          generalize y9.heap.size = g1 at *
          refine wpAnyH_ready (rs := [2]) (by kernel_rfl) (by simp) ?_
          refine AllReadyH.cons rfl (fun K hK => ?_) ?_
          · obtain ⟨a2, c2, y2, r2, o2, g2⟩ := app_src OV.out (HB.out _ _ GV.out) B1.out (by decide) (by have := hbud.out; omega)
            replace B9 := hid (g2.blk OV.out B9.out (by decide))
            replace GV := hid (GV.out.tr g2)
            replace OV := hid o2
            rw [← hrn.out] at r2 OV GV
            replace r2 := hid r2
            clear g2 o2 B1
            refine wp_append_run (.tmp 34) (.tmp 35) 27 27 rfl (.slice ra rn rc) (.slice (some ⟨g1, 0, none⟩) 1 1) (.slice a2 (rn + 1) c2) (by go_simp) (by go_simp) r2.out ?_
            go_simp
            refine hK.out _ _ GV.out.fp (fun hS => ?_)
            clear hK K
            refine wpAnyH_ready (rs := [10]) (by kernel_rfl) (by simp) ?_
            refine AllReadyH.cons rfl (fun K hK => ?_) ?_
            · go_simp
              go_wp2_with fail
              refine (numbers_any w2.heap.size g9 2 _ _ [yl, yn] y2 OV.out (HB.out _ _ GV.out) B9.out rfl hnums.out (by rw [List.length_append, List.length_singleton]; have := hbud.out; omega) (by omega)).mono ?_
              rintro en y10 ⟨v10, rfl, o10, g10⟩
              replace GV := hid (GV.out.tr g10)
              clear OV B9
              rw [List.append_assoc] at o10
              obtain ⟨a10, c10, ev10⟩ := row_block o10
              generalize (_ ++ _ : List Int).length = n10 at ev10
              subst ev10
              have OV := hid o10
              clear o10 g10
              refine hK.out _ _ GV.out.fp (fun hS => ?_)
              clear hK K
              refine wpAnyH_take (i := 11) (v := ?v23) rfl (by kernel_rfl) (by kernel_rfl) (by kernel_rfl) (fun _ _ _ h => h) (Or.inl ⟨by rfl, ?h23⟩) hS ?_
              case h23 => (intro W hW; go_simp; try (with_reducible rfl))
              go_simp
              refine wpAnyH_done (by kernel_rfl) ?_ _
              go_wp2_with fail
              go_roundw
              case rel => exact ⟨k + 1, by go_num, by omega, htk.out ▸ M3.out.step GV.out OV.out⟩
              case measure => simp [intOf]; omega
            exact AllReadyH.nil
          exact AllReadyH.nil
        exact AllReadyH.nil
      exact AllReadyH.nil

    · have hke : k = pn := by omega
      subst hke
      have M0 : Bt w2 wr (.slice ra rn rc) (SL ++ goL ps) := by
        have h := M.out
        rw [hLL.out, show ps.take k = ps by rw [hpn.out, List.take_length]] at h
        exact h
      clear M hbud hLL hrn
      have kx := KX.out wr (Below.up b2 M0.lo)
      have q4 := cell_of kx 4 _ rfl
      clear kx
      go_wp2_with fail
      clear q4
      replace M0 := hid M0
      go_loopw [4, 49] (fun vv ii wr => ∃ j : Nat, ii = .int .i64 j ∧ j ≤ cn ∧ Hid (Bt w2 wr vv (SL ++ goL ps ++ coL (co.take j)))) (fun _ ii _ => cn - (intOf ii).toNat)
      case atStart => exact ⟨0, rfl, by omega, by show Bt _ _ _ _; simpa [coL] using M0.out⟩
      case round =>
        clear M0
        rename_i wr0
        obtain ⟨j, rfl, hj, M⟩ := hrel
        obtain ⟨sa, sc, hsa⟩ := row_block M.out.own
        obtain ⟨LL, hLL⟩ : ∃ L, L = SL ++ goL ps ++ coL (co.take j) := ⟨_, rfl⟩
        rw [← hLL] at M hsa
        obtain ⟨sn, hsn⟩ : ∃ n, n = LL.length := ⟨_, rfl⟩
        rw [← hsn] at hsa
        subst hsa
        have hbud : Hid (LL.length ≤ 9195525000000) := by
          show _ ≤ _
          have h1 := goL_len ps
          have h3 := coL_len (co.take j) (fun x hx => ⟨(fil_of (f5.out x (List.mem_of_mem_take hx)).2).2.1, (fil_of (f5.out x (List.mem_of_mem_take hx)).2).2.2.1⟩)
          have h2 := hS.out
          have h4 := hpn.out
          rw [hLL, List.length_append, List.length_append]
          rw [List.length_take, Nat.min_eq_left (by have := hcn.out; omega)] at h3
          omega
        replace hLL := hid hLL
        replace hsn := hid hsn
        by_cases hlt2 : j < cn
        · obtain ⟨pb, po, rfl, hat⟩ := get1 (HCl.out wr (Below.up b2 M.out.lo)) j hlt2
          obtain ⟨e1, e2, e3, e4, e5, e6, e7⟩ := ad_at (hat j hlt2)
          have hks : j < co.length := by rw [← hcn.out]; exact hlt2
          have htk : Hid (LL ++ coB (co.getD j za) = SL ++ goL ps ++ coL (co.take (j + 1))) := by show _ = _; rw [El.take_snoc (E := eAd) hks, coL_snoc, hLL.out, List.append_assoc]; rfl
          have hy := f5.out _ (El.get_mem (E := eAd) hks)
          rw [show eAd.z = za from rfl] at e1 e2 e3 e4 e5 e6 e7 hy
          simp only [show eAd.k = 7 from rfl] at e1 e2 e3 e4 e5 e6 e7
          clear hat hks
          generalize co.getD j za = y at *
          obtain ⟨yl, yn, yz, ya, yb, ylo, yhi⟩ := y
          unfold Ad.pl at hy
          dsimp only at e1 e2 e3 e4 e5 e6 e7 hy
          have hy1 := plc_of hy.1
          have hy2 := fil_of hy.2
          dsimp only at hy1 hy2
          clear hy
          have n1 : IntKind.u64.wrap yl = yl := by rw [IntKind.wrap_u64]; omega
          have n2 : IntKind.u64.wrap yn = yn := by rw [IntKind.wrap_u64]; omega
          have n3 : IntKind.u64.wrap yz = yz := by rw [IntKind.wrap_u64]; omega
          have hnums : Hid (∀ x ∈ [yl, yn, yz], Go.Proofs.Ytnpeocoipodmfaa.Bv.u64 x) := by
            intro x hx
            simp only [List.mem_cons, List.not_mem_nil, or_false] at hx
            unfold Go.Proofs.Ytnpeocoipodmfaa.Bv.u64
            rcases hx with rfl | rfl | rfl <;> omega
          have hnums2 : Hid (∀ x ∈ [ylo, yhi], Go.Proofs.Ytnpeocoipodmfaa.Bv.u64 x) := by
            intro x hx
            simp only [List.mem_cons, List.not_mem_nil, or_false] at hx
            unfold Go.Proofs.Ytnpeocoipodmfaa.Bv.u64
            rcases hx with rfl | rfl <;> omega
          have hya : Hid (ya.size ≤ 1024) := hy2.2.1
          have hyb : Hid (yb.size ≤ 1025) := hy2.2.2.1
          clear hy1 hy2
          have kb := new_at wr (.cells #[.int .i64 yl, .int .i64 yn, .int .i64 yz, .string ya, .string yb, .int .u64 ylo, .int .u64 yhi] 60)
          have z1 := cell_of kb 1 _ rfl
          have z2 := cell_of kb 2 _ rfl
          have z3 := cell_of kb 3 _ rfl
          have z4 := cell_of kb 4 _ rfl
          have z5 := cell_of kb 5 _ rfl
          have z6 := cell_of kb 6 _ rfl
          obtain ⟨W4, hW4⟩ : ∃ W, W = (wr.alloc (.cells #[.int .i64 yl, .int .i64 yn, .int .i64 yz, .string ya, .string yb, .int .u64 ylo, .int .u64 yhi] 60)).alloc (.cells #[.int .i64 yn, .int .i64 yz, .string ya, .string yb, .int .u64 ylo, .int .u64 yhi] 51) := ⟨_, rfl⟩
          obtain ⟨gp, hgp⟩ : ∃ g, g = wr.heap.size := ⟨_, rfl⟩
          obtain ⟨gf, hgf⟩ : ∃ g, g = wr.heap.size + 1 := ⟨_, rfl⟩
          have b4 : Below wr.heap.size wr W4 := by rw [hW4]; exact Below.up (box_below _ _) (box_below _ _)
          have kp : W4.heap[gp]? = some (.cells #[.int .i64 yl, .int .i64 yn, .int .i64 yz, .string ya, .string yb, .int .u64 ylo, .int .u64 yhi] 60) := by rw [hW4, hgp]; exact ((box_below _ _).block _ (blk_lt kb)).trans kb
          have kf : W4.heap[gf]? = some (.cells #[.int .i64 yn, .int .i64 yz, .string ya, .string yb, .int .u64 ylo, .int .u64 yhi] 51) := by
            rw [hW4, hgf]
            have := new_at (wr.alloc (.cells #[.int .i64 yl, .int .i64 yn, .int .i64 yz, .string ya, .string yb, .int .u64 ylo, .int .u64 yhi] 60)) (.cells #[.int .i64 yn, .int .i64 yz, .string ya, .string yb, .int .u64 ylo, .int .u64 yhi] 51)
            rw [size_alloc] at this
            exact this
          have M4 := M.out.later b4
          have HQ : Hid (∀ V, Ro (.slice sa sn sc) W4 V → V.cell? ⟨gp, 0, none⟩ = some (.int .i64 yl) ∧ V.cell? ⟨gf, 0, none⟩ = some (.int .i64 yn) ∧ V.cell? ⟨gf, 1, none⟩ = some (.int .i64 yz) ∧ V.cell? ⟨gf, 2, none⟩ = some (.string ya) ∧ V.cell? ⟨gf, 3, none⟩ = some (.string yb) ∧ V.cell? ⟨gf, 4, none⟩ = some (.int .u64 ylo) ∧ V.cell? ⟨gf, 5, none⟩ = some (.int .u64 yhi)) := fun V h => by
            have h1 := h.blk M4.own kp (by decide)
            have h2 := h.blk M4.own kf (by decide)
            exact ⟨cell_of h1 0 _ rfl, cell_of h2 0 _ rfl, cell_of h2 1 _ rfl, cell_of h2 2 _ rfl, cell_of h2 3 _ rfl, cell_of h2 4 _ rfl, cell_of h2 5 _ rfl⟩
          have jk0 : (j : Int) < (cn : Int) := by omega
          have jo0 : (0 : Int) ≤ (j : Int) := by omega
          replace HB : Hid (∀ (W : World) (v' : Value), Gw W4 W (.slice sa sn sc) v' → w2.heap.size ≤ W.heap.size) := fun _ _ g => HB.out _ _ _ _ M4.lo.size g
          replace hW4 := hid hW4
          replace hgp := hid hgp
          replace hgf := hid hgf
          replace M4 := hid M4
          clear b4 kp kf M kb
          go_wp2_with fail
          rw [← hW4.out, ← hgf.out, ← hgp.out]
          clear z1 z2 z3 z4 z5 z6 e1 e2 e3 e4 e5 e6 e7
          refine wp_region_held_drew (S := Ro (.slice sa sn sc) W4) (by kernel_rfl) (Fp.of ((Below.refl _ _).drew)) (fun hS => ?_)
          have hD : Below W4.heap.size W4 W4.drew := (Below.refl _ _).drew
          have OV := hid (M4.out.later hD).own
          have GV := hid ((Gw.refl W4 (.slice sa sn sc)).below hD)
          clear hD
          generalize World.drew W4 = D at *
          refine wpAnyH_take (i := 0) (v := ?v1) rfl (by kernel_rfl) (by kernel_rfl) (by kernel_rfl) (fun _ _ _ h => h) (Or.inl ⟨by rfl, ?h1⟩) hS ?_
          case h1 => (intro W hW; go_simp; try (with_reducible rfl))
          go_simp
          refine wpAnyH_take (i := 3) (v := ?v2) rfl (by kernel_rfl) (by kernel_rfl) (by kernel_rfl) (fun _ _ _ h => h) (Or.inl ⟨by rfl, ?h2⟩) hS ?_
          case h2 => (intro W hW; go_simp; try (with_reducible rfl))
          go_simp
          refine wpAnyH_take (i := 4) (v := ?v3) rfl (by kernel_rfl) (by kernel_rfl) (by kernel_rfl) (fun _ _ _ h => h) (Or.inl ⟨by rfl, ?h3⟩) hS ?_
          case h3 => (intro W hW; have z1 := (HQ.out W hW).1; go_simp; try (with_reducible rfl))
          go_simp
          refine wpAnyH_take (i := 5) (v := ?v4) rfl (by kernel_rfl) (by kernel_rfl) (by kernel_rfl) (fun _ _ _ h => h) (Or.inl ⟨by rfl, ?h4⟩) hS ?_
          case h4 => (intro W hW; go_simp; try (with_reducible rfl))
          go_simp
          refine wpAnyH_take (i := 6) (v := ?v5) rfl (by kernel_rfl) (by kernel_rfl) (by kernel_rfl) (fun _ _ _ h => h) (Or.inl ⟨by rfl, ?h5⟩) hS ?_
          case h5 => (intro W hW; go_simp; try (with_reducible rfl))
          go_simp
          refine wpAnyH_take (i := 7) (v := ?v6) rfl (by kernel_rfl) (by kernel_rfl) (by kernel_rfl) (fun _ _ _ h => h) (Or.inl ⟨by rfl, ?h6⟩) hS ?_
          case h6 => (intro W hW; have z1 := (HQ.out W hW).2.1; go_simp; try (with_reducible rfl))
          go_simp
          refine wpAnyH_take (i := 8) (v := ?v7) rfl (by kernel_rfl) (by kernel_rfl) (by kernel_rfl) (fun _ _ _ h => h) (Or.inl ⟨by rfl, ?h7⟩) hS ?_
          case h7 => (intro W hW; go_simp; try (with_reducible rfl))
          go_simp
          refine wpAnyH_take (i := 9) (v := ?v8) rfl (by kernel_rfl) (by kernel_rfl) (by kernel_rfl) (fun _ _ _ h => h) (Or.inl ⟨by rfl, ?h8⟩) hS ?_
          case h8 => (intro W hW; go_simp; try (with_reducible rfl))
          go_simp
          refine wpAnyH_take (i := 10) (v := ?v9) rfl (by kernel_rfl) (by kernel_rfl) (by kernel_rfl) (fun _ _ _ h => h) (Or.inl ⟨by rfl, ?h9⟩) hS ?_
          case h9 => (intro W hW; have z1 := (HQ.out W hW).2.2.1; go_simp; try (with_reducible rfl))
          go_simp
          refine wpAnyH_take (i := 11) (v := ?v10) rfl (by kernel_rfl) (by kernel_rfl) (by kernel_rfl) (fun _ _ _ h => h) (Or.inl ⟨by rfl, ?h10⟩) hS ?_
          case h10 => (intro W hW; go_simp; try (with_reducible rfl))
          go_simp
          refine wpAnyH_ready (rs := [1, 12]) (by kernel_rfl) (by simp) ?_
          refine AllReadyH.cons rfl (fun K hK => ?_) ?_
          · go_simp
            have bb := box_below D (.cells #[.int .u8 5] 5)
            have B1 := hid (new_at D (.cells #[.int .u8 5] 5))
            replace OV := hid (El.Own.later (E := eB) OV.out bb)
            replace GV := hid (GV.out.below bb)
            clear bb
            refine hK.out _ _ GV.out.fp (fun hS => ?_)
            clear hK K
            generalize D.alloc (.cells #[.int .u8 5] 5) = y1 at *
            generalize D.heap.size = g1 at *
            refine wpAnyH_ready (rs := [2, 12]) (by kernel_rfl) (by simp) ?_
            refine AllReadyH.cons rfl (fun K hK => ?_) ?_
            · obtain ⟨a2, c2, y2, r2, o2, g2⟩ := app_src OV.out (HB.out _ _ GV.out) B1.out (by decide) (by have := hbud.out; omega)
              replace GV := hid (GV.out.tr g2)
              replace OV := hid o2
              rw [← hsn.out] at r2 OV GV
              replace r2 := hid r2
              clear g2 o2 B1
              refine wp_append_run (.tmp 55) (.tmp 56) 27 27 rfl (.slice sa sn sc) (.slice (some ⟨g1, 0, none⟩) 1 1) (.slice a2 (sn + 1) c2) (by go_simp) (by go_simp) r2.out ?_
              go_simp
              refine hK.out _ _ GV.out.fp (fun hS => ?_)
              clear hK K
              refine wpAnyH_ready (rs := [12]) (by kernel_rfl) (by simp) ?_
              refine AllReadyH.cons rfl (fun K hK => ?_) ?_
              · go_simp
                have bb := box_below y2 (.cells #[.int .u64 yl, .int .u64 yn, .int .u64 yz] 22)
                have B9 := hid (new_at y2 (.cells #[.int .u64 yl, .int .u64 yn, .int .u64 yz] 22))
                replace OV := hid (El.Own.later (E := eB) OV.out bb)
                replace GV := hid (GV.out.below bb)
                clear bb
                refine hK.out _ _ GV.out.fp (fun hS => ?_)
                clear hK K
                generalize y2.alloc (.cells #[.int .u64 yl, .int .u64 yn, .int .u64 yz] 22) = y12 at *
                generalize y2.heap.size = g12 at *
                refine wpAnyH_ready (rs := [13]) (by kernel_rfl) (by simp) ?_
                refine AllReadyH.cons rfl (fun K hK => ?_) ?_
                · go_simp
                  go_wp2_with fail
                  refine (numbers_any w2.heap.size g12 3 _ _ [yl, yn, yz] y12 OV.out (HB.out _ _ GV.out) B9.out rfl hnums.out (by rw [List.length_append, List.length_singleton]; have := hbud.out; omega) (by omega)).mono ?_
                  rintro en y13 ⟨v13, rfl, o13, g13⟩
                  replace GV := hid (GV.out.tr g13)
                  clear OV B9
                  rw [List.append_assoc] at o13
                  obtain ⟨a13, c13, ev13⟩ := row_block o13
                  generalize (_ ++ _ : List Int).length = n13 at ev13
                  subst ev13
                  have OV := hid o13
                  clear o13 g13
                  refine hK.out _ _ GV.out.fp (fun hS => ?_)
                  clear hK K
                  refine wpAnyH_take (i := 14) (v := ?v11) rfl (by kernel_rfl) (by kernel_rfl) (by kernel_rfl) (fun _ _ _ h => h) (Or.inl ⟨by rfl, ?h11⟩) hS ?_
                  case h11 => (intro W hW; go_simp; try (with_reducible rfl))
                  go_simp
                  refine wpAnyH_done (by kernel_rfl) ?_ _
                  have z2 := (HQ.out _ hS).2.2.2.1
                  go_wp2_with fail
                  refine (putt_nil ya (by have := hya.out; omega) y13).mono ?_
                  rintro en w6 ⟨n6, c6, rfl, h6, R6, b6⟩
                  obtain ⟨v7, W7, r7, o7, g7⟩ := app_row OV.out (HB.out _ _ GV.out) b6 R6 (txB_ok ya (by have := hya.out; omega)) (by have h1 := hbud.out; have h2 := vbs_len [yl, yn, yz]; have h3 := hya.out; simp only [List.length_append, List.length_cons, List.length_nil] at *; omega)
                  have G7 := hid (GV.out.tr g7)
                  clear z2 hS GV g7 b6 R6 h6
                  obtain ⟨a7, c7, e7⟩ := row_block o7
                  generalize (_ ++ _ : List Int).length = n7 at e7
                  subst e7
                  have z3 := (HQ.out _ G7.out.fp).2.2.2.2.1
                  replace o7 := hid o7
                  replace r7 := hid r7
                  go_wp2_with (first | (at_builtin; go_loud (refine wpList_append_run rfl (.tmp 69) (.tmp 72) 27 27 rfl (.slice a13 n13 c13) (.slice (some ⟨y13.heap.size, 0, none⟩) n6 c6) (.slice a7 n7 c7) rfl rfl r7.out ?_)))
                  refine (putt_nil yb (by have := hyb.out; omega) W7).mono ?_
                  rintro en w8 ⟨n8, c8, rfl, h8, R8, b8⟩
                  obtain ⟨v9, W9, r9, o9, g9⟩ := app_row o7.out (HB.out _ _ G7.out) b8 R8 (txB_ok yb (by have := hyb.out; omega)) (by have h1 := hbud.out; have h2 := vbs_len [yl, yn, yz]; have h3 := hya.out; have h4 := hyb.out; have h5 := txB_len ya; simp only [List.length_append, List.length_cons, List.length_nil] at *; omega)
                  have G9 := hid (G7.out.tr g9)
                  clear z3 G7 g9 b8 R8 h8 OV r7
                  obtain ⟨a9, c9, e9⟩ := row_block o9
                  generalize (_ ++ _ : List Int).length = n9 at e9
                  subst e9
                  have z4 := (HQ.out _ G9.out.fp).2.2.2.2.2.1
                  have z5 := (HQ.out _ G9.out.fp).2.2.2.2.2.2
                  have K9 := hid (new_at W9 (.cells #[.int .u64 ylo, .int .u64 yhi] 22))
                  have b9 := box_below W9 (.cells #[.int .u64 ylo, .int .u64 yhi] 22)
                  have s9 : Hid (w2.heap.size ≤ (W9.alloc (.cells #[.int .u64 ylo, .int .u64 yhi] 22)).heap.size) := Nat.le_trans (HB.out _ _ G9.out) b9.size
                  have O9 := hid (El.Own.later (E := eB) o9 b9)
                  have G10 := hid (G9.out.below b9)
                  have r9' := hid r9
                  clear b9 o9 r9 o7 G9
                  go_wp2_with (first | (at_builtin; go_loud (refine wpList_append_run rfl (.tmp 74) (.tmp 77) 27 27 rfl (.slice a7 n7 c7) (.slice (some ⟨W7.heap.size, 0, none⟩) n8 c8) (.slice a9 n9 c9) rfl rfl r9'.out ?_)))
                  refine (numbers_any w2.heap.size W9.heap.size 2 _ _ [ylo, yhi] _ O9.out s9.out K9.out rfl hnums2.out (by have h1 := hbud.out; have h2 := vbs_len [yl, yn, yz]; have h3 := hya.out; have h4 := hyb.out; have h5 := txB_len ya; have h6 := txB_len yb; simp only [List.length_append, List.length_cons, List.length_nil] at *; omega) (by omega)).mono ?_
                  rintro en w10 ⟨v10, rfl, o10, g10⟩
                  have M10 : Bt w2 w10 v10 (LL ++ coB ⟨yl, yn, yz, ya, yb, ylo, yhi⟩) := M4.out.step (G10.out.tr g10) (by
                    have e : LL ++ 5 :: vbs [yl, yn, yz] ++ txB ya ++ txB yb ++ vbs [ylo, yhi] = LL ++ coB ⟨yl, yn, yz, ya, yb, ylo, yhi⟩ := by unfold coB; simp only [List.append_assoc, List.cons_append]
                    rw [← e]; exact o10)
                  clear o10 g10 z4 z5 O9 K9 G10
                  rw [htk.out] at M10
                  obtain ⟨a10, c10, e10⟩ := row_block M10.own
                  generalize (_ : List Int).length = n10 at e10
                  subst e10
                  replace M10 := hid M10
                  go_wp2_with fail
                  go_roundw
                  case rel => exact ⟨j + 1, by go_num, by omega, M10⟩
                  case measure => simp [intOf]; omega
                exact AllReadyH.nil
              exact AllReadyH.nil
            refine AllReadyH.cons rfl (fun K hK => ?_) ?_
            · go_simp
              have bb := box_below y1 (.cells #[.int .u64 yl, .int .u64 yn, .int .u64 yz] 22)
              replace B1 := hid ((bb.block _ (blk_lt B1.out)).trans B1.out)
              have B9 := hid (new_at y1 (.cells #[.int .u64 yl, .int .u64 yn, .int .u64 yz] 22))
              replace OV := hid (El.Own.later (E := eB) OV.out bb)
              replace GV := hid (GV.out.below bb)
              clear bb
              refine hK.out _ _ GV.out.fp (fun hS => ?_)
              clear hK K
              generalize y1.alloc (.cells #[.int .u64 yl, .int .u64 yn, .int .u64 yz] 22) = y12 at *
              generalize y1.heap.size = g12 at *
              refine wpAnyH_ready (rs := [2]) (by kernel_rfl) (by simp) ?_
              refine AllReadyH.cons rfl (fun K hK => ?_) ?_
              · obtain ⟨a2, c2, y2, r2, o2, g2⟩ := app_src OV.out (HB.out _ _ GV.out) B1.out (by decide) (by have := hbud.out; omega)
                replace B9 := hid (g2.blk OV.out B9.out (by decide))
                replace GV := hid (GV.out.tr g2)
                replace OV := hid o2
                rw [← hsn.out] at r2 OV GV
                replace r2 := hid r2
                clear g2 o2 B1
                refine wp_append_run (.tmp 55) (.tmp 56) 27 27 rfl (.slice sa sn sc) (.slice (some ⟨g1, 0, none⟩) 1 1) (.slice a2 (sn + 1) c2) (by go_simp) (by go_simp) r2.out ?_
                go_simp
                refine hK.out _ _ GV.out.fp (fun hS => ?_)
                clear hK K
                refine wpAnyH_ready (rs := [13]) (by kernel_rfl) (by simp) ?_
                refine AllReadyH.cons rfl (fun K hK => ?_) ?_
                · go_simp
                  go_wp2_with fail
                  refine (numbers_any w2.heap.size g12 3 _ _ [yl, yn, yz] y2 OV.out (HB.out _ _ GV.out) B9.out rfl hnums.out (by rw [List.length_append, List.length_singleton]; have := hbud.out; omega) (by omega)).mono ?_
                  rintro en y13 ⟨v13, rfl, o13, g13⟩
                  replace GV := hid (GV.out.tr g13)
                  clear OV B9
                  rw [List.append_assoc] at o13
                  obtain ⟨a13, c13, ev13⟩ := row_block o13
                  generalize (_ ++ _ : List Int).length = n13 at ev13
                  subst ev13
                  have OV := hid o13
                  clear o13 g13
                  refine hK.out _ _ GV.out.fp (fun hS => ?_)
                  clear hK K
                  refine wpAnyH_take (i := 14) (v := ?v12) rfl (by kernel_rfl) (by kernel_rfl) (by kernel_rfl) (fun _ _ _ h => h) (Or.inl ⟨by rfl, ?h12⟩) hS ?_
                  case h12 => (intro W hW; go_simp; try (with_reducible rfl))
                  go_simp
                  refine wpAnyH_done (by kernel_rfl) ?_ _
                  have z2 := (HQ.out _ hS).2.2.2.1
                  go_wp2_with fail
                  refine (putt_nil ya (by have := hya.out; omega) y13).mono ?_
                  rintro en w6 ⟨n6, c6, rfl, h6, R6, b6⟩
                  obtain ⟨v7, W7, r7, o7, g7⟩ := app_row OV.out (HB.out _ _ GV.out) b6 R6 (txB_ok ya (by have := hya.out; omega)) (by have h1 := hbud.out; have h2 := vbs_len [yl, yn, yz]; have h3 := hya.out; simp only [List.length_append, List.length_cons, List.length_nil] at *; omega)
                  have G7 := hid (GV.out.tr g7)
                  clear z2 hS GV g7 b6 R6 h6
                  obtain ⟨a7, c7, e7⟩ := row_block o7
                  generalize (_ ++ _ : List Int).length = n7 at e7
                  subst e7
                  have z3 := (HQ.out _ G7.out.fp).2.2.2.2.1
                  replace o7 := hid o7
                  replace r7 := hid r7
                  go_wp2_with (first | (at_builtin; go_loud (refine wpList_append_run rfl (.tmp 69) (.tmp 72) 27 27 rfl (.slice a13 n13 c13) (.slice (some ⟨y13.heap.size, 0, none⟩) n6 c6) (.slice a7 n7 c7) rfl rfl r7.out ?_)))
                  refine (putt_nil yb (by have := hyb.out; omega) W7).mono ?_
                  rintro en w8 ⟨n8, c8, rfl, h8, R8, b8⟩
                  obtain ⟨v9, W9, r9, o9, g9⟩ := app_row o7.out (HB.out _ _ G7.out) b8 R8 (txB_ok yb (by have := hyb.out; omega)) (by have h1 := hbud.out; have h2 := vbs_len [yl, yn, yz]; have h3 := hya.out; have h4 := hyb.out; have h5 := txB_len ya; simp only [List.length_append, List.length_cons, List.length_nil] at *; omega)
                  have G9 := hid (G7.out.tr g9)
                  clear z3 G7 g9 b8 R8 h8 OV r7
                  obtain ⟨a9, c9, e9⟩ := row_block o9
                  generalize (_ ++ _ : List Int).length = n9 at e9
                  subst e9
                  have z4 := (HQ.out _ G9.out.fp).2.2.2.2.2.1
                  have z5 := (HQ.out _ G9.out.fp).2.2.2.2.2.2
                  have K9 := hid (new_at W9 (.cells #[.int .u64 ylo, .int .u64 yhi] 22))
                  have b9 := box_below W9 (.cells #[.int .u64 ylo, .int .u64 yhi] 22)
                  have s9 : Hid (w2.heap.size ≤ (W9.alloc (.cells #[.int .u64 ylo, .int .u64 yhi] 22)).heap.size) := Nat.le_trans (HB.out _ _ G9.out) b9.size
                  have O9 := hid (El.Own.later (E := eB) o9 b9)
                  have G10 := hid (G9.out.below b9)
                  have r9' := hid r9
                  clear b9 o9 r9 o7 G9
                  go_wp2_with (first | (at_builtin; go_loud (refine wpList_append_run rfl (.tmp 74) (.tmp 77) 27 27 rfl (.slice a7 n7 c7) (.slice (some ⟨W7.heap.size, 0, none⟩) n8 c8) (.slice a9 n9 c9) rfl rfl r9'.out ?_)))
                  refine (numbers_any w2.heap.size W9.heap.size 2 _ _ [ylo, yhi] _ O9.out s9.out K9.out rfl hnums2.out (by have h1 := hbud.out; have h2 := vbs_len [yl, yn, yz]; have h3 := hya.out; have h4 := hyb.out; have h5 := txB_len ya; have h6 := txB_len yb; simp only [List.length_append, List.length_cons, List.length_nil] at *; omega) (by omega)).mono ?_
                  rintro en w10 ⟨v10, rfl, o10, g10⟩
                  have M10 : Bt w2 w10 v10 (LL ++ coB ⟨yl, yn, yz, ya, yb, ylo, yhi⟩) := M4.out.step (G10.out.tr g10) (by
                    have e : LL ++ 5 :: vbs [yl, yn, yz] ++ txB ya ++ txB yb ++ vbs [ylo, yhi] = LL ++ coB ⟨yl, yn, yz, ya, yb, ylo, yhi⟩ := by unfold coB; simp only [List.append_assoc, List.cons_append]
                    rw [← e]; exact o10)
                  clear o10 g10 z4 z5 O9 K9 G10
                  rw [htk.out] at M10
                  obtain ⟨a10, c10, e10⟩ := row_block M10.own
                  generalize (_ : List Int).length = n10 at e10
                  subst e10
                  replace M10 := hid M10
                  go_wp2_with fail
                  go_roundw
                  case rel => exact ⟨j + 1, by go_num, by omega, M10⟩
                  case measure => simp [intOf]; omega
                exact AllReadyH.nil
              exact AllReadyH.nil
            exact AllReadyH.nil
          refine AllReadyH.cons rfl (fun K hK => ?_) ?_
          · go_simp
            have bb := box_below D (.cells #[.int .u64 yl, .int .u64 yn, .int .u64 yz] 22)
            have B9 := hid (new_at D (.cells #[.int .u64 yl, .int .u64 yn, .int .u64 yz] 22))
            replace OV := hid (El.Own.later (E := eB) OV.out bb)
            replace GV := hid (GV.out.below bb)
            clear bb
            refine hK.out _ _ GV.out.fp (fun hS => ?_)
            clear hK K
            generalize D.alloc (.cells #[.int .u64 yl, .int .u64 yn, .int .u64 yz] 22) = y12 at *
            generalize D.heap.size = g12 at *
            refine wpAnyH_ready (rs := [1]) (by kernel_rfl) (by simp) ?_
            refine AllReadyH.cons rfl (fun K hK => ?_) ?_
            · go_simp
              have bb := box_below y12 (.cells #[.int .u8 5] 5)
              replace B9 := hid ((bb.block _ (blk_lt B9.out)).trans B9.out)
              have B1 := hid (new_at y12 (.cells #[.int .u8 5] 5))
              replace OV := hid (El.Own.later (E := eB) OV.out bb)
              replace GV := hid (GV.out.below bb)
              clear bb
              refine hK.out _ _ GV.out.fp (fun hS => ?_)
              clear hK K
              generalize y12.alloc (.cells #[.int .u8 5] 5) = y1 at *
              generalize y12.heap.size = g1 at *
              refine wpAnyH_ready (rs := [2]) (by kernel_rfl) (by simp) ?_
              refine AllReadyH.cons rfl (fun K hK => ?_) ?_
              · obtain ⟨a2, c2, y2, r2, o2, g2⟩ := app_src OV.out (HB.out _ _ GV.out) B1.out (by decide) (by have := hbud.out; omega)
                replace B9 := hid (g2.blk OV.out B9.out (by decide))
                replace GV := hid (GV.out.tr g2)
                replace OV := hid o2
                rw [← hsn.out] at r2 OV GV
                replace r2 := hid r2
                clear g2 o2 B1
                refine wp_append_run (.tmp 55) (.tmp 56) 27 27 rfl (.slice sa sn sc) (.slice (some ⟨g1, 0, none⟩) 1 1) (.slice a2 (sn + 1) c2) (by go_simp) (by go_simp) r2.out ?_
                go_simp
                refine hK.out _ _ GV.out.fp (fun hS => ?_)
                clear hK K
                refine wpAnyH_ready (rs := [13]) (by kernel_rfl) (by simp) ?_
                refine AllReadyH.cons rfl (fun K hK => ?_) ?_
                · go_simp
                  go_wp2_with fail
                  refine (numbers_any w2.heap.size g12 3 _ _ [yl, yn, yz] y2 OV.out (HB.out _ _ GV.out) B9.out rfl hnums.out (by rw [List.length_append, List.length_singleton]; have := hbud.out; omega) (by omega)).mono ?_
                  rintro en y13 ⟨v13, rfl, o13, g13⟩
                  replace GV := hid (GV.out.tr g13)
                  clear OV B9
                  rw [List.append_assoc] at o13
                  obtain ⟨a13, c13, ev13⟩ := row_block o13
                  generalize (_ ++ _ : List Int).length = n13 at ev13
                  subst ev13
                  have OV := hid o13
                  clear o13 g13
                  refine hK.out _ _ GV.out.fp (fun hS => ?_)
                  clear hK K
                  refine wpAnyH_take (i := 14) (v := ?v13) rfl (by kernel_rfl) (by kernel_rfl) (by kernel_rfl) (fun _ _ _ h => h) (Or.inl ⟨by rfl, ?h13⟩) hS ?_
                  case h13 => (intro W hW; go_simp; try (with_reducible rfl))
                  go_simp
                  refine wpAnyH_done (by kernel_rfl) ?_ _
                  have z2 := (HQ.out _ hS).2.2.2.1
                  go_wp2_with fail
                  refine (putt_nil ya (by have := hya.out; omega) y13).mono ?_
                  rintro en w6 ⟨n6, c6, rfl, h6, R6, b6⟩
                  obtain ⟨v7, W7, r7, o7, g7⟩ := app_row OV.out (HB.out _ _ GV.out) b6 R6 (txB_ok ya (by have := hya.out; omega)) (by have h1 := hbud.out; have h2 := vbs_len [yl, yn, yz]; have h3 := hya.out; simp only [List.length_append, List.length_cons, List.length_nil] at *; omega)
                  have G7 := hid (GV.out.tr g7)
                  clear z2 hS GV g7 b6 R6 h6
                  obtain ⟨a7, c7, e7⟩ := row_block o7
                  generalize (_ ++ _ : List Int).length = n7 at e7
                  subst e7
                  have z3 := (HQ.out _ G7.out.fp).2.2.2.2.1
                  replace o7 := hid o7
                  replace r7 := hid r7
                  go_wp2_with (first | (at_builtin; go_loud (refine wpList_append_run rfl (.tmp 69) (.tmp 72) 27 27 rfl (.slice a13 n13 c13) (.slice (some ⟨y13.heap.size, 0, none⟩) n6 c6) (.slice a7 n7 c7) rfl rfl r7.out ?_)))
                  refine (putt_nil yb (by have := hyb.out; omega) W7).mono ?_
                  rintro en w8 ⟨n8, c8, rfl, h8, R8, b8⟩
                  obtain ⟨v9, W9, r9, o9, g9⟩ := app_row o7.out (HB.out _ _ G7.out) b8 R8 (txB_ok yb (by have := hyb.out; omega)) (by have h1 := hbud.out; have h2 := vbs_len [yl, yn, yz]; have h3 := hya.out; have h4 := hyb.out; have h5 := txB_len ya; simp only [List.length_append, List.length_cons, List.length_nil] at *; omega)
                  have G9 := hid (G7.out.tr g9)
                  clear z3 G7 g9 b8 R8 h8 OV r7
                  obtain ⟨a9, c9, e9⟩ := row_block o9
                  generalize (_ ++ _ : List Int).length = n9 at e9
                  subst e9
                  have z4 := (HQ.out _ G9.out.fp).2.2.2.2.2.1
                  have z5 := (HQ.out _ G9.out.fp).2.2.2.2.2.2
                  have K9 := hid (new_at W9 (.cells #[.int .u64 ylo, .int .u64 yhi] 22))
                  have b9 := box_below W9 (.cells #[.int .u64 ylo, .int .u64 yhi] 22)
                  have s9 : Hid (w2.heap.size ≤ (W9.alloc (.cells #[.int .u64 ylo, .int .u64 yhi] 22)).heap.size) := Nat.le_trans (HB.out _ _ G9.out) b9.size
                  have O9 := hid (El.Own.later (E := eB) o9 b9)
                  have G10 := hid (G9.out.below b9)
                  have r9' := hid r9
                  clear b9 o9 r9 o7 G9
                  go_wp2_with (first | (at_builtin; go_loud (refine wpList_append_run rfl (.tmp 74) (.tmp 77) 27 27 rfl (.slice a7 n7 c7) (.slice (some ⟨W7.heap.size, 0, none⟩) n8 c8) (.slice a9 n9 c9) rfl rfl r9'.out ?_)))
                  refine (numbers_any w2.heap.size W9.heap.size 2 _ _ [ylo, yhi] _ O9.out s9.out K9.out rfl hnums2.out (by have h1 := hbud.out; have h2 := vbs_len [yl, yn, yz]; have h3 := hya.out; have h4 := hyb.out; have h5 := txB_len ya; have h6 := txB_len yb; simp only [List.length_append, List.length_cons, List.length_nil] at *; omega) (by omega)).mono ?_
                  rintro en w10 ⟨v10, rfl, o10, g10⟩
                  have M10 : Bt w2 w10 v10 (LL ++ coB ⟨yl, yn, yz, ya, yb, ylo, yhi⟩) := M4.out.step (G10.out.tr g10) (by
                    have e : LL ++ 5 :: vbs [yl, yn, yz] ++ txB ya ++ txB yb ++ vbs [ylo, yhi] = LL ++ coB ⟨yl, yn, yz, ya, yb, ylo, yhi⟩ := by unfold coB; simp only [List.append_assoc, List.cons_append]
                    rw [← e]; exact o10)
                  clear o10 g10 z4 z5 O9 K9 G10
                  rw [htk.out] at M10
                  obtain ⟨a10, c10, e10⟩ := row_block M10.own
                  generalize (_ : List Int).length = n10 at e10
                  subst e10
                  replace M10 := hid M10
                  go_wp2_with fail
                  go_roundw
                  case rel => exact ⟨j + 1, by go_num, by omega, M10⟩
                  case measure => simp [intOf]; omega
                exact AllReadyH.nil
              exact AllReadyH.nil
            exact AllReadyH.nil
          exact AllReadyH.nil

        · have hke : j = cn := by omega
          subst hke
          have M0 := M.out
          rw [hLL.out, show co.take j = co by rw [hcn.out, List.take_length]] at M0
          replace M0 := hid M0
          go_wp2_with fail
          go_ret2
          refine ⟨_, rfl, ?_, ?_⟩
          · have h := own_base M0.out.own (base' := w.heap.size) (fun i hi => by have := (own_lt M0.out.own i hi).1; have := b2.size; have := bx.out.size; omega)
            unfold enc
            rw [hSL.out]
            exact h
          · exact Below.up bx.out (Below.up b2 M0.out.lo)
end Go.Proofs.Ytnpeocoipodmfaa.En

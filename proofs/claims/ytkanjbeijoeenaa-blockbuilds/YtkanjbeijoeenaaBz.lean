/- BlockBuilds: any items added to a builder. -/
import Derived.Test.YtkanjbeijoeenaaBu
import Derived.Test.YtkanjbeijoeenaaRy
import Derived.Test.YtkanjbeijoeenaaKr
import Derived.Lib.QuietBelow
namespace Go.Proofs.Ytkanjbeijoeenaa.Bz
open Go.ChangeShapes Go.WideShapes Go.ChangeAt Go.RowKit
open Go.Sort (grow)
open Go.Proofs.Ytkanjbeijoeenaa.By
open Go.Proofs.Ytkanjbeijoeenaa.Bl
open Go.Proofs.Ytkanjbeijoeenaa.Bn
open Go.Proofs.Ytkanjbeijoeenaa.Bp (wp_append_run)
open Go.Proofs.Ytkanjbeijoeenaa.Bm
open Go.Proofs.Ytkanjbeijoeenaa.Ba
open Go.Proofs.Ytkanjbeijoeenaa.Bb
open Go.Proofs.Ytkanjbeijoeenaa.Bu
open Go.Proofs.Ytkanjbeijoeenaa.Rv
open Go.Proofs.Ytkanjbeijoeenaa.Rb (rcheck_arg rcheck_may)
open Go.Proofs.Ytkanjbeijoeenaa.Ry
open Go.Proofs.Ytkanjbeijoeenaa.En (vld valid_any)
open Go.Proofs.Ytkanjbeijoeenaa.Ik
open Go.Proofs.Ytkanjbeijoeenaa.Cm (ik)
open Go.Proofs.Ytkanjbeijoeenaa.Oi (wts)
open Go.Proofs.Ytkanjbeijoeenaa.Mb (hid box_below blk_lt new_at size_alloc cell_of fz_of set_of set_ne Fp gw own_blocks own_lt E ze At4 Ents OwnE OwnE.ents drew_below drewN_below gw_low region_tail compare_below gw_sub app_item)
set_option linter.unusedVariables false
set_option linter.unusedSimpArgs false


theorem own_away {w w' : World} {base : Nat} {v u : Value} {xs : List Int} (h : OwnB w base v xs) (g : w.grownBy w' u.ownBlock) (hne : ∀ j, v.ownBlock = some j → u.ownBlock ≠ some j) : OwnB w' base v xs :=
  own_blocks h (fun j hj => g.block j (own_lt h j hj).2 (fun e => hne j hj e.symm))
theorem conv_own {w : World} {base : Nat} {a : Option Addr} {n c : Nat} {xs : List Int} (h : OwnB w base (.slice a n c) xs) (hb : ∀ y ∈ xs, 0 ≤ y ∧ y ≤ 255) : Sem.run Try.prog (convert 28 9 (.slice a n c)) w = .ok (.string (str xs)) w := by
  have hB := OwnB.bytes h hb
  exact conv_run w a n c xs hB.1 hB.2.2.1 hB.2.2.2.2
theorem blk_bytes (r : Nat) (xs : List E) (hok : ∀ x ∈ xs, x.ok) : ∀ y ∈ blk (bst r xs), 0 ≤ y ∧ y ≤ 255 := by
  intro y hy
  unfold blk at hy
  rcases List.mem_append.1 hy with hy | hy
  · rcases List.mem_append.1 hy with hy | hy
    · exact ent_bytes r xs (fun x hx => ⟨(hok x hx).1, (hok x hx).2.2.2⟩) y hy
    · obtain ⟨p, _, hp⟩ := List.mem_flatMap.1 hy
      exact lb_bytes 4 _ y hp
  · exact lb_bytes 4 _ y hy
set_option maxRecDepth 100000 in
theorem builds_no (r : Int) (a : Option Addr) (len cap : Nat) (w : World) (h : r < 1 ∨ 64 < r) : Calls Try.prog 3 #[.int .i64 r, .slice a len cap] w fun e w' => e = .returned (.bool true) ∧ w' = w := by
  have HNew := hid (new_no r w h)
  have HNm := hid (Kd.names_any w)
  by_cases h1 : r < 1
  · clear h
    go_enter Try.func3, Try.ntmps3
    go_wp2_with fail
    refine HNew.out.mono ?_
    rintro e w1 ⟨rfl, rfl⟩
    go_wp2_with fail
    refine HNm.out.mono ?_
    rintro e w1 ⟨rfl, rfl⟩
    go_wp2_with fail
    go_ret
    exact ⟨rfl, rfl⟩
  · have h2 : 64 < r := by omega
    clear h
    go_enter Try.func3, Try.ntmps3
    go_wp2_with fail
    refine HNew.out.mono ?_
    rintro e w1 ⟨rfl, rfl⟩
    go_wp2_with fail
    refine HNm.out.mono ?_
    rintro e w1 ⟨rfl, rfl⟩
    go_wp2_with fail
    go_ret
    exact ⟨rfl, rfl⟩
set_option maxRecDepth 100000 in
set_option maxHeartbeats 8000000 in
theorem builds_yes (r : Nat) (a : Option Addr) (len cap : Nat) (ls : List E) (w : World) (HL : Ents w a len cap ls) (hr : 1 ≤ r ∧ r ≤ 64) (hsz : wts ls ≤ 2000000) :
    Calls Try.prog 3 #[.int .i64 (r : Int), .slice a len cap] w fun e w' => e = .returned (.bool true) ∧ Below w.heap.size w w' := by
  have r1 : ¬ (r : Int) < 1 := by omega
  have r2 : ¬ 64 < (r : Int) := by omega
  have hlen := hid HL.1
  have hlc := HL.2.1
  have hln : len ≤ 2000000 := by have := wts_len ls; rw [← HL.1]; omega
  have hok := hid HL.2.2.2.1
  have HNew := hid (new_yes r w hr)
  replace HL := hid HL
  replace hsz := hid hsz
  replace hr := hid hr
  go_enter Try.func3, Try.ntmps3
  go_wp2_with fail
  refine HNew.out.mono ?_
  rintro e w1 ⟨g, rfl, HB1, b1⟩
  obtain ⟨n0, hn0⟩ : ∃ n, n = w.heap.size := ⟨_, rfl⟩
  have HBS : Hid (Bs w1 n0 g (fun j => n0 ≤ j ∧ j < w1.heap.size) r []) := by rw [hn0]; exact ⟨_, _, _, HB1⟩
  have HBW : Hid (Below n0 w w1) := by rw [hn0]; exact b1
  replace hn0 := hid hn0
  clear HB1 b1 HNew
  go_wp2_with fail
  go_loopw [7, 8] (fun hv iv wr => ∃ (i : Nat) (P : Nat → Prop) (ha : Option Addr) (hn hc : Nat), i ≤ len ∧ iv = .int .i64 (i : Int) ∧ hv = .slice ha hn hc ∧ Hid (OwnE 38 wr n0 (.slice ha hn hc) (took (ls.take i))) ∧ Hid (Bs wr n0 g P r (took (ls.take i))) ∧ Hid (∀ j, (Value.slice ha hn hc).ownBlock = some j → ¬ P j) ∧ Hid (Below n0 w wr)) (fun _ iv _ => len - (intOf iv).toNat)
  case atStart => exact ⟨0, _, none, 0, 0, by omega, rfl, rfl, OwnE.nil _ _ _, HBS, (fun j hj => by cases hj), HBW⟩
  case round =>
    obtain ⟨i, P, ha, hn, hc, hi, rfl, rfl, HH, HB, HP, HW⟩ := hrel
    have hwt : Hid (wts (took (ls.take i)) ≤ 2000000) := Nat.le_trans (took_wts _) (Nat.le_trans (wts_take ls i) hsz.out)
    have hgd : Hid (Gd (took (ls.take i))) := took_gd _ (fun x hx => (hok.out x (List.mem_of_mem_take hx)).2.1.1)
    have hbn : Hid (n0 ≤ wr.heap.size) := by have := HW.out.size; have := hn0.out; show _ ≤ _; omega
    obtain ⟨xs, hxs⟩ : ∃ xs, xs = took (ls.take i) := ⟨_, rfl⟩
    have hxk : ∀ x ∈ xs, x.ok := by rw [hxs]; exact took_ok _ (fun x hx => hok.out x (List.mem_of_mem_take hx))
    rw [← hxs] at HH HB hwt hgd
    obtain ⟨ha', hc', hve, hEn⟩ := OwnE.ents HH.out hxk
    obtain ⟨rfl, rfl, rfl⟩ : ha = ha' ∧ hn = xs.length ∧ hc = hc' := by
      injection hve with h1 h2 h3; exact ⟨h1, h2, h3⟩
    obtain ⟨gl, ve, vp, HBt⟩ := HB.out
    have e1 := bst_ent r xs
    have e2 := bst_cnt r xs
    have e3 := wts_len xs
    have e4 := pl_bound r xs
    have e5 := blk_bytes r xs hxk
    have e6 := blk_len (bst r xs)
    have e7 : bsz (bst r xs) ≤ 100000000 := by unfold bsz; have := hwt.out; omega
    have HBY : Hid (∀ W, Below wr.heap.size wr W → Calls Try.prog 12 #[.pointer (some ⟨g, 0, none⟩)] W fun e w' => ∃ v, e = .returned v ∧ OwnB w' W.heap.size v (blk (bst r xs)) ∧ Below W.heap.size W w') := fun W b =>
      bytes_any (HBt.later b) (by have := hwt.out; omega) (by have := hwt.out; omega) (ent_bytes r xs (fun x hx => ⟨(hxk x hx).1, (hxk x hx).2.2.2⟩)) (fun p hp => by have := e4 p hp; have := hwt.out; omega)
    have HLN : Hid (∀ W, Below wr.heap.size wr W → Calls Try.prog 13 #[.pointer (some ⟨g, 0, none⟩)] W fun e w' => e = .returned (.int .i64 (xs.length : Int)) ∧ w' = W) := fun W b => by
      have := len_any (HBt.later b)
      rw [e2.1] at this
      exact this
    have HSZ : Hid (∀ W, Below wr.heap.size wr W → Calls Try.prog 14 #[.pointer (some ⟨g, 0, none⟩)] W fun e w' => e = .returned (.int .i64 ((blk (bst r xs)).length : Int)) ∧ Below W.heap.size W w') := fun W b => by
      rw [e6]
      exact size_any (HBt.later b) (by have := hwt.out; omega) (by have := hwt.out; omega)
    have HR1 := hid (rbytes_any ha xs.length hc r xs wr hEn hr.out hgd.out (by have := hwt.out; omega))
    have hZ9 : (blk (bst r xs)).length ≤ 100000000 := by omega
    replace hEn := hid hEn
    replace hxs := hid hxs
    replace hxk := hid hxk
    replace e5 := hid e5
    clear HBt e1 e2 e3 e4 e6 e7 hve
    generalize hHN : xs.length = HN at *
    generalize blk (bst r xs) = Z at *
    generalize hZL : Z.length = ZL at *
    replace hZL := hid hZL
    go_wp2_with fail
    refine HR1.out.mono ?_
    rintro e q1 ⟨v1, rfl, o1, b1⟩
    obtain ⟨a1, c1, rfl, _, _, _⟩ := o1.shape
    rw [hZL.out] at o1 ⊢
    have B1 := hid b1
    replace o1 := hid o1
    clear HR1
    go_wp2_with fail
    refine (HBY.out q1 B1.out).mono ?_
    rintro e q2 ⟨v2, rfl, o2, b2⟩
    obtain ⟨a2, c2, rfl, _, _, _⟩ := o2.shape
    rw [hZL.out] at o2 ⊢
    have B2 := hid (B1.out.trans (b2.mono B1.out.size))
    replace o2 := hid o2
    replace b2 := hid b2
    go_wp2_with fail
    refine (HBY.out q2 B2.out).mono ?_
    rintro e q3 ⟨v3, rfl, o3, b3⟩
    obtain ⟨a3, c3, rfl, _, _, _⟩ := o3.shape
    rw [hZL.out] at o3 ⊢
    have B3 := hid (B2.out.trans (b3.mono B2.out.size))
    replace o3 := hid o3
    replace b3 := hid b3
    go_wp2_with fail
    refine (HLN.out q3 B3.out).mono ?_
    rintro e q3 ⟨rfl, rfl⟩
    go_wp2_with fail
    refine (HSZ.out q3 B3.out).mono ?_
    rintro e q4 ⟨rfl, b4⟩
    have B4 := hid (B3.out.trans (b4.mono B3.out.size))
    have o3' := o3.out.later b4
    have o2' := (o2.out.later b3.out).later b4
    have o1' := ((o1.out.later b2.out).later b3.out).later b4
    have cv1 := conv_own o2' e5.out
    have cv2 := conv_own o1' e5.out
    have HSP := hid (spoil_any _ _ Z q4 o2' e5.out (by rw [hZL.out]; omega))
    have hl1 : Hid (∀ j, (Value.slice a1 ZL c1).ownBlock = some j → wr.heap.size ≤ j ∧ j < q1.heap.size) := fun j hj => own_lt o1.out j hj
    have hl2 : Hid (∀ j, (Value.slice a2 ZL c2).ownBlock = some j → q1.heap.size ≤ j ∧ j < q2.heap.size) := fun j hj => own_lt o2.out j hj
    have hl3 : Hid (∀ j, (Value.slice a3 ZL c3).ownBlock = some j → q2.heap.size ≤ j) := fun j hj => (own_lt o3.out j hj).1
    replace o1' := hid o1'
    replace o3' := hid o3'
    have hs1 := hid B1.out.size
    have hs2 := hid b2.out.size
    clear HBY HLN HSZ b4 o2' o1 o2 o3 b3 b1
    go_wp2_with fail
    refine HSP.out.mono ?_
    rintro e q5 ⟨⟨u5, rfl⟩, g5⟩
    have o3x := own_away o3'.out g5 (fun j hj e => by have h1 := (hl2.out j e).2; have h2 := hl3.out j hj; omega)
    have o1x := own_away o1'.out g5 (fun j hj e => by have h1 := (hl2.out j e).1; have h2 := (hl1.out j hj).2; omega)
    have cv3 := conv_own o3x e5.out
    have cv4 := conv_own o1x e5.out
    have HSP2 := hid (spoil_any _ _ Z q5 o3x e5.out (by rw [hZL.out]; omega))
    have B5 := hid (B4.out.grown g5 B4.out.size (fun j hj => Nat.le_trans hs1.out (hl2.out j hj).1))
    clear g5 o3x o1x o3' o1' cv1 cv2 HSP
    go_wp2_with fail
    refine HSP2.out.mono ?_
    rintro e q6 ⟨⟨u6', rfl⟩, g6⟩
    have B6 := hid (B5.out.grown g6 B5.out.size (fun j hj => Nat.le_trans hs1.out (Nat.le_trans hs2.out (hl3.out j hj))))
    clear g6 cv3 cv4 HSP2 B5 B4 B3 B2 B1 hl1 hl2 hl3 hs1 hs2 b2 e5
    by_cases hil : i < len
    · have hi2 : ((i : Int) == (len : Int)) = false := by rw [beq_eq_false_iff_ne]; omega
      cases a with
      | none => exact absurd (HL.out.2.2.1 rfl).1 (by omega)
      | some ad =>
        obtain ⟨lb, lo, lp⟩ := ad
        obtain ⟨rfl, hat⟩ := HL.out.2.2.2.2 lb lo lp rfl (by omega)
        have hat0 := hat i hil
        have hwb : Below w.heap.size w wr := by have := hn0.out; rw [← this]; exact HW.out
        have hatw := hat0.later hwb
        have hlb : Hid (lb < w.heap.size) := block_lt_of_cell hat0.1
        have hsn : Hid (took (ls.take (i + 1)) = tak xs (ls.getD i ze)) := by
          show _ = _
          rw [List.take_succ_eq_append_getElem (by rw [hlen.out]; exact hil), took_snoc, hxs.out]
          simp [List.getD_eq_getElem?_getD, List.getElem?_eq_getElem (show i < ls.length by rw [hlen.out]; exact hil)]
        have hxok : (ls.getD i ze).ok := by
          rw [List.getD_eq_getElem?_getD, List.getElem?_eq_getElem (show i < ls.length by rw [hlen.out]; exact hil)]
          exact hok.out _ (List.getElem_mem _)
        generalize ls.getD i ze = x at *
        have hwr : IntKind.i64.wrap ((i : Int) + 1) = ((i + 1 : Nat) : Int) := by rw [IntKind.wrap_i64]; omega
        have PRES : Hid (∀ W, Fp P wr W → At4 W lb (lo + i * 4) x) := by
          intro W f
          have e : W.heap[lb]? = wr.heap[lb]? := f.block lb (Nat.lt_of_lt_of_le hlb.out hwb.size) (fun hp => by have := (HB.out.low lb hp).1; have := hn0.out; have := hlb.out; omega)
          obtain ⟨a0, a1, a2, a3⟩ := hatw
          unfold World.cell? at a0 a1 a2 a3
          unfold At4 World.cell?
          rw [e]
          exact ⟨a0, a1, a2, a3⟩
        replace hxok := hid hxok
        clear hat hat0 hwb hatw
        obtain ⟨z0, z1, z2, z3⟩ := PRES.out q6 (Fp.of B6.out)
        have hH9 : HN ≤ 1000000000 := by have := hwt.out; have := wts_len xs; omega
        cases hmy : may x with
        | false =>
          have hmay : Hid (may x = false) := hmy
          have hnt : Hid (tak xs x = xs) := by show _ = _; unfold tak; rw [hmay.out]; rfl
          have HCk := hid (rcheck_arg ha HN hc x q6 hxok.out hmy)
          clear hmy
          go_wp2_with fail
          refine HCk.out.mono ?_
          rintro e w3 ⟨rfl, b7⟩
          have b3 : Below wr.heap.size wr w3 := B6.out.trans (b7.mono B6.out.size)
          clear b7 z0 z1 z2 z3 HCk B6
          obtain ⟨D, hD⟩ : ∃ D, D = World.drew w3 := ⟨_, rfl⟩
          have bD : Below wr.heap.size wr D := by rw [hD]; exact b3.drew
          have HAdd := hid (add_arg (HB.out.later bD) x hxok.out hmay.out)
          have HBD := hid bD
          have hSD : Hid (At4 D lb (lo + i * 4) x) := PRES.out D (Fp.of bD)
          replace hD := hid hD
          clear b3 bD
          go_wp2_with fail
          refine wp_region_held_drew (S := fun W => At4 W lb (lo + i * 4) x) (by kernel_rfl) (by rw [← hD.out]; exact hSD.out) (fun hS => ?_)
          rw [← hD.out] at hS ⊢
          refine wpAnyH_take (i := 0) (v := ?v1) rfl (by kernel_rfl) (by kernel_rfl) (by kernel_rfl) (fun _ _ _ h => h) (Or.inl ⟨by rfl, ?h1⟩) hS ?_
          case h1 => (intro W hW; go_simp; try (with_reducible rfl))
          go_simp
          refine wpAnyH_take (i := 1) (v := ?v2) rfl (by kernel_rfl) (by kernel_rfl) (by kernel_rfl) (fun _ _ _ h => h) (Or.inl ⟨by rfl, ?h2⟩) hS ?_
          case h2 => (intro W hW; go_simp; try (with_reducible rfl))
          go_simp
          refine wpAnyH_take (i := 2) (v := ?v3) rfl (by kernel_rfl) (by kernel_rfl) (by kernel_rfl) (fun _ _ _ h => h) (Or.inl ⟨by rfl, ?h3⟩) hS ?_
          case h3 => (intro W hW; go_simp; try (with_reducible rfl))
          go_simp
          refine wpAnyH_take (i := 3) (v := ?v4) rfl (by kernel_rfl) (by kernel_rfl) (by kernel_rfl) (fun _ _ _ h => h) (Or.inl ⟨by rfl, ?h4⟩) hS ?_
          case h4 => (intro W hW; go_simp; try (with_reducible rfl))
          go_simp
          refine wpAnyH_take (i := 4) (v := ?v5) rfl (by kernel_rfl) (by kernel_rfl) (by kernel_rfl) (fun _ _ _ h => h) (Or.inl ⟨by rfl, ?h5⟩) hS ?_
          case h5 => (intro W hW; go_simp; try (with_reducible rfl))
          go_simp
          refine wpAnyH_take (i := 5) (v := ?v6) rfl (by kernel_rfl) (by kernel_rfl) (by kernel_rfl) (fun _ _ _ h => h) (Or.inl ⟨by rfl, ?h6⟩) hS ?_
          case h6 => (intro W hW; obtain ⟨z0, z1, z2, z3⟩ := hW; go_simp; try (with_reducible rfl))
          go_simp
          refine wpAnyH_take (i := 6) (v := ?v7) rfl (by kernel_rfl) (by kernel_rfl) (by kernel_rfl) (fun _ _ _ h => h) (Or.inl ⟨by rfl, ?h7⟩) hS ?_
          case h7 => (intro W hW; go_simp; try (with_reducible rfl))
          go_simp
          refine wpAnyH_take (i := 7) (v := ?v8) rfl (by kernel_rfl) (by kernel_rfl) (by kernel_rfl) (fun _ _ _ h => h) (Or.inl ⟨by rfl, ?h8⟩) hS ?_
          case h8 => (intro W hW; go_simp; try (with_reducible rfl))
          go_simp
          refine wpAnyH_take (i := 8) (v := ?v9) rfl (by kernel_rfl) (by kernel_rfl) (by kernel_rfl) (fun _ _ _ h => h) (Or.inl ⟨by rfl, ?h9⟩) hS ?_
          case h9 => (intro W hW; go_simp; try (with_reducible rfl))
          go_simp
          refine wpAnyH_take (i := 9) (v := ?v10) rfl (by kernel_rfl) (by kernel_rfl) (by kernel_rfl) (fun _ _ _ h => h) (Or.inl ⟨by rfl, ?h10⟩) hS ?_
          case h10 => (intro W hW; go_simp; try (with_reducible rfl))
          go_simp
          refine wpAnyH_take (i := 10) (v := ?v11) rfl (by kernel_rfl) (by kernel_rfl) (by kernel_rfl) (fun _ _ _ h => h) (Or.inl ⟨by rfl, ?h11⟩) hS ?_
          case h11 => (intro W hW; obtain ⟨z0, z1, z2, z3⟩ := hW; go_simp; try (with_reducible rfl))
          go_simp
          refine wpAnyH_take (i := 12) (v := ?v12) rfl (by kernel_rfl) (by kernel_rfl) (by kernel_rfl) (fun _ _ _ h => h) (Or.inl ⟨by rfl, ?h12⟩) hS ?_
          case h12 => (intro W hW; go_simp; try (with_reducible rfl))
          go_simp
          refine wpAnyH_ready (rs := [11]) (by kernel_rfl) (by simp) ?_
          refine AllReadyH.cons rfl (fun K hK => ?_) ?_
          · go_simp
            go_wp2_with fail
            refine HAdd.out.mono ?_
            rintro e x4 ⟨rfl, b4⟩
            have b4w : Below wr.heap.size wr x4 := HBD.out.trans (b4.mono HBD.out.size)
            refine hK.out _ _ (PRES.out x4 (Fp.of b4w)) (fun hS => ?_)
            clear hK K b4
            refine wpAnyH_take (i := 13) (v := ?v13) rfl (by kernel_rfl) (by kernel_rfl) (by kernel_rfl) (fun _ _ _ h => h) (Or.inl ⟨by rfl, ?h13⟩) hS ?_
            case h13 => (intro W hW; go_simp; try (with_reducible rfl))
            go_simp
            refine wpAnyH_done (by kernel_rfl) ?_ _
            have HBn := hid (HB.out.later b4w)
            have HHn := hid (HH.out.later b4w)
            have HWn : Hid (Below n0 w x4) := HW.out.trans (b4w.mono hbn.out)
            clear b4w hS
            go_wp2_with fail
            refine ⟨⟨i + 1, P, ha, HN, hc, by omega, by first | rfl | go_num, rfl, ?_, ?_, HP, HWn⟩, ?_⟩
            · show OwnE _ _ _ _ _; rw [hsn.out, hnt.out]; exact HHn.out
            · show Bs _ _ _ _ _ _; rw [hsn.out, hnt.out]; exact HBn.out
            · simp only [intOf]; omega
          exact AllReadyH.nil
        | true =>
          have hmay : Hid (may x = true) := hmy
          have HCk := rcheck_may ha HN hc xs x q6 (hEn.out.later B6.out) hH9 hxok.out hmy
          cases hbh : beh xs x with
          | false =>
            have hbeh : Hid (beh xs x = false) := hbh
            have hnt : Hid (tak xs x = xs) := by show _ = _; unfold tak; rw [hmay.out, hbeh.out]; rfl
            rw [hbh] at HCk
            replace HCk : Hid (Calls Try.prog 16 #[.slice ha HN hc, .agg #[.string x.k, .int .u64 x.s, .int .i64 x.c, .string x.v]] q6 fun e w' => e = .returned (.int .i64 80) ∧ Below q6.heap.size q6 w') := HCk
            clear hmy hbh
            go_wp2_with fail
            refine HCk.out.mono ?_
            rintro e w3 ⟨rfl, b7⟩
            have b3 : Below wr.heap.size wr w3 := B6.out.trans (b7.mono B6.out.size)
            clear b7 z0 z1 z2 z3 HCk B6
            obtain ⟨D, hD⟩ : ∃ D, D = World.drew w3 := ⟨_, rfl⟩
            have bD : Below wr.heap.size wr D := by rw [hD]; exact b3.drew
            have HAdd := hid (add_order (HB.out.later bD) x hxok.out hgd.out hmay.out hbeh.out)
            have HBD := hid bD
            have hSD : Hid (At4 D lb (lo + i * 4) x) := PRES.out D (Fp.of bD)
            replace hD := hid hD
            clear b3 bD
            go_wp2_with fail
            refine wp_region_held_drew (S := fun W => At4 W lb (lo + i * 4) x) (by kernel_rfl) (by rw [← hD.out]; exact hSD.out) (fun hS => ?_)
            rw [← hD.out] at hS ⊢
            refine wpAnyH_take (i := 0) (v := ?v14) rfl (by kernel_rfl) (by kernel_rfl) (by kernel_rfl) (fun _ _ _ h => h) (Or.inl ⟨by rfl, ?h14⟩) hS ?_
            case h14 => (intro W hW; go_simp; try (with_reducible rfl))
            go_simp
            refine wpAnyH_take (i := 1) (v := ?v15) rfl (by kernel_rfl) (by kernel_rfl) (by kernel_rfl) (fun _ _ _ h => h) (Or.inl ⟨by rfl, ?h15⟩) hS ?_
            case h15 => (intro W hW; go_simp; try (with_reducible rfl))
            go_simp
            refine wpAnyH_take (i := 2) (v := ?v16) rfl (by kernel_rfl) (by kernel_rfl) (by kernel_rfl) (fun _ _ _ h => h) (Or.inl ⟨by rfl, ?h16⟩) hS ?_
            case h16 => (intro W hW; go_simp; try (with_reducible rfl))
            go_simp
            refine wpAnyH_take (i := 3) (v := ?v17) rfl (by kernel_rfl) (by kernel_rfl) (by kernel_rfl) (fun _ _ _ h => h) (Or.inl ⟨by rfl, ?h17⟩) hS ?_
            case h17 => (intro W hW; go_simp; try (with_reducible rfl))
            go_simp
            refine wpAnyH_take (i := 4) (v := ?v18) rfl (by kernel_rfl) (by kernel_rfl) (by kernel_rfl) (fun _ _ _ h => h) (Or.inl ⟨by rfl, ?h18⟩) hS ?_
            case h18 => (intro W hW; go_simp; try (with_reducible rfl))
            go_simp
            refine wpAnyH_take (i := 5) (v := ?v19) rfl (by kernel_rfl) (by kernel_rfl) (by kernel_rfl) (fun _ _ _ h => h) (Or.inl ⟨by rfl, ?h19⟩) hS ?_
            case h19 => (intro W hW; obtain ⟨z0, z1, z2, z3⟩ := hW; go_simp; try (with_reducible rfl))
            go_simp
            refine wpAnyH_take (i := 6) (v := ?v20) rfl (by kernel_rfl) (by kernel_rfl) (by kernel_rfl) (fun _ _ _ h => h) (Or.inl ⟨by rfl, ?h20⟩) hS ?_
            case h20 => (intro W hW; go_simp; try (with_reducible rfl))
            go_simp
            refine wpAnyH_take (i := 7) (v := ?v21) rfl (by kernel_rfl) (by kernel_rfl) (by kernel_rfl) (fun _ _ _ h => h) (Or.inl ⟨by rfl, ?h21⟩) hS ?_
            case h21 => (intro W hW; go_simp; try (with_reducible rfl))
            go_simp
            refine wpAnyH_take (i := 8) (v := ?v22) rfl (by kernel_rfl) (by kernel_rfl) (by kernel_rfl) (fun _ _ _ h => h) (Or.inl ⟨by rfl, ?h22⟩) hS ?_
            case h22 => (intro W hW; go_simp; try (with_reducible rfl))
            go_simp
            refine wpAnyH_take (i := 9) (v := ?v23) rfl (by kernel_rfl) (by kernel_rfl) (by kernel_rfl) (fun _ _ _ h => h) (Or.inl ⟨by rfl, ?h23⟩) hS ?_
            case h23 => (intro W hW; go_simp; try (with_reducible rfl))
            go_simp
            refine wpAnyH_take (i := 10) (v := ?v24) rfl (by kernel_rfl) (by kernel_rfl) (by kernel_rfl) (fun _ _ _ h => h) (Or.inl ⟨by rfl, ?h24⟩) hS ?_
            case h24 => (intro W hW; obtain ⟨z0, z1, z2, z3⟩ := hW; go_simp; try (with_reducible rfl))
            go_simp
            refine wpAnyH_take (i := 12) (v := ?v25) rfl (by kernel_rfl) (by kernel_rfl) (by kernel_rfl) (fun _ _ _ h => h) (Or.inl ⟨by rfl, ?h25⟩) hS ?_
            case h25 => (intro W hW; go_simp; try (with_reducible rfl))
            go_simp
            refine wpAnyH_ready (rs := [11]) (by kernel_rfl) (by simp) ?_
            refine AllReadyH.cons rfl (fun K hK => ?_) ?_
            · go_simp
              go_wp2_with fail
              refine HAdd.out.mono ?_
              rintro e x4 ⟨rfl, b4⟩
              have b4w : Below wr.heap.size wr x4 := HBD.out.trans (b4.mono HBD.out.size)
              refine hK.out _ _ (PRES.out x4 (Fp.of b4w)) (fun hS => ?_)
              clear hK K b4
              refine wpAnyH_take (i := 13) (v := ?v26) rfl (by kernel_rfl) (by kernel_rfl) (by kernel_rfl) (fun _ _ _ h => h) (Or.inl ⟨by rfl, ?h26⟩) hS ?_
              case h26 => (intro W hW; go_simp; try (with_reducible rfl))
              go_simp
              refine wpAnyH_done (by kernel_rfl) ?_ _
              have HBn := hid (HB.out.later b4w)
              have HHn := hid (HH.out.later b4w)
              have HWn : Hid (Below n0 w x4) := HW.out.trans (b4w.mono hbn.out)
              clear b4w hS
              go_wp2_with fail
              refine ⟨⟨i + 1, P, ha, HN, hc, by omega, by first | rfl | go_num, rfl, ?_, ?_, HP, HWn⟩, ?_⟩
              · show OwnE _ _ _ _ _; rw [hsn.out, hnt.out]; exact HHn.out
              · show Bs _ _ _ _ _ _; rw [hsn.out, hnt.out]; exact HBn.out
              · simp only [intOf]; omega
            exact AllReadyH.nil
          | true =>
            have hbeh : Hid (beh xs x = true) := hbh
            have hnt : Hid (tak xs x = xs ++ [x]) := by show _ = _; unfold tak; rw [hmay.out, hbeh.out]; rfl
            rw [hbh] at HCk
            replace HCk : Hid (Calls Try.prog 16 #[.slice ha HN hc, .agg #[.string x.k, .int .u64 x.s, .int .i64 x.c, .string x.v]] q6 fun e w' => e = .returned (.int .i64 0) ∧ Below q6.heap.size q6 w') := HCk
            clear hmy hbh
            go_wp2_with fail
            refine HCk.out.mono ?_
            rintro e w3 ⟨rfl, b7⟩
            have b3 : Below wr.heap.size wr w3 := B6.out.trans (b7.mono B6.out.size)
            clear b7 z0 z1 z2 z3 HCk B6
            obtain ⟨D, hD⟩ : ∃ D, D = World.drew w3 := ⟨_, rfl⟩
            have bD : Below wr.heap.size wr D := by rw [hD]; exact b3.drew
            have HAdd := hid (add_ok (HB.out.later bD) x hxok.out hgd.out hmay.out hbeh.out (Nat.le_trans hbn.out bD.size) (by have := hwt.out; omega))
            have HBD := hid bD
            have hSD : Hid (At4 D lb (lo + i * 4) x) := PRES.out D (Fp.of bD)
            replace hD := hid hD
            clear b3 bD
            go_wp2_with fail
            refine wp_region_held_drew (S := fun W => At4 W lb (lo + i * 4) x) (by kernel_rfl) (by rw [← hD.out]; exact hSD.out) (fun hS => ?_)
            rw [← hD.out] at hS ⊢
            refine wpAnyH_take (i := 0) (v := ?v27) rfl (by kernel_rfl) (by kernel_rfl) (by kernel_rfl) (fun _ _ _ h => h) (Or.inl ⟨by rfl, ?h27⟩) hS ?_
            case h27 => (intro W hW; go_simp; try (with_reducible rfl))
            go_simp
            refine wpAnyH_take (i := 1) (v := ?v28) rfl (by kernel_rfl) (by kernel_rfl) (by kernel_rfl) (fun _ _ _ h => h) (Or.inl ⟨by rfl, ?h28⟩) hS ?_
            case h28 => (intro W hW; go_simp; try (with_reducible rfl))
            go_simp
            refine wpAnyH_take (i := 2) (v := ?v29) rfl (by kernel_rfl) (by kernel_rfl) (by kernel_rfl) (fun _ _ _ h => h) (Or.inl ⟨by rfl, ?h29⟩) hS ?_
            case h29 => (intro W hW; go_simp; try (with_reducible rfl))
            go_simp
            refine wpAnyH_take (i := 3) (v := ?v30) rfl (by kernel_rfl) (by kernel_rfl) (by kernel_rfl) (fun _ _ _ h => h) (Or.inl ⟨by rfl, ?h30⟩) hS ?_
            case h30 => (intro W hW; go_simp; try (with_reducible rfl))
            go_simp
            refine wpAnyH_take (i := 4) (v := ?v31) rfl (by kernel_rfl) (by kernel_rfl) (by kernel_rfl) (fun _ _ _ h => h) (Or.inl ⟨by rfl, ?h31⟩) hS ?_
            case h31 => (intro W hW; go_simp; try (with_reducible rfl))
            go_simp
            refine wpAnyH_take (i := 5) (v := ?v32) rfl (by kernel_rfl) (by kernel_rfl) (by kernel_rfl) (fun _ _ _ h => h) (Or.inl ⟨by rfl, ?h32⟩) hS ?_
            case h32 => (intro W hW; obtain ⟨z0, z1, z2, z3⟩ := hW; go_simp; try (with_reducible rfl))
            go_simp
            refine wpAnyH_take (i := 6) (v := ?v33) rfl (by kernel_rfl) (by kernel_rfl) (by kernel_rfl) (fun _ _ _ h => h) (Or.inl ⟨by rfl, ?h33⟩) hS ?_
            case h33 => (intro W hW; go_simp; try (with_reducible rfl))
            go_simp
            refine wpAnyH_take (i := 7) (v := ?v34) rfl (by kernel_rfl) (by kernel_rfl) (by kernel_rfl) (fun _ _ _ h => h) (Or.inl ⟨by rfl, ?h34⟩) hS ?_
            case h34 => (intro W hW; go_simp; try (with_reducible rfl))
            go_simp
            refine wpAnyH_take (i := 8) (v := ?v35) rfl (by kernel_rfl) (by kernel_rfl) (by kernel_rfl) (fun _ _ _ h => h) (Or.inl ⟨by rfl, ?h35⟩) hS ?_
            case h35 => (intro W hW; go_simp; try (with_reducible rfl))
            go_simp
            refine wpAnyH_take (i := 9) (v := ?v36) rfl (by kernel_rfl) (by kernel_rfl) (by kernel_rfl) (fun _ _ _ h => h) (Or.inl ⟨by rfl, ?h36⟩) hS ?_
            case h36 => (intro W hW; go_simp; try (with_reducible rfl))
            go_simp
            refine wpAnyH_take (i := 10) (v := ?v37) rfl (by kernel_rfl) (by kernel_rfl) (by kernel_rfl) (fun _ _ _ h => h) (Or.inl ⟨by rfl, ?h37⟩) hS ?_
            case h37 => (intro W hW; obtain ⟨z0, z1, z2, z3⟩ := hW; go_simp; try (with_reducible rfl))
            go_simp
            refine wpAnyH_take (i := 12) (v := ?v38) rfl (by kernel_rfl) (by kernel_rfl) (by kernel_rfl) (fun _ _ _ h => h) (Or.inl ⟨by rfl, ?h38⟩) hS ?_
            case h38 => (intro W hW; go_simp; try (with_reducible rfl))
            go_simp
            refine wpAnyH_ready (rs := [11]) (by kernel_rfl) (by simp) ?_
            refine AllReadyH.cons rfl (fun K hK => ?_) ?_
            · go_simp
              go_wp2_with fail
              refine HAdd.out.mono ?_
              rintro e x4 ⟨rfl, B4, F4⟩
              have F4w : Fp P wr x4 := (Fp.of HBD.out).trans (F4.wide fun j _ hj => .inl hj)
              refine hK.out _ _ (PRES.out x4 F4w) (fun hS => ?_)
              clear hK K
              refine wpAnyH_take (i := 13) (v := ?v39) rfl (by kernel_rfl) (by kernel_rfl) (by kernel_rfl) (fun _ _ _ h => h) (Or.inl ⟨by rfl, ?h39⟩) hS ?_
              case h39 => (intro W hW; go_simp; try (with_reducible rfl))
              go_simp
              refine wpAnyH_done (by kernel_rfl) ?_ _
              have e4 : ∀ j, (Value.slice ha HN hc).ownBlock = some j → x4.heap[j]? = wr.heap[j]? := fun j hj => F4w.block j (own_lt HH.out j hj).2 (HP.out j hj)
              have HH4 : OwnE 38 x4 n0 (.slice ha HN hc) xs := own_blocks HH.out e4
              have hb4 : n0 ≤ x4.heap.size := Nat.le_trans hbn.out F4w.size
              obtain ⟨v5, x5, r5, o5, g5, q5⟩ := app_item x4 n0 (.slice ha HN hc) xs x HH4 (by have := hwt.out; have := wts_len xs; omega) hb4
              obtain ⟨a5, n5, c5, rfl⟩ : ∃ a5 n5 c5, v5 = .slice a5 n5 c5 := by
                rcases o5.2 with ⟨h1, h2⟩ | ⟨g5', c5, cur, h1, _⟩
                · exact ⟨none, 0, 0, h1⟩
                · exact ⟨_, _, _, h1⟩
              have hGW : ∀ j, gw P D x4 j → P j ∨ wr.heap.size ≤ j := by
                rintro j (h | h)
                · exact .inl h
                · exact .inr (Nat.le_trans HBD.out.size h.1)
              have hown : ∀ j, (Value.slice ha HN hc).ownBlock = some j → ¬ gw P D x4 j := by
                intro j hj h
                have h1 := (own_lt HH.out j hj).2
                have h2 := HP.out j hj
                rcases hGW j h with h3 | h3
                · exact h2 h3
                · omega
              have B5 : Hid (Bs x5 n0 g (gw P D x4) r (xs ++ [x])) := B4.fp (Q := fun j => (Value.slice ha HN hc).ownBlock = some j) ⟨g5.os, g5.tape, g5.output, g5.size, fun j hj hn => g5.block j hj (fun e => hn e.symm)⟩ (fun j hj hq => hown j hq hj)
              have P5 : Hid (∀ j, (Value.slice a5 n5 c5).ownBlock = some j → ¬ gw P D x4 j) := by
                intro j hj
                rcases q5 j hj with h | h
                · exact hown j h
                · intro h'
                  have := (B4.low j h').2
                  omega
              have W5 : Hid (Below n0 w x5) := (HW.out.trans (F4w.base hbn.out (fun j hj => (HB.out.low j hj).1))).grown g5 hb4 (fun j hj => (own_lt HH.out j hj).1)
              obtain ⟨y0, y1, y2, y3⟩ := PRES.out x4 F4w
              have O5 : Hid (OwnE 38 x5 n0 (.slice a5 n5 c5) (xs ++ [x])) := o5
              obtain ⟨xk, xq, xc, xv⟩ := x
              dsimp only at y0 y1 y2 y3 r5 O5 B5
              skip
              clear hS HH4 o5 g5 q5 e4 B4 F4 F4w hGW hown
              go_wp2_with (first | (at_builtin; refine By.wpList_append_run rfl (.tmp 103) (.tmp 108) 22 22 rfl (.slice ha HN hc) (.slice (some ⟨x4.heap.size, 0, none⟩) 1 1) (.slice a5 n5 c5) rfl rfl r5 ?_))
              skip
              refine ⟨⟨i + 1, _, a5, n5, c5, by omega, by first | rfl | go_num, rfl, ?_, ?_, P5, W5⟩, ?_⟩
              · show OwnE _ _ _ _ _; rw [hsn.out, hnt.out]; exact O5.out
              · show Bs _ _ _ _ _ _; rw [hsn.out, hnt.out]; exact B5.out
              · simp only [intOf]; omega
            exact AllReadyH.nil
    · obtain rfl : i = len := by omega
      have hi2 : ((i : Int) == (i : Int)) = true := by simp
      have HNm := hid (Kd.names_any q6)
      have BN : Hid (Below w.heap.size w q6) := by rw [← hn0.out]; exact HW.out.trans (B6.out.mono hbn.out)
      go_wp2_with fail
      refine HNm.out.mono ?_
      rintro e q7 ⟨rfl, rfl⟩
      go_wp2_with fail
      go_ret
      exact ⟨rfl, BN.out⟩
end Go.Proofs.Ytkanjbeijoeenaa.Bz

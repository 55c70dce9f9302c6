/- BlockSeeks walked. -/
import Derived.Test.YtkanjbeijoeenaaBk
import Derived.Test.YtkanjbeijoeenaaSk
namespace Go.Proofs.Ytkanjbeijoeenaa.Sq
open Go.ChangeShapes Go.WideShapes Go.ChangeAt Go.RowKit
open Go.Sort (grow)
open Go.Proofs.Ytkanjbeijoeenaa.By
open Go.Proofs.Ytkanjbeijoeenaa.Bl
open Go.Proofs.Ytkanjbeijoeenaa.Bn
open Go.Proofs.Ytkanjbeijoeenaa.Bm
open Go.Proofs.Ytkanjbeijoeenaa.Bb
open Go.Proofs.Ytkanjbeijoeenaa.Bu
open Go.Proofs.Ytkanjbeijoeenaa.Ra
open Go.Proofs.Ytkanjbeijoeenaa.Cu
open Go.Proofs.Ytkanjbeijoeenaa.Bk
open Go.Proofs.Ytkanjbeijoeenaa.Sk (Cut seek_any)
open Go.Proofs.Ytkanjbeijoeenaa.Ik
open Go.Proofs.Ytkanjbeijoeenaa.Cm (ik)
open Go.Proofs.Ytkanjbeijoeenaa.Oi (wts)
open Go.Proofs.Ytkanjbeijoeenaa.Mb (hid box_below blk_lt new_at size_alloc cell_of fz_of set_of set_ne Fp gw own_blocks own_lt E ze At4 Ents OwnE OwnE.ents drew_below drewN_below compare_below)
set_option linter.unusedVariables false
set_option linter.unusedSimpArgs false

theorem cut_any (q : IK) : ∀ (T : List E), (T.Pairwise fun a b => cmp a.ik b.ik < 0) → ∃ m, Cut T q m
  | [], _ => ⟨0, Nat.le_refl _, by omega, by simp⟩
  | x :: l, h => by
    obtain ⟨h1, h2⟩ := List.pairwise_cons.1 h
    obtain ⟨m, a1, a2, a3⟩ := cut_any q l h2
    by_cases hx : cmp x.ik q < 0
    · refine ⟨m + 1, by simp; exact a1, fun i hi => ?_, fun i hi hl => ?_⟩
      · cases i with
        | zero => simpa using hx
        | succ i => have := a2 i (by omega); simpa using this
      · cases i with
        | zero => omega
        | succ i => have := a3 i (by omega) (by simpa using hl); simpa using this
    · refine ⟨0, Nat.zero_le _, by omega, fun i _ hl => ?_⟩
      cases i with
      | zero => simpa using hx
      | succ i =>
        have hl' : i < l.length := by simpa using hl
        intro hc
        have hc' : cmp (l.getD i ze).ik q < 0 := by simpa using hc
        have hm : l.getD i ze ∈ l := by rw [List.getD_eq_getElem?_getD, List.getElem?_eq_getElem hl']; exact List.getElem_mem hl'
        exact hx (of_lt (Lt_trans (lt_of (h1 _ hm)) (lt_of hc')))
theorem seeks_no (r : Int) (a : Option Addr) (len cap : Nat) (k : ByteArray) (s c : Int) (w : World) (h : r < 1 ∨ 64 < r) : Calls Try.prog 7 #[.int .i64 r, .slice a len cap, .agg #[.string k, .int .u64 s, .int .i64 c]] w fun e w' => e = .returned (.bool true) ∧ Below w.heap.size w w' := by
  by_cases h1 : r < 1
  · clear h
    go_enter Try.func7, Try.ntmps7
    go_wp2
    go_ret
    exact ⟨rfl, box_below _ _⟩
  · have h2 : 64 < r := by omega
    clear h
    go_enter Try.func7, Try.ntmps7
    go_wp2
    go_ret
    exact ⟨rfl, box_below _ _⟩
set_option maxRecDepth 100000 in
set_option maxHeartbeats 8000000 in
theorem seeks_yes (r : Nat) (a : Option Addr) (len cap : Nat) (ls : List E) (k : ByteArray) (s c : Int) (w : World) (HL : Ents w a len cap ls) (hr : 1 ≤ r ∧ r ≤ 64) (hsz : wts ls ≤ 2000000) :
    Calls Try.prog 7 #[.int .i64 (r : Int), .slice a len cap, .agg #[.string k, .int .u64 s, .int .i64 c]] w fun e w' => e = .returned (.bool true) ∧ Below w.heap.size w w' := by
  have r1 : ¬ (r : Int) < 1 := by omega
  have r2 : ¬ 64 < (r : Int) := by omega
  obtain ⟨W0, hW0⟩ : ∃ W, W = w.alloc (.cells #[.string k, .int .u64 s, .int .i64 c] 36) := ⟨_, rfl⟩
  obtain ⟨g0, hg0⟩ : ∃ g, g = w.heap.size := ⟨_, rfl⟩
  have B0 : Below w.heap.size w W0 := by rw [hW0]; exact box_below _ _
  have k0 : W0.heap[g0]? = some (.cells #[.string k, .int .u64 s, .int .i64 c] 36) := by rw [hW0, hg0]; exact new_at _ _
  have HB1 := hid (built_any r a len cap ls W0 (HL.later B0) hr hsz)
  have hgd := took_gd ls (fun x hx => (HL.2.2.2.1 x hx).2.1.1)
  have hok := took_ok ls HL.2.2.2.1
  have hwt := Nat.le_trans (took_wts ls) hsz
  have hnb : (took ls).length ≤ 2000000 := by have := wts_len (took ls); omega
  replace hr := hid hr
  clear HL hsz
  generalize hT : took ls = T at *
  obtain ⟨m, hm⟩ := cut_any (ik k s c) T hgd.2
  have hmN := hm.1
  replace hm := hid hm
  replace hgd := hid hgd
  replace hok := hid hok
  replace hwt := hid hwt
  replace hT := hid hT
  replace B0 := hid B0
  replace k0 := hid k0
  replace hW0 := hid hW0
  replace hg0 := hid hg0
  go_enter Try.func7, Try.ntmps7
  go_wp2_with fail
  rw [← hW0.out, ← hg0.out]
  refine HB1.out.mono ?_
  rintro e w1 ⟨v1, vh1, rfl, o1, e1, b1⟩
  have HO := hid (open_built r hr.out T hgd.out hok.out hwt.out v1 _ w1 o1)
  obtain ⟨ha, hc, rfl, hH1⟩ := OwnE.ents e1 hok.out
  have hH0 : Hid (∀ x, ha = some x → x.block < w1.heap.size) := by
    intro x hx
    rcases e1.2 with ⟨h1, _⟩ | ⟨g', c', cur, h1, h2, h3, h4⟩
    · rw [hx] at h1; cases h1
    · rw [hx] at h1; cases h1
      exact (Array.getElem?_eq_some_iff.1 h3).1
  have k1 := hid ((b1.block g0 (blk_lt k0.out)).trans k0.out)
  replace b1 := hid (B0.out.trans (b1.mono B0.out.size))
  replace hH1 := hid hH1
  clear o1 e1 HB1 k0
  go_wp2_with fail
  refine HO.out.mono ?_
  rintro e w3 ⟨gc, ea, ec, rfl, hcb, hes, hen, hlo, b3⟩
  have hhs : Hid (Ents w3 ha T.length hc T) := hH1.out.later b3
  have hhn : Hid (∀ x, ha = some x → x.block ≠ gc) := fun x hx => by have := hH0.out x hx; omega
  have BW : Hid (Below w.heap.size w w3) := b1.out.trans (b3.mono b1.out.size)
  have hlw : Hid (w.heap.size ≤ gc) := Nat.le_trans b1.out.size hlo
  have k3 := hid ((b3.block g0 (blk_lt k1.out)).trans k1.out)
  have hg0c : Hid (g0 ≠ gc) := by have := blk_lt k1.out; show _ ≠ _; omega
  replace hcb := hid hcb
  replace hes := hid hes
  replace hen := hid hen
  clear hlo b3 b1 hH1 hH0 HO k1
  have hTe : Hid (∀ i, i < T.length → (cmp (T.getD i ze).ik (ik k s c) < 0 ↔ i < m)) := by
    intro i hi
    refine ⟨fun h => ?_, fun h => hm.out.2.1 i h⟩
    by_cases h2 : i < m
    · exact h2
    · exact absurd h (hm.out.2.2 i (by omega) hi)
  generalize hN : T.length = N at *
  replace hN := hid hN
  go_wp2_with fail
  go_loopw [12, 13] (fun bv iv wr => ∃ (i : Nat), i ≤ N ∧ iv = .int .i64 (i : Int) ∧ bv = .int .i64 ((min i m : Nat) : Int) ∧ Hid (Below w3.heap.size w3 wr)) (fun _ iv _ => N - (intOf iv).toNat)
  case atStart => exact ⟨0, by omega, rfl, by rw [Nat.zero_min]; rfl, Below.refl _ _⟩
  case round =>
    obtain ⟨i, hi, rfl, rfl, HB⟩ := hrel
    have kr := (HB.out.block g0 (blk_lt k3.out)).trans k3.out
    by_cases hiN : i < N
    · cases ha with
      | none => exact absurd (hhs.out.2.2.1 rfl).1 (by omega)
      | some had =>
        obtain ⟨hb, ho, hp⟩ := had
        have hhsr := hhs.out.later HB.out
        obtain ⟨rfl, hah⟩ := hhsr.2.2.2.2 hb ho hp rfl (by omega)
        have hhc := hhsr.2.1
        have hAh := hah i hiN
        have hti := hTe.out i hiN
        have hC : Hid (∀ W, Calls Try.prog 29 #[.agg #[.string (T.getD i ze).k, .int .u64 (T.getD i ze).s, .int .i64 (T.getD i ze).c], .agg #[.string k, .int .u64 s, .int .i64 c]] W fun e w' => e = .returned (.int .i64 (cmp (T.getD i ze).ik (ik k s c))) ∧ Below W.heap.size W w') := fun W => compare_below _ _ _ _ _ _ W
        have x0 := cell_regrown hAh.1
        have x1 := cell_regrown hAh.2.1
        have x2 := cell_regrown hAh.2.2.1
        have y0 := cell_regrown (cell_of kr 0 _ rfl)
        have y1 := cell_regrown (cell_of kr 1 _ rfl)
        have y2 := cell_regrown (cell_of kr 2 _ rfl)
        generalize cmp (T.getD i ze).ik (ik k s c) = C at *
        generalize (T.getD i ze).k = yk at *
        generalize (T.getD i ze).s = ys at *
        generalize (T.getD i ze).c = yc at *
        have hi2 : (i : Int) < (N : Int) := by omega
        have hwr : IntKind.i64.wrap ((i : Int) + 1) = ((i + 1 : Nat) : Int) := by rw [IntKind.wrap_i64]; omega
        obtain ⟨bl, hbl⟩ : ∃ b, b = min i m := ⟨_, rfl⟩
        rw [← hbl]
        clear hah hAh hhsr kr
        by_cases hC0 : C < 0
        · have him := hti.1 hC0
          have hnb2 : min (i + 1) m = bl + 1 := by rw [hbl]; omega
          have hwb : IntKind.i64.wrap ((bl : Int) + 1) = ((bl + 1 : Nat) : Int) := by rw [IntKind.wrap_i64]; omega
          replace hnb2 := hid hnb2
          replace hbl := hid hbl
          clear hti
          go_wp2_with fail
          refine wp_region_quiet_below (by kernel_rfl) (by kernel_rfl) ?_
          repeat (first | go_big_quiet_step (first | (go_at_call 29; exact Calls.regrown_of (hC.out _))) | quiet_step (first | (go_at_call 29; exact Calls.regrown_of (hC.out _))))
          refine wpQuiet_nil ?_
          intro w5 hw5
          have b5 : Below wr.heap.size wr w5 := by
            obtain ⟨⟨dq, osq⟩, hw''⟩ := hw5
            rw [hw'']
            exact below_regrown _ dq osq
          have B3 := hid (HB.out.trans (b5.mono HB.out.size))
          clear hw5 b5 x0 x1 x2 y0 y1 y2 hC
          go_wp2_with fail
          refine ⟨⟨i + 1, by omega, by first | rfl | go_num, by rw [hnb2.out]; first | rfl | go_num, B3⟩, ?_⟩
          simp only [intOf]; omega
        · have him : ¬ i < m := fun h => hC0 (hti.2 h)
          have hnb2 : min (i + 1) m = bl := by rw [hbl]; omega
          replace hnb2 := hid hnb2
          replace hbl := hid hbl
          clear hti
          go_wp2_with fail
          refine wp_region_quiet_below (by kernel_rfl) (by kernel_rfl) ?_
          repeat (first | go_big_quiet_step (first | (go_at_call 29; exact Calls.regrown_of (hC.out _))) | quiet_step (first | (go_at_call 29; exact Calls.regrown_of (hC.out _))))
          refine wpQuiet_nil ?_
          intro w5 hw5
          have b5 : Below wr.heap.size wr w5 := by
            obtain ⟨⟨dq, osq⟩, hw''⟩ := hw5
            rw [hw'']
            exact below_regrown _ dq osq
          have B3 := hid (HB.out.trans (b5.mono HB.out.size))
          clear hw5 b5 x0 x1 x2 y0 y1 y2 hC
          go_wp2_with fail
          refine ⟨⟨i + 1, by omega, by first | rfl | go_num, by rw [hnb2.out], B3⟩, ?_⟩
          simp only [intOf]; omega
    · have hi2 : ¬ (i : Int) < (N : Int) := by omega
      have hbm : min i m = m := by omega
      rw [hbm]
      have C3 := hcb.out.later HB.out
      have E3 := hes.out.later HB.out
      have H3 := hhs.out.later HB.out
      have hSk := hid (seek_any gc ea N ec m 0 T k s c wr C3 E3 (by omega) hm.out)
      have z0 := cell_of kr 0 _ rfl
      have z1 := cell_of kr 1 _ rfl
      have z2 := cell_of kr 2 _ rfl
      replace E3 := hid E3
      replace H3 := hid H3
      have hBr := hid (BW.out.trans (HB.out.mono BW.out.size))
      clear hbm C3 hiN hTe
      have hsm : at1 N ((m : Int) + 1) = decide ((m : Int) < (N : Int)) := by
        unfold at1
        by_cases h : m < N
        · rw [decide_eq_true (by omega), decide_eq_true (by omega)]
        · rw [decide_eq_false (by omega), decide_eq_false (by omega)]
      replace hsm := hid hsm
      go_wp2_with fail
      refine hSk.out.mono ?_
      rintro e w7 ⟨rfl, m7⟩
      rw [hsm.out]
      clear hSk z0 z1 z2 hi2
      by_cases hN0 : 0 < N
      · obtain ⟨eb, eo, hea⟩ : ∃ eb eo, ea = some ⟨eb, eo, none⟩ := by
          cases hh : ea with
          | none => exact absurd (E3.out.2.2.1 hh).1 (by omega)
          | some ead =>
            obtain ⟨eb, eo, ep⟩ := ead
            obtain ⟨rfl, _⟩ := E3.out.2.2.2.2 eb eo ep hh (by omega)
            exact ⟨eb, eo, rfl⟩
        obtain ⟨hb, ho, hha⟩ : ∃ hb ho, ha = some ⟨hb, ho, none⟩ := by
          cases hh : ha with
          | none => exact absurd (H3.out.2.2.1 hh).1 (by omega)
          | some ead =>
            obtain ⟨eb, eo, ep⟩ := ead
            obtain ⟨rfl, _⟩ := H3.out.2.2.2.2 eb eo ep hh (by omega)
            exact ⟨eb, eo, rfl⟩
        subst hea
        subst hha
        by_cases hmlt : m < N
        · have F7 : Fp (fun j => j = gc) wr w7 := m7.2
          have C7 := m7.1
          clear m7
          have E7 := ents_fp E3.out F7 hen.out
          have H7 := ents_fp H3.out F7 hhn.out
          have hAe := (E7.2.2.2.2 eb eo none rfl (by omega)).2 m (by omega)
          have hAh := (H7.2.2.2.2 hb ho none rfl (by omega)).2 m (by omega)
          have hec1 := E7.2.1
          have hhc1 := H7.2.1
          obtain ⟨x, hx⟩ : ∃ x, x = T.getD m ze := ⟨_, rfl⟩
          rw [← hx] at hAe hAh
          replace hx := hid hx
          obtain ⟨xk, xq, xc, xv⟩ := x
          have HE := hid (here_yes gc eb eo N ec m ⟨xk, xq, xc, xv⟩ w7 C7 (by omega) (by omega) hec1 hAe)
          have hml : (m : Int) < (N : Int) := by omega
          have hmld : decide ((m : Int) < (N : Int)) = true := decide_eq_true hml
          clear hAe E7 H7
          replace C7 := hid C7
          replace F7 := hid F7
          rw [hmld]
          go_wp2_with fail
          refine HE.out.mono ?_
          rintro e w8 ⟨rfl, b8⟩
          try dsimp only
          obtain ⟨gk, hgk⟩ : ∃ g, g = w8.heap.size := ⟨_, rfl⟩
          obtain ⟨wz, hwz⟩ : ∃ W, W = w8.alloc (.cells #[.string xk, .int .u64 xq, .int .i64 xc] 36) := ⟨_, rfl⟩
          have bz : Below w8.heap.size w8 wz := by rw [hwz]; exact box_below _ _
          have kz : wz.heap[gk]? = some (.cells #[.string xk, .int .u64 xq, .int .i64 xc] 36) := by rw [hwz, hgk]; exact new_at _ _
          have b7z : Below w7.heap.size w7 wz := b8.trans (bz.mono b8.size)
          have t0 := cell_of kz 0 _ rfl
          have t1 := cell_of kz 1 _ rfl
          have t2 := cell_of kz 2 _ rfl
          have hgkc : Hid (¬ gk = gc) := by have h1 := C7.out.lt; have h2 := b8.size; show ¬ _; omega
          have hgkw : Hid (w.heap.size ≤ gk) := by have h1 := F7.out.size; have h2 := hBr.out.size; have h3 := b8.size; show _ ≤ _; omega
          have hhk : Hid (hb ≠ gk) := by
            have h1 : hb < wr.heap.size := block_lt_of_cell ((H3.out.2.2.2.2 hb ho none rfl (by omega)).2 0 (by omega)).1
            have h2 := F7.out.size
            have h3 := b8.size
            show _ ≠ _
            omega
          obtain ⟨s0, s1, s2, s3⟩ := hAh.later b7z
          dsimp only at s0 s1 s2 s3
          clear hAh
          have AFT : Hid (∀ nn, Cb (wz.drewN nn) gc (some ⟨eb, eo, none⟩) N ec ((m : Int) + 1) ∧ Fp (fun j => j = gc) wr (wz.drewN nn) ∧ (wz.drewN nn).heap[gk]? = some (.cells #[.string xk, .int .u64 xq, .int .i64 xc] 36)) := fun nn => ⟨C7.out.later (b7z.trans ((drewN_below wz nn).mono b7z.size)), (F7.out.below b7z).below (drewN_below wz nn), ((drewN_below wz nn).block gk (blk_lt kz)).trans kz⟩
          replace hgk := hid hgk
          replace hwz := hid hwz
          clear b8 bz kz b7z HE
          go_wp2_with fail
          rw [← hwz.out, ← hgk.out]
          go_quiet (fail)
          obtain ⟨C9, F9, K9⟩ := AFT.out nq
          generalize wz.drewN nq = w9 at *
          clear AFT t0 t1 t2 s0 s1 s2 s3
          by_cases hmp0 : 0 < m
          · have HPv := prev_any gc (some ⟨eb, eo, none⟩) N ec ((m : Int) + 1) w9 C9 (by omega) (by omega)
            rw [show max ((m : Int) + 1) 1 - 1 = (m : Int) by omega] at HPv
            rw [show at1 N (m : Int) = true from by unfold at1; exact decide_eq_true (by omega)] at HPv
            have hm0 : (0 : Int) < (m : Int) := by omega
            have hm00 : 0 < m := by omega
            have hm0d : decide ((0 : Int) < (m : Int)) = true := decide_eq_true hm0
            replace HPv := hid HPv
            replace F9 := hid F9
            replace K9 := hid K9
            clear C9
            go_wp2_with fail
            refine HPv.out.mono ?_
            rintro e wa ⟨rfl, ma⟩
            have Ca := ma.1
            have Fa : Fp (fun j => j = gc) wr wa := F9.out.trans (ma.2.wide fun j _ hj => .inl hj)
            have ka := (ma.2.block gk (blk_lt K9.out) hgkc.out).trans K9.out
            clear ma HPv
            obtain ⟨p, hp1⟩ : ∃ p, m = p + 1 := ⟨m - 1, by omega⟩
            have Ea := ents_fp E3.out Fa hen.out
            have Ha := ents_fp H3.out Fa hhn.out
            have hAe := (Ea.2.2.2.2 eb eo none rfl (by omega)).2 p (by omega)
            have hAh := (Ha.2.2.2.2 hb ho none rfl (by omega)).2 p (by omega)
            have hec := Ea.2.1
            have hhc := Ha.2.1
            generalize T.getD p ze = y at hAe hAh
            obtain ⟨qk, qq, qc, qv⟩ := y
            have HE := hid (here_yes gc eb eo N ec p ⟨qk, qq, qc, qv⟩ wa (by rw [show (p : Int) + 1 = (m : Int) by omega]; exact Ca) (by omega) (by omega) hec hAe)
            have hpl : (p : Int) < (N : Int) := by omega
            have hpw : IntKind.i64.wrap ((m : Int) - 1) = (p : Int) := by rw [IntKind.wrap_i64]; omega
            replace hp1 := hid hp1
            clear hAe Ea Ha
            have kaH := hid ka
            have FaH := hid Fa
            clear ka Fa Ca
            go_wp2_with fail
            refine HE.out.mono ?_
            rintro e wb ⟨rfl, bb'⟩
            try dsimp only
            have kb := (bb'.block gk (blk_lt kaH.out)).trans kaH.out
            have u0 := cell_of kb 0 _ rfl
            have u1 := cell_of kb 1 _ rfl
            have u2 := cell_of kb 2 _ rfl
            have n0 := fz_of kb 0
            have n1 := fz_of kb 1
            have n2 := fz_of kb 2
            obtain ⟨wc, hwc⟩ : ∃ W, W = ((wb.setCell ⟨gk, 0, none⟩ (.string qk)).setCell ⟨gk, 1, none⟩ (.int .u64 qq)).setCell ⟨gk, 2, none⟩ (.int .i64 qc) := ⟨_, rfl⟩
            have kc : wc.heap[gk]? = some (.cells #[.string qk, .int .u64 qq, .int .i64 qc] 36) := by rw [hwc]; exact set_of (set_of (set_of kb 0 _) 1 _) 2 _
            have Fb : Fp (fun j => j = gc ∨ j = gk) wr wb := (FaH.out.below bb').wide fun j _ hj => .inl hj
            have Fc : Fp (fun j => j = gc ∨ j = gk) wr wc := by
              rw [hwc]
              exact Fp.set (P := fun j => j = gc ∨ j = gk) (Fp.set (P := fun j => j = gc ∨ j = gk) (Fp.set (P := fun j => j = gc ∨ j = gk) Fb (.inl (.inr rfl)) 0 _) (.inl (.inr rfl)) 1 _) (.inl (.inr rfl)) 2 _
            have t0 := cell_of kc 0 _ rfl
            have t1 := cell_of kc 1 _ rfl
            have t2 := cell_of kc 2 _ rfl
            have hAc : At4 wc hb (ho + p * 4) ⟨qk, qq, qc, qv⟩ := by
              have h1 : hb < wa.heap.size := block_lt_of_cell hAh.1
              have h2 : hb ≠ gk := hhk.out
              have eqh : wc.heap[hb]? = wa.heap[hb]? := by
                rw [hwc, set_ne _ _ _ _ _ h2, set_ne _ _ _ _ _ h2, set_ne _ _ _ _ _ h2]
                exact bb'.block hb h1
              obtain ⟨a0, a1, a2, a3⟩ := hAh
              unfold World.cell? at a0 a1 a2 a3
              unfold At4 World.cell?
              rw [eqh]
              exact ⟨a0, a1, a2, a3⟩
            obtain ⟨s0, s1, s2, s3⟩ := hAc
            dsimp only at s0 s1 s2 s3
            clear hAh
            have BF : Hid (∀ nn, Below w.heap.size w (wc.drewN nn)) := by
              intro nn
              have h1 : Below w.heap.size w wc := hBr.out.trans (Fc.base (by have := hBr.out.size; omega) (fun j hj => by rcases hj with h | h; rw [h]; exact hlw.out; rw [h]; exact hgkw.out))
              exact h1.trans ((drewN_below wc nn).mono h1.size)
            replace hwc := hid hwc
            clear bb' kb kc Fb Fc HE
            go_wp2_with fail
            rw [← hwc.out]
            go_quiet (fail)
            go_wp2_with fail
            go_ret
            exact ⟨rfl, BF.out _⟩
          · have HPv := prev_any gc (some ⟨eb, eo, none⟩) N ec ((m : Int) + 1) w9 C9 (by omega) (by omega)
            rw [show max ((m : Int) + 1) 1 - 1 = (m : Int) by omega] at HPv
            rw [show at1 N (m : Int) = false from by unfold at1; exact decide_eq_false (by omega)] at HPv
            have hm0 : ¬ (0 : Int) < (m : Int) := by omega
            have hm00 : ¬ 0 < m := by omega
            have hm0d : decide ((0 : Int) < (m : Int)) = false := decide_eq_false hm0
            replace HPv := hid HPv
            replace F9 := hid F9
            replace K9 := hid K9
            clear C9
            go_wp2_with fail
            refine HPv.out.mono ?_
            rintro e wa ⟨rfl, ma⟩
            have Ca := ma.1
            have Fa : Fp (fun j => j = gc) wr wa := F9.out.trans (ma.2.wide fun j _ hj => .inl hj)
            have ka := (ma.2.block gk (blk_lt K9.out) hgkc.out).trans K9.out
            clear ma HPv
            have HE := hid (here_no gc (some ⟨eb, eo, none⟩) N ec (m : Int) wa Ca (at_out (by omega)))
            have kaH := hid ka
            have FaH := hid Fa
            clear ka Fa Ca
            go_wp2_with fail
            refine HE.out.mono ?_
            rintro e wb ⟨rfl, bb'⟩
            try dsimp only
            have kb := (bb'.block gk (blk_lt kaH.out)).trans kaH.out
            have u0 := cell_of kb 0 _ rfl
            have u1 := cell_of kb 1 _ rfl
            have u2 := cell_of kb 2 _ rfl
            have n0 := fz_of kb 0
            have n1 := fz_of kb 1
            have n2 := fz_of kb 2
            obtain ⟨wc, hwc⟩ : ∃ W, W = ((wb.setCell ⟨gk, 0, none⟩ (.string ⟨#[]⟩)).setCell ⟨gk, 1, none⟩ (.int .u64 0)).setCell ⟨gk, 2, none⟩ (.int .i64 0) := ⟨_, rfl⟩
            have kc : wc.heap[gk]? = some (.cells #[.string ⟨#[]⟩, .int .u64 0, .int .i64 0] 36) := by rw [hwc]; exact set_of (set_of (set_of kb 0 _) 1 _) 2 _
            have Fb : Fp (fun j => j = gc ∨ j = gk) wr wb := (FaH.out.below bb').wide fun j _ hj => .inl hj
            have Fc : Fp (fun j => j = gc ∨ j = gk) wr wc := by
              rw [hwc]
              exact Fp.set (P := fun j => j = gc ∨ j = gk) (Fp.set (P := fun j => j = gc ∨ j = gk) (Fp.set (P := fun j => j = gc ∨ j = gk) Fb (.inl (.inr rfl)) 0 _) (.inl (.inr rfl)) 1 _) (.inl (.inr rfl)) 2 _
            have t0 := cell_of kc 0 _ rfl
            have t1 := cell_of kc 1 _ rfl
            have t2 := cell_of kc 2 _ rfl
            have BF : Hid (∀ nn, Below w.heap.size w (wc.drewN nn)) := by
              intro nn
              have h1 : Below w.heap.size w wc := hBr.out.trans (Fc.base (by have := hBr.out.size; omega) (fun j hj => by rcases hj with h | h; rw [h]; exact hlw.out; rw [h]; exact hgkw.out))
              exact h1.trans ((drewN_below wc nn).mono h1.size)
            replace hwc := hid hwc
            clear bb' kb kc Fb Fc HE
            go_wp2_with fail
            rw [← hwc.out]
            go_quiet (fail)
            go_wp2_with fail
            go_ret
            exact ⟨rfl, BF.out _⟩
        · have F7 : Fp (fun j => j = gc) wr w7 := m7.2
          have C7 := m7.1
          clear m7
          have HE := hid (here_no gc (some ⟨eb, eo, none⟩) N ec ((m : Int) + 1) w7 C7 (at_out (by omega)))
          have hml : ¬ (m : Int) < (N : Int) := by omega
          have hmld : decide ((m : Int) < (N : Int)) = false := decide_eq_false hml
          replace C7 := hid C7
          replace F7 := hid F7
          rw [hmld]
          go_wp2_with fail
          refine HE.out.mono ?_
          rintro e w8 ⟨rfl, b8⟩
          try dsimp only
          obtain ⟨gk, hgk⟩ : ∃ g, g = w8.heap.size := ⟨_, rfl⟩
          obtain ⟨wz, hwz⟩ : ∃ W, W = w8.alloc (.cells #[.string ⟨#[]⟩, .int .u64 0, .int .i64 0] 36) := ⟨_, rfl⟩
          have bz : Below w8.heap.size w8 wz := by rw [hwz]; exact box_below _ _
          have kz : wz.heap[gk]? = some (.cells #[.string ⟨#[]⟩, .int .u64 0, .int .i64 0] 36) := by rw [hwz, hgk]; exact new_at _ _
          have b7z : Below w7.heap.size w7 wz := b8.trans (bz.mono b8.size)
          have t0 := cell_of kz 0 _ rfl
          have t1 := cell_of kz 1 _ rfl
          have t2 := cell_of kz 2 _ rfl
          have hgkc : Hid (¬ gk = gc) := by have h1 := C7.out.lt; have h2 := b8.size; show ¬ _; omega
          have hgkw : Hid (w.heap.size ≤ gk) := by have h1 := F7.out.size; have h2 := hBr.out.size; have h3 := b8.size; show _ ≤ _; omega
          have hhk : Hid (hb ≠ gk) := by
            have h1 : hb < wr.heap.size := block_lt_of_cell ((H3.out.2.2.2.2 hb ho none rfl (by omega)).2 0 (by omega)).1
            have h2 := F7.out.size
            have h3 := b8.size
            show _ ≠ _
            omega
          have AFT : Hid (∀ nn, Cb (wz.drewN nn) gc (some ⟨eb, eo, none⟩) N ec ((m : Int) + 1) ∧ Fp (fun j => j = gc) wr (wz.drewN nn) ∧ (wz.drewN nn).heap[gk]? = some (.cells #[.string ⟨#[]⟩, .int .u64 0, .int .i64 0] 36)) := fun nn => ⟨C7.out.later (b7z.trans ((drewN_below wz nn).mono b7z.size)), (F7.out.below b7z).below (drewN_below wz nn), ((drewN_below wz nn).block gk (blk_lt kz)).trans kz⟩
          replace hgk := hid hgk
          replace hwz := hid hwz
          clear b8 bz kz b7z HE
          go_wp2_with fail
          rw [← hwz.out, ← hgk.out]
          go_quiet (fail)
          obtain ⟨C9, F9, K9⟩ := AFT.out nq
          generalize wz.drewN nq = w9 at *
          clear AFT t0 t1 t2
          have HPv := prev_any gc (some ⟨eb, eo, none⟩) N ec ((m : Int) + 1) w9 C9 (by omega) (by omega)
          rw [show max ((m : Int) + 1) 1 - 1 = (m : Int) by omega] at HPv
          rw [show at1 N (m : Int) = true from by unfold at1; exact decide_eq_true (by omega)] at HPv
          have hm0 : (0 : Int) < (m : Int) := by omega
          have hm00 : 0 < m := by omega
          have hm0d : decide ((0 : Int) < (m : Int)) = true := decide_eq_true hm0
          replace HPv := hid HPv
          replace F9 := hid F9
          replace K9 := hid K9
          clear C9
          go_wp2_with fail
          refine HPv.out.mono ?_
          rintro e wa ⟨rfl, ma⟩
          have Ca := ma.1
          have Fa : Fp (fun j => j = gc) wr wa := F9.out.trans (ma.2.wide fun j _ hj => .inl hj)
          have ka := (ma.2.block gk (blk_lt K9.out) hgkc.out).trans K9.out
          clear ma HPv
          obtain ⟨p, hp1⟩ : ∃ p, m = p + 1 := ⟨m - 1, by omega⟩
          have Ea := ents_fp E3.out Fa hen.out
          have Ha := ents_fp H3.out Fa hhn.out
          have hAe := (Ea.2.2.2.2 eb eo none rfl (by omega)).2 p (by omega)
          have hAh := (Ha.2.2.2.2 hb ho none rfl (by omega)).2 p (by omega)
          have hec := Ea.2.1
          have hhc := Ha.2.1
          generalize T.getD p ze = y at hAe hAh
          obtain ⟨qk, qq, qc, qv⟩ := y
          have HE := hid (here_yes gc eb eo N ec p ⟨qk, qq, qc, qv⟩ wa (by rw [show (p : Int) + 1 = (m : Int) by omega]; exact Ca) (by omega) (by omega) hec hAe)
          have hpl : (p : Int) < (N : Int) := by omega
          have hpw : IntKind.i64.wrap ((m : Int) - 1) = (p : Int) := by rw [IntKind.wrap_i64]; omega
          replace hp1 := hid hp1
          clear hAe Ea Ha
          have kaH := hid ka
          have FaH := hid Fa
          clear ka Fa Ca
          go_wp2_with fail
          refine HE.out.mono ?_
          rintro e wb ⟨rfl, bb'⟩
          try dsimp only
          have kb := (bb'.block gk (blk_lt kaH.out)).trans kaH.out
          have u0 := cell_of kb 0 _ rfl
          have u1 := cell_of kb 1 _ rfl
          have u2 := cell_of kb 2 _ rfl
          have n0 := fz_of kb 0
          have n1 := fz_of kb 1
          have n2 := fz_of kb 2
          obtain ⟨wc, hwc⟩ : ∃ W, W = ((wb.setCell ⟨gk, 0, none⟩ (.string qk)).setCell ⟨gk, 1, none⟩ (.int .u64 qq)).setCell ⟨gk, 2, none⟩ (.int .i64 qc) := ⟨_, rfl⟩
          have kc : wc.heap[gk]? = some (.cells #[.string qk, .int .u64 qq, .int .i64 qc] 36) := by rw [hwc]; exact set_of (set_of (set_of kb 0 _) 1 _) 2 _
          have Fb : Fp (fun j => j = gc ∨ j = gk) wr wb := (FaH.out.below bb').wide fun j _ hj => .inl hj
          have Fc : Fp (fun j => j = gc ∨ j = gk) wr wc := by
            rw [hwc]
            exact Fp.set (P := fun j => j = gc ∨ j = gk) (Fp.set (P := fun j => j = gc ∨ j = gk) (Fp.set (P := fun j => j = gc ∨ j = gk) Fb (.inl (.inr rfl)) 0 _) (.inl (.inr rfl)) 1 _) (.inl (.inr rfl)) 2 _
          have t0 := cell_of kc 0 _ rfl
          have t1 := cell_of kc 1 _ rfl
          have t2 := cell_of kc 2 _ rfl
          have hAc : At4 wc hb (ho + p * 4) ⟨qk, qq, qc, qv⟩ := by
            have h1 : hb < wa.heap.size := block_lt_of_cell hAh.1
            have h2 : hb ≠ gk := hhk.out
            have eqh : wc.heap[hb]? = wa.heap[hb]? := by
              rw [hwc, set_ne _ _ _ _ _ h2, set_ne _ _ _ _ _ h2, set_ne _ _ _ _ _ h2]
              exact bb'.block hb h1
            obtain ⟨a0, a1, a2, a3⟩ := hAh
            unfold World.cell? at a0 a1 a2 a3
            unfold At4 World.cell?
            rw [eqh]
            exact ⟨a0, a1, a2, a3⟩
          obtain ⟨s0, s1, s2, s3⟩ := hAc
          dsimp only at s0 s1 s2 s3
          clear hAh
          have BF : Hid (∀ nn, Below w.heap.size w (wc.drewN nn)) := by
            intro nn
            have h1 : Below w.heap.size w wc := hBr.out.trans (Fc.base (by have := hBr.out.size; omega) (fun j hj => by rcases hj with h | h; rw [h]; exact hlw.out; rw [h]; exact hgkw.out))
            exact h1.trans ((drewN_below wc nn).mono h1.size)
          replace hwc := hid hwc
          clear bb' kb kc Fb Fc HE
          go_wp2_with fail
          rw [← hwc.out]
          go_quiet (fail)
          go_wp2_with fail
          go_ret
          exact ⟨rfl, BF.out _⟩
      · have F7 : Fp (fun j => j = gc) wr w7 := m7.2
        have C7 := m7.1
        clear m7
        have HE := hid (here_no gc ea N ec ((m : Int) + 1) w7 C7 (at_out (by omega)))
        have hml : ¬ (m : Int) < (N : Int) := by omega
        have hmld : decide ((m : Int) < (N : Int)) = false := decide_eq_false hml
        replace C7 := hid C7
        replace F7 := hid F7
        rw [hmld]
        go_wp2_with fail
        refine HE.out.mono ?_
        rintro e w8 ⟨rfl, b8⟩
        try dsimp only
        obtain ⟨gk, hgk⟩ : ∃ g, g = w8.heap.size := ⟨_, rfl⟩
        obtain ⟨wz, hwz⟩ : ∃ W, W = w8.alloc (.cells #[.string ⟨#[]⟩, .int .u64 0, .int .i64 0] 36) := ⟨_, rfl⟩
        have bz : Below w8.heap.size w8 wz := by rw [hwz]; exact box_below _ _
        have kz : wz.heap[gk]? = some (.cells #[.string ⟨#[]⟩, .int .u64 0, .int .i64 0] 36) := by rw [hwz, hgk]; exact new_at _ _
        have b7z : Below w7.heap.size w7 wz := b8.trans (bz.mono b8.size)
        have t0 := cell_of kz 0 _ rfl
        have t1 := cell_of kz 1 _ rfl
        have t2 := cell_of kz 2 _ rfl
        have hgkc : Hid (¬ gk = gc) := by have h1 := C7.out.lt; have h2 := b8.size; show ¬ _; omega
        have hgkw : Hid (w.heap.size ≤ gk) := by have h1 := F7.out.size; have h2 := hBr.out.size; have h3 := b8.size; show _ ≤ _; omega
        have AFT : Hid (∀ nn, Cb (wz.drewN nn) gc ea N ec ((m : Int) + 1) ∧ Fp (fun j => j = gc) wr (wz.drewN nn) ∧ (wz.drewN nn).heap[gk]? = some (.cells #[.string ⟨#[]⟩, .int .u64 0, .int .i64 0] 36)) := fun nn => ⟨C7.out.later (b7z.trans ((drewN_below wz nn).mono b7z.size)), (F7.out.below b7z).below (drewN_below wz nn), ((drewN_below wz nn).block gk (blk_lt kz)).trans kz⟩
        replace hgk := hid hgk
        replace hwz := hid hwz
        clear b8 bz kz b7z HE
        go_wp2_with fail
        rw [← hwz.out, ← hgk.out]
        go_quiet (fail)
        obtain ⟨C9, F9, K9⟩ := AFT.out nq
        generalize wz.drewN nq = w9 at *
        clear AFT t0 t1 t2
        have HPv := prev_any gc ea N ec ((m : Int) + 1) w9 C9 (by omega) (by omega)
        rw [show max ((m : Int) + 1) 1 - 1 = (m : Int) by omega] at HPv
        rw [show at1 N (m : Int) = false from by unfold at1; exact decide_eq_false (by omega)] at HPv
        have hm0 : ¬ (0 : Int) < (m : Int) := by omega
        have hm00 : ¬ 0 < m := by omega
        have hm0d : decide ((0 : Int) < (m : Int)) = false := decide_eq_false hm0
        replace HPv := hid HPv
        replace F9 := hid F9
        replace K9 := hid K9
        clear C9
        go_wp2_with fail
        refine HPv.out.mono ?_
        rintro e wa ⟨rfl, ma⟩
        have Ca := ma.1
        have Fa : Fp (fun j => j = gc) wr wa := F9.out.trans (ma.2.wide fun j _ hj => .inl hj)
        have ka := (ma.2.block gk (blk_lt K9.out) hgkc.out).trans K9.out
        clear ma HPv
        have HE := hid (here_no gc ea N ec (m : Int) wa Ca (at_out (by omega)))
        have kaH := hid ka
        have FaH := hid Fa
        clear ka Fa Ca
        go_wp2_with fail
        refine HE.out.mono ?_
        rintro e wb ⟨rfl, bb'⟩
        try dsimp only
        have kb := (bb'.block gk (blk_lt kaH.out)).trans kaH.out
        have u0 := cell_of kb 0 _ rfl
        have u1 := cell_of kb 1 _ rfl
        have u2 := cell_of kb 2 _ rfl
        have n0 := fz_of kb 0
        have n1 := fz_of kb 1
        have n2 := fz_of kb 2
        obtain ⟨wc, hwc⟩ : ∃ W, W = ((wb.setCell ⟨gk, 0, none⟩ (.string ⟨#[]⟩)).setCell ⟨gk, 1, none⟩ (.int .u64 0)).setCell ⟨gk, 2, none⟩ (.int .i64 0) := ⟨_, rfl⟩
        have kc : wc.heap[gk]? = some (.cells #[.string ⟨#[]⟩, .int .u64 0, .int .i64 0] 36) := by rw [hwc]; exact set_of (set_of (set_of kb 0 _) 1 _) 2 _
        have Fb : Fp (fun j => j = gc ∨ j = gk) wr wb := (FaH.out.below bb').wide fun j _ hj => .inl hj
        have Fc : Fp (fun j => j = gc ∨ j = gk) wr wc := by
          rw [hwc]
          exact Fp.set (P := fun j => j = gc ∨ j = gk) (Fp.set (P := fun j => j = gc ∨ j = gk) (Fp.set (P := fun j => j = gc ∨ j = gk) Fb (.inl (.inr rfl)) 0 _) (.inl (.inr rfl)) 1 _) (.inl (.inr rfl)) 2 _
        have t0 := cell_of kc 0 _ rfl
        have t1 := cell_of kc 1 _ rfl
        have t2 := cell_of kc 2 _ rfl
        have BF : Hid (∀ nn, Below w.heap.size w (wc.drewN nn)) := by
          intro nn
          have h1 : Below w.heap.size w wc := hBr.out.trans (Fc.base (by have := hBr.out.size; omega) (fun j hj => by rcases hj with h | h; rw [h]; exact hlw.out; rw [h]; exact hgkw.out))
          exact h1.trans ((drewN_below wc nn).mono h1.size)
        replace hwc := hid hwc
        clear bb' kb kc Fb Fc HE
        go_wp2_with fail
        rw [← hwc.out]
        go_quiet (fail)
        go_wp2_with fail
        go_ret
        exact ⟨rfl, BF.out _⟩
end Go.Proofs.Ytkanjbeijoeenaa.Sq

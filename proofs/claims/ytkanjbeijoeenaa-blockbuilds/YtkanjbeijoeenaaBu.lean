/- built: a block of those of items that a builder takes. -/
import Derived.Test.YtkanjbeijoeenaaBb
import Derived.Lib.QuietBelow
namespace Go.Proofs.Ytkanjbeijoeenaa.Bu
open Go.ChangeShapes Go.WideShapes Go.ChangeAt Go.RowKit
open Go.Sort (grow)
open Go.Proofs.Ytkanjbeijoeenaa.By
open Go.Proofs.Ytkanjbeijoeenaa.Bl
open Go.Proofs.Ytkanjbeijoeenaa.Bn
open Go.Proofs.Ytkanjbeijoeenaa.Bp (wp_append_run)
open Go.Proofs.Ytkanjbeijoeenaa.Bm
open Go.Proofs.Ytkanjbeijoeenaa.Ba
open Go.Proofs.Ytkanjbeijoeenaa.Bb
open Go.Proofs.Ytkanjbeijoeenaa.En (vld valid_any)
open Go.Proofs.Ytkanjbeijoeenaa.Ik
open Go.Proofs.Ytkanjbeijoeenaa.Cm (ik)
open Go.Proofs.Ytkanjbeijoeenaa.Oi (wts)
open Go.Proofs.Ytkanjbeijoeenaa.Mb (hid box_below blk_lt new_at size_alloc cell_of fz_of set_of set_ne Fp gw own_blocks own_lt E ze At4 Ents OwnE OwnE.ents drew_below drewN_below gw_low region_tail compare_below gw_sub app_item)
set_option linter.unusedVariables false
set_option linter.unusedSimpArgs false

theorem took_ok : ∀ (l : List E), (∀ x ∈ l, x.ok) → ∀ x ∈ took l, x.ok := by
  intro l
  have : ∀ (l xs : List E), (∀ x ∈ xs, x.ok) → (∀ x ∈ l, x.ok) → ∀ x ∈ l.foldl tak xs, x.ok := by
    intro l
    induction l with
    | nil => intro xs h _; exact h
    | cons y l ih =>
      intro xs h hl
      refine ih _ (fun x hx => ?_) (fun z hz => hl z (by simp [hz]))
      unfold tak at hx
      split at hx
      · rcases List.mem_append.1 hx with h1 | h1
        · exact h x h1
        · rw [List.mem_singleton.1 h1]; exact hl y (by simp)
      · exact h x hx
  exact this l [] (by simp)
theorem took_len (l : List E) : (took l).length ≤ l.length := by
  have : ∀ (l xs : List E), (l.foldl tak xs).length ≤ xs.length + l.length := by
    intro l
    induction l with
    | nil => intro xs; simp
    | cons y l ih =>
      intro xs
      have := ih (tak xs y)
      have e : (tak xs y).length ≤ xs.length + 1 := by unfold tak; split <;> simp
      simp only [List.foldl_cons, List.length_cons]
      omega
  simpa [took] using this l []
theorem wts_take (l : List E) (i : Nat) : wts (l.take i) ≤ wts l := by
  conv => rhs; rw [← List.take_append_drop i l]
  rw [wts_append]; omega
theorem ent_bytes (r : Nat) (xs : List E) (h : ∀ x ∈ xs, x.k.size ≤ maxLen ∧ x.v.size ≤ maxLen) : ∀ y ∈ (bst r xs).ent, 0 ≤ y ∧ y ≤ 255 := by
  have vbb : ∀ (n : Nat), n ≤ 18446744073709551615 → ∀ y ∈ Vb.vb (n : Int), 0 ≤ y ∧ y ≤ 255 := fun n hn => Vb.vb_bytes (n : Int) (by omega)
  have : ∀ (xs : List E) (S : BS), (∀ y ∈ S.ent, 0 ≤ y ∧ y ≤ 255) → (∀ x ∈ xs, x.k.size ≤ maxLen ∧ x.v.size ≤ maxLen) → ∀ y ∈ (xs.foldl (fun S x => stp S (kbs x) x.v) S).ent, 0 ≤ y ∧ y ≤ 255 := by
    intro xs
    induction xs with
    | nil => intro S h _; exact h
    | cons x l ih =>
      intro S h hx
      refine ih _ ?_ (fun z hz => hx z (by simp [hz]))
      intro y hy
      have hxs := hx x (by simp)
      unfold maxLen at hxs
      have hsh : shd S (kbs x) ≤ x.k.size + 8 := by
        unfold shd
        split
        · omega
        · have := (shr_le S.last (kbs x)).2; rw [kbs_len] at this; exact this
      rcases List.mem_append.1 hy with h1 | h1
      · exact h y h1
      · unfold eb at h1
        simp only [List.mem_append] at h1
        rcases h1 with (((h1 | h1) | h1) | h1) | h1
        · exact vbb _ (by omega) y h1
        · exact vbb _ (by rw [kbs_len]; omega) y h1
        · exact vbb _ (by omega) y h1
        · exact kbs_bytes x y (List.mem_of_mem_drop h1)
        · exact tx_bytes x.v y h1
  exact this xs (b0 r) (by simp [b0]) h
theorem pl_bound (r : Nat) (xs : List E) : ∀ p ∈ (bst r xs).pl, p ≤ (bst r xs).ent.length := by
  have : ∀ (xs : List E) (S : BS), (∀ p ∈ S.pl, p ≤ S.ent.length) → ∀ p ∈ (xs.foldl (fun S x => stp S (kbs x) x.v) S).pl, p ≤ (xs.foldl (fun S x => stp S (kbs x) x.v) S).ent.length := by
    intro xs
    induction xs with
    | nil => intro S h; exact h
    | cons x l ih =>
      intro S h
      refine ih _ ?_
      intro p hp
      have e : (stp S (kbs x) x.v).ent.length = S.ent.length + (eb (shd S (kbs x)) (kbs x) x.v).length := by
        show (S.ent ++ _).length = _
        rw [List.length_append]
      rw [e]
      have hp' : p ∈ plS S := hp
      unfold plS at hp'
      split at hp'
      · rcases List.mem_append.1 hp' with h1 | h1
        · have := h p h1; omega
        · rw [List.mem_singleton.1 h1]; omega
      · have := h p hp'; omega
  exact this xs (b0 r) (by simp [b0])
set_option maxRecDepth 100000 in
set_option maxHeartbeats 8000000 in
theorem built_any (r : Nat) (a : Option Addr) (len cap : Nat) (ls : List E) (w : World) (HL : Ents w a len cap ls) (hr : 1 ≤ r ∧ r ≤ 64) (hsz : wts ls ≤ 2000000) :
    Calls Try.prog 28 #[.int .i64 (r : Int), .slice a len cap] w fun e w' => ∃ v vh, e = .returned (.tuple #[v, vh, .bool true]) ∧ OwnB w' w.heap.size v (blk (bst r (took ls))) ∧ OwnE 38 w' w.heap.size vh (took ls) ∧ Below w.heap.size w w' := by
  have hlen := hid HL.1
  have hlc := HL.2.1
  have hln : len ≤ 2000000 := by have := wts_len ls; rw [← HL.1]; omega
  have hok := hid HL.2.2.2.1
  have HNew := hid (new_yes r w hr)
  replace HL := hid HL
  replace hsz := hid hsz
  replace hr := hid hr
  go_enter Try.func28, Try.ntmps28
  go_wp2_with fail
  refine HNew.out.mono ?_
  rintro e w1 ⟨g, rfl, HB1, b1⟩
  obtain ⟨n0, hn0⟩ : ∃ n, n = w.heap.size := ⟨_, rfl⟩
  have HBS : Hid (Bs w1 n0 g (fun j => n0 ≤ j ∧ j < w1.heap.size) r []) := by rw [hn0]; exact ⟨_, _, _, HB1⟩
  have HBW : Hid (Below n0 w w1) := by rw [hn0]; exact b1
  replace hn0 := hid hn0
  clear HB1 b1 HNew
  go_wp2_with fail
  go_loopw [9, 10] (fun hv iv wr => ∃ (i : Nat) (P : Nat → Prop) (ha : Option Addr) (hn hc : Nat), i ≤ len ∧ iv = .int .i64 (i : Int) ∧ hv = .slice ha hn hc ∧ Hid (OwnE 38 wr n0 (.slice ha hn hc) (took (ls.take i))) ∧ Hid (Bs wr n0 g P r (took (ls.take i))) ∧ Hid (∀ j, (Value.slice ha hn hc).ownBlock = some j → ¬ P j) ∧ Hid (Below n0 w wr)) (fun _ iv _ => len - (intOf iv).toNat)
  case atStart => exact ⟨0, _, none, 0, 0, by omega, rfl, rfl, OwnE.nil _ _ _, HBS, (fun j hj => by cases hj), HBW⟩
  case round =>
    obtain ⟨i, P, ha, hn, hc, hi, rfl, rfl, HH, HB, HP, HW⟩ := hrel
    have hwt : Hid (wts (took (ls.take i)) ≤ 2000000) := Nat.le_trans (took_wts _) (Nat.le_trans (wts_take ls i) hsz.out)
    have hgd : Hid (Gd (took (ls.take i))) := took_gd _ (fun x hx => (hok.out x (List.mem_of_mem_take hx)).2.1.1)
    have hbn : Hid (n0 ≤ wr.heap.size) := by have := HW.out.size; have := hn0.out; show _ ≤ _; omega
    by_cases hil : i < len
    · have hi2 : (i : Int) < (len : Int) := by omega
      cases a with
      | none => exact absurd (HL.out.2.2.1 rfl).1 (by omega)
      | some ad =>
        obtain ⟨lb, lo, lp⟩ := ad
        obtain ⟨rfl, hat⟩ := HL.out.2.2.2.2 lb lo lp rfl (by omega)
        have hat0 := hat i hil
        have hwb : Below w.heap.size w wr := by have := hn0.out; rw [← this]; exact HW.out
        have hatw := hat0.later hwb
        have hlb : Hid (lb < w.heap.size) := block_lt_of_cell hat0.1
        obtain ⟨xs, hxs⟩ : ∃ xs, xs = took (ls.take i) := ⟨_, rfl⟩
        have hsn : Hid (took (ls.take (i + 1)) = tak xs (ls.getD i ze)) := by
          show _ = _
          rw [List.take_succ_eq_append_getElem (by rw [hlen.out]; exact hil), took_snoc, hxs]
          simp [List.getD_eq_getElem?_getD, List.getElem?_eq_getElem (show i < ls.length by rw [hlen.out]; exact hil)]
        have hxok : (ls.getD i ze).ok := by
          rw [List.getD_eq_getElem?_getD, List.getElem?_eq_getElem (show i < ls.length by rw [hlen.out]; exact hil)]
          exact hok.out _ (List.getElem_mem _)
        have hxk : ∀ x ∈ xs, x.ok := by rw [hxs]; exact took_ok _ (fun x hx => hok.out x (List.mem_of_mem_take hx))
        rw [← hxs] at HH HB hwt hgd
        generalize ls.getD i ze = x at *
        obtain ⟨ha', hc', hve, hEn⟩ := OwnE.ents HH.out hxk
        obtain ⟨rfl, rfl, rfl⟩ : ha = ha' ∧ hn = xs.length ∧ hc = hc' := by
          injection hve with h1 h2 h3; exact ⟨h1, h2, h3⟩
        have hV : Hid (∀ W, Calls Try.prog 51 #[.agg #[.string x.k, .int .u64 x.s, .int .i64 x.c]] W fun e w' => e = .returned (.bool (vld x.k x.s x.c)) ∧ Below W.heap.size W w') := fun W => valid_any x.k x.s x.c W hxok.1
        have hwr : IntKind.i64.wrap ((i : Int) + 1) = ((i + 1 : Nat) : Int) := by rw [IntKind.wrap_i64]; omega
        have hvm : x.v.size ≤ 9223372036854775807 := by have := hxok.2.2.2; unfold maxLen at this; omega
        have PRES : Hid (∀ W, Fp P wr W → At4 W lb (lo + i * 4) x) := by
          intro W f
          have e : W.heap[lb]? = wr.heap[lb]? := f.block lb (Nat.lt_of_lt_of_le hlb.out hwb.size) (fun hp => by have := (HB.out.low lb hp).1; have := hn0.out; have := hlb.out; omega)
          obtain ⟨a0, a1, a2, a3⟩ := hatw
          unfold World.cell? at a0 a1 a2 a3
          unfold At4 World.cell?
          rw [e]
          exact ⟨a0, a1, a2, a3⟩
        have HAW := hid hatw
        replace hxok := hid hxok
        replace hEn := hid hEn
        replace hxs := hid hxs
        clear hat hat0 hve hwb
        have x0 := cell_regrown hatw.1
        have x1 := cell_regrown hatw.2.1
        have x2 := cell_regrown hatw.2.2.1
        have x3 := cell_regrown hatw.2.2.2
        clear hatw
        generalize hHN : xs.length = HN at *
        cases hvl : vld x.k x.s x.c with
        | false =>
          have hmay : Hid (may x = false) := by show _ = _; unfold may; rw [hvl]; rfl
          have hnt : Hid (tak xs x = xs) := by show _ = _; unfold tak; rw [hmay.out]; rfl
          rw [hvl] at hV
          have hC := hV
          clear hvl
          go_wp2_with fail
          refine wp_region_quiet_below (by kernel_rfl) (by kernel_rfl) ?_
          repeat (first | go_big_quiet_step (first | (go_at_call 51; exact Calls.regrown_of (hV.out _)) | (go_at_call 29; exact Calls.regrown_of (hC.out _))) | quiet_step (first | (go_at_call 51; exact Calls.regrown_of (hV.out _)) | (go_at_call 29; exact Calls.regrown_of (hC.out _))))
          refine wpQuiet_nil ?_
          intro w3 hw3
          have b3 : Below wr.heap.size wr w3 := by
            obtain ⟨⟨dq, osq⟩, hw''⟩ := hw3
            rw [hw'']
            exact below_regrown _ dq osq
          clear hw3 x0 x1 x2 x3
          clear hV hC
          obtain ⟨D, hD⟩ : ∃ D, D = World.drew w3 := ⟨_, rfl⟩
          have bD : Below wr.heap.size wr D := by rw [hD]; exact b3.drew
          have HAdd := hid (add_arg (HB.out.later bD) x hxok.out hmay.out)
          have HBD := hid bD
          have hSD : Hid (At4 D lb (lo + i * 4) x) := PRES.out D (Fp.of bD)
          replace hD := hid hD
          clear b3 bD
          go_wp2_with fail
          refine wp_region_held_drew (S := fun W => At4 W lb (lo + i * 4) x) (by kernel_rfl) (by rw [← hD.out]; exact hSD.out) (fun hS => ?_)
          rw [← hD.out] at hS ⊢
          refine wpAnyH_take (i := 0) (v := ?v1) rfl (by kernel_rfl) (by kernel_rfl) (by kernel_rfl) (fun _ _ _ h => h) (Or.inl ⟨by rfl, ?h1⟩) hS ?_
          case h1 => (intro W hW; go_simp; try (with_reducible rfl))
          go_simp
          refine wpAnyH_take (i := 1) (v := ?v2) rfl (by kernel_rfl) (by kernel_rfl) (by kernel_rfl) (fun _ _ _ h => h) (Or.inl ⟨by rfl, ?h2⟩) hS ?_
          case h2 => (intro W hW; go_simp; try (with_reducible rfl))
          go_simp
          refine wpAnyH_take (i := 2) (v := ?v3) rfl (by kernel_rfl) (by kernel_rfl) (by kernel_rfl) (fun _ _ _ h => h) (Or.inl ⟨by rfl, ?h3⟩) hS ?_
          case h3 => (intro W hW; go_simp; try (with_reducible rfl))
          go_simp
          refine wpAnyH_take (i := 3) (v := ?v4) rfl (by kernel_rfl) (by kernel_rfl) (by kernel_rfl) (fun _ _ _ h => h) (Or.inl ⟨by rfl, ?h4⟩) hS ?_
          case h4 => (intro W hW; go_simp; try (with_reducible rfl))
          go_simp
          refine wpAnyH_take (i := 4) (v := ?v5) rfl (by kernel_rfl) (by kernel_rfl) (by kernel_rfl) (fun _ _ _ h => h) (Or.inl ⟨by rfl, ?h5⟩) hS ?_
          case h5 => (intro W hW; go_simp; try (with_reducible rfl))
          go_simp
          refine wpAnyH_take (i := 5) (v := ?v6) rfl (by kernel_rfl) (by kernel_rfl) (by kernel_rfl) (fun _ _ _ h => h) (Or.inl ⟨by rfl, ?h6⟩) hS ?_
          case h6 => (intro W hW; obtain ⟨z0, z1, z2, z3⟩ := hW; go_simp; try (with_reducible rfl))
          go_simp
          refine wpAnyH_take (i := 6) (v := ?v7) rfl (by kernel_rfl) (by kernel_rfl) (by kernel_rfl) (fun _ _ _ h => h) (Or.inl ⟨by rfl, ?h7⟩) hS ?_
          case h7 => (intro W hW; go_simp; try (with_reducible rfl))
          go_simp
          refine wpAnyH_take (i := 7) (v := ?v8) rfl (by kernel_rfl) (by kernel_rfl) (by kernel_rfl) (fun _ _ _ h => h) (Or.inl ⟨by rfl, ?h8⟩) hS ?_
          case h8 => (intro W hW; go_simp; try (with_reducible rfl))
          go_simp
          refine wpAnyH_take (i := 8) (v := ?v9) rfl (by kernel_rfl) (by kernel_rfl) (by kernel_rfl) (fun _ _ _ h => h) (Or.inl ⟨by rfl, ?h9⟩) hS ?_
          case h9 => (intro W hW; go_simp; try (with_reducible rfl))
          go_simp
          refine wpAnyH_take (i := 9) (v := ?v10) rfl (by kernel_rfl) (by kernel_rfl) (by kernel_rfl) (fun _ _ _ h => h) (Or.inl ⟨by rfl, ?h10⟩) hS ?_
          case h10 => (intro W hW; go_simp; try (with_reducible rfl))
          go_simp
          refine wpAnyH_take (i := 10) (v := ?v11) rfl (by kernel_rfl) (by kernel_rfl) (by kernel_rfl) (fun _ _ _ h => h) (Or.inl ⟨by rfl, ?h11⟩) hS ?_
          case h11 => (intro W hW; obtain ⟨z0, z1, z2, z3⟩ := hW; go_simp; try (with_reducible rfl))
          go_simp
          refine wpAnyH_take (i := 13) (v := ?v12) rfl (by kernel_rfl) (by kernel_rfl) (by kernel_rfl) (fun _ _ _ h => h) (Or.inl ⟨by rfl, ?h12⟩) hS ?_
          case h12 => (intro W hW; go_simp; try (with_reducible rfl))
          go_simp
          refine wpAnyH_ready (rs := [11]) (by kernel_rfl) (by simp) ?_
          refine AllReadyH.cons rfl (fun K hK => ?_) ?_
          · go_simp
            go_wp2_with fail
            refine HAdd.out.mono ?_
            rintro e x4 ⟨rfl, b4⟩
            have b4w : Below wr.heap.size wr x4 := HBD.out.trans (b4.mono HBD.out.size)
            refine hK.out _ _ (PRES.out x4 (Fp.of b4w)) (fun hS => ?_)
            clear hK K b4
            refine wpAnyH_take (i := 12) (v := ?v13) rfl (by kernel_rfl) (by kernel_rfl) (by kernel_rfl) (fun _ _ _ h => h) (Or.inl ⟨by rfl, ?h13⟩) hS ?_
            case h13 => (intro W hW; go_simp; try (with_reducible rfl))
            go_simp
            refine wpAnyH_take (i := 14) (v := ?v14) rfl (by kernel_rfl) (by kernel_rfl) (by kernel_rfl) (fun _ _ _ h => h) (Or.inl ⟨by rfl, ?h14⟩) hS ?_
            case h14 => (intro W hW; go_simp; try (with_reducible rfl))
            go_simp
            refine wpAnyH_done (by kernel_rfl) ?_ _
            have HBn := hid (HB.out.later b4w)
            have HHn := hid (HH.out.later b4w)
            have HWn : Hid (Below n0 w x4) := HW.out.trans (b4w.mono hbn.out)
            clear b4w hS
            go_wp2_with fail
            refine ⟨⟨i + 1, P, ha, HN, hc, by omega, by first | rfl | go_num, rfl, ?_, ?_, HP, HWn⟩, ?_⟩
            · show OwnE _ _ _ _ _; rw [hsn.out, hnt.out]; exact HHn.out
            · show Bs _ _ _ _ _ _; rw [hsn.out, hnt.out]; exact HBn.out
            · simp only [intOf]; omega
          exact AllReadyH.nil
        | true =>
          rw [hvl] at hV
          by_cases hvs : x.v.size ≤ 65536
          · have hmay : Hid (may x = true) := by show _ = _; unfold may; rw [hvl, decide_eq_true hvs]; rfl
            have hvs' : (x.v.size : Int) ≤ 65536 := by omega
            cases hl : xs.getLast? with
            | none =>
              have hxe := List.getLast?_eq_none_iff.1 hl
              have hbeh : Hid (beh xs x = true) := by show _ = _; unfold beh; rw [hl]
              have hnt : Hid (tak xs x = xs ++ [x]) := by show _ = _; unfold tak; rw [hmay.out, hbeh.out]; rfl
              have hz : HN = 0 := by rw [← hHN, hxe]; rfl
              have hC := hV
              clear hvl hl
              subst hz
              go_wp2_with fail
              refine wp_region_quiet_below (by kernel_rfl) (by kernel_rfl) ?_
              repeat (first | go_big_quiet_step (first | (go_at_call 51; exact Calls.regrown_of (hV.out _)) | (go_at_call 29; exact Calls.regrown_of (hC.out _))) | quiet_step (first | (go_at_call 51; exact Calls.regrown_of (hV.out _)) | (go_at_call 29; exact Calls.regrown_of (hC.out _))))
              refine wpQuiet_nil ?_
              intro w3 hw3
              have b3 : Below wr.heap.size wr w3 := by
                obtain ⟨⟨dq, osq⟩, hw''⟩ := hw3
                rw [hw'']
                exact below_regrown _ dq osq
              clear hw3 x0 x1 x2 x3
              clear hV hC
              obtain ⟨D, hD⟩ : ∃ D, D = World.drew w3 := ⟨_, rfl⟩
              have bD : Below wr.heap.size wr D := by rw [hD]; exact b3.drew
              have HAdd := hid (add_ok (HB.out.later bD) x hxok.out hgd.out hmay.out hbeh.out (Nat.le_trans hbn.out bD.size) (by have := hwt.out; omega))
              have HBD := hid bD
              have hSD : Hid (At4 D lb (lo + i * 4) x) := PRES.out D (Fp.of bD)
              replace hD := hid hD
              clear b3 bD
              go_wp2_with fail
              refine wp_region_held_drew (S := fun W => At4 W lb (lo + i * 4) x) (by kernel_rfl) (by rw [← hD.out]; exact hSD.out) (fun hS => ?_)
              rw [← hD.out] at hS ⊢
              refine wpAnyH_take (i := 0) (v := ?v15) rfl (by kernel_rfl) (by kernel_rfl) (by kernel_rfl) (fun _ _ _ h => h) (Or.inl ⟨by rfl, ?h15⟩) hS ?_
              case h15 => (intro W hW; go_simp; try (with_reducible rfl))
              go_simp
              refine wpAnyH_take (i := 1) (v := ?v16) rfl (by kernel_rfl) (by kernel_rfl) (by kernel_rfl) (fun _ _ _ h => h) (Or.inl ⟨by rfl, ?h16⟩) hS ?_
              case h16 => (intro W hW; go_simp; try (with_reducible rfl))
              go_simp
              refine wpAnyH_take (i := 2) (v := ?v17) rfl (by kernel_rfl) (by kernel_rfl) (by kernel_rfl) (fun _ _ _ h => h) (Or.inl ⟨by rfl, ?h17⟩) hS ?_
              case h17 => (intro W hW; go_simp; try (with_reducible rfl))
              go_simp
              refine wpAnyH_take (i := 3) (v := ?v18) rfl (by kernel_rfl) (by kernel_rfl) (by kernel_rfl) (fun _ _ _ h => h) (Or.inl ⟨by rfl, ?h18⟩) hS ?_
              case h18 => (intro W hW; go_simp; try (with_reducible rfl))
              go_simp
              refine wpAnyH_take (i := 4) (v := ?v19) rfl (by kernel_rfl) (by kernel_rfl) (by kernel_rfl) (fun _ _ _ h => h) (Or.inl ⟨by rfl, ?h19⟩) hS ?_
              case h19 => (intro W hW; go_simp; try (with_reducible rfl))
              go_simp
              refine wpAnyH_take (i := 5) (v := ?v20) rfl (by kernel_rfl) (by kernel_rfl) (by kernel_rfl) (fun _ _ _ h => h) (Or.inl ⟨by rfl, ?h20⟩) hS ?_
              case h20 => (intro W hW; obtain ⟨z0, z1, z2, z3⟩ := hW; go_simp; try (with_reducible rfl))
              go_simp
              refine wpAnyH_take (i := 6) (v := ?v21) rfl (by kernel_rfl) (by kernel_rfl) (by kernel_rfl) (fun _ _ _ h => h) (Or.inl ⟨by rfl, ?h21⟩) hS ?_
              case h21 => (intro W hW; go_simp; try (with_reducible rfl))
              go_simp
              refine wpAnyH_take (i := 7) (v := ?v22) rfl (by kernel_rfl) (by kernel_rfl) (by kernel_rfl) (fun _ _ _ h => h) (Or.inl ⟨by rfl, ?h22⟩) hS ?_
              case h22 => (intro W hW; go_simp; try (with_reducible rfl))
              go_simp
              refine wpAnyH_take (i := 8) (v := ?v23) rfl (by kernel_rfl) (by kernel_rfl) (by kernel_rfl) (fun _ _ _ h => h) (Or.inl ⟨by rfl, ?h23⟩) hS ?_
              case h23 => (intro W hW; go_simp; try (with_reducible rfl))
              go_simp
              refine wpAnyH_take (i := 9) (v := ?v24) rfl (by kernel_rfl) (by kernel_rfl) (by kernel_rfl) (fun _ _ _ h => h) (Or.inl ⟨by rfl, ?h24⟩) hS ?_
              case h24 => (intro W hW; go_simp; try (with_reducible rfl))
              go_simp
              refine wpAnyH_take (i := 10) (v := ?v25) rfl (by kernel_rfl) (by kernel_rfl) (by kernel_rfl) (fun _ _ _ h => h) (Or.inl ⟨by rfl, ?h25⟩) hS ?_
              case h25 => (intro W hW; obtain ⟨z0, z1, z2, z3⟩ := hW; go_simp; try (with_reducible rfl))
              go_simp
              refine wpAnyH_take (i := 13) (v := ?v26) rfl (by kernel_rfl) (by kernel_rfl) (by kernel_rfl) (fun _ _ _ h => h) (Or.inl ⟨by rfl, ?h26⟩) hS ?_
              case h26 => (intro W hW; go_simp; try (with_reducible rfl))
              go_simp
              refine wpAnyH_ready (rs := [11]) (by kernel_rfl) (by simp) ?_
              refine AllReadyH.cons rfl (fun K hK => ?_) ?_
              · go_simp
                go_wp2_with fail
                refine HAdd.out.mono ?_
                rintro e x4 ⟨rfl, B4, F4⟩
                have F4w : Fp P wr x4 := (Fp.of HBD.out).trans (F4.wide fun j _ hj => .inl hj)
                refine hK.out _ _ (PRES.out x4 F4w) (fun hS => ?_)
                clear hK K
                refine wpAnyH_take (i := 12) (v := ?v27) rfl (by kernel_rfl) (by kernel_rfl) (by kernel_rfl) (fun _ _ _ h => h) (Or.inl ⟨by rfl, ?h27⟩) hS ?_
                case h27 => (intro W hW; go_simp; try (with_reducible rfl))
                go_simp
                refine wpAnyH_take (i := 14) (v := ?v28) rfl (by kernel_rfl) (by kernel_rfl) (by kernel_rfl) (fun _ _ _ h => h) (Or.inl ⟨by rfl, ?h28⟩) hS ?_
                case h28 => (intro W hW; go_simp; try (with_reducible rfl))
                go_simp
                refine wpAnyH_done (by kernel_rfl) ?_ _
                have e4 : ∀ j, (Value.slice ha 0 hc).ownBlock = some j → x4.heap[j]? = wr.heap[j]? := fun j hj => F4w.block j (own_lt HH.out j hj).2 (HP.out j hj)
                have HH4 : OwnE 38 x4 n0 (.slice ha 0 hc) xs := own_blocks HH.out e4
                have hb4 : n0 ≤ x4.heap.size := Nat.le_trans hbn.out F4w.size
                obtain ⟨v5, x5, r5, o5, g5, q5⟩ := app_item x4 n0 (.slice ha 0 hc) xs x HH4 (by have := hwt.out; have := wts_len xs; omega) hb4
                obtain ⟨a5, n5, c5, rfl⟩ : ∃ a5 n5 c5, v5 = .slice a5 n5 c5 := by
                  rcases o5.2 with ⟨h1, h2⟩ | ⟨g5', c5, cur, h1, _⟩
                  · exact ⟨none, 0, 0, h1⟩
                  · exact ⟨_, _, _, h1⟩
                have hGW : ∀ j, gw P D x4 j → P j ∨ wr.heap.size ≤ j := by
                  rintro j (h | h)
                  · exact .inl h
                  · exact .inr (Nat.le_trans HBD.out.size h.1)
                have hown : ∀ j, (Value.slice ha 0 hc).ownBlock = some j → ¬ gw P D x4 j := by
                  intro j hj h
                  have h1 := (own_lt HH.out j hj).2
                  have h2 := HP.out j hj
                  rcases hGW j h with h3 | h3
                  · exact h2 h3
                  · omega
                have B5 : Hid (Bs x5 n0 g (gw P D x4) r (xs ++ [x])) := B4.fp (Q := fun j => (Value.slice ha 0 hc).ownBlock = some j) ⟨g5.os, g5.tape, g5.output, g5.size, fun j hj hn => g5.block j hj (fun e => hn e.symm)⟩ (fun j hj hq => hown j hq hj)
                have P5 : Hid (∀ j, (Value.slice a5 n5 c5).ownBlock = some j → ¬ gw P D x4 j) := by
                  intro j hj
                  rcases q5 j hj with h | h
                  · exact hown j h
                  · intro h'
                    have := (B4.low j h').2
                    omega
                have W5 : Hid (Below n0 w x5) := (HW.out.trans (F4w.base hbn.out (fun j hj => (HB.out.low j hj).1))).grown g5 hb4 (fun j hj => (own_lt HH.out j hj).1)
                obtain ⟨y0, y1, y2, y3⟩ := PRES.out x4 F4w
                have O5 : Hid (OwnE 38 x5 n0 (.slice a5 n5 c5) (xs ++ [x])) := o5
                obtain ⟨xk, xq, xc, xv⟩ := x
                dsimp only at y0 y1 y2 y3 r5 O5 B5
                skip
                clear hS HH4 o5 g5 q5 e4 B4 F4 F4w hGW hown
                go_wp2_with (first | (at_builtin; refine By.wpList_append_run rfl (.tmp 81) (.tmp 86) 22 22 rfl (.slice ha 0 hc) (.slice (some ⟨x4.heap.size, 0, none⟩) 1 1) (.slice a5 n5 c5) rfl rfl r5 ?_))
                skip
                refine ⟨⟨i + 1, _, a5, n5, c5, by omega, by first | rfl | go_num, rfl, ?_, ?_, P5, W5⟩, ?_⟩
                · show OwnE _ _ _ _ _; rw [hsn.out, hnt.out]; exact O5.out
                · show Bs _ _ _ _ _ _; rw [hsn.out, hnt.out]; exact B5.out
                · simp only [intOf]; omega
              exact AllReadyH.nil
            | some y =>
              obtain ⟨ys, hys⟩ := List.getLast?_eq_some_iff.1 hl
              have hq : HN = ys.length + 1 := by rw [← hHN, hys, List.length_append]; rfl
              have hby : beh xs x = decide (cmp y.ik x.ik < 0) := by unfold beh; rw [hl]
              cases ha with
              | none => exact absurd (hEn.out.2.2.1 rfl).1 (by omega)
              | some had =>
                obtain ⟨hb', ho', hp'⟩ := had
                obtain ⟨rfl, hha⟩ := hEn.out.2.2.2.2 hb' ho' hp' rfl (by omega)
                have hlast := hha ys.length (by omega)
                have hgy : xs.getD ys.length ze = y := by rw [hys]; simp [List.getD_eq_getElem?_getD]
                rw [hgy] at hlast
                have hC : Hid (∀ W, Calls Try.prog 29 #[.agg #[.string y.k, .int .u64 y.s, .int .i64 y.c], .agg #[.string x.k, .int .u64 x.s, .int .i64 x.c]] W fun e w' => e = .returned (.int .i64 (cmp y.ik x.ik)) ∧ Below W.heap.size W w') := fun W => compare_below _ _ _ _ _ _ W
                have l0 := cell_regrown hlast.1
                have l1 := cell_regrown hlast.2.1
                have l2 := cell_regrown hlast.2.2.1
                have hhc := hEn.out.2.1
                generalize ys.length = q at *
                have hq1 : IntKind.i64.wrap ((HN : Int) - 1) = (q : Int) := by rw [IntKind.wrap_i64]; have := hwt.out; have := wts_len xs; omega
                have hq2 : (q : Int) < (HN : Int) := by omega
                have hq3 : ((HN : Int) == 0) = false := by rw [beq_eq_false_iff_ne]; omega
                have hHS : HN ≤ 2000000 := by have := hwt.out; have := wts_len xs; omega
                replace hHN := hid hHN
                generalize hCC : cmp y.ik x.ik = C at *
                clear hvl hl hys hlast hgy hha hCC
                by_cases hC0 : C < 0
                · have hbeh : Hid (beh xs x = true) := by show _ = _; rw [hby]; exact decide_eq_true hC0
                  have hnt : Hid (tak xs x = xs ++ [x]) := by show _ = _; unfold tak; rw [hmay.out, hbeh.out]; rfl
                  replace hq := hid hq
                  clear hby
                  go_wp2_with fail
                  refine wp_region_quiet_below (by kernel_rfl) (by kernel_rfl) ?_
                  repeat (first | go_big_quiet_step (first | (go_at_call 51; exact Calls.regrown_of (hV.out _)) | (go_at_call 29; exact Calls.regrown_of (hC.out _))) | quiet_step (first | (go_at_call 51; exact Calls.regrown_of (hV.out _)) | (go_at_call 29; exact Calls.regrown_of (hC.out _))))
                  refine wpQuiet_nil ?_
                  intro w3 hw3
                  have b3 : Below wr.heap.size wr w3 := by
                    obtain ⟨⟨dq, osq⟩, hw''⟩ := hw3
                    rw [hw'']
                    exact below_regrown _ dq osq
                  clear hw3 x0 x1 x2 x3
                  clear hV hC l0 l1 l2 hq1 hq2 hq3
                  obtain ⟨D, hD⟩ : ∃ D, D = World.drew w3 := ⟨_, rfl⟩
                  have bD : Below wr.heap.size wr D := by rw [hD]; exact b3.drew
                  have HAdd := hid (add_ok (HB.out.later bD) x hxok.out hgd.out hmay.out hbeh.out (Nat.le_trans hbn.out bD.size) (by have := hwt.out; omega))
                  have HBD := hid bD
                  have hSD : Hid (At4 D lb (lo + i * 4) x) := PRES.out D (Fp.of bD)
                  replace hD := hid hD
                  clear b3 bD
                  go_wp2_with fail
                  refine wp_region_held_drew (S := fun W => At4 W lb (lo + i * 4) x) (by kernel_rfl) (by rw [← hD.out]; exact hSD.out) (fun hS => ?_)
                  rw [← hD.out] at hS ⊢
                  refine wpAnyH_take (i := 0) (v := ?v29) rfl (by kernel_rfl) (by kernel_rfl) (by kernel_rfl) (fun _ _ _ h => h) (Or.inl ⟨by rfl, ?h29⟩) hS ?_
                  case h29 => (intro W hW; go_simp; try (with_reducible rfl))
                  go_simp
                  refine wpAnyH_take (i := 1) (v := ?v30) rfl (by kernel_rfl) (by kernel_rfl) (by kernel_rfl) (fun _ _ _ h => h) (Or.inl ⟨by rfl, ?h30⟩) hS ?_
                  case h30 => (intro W hW; go_simp; try (with_reducible rfl))
                  go_simp
                  refine wpAnyH_take (i := 2) (v := ?v31) rfl (by kernel_rfl) (by kernel_rfl) (by kernel_rfl) (fun _ _ _ h => h) (Or.inl ⟨by rfl, ?h31⟩) hS ?_
                  case h31 => (intro W hW; go_simp; try (with_reducible rfl))
                  go_simp
                  refine wpAnyH_take (i := 3) (v := ?v32) rfl (by kernel_rfl) (by kernel_rfl) (by kernel_rfl) (fun _ _ _ h => h) (Or.inl ⟨by rfl, ?h32⟩) hS ?_
                  case h32 => (intro W hW; go_simp; try (with_reducible rfl))
                  go_simp
                  refine wpAnyH_take (i := 4) (v := ?v33) rfl (by kernel_rfl) (by kernel_rfl) (by kernel_rfl) (fun _ _ _ h => h) (Or.inl ⟨by rfl, ?h33⟩) hS ?_
                  case h33 => (intro W hW; go_simp; try (with_reducible rfl))
                  go_simp
                  refine wpAnyH_take (i := 5) (v := ?v34) rfl (by kernel_rfl) (by kernel_rfl) (by kernel_rfl) (fun _ _ _ h => h) (Or.inl ⟨by rfl, ?h34⟩) hS ?_
                  case h34 => (intro W hW; obtain ⟨z0, z1, z2, z3⟩ := hW; go_simp; try (with_reducible rfl))
                  go_simp
                  refine wpAnyH_take (i := 6) (v := ?v35) rfl (by kernel_rfl) (by kernel_rfl) (by kernel_rfl) (fun _ _ _ h => h) (Or.inl ⟨by rfl, ?h35⟩) hS ?_
                  case h35 => (intro W hW; go_simp; try (with_reducible rfl))
                  go_simp
                  refine wpAnyH_take (i := 7) (v := ?v36) rfl (by kernel_rfl) (by kernel_rfl) (by kernel_rfl) (fun _ _ _ h => h) (Or.inl ⟨by rfl, ?h36⟩) hS ?_
                  case h36 => (intro W hW; go_simp; try (with_reducible rfl))
                  go_simp
                  refine wpAnyH_take (i := 8) (v := ?v37) rfl (by kernel_rfl) (by kernel_rfl) (by kernel_rfl) (fun _ _ _ h => h) (Or.inl ⟨by rfl, ?h37⟩) hS ?_
                  case h37 => (intro W hW; go_simp; try (with_reducible rfl))
                  go_simp
                  refine wpAnyH_take (i := 9) (v := ?v38) rfl (by kernel_rfl) (by kernel_rfl) (by kernel_rfl) (fun _ _ _ h => h) (Or.inl ⟨by rfl, ?h38⟩) hS ?_
                  case h38 => (intro W hW; go_simp; try (with_reducible rfl))
                  go_simp
                  refine wpAnyH_take (i := 10) (v := ?v39) rfl (by kernel_rfl) (by kernel_rfl) (by kernel_rfl) (fun _ _ _ h => h) (Or.inl ⟨by rfl, ?h39⟩) hS ?_
                  case h39 => (intro W hW; obtain ⟨z0, z1, z2, z3⟩ := hW; go_simp; try (with_reducible rfl))
                  go_simp
                  refine wpAnyH_take (i := 13) (v := ?v40) rfl (by kernel_rfl) (by kernel_rfl) (by kernel_rfl) (fun _ _ _ h => h) (Or.inl ⟨by rfl, ?h40⟩) hS ?_
                  case h40 => (intro W hW; go_simp; try (with_reducible rfl))
                  go_simp
                  refine wpAnyH_ready (rs := [11]) (by kernel_rfl) (by simp) ?_
                  refine AllReadyH.cons rfl (fun K hK => ?_) ?_
                  · go_simp
                    go_wp2_with fail
                    refine HAdd.out.mono ?_
                    rintro e x4 ⟨rfl, B4, F4⟩
                    have F4w : Fp P wr x4 := (Fp.of HBD.out).trans (F4.wide fun j _ hj => .inl hj)
                    refine hK.out _ _ (PRES.out x4 F4w) (fun hS => ?_)
                    clear hK K
                    refine wpAnyH_take (i := 12) (v := ?v41) rfl (by kernel_rfl) (by kernel_rfl) (by kernel_rfl) (fun _ _ _ h => h) (Or.inl ⟨by rfl, ?h41⟩) hS ?_
                    case h41 => (intro W hW; go_simp; try (with_reducible rfl))
                    go_simp
                    refine wpAnyH_take (i := 14) (v := ?v42) rfl (by kernel_rfl) (by kernel_rfl) (by kernel_rfl) (fun _ _ _ h => h) (Or.inl ⟨by rfl, ?h42⟩) hS ?_
                    case h42 => (intro W hW; go_simp; try (with_reducible rfl))
                    go_simp
                    refine wpAnyH_done (by kernel_rfl) ?_ _
                    have e4 : ∀ j, (Value.slice (some ⟨hb', ho', none⟩) HN hc).ownBlock = some j → x4.heap[j]? = wr.heap[j]? := fun j hj => F4w.block j (own_lt HH.out j hj).2 (HP.out j hj)
                    have HH4 : OwnE 38 x4 n0 (.slice (some ⟨hb', ho', none⟩) HN hc) xs := own_blocks HH.out e4
                    have hb4 : n0 ≤ x4.heap.size := Nat.le_trans hbn.out F4w.size
                    obtain ⟨v5, x5, r5, o5, g5, q5⟩ := app_item x4 n0 (.slice (some ⟨hb', ho', none⟩) HN hc) xs x HH4 (by have := hwt.out; have := wts_len xs; omega) hb4
                    obtain ⟨a5, n5, c5, rfl⟩ : ∃ a5 n5 c5, v5 = .slice a5 n5 c5 := by
                      rcases o5.2 with ⟨h1, h2⟩ | ⟨g5', c5, cur, h1, _⟩
                      · exact ⟨none, 0, 0, h1⟩
                      · exact ⟨_, _, _, h1⟩
                    have hGW : ∀ j, gw P D x4 j → P j ∨ wr.heap.size ≤ j := by
                      rintro j (h | h)
                      · exact .inl h
                      · exact .inr (Nat.le_trans HBD.out.size h.1)
                    have hown : ∀ j, (Value.slice (some ⟨hb', ho', none⟩) HN hc).ownBlock = some j → ¬ gw P D x4 j := by
                      intro j hj h
                      have h1 := (own_lt HH.out j hj).2
                      have h2 := HP.out j hj
                      rcases hGW j h with h3 | h3
                      · exact h2 h3
                      · omega
                    have B5 : Hid (Bs x5 n0 g (gw P D x4) r (xs ++ [x])) := B4.fp (Q := fun j => (Value.slice (some ⟨hb', ho', none⟩) HN hc).ownBlock = some j) ⟨g5.os, g5.tape, g5.output, g5.size, fun j hj hn => g5.block j hj (fun e => hn e.symm)⟩ (fun j hj hq => hown j hq hj)
                    have P5 : Hid (∀ j, (Value.slice a5 n5 c5).ownBlock = some j → ¬ gw P D x4 j) := by
                      intro j hj
                      rcases q5 j hj with h | h
                      · exact hown j h
                      · intro h'
                        have := (B4.low j h').2
                        omega
                    have W5 : Hid (Below n0 w x5) := (HW.out.trans (F4w.base hbn.out (fun j hj => (HB.out.low j hj).1))).grown g5 hb4 (fun j hj => (own_lt HH.out j hj).1)
                    obtain ⟨y0, y1, y2, y3⟩ := PRES.out x4 F4w
                    have O5 : Hid (OwnE 38 x5 n0 (.slice a5 n5 c5) (xs ++ [x])) := o5
                    obtain ⟨xk, xq, xc, xv⟩ := x
                    dsimp only at y0 y1 y2 y3 r5 O5 B5
                    skip
                    clear hS HH4 o5 g5 q5 e4 B4 F4 F4w hGW hown
                    go_wp2_with (first | (at_builtin; refine By.wpList_append_run rfl (.tmp 81) (.tmp 86) 22 22 rfl (.slice (some ⟨hb', ho', none⟩) HN hc) (.slice (some ⟨x4.heap.size, 0, none⟩) 1 1) (.slice a5 n5 c5) rfl rfl r5 ?_))
                    skip
                    refine ⟨⟨i + 1, _, a5, n5, c5, by omega, by first | rfl | go_num, rfl, ?_, ?_, P5, W5⟩, ?_⟩
                    · show OwnE _ _ _ _ _; rw [hsn.out, hnt.out]; exact O5.out
                    · show Bs _ _ _ _ _ _; rw [hsn.out, hnt.out]; exact B5.out
                    · simp only [intOf]; omega
                  exact AllReadyH.nil
                · have hbeh : Hid (beh xs x = false) := by show _ = _; rw [hby]; exact decide_eq_false hC0
                  have hnt : Hid (tak xs x = xs) := by show _ = _; unfold tak; rw [hmay.out, hbeh.out]; rfl
                  replace hq := hid hq
                  clear hby
                  go_wp2_with fail
                  refine wp_region_quiet_below (by kernel_rfl) (by kernel_rfl) ?_
                  repeat (first | go_big_quiet_step (first | (go_at_call 51; exact Calls.regrown_of (hV.out _)) | (go_at_call 29; exact Calls.regrown_of (hC.out _))) | quiet_step (first | (go_at_call 51; exact Calls.regrown_of (hV.out _)) | (go_at_call 29; exact Calls.regrown_of (hC.out _))))
                  refine wpQuiet_nil ?_
                  intro w3 hw3
                  have b3 : Below wr.heap.size wr w3 := by
                    obtain ⟨⟨dq, osq⟩, hw''⟩ := hw3
                    rw [hw'']
                    exact below_regrown _ dq osq
                  clear hw3 x0 x1 x2 x3
                  clear hV hC l0 l1 l2 hq1 hq2 hq3
                  obtain ⟨D, hD⟩ : ∃ D, D = World.drew w3 := ⟨_, rfl⟩
                  have bD : Below wr.heap.size wr D := by rw [hD]; exact b3.drew
                  have HAdd := hid (add_order (HB.out.later bD) x hxok.out hgd.out hmay.out hbeh.out)
                  have HBD := hid bD
                  have hSD : Hid (At4 D lb (lo + i * 4) x) := PRES.out D (Fp.of bD)
                  replace hD := hid hD
                  clear b3 bD
                  go_wp2_with fail
                  refine wp_region_held_drew (S := fun W => At4 W lb (lo + i * 4) x) (by kernel_rfl) (by rw [← hD.out]; exact hSD.out) (fun hS => ?_)
                  rw [← hD.out] at hS ⊢
                  refine wpAnyH_take (i := 0) (v := ?v43) rfl (by kernel_rfl) (by kernel_rfl) (by kernel_rfl) (fun _ _ _ h => h) (Or.inl ⟨by rfl, ?h43⟩) hS ?_
                  case h43 => (intro W hW; go_simp; try (with_reducible rfl))
                  go_simp
                  refine wpAnyH_take (i := 1) (v := ?v44) rfl (by kernel_rfl) (by kernel_rfl) (by kernel_rfl) (fun _ _ _ h => h) (Or.inl ⟨by rfl, ?h44⟩) hS ?_
                  case h44 => (intro W hW; go_simp; try (with_reducible rfl))
                  go_simp
                  refine wpAnyH_take (i := 2) (v := ?v45) rfl (by kernel_rfl) (by kernel_rfl) (by kernel_rfl) (fun _ _ _ h => h) (Or.inl ⟨by rfl, ?h45⟩) hS ?_
                  case h45 => (intro W hW; go_simp; try (with_reducible rfl))
                  go_simp
                  refine wpAnyH_take (i := 3) (v := ?v46) rfl (by kernel_rfl) (by kernel_rfl) (by kernel_rfl) (fun _ _ _ h => h) (Or.inl ⟨by rfl, ?h46⟩) hS ?_
                  case h46 => (intro W hW; go_simp; try (with_reducible rfl))
                  go_simp
                  refine wpAnyH_take (i := 4) (v := ?v47) rfl (by kernel_rfl) (by kernel_rfl) (by kernel_rfl) (fun _ _ _ h => h) (Or.inl ⟨by rfl, ?h47⟩) hS ?_
                  case h47 => (intro W hW; go_simp; try (with_reducible rfl))
                  go_simp
                  refine wpAnyH_take (i := 5) (v := ?v48) rfl (by kernel_rfl) (by kernel_rfl) (by kernel_rfl) (fun _ _ _ h => h) (Or.inl ⟨by rfl, ?h48⟩) hS ?_
                  case h48 => (intro W hW; obtain ⟨z0, z1, z2, z3⟩ := hW; go_simp; try (with_reducible rfl))
                  go_simp
                  refine wpAnyH_take (i := 6) (v := ?v49) rfl (by kernel_rfl) (by kernel_rfl) (by kernel_rfl) (fun _ _ _ h => h) (Or.inl ⟨by rfl, ?h49⟩) hS ?_
                  case h49 => (intro W hW; go_simp; try (with_reducible rfl))
                  go_simp
                  refine wpAnyH_take (i := 7) (v := ?v50) rfl (by kernel_rfl) (by kernel_rfl) (by kernel_rfl) (fun _ _ _ h => h) (Or.inl ⟨by rfl, ?h50⟩) hS ?_
                  case h50 => (intro W hW; go_simp; try (with_reducible rfl))
                  go_simp
                  refine wpAnyH_take (i := 8) (v := ?v51) rfl (by kernel_rfl) (by kernel_rfl) (by kernel_rfl) (fun _ _ _ h => h) (Or.inl ⟨by rfl, ?h51⟩) hS ?_
                  case h51 => (intro W hW; go_simp; try (with_reducible rfl))
                  go_simp
                  refine wpAnyH_take (i := 9) (v := ?v52) rfl (by kernel_rfl) (by kernel_rfl) (by kernel_rfl) (fun _ _ _ h => h) (Or.inl ⟨by rfl, ?h52⟩) hS ?_
                  case h52 => (intro W hW; go_simp; try (with_reducible rfl))
                  go_simp
                  refine wpAnyH_take (i := 10) (v := ?v53) rfl (by kernel_rfl) (by kernel_rfl) (by kernel_rfl) (fun _ _ _ h => h) (Or.inl ⟨by rfl, ?h53⟩) hS ?_
                  case h53 => (intro W hW; obtain ⟨z0, z1, z2, z3⟩ := hW; go_simp; try (with_reducible rfl))
                  go_simp
                  refine wpAnyH_take (i := 13) (v := ?v54) rfl (by kernel_rfl) (by kernel_rfl) (by kernel_rfl) (fun _ _ _ h => h) (Or.inl ⟨by rfl, ?h54⟩) hS ?_
                  case h54 => (intro W hW; go_simp; try (with_reducible rfl))
                  go_simp
                  refine wpAnyH_ready (rs := [11]) (by kernel_rfl) (by simp) ?_
                  refine AllReadyH.cons rfl (fun K hK => ?_) ?_
                  · go_simp
                    go_wp2_with fail
                    refine HAdd.out.mono ?_
                    rintro e x4 ⟨rfl, b4⟩
                    have b4w : Below wr.heap.size wr x4 := HBD.out.trans (b4.mono HBD.out.size)
                    refine hK.out _ _ (PRES.out x4 (Fp.of b4w)) (fun hS => ?_)
                    clear hK K b4
                    refine wpAnyH_take (i := 12) (v := ?v55) rfl (by kernel_rfl) (by kernel_rfl) (by kernel_rfl) (fun _ _ _ h => h) (Or.inl ⟨by rfl, ?h55⟩) hS ?_
                    case h55 => (intro W hW; go_simp; try (with_reducible rfl))
                    go_simp
                    refine wpAnyH_take (i := 14) (v := ?v56) rfl (by kernel_rfl) (by kernel_rfl) (by kernel_rfl) (fun _ _ _ h => h) (Or.inl ⟨by rfl, ?h56⟩) hS ?_
                    case h56 => (intro W hW; go_simp; try (with_reducible rfl))
                    go_simp
                    refine wpAnyH_done (by kernel_rfl) ?_ _
                    have HBn := hid (HB.out.later b4w)
                    have HHn := hid (HH.out.later b4w)
                    have HWn : Hid (Below n0 w x4) := HW.out.trans (b4w.mono hbn.out)
                    clear b4w hS
                    go_wp2_with fail
                    refine ⟨⟨i + 1, P, (some ⟨hb', ho', none⟩), HN, hc, by omega, by first | rfl | go_num, rfl, ?_, ?_, HP, HWn⟩, ?_⟩
                    · show OwnE _ _ _ _ _; rw [hsn.out, hnt.out]; exact HHn.out
                    · show Bs _ _ _ _ _ _; rw [hsn.out, hnt.out]; exact HBn.out
                    · simp only [intOf]; omega
                  exact AllReadyH.nil
          · have hmay : Hid (may x = false) := by show _ = _; unfold may; rw [hvl, decide_eq_false hvs]; rfl
            have hnt : Hid (tak xs x = xs) := by show _ = _; unfold tak; rw [hmay.out]; rfl
            have hvs' : ¬ (x.v.size : Int) ≤ 65536 := by omega
            have hvd : decide ((x.v.size : Int) ≤ 65536) = false := decide_eq_false hvs'
            have hC := hV
            clear hvl
            go_wp2_with fail
            refine wp_region_quiet_below (by kernel_rfl) (by kernel_rfl) ?_
            repeat (first | go_big_quiet_step (first | (go_at_call 51; exact Calls.regrown_of (hV.out _)) | (go_at_call 29; exact Calls.regrown_of (hC.out _))) | quiet_step (first | (go_at_call 51; exact Calls.regrown_of (hV.out _)) | (go_at_call 29; exact Calls.regrown_of (hC.out _))))
            refine wpQuiet_nil ?_
            intro w3 hw3
            have b3 : Below wr.heap.size wr w3 := by
              obtain ⟨⟨dq, osq⟩, hw''⟩ := hw3
              rw [hw'']
              exact below_regrown _ dq osq
            clear hw3 x0 x1 x2 x3
            clear hV hC
            obtain ⟨D, hD⟩ : ∃ D, D = World.drew w3 := ⟨_, rfl⟩
            have bD : Below wr.heap.size wr D := by rw [hD]; exact b3.drew
            have HAdd := hid (add_arg (HB.out.later bD) x hxok.out hmay.out)
            have HBD := hid bD
            have hSD : Hid (At4 D lb (lo + i * 4) x) := PRES.out D (Fp.of bD)
            replace hD := hid hD
            clear b3 bD
            go_wp2_with fail
            refine wp_region_held_drew (S := fun W => At4 W lb (lo + i * 4) x) (by kernel_rfl) (by rw [← hD.out]; exact hSD.out) (fun hS => ?_)
            rw [← hD.out] at hS ⊢
            refine wpAnyH_take (i := 0) (v := ?v57) rfl (by kernel_rfl) (by kernel_rfl) (by kernel_rfl) (fun _ _ _ h => h) (Or.inl ⟨by rfl, ?h57⟩) hS ?_
            case h57 => (intro W hW; go_simp; try (with_reducible rfl))
            go_simp
            refine wpAnyH_take (i := 1) (v := ?v58) rfl (by kernel_rfl) (by kernel_rfl) (by kernel_rfl) (fun _ _ _ h => h) (Or.inl ⟨by rfl, ?h58⟩) hS ?_
            case h58 => (intro W hW; go_simp; try (with_reducible rfl))
            go_simp
            refine wpAnyH_take (i := 2) (v := ?v59) rfl (by kernel_rfl) (by kernel_rfl) (by kernel_rfl) (fun _ _ _ h => h) (Or.inl ⟨by rfl, ?h59⟩) hS ?_
            case h59 => (intro W hW; go_simp; try (with_reducible rfl))
            go_simp
            refine wpAnyH_take (i := 3) (v := ?v60) rfl (by kernel_rfl) (by kernel_rfl) (by kernel_rfl) (fun _ _ _ h => h) (Or.inl ⟨by rfl, ?h60⟩) hS ?_
            case h60 => (intro W hW; go_simp; try (with_reducible rfl))
            go_simp
            refine wpAnyH_take (i := 4) (v := ?v61) rfl (by kernel_rfl) (by kernel_rfl) (by kernel_rfl) (fun _ _ _ h => h) (Or.inl ⟨by rfl, ?h61⟩) hS ?_
            case h61 => (intro W hW; go_simp; try (with_reducible rfl))
            go_simp
            refine wpAnyH_take (i := 5) (v := ?v62) rfl (by kernel_rfl) (by kernel_rfl) (by kernel_rfl) (fun _ _ _ h => h) (Or.inl ⟨by rfl, ?h62⟩) hS ?_
            case h62 => (intro W hW; obtain ⟨z0, z1, z2, z3⟩ := hW; go_simp; try (with_reducible rfl))
            go_simp
            refine wpAnyH_take (i := 6) (v := ?v63) rfl (by kernel_rfl) (by kernel_rfl) (by kernel_rfl) (fun _ _ _ h => h) (Or.inl ⟨by rfl, ?h63⟩) hS ?_
            case h63 => (intro W hW; go_simp; try (with_reducible rfl))
            go_simp
            refine wpAnyH_take (i := 7) (v := ?v64) rfl (by kernel_rfl) (by kernel_rfl) (by kernel_rfl) (fun _ _ _ h => h) (Or.inl ⟨by rfl, ?h64⟩) hS ?_
            case h64 => (intro W hW; go_simp; try (with_reducible rfl))
            go_simp
            refine wpAnyH_take (i := 8) (v := ?v65) rfl (by kernel_rfl) (by kernel_rfl) (by kernel_rfl) (fun _ _ _ h => h) (Or.inl ⟨by rfl, ?h65⟩) hS ?_
            case h65 => (intro W hW; go_simp; try (with_reducible rfl))
            go_simp
            refine wpAnyH_take (i := 9) (v := ?v66) rfl (by kernel_rfl) (by kernel_rfl) (by kernel_rfl) (fun _ _ _ h => h) (Or.inl ⟨by rfl, ?h66⟩) hS ?_
            case h66 => (intro W hW; go_simp; try (with_reducible rfl))
            go_simp
            refine wpAnyH_take (i := 10) (v := ?v67) rfl (by kernel_rfl) (by kernel_rfl) (by kernel_rfl) (fun _ _ _ h => h) (Or.inl ⟨by rfl, ?h67⟩) hS ?_
            case h67 => (intro W hW; obtain ⟨z0, z1, z2, z3⟩ := hW; go_simp; try (with_reducible rfl))
            go_simp
            refine wpAnyH_take (i := 13) (v := ?v68) rfl (by kernel_rfl) (by kernel_rfl) (by kernel_rfl) (fun _ _ _ h => h) (Or.inl ⟨by rfl, ?h68⟩) hS ?_
            case h68 => (intro W hW; go_simp; try (with_reducible rfl))
            go_simp
            refine wpAnyH_ready (rs := [11]) (by kernel_rfl) (by simp) ?_
            refine AllReadyH.cons rfl (fun K hK => ?_) ?_
            · go_simp
              go_wp2_with fail
              refine HAdd.out.mono ?_
              rintro e x4 ⟨rfl, b4⟩
              have b4w : Below wr.heap.size wr x4 := HBD.out.trans (b4.mono HBD.out.size)
              refine hK.out _ _ (PRES.out x4 (Fp.of b4w)) (fun hS => ?_)
              clear hK K b4
              refine wpAnyH_take (i := 12) (v := ?v69) rfl (by kernel_rfl) (by kernel_rfl) (by kernel_rfl) (fun _ _ _ h => h) (Or.inl ⟨by rfl, ?h69⟩) hS ?_
              case h69 => (intro W hW; go_simp; try (with_reducible rfl))
              go_simp
              refine wpAnyH_take (i := 14) (v := ?v70) rfl (by kernel_rfl) (by kernel_rfl) (by kernel_rfl) (fun _ _ _ h => h) (Or.inl ⟨by rfl, ?h70⟩) hS ?_
              case h70 => (intro W hW; go_simp; try (with_reducible rfl))
              go_simp
              refine wpAnyH_done (by kernel_rfl) ?_ _
              have HBn := hid (HB.out.later b4w)
              have HHn := hid (HH.out.later b4w)
              have HWn : Hid (Below n0 w x4) := HW.out.trans (b4w.mono hbn.out)
              clear b4w hS
              go_wp2_with fail
              refine ⟨⟨i + 1, P, ha, HN, hc, by omega, by first | rfl | go_num, rfl, ?_, ?_, HP, HWn⟩, ?_⟩
              · show OwnE _ _ _ _ _; rw [hsn.out, hnt.out]; exact HHn.out
              · show Bs _ _ _ _ _ _; rw [hsn.out, hnt.out]; exact HBn.out
              · simp only [intOf]; omega
            exact AllReadyH.nil
    · have hi2 : ¬ (i : Int) < (len : Int) := by omega
      have hti : ls.take i = ls := List.take_of_length_le (by rw [hlen.out]; omega)
      rw [hti] at HH HB hwt hgd
      obtain ⟨gl, ve, vp, HBt⟩ := HB.out
      have e1 := bst_ent r (took ls)
      have e2 := bst_cnt r (took ls)
      have e3 := wts_len (took ls)
      have e4 := pl_bound r (took ls)
      have HBy := hid (bytes_any HBt (by have := hwt.out; omega) (by have := hwt.out; omega) (ent_bytes r (took ls) (fun x hx => by have := took_ok ls hok.out x hx; exact ⟨this.1, this.2.2.2⟩)) (fun p hp => by have := e4 p hp; have := hwt.out; omega))
      clear e1 e2 e3 e4
      go_wp2_with fail
      refine HBy.out.mono ?_
      rintro e x4 ⟨v, rfl, ov, b4⟩
      have O4 : Hid (OwnB x4 w.heap.size v (blk (bst r (took ls)))) := by
        have h : OwnB x4 wr.heap.size v (blk (bst r (took ls))) := ov
        refine ⟨h.1, ?_⟩
        rcases h.2 with h1 | ⟨g', c', cur, h1, h2, h3⟩
        · exact .inl h1
        · exact .inr ⟨g', c', cur, h1, Nat.le_trans HW.out.size h2, h3⟩
      have O5 : Hid (OwnE 38 x4 w.heap.size (.slice ha hn hc) (took ls)) := by rw [← hn0.out]; exact HH.out.later b4
      have B5 : Hid (Below w.heap.size w x4) := by rw [← hn0.out]; exact HW.out.trans (b4.mono hbn.out)
      clear ov b4 HBt
      go_wp2_with fail
      go_ret3
      exact ⟨_, _, rfl, O4.out, O5.out, B5.out⟩
end Go.Proofs.Ytkanjbeijoeenaa.Bu

/- looks: a disk and the document's, looked at. -/
import Derived.Test.YtgffojafdjcdoaaQl
import Derived.Deep.RegionHeld
import Derived.OrdersHeld
import Derived.StillTailTactics
namespace Go.Proofs.Ytgffojafdjcdoaa.Qm
open Go.ChangeShapes Go.WideShapes Go.ChangeAt Go.RowKit Go.Maps
open Go.Sort (grow)
open Go.Proofs (encStr)
open Go.Proofs.Ytgffojafdjcdoaa.By
open Go.Proofs.Ytgffojafdjcdoaa.Ac
open Go.Proofs.Ytgffojafdjcdoaa.Dn (Pad)
open Go.Proofs.Ytgffojafdjcdoaa.Dk
open Go.Proofs.Ytgffojafdjcdoaa.Df (isN isQ isN_size fnd)
open Go.Proofs.Ytgffojafdjcdoaa.Pd
open Go.Proofs.Ytgffojafdjcdoaa.Qa
open Go.Proofs.Ytgffojafdjcdoaa.Qb
open Go.Proofs.Ytgffojafdjcdoaa.Qi (rdN rdM rdZ)
open Go.Proofs.Ytgffojafdjcdoaa.Qj (rsz rrd nms)
open Go.Proofs.Ytgffojafdjcdoaa.Ql (bs_str)
set_option linter.unusedVariables false
set_option linter.unusedSimpArgs false
theorem bs_bd (b : ByteArray) : ∀ y ∈ bs b, 0 ≤ y ∧ y ≤ 255 := by
  intro y hy
  obtain ⟨u, _, rfl⟩ := List.mem_map.1 hy
  have := u.toNat_lt
  omega
theorem str_bs (b : ByteArray) : str (bs b) = b := bs_inj (bs_str _ (bs_bd b))
theorem bs_cut (b : ByteArray) (i j : Nat) : bs (b.extract i j) = ((bs b).drop i).take (j - i) := by
  unfold bs
  rw [← List.map_drop, ← List.map_take]
  congr 1
  simp [ByteArray.data_extract]
theorem rel_size {S : St} {R : RS} (h : Rel S R) (s : ByteArray) : (((fnd S s).1.zs.length : Nat) : Int) = (rsz R s).1 ∧ (((fnd S s).1.k : Nat) : Int) = (rsz R s).2.1 ∧ (fnd S s).2 = (rsz R s).2.2 := by
  have e := h.fnd s
  unfold rsz
  by_cases hi : isN s = false
  · rw [if_pos hi]
    unfold fnd
    rw [if_pos hi]; exact ⟨rfl, rfl, rfl⟩
  · rw [if_neg hi]
    cases hl : lkp R.rs s with
    | none =>
      unfold fnd
      rw [if_neg hi, h.cor.none hl]; exact ⟨rfl, rfl, rfl⟩
    | some r =>
      obtain ⟨h1, h2⟩ := h.found (by simpa using hi) hl
      have a1 := congrArg Prod.fst h2
      have a2 := congrArg Prod.snd h2
      simp only [cf, cr] at a1 a2
      unfold rfd at e
      rw [if_neg hi, hl] at e
      rw [a1, a2, bs_len]
      exact ⟨rfl, rfl, e⟩
theorem rel_read {S : St} {R : RS} (h : Rel S R) (s : ByteArray) (p n : Int) : (rdZ S s p n).2 = (rrd R s p n).2 ∧ str (rdZ S s p n).1 = (rrd R s p n).1 ∧ (∀ y ∈ (rdZ S s p n).1, 0 ≤ y ∧ y ≤ 255) := by
  have e := h.fnd s
  unfold rfd at e
  unfold rdZ rrd
  by_cases hi : isN s = false
  · rw [if_pos hi] at e ⊢
    rw [if_pos (by rw [e]; decide), e]
    exact ⟨rfl, rfl, fun y hy => by cases hy⟩
  · rw [if_neg hi] at e ⊢
    cases hl : lkp R.rs s with
    | none =>
      rw [hl] at e
      rw [if_pos (by rw [e]; decide), e]
      exact ⟨rfl, rfl, fun y hy => by cases hy⟩
    | some r =>
      rw [hl] at e
      obtain ⟨h1, h2⟩ := h.found (by simpa using hi) hl
      have a1 := congrArg Prod.fst h2
      simp only [cf, cr] at a1
      rw [if_neg (by rw [e]; simp), a1, bs_len]
      dsimp only
      cases hn : rdN r.b.size p n with
      | true => rw [if_pos rfl, if_pos rfl]; exact ⟨rfl, rfl, fun y hy => by cases hy⟩
      | false =>
        rw [if_neg (by simp), if_neg (by simp)]
        refine ⟨rfl, ?_, fun y hy => bs_bd r.b y (List.mem_of_mem_drop (List.mem_of_mem_take hy))⟩
        have := bs_cut r.b p.toNat (p.toNat + rdM r.b.size p n)
        rw [Nat.add_sub_cancel_left] at this
        show str (((bs r.b).drop p.toNat).take (rdM r.b.size p n)) = _
        rw [← this, str_bs]
theorem rel_names {S : St} {R : RS} (h : Rel S R) (hok : S.ok) : ∀ r ∈ R.rs, isN r.n = true := by
  intro r hr
  obtain ⟨f, hf, _⟩ := h.cor.some (look_of_mem h.cor.srt hr)
  have := hok.name _ (Mp.seek_mem hf)
  simp only [Array.length_toList] at this
  unfold isN
  simp only [Bool.and_eq_true, decide_eq_true_eq]
  exact this
theorem enc_nms {S : St} {R : RS} (h : Rel S R) (hn : (Mp.names S.fs).Nodup) : (Lt.lst S.fs).map encStr = nms R.rs := by
  rw [h.cor.lst hn, List.map_map]
  unfold nms
  refine List.map_congr_left fun r _ => ?_
  show Value.string ⟨r.n.data.toList.toArray⟩ = _
  simp
theorem pad_own {w : World} {base n : Nat} {g c : Nat} {zs : List Int} (h : w.ownsRow base 5 1 (.slice (some ⟨g, 0, none⟩) n c) n (zs.map (Value.int .u8))) : Pad w g n := fun j hj => by
  have h1 := h.1
  rw [List.length_map] at h1
  refine ⟨⟨zs.getD j 0, ?_⟩, World.ownsRow.frozenAt h j⟩
  rw [World.ownsRow.cellAt h j (by omega), List.getElem?_map, List.getD_eq_getElem?_getD, List.getElem?_eq_getElem (by omega)]
  rfl
theorem own_row {w w' : World} {base e size n : Nat} {v : Value} {xs : List Value} (h : w.ownsRow base e size v n xs) (hb : ∀ j, v.ownBlock = some j → w'.heap[j]? = w.heap[j]?) : w'.ownsRow base e size v n xs := by
  refine ⟨h.1, ?_⟩
  rcases h.2 with h1 | ⟨g, cap, cur, e, hb', hg, r⟩
  · exact .inl h1
  · exact .inr ⟨g, cap, cur, e, hb', (hb g (by rw [e]; rfl)).trans hg, r⟩
theorem row_at {w : World} {base g n c : Nat} {xs : List Value} (h : w.ownsRow base 9 1 (.slice (some ⟨g, 0, none⟩) n c) n xs) (j : Nat) (x : Value) (hx : xs[j]? = some x) : w.cell? ⟨g, j, none⟩ = some x := by
  have h1 := h.1
  have := (List.getElem?_eq_some_iff.1 hx).1
  rw [World.ownsRow.cellAt h j (by omega)]; exact hx
set_option maxHeartbeats 16000000 in
set_option maxRecDepth 100000 in
theorem looks_any {base g b base2 g2 : Nat} {v2 : Value} {P P2 : Nat → Prop} {S : St} {R : RS} (x : A) (w : World) (H : Disk w base g b P S) (H2 : RDk w base2 g2 v2 P2 R) (hrel : Rel S R) (hx : x.ok w) (hnm : x.name.size ≤ 9223372036854775807) :
    Calls Try.prog 13 #[.pointer (some ⟨g, 0, none⟩), .pointer (some ⟨g2, 0, none⟩), .agg #[.int .i64 x.kind, .string x.name, .string x.to, .slice x.ba x.bl x.bc, .int .i64 x.at_, .int .i64 x.n, .slice x.ka x.kl x.kc]] w fun e w' => e = .returned (.bool true) ∧ Below w.heap.size w w' := by
  have hnd := Dh.nodup H
  have hrok := Rel.ok hrel H.ok hnd H.mem.lasts
  obtain ⟨W0, hW0⟩ : ∃ W0, W0 = w.alloc (.cells x.cells 35) := ⟨_, rfl⟩
  have bb : Below w.heap.size w W0 := by rw [hW0]; exact box_below _ _
  have eW : w.alloc (.cells #[.int .i64 x.kind, .string x.name, .string x.to, .slice x.ba x.bl x.bc, .int .i64 x.at_, .int .i64 x.n, .slice x.ka x.kl x.kc] 35) = W0 := by rw [hW0]; rfl
  obtain ⟨gx, hgx⟩ : ∃ n, w.heap.size = n := ⟨_, rfl⟩
  have BX : Hid (W0.heap[gx]? = some (.cells x.cells 35)) := by show _ = _; rw [hW0, ← hgx]; exact new_at _ _
  have HD : Hid (∀ W, Below W0.heap.size W0 W → Disk W base g b P S) := fun W b1 => (H.later bb).later b1
  have HR : Hid (∀ W, Below W0.heap.size W0 W → RDk W base2 g2 v2 P2 R) := fun W b1 => (H2.later bb).later b1
  have HX : Hid (∀ W, Below W0.heap.size W0 W → W.cell? ⟨gx, 1, none⟩ = some (.string x.name) ∧ W.cell? ⟨gx, 4, none⟩ = some (.int .i64 x.at_) ∧ W.cell? ⟨gx, 5, none⟩ = some (.int .i64 x.n)) := fun W b1 => by
    have k := (b1.block gx (blk_lt BX.out)).trans BX.out
    exact ⟨cell_of k 1 _ rfl, cell_of k 4 _ rfl, cell_of k 5 _ rfl⟩
  have hnms := rel_names hrel H.ok
  have henc := enc_nms hrel hnd
  have hlen : S.fs.length = R.rs.length := hrel.cor.len hnd
  have hused : Mp.used S.fs = tot R.rs := hrel.cor.used hnd
  have hl4 := hrok.len
  have hxn := hx.n.2
  obtain ⟨N, hN⟩ : ∃ N, N = R.rs.length := ⟨_, rfl⟩
  rw [← hN] at hlen hl4
  have HL1 : Hid (Calls Try.prog 20 #[.pointer (some ⟨g, 0, none⟩)] W0 fun e w' => ∃ gl cap : Nat, e = .returned (.slice (some ⟨gl, 0, none⟩) N cap) ∧ w'.ownsRow W0.heap.size 9 1 (.slice (some ⟨gl, 0, none⟩) N cap) N (nms R.rs) ∧ Below W0.heap.size W0 w') := by
    have := Lt.list_any W0 (HD.out W0 (Below.refl _ _))
    rw [hlen, henc] at this
    exact this
  have HL2 : Hid (∀ W, Below W0.heap.size W0 W → Calls Try.prog 43 #[.pointer (some ⟨g2, 0, none⟩)] W fun e w' => ∃ u, e = .returned u ∧ w'.ownsRow W.heap.size 9 1 u N (nms R.rs) ∧ Below W.heap.size W w') := fun W b1 => by
    have := Qj.list_any W (HR.out W b1) hrok
    rw [← hN] at this
    exact this
  have HU1 : Hid (∀ W, Below W0.heap.size W0 W → Calls Try.prog 21 #[.pointer (some ⟨g, 0, none⟩)] W fun e w' => e = .returned (.int .i64 ((tot R.rs : Nat) : Int)) ∧ Below W.heap.size W w') := fun W b1 => by
    have := Us.used_any W (HD.out W b1)
    rw [hused] at this
    exact this
  have HU2 : Hid (∀ W, Below W0.heap.size W0 W → Calls Try.prog 44 #[.pointer (some ⟨g2, 0, none⟩)] W fun e w' => e = .returned (.int .i64 ((tot R.rs : Nat) : Int)) ∧ w' = W) := fun W b1 => rused_any W (HR.out W b1) hrok
  have HQ1 : Hid (∀ W, Below W0.heap.size W0 W → Calls Try.prog 22 #[.pointer (some ⟨g, 0, none⟩)] W fun e w' => e = .returned (.int .i64 R.q) ∧ w' = W) := fun W b1 => by
    have := Dg.quota_any W (HD.out W b1)
    rwa [hrel.q] at this
  have HF1 : Hid (∀ W, Below W0.heap.size W0 W → Calls Try.prog 23 #[.pointer (some ⟨g, 0, none⟩)] W fun e w' => e = .returned (.int .i64 R.rf) ∧ w' = W) := fun W b1 => by
    have := Dg.refused_any W (HD.out W b1)
    rwa [hrel.rf] at this
  have HC1 : Hid (∀ W, Below W0.heap.size W0 W → W.cell? ⟨g2, 1, none⟩ = some (.int .i64 R.q) ∧ W.cell? ⟨g2, 4, none⟩ = some (.int .i64 R.rf)) := fun W b1 => ⟨(HR.out W b1).cell 1 _ rfl, (HR.out W b1).cell 4 _ rfl⟩
  have HS1 : Hid (∀ s : ByteArray, s.size ≤ 9223372036854775807 → ∀ W, Below W0.heap.size W0 W → Calls Try.prog 19 #[.pointer (some ⟨g, 0, none⟩), .string s] W fun e w' => e = .returned (.tuple #[.int .i64 (rsz R s).1, .int .i64 (rsz R s).2.1, .int .i64 (rsz R s).2.2]) ∧ Below W.heap.size W w') := fun s hs W b1 => by
    have := Bc.size_any s hs W (HD.out W b1)
    rw [(rel_size hrel s).1, (rel_size hrel s).2.1, (rel_size hrel s).2.2] at this
    exact this
  have HS2 : Hid (∀ s : ByteArray, s.size ≤ 9223372036854775807 → ∀ W, Below W0.heap.size W0 W → Calls Try.prog 45 #[.pointer (some ⟨g2, 0, none⟩), .string s] W fun e w' => e = .returned (.tuple #[.int .i64 (rsz R s).1, .int .i64 (rsz R s).2.1, .int .i64 (rsz R s).2.2]) ∧ Below W.heap.size W w') := fun s hs W b1 => Qj.size_any s hs W (HR.out W b1) hrok
  have HE1 : Hid (∀ (s : ByteArray), s.size ≤ 9223372036854775807 → ∀ (p n : Int), n ≤ 9223372036854775807 → ∀ W, Below W0.heap.size W0 W → Calls Try.prog 18 #[.pointer (some ⟨g, 0, none⟩), .string s, .int .i64 p, .int .i64 n] W fun e w' => ∃ a m c, e = .returned (.tuple #[.slice a m c, .int .i64 (rrd R s p n).2]) ∧ (∀ W', Below w'.heap.size w' W' → Sem.run Try.prog (convert 32 9 (.slice a m c)) W' = .ok (.string (rrd R s p n).1) W') ∧ (m = 0 ∨ ∃ gb, a = some ⟨gb, 0, none⟩ ∧ W.heap.size ≤ gb ∧ gb < w'.heap.size ∧ Pad w' gb m) ∧ m ≤ 9223372036854775807 ∧ Below W.heap.size W w') := fun s hs p n hn W b1 => by
    refine (Qi.read_any s hs p n hn W (HD.out W b1)).mono ?_
    rintro e w' ⟨v, rfl, o, b2⟩
    obtain ⟨r1, r2, r3⟩ := rel_read hrel s p n
    obtain ⟨a, c, rfl, _⟩ := Rd.str_bytes o rfl r3
    refine ⟨a, _, c, by rw [r1], fun W' bW => ?_, ?_, ?_, b2⟩
    · have o' := own_row o (fun j hj => bW.block j (World.ownsRow.lt o j hj).2)
      obtain ⟨a', c', e', hcv⟩ := Rd.str_bytes o' rfl r3
      simp only [Value.slice.injEq] at e'
      obtain ⟨rfl, _, rfl⟩ := e'
      rw [← r2]; exact hcv
    · rcases o.2 with ⟨_, h0⟩ | ⟨g', cap, cur, e1, hb', hg, hm, _⟩
      · exact .inl h0
      · simp only [Value.slice.injEq] at e1
        obtain ⟨rfl, _, rfl⟩ := e1
        exact .inr ⟨g', rfl, hb', blk_lt hg, pad_own o⟩
    · rcases o.2 with ⟨_, h0⟩ | ⟨g', cap, cur, e1, hb', hg, hm, hx', _⟩
      · omega
      · unfold maxLen at hx'; omega
  have HE2 : Hid (∀ (s : ByteArray), s.size ≤ 9223372036854775807 → ∀ (p n : Int), n ≤ 9223372036854775807 → ∀ W, Below W0.heap.size W0 W → Calls Try.prog 46 #[.pointer (some ⟨g2, 0, none⟩), .string s, .int .i64 p, .int .i64 n] W fun e w' => e = .returned (.tuple #[.string (rrd R s p n).1, .int .i64 (rrd R s p n).2]) ∧ Below W.heap.size W w') := fun s hs p n hn W b1 => Qj.read_any s hs p n hn W (HR.out W b1) hrok
  have HXN : Hid (∀ i, i < N → ∃ s : ByteArray, (nms R.rs)[i]? = some (.string s) ∧ s.size ≤ 9223372036854775807 ∧ (rsz R s).2.2 = 0 ∧ 0 ≤ (rsz R s).1 ∧ (rsz R s).1 ≤ 268435456 ∧ (rrd R s 0 (rsz R s).1).2 = 0) := fun i hi => by
    obtain ⟨r, hr⟩ : ∃ r, R.rs[i]? = some r := ⟨_, List.getElem?_eq_getElem (by omega)⟩
    have hm := List.mem_of_getElem? hr
    have h1 := hnms r hm
    have h2 := look_of_mem hrok.srt hm
    have h3 := sum_mem hm
    have h4 := hrok.tot
    have h5 := (isN_size h1).2
    have e1 : rsz R r.n = ((r.b.size : Int), (r.k : Int), 0) := by unfold rsz; rw [if_neg (by rw [h1]; simp), h2]
    refine ⟨r.n, by unfold nms; rw [List.getElem?_map, hr]; rfl, by omega, by rw [e1], by rw [e1]; omega, by rw [e1]; show (r.b.size : Int) ≤ _; omega, ?_⟩
    rw [e1]
    unfold rrd
    rw [if_neg (by rw [h1]; simp), h2]
    dsimp only
    have : rdN r.b.size 0 (r.b.size : Int) = false := by
      unfold rdN
      simp
    rw [this]
    rfl
  have hb0 : Hid (Below w.heap.size w W0) := bb
  have hs0 : Hid (W0.heap.size = gx + 1) := by show _ = _; rw [hW0, size_alloc, hgx]
  replace hN := hid hN
  replace hlen := hid hlen
  replace hnms := hid hnms
  obtain ⟨T, hT⟩ : ∃ T, T = tot R.rs := ⟨_, rfl⟩
  rw [← hT] at HU1 HU2
  replace hT := hid hT
  clear hW0 bb BX HD HR H H2 hrel hx henc hused hnd hrok
  go_enter Try.func13, Try.ntmps13
  go_wp2_with fail
  refine HL1.out.mono ?_
  rintro e w1 ⟨gl, lc, rfl, O1, b1⟩
  have hgl := hid (World.ownsRow.lt O1 gl rfl)
  replace O1 := hid O1
  replace b1 := hid b1
  go_wp2_with fail
  refine (HL2.out w1 b1.out).mono ?_
  rintro e w2 ⟨u, rfl, O2, b2⟩
  have B2 : Hid (Below W0.heap.size W0 w2) := b1.out.trans (b2.mono b1.out.size)
  have O12 : Hid (w2.ownsRow W0.heap.size 9 1 (.slice (some ⟨gl, 0, none⟩) N lc) N (nms R.rs)) := own_row O1.out (fun j hj => b2.block j (World.ownsRow.lt O1.out j hj).2)
  have hu2 : Hid (∀ j, u.ownBlock = some j → w1.heap.size ≤ j) := fun j hj => (World.ownsRow.lt O2 j hj).1
  obtain ⟨ua, uc, rfl⟩ := Qj.row_v O2
  have hus : Hid (0 < N → ∃ gu, ua = some ⟨gu, 0, none⟩) := fun h0 => by
    rcases O2.2 with ⟨_, h1⟩ | ⟨g', _, _, e1, _⟩
    · omega
    · simp only [Value.slice.injEq] at e1; exact ⟨g', e1.1⟩
  replace O2 := hid O2
  clear b2 O1 HL1 HL2
  have i64 : (N : Int) ≤ 4096 := by omega
  go_wp2_with fail
  refine wp_region_held_drew (S := fun W => Below w2.heap.size w2 W) (by kernel_rfl) ((Below.refl _ _).drew) (fun hS => ?_)
  generalize World.drew w2 = D at *
  refine wpAnyH_take (i := 0) (v := ?v1) rfl (by kernel_rfl) (by kernel_rfl) (by kernel_rfl) (fun _ _ _ h => h) (Or.inl ⟨by rfl, ?h1⟩) hS ?_
  case h1 => (intro W hW; go_simp; try (with_reducible rfl))
  go_simp
  refine wpAnyH_take (i := 1) (v := ?v2) rfl (by kernel_rfl) (by kernel_rfl) (by kernel_rfl) (fun _ _ _ h => h) (Or.inl ⟨by rfl, ?h2⟩) hS ?_
  case h2 => (intro W hW; go_simp; try (with_reducible rfl))
  go_simp
  refine wpAnyH_take (i := 2) (v := ?v3) rfl (by kernel_rfl) (by kernel_rfl) (by kernel_rfl) (fun _ _ _ h => h) (Or.inl ⟨by rfl, ?h3⟩) hS ?_
  case h3 => (intro W hW; go_simp; try (with_reducible rfl))
  go_simp
  refine wpAnyH_take (i := 3) (v := ?v4) rfl (by kernel_rfl) (by kernel_rfl) (by kernel_rfl) (fun _ _ _ h => h) (Or.inl ⟨by rfl, ?h4⟩) hS ?_
  case h4 => (intro W hW; go_simp; try (with_reducible rfl))
  go_simp
  refine wpAnyH_take (i := 4) (v := ?v5) rfl (by kernel_rfl) (by kernel_rfl) (by kernel_rfl) (fun _ _ _ h => h) (Or.inl ⟨by rfl, ?h5⟩) hS ?_
  case h5 => (intro W hW; go_simp; try (with_reducible rfl))
  go_simp
  refine wpAnyH_take (i := 5) (v := ?v6) rfl (by kernel_rfl) (by kernel_rfl) (by kernel_rfl) (fun _ _ _ h => h) (Or.inl ⟨by rfl, ?h6⟩) hS ?_
  case h6 => (intro W hW; go_simp; try (with_reducible rfl))
  go_simp
  refine wpAnyH_take (i := 6) (v := ?v7) rfl (by kernel_rfl) (by kernel_rfl) (by kernel_rfl) (fun _ _ _ h => h) (Or.inl ⟨by rfl, ?h7⟩) hS ?_
  case h7 => (intro W hW; go_simp; try (with_reducible rfl))
  go_simp
  refine wpAnyH_take (i := 8) (v := ?v8) rfl (by kernel_rfl) (by kernel_rfl) (by kernel_rfl) (fun _ _ _ h => h) (Or.inl ⟨by rfl, ?h8⟩) hS ?_
  case h8 => (intro W hW; go_simp; try (with_reducible rfl))
  go_simp
  refine wpAnyH_ready (rs := [7]) (by kernel_rfl) (by simp) ?_
  refine AllReadyH.cons rfl (fun K hK => ?_) ?_
  · go_simp
    go_wp2_with fail
    refine (HU1.out _ (B2.out.trans (hS.mono B2.out.size))).mono ?_
    rintro e y7 ⟨rfl, c7⟩
    refine hK.out _ _ (hS.trans (c7.mono hS.size)) (fun hS => ?_)
    clear hK K c7
    refine wpAnyH_ready (rs := [9]) (by kernel_rfl) (by simp) ?_
    refine AllReadyH.cons rfl (fun K hK => ?_) ?_
    · go_simp
      go_wp2_with fail
      refine (HU2.out _ (B2.out.trans (hS.mono B2.out.size))).mono ?_
      rintro e y9 ⟨rfl, hy9⟩
      subst hy9
      refine hK.out _ _ hS (fun hS => ?_)
      clear hK K
      refine wpAnyH_take (i := 10) (v := ?v9) rfl (by kernel_rfl) (by kernel_rfl) (by kernel_rfl) (fun _ _ _ h => h) (Or.inl ⟨by rfl, ?h9⟩) hS ?_
      case h9 => (intro W hW; go_simp; try (with_reducible rfl))
      go_simp
      refine wpAnyH_take (i := 11) (v := ?v10) rfl (by kernel_rfl) (by kernel_rfl) (by kernel_rfl) (fun _ _ _ h => h) (Or.inl ⟨by rfl, ?h10⟩) hS ?_
      case h10 => (intro W hW; go_simp; try (with_reducible rfl))
      go_simp
      refine wpAnyH_take (i := 12) (v := ?v11) rfl (by kernel_rfl) (by kernel_rfl) (by kernel_rfl) (fun _ _ _ h => h) (Or.inl ⟨by rfl, ?h11⟩) hS ?_
      case h11 => (intro W hW; go_simp; try (with_reducible rfl))
      go_simp
      refine wpAnyH_take (i := 13) (v := ?v12) rfl (by kernel_rfl) (by kernel_rfl) (by kernel_rfl) (fun _ _ _ h => h) (Or.inl ⟨by rfl, ?h12⟩) hS ?_
      case h12 => (intro W hW; go_simp; try (with_reducible rfl))
      go_simp
      refine wpAnyH_take (i := 15) (v := ?v13) rfl (by kernel_rfl) (by kernel_rfl) (by kernel_rfl) (fun _ _ _ h => h) (Or.inl ⟨by rfl, ?h13⟩) hS ?_
      case h13 => (intro W hW; go_simp; try (with_reducible rfl))
      go_simp
      refine wpAnyH_take (i := 16) (v := ?v14) rfl (by kernel_rfl) (by kernel_rfl) (by kernel_rfl) (fun _ _ _ h => h) (Or.inl ⟨by rfl, ?h14⟩) hS ?_
      case h14 => (intro W hW; go_simp; try (with_reducible rfl))
      go_simp
      refine wpAnyH_take (i := 17) (v := ?v15) rfl (by kernel_rfl) (by kernel_rfl) (by kernel_rfl) (fun _ _ _ h => h) (Or.inl ⟨by rfl, ?h15⟩) hS ?_
      case h15 => (intro W hW; go_simp; try (with_reducible rfl))
      go_simp
      refine wpAnyH_take (i := 18) (v := ?v16) rfl (by kernel_rfl) (by kernel_rfl) (by kernel_rfl) (fun _ _ _ h => h) (Or.inl ⟨by rfl, ?h16⟩) hS ?_
      case h16 => (intro W hW; have c2 := (HC1.out W (B2.out.trans (hW.mono B2.out.size))).1; go_simp; try (with_reducible rfl))
      go_simp
      refine wpAnyH_ready (rs := [14]) (by kernel_rfl) (by simp) ?_
      refine AllReadyH.cons rfl (fun K hK => ?_) ?_
      · go_simp
        go_wp2_with fail
        refine (HQ1.out _ (B2.out.trans (hS.mono B2.out.size))).mono ?_
        rintro e y14 ⟨rfl, hy14⟩
        subst hy14
        refine hK.out _ _ hS (fun hS => ?_)
        clear hK K
        refine wpAnyH_take (i := 19) (v := ?v17) rfl (by kernel_rfl) (by kernel_rfl) (by kernel_rfl) (fun _ _ _ h => h) (Or.inl ⟨by rfl, ?h17⟩) hS ?_
        case h17 => (intro W hW; go_simp; try (with_reducible rfl))
        go_simp
        refine wpAnyH_take (i := 20) (v := ?v18) rfl (by kernel_rfl) (by kernel_rfl) (by kernel_rfl) (fun _ _ _ h => h) (Or.inl ⟨by rfl, ?h18⟩) hS ?_
        case h18 => (intro W hW; go_simp; try (with_reducible rfl))
        go_simp
        refine wpAnyH_take (i := 21) (v := ?v19) rfl (by kernel_rfl) (by kernel_rfl) (by kernel_rfl) (fun _ _ _ h => h) (Or.inl ⟨by rfl, ?h19⟩) hS ?_
        case h19 => (intro W hW; go_simp; try (with_reducible rfl))
        go_simp
        refine wpAnyH_take (i := 22) (v := ?v20) rfl (by kernel_rfl) (by kernel_rfl) (by kernel_rfl) (fun _ _ _ h => h) (Or.inl ⟨by rfl, ?h20⟩) hS ?_
        case h20 => (intro W hW; go_simp; try (with_reducible rfl))
        go_simp
        refine wpAnyH_take (i := 24) (v := ?v21) rfl (by kernel_rfl) (by kernel_rfl) (by kernel_rfl) (fun _ _ _ h => h) (Or.inl ⟨by rfl, ?h21⟩) hS ?_
        case h21 => (intro W hW; go_simp; try (with_reducible rfl))
        go_simp
        refine wpAnyH_take (i := 25) (v := ?v22) rfl (by kernel_rfl) (by kernel_rfl) (by kernel_rfl) (fun _ _ _ h => h) (Or.inl ⟨by rfl, ?h22⟩) hS ?_
        case h22 => (intro W hW; go_simp; try (with_reducible rfl))
        go_simp
        refine wpAnyH_take (i := 26) (v := ?v23) rfl (by kernel_rfl) (by kernel_rfl) (by kernel_rfl) (fun _ _ _ h => h) (Or.inl ⟨by rfl, ?h23⟩) hS ?_
        case h23 => (intro W hW; go_simp; try (with_reducible rfl))
        go_simp
        refine wpAnyH_take (i := 27) (v := ?v24) rfl (by kernel_rfl) (by kernel_rfl) (by kernel_rfl) (fun _ _ _ h => h) (Or.inl ⟨by rfl, ?h24⟩) hS ?_
        case h24 => (intro W hW; have c2 := (HC1.out W (B2.out.trans (hW.mono B2.out.size))).2; go_simp; try (with_reducible rfl))
        go_simp
        refine wpAnyH_ready (rs := [23]) (by kernel_rfl) (by simp) ?_
        refine AllReadyH.cons rfl (fun K hK => ?_) ?_
        · go_simp
          go_wp2_with fail
          refine (HF1.out _ (B2.out.trans (hS.mono B2.out.size))).mono ?_
          rintro e y23 ⟨rfl, hy23⟩
          subst hy23
          refine hK.out _ _ hS (fun hS => ?_)
          clear hK K
          refine wpAnyH_take (i := 28) (v := ?v25) rfl (by kernel_rfl) (by kernel_rfl) (by kernel_rfl) (fun _ _ _ h => h) (Or.inl ⟨by rfl, ?h25⟩) hS ?_
          case h25 => (intro W hW; go_simp; try (with_reducible rfl))
          go_simp
          refine wpAnyH_take (i := 29) (v := ?v26) rfl (by kernel_rfl) (by kernel_rfl) (by kernel_rfl) (fun _ _ _ h => h) (Or.inl ⟨by rfl, ?h26⟩) hS ?_
          case h26 => (intro W hW; go_simp; try (with_reducible rfl))
          go_simp
          refine wpAnyH_done (by kernel_rfl) ?_ _
          generalize y23 = wF at *
          have B3 : Hid (Below W0.heap.size W0 wF) := B2.out.trans (hS.mono B2.out.size)
          have O13 : Hid (wF.ownsRow W0.heap.size 9 1 (.slice (some ⟨gl, 0, none⟩) N lc) N (nms R.rs)) := own_row O12.out (fun j hj => hS.block j (World.ownsRow.lt O12.out j hj).2)
          have O23 : Hid (wF.ownsRow w1.heap.size 9 1 (.slice ua N uc) N (nms R.rs)) := own_row O2.out (fun j hj => hS.block j (World.ownsRow.lt O2.out j hj).2)
          clear hS O12 O2 HU1 HU2 HQ1 HF1 HC1 B2
          go_wp2_with fail
          go_loopw [9] (fun iv wr => ∃ (i : Nat) (xs : List Value), i ≤ N ∧ iv = .int .i64 (i : Int) ∧ Hid (wr.ownsRow W0.heap.size 9 1 (.slice (some ⟨gl, 0, none⟩) N lc) N xs) ∧ Hid (∀ j, i ≤ j → xs[j]? = (nms R.rs)[j]?) ∧ Hid (wr.ownsRow w1.heap.size 9 1 (.slice ua N uc) N (nms R.rs)) ∧ Hid (Below W0.heap.size W0 wr)) (fun iv _ => N - (intOf iv).toNat)
          case atStart => exact ⟨0, nms R.rs, Nat.zero_le _, rfl, O13, fun _ _ => rfl, O23, B3⟩
          case round =>
            obtain ⟨i, xs, hi, rfl, HL, hxs, HU, HB⟩ := hrel
            by_cases hiN : i < N
            · obtain ⟨s, hs1, hs2, hs3, hs4, hs5, hs6⟩ := HXN.out i hiN
              obtain ⟨gu, rfl⟩ := hus.out (by omega)
              have cl := row_at HL.out i (.string s) (by rw [hxs.out i (Nat.le_refl _)]; exact hs1)
              have cu := row_at HU.out i (.string s) hs1
              have i1 : (i : Int) < (N : Int) := by omega
              have Z1 := HS1.out s hs2 wr HB.out
              rw [hs3] at Z1
              have Z2 : Hid (∀ W, Below W0.heap.size W0 W → Calls Try.prog 45 #[.pointer (some ⟨g2, 0, none⟩), .string s] W fun e w' => e = .returned (.tuple #[.int .i64 (rsz R s).1, .int .i64 (rsz R s).2.1, .int .i64 0]) ∧ Below W.heap.size W w') := fun W b => by
                have := HS2.out s hs2 W b
                rwa [hs3] at this
              have Z3 : Hid (∀ W, Below W0.heap.size W0 W → Calls Try.prog 18 #[.pointer (some ⟨g, 0, none⟩), .string s, .int .i64 0, .int .i64 (rsz R s).1] W fun e w' => ∃ a m c, e = .returned (.tuple #[.slice a m c, .int .i64 0]) ∧ (∀ W', Below w'.heap.size w' W' → Sem.run Try.prog (convert 32 9 (.slice a m c)) W' = .ok (.string (rrd R s 0 (rsz R s).1).1) W') ∧ (m = 0 ∨ ∃ gb, a = some ⟨gb, 0, none⟩ ∧ W.heap.size ≤ gb ∧ gb < w'.heap.size ∧ Pad w' gb m) ∧ m ≤ 9223372036854775807 ∧ Below W.heap.size W w') := fun W b => by
                have := HE1.out s hs2 0 (rsz R s).1 (by omega) W b
                rwa [hs6] at this
              have Z4 : Hid (∀ W, Below W0.heap.size W0 W → Calls Try.prog 46 #[.pointer (some ⟨g2, 0, none⟩), .string s, .int .i64 0, .int .i64 (rsz R s).1] W fun e w' => e = .returned (.tuple #[.string (rrd R s 0 (rsz R s).1).1, .int .i64 0]) ∧ Below W.heap.size W w') := fun W b => by
                have := HE2.out s hs2 0 (rsz R s).1 (by omega) W b
                rwa [hs6] at this
              replace Z1 := hid Z1
              generalize (rrd R s 0 (rsz R s).1).1 = str0 at *
              generalize (rsz R s).1 = n0 at *
              generalize (rsz R s).2.1 = k0 at *
              replace hs1 := hid hs1
              clear hs3 hs6
              go_wp2_with fail
              refine Z1.out.mono ?_
              rintro e w4 ⟨rfl, b4⟩
              have B4 : Hid (Below W0.heap.size W0 w4) := HB.out.trans (b4.mono HB.out.size)
              have b4' := hid b4
              have cu4 : w4.cell? ⟨gu, i, none⟩ = some (.string s) := (b4.cell (block_lt_of_cell cu)).trans cu
              have cl4 : w4.cell? ⟨gl, i, none⟩ = some (.string s) := (b4.cell (block_lt_of_cell cl)).trans cl
              clear b4 cu cl Z1
              go_wp2_with fail
              refine (Z2.out w4 B4.out).mono ?_
              rintro e w5 ⟨rfl, b5⟩
              have B5 : Hid (Below W0.heap.size W0 w5) := B4.out.trans (b5.mono B4.out.size)
              have b5' : Hid (Below wr.heap.size wr w5) := b4'.out.trans (b5.mono b4'.out.size)
              have cu5 : w5.cell? ⟨gu, i, none⟩ = some (.string s) := (b5.cell (block_lt_of_cell cu4)).trans cu4
              have cl5 : w5.cell? ⟨gl, i, none⟩ = some (.string s) := (b5.cell (block_lt_of_cell cl4)).trans cl4
              clear b5 cu4 cl4 Z2 b4'
              go_wp2_with fail
              go_quiet (fail)
              generalize hq6 : World.drewN w5 _ = w6 at *
              have d6 : Below w5.heap.size w5 w6 := by rw [← hq6]; exact drewN_below _ _
              have B6 : Hid (Below W0.heap.size W0 w6) := B5.out.trans (d6.mono B5.out.size)
              have b6' : Hid (Below wr.heap.size wr w6) := b5'.out.trans (d6.mono b5'.out.size)
              have cu6 : w6.cell? ⟨gu, i, none⟩ = some (.string s) := (d6.cell (block_lt_of_cell cu5)).trans cu5
              have cl6 : w6.cell? ⟨gl, i, none⟩ = some (.string s) := (d6.cell (block_lt_of_cell cl5)).trans cl5
              clear d6 hq6 cu5 cl5 B5 b5'
              go_wp2_with fail
              refine (Z3.out w6 B6.out).mono ?_
              rintro e w7 ⟨a, m, c, rfl, hcv, hgb, hm, b7⟩
              have B7 : Hid (Below W0.heap.size W0 w7) := B6.out.trans (b7.mono B6.out.size)
              have b7' : Hid (Below wr.heap.size wr w7) := b6'.out.trans (b7.mono b6'.out.size)
              have h67 : Hid (wr.heap.size ≤ w6.heap.size) := b6'.out.size
              have cu7 : w7.cell? ⟨gu, i, none⟩ = some (.string s) := (b7.cell (block_lt_of_cell cu6)).trans cu6
              replace hcv := hid hcv
              replace hgb := hid hgb
              clear b7 cu6 cl6 Z3 b6'
              go_wp2_with fail
              refine (Z4.out w7 B7.out).mono ?_
              rintro e w8 ⟨rfl, b8⟩
              have hcv8 := hcv.out w8 b8
              have B8 : Hid (Below W0.heap.size W0 w8) := B7.out.trans (b8.mono B7.out.size)
              have b8' : Hid (Below wr.heap.size wr w8) := b7'.out.trans (b8.mono b7'.out.size)
              have HL8 : Hid (w8.ownsRow W0.heap.size 9 1 (.slice (some ⟨gl, 0, none⟩) N lc) N xs) := own_row HL.out (fun j hj => b8'.out.block j (World.ownsRow.lt HL.out j hj).2)
              have HU8 : Hid (w8.ownsRow w1.heap.size 9 1 (.slice (some ⟨gu, 0, none⟩) N uc) N (nms R.rs)) := own_row HU.out (fun j hj => b8'.out.block j (World.ownsRow.lt HU.out j hj).2)
              have hgl1 : Hid (gl < wr.heap.size) := (World.ownsRow.lt HL.out gl rfl).2
              have hgu1 : Hid (gu < wr.heap.size ∧ w1.heap.size ≤ gu) := ⟨(World.ownsRow.lt HU.out gu rfl).2, (World.ownsRow.lt HU.out gu rfl).1⟩
              have hglu : Hid (gl < gu) := by show gl < gu; have := hgl.out.2; have := hgu1.out.2; omega
              have END : Hid (∀ w9, w9.ownsRow W0.heap.size 9 1 (.slice (some ⟨gl, 0, none⟩) N lc) N xs → w9.ownsRow w1.heap.size 9 1 (.slice (some ⟨gu, 0, none⟩) N uc) N (nms R.rs) → Below W0.heap.size W0 w9 → ∀ z, (∃ xs', Hid ((w9.setCell ⟨gl, i, none⟩ z).ownsRow W0.heap.size 9 1 (.slice (some ⟨gl, 0, none⟩) N lc) N xs') ∧ Hid (∀ j, i + 1 ≤ j → xs'[j]? = (nms R.rs)[j]?)) ∧ Hid ((w9.setCell ⟨gl, i, none⟩ z).ownsRow w1.heap.size 9 1 (.slice (some ⟨gu, 0, none⟩) N uc) N (nms R.rs)) ∧ Hid (Below W0.heap.size W0 (w9.setCell ⟨gl, i, none⟩ z))) := fun w9 o1 o2 bb z => by
                refine ⟨⟨xs.set i z, (World.ownsRow.stored o1 i z).1, fun j hj => ?_⟩, own_row o2 (fun j hj => set_ne _ _ _ _ _ (fun e => ?_)), bb.setCell (World.ownsRow.lt o1 gl rfl).1 z⟩
                · rw [List.getElem?_set_ne (by omega)]; exact hxs.out j (by omega)
                · have hj' : gu = j := by simpa [Value.ownBlock] using hj
                  have := hglu.out
                  omega
              have hwr : IntKind.i64.wrap ((i : Int) + 1) = ((i + 1 : Nat) : Int) := by rw [IntKind.wrap_i64]; omega
              have hm2 : (m : Int) ≤ 9223372036854775807 := by omega
              rcases hgb.out with h0 | ⟨gb, hab, hg1, hg2, pd⟩
              · have hm0 : (m : Int) = 0 := by omega
                have cl8 := row_at HL8.out i (.string s) (by rw [hxs.out i (Nat.le_refl _)]; exact hs1.out)
                have fl8 := World.ownsRow.frozenAt HL8.out i
                obtain ⟨⟨xs', E1, E2⟩, E3, E4⟩ := END.out w8 HL8.out HU8.out B8.out (.string ⟨#[115, 112, 111, 105, 108, 116]⟩)
                have nm0 : ¬ (0 : Int) < (m : Int) := by omega
                replace hm0 := hid hm0
                replace h0 := hid h0
                clear hcv hgb cu7 Z4 b8 b8' b7' END
                go_wp2_with fail
                go_loopw [19] (fun kv wr' => kv = .int .i64 0 ∧ wr' = w8) (fun _ _ => 0)
                case atStart => exact ⟨rfl, rfl⟩
                case round =>
                  obtain ⟨rfl, rfl⟩ := hrel
                  go_wp2_with fail
                  refine ⟨⟨i + 1, xs', by omega, by first | rfl | go_num, E1, E2, E3, E4⟩, ?_⟩
                  simp only [intOf]; omega
              · subst hab
                have hgbl : Hid (gl ≠ gb) := fun e => by have := hgl1.out; have := h67.out; omega
                have hgbu : Hid (gu ≠ gb) := fun e => by have := hgu1.out.1; have := h67.out; omega
                have hgbW : Hid (W0.heap.size ≤ gb) := by show _ ≤ _; have := B6.out.size; omega
                have P8 : Hid (Pad w8 gb m) := pd.later b8
                replace hg1 := hid hg1
                replace hg2 := hid hg2
                clear hcv hgb cu7 Z4 b8 b8' b7' pd
                go_wp2_with fail
                go_loopw [19] (fun kv wr' => ∃ kk : Nat, kv = .int .i64 (kk : Int) ∧ kk ≤ m ∧ Hid (Pad wr' gb m) ∧ Hid (Fr (fun j => j = gb) w8 wr')) (fun kv _ => m - (intOf kv).toNat)
                case atStart => exact ⟨0, rfl, by omega, P8, Fr.refl _ _⟩
                case round =>
                  obtain ⟨kk, rfl, hkm, hpd, hfr⟩ := hrel
                  by_cases hlt : kk < m
                  · obtain ⟨⟨y, hy⟩, hfz⟩ := hpd.out kk hlt
                    have ik0 : (kk : Int) < (m : Int) := by omega
                    have HPadS : Hid (∀ y', Pad (wr.setCell ⟨gb, kk, none⟩ (.int .u8 y')) gb m) := fun y' => hpd.out.set kk y' hlt
                    have HFrS : Hid (∀ y', Fr (fun j => j = gb) w8 (wr.setCell ⟨gb, kk, none⟩ y')) := fun y' => hfr.out.set (.inl rfl) kk y'
                    have hwk : IntKind.i64.wrap ((kk : Int) + 1) = ((kk + 1 : Nat) : Int) := by rw [IntKind.wrap_i64]; omega
                    clear hpd hfr
                    go_wp2_with fail
                    refine ⟨⟨kk + 1, by first | rfl | go_num, by omega, HPadS.out _, HFrS.out _⟩, ?_⟩
                    simp only [intOf]; omega
                  · have nlt : ¬ (kk : Int) < (m : Int) := by omega
                    have HL9 := own_row HL8.out (fun j hj => hfr.out.block j (World.ownsRow.lt HL8.out j hj).2 (fun e => hgbl.out (by rw [← e]; simpa [Value.ownBlock] using hj)))
                    have HU9 := own_row HU8.out (fun j hj => hfr.out.block j (World.ownsRow.lt HU8.out j hj).2 (fun e => hgbu.out (by rw [← e]; simpa [Value.ownBlock] using hj)))
                    have B9 : Below W0.heap.size W0 wr := B8.out.trans (Dd.Fr.low hfr.out W0.heap.size B8.out.size (fun j hj => by rw [hj]; exact hgbW.out))
                    have cl9 := row_at HL9 i (.string s) (by rw [hxs.out i (Nat.le_refl _)]; exact hs1.out)
                    have fl9 := World.ownsRow.frozenAt HL9 i
                    obtain ⟨⟨xs', E1, E2⟩, E3, E4⟩ := END.out _ HL9 HU9 B9 (.string ⟨#[115, 112, 111, 105, 108, 116]⟩)
                    clear hpd hfr HL9 HU9 B9 END
                    go_wp2_with fail
                    refine ⟨⟨i + 1, xs', by omega, by first | rfl | go_num, E1, E2, E3, E4⟩, ?_⟩
                    simp only [intOf]; omega
            · have i1 : ¬ (i : Int) < (N : Int) := by omega
              obtain ⟨c1, c4, c5⟩ := HX.out wr HB.out
              clear HL hxs HU HXN
              go_wp2_with fail
              refine (HE1.out x.name hnm x.at_ x.n hxn wr HB.out).mono ?_
              rintro e w4 ⟨a, m, c, rfl, hcv, hgb, hm, b4⟩
              have B4 : Hid (Below W0.heap.size W0 w4) := HB.out.trans (b4.mono HB.out.size)
              replace hcv := hid hcv
              clear c1 c4 c5 b4 hgb
              obtain ⟨c1, c4, c5⟩ := HX.out w4 B4.out
              go_wp2_with fail
              refine (HE2.out x.name hnm x.at_ x.n hxn w4 B4.out).mono ?_
              rintro e w5 ⟨rfl, b5⟩
              have B5 : Hid (Below W0.heap.size W0 w5) := B4.out.trans (b5.mono B4.out.size)
              have b5' := hid b5
              clear c1 c4 c5 b5
              obtain ⟨c1, c4, c5⟩ := HX.out w5 B5.out
              go_wp2_with fail
              refine (HS1.out x.name hnm w5 B5.out).mono ?_
              rintro e w6 ⟨rfl, b6⟩
              have B6 : Hid (Below W0.heap.size W0 w6) := B5.out.trans (b6.mono B5.out.size)
              have b6' : Hid (Below w4.heap.size w4 w6) := b5'.out.trans (b6.mono b5'.out.size)
              clear c1 c4 c5 b6 b5'
              obtain ⟨c1, c4, c5⟩ := HX.out w6 B6.out
              go_wp2_with fail
              refine (HS2.out x.name hnm w6 B6.out).mono ?_
              rintro e w7 ⟨rfl, b7⟩
              have B7 : Hid (Below W0.heap.size W0 w7) := B6.out.trans (b7.mono B6.out.size)
              have hcv7 := hcv.out w7 (b6'.out.trans (b7.mono b6'.out.size))
              have FIN : Hid (Below w.heap.size w w7) := hb0.out.trans (B7.out.mono hb0.out.size)
              clear c1 c4 c5 b7 hcv b6'
              generalize (rrd R x.name x.at_ x.n).1 = st1 at *
              generalize (rrd R x.name x.at_ x.n).2 = cd1 at *
              generalize (rsz R x.name).1 = z1 at *
              generalize (rsz R x.name).2.1 = z2 at *
              generalize (rsz R x.name).2.2 = z3 at *
              go_wp2_with fail
              go_ret
              exact ⟨by simp, FIN.out⟩
        exact AllReadyH.nil
      exact AllReadyH.nil
    exact AllReadyH.nil
  exact AllReadyH.nil
end Go.Proofs.Ytgffojafdjcdoaa.Qm

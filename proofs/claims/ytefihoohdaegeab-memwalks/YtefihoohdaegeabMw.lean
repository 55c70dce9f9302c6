/- MemWalks walked. -/
import Derived.Test.YtefihoohdaegeabCw
import Derived.Test.YtefihoohdaegeabWo
import Derived.Test.YtefihoohdaegeabBs
namespace Go.Proofs.Ytefihoohdaegeab.Mw
open Go.ChangeShapes Go.WideShapes Go.ChangeAt Go.RowKit Go.Shelf
open Go.Sort (grow)
open Go.Proofs.Ytefihoohdaegeab.Lx (hid)
open Go.Proofs.Ytefihoohdaegeab.Ee (E ze Ents At4)
open Go.Proofs.Ytefihoohdaegeab.Nw (c4)
open Go.Proofs.Ytefihoohdaegeab.Sg
open Go.Proofs.Ytefihoohdaegeab.In
open Go.Proofs.Ytefihoohdaegeab.Fm
open Go.Proofs.Ytefihoohdaegeab.Tb
open Go.Proofs.Ytefihoohdaegeab.Eo
open Go.Proofs.Ytefihoohdaegeab.Et (ents entries_any)
open Go.Proofs.Ytefihoohdaegeab.Cr
open Go.Proofs.Ytefihoohdaegeab.Cw
open Go.Proofs.Ytefihoohdaegeab.Fl
open Go.Proofs.Ytefihoohdaegeab.Pt (region_tail)
open Go.Proofs.Ytefihoohdaegeab.Wk (among_any)
open Go.Proofs.Ytefihoohdaegeab.Wo (works_any)
open Go.Proofs.Ytefihoohdaegeab.Mm (box_below)
open Go.Proofs.Ytefihoohdaegeab.Tr (new_at cell_of size_alloc blk_lt set_of fz_of set_ne)
set_option linter.unusedVariables false
set_option linter.unusedSimpArgs false

theorem ents_get (S : St) (p : Nat) (h1 : 1 ≤ p) (h2 : p ≤ S.ord.length) : (ents S S.ord).getD (p - 1) ze = entN S.ns (nu S.ord p) := by
  unfold ents nu
  rw [if_neg (by omega), List.getD_eq_getElem?_getD, List.getElem?_map, List.getElem?_eq_getElem (by omega), List.getD_eq_getElem?_getD, List.getElem?_eq_getElem (by omega)]
  rfl
theorem ents_len (S : St) : (ents S S.ord).length = S.ord.length := by simp [ents]
theorem ents_ok {S : St} (W : Wf S) : ∀ e ∈ ents S S.ord, e.ok := by
  intro e he
  unfold ents at he
  obtain ⟨n, hn, rfl⟩ := List.mem_map.1 he
  exact (Gt.entN_ok W ((W.gd.mem n).1 hn).2).1
set_option maxHeartbeats 8000000 in
set_option maxRecDepth 100000 in
theorem walks_any (a : Option Addr) (len cap : Nat) (xs : List A6) (turn : Int) (w : World) (H : Acts w a len cap xs) (hlen : len ≤ 2199023255552) :
    Calls Try.prog 3 #[.slice a len cap, .int .i64 turn] w fun e w' => e = .returned (.bool true) ∧ Below w.heap.size w w' := by
  have HW := hid (works_any w)
  replace H := hid H
  go_enter Try.func3, Try.ntmps3
  go_wp2_with fail
  refine HW.out.mono ?_
  rintro e w1 ⟨rfl, b1⟩
  have HF := hid (filled_any a len cap xs 0 w1 (H.out.later b1) hlen)
  have B1 := hid b1
  clear b1 HW
  go_wp2_with fail
  refine HF.out.mono ?_
  rintro e w2 ⟨g, gb, P, rfl, T2, R2, nP, hgb, b2⟩
  have B2 := hid (B1.out.trans (b2.mono B1.out.size))
  have hWf := Bs.fil_wf 0 xs
  generalize (fil 0 xs).1 = S at *
  have HE := hid (entries_any _ g P S w2 T2)
  have z12 : Hid (w1.heap.size ≤ w2.heap.size) := b2.size
  replace T2 := hid T2
  clear R2 nP hgb b2 HF
  go_wp2_with fail
  refine HE.out.mono ?_
  rintro e w3 ⟨v, rfl, o3, b3⟩
  obtain ⟨base, hbase⟩ : ∃ n, n = w1.heap.size := ⟨_, rfl⟩
  have T3 := T2.out.later b3
  obtain ⟨gl, bl, gs, bm, vt, X3⟩ := T3
  have HC := hid (cursor_any g gl gs bm S w3 X3.c)
  obtain ⟨la, lc, rfl, E3⟩ := o3.ents (ents_ok hWf)
  rw [ents_len] at E3 ⊢
  have B3 := hid (B2.out.trans (b3.mono B2.out.size))
  replace X3 := hid X3
  replace E3 := hid E3
  replace hbase := hid hbase
  clear b3 o3 HE T2
  go_wp2_with fail
  refine HC.out.mono ?_
  rintro e W8 ⟨rfl, K8, b8⟩
  obtain ⟨gc, hgc⟩ : ∃ n, n = w3.heap.size := ⟨_, rfl⟩
  rw [← hgc] at K8 ⊢
  obtain ⟨n, hn⟩ : ∃ n, n = S.ord.length := ⟨_, rfl⟩
  have hn20 : n ≤ 1048576 := by rw [hn, hWf.gd.len]; exact hWf.cap
  have ALL : Hid (∀ W, Fp (fun j => j = gc) W8 W → SL W w1.heap.size gl bl 1048576 S.ns S.ord ∧ Ents W la n lc (ents S S.ord) ∧ Below w.heap.size w W) := fun W f => by
    have bb : Below w3.heap.size w3 W := b8.trans ⟨f.os, f.tape, f.output, f.size, fun j hj => f.block j (Nat.lt_of_lt_of_le hj b8.size) (fun e => by rw [e, hgc] at hj; omega)⟩
    exact ⟨X3.out.l.later bb, by rw [hn]; exact E3.out.later bb, B3.out.trans (bb.mono B3.out.size)⟩
  have hw8 : Hid (w.heap.size ≤ W8.heap.size) := Nat.le_trans B3.out.size b8.size
  rw [← hn]
  have HAm : Hid (∀ W, Calls Try.prog 9 #[.int .i64 turn, .int .i64 ((n : Int) + 1)] W fun e w' => e = .returned (.int .i64 (turn % ((n : Int) + 1))) ∧ w' = W) := fun W => by
    have := among_any turn (n + 1) W (by omega)
    simpa using this
  -- the calls of the cursor, by places
  have NX : Hid (∀ W p, Fp (fun j => j = gc) W8 W → Cb W gc gl (atP S.ord p) → p ≤ n + 1 → Calls Try.prog 11 #[.pointer (some ⟨gc, 0, none⟩)] W fun e w' => e = .returned (.bool (decide (p < n))) ∧ Cb w' gc gl (atP S.ord (nxt S.ord p)) ∧ Fp (fun j => j = gc) W8 w') := fun W p f h hp => by
    rw [hn]
    refine (next_any w1.heap.size gc gl bl S.ns S.ord p W hWf.gd (ALL.out W f).1 h (by omega)).mono ?_
    rintro e w' ⟨h1, h2, h3⟩
    exact ⟨h1, h2, f.trans (h3.wide (fun j _ hj => .inl hj))⟩
  have PV : Hid (∀ W p, Fp (fun j => j = gc) W8 W → Cb W gc gl (atP S.ord p) → p ≤ n + 1 → Calls Try.prog 12 #[.pointer (some ⟨gc, 0, none⟩)] W fun e w' => e = .returned (.bool (decide (2 ≤ p))) ∧ Cb w' gc gl (atP S.ord (p - 1)) ∧ Fp (fun j => j = gc) W8 w') := fun W p f h hp => by
    refine (prev_any w1.heap.size gc gl bl S.ns S.ord p W hWf.gd (ALL.out W f).1 h (by omega)).mono ?_
    rintro e w' ⟨h1, h2, h3⟩
    exact ⟨h1, h2, f.trans (h3.wide (fun j _ hj => .inl hj))⟩
  have HR : Hid (∀ W p, Fp (fun j => j = gc) W8 W → Cb W gc gl (atP S.ord p) → p ≤ n + 1 → Calls Try.prog 10 #[.pointer (some ⟨gc, 0, none⟩)] W fun e w' => e = .returned (.tuple #[.agg (c4 (entN S.ns (nu S.ord p))), .bool (decide (1 ≤ p ∧ p ≤ n))]) ∧ Below W.heap.size W w') := fun W p f h hp => by
    rw [hn]
    exact here_at w1.heap.size gc gl bl S p W hWf (ALL.out W f).1 h (by omega)
  have ROW : Hid (∀ W p, Fp (fun j => j = gc) W8 W → 1 ≤ p → p ≤ n → ∃ lb lo, la = some ⟨lb, lo, none⟩ ∧ At4 W lb (lo + (p - 1) * 4) (entN S.ns (nu S.ord p))) := fun W p f h1 h2 => by
    obtain ⟨_, hE, _⟩ := ALL.out W f
    cases la with
    | none => exact absurd (hE.2.2.1 rfl).1 (by omega)
    | some ad =>
      obtain ⟨lb, lo, ls⟩ := ad
      obtain ⟨rfl, hh⟩ := hE.2.2.2.2 lb lo ls rfl (by omega)
      refine ⟨lb, lo, rfl, ?_⟩
      have := hh (p - 1) (by omega)
      rwa [ents_get S p h1 (by omega)] at this
  have K0 : Hid (Cb W8 gc gl (atP S.ord 0)) := K8
  have nx1 : Hid (∀ p, p ≤ n → nxt S.ord p = p + 1) := fun p hp => by unfold nxt; rw [if_pos (by omega)]
  have nx2 : Hid (nxt S.ord (n + 1) = n + 1) := by show _ = _; unfold nxt; rw [if_neg (by omega)]
  generalize atP S.ord = AT at *
  generalize nu S.ord = NU at *
  generalize nxt S.ord = NT at *
  replace hgc := hid hgc
  replace hn := hid hn
  replace hWf := hid hWf
  clear K8 b8 HC X3 E3 B3 B2 B1 H
  go_wp2_with fail
  refine (HAm.out _).mono ?_
  rintro e w9 ⟨rfl, rfl⟩
  generalize turn % ((n : Int) + 1) = tt at *
  clear HAm
  go_wp2_with fail
  go_loopw [9] (fun iv wr => ∃ i : Nat, i ≤ n ∧ iv = .int .i64 (i : Int) ∧ Hid (Cb wr gc gl (AT i)) ∧ Hid (Fp (fun j => j = gc) w9 wr))
    (fun iv _ => n - (intOf iv).toNat)
  case atStart => exact ⟨0, Nat.zero_le _, rfl, K0, Fp.refl _ _⟩
  case round =>
    obtain ⟨i, hi, rfl, HK, HB⟩ := hrel
    by_cases hlt : i < n
    · have hHere := HR.out wr i HB.out HK.out (by omega)
      obtain ⟨⟨y1, y2, y3, y4⟩, hy⟩ : ∃ e : E, e = entN S.ns (NU i) := ⟨_, rfl⟩
      rw [← hy] at hHere
      unfold c4 at hHere
      dsimp only at hHere
      replace hHere := hid hHere
      have i1 : (i : Int) < (n : Int) := by omega
      have i2 : ((i + 1 : Nat) : Int) ≤ 1048576 := by omega
      by_cases hi0 : i = 0
      · subst hi0
        rw [show decide (1 ≤ 0 ∧ 0 ≤ n) = false by simp] at hHere
        go_wp2_with fail
        refine hHere.out.mono ?_
        rintro e w3 ⟨rfl, b3⟩
        obtain ⟨W4, hW4⟩ : ∃ W, W = w3.alloc (.cells #[.string y1, .int .u64 y2, .int .i64 y3, .string y4] 35) := ⟨_, rfl⟩
        have b4 : Below wr.heap.size wr W4.drew := by rw [hW4]; exact (b3.alloc b3.size _).drew
        have HN := NX.out W4.drew 0 (HB.out.below b4) (HK.out.later b4) (by omega)
        rw [show decide (0 < n) = true by simpa using hlt, nx1.out 0 (by omega)] at HN
        replace HN := hid HN
        replace hW4 := hid hW4
        clear b3 b4
        go_wp2_with fail
        rw [← hW4.out]
        refine wp_region_any (by kernel_rfl) ?_
        change wpAny _ _ _ _ _ _ _ (World.drew _)
        refine wpAny_take (i := 0) (v := ?v1) rfl (by kernel_rfl) (by kernel_rfl) (by kernel_rfl) (fun _ _ _ h => h) (Or.inl ⟨by rfl, ?h1⟩) ?_
        case h1 => (intro w; go_simp; try (with_reducible rfl))
        go_simp
        refine wpAny_take (i := 1) (v := ?v2) rfl (by kernel_rfl) (by kernel_rfl) (by kernel_rfl) (fun _ _ _ h => h) (Or.inl ⟨by rfl, ?h2⟩) ?_
        case h2 => (intro w; go_simp; try (with_reducible rfl))
        go_simp
        refine wpAny_take (i := 2) (v := ?v3) rfl (by kernel_rfl) (by kernel_rfl) (by kernel_rfl) (fun _ _ _ h => h) (Or.inl ⟨by rfl, ?h3⟩) ?_
        case h3 => (intro w; go_simp; try (with_reducible rfl))
        go_simp
        refine wpAny_take (i := 3) (v := ?v4) rfl (by kernel_rfl) (by kernel_rfl) (by kernel_rfl) (fun _ _ _ h => h) (Or.inl ⟨by rfl, ?h4⟩) ?_
        case h4 => (intro w; go_simp; try (with_reducible rfl))
        go_simp
        refine wpAny_take (i := 4) (v := ?v5) rfl (by kernel_rfl) (by kernel_rfl) (by kernel_rfl) (fun _ _ _ h => h) (Or.inl ⟨by rfl, ?h5⟩) ?_
        case h5 => (intro w; go_simp; try (with_reducible rfl))
        go_simp
        refine wpAny_take (i := 5) (v := ?v6) rfl (by kernel_rfl) (by kernel_rfl) (by kernel_rfl) (fun _ _ _ h => h) (Or.inl ⟨by rfl, ?h6⟩) ?_
        case h6 => (intro w; go_simp; try (with_reducible rfl))
        go_simp
        refine wpAny_take (i := 6) (v := ?v7) rfl (by kernel_rfl) (by kernel_rfl) (by kernel_rfl) (fun _ _ _ h => h) (Or.inl ⟨by rfl, ?h7⟩) ?_
        case h7 => (intro w; go_simp; try (with_reducible rfl))
        go_simp
        refine wpAny_take (i := 7) (v := undef) rfl (by kernel_rfl) (by kernel_rfl) (by kernel_rfl) (fun _ _ _ h => h) (Or.inr ⟨by rfl, rfl⟩) ?_
        go_simp
        refine wpAny_take (i := 8) (v := undef) rfl (by kernel_rfl) (by kernel_rfl) (by kernel_rfl) (fun _ _ _ h => h) (Or.inr ⟨by rfl, rfl⟩) ?_
        go_simp
        refine wpAny_take (i := 9) (v := undef) rfl (by kernel_rfl) (by kernel_rfl) (by kernel_rfl) (fun _ _ _ h => h) (Or.inr ⟨by rfl, rfl⟩) ?_
        go_simp
        refine wpAny_take (i := 10) (v := undef) rfl (by kernel_rfl) (by kernel_rfl) (by kernel_rfl) (fun _ _ _ h => h) (Or.inr ⟨by rfl, rfl⟩) ?_
        go_simp
        refine wpAny_take (i := 11) (v := undef) rfl (by kernel_rfl) (by kernel_rfl) (by kernel_rfl) (fun _ _ _ h => h) (Or.inr ⟨by rfl, rfl⟩) ?_
        go_simp
        refine wpAny_take (i := 12) (v := undef) rfl (by kernel_rfl) (by kernel_rfl) (by kernel_rfl) (fun _ _ _ h => h) (Or.inr ⟨by rfl, rfl⟩) ?_
        go_simp
        refine wpAny_take (i := 13) (v := undef) rfl (by kernel_rfl) (by kernel_rfl) (by kernel_rfl) (fun _ _ _ h => h) (Or.inr ⟨by rfl, rfl⟩) ?_
        go_simp
        refine wpAny_take (i := 14) (v := ?v8) rfl (by kernel_rfl) (by kernel_rfl) (by kernel_rfl) (fun _ _ _ h => h) (Or.inl ⟨by rfl, ?h8⟩) ?_
        case h8 => (intro w; go_simp; try (with_reducible rfl))
        go_simp
        refine wpAny_take (i := 15) (v := ?v9) rfl (by kernel_rfl) (by kernel_rfl) (by kernel_rfl) (fun _ _ _ h => h) (Or.inl ⟨by rfl, ?h9⟩) ?_
        case h9 => (intro w; go_simp; try (with_reducible rfl))
        go_simp
        refine wpAny_take (i := 16) (v := ?v10) rfl (by kernel_rfl) (by kernel_rfl) (by kernel_rfl) (fun _ _ _ h => h) (Or.inl ⟨by rfl, ?h10⟩) ?_
        case h10 => (intro w; go_simp; try (with_reducible rfl))
        go_simp
        refine wpAny_take (i := 17) (v := ?v11) rfl (by kernel_rfl) (by kernel_rfl) (by kernel_rfl) (fun _ _ _ h => h) (Or.inl ⟨by rfl, ?h11⟩) ?_
        case h11 => (intro w; go_simp; try (with_reducible rfl))
        go_simp
        refine wpAny_ready (rs := [18]) (by kernel_rfl) (by simp) ?_
        refine AllReady.cons rfl (fun K hK => ?_) ?_
        · go_simp
          go_wp2_with fail
          refine HN.out.mono ?_
          rintro e w5 ⟨rfl, k5, f5⟩
          go_wp2_with fail
          refine wpAny_take (i := 19) (v := ?v12) rfl (by kernel_rfl) (by kernel_rfl) (by kernel_rfl) (fun _ _ _ h => h) (Or.inl ⟨by rfl, ?h12⟩) ?_
          case h12 => (intro w; go_simp; try (with_reducible rfl))
          go_simp
          refine wpAny_take (i := 20) (v := ?v13) rfl (by kernel_rfl) (by kernel_rfl) (by kernel_rfl) (fun _ _ _ h => h) (Or.inl ⟨by rfl, ?h13⟩) ?_
          case h13 => (intro w; go_simp; try (with_reducible rfl))
          go_simp
          refine wpAny_done (by kernel_rfl) ?_ _
          replace k5 := hid k5
          replace f5 := hid f5
          go_wp2_with fail
          refine ⟨⟨1, by omega, by first | rfl | go_num, k5, f5⟩, ?_⟩
          simp only [intOf]; omega
        exact AllReady.nil
      · obtain ⟨lb, lo, rfl, r0⟩ := ROW.out wr i HB.out (by omega) (by omega)
        rw [← hy] at r0
        rw [show decide (1 ≤ i ∧ i ≤ n) = true by simp; omega] at hHere
        have hgt : (0 : Int) < (i : Int) := by omega
        have hgn : 0 < i := by omega
        have hg1 : (1 : Int) ≤ (i : Int) := by omega
        have hwi : IntKind.i64.wrap ((i : Int) - 1) = (i : Int) - 1 := by rw [IntKind.wrap_i64]; omega
        have hgd : decide ((0 : Int) < (i : Int)) = true := decide_eq_true hgt
        have hgd2 : decide (0 < i) = true := decide_eq_true hgn
        have hi1 : ((i : Int) - 1) < (n : Int) := by omega
        have hi2 : (0 : Int) ≤ (i : Int) - 1 := by omega
        have hix : ((i : Int) - 1).toNat = i - 1 := by omega
        go_wp2_with fail
        refine hHere.out.mono ?_
        rintro e w3 ⟨rfl, b3⟩
        obtain ⟨W4, hW4⟩ : ∃ W, W = w3.alloc (.cells #[.string y1, .int .u64 y2, .int .i64 y3, .string y4] 35) := ⟨_, rfl⟩
        have b4 : Below wr.heap.size wr W4.drew := by rw [hW4]; exact (b3.alloc b3.size _).drew
        have HN := NX.out W4.drew i (HB.out.below b4) (HK.out.later b4) (by omega)
        rw [show decide (i < n) = true by simpa using hlt, nx1.out i (by omega)] at HN
        obtain ⟨q0, q1, q2, q3⟩ := r0.later b4
        have ge : ∃ ge, ge = w3.heap.size := ⟨_, rfl⟩
        obtain ⟨ge, hge⟩ := ge
        have k4 : W4.heap[ge]? = some (.cells #[.string y1, .int .u64 y2, .int .i64 y3, .string y4] 35) := by rw [hW4, hge]; exact new_at _ _
        have u0 : W4.drew.cell? ⟨ge, 0, none⟩ = some (.string y1) := cell_of k4 0 _ rfl
        have u1 : W4.drew.cell? ⟨ge, 1, none⟩ = some (.int .u64 y2) := cell_of k4 1 _ rfl
        have u2 : W4.drew.cell? ⟨ge, 2, none⟩ = some (.int .i64 y3) := cell_of k4 2 _ rfl
        have u3 : W4.drew.cell? ⟨ge, 3, none⟩ = some (.string y4) := cell_of k4 3 _ rfl
        dsimp only at q0 q1 q2 q3
        replace HN := hid HN
        replace hW4 := hid hW4
        replace hge := hid hge
        clear b3 b4 k4 r0
        go_wp2_with fail
        rw [← hW4.out, ← hge.out]
        refine wp_region_any (by kernel_rfl) ?_
        change wpAny _ _ _ _ _ _ _ (World.drew _)
        refine wpAny_take (i := 0) (v := ?v14) rfl (by kernel_rfl) (by kernel_rfl) (by kernel_rfl) (fun _ _ _ h => h) (Or.inl ⟨by rfl, ?h14⟩) ?_
        case h14 => (intro w; go_simp; try (with_reducible rfl))
        go_simp
        refine wpAny_take (i := 1) (v := ?v15) rfl (by kernel_rfl) (by kernel_rfl) (by kernel_rfl) (fun _ _ _ h => h) (Or.inl ⟨by rfl, ?h15⟩) ?_
        case h15 => (intro w; go_simp; try (with_reducible rfl))
        go_simp
        refine wpAny_take (i := 2) (v := ?v16) rfl (by kernel_rfl) (by kernel_rfl) (by kernel_rfl) (fun _ _ _ h => h) (Or.inl ⟨by rfl, ?h16⟩) ?_
        case h16 => (intro w; go_simp; try (with_reducible rfl))
        go_simp
        refine wpAny_take (i := 3) (v := ?v17) rfl (by kernel_rfl) (by kernel_rfl) (by kernel_rfl) (fun _ _ _ h => h) (Or.inl ⟨by rfl, ?h17⟩) ?_
        case h17 => (intro w; go_simp; try (with_reducible rfl))
        go_simp
        refine wpAny_take (i := 4) (v := ?v18) rfl (by kernel_rfl) (by kernel_rfl) (by kernel_rfl) (fun _ _ _ h => h) (Or.inl ⟨by rfl, ?h18⟩) ?_
        case h18 => (intro w; go_simp; try (with_reducible rfl))
        go_simp
        refine wpAny_take (i := 5) (v := ?v19) rfl (by kernel_rfl) (by kernel_rfl) (by kernel_rfl) (fun _ _ _ h => h) (Or.inl ⟨by rfl, ?h19⟩) ?_
        case h19 => (intro w; go_simp; try (with_reducible rfl))
        go_simp
        refine wpAny_take (i := 6) (v := ?v20) rfl (by kernel_rfl) (by kernel_rfl) (by kernel_rfl) (fun _ _ _ h => h) (Or.inl ⟨by rfl, ?h20⟩) ?_
        case h20 => (intro w; go_simp; try (with_reducible rfl))
        go_simp
        refine wpAny_take (i := 8) (v := ?v21) rfl (by kernel_rfl) (by kernel_rfl) (by kernel_rfl) (fun _ _ _ h => h) (Or.inl ⟨by rfl, ?h21⟩) ?_
        case h21 => (intro w; go_simp; try (with_reducible rfl))
        go_simp
        refine wpAny_take (i := 9) (v := ?v22) rfl (by kernel_rfl) (by kernel_rfl) (by kernel_rfl) (fun _ _ _ h => h) (Or.inl ⟨by rfl, ?h22⟩) ?_
        case h22 => (intro w; go_simp; try (with_reducible rfl))
        go_simp
        refine wpAny_take (i := 10) (v := ?v23) rfl (by kernel_rfl) (by kernel_rfl) (by kernel_rfl) (fun _ _ _ h => h) (Or.inl ⟨by rfl, ?h23⟩) ?_
        case h23 => (intro w; go_simp; try (with_reducible rfl))
        go_simp
        refine wpAny_take (i := 11) (v := ?v24) rfl (by kernel_rfl) (by kernel_rfl) (by kernel_rfl) (fun _ _ _ h => h) (Or.inl ⟨by rfl, ?h24⟩) ?_
        case h24 => (intro w; go_simp; try (with_reducible rfl))
        go_simp
        refine wpAny_ready (rs := [7, 12]) (by kernel_rfl) (by simp) ?_
        refine AllReady.cons rfl (fun K hK => ?_) ?_
        · go_simp
          refine hK _ _ ?_
          clear hK K
          refine wpAny_ready (rs := [12]) (by kernel_rfl) (by simp) ?_
          refine AllReady.cons rfl (fun K hK => ?_) ?_
          · go_simp
            refine hK _ _ ?_
            clear hK K
            refine wpAny_take (i := 13) (v := ?v25) rfl (by kernel_rfl) (by kernel_rfl) (by kernel_rfl) (fun _ _ _ h => h) (Or.inl ⟨by rfl, ?h25⟩) ?_
            case h25 => (intro w; go_simp; try (with_reducible rfl))
            go_simp
            refine wpAny_take (i := 14) (v := ?v26) rfl (by kernel_rfl) (by kernel_rfl) (by kernel_rfl) (fun _ _ _ h => h) (Or.inl ⟨by rfl, ?h26⟩) ?_
            case h26 => (intro w; go_simp; try (with_reducible rfl))
            go_simp
            refine wpAny_take (i := 15) (v := ?v27) rfl (by kernel_rfl) (by kernel_rfl) (by kernel_rfl) (fun _ _ _ h => h) (Or.inl ⟨by rfl, ?h27⟩) ?_
            case h27 => (intro w; go_simp; try (with_reducible rfl))
            go_simp
            refine wpAny_take (i := 16) (v := ?v28) rfl (by kernel_rfl) (by kernel_rfl) (by kernel_rfl) (fun _ _ _ h => h) (Or.inl ⟨by rfl, ?h28⟩) ?_
            case h28 => (intro w; go_simp; try (with_reducible rfl))
            go_simp
            refine wpAny_take (i := 17) (v := ?v29) rfl (by kernel_rfl) (by kernel_rfl) (by kernel_rfl) (fun _ _ _ h => h) (Or.inl ⟨by rfl, ?h29⟩) ?_
            case h29 => (intro w; go_simp; try (with_reducible rfl))
            go_simp
            refine wpAny_ready (rs := [18]) (by kernel_rfl) (by simp) ?_
            refine AllReady.cons rfl (fun K hK => ?_) ?_
            · go_simp
              go_wp2_with fail
              refine HN.out.mono ?_
              rintro e w5 ⟨rfl, k5, f5⟩
              go_wp2_with fail
              refine wpAny_take (i := 19) (v := ?v30) rfl (by kernel_rfl) (by kernel_rfl) (by kernel_rfl) (fun _ _ _ h => h) (Or.inl ⟨by rfl, ?h30⟩) ?_
              case h30 => (intro w; go_simp; try (with_reducible rfl))
              go_simp
              refine wpAny_take (i := 20) (v := ?v31) rfl (by kernel_rfl) (by kernel_rfl) (by kernel_rfl) (fun _ _ _ h => h) (Or.inl ⟨by rfl, ?h31⟩) ?_
              case h31 => (intro w; go_simp; try (with_reducible rfl))
              go_simp
              refine wpAny_done (by kernel_rfl) ?_ _
              by_cases htt : (i : Int) = tt
              · have ht2 : ((i : Int) == tt) = true := by simpa using htt
                replace htt := hid htt
                have HP := PV.out w5 (i + 1) f5 k5 (by omega)
                rw [show decide (2 ≤ i + 1) = true by simp; omega, show i + 1 - 1 = i by omega] at HP
                replace HP := hid HP
                clear k5 f5
                go_wp2_with fail
                refine HP.out.mono ?_
                rintro e w6 ⟨rfl, k6, f6⟩
                have HN6 := NX.out w6 i f6 k6 (by omega)
                rw [show decide (i < n) = true by simpa using hlt, nx1.out i (by omega)] at HN6
                replace HN6 := hid HN6
                clear k6 f6
                go_wp2_with fail
                refine HN6.out.mono ?_
                rintro e w7 ⟨rfl, k7, f7⟩
                replace k7 := hid k7
                replace f7 := hid f7
                go_wp2_with fail
                refine ⟨⟨i + 1, by omega, by first | rfl | go_num, k7, f7⟩, ?_⟩
                simp only [intOf]; omega
              · have ht2 : ((i : Int) == tt) = false := by simpa using htt
                replace htt := hid htt
                replace k5 := hid k5
                replace f5 := hid f5
                go_wp2_with fail
                refine ⟨⟨i + 1, by omega, by first | rfl | go_num, k5, f5⟩, ?_⟩
                simp only [intOf]; omega
            exact AllReady.nil
          exact AllReady.nil
        refine AllReady.cons rfl (fun K hK => ?_) ?_
        · go_simp
          refine hK _ _ ?_
          clear hK K
          refine wpAny_ready (rs := [7]) (by kernel_rfl) (by simp) ?_
          refine AllReady.cons rfl (fun K hK => ?_) ?_
          · go_simp
            refine hK _ _ ?_
            clear hK K
            refine wpAny_take (i := 13) (v := ?v32) rfl (by kernel_rfl) (by kernel_rfl) (by kernel_rfl) (fun _ _ _ h => h) (Or.inl ⟨by rfl, ?h32⟩) ?_
            case h32 => (intro w; go_simp; try (with_reducible rfl))
            go_simp
            refine wpAny_take (i := 14) (v := ?v33) rfl (by kernel_rfl) (by kernel_rfl) (by kernel_rfl) (fun _ _ _ h => h) (Or.inl ⟨by rfl, ?h33⟩) ?_
            case h33 => (intro w; go_simp; try (with_reducible rfl))
            go_simp
            refine wpAny_take (i := 15) (v := ?v34) rfl (by kernel_rfl) (by kernel_rfl) (by kernel_rfl) (fun _ _ _ h => h) (Or.inl ⟨by rfl, ?h34⟩) ?_
            case h34 => (intro w; go_simp; try (with_reducible rfl))
            go_simp
            refine wpAny_take (i := 16) (v := ?v35) rfl (by kernel_rfl) (by kernel_rfl) (by kernel_rfl) (fun _ _ _ h => h) (Or.inl ⟨by rfl, ?h35⟩) ?_
            case h35 => (intro w; go_simp; try (with_reducible rfl))
            go_simp
            refine wpAny_take (i := 17) (v := ?v36) rfl (by kernel_rfl) (by kernel_rfl) (by kernel_rfl) (fun _ _ _ h => h) (Or.inl ⟨by rfl, ?h36⟩) ?_
            case h36 => (intro w; go_simp; try (with_reducible rfl))
            go_simp
            refine wpAny_ready (rs := [18]) (by kernel_rfl) (by simp) ?_
            refine AllReady.cons rfl (fun K hK => ?_) ?_
            · go_simp
              go_wp2_with fail
              refine HN.out.mono ?_
              rintro e w5 ⟨rfl, k5, f5⟩
              go_wp2_with fail
              refine wpAny_take (i := 19) (v := ?v37) rfl (by kernel_rfl) (by kernel_rfl) (by kernel_rfl) (fun _ _ _ h => h) (Or.inl ⟨by rfl, ?h37⟩) ?_
              case h37 => (intro w; go_simp; try (with_reducible rfl))
              go_simp
              refine wpAny_take (i := 20) (v := ?v38) rfl (by kernel_rfl) (by kernel_rfl) (by kernel_rfl) (fun _ _ _ h => h) (Or.inl ⟨by rfl, ?h38⟩) ?_
              case h38 => (intro w; go_simp; try (with_reducible rfl))
              go_simp
              refine wpAny_done (by kernel_rfl) ?_ _
              by_cases htt : (i : Int) = tt
              · have ht2 : ((i : Int) == tt) = true := by simpa using htt
                replace htt := hid htt
                have HP := PV.out w5 (i + 1) f5 k5 (by omega)
                rw [show decide (2 ≤ i + 1) = true by simp; omega, show i + 1 - 1 = i by omega] at HP
                replace HP := hid HP
                clear k5 f5
                go_wp2_with fail
                refine HP.out.mono ?_
                rintro e w6 ⟨rfl, k6, f6⟩
                have HN6 := NX.out w6 i f6 k6 (by omega)
                rw [show decide (i < n) = true by simpa using hlt, nx1.out i (by omega)] at HN6
                replace HN6 := hid HN6
                clear k6 f6
                go_wp2_with fail
                refine HN6.out.mono ?_
                rintro e w7 ⟨rfl, k7, f7⟩
                replace k7 := hid k7
                replace f7 := hid f7
                go_wp2_with fail
                refine ⟨⟨i + 1, by omega, by first | rfl | go_num, k7, f7⟩, ?_⟩
                simp only [intOf]; omega
              · have ht2 : ((i : Int) == tt) = false := by simpa using htt
                replace htt := hid htt
                replace k5 := hid k5
                replace f5 := hid f5
                go_wp2_with fail
                refine ⟨⟨i + 1, by omega, by first | rfl | go_num, k5, f5⟩, ?_⟩
                simp only [intOf]; omega
            exact AllReady.nil
          exact AllReady.nil
        exact AllReady.nil
    · have hin : i = n := by omega
      subst hin
      have HN1 := NX.out wr i HB.out HK.out (by omega)
      rw [show decide (i < i) = false by simp, nx1.out i (Nat.le_refl _)] at HN1
      replace HN1 := hid HN1
      go_wp2_with fail
      refine HN1.out.mono ?_
      rintro e w3 ⟨rfl, k3, f3⟩
      have HN2 := NX.out w3 (i + 1) f3 k3 (by omega)
      rw [show decide (i + 1 < i) = false by simp, nx2.out] at HN2
      replace HN2 := hid HN2
      clear k3 f3
      go_wp2_with fail
      refine HN2.out.mono ?_
      rintro e w4 ⟨rfl, k4, f4⟩
      replace k4 := hid k4
      replace f4 := hid f4
      clear HN1 HN2 HK HB
      go_wp2_with fail
      go_loopw [12] (fun iv wr => ∃ k : Nat, k ≤ i ∧ iv = .int .i64 ((k : Int) - 1) ∧ Hid (Cb wr gc gl (AT (k + 1))) ∧ Hid (Fp (fun j => j = gc) w9 wr))
        (fun iv _ => (intOf iv + 1).toNat)
      case atStart => exact ⟨i, Nat.le_refl _, by first | rfl | go_num, k4, f4⟩
      case round =>
        obtain ⟨k, hk, rfl, HK, HB⟩ := hrel
        cases k with
        | zero =>
          have HP := PV.out _ 1 HB.out HK.out (by omega)
          rw [show decide (2 ≤ 1) = false by simp, show 1 - 1 = 0 from rfl] at HP
          replace HP := hid HP
          go_wp2_with fail
          refine HP.out.mono ?_
          rintro e w5 ⟨rfl, k5, f5⟩
          have HN := NX.out w5 0 f5 k5 (by omega)
          replace HN := hid HN
          clear k5 f5
          go_wp2_with fail
          refine HN.out.mono ?_
          rintro e w6 ⟨rfl, k6, f6⟩
          have BF := hid (ALL.out w6 f6).2.2
          clear k6 f6
          go_wp2_with fail
          go_ret
          refine ⟨?_, BF.out⟩
          by_cases h0 : 0 < i
          · have h0' : (0 : Int) < (i : Int) := by omega
            first | rfl | simp [h0, h0']
          · have h0' : ¬ (0 : Int) < (i : Int) := by omega
            first | rfl | simp [h0, h0']
        | succ k =>
          have HP := PV.out _ (k + 1 + 1) HB.out HK.out (by omega)
          rw [show decide (2 ≤ k + 1 + 1) = true by simp, show k + 1 + 1 - 1 = k + 1 by omega] at HP
          replace HP := hid HP
          have hk1 : (((k + 1 : Nat) : Int)) - 1 = (k : Int) := by omega
          rw [hk1]
          clear hk1
          have hk2 : (0 : Int) ≤ (k : Int) := by omega
          have hk3 : (k : Int) < (i : Int) := by omega
          go_wp2_with fail
          refine HP.out.mono ?_
          rintro e w5 ⟨rfl, k5, f5⟩
          have hHere := HR.out w5 (k + 1) f5 k5 (by omega)
          obtain ⟨⟨y1, y2, y3, y4⟩, hy⟩ : ∃ e : E, e = entN S.ns (NU (k + 1)) := ⟨_, rfl⟩
          obtain ⟨lb, lo, rfl, r0⟩ := ROW.out w5 (k + 1) f5 (by omega) (by omega)
          rw [← hy] at hHere r0
          unfold c4 at hHere
          dsimp only at hHere
          rw [show decide (1 ≤ k + 1 ∧ k + 1 ≤ i) = true by simp; omega] at hHere
          rw [show k + 1 - 1 = k by omega] at r0
          replace hHere := hid hHere
          replace k5 := hid k5
          replace f5 := hid f5
          go_wp2_with fail
          refine hHere.out.mono ?_
          rintro e w6 ⟨rfl, b6⟩
          obtain ⟨W7, hW7⟩ : ∃ W, W = w6.alloc (.cells #[.string y1, .int .u64 y2, .int .i64 y3, .string y4] 35) := ⟨_, rfl⟩
          have b7 : Below w5.heap.size w5 W7 := by rw [hW7]; exact b6.alloc b6.size _
          have k7 := hid (k5.out.later b7)
          have f7 := hid (f5.out.below b7)
          obtain ⟨q0, q1, q2, q3⟩ := r0.later b7
          obtain ⟨ge, hge⟩ : ∃ ge, ge = w6.heap.size := ⟨_, rfl⟩
          have ke : W7.heap[ge]? = some (.cells #[.string y1, .int .u64 y2, .int .i64 y3, .string y4] 35) := by rw [hW7, hge]; exact new_at _ _
          have u0 := cell_of ke 0 (.string y1) rfl
          have u1 := cell_of ke 1 (.int .u64 y2) rfl
          have u2 := cell_of ke 2 (.int .i64 y3) rfl
          have u3 := cell_of ke 3 (.string y4) rfl
          dsimp only at q0 q1 q2 q3
          replace hW7 := hid hW7
          replace hge := hid hge
          clear b6 b7 ke r0 hHere HP
          go_wp2_with fail
          rw [← hW7.out, ← hge.out]
          go_quiet (fail)
          have kq := hid (k7.out.later (Li.drewN_below W7 nq))
          have fq := hid (f7.out.below (Li.drewN_below W7 nq))
          go_wp2_with fail
          refine ⟨⟨k, by omega, by first | rfl | go_num, kq, fq⟩, ?_⟩
          simp only [intOf]; omega
end Go.Proofs.Ytefihoohdaegeab.Mw

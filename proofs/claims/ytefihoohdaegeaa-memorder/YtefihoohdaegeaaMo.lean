/- MemOrder walked. -/
import Derived.Test.YtefihoohdaegeaaOg
import Derived.Test.YtefihoohdaegeaaWo
import Derived.Test.YtefihoohdaegeaaGu
namespace Go.Proofs.Ytefihoohdaegeaa.Mo
open Go.ChangeShapes Go.WideShapes Go.ChangeAt Go.RowKit Go.Shelf
open Go.Sort (grow)
open Go.Proofs.Ytefihoohdaegeaa.Lx
open Go.Proofs.Ytefihoohdaegeaa.Ee (E ze Ents)
open Go.Proofs.Ytefihoohdaegeaa.Nw (c4 text_eq text_ne)
open Go.Proofs.Ytefihoohdaegeaa.Fm
open Go.Proofs.Ytefihoohdaegeaa.Tb
open Go.Proofs.Ytefihoohdaegeaa.Eo
open Go.Proofs.Ytefihoohdaegeaa.Et (ents entries_any)
open Go.Proofs.Ytefihoohdaegeaa.Fl
open Go.Proofs.Ytefihoohdaegeaa.Gt (fnd)
open Go.Proofs.Ytefihoohdaegeaa.Gu (get_any)
open Go.Proofs.Ytefihoohdaegeaa.Pm
open Go.Proofs.Ytefihoohdaegeaa.Og
open Go.Proofs.Ytefihoohdaegeaa.Wk (among_any)
open Go.Proofs.Ytefihoohdaegeaa.Wo (works_any)
open Go.Proofs.Ytefihoohdaegeaa.Mm (box_below)
open Go.Proofs.Ytefihoohdaegeaa.Tr (new_at cell_of size_alloc blk_lt set_of fz_of)
set_option linter.unusedVariables false
set_option linter.unusedSimpArgs false

theorem oth_take (L : List A6) (r m : Nat) (hm : m < L.length) (hr : r < L.length) : (oth L r).take (m + 1) = (oth L r).take m ++ [L.getD (L.length - 1 - (m + r) % L.length) za] := by
  rw [take_snoc (by rw [oth_len]; exact hm), oth_at L r m hr hm]
theorem tk_ok {xs : List A6} {bs : List Bool} (h : ∀ x ∈ xs, x.ok) : ∀ n, n ≤ xs.length → ∀ x ∈ tk xs bs n, x.ok
  | 0, _ => fun x hx => by simp [tk] at hx
  | n + 1, hn => fun x hx => by
    have ih := tk_ok (bs := bs) h n (by omega)
    unfold tk at hx
    split at hx
    · rcases List.mem_append.1 hx with h' | h'
      · exact ih x h'
      · rw [List.mem_singleton.1 h']; exact h _ (get_mem (by omega))
    · exact ih x hx
theorem ents_ok {S : St} (W : Wf S) : ∀ x ∈ ents S S.ord, x.ok := fun x hx => by
  unfold ents at hx
  obtain ⟨n, hn, rfl⟩ := List.mem_map.1 hx
  exact (Gt.entN_ok W ((W.gd.mem n).1 hn).2).1
/-- All that the law's end asks for. -/
structure Last (W : World) (g g2 : Nat) (S S2 : St) : Prop where
  a : ∃ base P, Tb.Tb W base g P S
  b : ∃ base P, Tb.Tb W base g2 P S2
theorem Last.later {W W' : World} {g g2 : Nat} {S S2 : St} (h : Last W g g2 S S2) (k : Below W.heap.size W W') : Last W' g g2 S S2 := by
  obtain ⟨⟨b1, P1, h1⟩, b2, P2, h2⟩ := h
  exact ⟨⟨b1, P1, h1.later k⟩, b2, P2, h2.later k⟩
theorem two_entries (g g2 : Nat) (S S2 : St) (W : World) (h : Last W g g2 S S2) (he : ents S S.ord = ents S2 S2.ord) :
    Calls Try.prog 27 #[.pointer (some ⟨g, 0, none⟩)] W fun e W1 => Below W.heap.size W W1 ∧ ∃ a n c, e = .returned (.slice a n c) ∧ Calls Try.prog 27 #[.pointer (some ⟨g2, 0, none⟩)] W1 fun e W2 => Below W.heap.size W W2 ∧ ∃ a' c', e = .returned (.slice a' n c') ∧ Calls Try.prog 45 #[.slice a n c, .slice a' n c'] W2 fun e W3 => e = .returned (.bool true) ∧ Below W.heap.size W W3 := by
  have hL := h
  obtain ⟨⟨b1, P1, h1⟩, b2, P2, h2⟩ := h
  refine (entries_any b1 g P1 S W h1).mono ?_
  rintro e W1 ⟨v, rfl, o1, k1⟩
  obtain ⟨a, c, rfl, _⟩ := o1.ents (ents_ok h1.wf)
  refine ⟨k1, a, _, c, rfl, ?_⟩
  refine (entries_any b2 g2 P2 S2 W1 (h2.later k1)).mono ?_
  rintro e W2 ⟨v, rfl, o2, k2⟩
  have o2' := o2
  rw [← he] at o2'
  obtain ⟨a', c', rfl, x2⟩ := o2'.ents (ents_ok h1.wf)
  obtain ⟨a3, c3, hv, x1⟩ := (o1.later k2).ents (ents_ok h1.wf)
  cases hv
  have k12 := k1.trans (k2.mono k1.size)
  refine ⟨k12, a', c', rfl, ?_⟩
  have hlen : (ents S S.ord).length ≤ 1048576 := by
    have := h1.wf.gd.len
    have := h1.wf.cap
    unfold ents
    rw [List.length_map]
    omega
  refine (same_any a a' _ c c' (ents S S.ord) W2 x1 x2 (by omega)).mono ?_
  rintro e W3 ⟨rfl, k3⟩
  exact ⟨rfl, k12.trans (k3.mono k12.size)⟩

set_option maxHeartbeats 8000000 in
set_option maxRecDepth 100000 in
theorem order_any (a0 : Option Addr) (len0 cap0 : Nat) (xs : List A6) (by_ : Int) (z : A6) (w : World) (H0 : Acts w a0 len0 cap0 xs) (hl0 : len0 ≤ 2199023255552) (hz : z.ok) :
    Calls Try.prog 7 #[.slice a0 len0 cap0, .int .i64 by_, .agg #[.int .i64 z.kd, .int .i64 z.ht, .int .u64 z.sq, .int .i64 z.c, .string z.k, .string z.v]] w fun e w' => e = .returned (.bool true) ∧ Below w.heap.size w w' := by
  obtain ⟨zkd, zht, q, zc, k, zv⟩ := z
  dsimp only
  have hk : Hid (k.size ≤ maxLen) := hz.1
  have hxl := hid H0.1
  have hxok := hid H0.2.2.2.1
  obtain ⟨gA, hgA⟩ : ∃ n, n = w.heap.size := ⟨_, rfl⟩
  obtain ⟨W0, hW0⟩ : ∃ W, W = w.alloc (.cells #[.int .i64 zkd, .int .i64 zht, .int .u64 q, .int .i64 zc, .string k, .string zv] 34) := ⟨_, rfl⟩
  have B0 : Below w.heap.size w W0 := by rw [hW0]; exact box_below _ _
  have kA : W0.heap[gA]? = some (.cells #[.int .i64 zkd, .int .i64 zht, .int .u64 q, .int .i64 zc, .string k, .string zv] 34) := by rw [hW0, hgA]; exact new_at _ _
  obtain ⟨n0, hn0⟩ : ∃ n, n = W0.heap.size := ⟨_, rfl⟩
  have ALL : Hid (∀ W, Below n0 W0 W → Acts W a0 len0 cap0 xs ∧ W.cell? ⟨gA, 2, none⟩ = some (.int .u64 q) ∧ W.cell? ⟨gA, 4, none⟩ = some (.string k) ∧ Below w.heap.size w W) := fun W hb => by
    have hb' : Below W0.heap.size W0 W := by rw [← hn0]; exact hb
    have kW := (hb'.block gA (blk_lt kA)).trans kA
    exact ⟨(H0.later B0).later hb', cell_of kW 2 _ rfl, cell_of kW 4 _ rfl, B0.trans (hb'.mono B0.size)⟩
  have HW := hid (works_any W0)
  replace hW0 := hid hW0
  replace hgA := hid hgA
  replace hn0 := hid hn0
  replace hl0 := hid hl0
  clear H0 B0 kA hz
  go_enter Try.func7, Try.ntmps7
  go_wp2_with fail
  rw [← hW0.out, ← hgA.out]
  refine HW.out.mono ?_
  rintro e w1 ⟨rfl, b1⟩
  have B1 : Below n0 W0 w1 := by rw [hn0.out]; exact b1
  have HF := hid (filled_any a0 len0 cap0 xs 0 w1 (ALL.out w1 B1).1 hl0.out)
  replace B1 := hid B1
  clear b1 HW
  go_wp2_with fail
  refine HF.out.mono ?_
  rintro e w2 ⟨g, gb, P, rfl, T2, R2, np2, hgb, b2⟩
  have le1 : n0 ≤ w1.heap.size := by have := B1.out.size; have := hn0.out; omega
  have B2 : Below n0 W0 w2 := B1.out.trans (b2.mono le1)
  obtain ⟨n1, hn1⟩ : ∃ n, n = w2.heap.size := ⟨_, rfl⟩
  have le2 : n0 ≤ n1 := by have := B2.size; have := hn0.out; omega
  obtain ⟨bs, hbs⟩ : ∃ bs, bs = (fil 0 xs).2 := ⟨_, rfl⟩
  obtain ⟨S, hS⟩ : ∃ S, S = (fil 0 xs).1 := ⟨_, rfl⟩
  have hbl : Hid (bs.length = len0) := by show _ = _; rw [hbs]; exact fil_len 0 len0 xs hxl.out
  have hRep : Hid (Rep S (tk xs bs len0)) := by
    have := tk_rep xs xs.length (Nat.le_refl _)
    rw [List.take_length, hxl.out, ← hbs, ← hS] at this
    exact this
  rw [← hbs] at R2
  rw [← hS] at T2
  obtain ⟨nb, hnb⟩ : ∃ n, n = w1.heap.size := ⟨_, rfl⟩
  rw [← hnb] at T2
  have ALL2 : Hid (∀ W, Below n1 w2 W → Acts W a0 len0 cap0 xs ∧ Tb.Tb W nb g P S ∧ Br W gb bs ∧ W.cell? ⟨gA, 2, none⟩ = some (.int .u64 q) ∧ W.cell? ⟨gA, 4, none⟩ = some (.string k) ∧ Below w.heap.size w W ∧ n1 ≤ W.heap.size) := fun W hb => by
    have hb' : Below w2.heap.size w2 W := by rw [← hn1]; exact hb
    obtain ⟨x1, x2, x3, x4⟩ := ALL.out W (B2.trans (hb.mono le2))
    exact ⟨x1, T2.later hb', (hb'.block gb R2.lt).trans R2, x2, x3, x4, by have := hb.size; omega⟩
  have hTs : Hid (S.ts.length ≤ len0) := by show _ ≤ _; rw [hS]; exact fil_ts 0 len0 xs hxl.out
  replace hn1 := hid hn1
  replace hbs := hid hbs
  replace hS := hid hS
  clear T2 R2 np2 hgb b2 le1 B2 le2 hnb HF ALL B1 hn0
  go_wp2_with fail
  go_loopw [9, 10, 11] (fun lv nv iv wr => ∃ (m : Nat) (va : Option Addr) (vc : Nat), m ≤ len0 ∧ iv = .int .i64 (m : Int) ∧ nv = .int .i64 ((tk xs bs m).length : Int) ∧ lv = .slice va (tk xs bs m).length vc ∧ Hid (OwnA wr n1 (.slice va (tk xs bs m).length vc) (tk xs bs m)) ∧ Hid (Below n1 w2 wr))
    (fun _ _ iv _ => len0 - (intOf iv).toNat)
  case atStart => exact ⟨0, none, 0, Nat.zero_le _, rfl, rfl, rfl, OwnA.nil _ _, by rw [hn1.out]; exact Below.refl _ _⟩
  case round =>
    obtain ⟨m, va, vc, hm, rfl, rfl, rfl, HO, HB⟩ := hrel
    obtain ⟨hA, _, hR, _, _, _, szr⟩ := ALL2.out wr HB.out
    have hl0' := hl0.out
    by_cases hlt : m < len0
    · have i1 : (m : Int) < (len0 : Int) := by omega
      have hbc := hR.cell m (by have := hbl.out; omega)
      have htl := tk_len xs bs m
      cases hbm : bs.getD m false with
      | false =>
        rw [hbm] at hbc
        have e1 : tk xs bs (m + 1) = tk xs bs m := by show (if _ then _ else _) = _; rw [if_neg (by rw [hbm]; simp)]
        have HO' : Hid (OwnA wr n1 (.slice va (tk xs bs (m + 1)).length vc) (tk xs bs (m + 1))) := by rw [e1]; exact HO.out
        have e2 := congrArg List.length e1
        replace e1 := hid e1
        replace e2 := hid e2
        replace hA := hid hA
        replace hR := hid hR
        replace htl := hid htl
        replace szr := hid szr
        clear hbm
        go_wp2_with fail
        refine ⟨⟨m + 1, va, vc, by omega, by first | rfl | go_num, by rw [e2.out], by rw [e2.out], HO', HB⟩, ?_⟩
        simp only [intOf]; omega
      | true =>
        rw [hbm] at hbc
        have e1 : tk xs bs (m + 1) = tk xs bs m ++ [xs.getD m za] := by show (if _ then _ else _) = _; rw [if_pos hbm]
        obtain ⟨ad, rfl⟩ : ∃ ad, a0 = some ad := by
          cases a0 with
          | none => have := (hA.2.2.1 rfl).1; omega
          | some ad => exact ⟨ad, rfl⟩
        obtain ⟨pb, po, psp⟩ := ad
        obtain ⟨hsp, hat⟩ := hA.2.2.2.2 pb po psp rfl (by omega)
        subst hsp
        have hcp := hA.2.1
        obtain ⟨c0, c1, c2, c3, c4', c5⟩ := hat m hlt
        obtain ⟨v9, W9, r9, o9, g9, _⟩ := app_act wr n1 _ (tk xs bs m) (xs.getD m za) HO.out (by omega) (by omega)
        have B9 : Hid (Below n1 w2 W9) := HB.out.grown g9 szr (fun j hj => (own_lt HO.out j hj).1)
        rw [← e1] at o9
        have e2 : (tk xs bs (m + 1)).length = (tk xs bs m).length + 1 := by rw [e1]; simp
        obtain ⟨x, hxx⟩ : ∃ x, xs.getD m za = x := ⟨_, rfl⟩
        rw [hxx] at c0 c1 c2 c3 c4' c5 r9
        obtain ⟨xkd, xht, xsq, xc, xk, xv⟩ := x
        dsimp only at c0 c1 c2 c3 c4' c5 r9
        obtain ⟨va9, vc9, rfl⟩ := Sa.row_block o9
        rw [e2] at r9 o9
        generalize (tk xs bs m).length = tl at *
        replace r9 := hid r9
        replace o9 := hid o9
        replace e1 := hid e1
        replace e2 := hid e2
        replace hA := hid hA
        replace hR := hid hR
        replace szr := hid szr
        clear hbm hat g9 hxx
        go_wp2_with (at_builtin; refine Ob.wpList_append_run rfl (.tmp 44) (.tmp 49) 22 22 rfl (.slice va tl vc) (.slice (some ⟨wr.heap.size, 0, none⟩) 1 1) (.slice va9 (tl + 1) vc9) rfl rfl r9.out ?_)
        refine ⟨⟨m + 1, va9, vc9, by omega, by first | rfl | go_num, by rw [e2.out]; first | rfl | go_num, by rw [e2.out], by rw [e2.out]; exact o9, B9⟩, ?_⟩
        simp only [intOf]; omega
    · have hml : len0 = m := by omega
      subst hml
      have ik : ¬ (len0 : Int) < (len0 : Int) := by omega
      obtain ⟨L, hL⟩ : ∃ L, L = tk xs bs len0 := ⟨_, rfl⟩
      obtain ⟨n, hn⟩ : ∃ n, n = L.length := ⟨_, rfl⟩
      rw [← hL] at hRep HO
      rw [← hL]
      rw [← hn] at HO
      rw [← hn]
      have hLok : Hid (∀ x ∈ L, x.ok) := by show ∀ _, _; rw [hL]; exact tk_ok hxok.out len0 (by have := hxl.out; omega)
      have hnl : n ≤ len0 := by rw [hn, hL]; exact tk_len xs bs len0
      obtain ⟨n2, hn2⟩ : ∃ n, n = wr.heap.size := ⟨_, rfl⟩
      have hn12 : Hid (n1 ≤ n2) := by show _ ≤ _; rw [hn2]; exact szr
      have ALL3 : Hid (∀ W, Below n2 wr W → Tb.Tb W nb g P S ∧ OwnA W n1 (.slice va n vc) L ∧ W.cell? ⟨gA, 2, none⟩ = some (.int .u64 q) ∧ W.cell? ⟨gA, 4, none⟩ = some (.string k) ∧ Below w.heap.size w W ∧ n2 ≤ W.heap.size) := fun W hb => by
        have hb' : Below wr.heap.size wr W := by rw [← hn2]; exact hb
        obtain ⟨_, x1, _, x2, x3, x4, _⟩ := ALL2.out W (HB.out.trans (hb.mono hn12.out))
        exact ⟨x1, HO.out.later hb', x2, x3, x4, by have := hb.size; omega⟩
      obtain ⟨r, hr⟩ : ∃ r, r = (by_ % (n : Int)).toNat := ⟨_, rfl⟩
      have hol : Hid (∀ m, m ≤ n → ((oth L r).take m).length = m) := fun m hm => by rw [List.length_take, oth_len, ← hn]; omega
      replace hL := hid hL
      replace hn := hid hn
      replace hn2 := hid hn2
      replace hr := hid hr
      clear hA hR szr HO HB ALL2 hn1
      go_wp2_with fail
      go_loopw [12, 13] (fun ov iv wq => ∃ (m : Nat) (va : Option Addr) (vc : Nat), m ≤ n ∧ iv = .int .i64 (m : Int) ∧ ov = .slice va m vc ∧ Hid (OwnA wq n2 (.slice va m vc) ((oth L r).take m)) ∧ Hid (Below n2 wr wq))
        (fun _ iv _ => n - (intOf iv).toNat)
      case atStart => exact ⟨0, none, 0, Nat.zero_le _, rfl, rfl, OwnA.nil _ _, by rw [hn2.out]; exact Below.refl _ _⟩
      case round =>
        obtain ⟨m, ua, uc, hm, rfl, rfl, HU, HB⟩ := hrel
        obtain ⟨x1, x2, x3, x4, x5, x6⟩ := ALL3.out wr HB.out
        by_cases hlt : m < n
        · have hrn : Hid (by_ % (n : Int) = (r : Int)) := by
            show _ = _
            rw [hr.out]
            have := Int.emod_nonneg by_ (show (n : Int) ≠ 0 by omega)
            omega
          have hrl : r < n := by
            have := Int.emod_lt_of_pos by_ (show (0 : Int) < n by omega)
            have := hrn.out
            omega
          have HAm : Hid (∀ W, Calls Try.prog 11 #[.int .i64 by_, .int .i64 (n : Int)] W fun e w' => e = .returned (.int .i64 (r : Int)) ∧ w' = W) := fun W => by
            have := among_any by_ n W (by omega)
            rw [hrn.out] at this
            exact this
          obtain ⟨t, ht⟩ : ∃ t, t = (m + r) % n := ⟨_, rfl⟩
          have htn : t < n := by rw [ht]; exact Nat.mod_lt _ (by omega)
          have hrem : ((m : Int) + (r : Int)).tmod (n : Int) = (t : Int) := by
            rw [ht, Int.tmod_eq_emod_of_nonneg (by omega)]
            push_cast
            rfl
          obtain ⟨j, hj⟩ : ∃ j, j = n - 1 - t := ⟨_, rfl⟩
          have hjn : j < n := by omega
          have hsub : (n : Int) - 1 - (t : Int) = (j : Int) := by omega
          obtain ⟨a', c', hv, hA⟩ := x2.acts hLok.out
          rw [← hn.out] at hv hA
          cases hv
          obtain ⟨ad, rfl⟩ : ∃ ad, va = some ad := by
            cases va with
            | none => have := (hA.2.2.1 rfl).1; omega
            | some ad => exact ⟨ad, rfl⟩
          obtain ⟨pb, po, psp⟩ := ad
          obtain ⟨hsp, hat⟩ := hA.2.2.2.2 pb po psp rfl (by omega)
          subst hsp
          have hcp := hA.2.1
          obtain ⟨c0, c1, c2, c3, c4', c5⟩ := hat j hjn
          have e1 := oth_take L r m (by rw [← hn.out]; exact hlt) (by rw [← hn.out]; exact hrl)
          rw [← hn.out, ← ht, ← hj] at e1
          have hlm := hol.out m hm
          have HU' : OwnA wr n2 (.slice ua m uc) ((oth L r).take m) := HU.out
          obtain ⟨v9, W9, r9, o9, g9, _⟩ := app_act wr n2 _ ((oth L r).take m) (L.getD j za) HU' (by omega) (by omega)
          have B9 := HB.out.grown g9 x6 (fun j hj => (own_lt HU' j hj).1)
          rw [← e1] at o9
          obtain ⟨va9, vc9, rfl⟩ := Sa.row_block o9
          rw [hol.out (m + 1) (by omega)] at r9 o9
          obtain ⟨x, hxx⟩ : ∃ x, L.getD j za = x := ⟨_, rfl⟩
          rw [hxx] at c0 c1 c2 c3 c4' c5 r9
          obtain ⟨xkd, xht, xsq, xc, xk, xv⟩ := x
          dsimp only at c0 c1 c2 c3 c4' c5 r9
          have i1 : (m : Int) < (n : Int) := by omega
          have i2 : (r : Int) < (n : Int) := by omega
          have i3 : (t : Int) < (n : Int) := by omega
          have i4 : (j : Int) < (n : Int) := by omega
          have i5 : (n : Int) ≤ 2199023255552 := by omega
          have i6 : (n : Int) ≠ 0 := by omega
          replace r9 := hid r9
          replace o9 := hid o9
          replace B9 := hid B9
          replace ht := hid ht
          replace hj := hid hj
          replace e1 := hid e1
          replace hlm := hid hlm
          replace hA := hid hA
          clear hat g9 hxx x1 x2 x3 x4 x5 x6 HU' hxok hRep hTs hbl
          go_wp2_with fail
          refine (HAm.out _).mono ?_
          rintro e w8 ⟨rfl, hw8⟩
          replace hw8 := hw8.symm
          subst hw8
          go_wp2_with (at_builtin; refine Ob.wpList_append_run rfl (.tmp 58) (.tmp 72) 22 22 rfl (.slice ua m uc) (.slice (some ⟨wr.heap.size, 0, none⟩) 1 1) (.slice va9 (m + 1) vc9) rfl rfl r9.out ?_)
          refine ⟨⟨m + 1, va9, vc9, by omega, by first | rfl | go_num, by rfl, o9, B9⟩, ?_⟩
          simp only [intOf]; omega
        · have hml : n = m := by omega
          subst hml
          have ik : ¬ (n : Int) < (n : Int) := by omega
          obtain ⟨L2, hL2⟩ : ∃ L2, L2 = oth L r := ⟨_, rfl⟩
          have hp2 : L.Perm L2 := by rw [hL2]; exact oth_perm L r
          have hl2 : L2.length = n := by rw [hL2, oth_len, ← hn.out]
          have ht2 : (oth L r).take n = L2 := by rw [hL2]; exact List.take_of_length_le (by rw [oth_len, ← hn.out]; exact Nat.le_refl _)
          have HU2 : OwnA wr n2 (.slice ua n uc) L2 := by have := HU.out; rw [ht2] at this; exact this
          have hok2 : ∀ x ∈ L2, x.ok := fun x hx => hLok.out x (hp2.mem_iff.2 hx)
          obtain ⟨a', c', hv, hA⟩ := HU2.acts hok2
          rw [hl2] at hv hA
          cases hv
          have HAm := hid (among_any by_ 100 wr (by omega))
          have HF : Hid (∀ more, Calls Try.prog 44 #[.slice ua n uc, .int .i64 more] wr fun e w' => ∃ g gb P, e = .returned (.tuple #[.pointer (some ⟨g, 0, none⟩), .slice (some ⟨gb, 0, none⟩) n n]) ∧ Tb.Tb w' wr.heap.size g P (fil more L2).1 ∧ Br w' gb (fil more L2).2 ∧ ¬ P gb ∧ wr.heap.size ≤ gb ∧ Below wr.heap.size wr w') := fun more => filled_any ua n uc L2 more wr hA (by omega)
          replace hp2 := hid hp2
          replace hl2 := hid hl2
          clear x1 x2 x3 x4 x5 hA HU HU2 ht2 hL2 hol
          go_wp2_with fail
          refine HAm.out.mono ?_
          rintro e w8 ⟨rfl, hw8⟩
          replace hw8 := hw8.symm
          subst hw8
          obtain ⟨more, hmore⟩ : ∃ x, x = by_ % ((100 : Nat) : Int) := ⟨_, rfl⟩
          rw [← hmore]
          replace HF := hid (HF.out more)
          clear hmore HAm
          go_wp2_with fail
          refine HF.out.mono ?_
          rintro e w5 ⟨g2, gb2, P2, rfl, T5, R5, _, _, b5⟩
          have hT := all_taken more L2 (fun x hx => hRep.out.ok x (hp2.out.mem_iff.2 hx)) (hp2.out.pairwise_iff (fun h => unl_symm h) |>.1 hRep.out.un) (by
            have h1 := (eL_perm hp2.out).length_eq
            have h2 := congrArg List.length hRep.out.ns
            rw [List.length_map] at h2
            have := hRep.out.wf.cap
            omega) n (by rw [hl2.out]; exact Nat.le_refl _)
          rw [← hl2.out, List.take_length, hl2.out] at hT
          obtain ⟨R2, hbs2⟩ := hT
          rw [hbs2] at R5
          obtain ⟨S2, hS2⟩ : ∃ S, S = (fil more L2).1 := ⟨_, rfl⟩
          rw [← hS2] at T5 R2
          obtain ⟨s1, s2, s3, s4, s5, s6, s7, s8⟩ := hRep.out.same R2 hp2.out
          obtain ⟨n5, hn5⟩ : ∃ n, n = w5.heap.size := ⟨_, rfl⟩
          have B5 : Below n2 _ w5 := HB.out.trans (b5.mono x6)
          have ALL5 : Hid (∀ W, Below n5 w5 W → Last W g g2 S S2 ∧ W.cell? ⟨gA, 2, none⟩ = some (.int .u64 q) ∧ W.cell? ⟨gA, 4, none⟩ = some (.string k) ∧ Below w.heap.size w W ∧ n5 ≤ W.heap.size) := fun W hb => by
            have hb' : Below w5.heap.size w5 W := by rw [← hn5]; exact hb
            have l25 : n2 ≤ n5 := by have := b5.size; omega
            obtain ⟨x1, _, x2, x3, x4, _⟩ := ALL3.out W (B5.trans (hb.mono l25))
            exact ⟨⟨⟨_, _, x1⟩, _, _, T5.later hb'⟩, x2, x3, x4, by have := hb.size; omega⟩
          have hb0 : Hid (Below n5 w5 w5) := Below.refl _ _
          have hR5 := hid R5
          have hts : Hid (S.ts.length ≤ 2199023255552 ∧ S2.ts.length ≤ 2199023255552) := by
            have := hTs.out
            show _ ∧ _
            omega
          have hs3 : Hid (((S.ns.length : Int) + S.ts.length) = (n : Int) ∧ ((S2.ns.length : Int) + S2.ts.length) = (n : Int)) := by
            have := hn.out
            show _ ∧ _
            omega
          replace s1 := hid s1
          replace s2 := hid s2
          replace s5 := hid s5
          replace s6 := hid s6
          replace s7 := hid s7
          replace s8 := hid s8
          replace hn5 := hid hn5
          replace x6 := hid x6
          clear T5 R5 b5 B5 R2 hS2 hbs2 HF s3 s4 ALL3 hRep HB
          go_wp2_with fail
          go_loopw [16] (fun iv wq => ∃ m : Nat, m ≤ n ∧ iv = .int .i64 (m : Int) ∧ Hid (wq = w5))
            (fun iv _ => n - (intOf iv).toNat)
          case atStart => exact ⟨0, Nat.zero_le _, rfl, rfl⟩
          case round =>
            obtain ⟨m, hm, rfl, hwq⟩ := hrel
            obtain rfl := hwq.out
            by_cases hlt : m < n
            · have i1 : (m : Int) < (n : Int) := by omega
              have hc : wr.cell? ⟨gb2, m, none⟩ = some (.bool true) := by
                have := hR5.out.cell m (by simp; exact hlt)
                rwa [show (List.replicate n true).getD m false = true by simp [List.getD_eq_getElem?_getD, hlt]] at this
              go_wp2_with fail
              refine ⟨⟨m + 1, by omega, by first | rfl | go_num, hid trivial⟩, ?_⟩
              simp only [intOf]; omega
            · have hml : n = m := by omega
              subst hml
              have ik : ¬ (n : Int) < (n : Int) := by omega
              obtain ⟨⟨⟨y1, y2, y3, y4⟩, yb⟩, hy⟩ : ∃ r, r = fnd [(g, S)] k q := ⟨_, rfl⟩
              obtain ⟨G, hG⟩ : ∃ G : World → Prop, G = fun W => Below n5 wr W := ⟨_, rfl⟩
              have up : Hid (∀ W W', G W → Below W.heap.size W W' → G W') := fun W W' h b => by
                rw [hG] at h ⊢
                have := (ALL5.out W h).2.2.2.2
                exact Below.trans h (b.mono this)
              have g0 : Hid (G wr) := by show G wr; rw [hG]; exact Below.refl _ _
              have LST : Hid (∀ W, G W → Last W g g2 S S2) := fun W h => by rw [hG] at h; exact (ALL5.out W h).1
              have ASK : Hid (∀ W, G W → W.cell? ⟨gA, 2, none⟩ = some (.int .u64 q) ∧ W.cell? ⟨gA, 4, none⟩ = some (.string k)) := fun W h => by rw [hG] at h; exact ⟨(ALL5.out W h).2.1, (ALL5.out W h).2.2.1⟩
              have FIN : Hid (∀ W, G W → Below w.heap.size w W) := fun W h => by rw [hG] at h; exact (ALL5.out W h).2.2.2.1
              have SP1 : Hid (∀ W, G W → Calls Try.prog 26 #[.pointer (some ⟨g, 0, none⟩)] W fun e w' => e = .returned (.tuple #[.int .u64 S.lo, .int .u64 S.hi]) ∧ G w') := fun W h => by
                obtain ⟨⟨_, _, gl, bl, gs, bm, vt, X⟩, _⟩ := LST.out W h
                exact (span_any g gl gs bm S W X.c).mono fun _ _ x => ⟨x.1, up.out _ _ h x.2⟩
              have SP2 : Hid (∀ W, G W → Calls Try.prog 26 #[.pointer (some ⟨g2, 0, none⟩)] W fun e w' => e = .returned (.tuple #[.int .u64 S.lo, .int .u64 S.hi]) ∧ G w') := fun W h => by
                obtain ⟨_, _, _, gl, bl, gs, bm, vt, X⟩ := LST.out W h
                rw [s6.out, s7.out]
                exact (span_any g2 gl gs bm S2 W X.c).mono fun _ _ x => ⟨x.1, up.out _ _ h x.2⟩
              have GT1 : Hid (∀ W, G W → Calls Try.prog 25 #[.pointer (some ⟨g, 0, none⟩), .string k, .int .u64 q] W fun e w' => e = .returned (.tuple #[.agg #[.string y1, .int .u64 y2, .int .i64 y3, .string y4], .bool yb]) ∧ Below W.heap.size W w') := fun W h => by
                obtain ⟨⟨_, _, T⟩, _⟩ := LST.out W h
                have := get_any _ g _ S k q W T (by have := hts.out.1; omega) hk.out
                rw [← hy] at this
                exact this
              have GT2 : Hid (∀ W, G W → Calls Try.prog 25 #[.pointer (some ⟨g2, 0, none⟩), .string k, .int .u64 q] W fun e w' => e = .returned (.tuple #[.agg #[.string y1, .int .u64 y2, .int .i64 y3, .string y4], .bool yb]) ∧ Below W.heap.size W w') := fun W h => by
                obtain ⟨_, _, _, T⟩ := LST.out W h
                have := get_any _ g2 _ S2 k q W T (by have := hts.out.2; omega) hk.out
                rw [← s8.out g g2 k q, ← hy] at this
                exact this
              have EN := hid (fun W (h : G W) => two_entries g g2 S S2 W (LST.out W h) s1.out)
              have TM1 : Hid (∀ W, G W → Calls Try.prog 28 #[.pointer (some ⟨g, 0, none⟩)] W fun e w' => (∃ a c, e = .returned (.slice a S.ts.length c)) ∧ Below W.heap.size W w') := fun W h => by
                obtain ⟨⟨_, _, T⟩, _⟩ := LST.out W h
                exact (tombs_any _ g _ S W T (by have := hts.out.1; omega)).mono fun _ _ ⟨a, c, x, y⟩ => ⟨⟨a, c, x⟩, y⟩
              have TM2 : Hid (∀ W, G W → Calls Try.prog 28 #[.pointer (some ⟨g2, 0, none⟩)] W fun e w' => (∃ a c, e = .returned (.slice a S.ts.length c)) ∧ Below W.heap.size W w') := fun W h => by
                obtain ⟨_, _, _, T⟩ := LST.out W h
                rw [s2.out]
                exact (tombs_any _ g2 _ S2 W T (by have := hts.out.2; omega)).mono fun _ _ ⟨a, c, x, y⟩ => ⟨⟨a, c, x⟩, y⟩
              have LE1 : Hid (∀ W, G W → Calls Try.prog 30 #[.pointer (some ⟨g, 0, none⟩)] W fun e w' => e = .returned (.int .i64 (n : Int)) ∧ Below W.heap.size W w') := fun W h => by
                obtain ⟨⟨_, _, T⟩, _⟩ := LST.out W h
                have := len_any _ g _ S W T (by have := hts.out.1; omega)
                rw [hs3.out.1] at this
                exact this
              have LE2 : Hid (∀ W, G W → Calls Try.prog 30 #[.pointer (some ⟨g2, 0, none⟩)] W fun e w' => e = .returned (.int .i64 (n : Int)) ∧ Below W.heap.size W w') := fun W h => by
                obtain ⟨_, _, _, T⟩ := LST.out W h
                have := len_any _ g2 _ S2 W T (by have := hts.out.2; omega)
                rw [hs3.out.2] at this
                exact this
              have SZ1 : Hid (∀ W, G W → Calls Try.prog 31 #[.pointer (some ⟨g, 0, none⟩)] W fun e w' => e = .returned (.int .i64 S.sz) ∧ Below W.heap.size W w') := fun W h => by
                obtain ⟨⟨_, _, gl, bl, gs, bm, vt, X⟩, _⟩ := LST.out W h
                exact (size_any g gl gs bm S W X.c).mono fun _ _ x => ⟨x.1, by rw [x.2]; exact Below.refl _ _⟩
              have SZ2 : Hid (∀ W, G W → Calls Try.prog 31 #[.pointer (some ⟨g2, 0, none⟩)] W fun e w' => e = .returned (.int .i64 S.sz) ∧ Below W.heap.size W w') := fun W h => by
                obtain ⟨_, _, _, gl, bl, gs, bm, vt, X⟩ := LST.out W h
                rw [s5.out]
                exact (size_any g2 gl gs bm S2 W X.c).mono fun _ _ x => ⟨x.1, by rw [x.2]; exact Below.refl _ _⟩
              replace hG := hid hG
              replace hy := hid hy
              generalize S.lo = slo at *
              generalize S.hi = shi at *
              generalize S.sz = ssz at *
              generalize S.ts.length = stl at *
              clear hs3 hts s1 s2 s5 s6 s7 s8 hR5 hwq LST hG hm
              go_wp2_with fail
              refine (SP1.out wr g0.out).mono ?_
              rintro e w6 ⟨rfl, g6⟩
              replace g6 := hid g6
              clear SP1
              go_wp2_with fail
              refine (SP2.out w6 g6.out).mono ?_
              rintro e w7 ⟨rfl, g7⟩
              obtain ⟨d2, d4⟩ := ASK.out w7 g7
              replace g7 := hid g7
              clear SP2 g6
              go_wp2_with fail
              refine (GT1.out w7 g7.out).mono ?_
              rintro e w8 ⟨rfl, b8⟩
              obtain ⟨e1, he1⟩ : ∃ n, n = w8.heap.size := ⟨_, rfl⟩
              obtain ⟨W9, hW9⟩ : ∃ W, W = w8.alloc (.cells #[.string y1, .int .u64 y2, .int .i64 y3, .string y4] 56) := ⟨_, rfl⟩
              have k9 : W9.heap[e1]? = some (.cells #[.string y1, .int .u64 y2, .int .i64 y3, .string y4] 56) := by rw [hW9, he1]; exact new_at _ _
              have b9 : Below w7.heap.size w7 W9 := by rw [hW9]; exact b8.alloc b8.size _
              have g9 := up.out _ _ g7.out b9
              have GT := GT2.out W9 g9
              obtain ⟨d2', d4'⟩ := ASK.out W9 g9
              replace k9 := hid k9
              replace g9 := hid g9
              replace GT := hid GT
              rw [hW9] at d2' d4'
              replace hW9 := hid hW9
              replace he1 := hid he1
              clear b8 b9 d2 d4 GT1 GT2 g7
              go_wp2_with fail
              rw [← hW9.out, ← he1.out]
              refine GT.out.mono ?_
              rintro e w10 ⟨rfl, b10⟩
              obtain ⟨e2, he2⟩ : ∃ n, n = w10.heap.size := ⟨_, rfl⟩
              obtain ⟨W11, hW11⟩ : ∃ W, W = w10.alloc (.cells #[.string y1, .int .u64 y2, .int .i64 y3, .string y4] 56) := ⟨_, rfl⟩
              have k11 : W11.heap[e2]? = some (.cells #[.string y1, .int .u64 y2, .int .i64 y3, .string y4] 56) := by rw [hW11, he2]; exact new_at _ _
              have b11 : Below W9.heap.size W9 W11 := by rw [hW11]; exact b10.alloc b10.size _
              have j11 := (b11.block e1 (blk_lt k9.out)).trans k9.out
              have g11 := up.out _ _ g9.out b11
              have E1 := EN.out W11 g11
              have CARRY : Hid (∀ W, Below W11.heap.size W11 W → G W ∧ W.heap[e1]? = some (.cells #[.string y1, .int .u64 y2, .int .i64 y3, .string y4] 56) ∧ W.heap[e2]? = some (.cells #[.string y1, .int .u64 y2, .int .i64 y3, .string y4] 56)) := fun W b => ⟨up.out _ _ g11 b, (b.block e1 (blk_lt j11)).trans j11, (b.block e2 (blk_lt k11)).trans k11⟩
              replace E1 := hid E1
              replace hW11 := hid hW11
              replace he2 := hid he2
              clear b10 k11 b11 j11 g11 g9 k9 GT d2' d4' EN hW9 he1
              go_wp2_with fail
              rw [← hW11.out, ← he2.out]
              refine E1.out.mono ?_
              rintro e w12 ⟨b12, a', nn, c', rfl, E2⟩
              replace E2 := hid E2
              clear b12 E1 hW11 he2
              go_wp2_with fail
              refine E2.out.mono ?_
              rintro e w13 ⟨b13, a'', c'', rfl, E3⟩
              replace E3 := hid E3
              clear b13 E2
              go_wp2_with fail
              refine E3.out.mono ?_
              rintro e w14 ⟨rfl, b14⟩
              clear E3
              have TMa := hid (TM1.out w14 (CARRY.out w14 b14).1)
              replace b14 := hid b14
              clear TM1
              go_wp2_with fail
              refine TMa.out.mono ?_
              rintro e w15 ⟨⟨a3, c3, rfl⟩, b15'⟩
              have b15 : Below W11.heap.size W11 w15 := b14.out.trans (b15'.mono b14.out.size)
              have TMb := hid (TM2.out w15 (CARRY.out w15 b15).1)
              replace b15 := hid b15
              clear TMa TM2 b14 b15'
              go_wp2_with fail
              refine TMb.out.mono ?_
              rintro e w16 ⟨⟨a4, c4, rfl⟩, b16'⟩
              have b16 : Below W11.heap.size W11 w16 := b15.out.trans (b16'.mono b15.out.size)
              have LEa := hid (LE1.out w16 (CARRY.out w16 b16).1)
              replace b16 := hid b16
              clear TMb LE1 b15 b16'
              go_wp2_with fail
              refine LEa.out.mono ?_
              rintro e w17 ⟨rfl, b17'⟩
              have b17 : Below W11.heap.size W11 w17 := b16.out.trans (b17'.mono b16.out.size)
              have LEb := hid (LE2.out w17 (CARRY.out w17 b17).1)
              replace b17 := hid b17
              clear LEa LE2 b16 b17'
              go_wp2_with fail
              refine LEb.out.mono ?_
              rintro e w18 ⟨rfl, b18'⟩
              have b18 : Below W11.heap.size W11 w18 := b17.out.trans (b18'.mono b17.out.size)
              have SZa := hid (SZ1.out w18 (CARRY.out w18 b18).1)
              replace b18 := hid b18
              clear LEb SZ1 b17 b18'
              go_wp2_with fail
              refine SZa.out.mono ?_
              rintro e w19 ⟨rfl, b19'⟩
              have b19 : Below W11.heap.size W11 w19 := b18.out.trans (b19'.mono b18.out.size)
              have SZb := hid (SZ2.out w19 (CARRY.out w19 b19).1)
              replace b19 := hid b19
              clear SZa SZ2 b18 b19'
              go_wp2_with fail
              refine SZb.out.mono ?_
              rintro e w20 ⟨rfl, b20'⟩
              have b20 : Below W11.heap.size W11 w20 := b19.out.trans (b20'.mono b19.out.size)
              obtain ⟨gZ, kX, kV⟩ := CARRY.out w20 b20
              have BZ := hid (FIN.out w20 gZ)
              have x0 := cell_of kX 0 (.string y1) rfl
              have x1 := cell_of kX 1 (.int .u64 y2) rfl
              have x2 := cell_of kX 2 (.int .i64 y3) rfl
              have x3 := cell_of kX 3 (.string y4) rfl
              have v0 := cell_of kV 0 (.string y1) rfl
              have v1 := cell_of kV 1 (.int .u64 y2) rfl
              have v2 := cell_of kV 2 (.int .i64 y3) rfl
              have v3 := cell_of kV 3 (.string y4) rfl
              clear SZb b19 b20' b20 gZ kX kV CARRY up ASK FIN ALL5 g0
              go_wp2_with fail
              go_ret
              exact ⟨by first | rfl | simp, BZ.out⟩
end Go.Proofs.Ytefihoohdaegeaa.Mo

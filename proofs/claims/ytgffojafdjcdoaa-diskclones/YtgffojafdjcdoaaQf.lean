/- The document's disk: Rename. -/
import Derived.Test.YtgffojafdjcdoaaQe
namespace Go.Proofs.Ytgffojafdjcdoaa.Qf
open Go.ChangeShapes Go.WideShapes Go.ChangeAt Go.RowKit Go.Maps
open Go.Sort (grow)
open Go.Proofs.Ytgffojafdjcdoaa.By
open Go.Proofs.Ytgffojafdjcdoaa.Dk
open Go.Proofs.Ytgffojafdjcdoaa.Df (isN isQ isN_size)
open Go.Proofs.Ytgffojafdjcdoaa.Ap (wpList_append_run)
open Go.Proofs.Ytgffojafdjcdoaa.Pd
open Go.Proofs.Ytgffojafdjcdoaa.Qa
open Go.Proofs.Ytgffojafdjcdoaa.Qb
open Go.Proofs.Ytgffojafdjcdoaa.Qc
open Go.Proofs.Ytgffojafdjcdoaa.Qd
open Go.Proofs.Ytgffojafdjcdoaa.Qe
open Go.Proofs.Ytgffojafdjcdoaa.Lx (lt)
set_option linter.unusedVariables false
set_option linter.unusedSimpArgs false
theorem lo_lo (s : ByteArray) (rs : List RF) : lo s (lo s rs) = lo s rs := by unfold lo; rw [List.filter_filter]; simp
theorem hi_hi (s : ByteArray) (rs : List RF) : hi s (hi s rs) = hi s rs := by unfold hi; rw [List.filter_filter]; simp
theorem lo_hi (s : ByteArray) (rs : List RF) : lo s (hi s rs) = [] := by
  unfold lo
  rw [List.filter_eq_nil_iff]
  intro x hx
  have : lt s x.n = true := (List.mem_filter.1 hx).2
  simp [Lx.asym this]
theorem hi_lo (s : ByteArray) (rs : List RF) : hi s (lo s rs) = [] := by
  unfold hi
  rw [List.filter_eq_nil_iff]
  intro x hx
  have : lt x.n s = true := (List.mem_filter.1 hx).2
  simp [Lx.asym this]
theorem lo_rm (s : ByteArray) (rs : List RF) : lo s (rm s rs) = lo s rs := by
  show lo s (lo s rs ++ hi s rs) = _
  have : lo s (lo s rs ++ hi s rs) = lo s (lo s rs) ++ lo s (hi s rs) := List.filter_append ..
  rw [this, lo_lo, lo_hi, List.append_nil]
theorem hi_rm (s : ByteArray) (rs : List RF) : hi s (rm s rs) = hi s rs := by
  show hi s (lo s rs ++ hi s rs) = _
  have : hi s (lo s rs ++ hi s rs) = hi s (lo s rs) ++ hi s (hi s rs) := List.filter_append ..
  rw [this, hi_lo, hi_hi, List.nil_append]
theorem up_rm (s : ByteArray) (x : RF) (rs : List RF) : up s x (rm s rs) = up s x rs := by unfold up; rw [lo_rm, hi_rm]
theorem rm_len (s : ByteArray) {rs : List RF} (hs : Srt rs) : (rm s rs).length ≤ rs.length := by
  have := congrArg List.length (parts hs s)
  simp only [List.length_append] at this
  unfold rm
  rw [List.length_append]
  omega
theorem rm_tot (s : ByteArray) {rs : List RF} (hs : Srt rs) : tot (rm s rs) ≤ tot rs := by
  have := congrArg tot (parts hs s)
  rw [tot_app, tot_app] at this
  unfold rm
  rw [tot_app]
  omega
theorem ok_rm {R : RS} (h : RS.ok R) (s : ByteArray) : RS.ok { R with rs := rm s R.rs } :=
  ⟨srt_rm h.srt s, Nat.le_trans (rm_len s h.srt) h.len, Nat.le_trans (rm_tot s h.srt) h.tot, fun r hr => h.k r (by
    rcases List.mem_append.1 hr with hr | hr
    · exact (List.mem_filter.1 hr).1
    · exact (List.mem_filter.1 hr).1), h.q, h.af, h.ct, h.rf⟩
theorem fr_comp {P P6 : Nat → Prop} {w w7 wF : World} (F : Fr P w w7) (h : ∀ j, P6 j → P j ∨ w.heap.size ≤ j) (G : Fr P6 w7 wF) : Fr P w wF :=
  ⟨G.os.trans F.os, G.tape.trans F.tape, G.output.trans F.output, Nat.le_trans F.size G.size, fun j hj hp => (G.block j (Nat.lt_of_lt_of_le hj F.size) (fun h6 => by
    rcases h j h6 with h1 | h1
    · exact hp h1
    · omega)).trans (F.block j hj hp)⟩
set_option maxHeartbeats 4000000 in
set_option maxRecDepth 100000 in
theorem rename_bad {base g : Nat} {v : Value} {P : Nat → Prop} {R : RS} (s : ByteArray) (t : ByteArray) (ht : t.size ≤ 9223372036854775807) (hs : s.size ≤ 9223372036854775807) (w : World) (H : RDk w base g v P R) (hok : RS.ok R) (hb : base ≤ w.heap.size) (hi : isN s = false) : Calls Try.prog 38 #[.pointer (some ⟨g, 0, none⟩), .string s, .string t] w fun e w' => e = .returned (.int .i64 2) ∧ Tk w w' base g P R := by
  have HN := rname_any s hs w
  rw [hi] at HN
  replace HN := hid HN
  have HT := hid (tk_same H (Below.refl _ _))
  clear H hok
  go_enter Try.func38, Try.ntmps38
  go_wp2_with fail
  refine HN.out.mono ?_
  rintro e w1 ⟨rfl, hw1⟩
  replace hw1 := hw1.symm
  subst hw1
  go_wp2_with fail
  go_ret
  exact ⟨rfl, HT.out⟩
set_option maxHeartbeats 4000000 in
set_option maxRecDepth 100000 in
theorem rename_bad2 {base g : Nat} {v : Value} {P : Nat → Prop} {R : RS} (s : ByteArray) (t : ByteArray) (ht : t.size ≤ 9223372036854775807) (hs : s.size ≤ 9223372036854775807) (w : World) (H : RDk w base g v P R) (hok : RS.ok R) (hb : base ≤ w.heap.size) (hi : isN s = true) (hj : isN t = false) : Calls Try.prog 38 #[.pointer (some ⟨g, 0, none⟩), .string s, .string t] w fun e w' => e = .returned (.int .i64 2) ∧ Tk w w' base g P R := by
  have HN := rname_any s hs w
  rw [hi] at HN
  replace HN := hid HN
  have HM := rname_any t ht w
  rw [hj] at HM
  replace HM := hid HM
  have HT := hid (tk_same H (Below.refl _ _))
  clear H hok
  go_enter Try.func38, Try.ntmps38
  go_wp2_with fail
  refine HN.out.mono ?_
  rintro e w1 ⟨rfl, hw1⟩
  replace hw1 := hw1.symm
  subst hw1
  go_wp2_with fail
  refine HM.out.mono ?_
  rintro e w1 ⟨rfl, hw1⟩
  replace hw1 := hw1.symm
  subst hw1
  go_wp2_with fail
  go_ret
  exact ⟨rfl, HT.out⟩
set_option maxHeartbeats 4000000 in
set_option maxRecDepth 100000 in
theorem rename_none {base g : Nat} {v : Value} {P : Nat → Prop} {R : RS} (s : ByteArray) (t : ByteArray) (ht : t.size ≤ 9223372036854775807) (hs : s.size ≤ 9223372036854775807) (w : World) (H : RDk w base g v P R) (hok : RS.ok R) (hb : base ≤ w.heap.size) (hi : isN s = true) (hj : isN t = true) (hl : lkp R.rs s = none) : Calls Try.prog 38 #[.pointer (some ⟨g, 0, none⟩), .string s, .string t] w fun e w' => e = .returned (.int .i64 51) ∧ Tk w w' base g P R := by
  have HN := rname_any s hs w
  rw [hi] at HN
  replace HN := hid HN
  have HM := rname_any t ht w
  rw [hj] at HM
  replace HM := hid HM
  have HF := hid (rfind_no s hl w H hok)
  have HT : Hid (∀ w', Below w.heap.size w w' → Tk w w' base g P R) := fun w' b => tk_same H b
  clear H hok hl
  go_enter Try.func38, Try.ntmps38
  go_wp2_with fail
  refine HN.out.mono ?_
  rintro e w1 ⟨rfl, hw1⟩
  replace hw1 := hw1.symm
  subst hw1
  go_wp2_with fail
  refine HM.out.mono ?_
  rintro e w1 ⟨rfl, hw1⟩
  replace hw1 := hw1.symm
  subst hw1
  go_wp2_with fail
  refine HF.out.mono ?_
  rintro e w2 ⟨rfl, b2⟩
  replace b2 := hid b2
  go_wp2_with fail
  go_ret
  exact ⟨rfl, HT.out _ b2.out⟩
set_option maxHeartbeats 4000000 in
set_option maxRecDepth 100000 in
theorem rename_same {base g : Nat} {v : Value} {P : Nat → Prop} {R : RS} (s : ByteArray) (t : ByteArray) (ht : t.size ≤ 9223372036854775807) (hs : s.size ≤ 9223372036854775807) (w : World) (H : RDk w base g v P R) (hok : RS.ok R) (hb : base ≤ w.heap.size) (hi : isN s = true) (hj : isN t = true) (r : RF) (hl : lkp R.rs s = some r) (hst : s = t) : Calls Try.prog 38 #[.pointer (some ⟨g, 0, none⟩), .string s, .string t] w fun e w' => e = .returned (.int .i64 0) ∧ Tk w w' base g P R := by
  subst hst
  have HN := rname_any s hs w
  rw [hi] at HN
  replace HN := hid HN
  have HM := rname_any s hs w
  rw [hj] at HM
  replace HM := hid HM
  have HF := hid (rfind_yes s r hl w H hok)
  have HT : Hid (∀ w', Below w.heap.size w w' → Tk w w' base g P R) := fun w' b => tk_same H b
  clear H hok hl
  go_enter Try.func38, Try.ntmps38
  go_wp2_with fail
  refine HN.out.mono ?_
  rintro e w1 ⟨rfl, hw1⟩
  replace hw1 := hw1.symm
  subst hw1
  go_wp2_with fail
  refine HM.out.mono ?_
  rintro e w1 ⟨rfl, hw1⟩
  replace hw1 := hw1.symm
  subst hw1
  go_wp2_with fail
  refine HF.out.mono ?_
  rintro e w2 ⟨rfl, b2⟩
  replace b2 := hid b2
  go_wp2_with fail
  go_ret
  exact ⟨rfl, HT.out _ b2.out⟩
set_option maxHeartbeats 4000000 in
set_option maxRecDepth 100000 in
theorem rename_new {base g : Nat} {v : Value} {P : Nat → Prop} {R : RS} (s : ByteArray) (t : ByteArray) (ht : t.size ≤ 9223372036854775807) (hs : s.size ≤ 9223372036854775807) (w : World) (H : RDk w base g v P R) (hok : RS.ok R) (hb : base ≤ w.heap.size) (hi : isN s = true) (hj : isN t = true) (r : RF) (hl : lkp R.rs s = some r) (hst : s ≠ t) (hl2 : lkp (rm s R.rs) t = none) : Calls Try.prog 38 #[.pointer (some ⟨g, 0, none⟩), .string s, .string t] w fun e w' => e = .returned (.int .i64 0) ∧ Tk w w' base g P { R with rs := up t ⟨t, r.b, r.k⟩ (rm s R.rs) } := by
  have HN := rname_any s hs w
  rw [hi] at HN
  replace HN := hid HN
  have HM := rname_any t ht w
  rw [hj] at HM
  replace HM := hid HM
  have HF := hid (rfind_yes s r hl w H hok)
  have ok1 := ok_rm hok s
  have HW : Hid (∀ w1, Below w.heap.size w w1 → Calls Try.prog 59 #[.pointer (some ⟨g, 0, none⟩), .int .i64 ((lo s R.rs).length : Int)] w1 fun e w' => e = .returned (.tuple #[]) ∧ Tk w1 w' base g P { R with rs := rm s R.rs }) := fun w1 b => without_any s hs w1 (H.later b) hok (Nat.le_trans hb b.size) r hl
  obtain ⟨a, c, rfl, hnc, hsome, _⟩ := H.own.shape
  have hlt : (lo s R.rs).length < R.rs.length := (List.getElem?_eq_some_iff.1 (at_place hok.srt s hl)).1
  obtain ⟨gv, rfl⟩ := hsome (by omega)
  have HC : Hid (∀ w1, Below w.heap.size w w1 → w1.cell? ⟨g, 0, none⟩ = some (.slice (some ⟨gv, 0, none⟩) R.rs.length c) ∧ w1.cell? ⟨gv, (lo s R.rs).length * 3, none⟩ = some (.string s) ∧ w1.cell? ⟨gv, (lo s R.rs).length * 3 + 1, none⟩ = some (.string r.b) ∧ w1.cell? ⟨gv, (lo s R.rs).length * 3 + 2, none⟩ = some (.int .i64 (r.k : Int))) := fun w1 b => by
    have h := H.later b
    obtain ⟨h0, h1, h2⟩ := h.own.cells _ r (at_place hok.srt s hl)
    rw [(look_mem hl).2] at h0
    exact ⟨h.cell 0 _ rfl, h0, h1, h2⟩
  have hPw : Hid (∀ j, P j → j < w.heap.size) := fun j hj => (H.low j hj).2
  have hlen1 := ok1.len
  replace ok1 := hid ok1
  obtain ⟨rb, hrb⟩ : ∃ x, x = r.b := ⟨_, rfl⟩
  obtain ⟨rk, hrk⟩ : ∃ x, x = r.k := ⟨_, rfl⟩
  rw [← hrb, ← hrk] at HC ⊢
  obtain ⟨L, hL⟩ : ∃ L, L = (lo s R.rs).length := ⟨_, rfl⟩
  obtain ⟨N, hN⟩ : ∃ N, N = R.rs.length := ⟨_, rfl⟩
  rw [← hL] at HF HW HC hlt
  rw [← hN] at HC hlt
  have hNl : N ≤ 4096 := by rw [hN]; exact hok.len
  have i1 : (L : Int) < (N : Int) := by omega
  have hst2 : (s.toList == t.toList) = false := beq_eq_false_iff_ne.2 (fun e => hst (Lx.toList_inj e))
  replace hL := hid hL
  replace hN := hid hN
  replace hrb := hid hrb
  replace hrk := hid hrk
  replace hl2 := hid hl2
  clear H hok hl
  go_enter Try.func38, Try.ntmps38
  go_wp2_with fail
  refine HN.out.mono ?_
  rintro e w1 ⟨rfl, hw1⟩
  replace hw1 := hw1.symm
  subst hw1
  go_wp2_with fail
  refine HM.out.mono ?_
  rintro e w1 ⟨rfl, hw1⟩
  replace hw1 := hw1.symm
  subst hw1
  go_wp2_with fail
  refine HF.out.mono ?_
  rintro e w2 ⟨rfl, b2⟩
  obtain ⟨c0, d0, d1, d2⟩ := HC.out w2 b2
  have hPg : Hid (¬ P w2.heap.size) := fun h => by have := hPw.out _ h; have := b2.size; omega
  have k3 : Hid ((w2.alloc (.cells #[.string s, .string rb, .int .i64 (rk : Int)] 88)).heap[w2.heap.size]? = some (.cells #[.string s, .string rb, .int .i64 (rk : Int)] 88)) := new_at _ _
  have B3 : Hid (Below w.heap.size w (w2.alloc (.cells #[.string s, .string rb, .int .i64 (rk : Int)] 88))) := b2.trans ((box_below _ _).mono b2.size)
  have b2s : Hid (w.heap.size ≤ w2.heap.size) := b2.size
  replace b2 := hid b2
  go_wp2_with fail
  generalize w2.alloc (.cells #[.string s, .string rb, .int .i64 (rk : Int)] 88) = w3 at *
  generalize w2.heap.size = gf at *
  refine (HW.out w3 B3.out).mono ?_
  rintro e w4 ⟨rfl, T4⟩
  obtain ⟨v4, P4, D4, F4, hP4⟩ := T4
  have k4 : Hid (w4.heap[gf]? = some (.cells #[.string s, .string rb, .int .i64 (rk : Int)] 88)) := (F4.block gf (blk_lt k3.out) hPg.out).trans k3.out
  have hP4g : Hid (¬ P4 gf) := fun h => by
    rcases hP4 gf h with h1 | h1
    · exact hPg.out h1
    · have := blk_lt k3.out; omega
  have FW4 : Hid (Fr P w w4) := fr_before B3.out F4
  have hPP4 : Hid (∀ j, P4 j → P j ∨ w.heap.size ≤ j) := fun j h => (hP4 j h).imp id (fun h => Nat.le_trans B3.out.size h)
  have hgw : Hid (w.heap.size ≤ gf) := b2s.out
  have hb4 : base ≤ w4.heap.size := Nat.le_trans hb (Nat.le_trans B3.out.size F4.size)
  replace D4 := hid D4
  clear F4 hP4 k3 B3 c0 d0 d1 d2 HW HC i1 hlt
  have HG := hid (rfind_no t hl2.out w4 D4.out ok1.out)
  obtain ⟨K, hKK⟩ : ∃ K, K = (lo t (rm s R.rs)).length := ⟨_, rfl⟩
  rw [← hKK] at HG
  replace hKK := hid hKK
  go_wp2_with fail
  refine HG.out.mono ?_
  rintro e w6 ⟨rfl, b5⟩
  have D6 := D4.out.later b5
  have k6 : w6.heap[gf]? = some (.cells #[.string s, .string rb, .int .i64 (rk : Int)] 88) := (b5.block gf (blk_lt k4.out)).trans k4.out
  obtain ⟨P6, hP6e⟩ : ∃ P6, P6 = P4 := ⟨_, rfl⟩
  have hP6g : Hid (¬ P6 gf) := by rw [hP6e]; exact hP4g
  obtain ⟨v6, hv6⟩ : ∃ v6, v6 = v4 := ⟨_, rfl⟩
  rw [← hP6e, ← hv6] at D6
  obtain ⟨X, hX⟩ : ∃ X, X = rm s R.rs := ⟨_, rfl⟩
  rw [← hX] at D6
  have hup : Hid (X.take K ++ [(⟨t, rb, rk⟩ : RF)] ++ X.drop K = up t ⟨t, rb, rk⟩ (rm s R.rs)) := by
    show _ = _
    rw [hKK.out, hX, take_lo ok1.out.srt, drop_none ok1.out.srt t hl2.out]; simp [up]
  have hKX : K ≤ X.length := by rw [hKK.out, hX]; exact lo_le _ _
  have hX4 : X.length ≤ 4096 := by rw [hX]; exact ok1.out.len
  have FW6 : Hid (Fr P w w6) := FW4.out.below b5
  have hPP6 : Hid (∀ j, P6 j → P j ∨ w.heap.size ≤ j) := fun j h => hPP4.out j (hP6e ▸ h)
  replace hX := hid hX
  clear b5 HG hP6e hv6
  obtain ⟨a6, c6, rfl, hnc6, _, _⟩ := D6.own.shape
  have q0 := cell_of k6 0 (.string s) rfl
  have g0' := fz_of k6 0
  obtain ⟨w7, hw7⟩ : ∃ W, W = w6.setCell ⟨gf, 0, none⟩ (.string t) := ⟨_, rfl⟩
  have k7 : w7.heap[gf]? = some (.cells #[.string t, .string rb, .int .i64 (rk : Int)] 88) := by rw [hw7]; exact set_of k6 0 (.string t)
  have D7 : RDk w7 base g (.slice a6 X.length c6) P6 { R with rs := X } := by
    rw [hw7]
    exact D6.kept (fun j hj => set_ne _ _ _ _ _ (fun e => hP6g.out (e ▸ hj))) (by simp)
  have FW7 : Hid (Fr P w w7) := by rw [hw7]; exact FW6.out.set (.inr hgw.out) 0 _
  obtain ⟨u1, u2, v9, W9, v10, W10, v11, W11, s1, s2, r9, r10, r11, o11, B9, B10, B11⟩ := three w7 K ⟨t, rb, rk⟩ D7.own hKX hX4
  rw [hup.out] at o11
  obtain ⟨a11, c11, hv11, _⟩ := o11.shape
  generalize (up t ⟨t, rb, rk⟩ (rm s R.rs)).length = n11 at hv11
  subst hv11
  obtain ⟨L1, L2⟩ := RDk.laid D7 (Nat.le_trans hb FW7.out.size) o11 B11
  have TL : Hid (Tk w (W11.setCell ⟨g, 0, none⟩ (.slice a11 n11 c11)) base g P { R with rs := up t ⟨t, rb, rk⟩ (rm s R.rs) }) := by
    refine ⟨_, _, L1, fr_comp FW7.out hPP6.out L2, fun j hj => ?_⟩
    rcases hj with h | h
    · exact hPP6.out j h
    · exact .inr (Nat.le_trans FW7.out.size h.1)
  have x8 : (w7.alloc (.cells #[] 88)).cell? ⟨g, 0, none⟩ = some (.slice a6 X.length c6) := (D7.later (box_below _ _)).cell 0 _ rfl
  have x10 : W10.cell? ⟨g, 0, none⟩ = some (.slice a6 X.length c6) := (D7.later B10).cell 0 _ rfl
  have x11 : W11.cell? ⟨g, 0, none⟩ = some (.slice a6 X.length c6) := (D7.later B11).cell 0 _ rfl
  have y11 : W11.frozen? ⟨g, 0, none⟩ = false := fz_of (D7.later B11).cells 0
  have k9 := (B9.block gf (blk_lt k7)).trans k7
  have e0 := cell_of k9 0 (.string t) rfl
  have e1 := cell_of k9 1 (.string rb) rfl
  have e2 := cell_of k9 2 (.int .i64 (rk : Int)) rfl
  have ew7 := hw7.symm
  replace r9 := hid r9
  replace r10 := hid r10
  replace r11 := hid r11
  obtain ⟨Xn, hXn⟩ : ∃ n, n = X.length := ⟨_, rfl⟩
  rw [← hXn] at s1 s2 x8 x10 x11
  replace hXn := hid hXn
  clear hw7 B9 B10 B11 o11 L1 L2 D6 D7 k9 k7 k6 hKX hX4
  go_wp2_with (at_builtin; first
    | refine wpList_append_run (by rfl) (.tmp 56) (.tmp 62) 67 67 rfl (.slice (some ⟨w7.heap.size, 0, none⟩) 0 0) u1 v9 (by rfl) (by rfl) r9.out ?_
    | refine wpList_append_run (by rfl) (.tmp 64) (.tmp 66) 67 67 rfl v9 (.slice (some ⟨W9.heap.size, 0, none⟩) 1 1) v10 (by rfl) (by rfl) r10.out ?_
    | refine wpList_append_run (by rfl) (.tmp 69) (.tmp 75) 67 67 rfl v10 u2 (.slice a11 n11 c11) (by rfl) (by rfl) r11.out ?_)
  go_ret
  exact ⟨rfl, TL.out⟩
set_option maxHeartbeats 4000000 in
set_option maxRecDepth 100000 in
theorem rename_over {base g : Nat} {v : Value} {P : Nat → Prop} {R : RS} (s : ByteArray) (t : ByteArray) (ht : t.size ≤ 9223372036854775807) (hs : s.size ≤ 9223372036854775807) (w : World) (H : RDk w base g v P R) (hok : RS.ok R) (hb : base ≤ w.heap.size) (hi : isN s = true) (hj : isN t = true) (r : RF) (hl : lkp R.rs s = some r) (hst : s ≠ t) (r2 : RF) (hl2 : lkp (rm s R.rs) t = some r2) : Calls Try.prog 38 #[.pointer (some ⟨g, 0, none⟩), .string s, .string t] w fun e w' => e = .returned (.int .i64 0) ∧ Tk w w' base g P { R with rs := up t ⟨t, r.b, r.k⟩ (rm s R.rs) } := by
  have HN := rname_any s hs w
  rw [hi] at HN
  replace HN := hid HN
  have HM := rname_any t ht w
  rw [hj] at HM
  replace HM := hid HM
  have HF := hid (rfind_yes s r hl w H hok)
  have ok1 := ok_rm hok s
  have HW : Hid (∀ w1, Below w.heap.size w w1 → Calls Try.prog 59 #[.pointer (some ⟨g, 0, none⟩), .int .i64 ((lo s R.rs).length : Int)] w1 fun e w' => e = .returned (.tuple #[]) ∧ Tk w1 w' base g P { R with rs := rm s R.rs }) := fun w1 b => without_any s hs w1 (H.later b) hok (Nat.le_trans hb b.size) r hl
  obtain ⟨a, c, rfl, hnc, hsome, _⟩ := H.own.shape
  have hlt : (lo s R.rs).length < R.rs.length := (List.getElem?_eq_some_iff.1 (at_place hok.srt s hl)).1
  obtain ⟨gv, rfl⟩ := hsome (by omega)
  have HC : Hid (∀ w1, Below w.heap.size w w1 → w1.cell? ⟨g, 0, none⟩ = some (.slice (some ⟨gv, 0, none⟩) R.rs.length c) ∧ w1.cell? ⟨gv, (lo s R.rs).length * 3, none⟩ = some (.string s) ∧ w1.cell? ⟨gv, (lo s R.rs).length * 3 + 1, none⟩ = some (.string r.b) ∧ w1.cell? ⟨gv, (lo s R.rs).length * 3 + 2, none⟩ = some (.int .i64 (r.k : Int))) := fun w1 b => by
    have h := H.later b
    obtain ⟨h0, h1, h2⟩ := h.own.cells _ r (at_place hok.srt s hl)
    rw [(look_mem hl).2] at h0
    exact ⟨h.cell 0 _ rfl, h0, h1, h2⟩
  have hPw : Hid (∀ j, P j → j < w.heap.size) := fun j hj => (H.low j hj).2
  have hlen1 := ok1.len
  replace ok1 := hid ok1
  obtain ⟨rb, hrb⟩ : ∃ x, x = r.b := ⟨_, rfl⟩
  obtain ⟨rk, hrk⟩ : ∃ x, x = r.k := ⟨_, rfl⟩
  rw [← hrb, ← hrk] at HC ⊢
  obtain ⟨L, hL⟩ : ∃ L, L = (lo s R.rs).length := ⟨_, rfl⟩
  obtain ⟨N, hN⟩ : ∃ N, N = R.rs.length := ⟨_, rfl⟩
  rw [← hL] at HF HW HC hlt
  rw [← hN] at HC hlt
  have hNl : N ≤ 4096 := by rw [hN]; exact hok.len
  have i1 : (L : Int) < (N : Int) := by omega
  have hst2 : (s.toList == t.toList) = false := beq_eq_false_iff_ne.2 (fun e => hst (Lx.toList_inj e))
  replace hL := hid hL
  replace hN := hid hN
  replace hrb := hid hrb
  replace hrk := hid hrk
  replace hl2 := hid hl2
  clear H hok hl
  go_enter Try.func38, Try.ntmps38
  go_wp2_with fail
  refine HN.out.mono ?_
  rintro e w1 ⟨rfl, hw1⟩
  replace hw1 := hw1.symm
  subst hw1
  go_wp2_with fail
  refine HM.out.mono ?_
  rintro e w1 ⟨rfl, hw1⟩
  replace hw1 := hw1.symm
  subst hw1
  go_wp2_with fail
  refine HF.out.mono ?_
  rintro e w2 ⟨rfl, b2⟩
  obtain ⟨c0, d0, d1, d2⟩ := HC.out w2 b2
  have hPg : Hid (¬ P w2.heap.size) := fun h => by have := hPw.out _ h; have := b2.size; omega
  have k3 : Hid ((w2.alloc (.cells #[.string s, .string rb, .int .i64 (rk : Int)] 88)).heap[w2.heap.size]? = some (.cells #[.string s, .string rb, .int .i64 (rk : Int)] 88)) := new_at _ _
  have B3 : Hid (Below w.heap.size w (w2.alloc (.cells #[.string s, .string rb, .int .i64 (rk : Int)] 88))) := b2.trans ((box_below _ _).mono b2.size)
  have b2s : Hid (w.heap.size ≤ w2.heap.size) := b2.size
  replace b2 := hid b2
  go_wp2_with fail
  generalize w2.alloc (.cells #[.string s, .string rb, .int .i64 (rk : Int)] 88) = w3 at *
  generalize w2.heap.size = gf at *
  refine (HW.out w3 B3.out).mono ?_
  rintro e w4 ⟨rfl, T4⟩
  obtain ⟨v4, P4, D4, F4, hP4⟩ := T4
  have k4 : Hid (w4.heap[gf]? = some (.cells #[.string s, .string rb, .int .i64 (rk : Int)] 88)) := (F4.block gf (blk_lt k3.out) hPg.out).trans k3.out
  have hP4g : Hid (¬ P4 gf) := fun h => by
    rcases hP4 gf h with h1 | h1
    · exact hPg.out h1
    · have := blk_lt k3.out; omega
  have FW4 : Hid (Fr P w w4) := fr_before B3.out F4
  have hPP4 : Hid (∀ j, P4 j → P j ∨ w.heap.size ≤ j) := fun j h => (hP4 j h).imp id (fun h => Nat.le_trans B3.out.size h)
  have hgw : Hid (w.heap.size ≤ gf) := b2s.out
  have hb4 : base ≤ w4.heap.size := Nat.le_trans hb (Nat.le_trans B3.out.size F4.size)
  replace D4 := hid D4
  clear F4 hP4 k3 B3 c0 d0 d1 d2 HW HC i1 hlt
  have HG := hid (rfind_yes t r2 hl2.out w4 D4.out ok1.out)
  have HV : Hid (∀ w1, Below w4.heap.size w4 w1 → Calls Try.prog 59 #[.pointer (some ⟨g, 0, none⟩), .int .i64 ((lo t (rm s R.rs)).length : Int)] w1 fun e w' => e = .returned (.tuple #[]) ∧ Tk w1 w' base g P4 { R with rs := rm t (rm s R.rs) }) := fun w1 b => without_any t ht w1 (D4.out.later b) ok1.out (Nat.le_trans hb4 b.size) r2 hl2.out
  have hK : (lo t (rm t (rm s R.rs))).length = (lo t (rm s R.rs)).length := by rw [lo_rm]
  obtain ⟨K, hKK⟩ : ∃ K, K = (lo t (rm s R.rs)).length := ⟨_, rfl⟩
  rw [← hKK] at HG HV hK
  replace hKK := hid hKK
  replace hK := hid hK
  go_wp2_with fail
  refine HG.out.mono ?_
  rintro e w5 ⟨rfl, b5⟩
  have k5 : Hid (w5.heap[gf]? = some (.cells #[.string s, .string rb, .int .i64 (rk : Int)] 88)) := (b5.block gf (blk_lt k4.out)).trans k4.out
  replace b5 := hid b5
  go_wp2_with fail
  refine (HV.out w5 b5.out).mono ?_
  rintro e w6 ⟨rfl, T6⟩
  obtain ⟨v6, P6, D6, F6, hP6⟩ := tk_behind b5.out T6
  have k6 : w6.heap[gf]? = some (.cells #[.string s, .string rb, .int .i64 (rk : Int)] 88) := (F6.block gf (blk_lt k4.out) hP4g.out).trans k4.out
  have hP6g : Hid (¬ P6 gf) := fun h => by
    rcases hP6 gf h with h1 | h1
    · exact hP4g.out h1
    · have := blk_lt k4.out; omega
  obtain ⟨X, hX⟩ : ∃ X, X = rm t (rm s R.rs) := ⟨_, rfl⟩
  rw [← hX] at D6 hK
  have hup : Hid (X.take K ++ [(⟨t, rb, rk⟩ : RF)] ++ X.drop K = up t ⟨t, rb, rk⟩ (rm s R.rs)) := by
    show _ = _
    have hs1 := srt_rm ok1.out.srt t
    have hn : lkp (rm t (rm s R.rs)) t = none := by rw [look_rm ok1.out.srt, if_pos rfl]
    rw [← hK.out, hX, take_lo hs1, drop_none hs1 t hn, ← up_rm t _ (rm s R.rs)]; simp [up]
  have hKX : K ≤ X.length := by rw [← hK.out]; exact lo_le _ _
  have hX4 : X.length ≤ 4096 := by rw [hX]; exact Nat.le_trans (rm_len t ok1.out.srt) ok1.out.len
  have FW6 : Hid (Fr P w w6) := fr_comp FW4.out hPP4.out F6
  have hPP6 : Hid (∀ j, P6 j → P j ∨ w.heap.size ≤ j) := fun j h => by
    rcases hP6 j h with h1 | h1
    · exact hPP4.out j h1
    · exact .inr (Nat.le_trans FW4.out.size h1)
  replace hX := hid hX
  clear T6 F6 hP6 HG HV k5 hK
  obtain ⟨a6, c6, rfl, hnc6, _, _⟩ := D6.own.shape
  have q0 := cell_of k6 0 (.string s) rfl
  have g0' := fz_of k6 0
  obtain ⟨w7, hw7⟩ : ∃ W, W = w6.setCell ⟨gf, 0, none⟩ (.string t) := ⟨_, rfl⟩
  have k7 : w7.heap[gf]? = some (.cells #[.string t, .string rb, .int .i64 (rk : Int)] 88) := by rw [hw7]; exact set_of k6 0 (.string t)
  have D7 : RDk w7 base g (.slice a6 X.length c6) P6 { R with rs := X } := by
    rw [hw7]
    exact D6.kept (fun j hj => set_ne _ _ _ _ _ (fun e => hP6g.out (e ▸ hj))) (by simp)
  have FW7 : Hid (Fr P w w7) := by rw [hw7]; exact FW6.out.set (.inr hgw.out) 0 _
  obtain ⟨u1, u2, v9, W9, v10, W10, v11, W11, s1, s2, r9, r10, r11, o11, B9, B10, B11⟩ := three w7 K ⟨t, rb, rk⟩ D7.own hKX hX4
  rw [hup.out] at o11
  obtain ⟨a11, c11, hv11, _⟩ := o11.shape
  generalize (up t ⟨t, rb, rk⟩ (rm s R.rs)).length = n11 at hv11
  subst hv11
  obtain ⟨L1, L2⟩ := RDk.laid D7 (Nat.le_trans hb FW7.out.size) o11 B11
  have TL : Hid (Tk w (W11.setCell ⟨g, 0, none⟩ (.slice a11 n11 c11)) base g P { R with rs := up t ⟨t, rb, rk⟩ (rm s R.rs) }) := by
    refine ⟨_, _, L1, fr_comp FW7.out hPP6.out L2, fun j hj => ?_⟩
    rcases hj with h | h
    · exact hPP6.out j h
    · exact .inr (Nat.le_trans FW7.out.size h.1)
  have x8 : (w7.alloc (.cells #[] 88)).cell? ⟨g, 0, none⟩ = some (.slice a6 X.length c6) := (D7.later (box_below _ _)).cell 0 _ rfl
  have x10 : W10.cell? ⟨g, 0, none⟩ = some (.slice a6 X.length c6) := (D7.later B10).cell 0 _ rfl
  have x11 : W11.cell? ⟨g, 0, none⟩ = some (.slice a6 X.length c6) := (D7.later B11).cell 0 _ rfl
  have y11 : W11.frozen? ⟨g, 0, none⟩ = false := fz_of (D7.later B11).cells 0
  have k9 := (B9.block gf (blk_lt k7)).trans k7
  have e0 := cell_of k9 0 (.string t) rfl
  have e1 := cell_of k9 1 (.string rb) rfl
  have e2 := cell_of k9 2 (.int .i64 (rk : Int)) rfl
  have ew7 := hw7.symm
  replace r9 := hid r9
  replace r10 := hid r10
  replace r11 := hid r11
  obtain ⟨Xn, hXn⟩ : ∃ n, n = X.length := ⟨_, rfl⟩
  rw [← hXn] at s1 s2 x8 x10 x11
  replace hXn := hid hXn
  clear hw7 B9 B10 B11 o11 L1 L2 D6 D7 k9 k7 k6 hKX hX4
  go_wp2_with (at_builtin; first
    | refine wpList_append_run (by rfl) (.tmp 56) (.tmp 62) 67 67 rfl (.slice (some ⟨w7.heap.size, 0, none⟩) 0 0) u1 v9 (by rfl) (by rfl) r9.out ?_
    | refine wpList_append_run (by rfl) (.tmp 64) (.tmp 66) 67 67 rfl v9 (.slice (some ⟨W9.heap.size, 0, none⟩) 1 1) v10 (by rfl) (by rfl) r10.out ?_
    | refine wpList_append_run (by rfl) (.tmp 69) (.tmp 75) 67 67 rfl v10 u2 (.slice a11 n11 c11) (by rfl) (by rfl) r11.out ?_)
  go_ret
  exact ⟨rfl, TL.out⟩
theorem rename_any {base g : Nat} {v : Value} {P : Nat → Prop} {R : RS} (s : ByteArray) (hs : s.size ≤ 9223372036854775807) (t : ByteArray) (ht : t.size ≤ 9223372036854775807) (w : World) (H : RDk w base g v P R) (hok : RS.ok R) (hb : base ≤ w.heap.size) : Calls Try.prog 38 #[.pointer (some ⟨g, 0, none⟩), .string s, .string t] w fun e w' => e = .returned (.int .i64 (rrnm R s t).2) ∧ Tk w w' base g P (rrnm R s t).1 := by
  unfold rrnm
  by_cases hi : isN s = false
  · rw [if_pos (.inl hi)]; exact rename_bad s t ht hs w H hok hb hi
  · replace hi : isN s = true := by simpa using hi
    by_cases hj : isN t = false
    · rw [if_pos (.inr hj)]; exact rename_bad2 s t ht hs w H hok hb hi hj
    · replace hj : isN t = true := by simpa using hj
      rw [if_neg (by simp [hi, hj])]
      cases hl : lkp R.rs s with
      | none => exact rename_none s t ht hs w H hok hb hi hj hl
      | some r =>
        by_cases hst : s = t
        · simp only [if_pos hst]; exact rename_same s t ht hs w H hok hb hi hj r hl hst
        · simp only [if_neg hst]
          cases hl2 : lkp (rm s R.rs) t with
          | none => exact rename_new s t ht hs w H hok hb hi hj r hl hst hl2
          | some r2 => exact rename_over s t ht hs w H hok hb hi hj r hl hst r2 hl2
end Go.Proofs.Ytgffojafdjcdoaa.Qf

/- NamesSorts walked. -/
import Derived.Test.YtcjlgjlediihoaaDoorTs
namespace Go.Proofs.YtcjlgjlediihoaaDoor.Lw
open Go.ChangeShapes Go.WideShapes Go.ChangeAt Go.RowKit
open Go.Proofs.YtcjlgjlediihoaaDoor.Gr
open Go.Proofs.YtcjlgjlediihoaaDoor.Es
open Go.Proofs.YtcjlgjlediihoaaDoor.Rw (Fm Tb numbers_any)
open Go.Proofs.YtcjlgjlediihoaaDoor.Cf
open Go.Proofs.YtcjlgjlediihoaaDoor.Sy (sort_any)
open Go.Proofs.YtcjlgjlediihoaaDoor.Rv (rsort_any)
open Go.Proofs.YtcjlgjlediihoaaDoor.Ts
set_option linter.unusedVariables false
set_option linter.unusedSimpArgs false

def sA : ByteArray := ⟨#[97]⟩
def sB : ByteArray := ⟨#[98]⟩
theorem ba_std : Std [sB, sA] [sA, sB] := by
  refine ⟨List.Perm.swap _ _ _, ?_⟩
  have h : le sA sB := by
    unfold le
    decide +kernel
  exact List.pairwise_pair.2 h
theorem two_sl {W : World} {g : Nat} {x y : ByteArray} (h : W.heap[g]? = some (.cells #[.string x, .string y] 9)) (hx : x.size ≤ 281474976710656) (hy : y.size ≤ 281474976710656) : eStr.Sl W (some ⟨g, 0, none⟩) 2 2 [x, y] := by
  refine ⟨rfl, Nat.le_refl _, (fun e => by cases e), ?_, ?_⟩
  · intro z hz
    rcases List.mem_cons.1 hz with rfl | hz
    · exact hx
    · rw [List.mem_singleton] at hz; subst hz; exact hy
  · intro b o p e hl
    cases e
    refine ⟨rfl, fun i hi q u hq => ?_⟩
    match q, hq with
    | 0, hq =>
      match i, hi with
      | 0, _ => simp [eStr] at hq; subst hq; exact cell_of h 0 _ rfl
      | 1, _ => simp [eStr] at hq; subst hq; exact cell_of h 1 _ rfl
theorem std_ok {xs ys : List ByteArray} (h : Std xs ys) (hx : ∀ x ∈ xs, eStr.ok x) : ∀ y ∈ ys, eStr.ok y := fun y hy => hx y (h.1.subset hy)
/-- The first of a slice. -/
theorem sl_take {w : World} {a : Option Addr} {n c : Nat} {xs : List ByteArray} (H : eStr.Sl w a n c xs) {k : Nat} (hk : k ≤ n) (h0 : a = none → k = 0 ∧ c = 0) : eStr.Sl w a k c (xs.take k) :=
  ⟨by rw [List.length_take, H.n]; omega, Nat.le_trans hk H.c, h0, fun x hx => H.ok x (List.mem_of_mem_take hx), fun b o p h1 h2 => ⟨(H.cells b o p h1 (by omega)).1, fun i hi => by
    have h := (H.cells b o p h1 (by omega)).2 i (by omega)
    have e : (xs.take k).getD i eStr.z = xs.getD i eStr.z := by
      rw [List.getD_eq_getElem?_getD, List.getD_eq_getElem?_getD, List.getElem?_take_of_lt hi]
    rw [e]
    exact h⟩⟩
theorem sl_keep {w w' : World} {a : Option Addr} {n c : Nat} {xs : List ByteArray} (H : eStr.Sl w a n c xs) (hb : 0 < n → ∀ ad, a = some ad → w'.heap[ad.block]? = w.heap[ad.block]?) : eStr.Sl w' a n c xs := by
  by_cases h0 : 0 < n
  · exact H.block (hb h0)
  · exact ⟨H.n, H.c, H.nil, H.ok, fun b o p _ h => absurd h h0⟩
set_option maxRecDepth 20000 in
set_option maxHeartbeats 2000000 in
theorem sorts_low (a : Option Addr) (n c : Nat) (xs : List ByteArray) (w : World) (H : eStr.Sl w a n c xs) (hn8 : n ≤ 2000) (F : Hid (Fm w)) (U : Hid (Tb w)) :
    Calls Tryd.prog 4 #[.slice a n c] w fun e w' => e = .returned (.bool true) ∧ Below w.heap.size w w' := by
  have hl := H.n
  have hcap := H.c
  have HL : Hid (∀ W, Below w.heap.size w W → eStr.Sl W a n c xs) := fun W b => H.later b
  have hok : Hid (∀ x ∈ xs, eStr.ok x) := H.ok
  have A0 := Acc.made eStr w
  have b0 := box_below w (.cells #[] 9)
  obtain ⟨v1, W1, r1, A1⟩ := A0.app (H.later b0) (by show (0 + n) * 16 ≤ _; omega) (by show 0 + n ≤ _; omega)
  rw [List.nil_append] at A1
  replace r1 : (Builtin.append_ #[39, 39] 39 #[.slice (some ⟨w.heap.size, 0, none⟩) 0 0, .slice a n c]).run Tryd.prog (w.alloc (.cells #[] 9)) = .ok v1 W1 := r1
  obtain ⟨a1, c1, hv1⟩ := A1.shape
  rw [hl] at hv1
  subst hv1
  have c1s := hid (sort_any a1 n c1 xs W1 (A1.sl hok.out).2 (by omega) (hid (F.out.later A1.lo)) (hid (U.out.later A1.lo)))
  replace r1 := hid r1
  replace A1 := hid A1
  replace hl := hid hl
  clear A0 b0 H
  have hlow : ¬ (2000 : Int) < (n : Int) := by omega
  go_enter Tryd.func4, Tryd.ntmps4
  go_wp2_with (at_builtin; have hr := r1.out; clear r1; refine wpList_append_run rfl (.tmp 13) (.tmp 14) 39 39 rfl (.slice (some ⟨w.heap.size, 0, none⟩) 0 0) (.slice a n c) (.slice a1 n c1) rfl rfl hr ?_; clear hr)
  refine c1s.out.mono ?_
  rintro e w2 ⟨ga, ys, rfl, A2, S2⟩
  have b2 : Hid (Below w.heap.size w w2) := Below.up A1.out.lo A2.lo
  have c2s := hid (rsort_any a n c xs w2 (HL.out w2 b2.out) (by omega))
  replace A2 := hid A2
  replace S2 := hid S2
  clear c1s
  go_wp2_with fail
  refine c2s.out.mono ?_
  rintro e w3 ⟨v3, zs, rfl, A3, S3⟩
  have b3 : Hid (Below w.heap.size w w3) := Below.up b2.out A3.lo
  obtain ⟨a3, c3, hv3⟩ := A3.shape
  have hyz : Hid (ys = zs) := S2.out.one S3
  have hzl : zs.length = n := by rw [← hl.out]; exact S3.1.length_eq
  rw [hzl] at hv3
  subst hv3
  replace A3 := hid A3
  replace S3 := hid S3
  replace hzl := hid hzl
  obtain ⟨g4, hg4⟩ : ∃ g, g = w3.heap.size := ⟨_, rfl⟩
  obtain ⟨W4, hW4⟩ : ∃ W, W = w3.alloc (.cells #[.string sB, .string sA] 9) := ⟨_, rfl⟩
  have k4 : W4.heap[g4]? = some (.cells #[.string sB, .string sA] 9) := by rw [hW4, hg4]; exact new_at _ _
  have bx4 : Below w3.heap.size w3 W4 := by rw [hW4]; exact box_below _ _
  have b4 : Hid (Below w.heap.size w W4) := Below.up b3.out bx4
  have c4s := hid (sort_any (some ⟨g4, 0, none⟩) 2 2 [sB, sA] W4 (two_sl k4 (by decide) (by decide)) (by decide) (hid (F.out.later b4.out)) (hid (U.out.later b4.out)))
  have e4 : Hid (w3.alloc (.cells #[.string { data := #[98] }, .string { data := #[97] }] 9) = W4) := hW4.symm
  replace bx4 := hid bx4
  replace hg4 := hid hg4
  clear c2s k4 hW4
  go_wp2_with fail
  rw [e4.out, ← hg4.out]
  refine c4s.out.mono ?_
  rintro e w5 ⟨g5, ts, rfl, A5, S5⟩
  have hts : ts = [sA, sB] := S5.one ba_std
  subst hts
  have b5 : Hid (Below w.heap.size w w5) := Below.up b4.out A5.lo
  have b25 : Hid (Below w2.heap.size w2 w5) := Below.up (Below.up A3.out.lo bx4.out) A5.lo
  have b35 : Hid (Below w3.heap.size w3 w5) := Below.up bx4.out A5.lo
  have hya := (A2.out.later b25.out).sl (std_ok S2.out hok.out)
  have hza := (A3.out.later b35.out).sl (std_ok S3.out hok.out)
  have c5s := hid (texts_any (some ⟨ga, 0, none⟩) a3 n n n c3 ys zs w5 hya.2 hza.2 (by omega) (by omega))
  rw [hyz.out, decide_eq_true rfl] at c5s
  replace A5 := hid A5
  clear S5 hya hza c4s
  go_wp2_with fail
  refine c5s.out.mono ?_
  rintro e w6 ⟨rfl, b56⟩
  have b6 : Hid (Below w.heap.size w w6) := Below.up b5.out b56
  obtain ⟨g7, hg7⟩ : ∃ g, g = w6.heap.size := ⟨_, rfl⟩
  obtain ⟨W7, hW7⟩ : ∃ W, W = w6.alloc (.cells #[.string sA, .string sB] 9) := ⟨_, rfl⟩
  have k7 : W7.heap[g7]? = some (.cells #[.string sA, .string sB] 9) := by rw [hW7, hg7]; exact new_at _ _
  have bx7 : Below w6.heap.size w6 W7 := by rw [hW7]; exact box_below _ _
  have b57 : Below w5.heap.size w5 W7 := Below.up b56 bx7
  have h5 := (A5.out.later b57).sl (fun y hy => by
    rcases List.mem_cons.1 hy with rfl | hy
    · show (1 : Nat) ≤ _; decide
    · rw [List.mem_singleton] at hy; subst hy; show (1 : Nat) ≤ _; decide)
  have c7s := hid (texts_any (some ⟨g5, 0, none⟩) (some ⟨g7, 0, none⟩) 2 2 2 2 [sA, sB] [sA, sB] W7 h5.2 (two_sl k7 (by decide) (by decide)) (by decide) (by decide))
  rw [decide_eq_true rfl] at c7s
  have e7 : Hid (w6.alloc (.cells #[.string { data := #[97] }, .string { data := #[98] }] 9) = W7) := hW7.symm
  replace bx7 := hid bx7
  replace hg7 := hid hg7
  replace b57 := hid b57
  clear c5s b56 k7 hW7 h5
  go_wp2_with fail
  rw [e7.out, ← hg7.out]
  refine c7s.out.mono ?_
  rintro e w8 ⟨rfl, b78⟩
  have b8 : Hid (Below w.heap.size w w8) := Below.up (Below.up b6.out bx7.out) b78
  have b28 : Hid (Below w2.heap.size w2 w8) := Below.up b25.out (Below.up b57.out b78)
  replace b78 := hid b78
  clear c7s
  go_wp2_with (first | (go_at_call 8; refine (numbers_any _).mono ?_; rintro e w9 ⟨rfl, hw9⟩; subst hw9))
  have hpad : Hid (0 < n → Pad w9 ga 9 n) := by
    intro h0
    have hown := (A2.out.later b28.out).o
    have hyl : ys.length = n := by rw [← hl.out]; exact S2.out.1.length_eq
    obtain ⟨b, hb, _, _, hp⟩ := own_pad (n := n) (by have h := hown; unfold El.Own at h; rw [hyl] at h; exact h) h0
    cases hb
    rwa [show eStr.k = 1 from rfl, Nat.mul_one] at hp
  have hga : Hid (W1.heap.size ≤ ga) := (own_lt A2.out.o ga rfl).1
  have b18 : Hid (Below W1.heap.size W1 w9) := Below.up A2.out.lo b28.out
  clear A2 A3 A5 b57 b78 b25 b35 e4 e7
  go_loopw [7] (fun ii wr => ∃ i : Nat, ii = .int .i64 i ∧ i ≤ n ∧ Hid (0 < n → Pad wr ga 9 n) ∧ Hid (Fp (fun j => j = ga) w9 wr)) (fun ii _ => n - (intOf ii).toNat)
  case atStart => exact ⟨0, rfl, by omega, hpad, Fp.refl _ _⟩
  case round =>
    obtain ⟨i, rfl, hi, hP, hF⟩ := hrel
    by_cases hlt : i < n
    · obtain ⟨u, hu⟩ := (hP.out (by omega)).cell i hlt
      have hz := (hP.out (by omega)).fz i
      have jk0 : (i : Int) < (n : Int) := by omega
      have jo0 : (0 : Int) ≤ (i : Int) := by omega
      have hP' : Hid (0 < n → Pad (wr.setCell ⟨ga, i, none⟩ (.string { data := #[115, 112, 111, 105, 108, 116] })) ga 9 n) := fun h => (hP.out h).set i _
      have hF' : Hid (Fp (fun j => j = ga) w9 (wr.setCell ⟨ga, i, none⟩ (.string { data := #[115, 112, 111, 105, 108, 116] }))) := hF.out.set (.inl rfl) _ _
      go_wp2_with fail
      go_roundw
      case rel => exact ⟨i + 1, by go_num, by omega, hP', hF'⟩
      case measure => simp [intOf]; omega
    · have hie : i = n := by omega
      subst hie
      have s1 : eStr.Sl wr a1 i c1 xs := sl_keep ((A1.out.sl hok.out).2.later b18.out) (fun h0 ad had => by
        have h1 := (own_lt A1.out.o ad.block (by rw [had]; rfl)).2
        exact hF.out.block ad.block (Nat.lt_of_lt_of_le h1 b18.out.size) (fun e => by have := hga.out; omega))
      have s2 : eStr.Sl wr a i c xs := sl_keep (HL.out w9 b8.out) (fun h0 ad had => by
        subst had
        have h2 : ad.block < w.heap.size := by
          obtain ⟨b, o, p⟩ := ad
          have h := (HL.out w (Below.refl _ _)).cells b o p rfl h0
          have h4 := block_lt_of_cell (h.2 0 h0 0 _ rfl)
          exact h4
        have h3 := A1.out.lo.size
        exact hF.out.block ad.block (Nat.lt_of_lt_of_le h2 b8.out.size) (fun e => by have := hga.out; omega))
      have c9s := hid (texts_any a1 a i i c1 c xs xs wr s1 s2 (by omega) (by omega))
      rw [decide_eq_true rfl] at c9s
      have b9 : Hid (Below w.heap.size w wr) := Below.trans b8.out (hF.out.base b8.out.size (fun j hj => by have h1 := hga.out; have h2 := A1.out.lo.size; omega))
      clear s1 s2 hF hP
      go_wp2_with fail
      refine c9s.out.mono ?_
      rintro e w10 ⟨rfl, b10⟩
      have b11 : Hid (Below w.heap.size w w10) := Below.up b9.out b10
      go_wp2_with fail
      go_ret
      exact ⟨rfl, b11.out⟩
set_option maxRecDepth 20000 in
set_option maxHeartbeats 2000000 in
theorem sorts_high (m b o n c : Nat) (xs : List ByteArray) (w : World) (H : eStr.Sl w (some ⟨b, o, none⟩) n c xs) (hn8 : n = 2000) (hm : 2000 < m) (hmc : m ≤ c) (F : Hid (Fm w)) (U : Hid (Tb w)) :
    Calls Tryd.prog 4 #[.slice (some ⟨b, o, none⟩) m c] w fun e w' => e = .returned (.bool true) ∧ Below w.heap.size w w' := by
  have hl := H.n
  have hcap := H.c
  have HL : Hid (∀ W, Below w.heap.size w W → eStr.Sl W (some ⟨b, o, none⟩) n c xs) := fun W b => H.later b
  have hok : Hid (∀ x ∈ xs, eStr.ok x) := H.ok
  have A0 := Acc.made eStr w
  have b0 := box_below w (.cells #[] 9)
  obtain ⟨v1, W1, r1, A1⟩ := A0.app (H.later b0) (by show (0 + n) * 16 ≤ _; omega) (by show 0 + n ≤ _; omega)
  rw [List.nil_append] at A1
  replace r1 : (Builtin.append_ #[39, 39] 39 #[.slice (some ⟨w.heap.size, 0, none⟩) 0 0, .slice (some ⟨b, o, none⟩) n c]).run Tryd.prog (w.alloc (.cells #[] 9)) = .ok v1 W1 := r1
  obtain ⟨a1, c1, hv1⟩ := A1.shape
  rw [hl] at hv1
  subst hv1
  have c1s := hid (sort_any a1 n c1 xs W1 (A1.sl hok.out).2 (by omega) (hid (F.out.later A1.lo)) (hid (U.out.later A1.lo)))
  replace r1 := hid r1
  replace A1 := hid A1
  replace hl := hid hl
  clear A0 b0 H
  have hhi : (2000 : Int) < (m : Int) := by omega
  have hc2 : (2000 : Int) ≤ (c : Int) := by omega
  have hc3 : 2000 ≤ c := by omega
  have hc4 : ¬ c = 0 := by omega
  subst hn8
  go_enter Tryd.func4, Tryd.ntmps4
  go_wp2_with (at_builtin; have hr := r1.out; clear r1; refine wpList_append_run rfl (.tmp 13) (.tmp 14) 39 39 rfl (.slice (some ⟨w.heap.size, 0, none⟩) 0 0) (.slice (some ⟨b, o, none⟩) 2000 c) (.slice a1 2000 c1) rfl rfl hr ?_; clear hr)
  refine c1s.out.mono ?_
  rintro e w2 ⟨ga, ys, rfl, A2, S2⟩
  have b2 : Hid (Below w.heap.size w w2) := Below.up A1.out.lo A2.lo
  have c2s := hid (rsort_any (some ⟨b, o, none⟩) 2000 c xs w2 (HL.out w2 b2.out) (by omega))
  replace A2 := hid A2
  replace S2 := hid S2
  clear c1s
  go_wp2_with fail
  refine c2s.out.mono ?_
  rintro e w3 ⟨v3, zs, rfl, A3, S3⟩
  have b3 : Hid (Below w.heap.size w w3) := Below.up b2.out A3.lo
  obtain ⟨a3, c3, hv3⟩ := A3.shape
  have hyz : Hid (ys = zs) := S2.out.one S3
  have hzl : zs.length = 2000 := by rw [← hl.out]; exact S3.1.length_eq
  rw [hzl] at hv3
  subst hv3
  replace A3 := hid A3
  replace S3 := hid S3
  replace hzl := hid hzl
  obtain ⟨g4, hg4⟩ : ∃ g, g = w3.heap.size := ⟨_, rfl⟩
  obtain ⟨W4, hW4⟩ : ∃ W, W = w3.alloc (.cells #[.string sB, .string sA] 9) := ⟨_, rfl⟩
  have k4 : W4.heap[g4]? = some (.cells #[.string sB, .string sA] 9) := by rw [hW4, hg4]; exact new_at _ _
  have bx4 : Below w3.heap.size w3 W4 := by rw [hW4]; exact box_below _ _
  have b4 : Hid (Below w.heap.size w W4) := Below.up b3.out bx4
  have c4s := hid (sort_any (some ⟨g4, 0, none⟩) 2 2 [sB, sA] W4 (two_sl k4 (by decide) (by decide)) (by decide) (hid (F.out.later b4.out)) (hid (U.out.later b4.out)))
  have e4 : Hid (w3.alloc (.cells #[.string { data := #[98] }, .string { data := #[97] }] 9) = W4) := hW4.symm
  replace bx4 := hid bx4
  replace hg4 := hid hg4
  clear c2s k4 hW4
  go_wp2_with fail
  rw [e4.out, ← hg4.out]
  refine c4s.out.mono ?_
  rintro e w5 ⟨g5, ts, rfl, A5, S5⟩
  have hts : ts = [sA, sB] := S5.one ba_std
  subst hts
  have b5 : Hid (Below w.heap.size w w5) := Below.up b4.out A5.lo
  have b25 : Hid (Below w2.heap.size w2 w5) := Below.up (Below.up A3.out.lo bx4.out) A5.lo
  have b35 : Hid (Below w3.heap.size w3 w5) := Below.up bx4.out A5.lo
  have hya := (A2.out.later b25.out).sl (std_ok S2.out hok.out)
  have hza := (A3.out.later b35.out).sl (std_ok S3.out hok.out)
  have c5s := hid (texts_any (some ⟨ga, 0, none⟩) a3 2000 2000 2000 c3 ys zs w5 hya.2 hza.2 (by omega) (by omega))
  rw [hyz.out, decide_eq_true rfl] at c5s
  replace A5 := hid A5
  clear S5 hya hza c4s
  go_wp2_with fail
  refine c5s.out.mono ?_
  rintro e w6 ⟨rfl, b56⟩
  have b6 : Hid (Below w.heap.size w w6) := Below.up b5.out b56
  obtain ⟨g7, hg7⟩ : ∃ g, g = w6.heap.size := ⟨_, rfl⟩
  obtain ⟨W7, hW7⟩ : ∃ W, W = w6.alloc (.cells #[.string sA, .string sB] 9) := ⟨_, rfl⟩
  have k7 : W7.heap[g7]? = some (.cells #[.string sA, .string sB] 9) := by rw [hW7, hg7]; exact new_at _ _
  have bx7 : Below w6.heap.size w6 W7 := by rw [hW7]; exact box_below _ _
  have b57 : Below w5.heap.size w5 W7 := Below.up b56 bx7
  have h5 := (A5.out.later b57).sl (fun y hy => by
    rcases List.mem_cons.1 hy with rfl | hy
    · show (1 : Nat) ≤ _; decide
    · rw [List.mem_singleton] at hy; subst hy; show (1 : Nat) ≤ _; decide)
  have c7s := hid (texts_any (some ⟨g5, 0, none⟩) (some ⟨g7, 0, none⟩) 2 2 2 2 [sA, sB] [sA, sB] W7 h5.2 (two_sl k7 (by decide) (by decide)) (by decide) (by decide))
  rw [decide_eq_true rfl] at c7s
  have e7 : Hid (w6.alloc (.cells #[.string { data := #[97] }, .string { data := #[98] }] 9) = W7) := hW7.symm
  replace bx7 := hid bx7
  replace hg7 := hid hg7
  replace b57 := hid b57
  clear c5s b56 k7 hW7 h5
  go_wp2_with fail
  rw [e7.out, ← hg7.out]
  refine c7s.out.mono ?_
  rintro e w8 ⟨rfl, b78⟩
  have b8 : Hid (Below w.heap.size w w8) := Below.up (Below.up b6.out bx7.out) b78
  have b28 : Hid (Below w2.heap.size w2 w8) := Below.up b25.out (Below.up b57.out b78)
  replace b78 := hid b78
  clear c7s
  go_wp2_with (first | (go_at_call 8; refine (numbers_any _).mono ?_; rintro e w9 ⟨rfl, hw9⟩; subst hw9))
  have hpad : Hid (0 < 2000 → Pad w9 ga 9 2000) := by
    intro h0
    have hown := (A2.out.later b28.out).o
    have hyl : ys.length = 2000 := by rw [← hl.out]; exact S2.out.1.length_eq
    obtain ⟨b, hb, _, _, hp⟩ := own_pad (n := 2000) (by have h := hown; unfold El.Own at h; rw [hyl] at h; exact h) h0
    cases hb
    rwa [show eStr.k = 1 from rfl, Nat.mul_one] at hp
  have hga : Hid (W1.heap.size ≤ ga) := (own_lt A2.out.o ga rfl).1
  have b18 : Hid (Below W1.heap.size W1 w9) := Below.up A2.out.lo b28.out
  clear A2 A3 A5 b57 b78 b25 b35 e4 e7
  go_loopw [7] (fun ii wr => ∃ i : Nat, ii = .int .i64 i ∧ i ≤ 2000 ∧ Hid (0 < 2000 → Pad wr ga 9 2000) ∧ Hid (Fp (fun j => j = ga) w9 wr)) (fun ii _ => 2000 - (intOf ii).toNat)
  case atStart => exact ⟨0, rfl, by omega, hpad, Fp.refl _ _⟩
  case round =>
    obtain ⟨i, rfl, hi, hP, hF⟩ := hrel
    by_cases hlt : i < 2000
    · obtain ⟨u, hu⟩ := (hP.out (by omega)).cell i hlt
      have hz := (hP.out (by omega)).fz i
      have jk0 : (i : Int) < (2000 : Int) := by omega
      have jo0 : (0 : Int) ≤ (i : Int) := by omega
      have hP' : Hid (0 < 2000 → Pad (wr.setCell ⟨ga, i, none⟩ (.string { data := #[115, 112, 111, 105, 108, 116] })) ga 9 2000) := fun h => (hP.out h).set i _
      have hF' : Hid (Fp (fun j => j = ga) w9 (wr.setCell ⟨ga, i, none⟩ (.string { data := #[115, 112, 111, 105, 108, 116] }))) := hF.out.set (.inl rfl) _ _
      go_wp2_with fail
      go_roundw
      case rel => exact ⟨i + 1, by go_num, by omega, hP', hF'⟩
      case measure => simp [intOf]; omega
    · have hie : i = 2000 := by omega
      subst hie
      have s1 : eStr.Sl wr a1 2000 c1 xs := sl_keep ((A1.out.sl hok.out).2.later b18.out) (fun h0 ad had => by
        have h1 := (own_lt A1.out.o ad.block (by rw [had]; rfl)).2
        exact hF.out.block ad.block (Nat.lt_of_lt_of_le h1 b18.out.size) (fun e => by have := hga.out; omega))
      have s2 : eStr.Sl wr (some ⟨b, o, none⟩) 2000 c xs := sl_keep (HL.out w9 b8.out) (fun h0 ad had => by
        cases had
        have h2 : b < w.heap.size := by
          have h := (HL.out w (Below.refl _ _)).cells b o none rfl h0
          have h4 := block_lt_of_cell (h.2 0 h0 0 _ rfl)
          exact h4
        have h3 := A1.out.lo.size
        exact hF.out.block b (Nat.lt_of_lt_of_le h2 b8.out.size) (fun e => by have := hga.out; omega))
      have c9s := hid (texts_any a1 (some ⟨b, o, none⟩) 2000 2000 c1 c xs xs wr s1 s2 (by omega) (by omega))
      rw [decide_eq_true rfl] at c9s
      have b9 : Hid (Below w.heap.size w wr) := Below.trans b8.out (hF.out.base b8.out.size (fun j hj => by have h1 := hga.out; have h2 := A1.out.lo.size; omega))
      clear s1 s2 hF hP
      go_wp2_with fail
      refine c9s.out.mono ?_
      rintro e w10 ⟨rfl, b10⟩
      have b11 : Hid (Below w.heap.size w w10) := Below.up b9.out b10
      go_wp2_with fail
      go_ret
      exact ⟨rfl, b11.out⟩
theorem sorts_any (a : Option Addr) (n c : Nat) (xs : List ByteArray) (w : World) (H : eStr.Sl w a n c xs) (F : Hid (Fm w)) (U : Hid (Tb w)) :
    Calls Tryd.prog 4 #[.slice a n c] w fun e w' => e = .returned (.bool true) ∧ Below w.heap.size w w' := by
  by_cases hn : n ≤ 2000
  · exact sorts_low a n c xs w H hn F U
  · cases a with
    | none => have := (H.nil rfl).1; omega
    | some ad =>
      obtain ⟨b, o, p⟩ := ad
      obtain ⟨rfl, _⟩ := H.cells b o p rfl (by omega)
      exact sorts_high n b o 2000 c (xs.take 2000) w (sl_take H (by omega) (fun h => by cases h)) rfl (by omega) H.c F U
end Go.Proofs.YtcjlgjlediihoaaDoor.Lw

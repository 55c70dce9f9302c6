/- MergeLists, walked. -/
import Derived.Test.YtgjodfaliajlgaaMs9
import Derived.Test.YtgjodfaliajlgaaMv9
import Derived.Test.YtgjodfaliajlgaaMr9
namespace Go.Proofs.Ytgjodfaliajlgaa.Ll9
open Go.ChangeShapes Go.WideShapes Go.ChangeAt Go.RowKit
open Go.Sort (grow)
open Go.Proofs.Ytgjodfaliajlgaa.Gr hiding hid addr_add
open Go.Proofs.Ytgjodfaliajlgaa.Ac
open Go.Proofs.Ytgjodfaliajlgaa.Ik
open Go.Proofs.Ytgjodfaliajlgaa.Ee
open Go.Proofs.Ytgjodfaliajlgaa.Sb
open Go.Proofs.Ytgjodfaliajlgaa.Ew
open Go.Proofs.Ytgjodfaliajlgaa.Sd hiding below_grown
open Go.Proofs.Ytgjodfaliajlgaa.Rsd
open Go.Proofs.Ytgjodfaliajlgaa.Ml
open Go.Proofs.Ytgjodfaliajlgaa.Mi
open Go.Proofs.Ytgjodfaliajlgaa.Mr9
open Go.Proofs.Ytgjodfaliajlgaa.Ls9
open Go.Proofs.Ytgjodfaliajlgaa.Sk9 (Cut cut_ex)
open Go.Proofs.Ytgjodfaliajlgaa.Lm9
open Go.Proofs.Ytgjodfaliajlgaa.Ms9
open Go.Proofs.Ytgjodfaliajlgaa.Mv9
open Go.Proofs.Ytgjodfaliajlgaa.Cm (ik)
set_option linter.unusedVariables false
set_option linter.unusedSimpArgs false

theorem text_self (a : ByteArray) : (a.toList == a.toList) = true := beq_self_eq_true _
set_option maxHeartbeats 1000000 in
theorem run_ne (a : ByteArray) (s c : Int) (v : ByteArray) (w : World) : (binOp .neq 43 (.agg #[.string a, .int .u64 s, .int .i64 c, .string v]) (.agg #[.string a, .int .u64 s, .int .i64 c, .string v])).run Try.prog w = .ok (.bool false) w := by
  have h1 := text_self a
  have h2 := text_self v
  go_simp
  try rfl
theorem one_list {w : World} {a : Option Addr} {n c : Nat} {xs : List E} (H : Ents w a n c xs) : Lsts (w.alloc (.cells #[.slice a n c] 39)) (some ⟨w.heap.size, 0, none⟩) 1 1 [⟨a, n, c, xs⟩] := by
  refine ⟨⟨rfl, Nat.le_refl _, (fun e => by cases e), fun _ _ => trivial, fun b o p hp hl => ?_⟩, fun f hf => ?_⟩
  · injection hp with hp; injection hp with h1 h2 h3; subst h1 h2 h3
    refine ⟨rfl, fun i hi j u hu => ?_⟩
    have hi0 : i = 0 := by omega
    subst hi0
    have h := new_at w (.cells #[.slice a n c] 39)
    have := cell_of h j u (by
      have hj : (eL.cs (⟨a, n, c, xs⟩ : Lf))[j]? = some u := hu
      simpa [eL] using hj)
    simpa using this
  · rw [List.mem_singleton] at hf; subst hf
    exact H.later (box_below _ _)
theorem own_row {w : World} {base : Nat} {a : Option Addr} {n c : Nat} {xs : List E} (h : eE.Own w base (.slice a n c) xs) (hn : 0 < n) : ∃ g, a = some ⟨g, 0, none⟩ ∧ base ≤ g ∧ ERow w g c xs := by
  rcases h.2 with ⟨e, h0⟩ | ⟨g, cap, cur, e, hb, hg, hle, hm, hs, ht⟩
  · injection e with e1 e2 e3; omega
  · injection e with e1 e2 e3
    subst e1 e3
    refine ⟨g, rfl, hb, cur, hg, hs, by omega, fun i hi => ?_⟩
    have hc := fun j (hj : j < 4) => eE.cl_get xs i hi j hj
    have hq : ∀ j, j < 4 → cur[i * 4 + j]? = (eE.cs (xs.getD i eE.z))[j]? := fun j hj => by
      rw [← hc j hj, ← ht, List.getElem?_take, if_pos (by show i * 4 + j < xs.length * 4; omega)]
      simp; rfl
    refine ⟨?_, ?_, ?_, ?_⟩
    · have := hq 0 (by omega); simpa [eE] using this
    · have := hq 1 (by omega); simpa [eE] using this
    · have := hq 2 (by omega); simpa [eE] using this
    · have := hq 3 (by omega); simpa [eE] using this
theorem mv_same (n : Nat) (p m : Int) (hp : -1 ≤ p ∧ p ≤ (n : Int)) : mv n p 3 m = min (p + 1) (n : Int) ∧ mv n p 4 m = max (p - 1) (-1) := by
  unfold mv
  simp only [show ((3 : Int) = 0) = False by simp, show ((3 : Int) = 1) = False by simp, show ((3 : Int) = 2) = False by simp, show ((4 : Int) = 0) = False by simp, show ((4 : Int) = 1) = False by simp, show ((4 : Int) = 2) = False by simp, show ((4 : Int) = 3) = False by simp, if_false, if_true]
  constructor <;> split <;> omega

/-- What the law's loop holds: where both stand. -/
structure Rel9 (g ga n mn : Nat) (ys : List E) (w5 : World) (pv iv : Value) (wr : World) : Prop where
  ex : ∃ (i : Nat) (p : Int), pv = .int .i64 p ∧ iv = .int .i64 (i : Int) ∧ i ≤ mn ∧ -1 ≤ p ∧ p ≤ (n : Int) ∧ Hid (Lc wr g ga n p ys) ∧ Hid (Fp (· = g) w5 wr)
set_option maxHeartbeats 4000000 in
set_option maxRecDepth 100000 in
theorem mlists_any (a : Option Addr) (n c : Nat) (xs : List E) (ma : Option Addr) (mn mc : Nat) (ms : List Mv) (w : World) (H : eE.Sl w a n c xs) (HM : eV.Sl w ma mn mc ms) (hn8 : n ≤ 1048576) (hm8 : mn ≤ 1048576) :
    Calls Try.prog 4 #[.slice a n c, .slice ma mn mc] w fun e w' => e = .returned (.bool true) ∧ Below w.heap.size w w' := by
  have hln : Hid (xs.length = n) := H.n
  have hnc := H.c
  have hmnc := HM.c
  have hxok : Hid (∀ x ∈ xs, x.ok) := H.ok
  have HL : Hid (∀ W, Below w.heap.size w W → Ents W a n c xs) := fun W b => ents_of (H.later b)
  have HMv : Hid (∀ W, Below w.heap.size w W → eV.Sl W ma mn mc ms) := fun W b => HM.later b
  obtain ⟨W0, hW0⟩ : ∃ W, W = w.alloc (.cells #[] 43) := ⟨_, rfl⟩
  obtain ⟨g0, hg0⟩ : ∃ g, g = w.heap.size := ⟨_, rfl⟩
  have A0 : Acc eE w W0 (.slice (some ⟨g0, 0, none⟩) 0 0) [] := by rw [hW0, hg0]; exact Acc.made eE w
  obtain ⟨v1, W1, r1, A1⟩ := A0.app (sl_of (HL.out _ A0.lo)) (by show (0 + n) * 48 ≤ _; omega) (by show 0 + n ≤ _; omega)
  rw [List.nil_append] at A1
  obtain ⟨a5, c5, hv1⟩ := A1.shape
  rw [hln.out] at hv1
  subst hv1
  change (Builtin.append_ #[39, 39] 39 #[_, _]).run Try.prog W0 = _ at r1
  have b1 := hid A1.lo
  have E5 := ents_of (acc_sl A1 hxok.out)
  have HN := hid (newlist_any a5 n c5 xs W1 E5 (by omega))
  have A1' := hid A1
  replace r1 := hid r1
  replace hW0 := hid hW0
  replace hg0 := hid hg0
  clear A0 A1 E5 H HM
  go_enter Try.func4, Try.ntmps4
  go_wp2_with (first | (at_builtin; rw [← hW0.out, ← hg0.out]; refine Ac.wpList_append_run rfl (.tmp 15) (.tmp 16) 39 39 rfl (.slice (some ⟨g0, 0, none⟩) 0 0) (.slice a n c) (.slice a5 n c5) rfl rfl r1.out ?_))
  refine HN.out.mono ?_
  rintro e w2 ⟨g, ga, rfl, hg, hga, LC, b2⟩
  have hy5 : Hid (0 < n → ∃ g5, a5 = some ⟨g5, 0, none⟩ ∧ w.heap.size ≤ g5 ∧ g5 < W1.heap.size ∧ ERow w2 g5 c5 xs) := fun h0 => by
    obtain ⟨g5, e5, hb5, R5⟩ := own_row A1'.out.o h0
    exact ⟨g5, e5, hb5, R5.lt, R5.later b2⟩
  have bw2 := hid (Below.up b1.out b2)
  obtain ⟨ys, hys⟩ : ∃ ys, ys = srtE xs := ⟨_, rfl⟩
  rw [← hys] at LC
  replace LC := hid LC
  replace hg := hid hg
  replace hga := hid hga
  replace b2 := hid b2
  replace hys := hid hys
  clear HN A1'
  go_wp2_with fail
  go_loopw [7] (fun iv wr => ∃ (i : Nat) (zs : List E), iv = .int .i64 (i : Int) ∧ i ≤ n ∧ Hid (zs.length = n) ∧ Hid (0 < n → ∃ g5, a5 = some ⟨g5, 0, none⟩ ∧ w.heap.size ≤ g5 ∧ g5 < W1.heap.size ∧ ERow wr g5 c5 zs) ∧ Hid (Fp (fun j => w.heap.size ≤ j ∧ j < W1.heap.size) w2 wr)) (fun iv _ => n - (intOf iv).toNat)
  case atStart => exact ⟨0, xs, rfl, Nat.zero_le _, hln, hy5, Fp.refl _ _⟩
  case round =>
    clear hy5
    obtain ⟨i, zs, rfl, hi, hzl, hy, FY⟩ := hrel
    by_cases hlt : i < n
    · obtain ⟨g5, rfl, hb5, hl5, RY⟩ := hy.out (by omega)
      have i1 : (i : Int) < (n : Int) := by omega
      have i2 : (0 : Int) ≤ (i : Int) := by omega
      obtain ⟨p0, p1, p2, p3⟩ := RY.cell i (by rw [hzl.out]; exact hlt)
      have f0 := RY.fz (i * 4)
      have f1 := RY.fz (i * 4 + 1)
      have f2 := RY.fz (i * 4 + 2)
      have f3 := RY.fz (i * 4 + 3)
      obtain ⟨WS, hWS⟩ : ∃ W, W = st4 wr g5 (i * 4) ⟨⟨#[115, 112, 111, 105, 108, 116]⟩, 0, 0, ⟨#[]⟩⟩ := ⟨_, rfl⟩
      have RS := RY.set i ⟨⟨#[115, 112, 111, 105, 108, 116]⟩, 0, 0, ⟨#[]⟩⟩ (by rw [hzl.out]; exact hlt)
      have FS0 := st4_fp (V := wr) (i * 4) ⟨⟨#[115, 112, 111, 105, 108, 116]⟩, 0, 0, ⟨#[]⟩⟩ (Fp.refl (· = g5) wr)
      rw [← hWS] at RS FS0
      have FS := hid (FY.out.tr (FS0.wide (fun j _ h => .inl (by subst h; exact ⟨hb5, hl5⟩))))
      have hzl2 : Hid ((zs.set i ⟨⟨#[115, 112, 111, 105, 108, 116]⟩, 0, 0, ⟨#[]⟩⟩).length = n) := by show _ = _; rw [List.length_set]; exact hzl.out
      have hy2 : Hid (0 < n → ∃ g6, (some ⟨g5, 0, none⟩ : Option Addr) = some ⟨g6, 0, none⟩ ∧ w.heap.size ≤ g6 ∧ g6 < W1.heap.size ∧ ERow WS g6 c5 (zs.set i ⟨⟨#[115, 112, 111, 105, 108, 116]⟩, 0, 0, ⟨#[]⟩⟩)) := fun _ => ⟨g5, rfl, hb5, hl5, RS⟩
      unfold st4 at hWS
      dsimp only at hWS
      replace hWS := hid hWS
      have hw6 : IntKind.i64.wrap ((i : Int) + 1) = ((i + 1 : Nat) : Int) := by rw [IntKind.wrap_i64]; omega
      clear RS FS0 RY hy FY
      go_wp2_with fail
      go_roundw
      case rel => exact ⟨i + 1, _, by first | rfl | go_num, by omega, hzl2, by first | exact hy2 | (have := hy2; rw [hWS.out] at this; exact this), by first | exact FS | (have := FS; rw [hWS.out] at this; exact this)⟩
      case measure => simp [intOf]; omega
    · have i1 : ¬ (i : Int) < (n : Int) := by omega
      obtain ⟨w3, hw3⟩ : ∃ W, W = wr := ⟨_, rfl⟩
      rw [← hw3] at FY ⊢
      clear hw3 hy hzl
      have LC3 : Hid (Lc w3 g ga n (-1) ys) := LC.out.fp FY.out (by have := hg.out; omega) (by have := hga.out; omega)
      have b3w : Hid (Below w.heap.size w w3) := ⟨FY.out.os.trans bw2.out.os, FY.out.tape.trans bw2.out.tape, FY.out.output.trans bw2.out.output, Nat.le_trans bw2.out.size FY.out.size, fun j hj => (FY.out.block j (Nat.lt_of_lt_of_le hj bw2.out.size) (by omega)).trans (bw2.out.block j hj)⟩
      have hgs : Hid (w.heap.size ≤ g) := Nat.le_trans b1.out.size hg.out
      clear LC FY
      obtain ⟨w4, hw4⟩ : ∃ W, W = w3.alloc (.cells #[.slice a n c] 39) := ⟨_, rfl⟩
      obtain ⟨g4, hg4⟩ : ∃ x, x = w3.heap.size := ⟨_, rfl⟩
      have LS := one_list (HL.out w3 b3w.out)
      rw [← hw4, ← hg4] at LS
      have b34 : Below w3.heap.size w3 w4 := by rw [hw4]; exact box_below _ _
      have HA := hid (rall_any (some ⟨g4, 0, none⟩) 1 1 [⟨a, n, c, xs⟩] w4 LS (by omega) (by show (all [(⟨a, n, c, xs⟩ : Lf)]).length ≤ _; simp [all]; have := hln.out; omega))
      have hI : Hid (allI [(⟨a, n, c, xs⟩ : Lf)] 1 = tag 0 ys) := by
        show mrg lI [] (tag 0 (srtE xs)) = _
        rw [mrg_nil, hys.out]
      rw [hI.out] at HA
      have LC4 := hid (LC3.out.later b34)
      have b4w := hid (Below.up b3w.out b34)
      replace hw4 := hid hw4
      replace hg4 := hid hg4
      clear LS b34 LC3
      go_wp2_with fail
      rw [← hw4.out, ← hg4.out]
      refine HA.out.mono ?_
      rintro e w5 ⟨v, rfl, AI⟩
      obtain ⟨aa, ac, hv⟩ := AI.shape
      have hyl : Hid (ys.length = n) := LC4.out.n
      rw [tag_len, hyl.out] at hv
      subst hv
      have hyok : Hid (∀ x ∈ ys, x.ok) := LC4.out.ok
      have SI5 := hid (acc_sl AI (fun x hx => by
        unfold tag at hx
        obtain ⟨e, he, rfl⟩ := List.mem_map.1 hx
        exact hyok.out e he))
      have b5w := hid (Below.up b4w.out AI.lo)
      have LC5 := hid (LC4.out.later AI.lo)
      have hgw5 : Hid (g < w5.heap.size) := LC5.out.b.lt
      have hne5 : Hid (∀ ad, aa = some ad → ad.block ≠ g) := fun ad h e => by
        subst h
        have h1 := (own_lt AI.o ad.block rfl).1
        have h2 := LC4.out.b.lt
        omega
      have hal5 : Hid (∀ ad, aa = some ad → ad.block < w5.heap.size) := fun ad h => by subst h; exact (own_lt AI.o ad.block rfl).2
      clear AI HA LC4
      go_wp2_with fail
      go_loopw [9, 10] (fun pv iv wr => Rel9 g ga n mn ys w5 pv iv wr) (fun _ iv _ => mn + 1 - (intOf iv).toNat)
      case atStart => exact ⟨⟨0, -1, by first | rfl | go_num, rfl, Nat.zero_le _, by omega, by omega, LC5, Fp.refl _ _⟩⟩
      case round =>
        clear LC5
        obtain ⟨⟨i, p, rfl, rfl, hi, hp1, hp2, LC, FY⟩⟩ := hrel
        have SIr : Hid (eI.Sl wr aa n ac (tag 0 ys)) := SI5.out.block (fun ad had => FY.out.block ad.block (hal5.out ad had) (hne5.out ad had))
        have brw : Hid (Below w.heap.size w wr) := ⟨FY.out.os.trans b5w.out.os, FY.out.tape.trans b5w.out.tape, FY.out.output.trans b5w.out.output, Nat.le_trans b5w.out.size FY.out.size, fun j hj => (FY.out.block j (Nat.lt_of_lt_of_le hj b5w.out.size) (by have := hgs.out; omega)).trans (b5w.out.block j hj)⟩
        have HH := hid (lhere_any g ga n p ys wr LC.out)
        obtain ⟨he, hhe⟩ : ∃ z : E, z = (hr ys p).getD ze := ⟨_, rfl⟩
        have hhv : hv ys p = c4 he := by unfold hv; rw [hhe]
        rw [hhv] at HH
        obtain ⟨ek, es, ec, ev⟩ := he
        unfold c4 at HH
        dsimp only at HH
        replace hhv := hid hhv
        have e1 := hid (run_ne ek es ec ev)
        go_wp2_with fail
        refine HH.out.mono ?_
        rintro e w6 ⟨rfl, b6⟩
        obtain ⟨w7, hw7⟩ : ∃ W, W = w6.alloc (.cells #[.string ek, .int .u64 es, .int .i64 ec, .string ev] 43) := ⟨_, rfl⟩
        obtain ⟨g7, hg7⟩ : ∃ x, x = w6.heap.size := ⟨_, rfl⟩
        have k7 : w7.heap[g7]? = some (.cells #[.string ek, .int .u64 es, .int .i64 ec, .string ev] 43) := by rw [hw7, hg7]; exact new_at _ _
        have b7 : Below wr.heap.size wr w7 := by rw [hw7]; exact Below.up b6 (box_below _ _)
        have q0 := cell_of k7 0 _ rfl
        have q1 := cell_of k7 1 _ rfl
        have q2 := cell_of k7 2 _ rfl
        have q3 := cell_of k7 3 _ rfl
        have SI7 := hid (SIr.out.later b7)
        have LC7 := hid (LC.out.later b7)
        have F7 := hid (FY.out.below b7)
        have b7w := hid (Below.up brw.out b7)
        replace hw7 := hid hw7
        replace hg7 := hid hg7
        replace k7 := hid k7
        clear b6 b7 HH LC SIr FY
        by_cases hin : 0 ≤ p ∧ p < (n : Int)
        · obtain ⟨k, rfl⟩ : ∃ k : Nat, p = (k : Int) := ⟨p.toNat, by omega⟩
          have hkn : k < n := by omega
          have hb1 : hb n (k : Int) = true := by unfold hb; simp; omega
          obtain ⟨ab, ao, rfl, hx⟩ := sl_at SI7.out k hkn
          have hx := it_at hx
          rw [show eI.k = 5 from rfl, show eI.z = zi from rfl] at hx
          have hgx : ((tag 0 ys).getD k zi).e = ⟨ek, es, ec, ev⟩ := by
            rw [hhe]
            unfold hr tag
            rw [if_pos ⟨by omega, by rw [hyl.out]; omega⟩, List.getD_eq_getElem?_getD, List.getElem?_map, List.getElem?_eq_getElem (by rw [hyl.out]; omega)]
            simp [List.getD_eq_getElem?_getD, List.getElem?_eq_getElem (show k < ys.length by rw [hyl.out]; omega)]
          rw [hgx] at hx
          obtain ⟨x0, x1, x2, x3, -⟩ := hx
          dsimp only at x0 x1 x2 x3
          have k0 : (0 : Int) ≤ (k : Int) := by omega
          have k1 : (k : Int) < (n : Int) := by omega
          have k3 := hid hgx
          clear hgx hin
          replace hhe := hid hhe
          have e1 := e1.out
          go_wp2_with fail
          rw [← hw7.out, ← hg7.out]
          go_quiet (fail)
          have LC8 : Hid (Lc (w7.drewN nq) g ga n (k : Int) ys) := LC7.out.later (drewN_below _ _)
          have F8 : Hid (Fp (· = g) w5 (w7.drewN nq)) := F7.out.below (drewN_below _ _)
          have SI8 : Hid (eI.Sl (w7.drewN nq) (some ⟨ab, ao, none⟩) n ac (tag 0 ys)) := SI7.out.later (drewN_below _ _)
          have b8w : Hid (Below w.heap.size w (w7.drewN nq)) := Below.up b7w.out (drewN_below _ _)
          generalize w7.drewN nq = w8 at *
          clear LC7 F7 SI7 b7w q0 q1 q2 q3 e1
          by_cases himn : i < mn
          · have i1 : (i : Int) < (mn : Int) := by omega
            have i2 : (0 : Int) ≤ (i : Int) := by omega
            have i3 : ((i : Int) == (mn : Int)) = false := by rw [beq_eq_false_iff_ne]; omega
            obtain ⟨mb, mo, rfl, hm⟩ := sl_at (HMv.out w (Below.refl _ _)) i himn
            have hm := mv_at hm
            rw [show eV.k = 4 from rfl] at hm
            generalize ms.getD i eV.z = v at hm
            obtain ⟨vk, vkey, vs, vc⟩ := v
            obtain ⟨z0, z1, z2, z3⟩ := hm
            dsimp only at z0 z1 z2 z3
            have y0 := (b8w.out.cell (block_lt_of_cell z0)).trans z0
            have y1 := (b8w.out.cell (block_lt_of_cell z1)).trans z1
            have y2 := (b8w.out.cell (block_lt_of_cell z2)).trans z2
            have y3 := (b8w.out.cell (block_lt_of_cell z3)).trans z3
            replace z0 := hid z0
            replace z1 := hid z1
            replace z2 := hid z2
            replace z3 := hid z3
            obtain ⟨m, hm⟩ := cut_ex ys (ik vkey vs vc) (by rw [hys.out]; exact (srtE_spec xs).1)
            have hmn : m ≤ n := by have := hm.1; rw [hyl.out] at this; exact this
            have hmt : Cut ((tag 0 ys).map It.e) (ik vkey vs vc) m := by rw [tag_e]; exact hm
            replace hm := hid hm
            replace hmt := hid hmt
            have q3 : IntKind.i64.wrap ((i : Int) + 1) = ((i + 1 : Nat) : Int) := by rw [IntKind.wrap_i64]; omega
            by_cases h0 : vk = 0
            · subst h0
              obtain ⟨j, hj⟩ : ∃ j : Int, j = 0 := ⟨_, rfl⟩
              have hj1 : -1 ≤ j ∧ j ≤ (n : Int) := by rw [hj]; omega
              have HK := hid (first_any g ga n (k : Int) ys w8 LC8.out ⟨by omega, by omega⟩ (by omega))
              rw [← hj] at HK
              have HMov : Hid (∀ W, Calls Try.prog 13 #[.int .i64 (n : Int), .int .i64 (k : Int), .int .i64 0, .int .i64 (m : Int)] W fun e w' => e = .returned (.int .i64 j) ∧ Below W.heap.size W w') := fun W => by
                have := rmove_any n (k : Int) 0 m W (by omega) ⟨by omega, by omega⟩
                rw [show mv n (k : Int) 0 m = j from by rw [hj]; exact rfl] at this
                exact this.mono (fun e w' h => ⟨h.1, by rw [h.2]; exact Below.refl _ _⟩)
              replace hj := hid hj
              obtain ⟨hbj, hhbj⟩ : ∃ b, b = hb n j := ⟨_, rfl⟩
              rw [← hhbj] at HK
              replace hhbj := hid hhbj
              go_wp2_with fail
              refine HK.out.mono ?_
              rintro e w9 ⟨rfl, LC9, F9⟩
              have F95 := hid (F8.out.tr (F9.wide (fun j _ h => .inl h)))
              have b9w : Hid (Below w.heap.size w w9) := ⟨F95.out.os.trans b5w.out.os, F95.out.tape.trans b5w.out.tape, F95.out.output.trans b5w.out.output, Nat.le_trans b5w.out.size F95.out.size, fun j hj => (F95.out.block j (Nat.lt_of_lt_of_le hj b5w.out.size) (by have := hgs.out; omega)).trans (b5w.out.block j hj)⟩
              have SI9 := SI5.out.block (fun ad had => F95.out.block ad.block (hal5.out ad had) (hne5.out ad had))
              have HSk : Hid (∀ d os, Calls Try.prog 14 #[.slice (some ⟨ab, ao, none⟩) n ac, .agg #[.string vkey, .int .u64 vs, .int .i64 vc]] (grow (redrawn w9 d) os) fun e w' => e = .returned (.int .i64 (m : Int)) ∧ Below (grow (redrawn w9 d) os).heap.size (grow (redrawn w9 d) os) w') := fun d os => rseek_any (some ⟨ab, ao, none⟩) n ac m (tag 0 ys) vkey vs vc _ (SI9.later (below_regrown w9 d os)) (by omega) hmt.out
              have u0 := cell_regrown ((b9w.out.cell (block_lt_of_cell z0.out)).trans z0.out)
              have u1 := cell_regrown ((b9w.out.cell (block_lt_of_cell z1.out)).trans z1.out)
              have u2 := cell_regrown ((b9w.out.cell (block_lt_of_cell z2.out)).trans z2.out)
              have u3 := cell_regrown ((b9w.out.cell (block_lt_of_cell z3.out)).trans z3.out)
              replace LC9 := hid LC9
              clear F9 SI9 y0 y1 y2 y3 HK LC8 F8 SI8 b8w
              go_wp2_with fail
              refine wp_region_quiet_below (by kernel_rfl) (by kernel_rfl) ?_
              repeat (first | go_big_quiet_step (first | (go_at_call 14; exact Calls.regrown_of (HSk.out _ _)) | (go_at_call 13; exact Calls.regrown_of (HMov.out _))) | quiet_step (first | (go_at_call 14; exact Calls.regrown_of (HSk.out _ _)) | (go_at_call 13; exact Calls.regrown_of (HMov.out _))))
              refine wpQuiet_nil ?_
              intro wA hwA
              have bA : Below w9.heap.size w9 wA := by
                obtain ⟨⟨dq, osq⟩, hw''⟩ := hwA
                rw [hw'']
                exact below_regrown _ dq osq
              have LCA := hid (LC9.out.later bA)
              have FA := hid (F95.out.below bA)
              clear hwA bA u0 u1 u2 u3 HSk HMov LC9 F95
              by_cases hjn : 0 ≤ j
              · by_cases hjm : j < (n : Int)
                · have hbt : hbj = true := by rw [hhbj.out]; unfold hb; rw [decide_eq_true hjn, decide_eq_true hjm]; rfl
                  subst hbt
                  go_wp2_with fail
                  go_roundw
                  case rel => exact ⟨⟨i + 1, j, rfl, by first | rfl | go_num, by omega, hj1.1, hj1.2, LCA, FA⟩⟩
                  case measure => simp [intOf]; omega
                · have hbt : hbj = false := by rw [hhbj.out]; unfold hb; rw [decide_eq_true hjn, decide_eq_false hjm]; rfl
                  subst hbt
                  go_wp2_with fail
                  go_roundw
                  case rel => exact ⟨⟨i + 1, j, rfl, by first | rfl | go_num, by omega, hj1.1, hj1.2, LCA, FA⟩⟩
                  case measure => simp [intOf]; omega
              · have hbt : hbj = false := by rw [hhbj.out]; unfold hb; rw [decide_eq_false hjn]; rfl
                subst hbt
                go_wp2_with fail
                go_roundw
                case rel => exact ⟨⟨i + 1, j, rfl, by first | rfl | go_num, by omega, hj1.1, hj1.2, LCA, FA⟩⟩
                case measure => simp [intOf]; omega
            · have n0 : (vk == 0) = false := by rw [beq_eq_false_iff_ne]; exact h0
              by_cases h1 : vk = 1
              · subst h1
                obtain ⟨j, hj⟩ : ∃ j : Int, j = ((n : Int) - 1) := ⟨_, rfl⟩
                have hj1 : -1 ≤ j ∧ j ≤ (n : Int) := by rw [hj]; omega
                have HK := hid (last_any g ga n (k : Int) ys w8 LC8.out ⟨by omega, by omega⟩ (by omega))
                rw [← hj] at HK
                have HMov : Hid (∀ W, Calls Try.prog 13 #[.int .i64 (n : Int), .int .i64 (k : Int), .int .i64 1, .int .i64 (m : Int)] W fun e w' => e = .returned (.int .i64 j) ∧ Below W.heap.size W w') := fun W => by
                  have := rmove_any n (k : Int) 1 m W (by omega) ⟨by omega, by omega⟩
                  rw [show mv n (k : Int) 1 m = j from by rw [hj]; exact rfl] at this
                  exact this.mono (fun e w' h => ⟨h.1, by rw [h.2]; exact Below.refl _ _⟩)
                replace hj := hid hj
                obtain ⟨hbj, hhbj⟩ : ∃ b, b = hb n j := ⟨_, rfl⟩
                rw [← hhbj] at HK
                replace hhbj := hid hhbj
                go_wp2_with fail
                refine HK.out.mono ?_
                rintro e w9 ⟨rfl, LC9, F9⟩
                have F95 := hid (F8.out.tr (F9.wide (fun j _ h => .inl h)))
                have b9w : Hid (Below w.heap.size w w9) := ⟨F95.out.os.trans b5w.out.os, F95.out.tape.trans b5w.out.tape, F95.out.output.trans b5w.out.output, Nat.le_trans b5w.out.size F95.out.size, fun j hj => (F95.out.block j (Nat.lt_of_lt_of_le hj b5w.out.size) (by have := hgs.out; omega)).trans (b5w.out.block j hj)⟩
                have SI9 := SI5.out.block (fun ad had => F95.out.block ad.block (hal5.out ad had) (hne5.out ad had))
                have HSk : Hid (∀ d os, Calls Try.prog 14 #[.slice (some ⟨ab, ao, none⟩) n ac, .agg #[.string vkey, .int .u64 vs, .int .i64 vc]] (grow (redrawn w9 d) os) fun e w' => e = .returned (.int .i64 (m : Int)) ∧ Below (grow (redrawn w9 d) os).heap.size (grow (redrawn w9 d) os) w') := fun d os => rseek_any (some ⟨ab, ao, none⟩) n ac m (tag 0 ys) vkey vs vc _ (SI9.later (below_regrown w9 d os)) (by omega) hmt.out
                have u0 := cell_regrown ((b9w.out.cell (block_lt_of_cell z0.out)).trans z0.out)
                have u1 := cell_regrown ((b9w.out.cell (block_lt_of_cell z1.out)).trans z1.out)
                have u2 := cell_regrown ((b9w.out.cell (block_lt_of_cell z2.out)).trans z2.out)
                have u3 := cell_regrown ((b9w.out.cell (block_lt_of_cell z3.out)).trans z3.out)
                replace LC9 := hid LC9
                clear F9 SI9 y0 y1 y2 y3 HK LC8 F8 SI8 b8w
                go_wp2_with fail
                refine wp_region_quiet_below (by kernel_rfl) (by kernel_rfl) ?_
                repeat (first | go_big_quiet_step (first | (go_at_call 14; exact Calls.regrown_of (HSk.out _ _)) | (go_at_call 13; exact Calls.regrown_of (HMov.out _))) | quiet_step (first | (go_at_call 14; exact Calls.regrown_of (HSk.out _ _)) | (go_at_call 13; exact Calls.regrown_of (HMov.out _))))
                refine wpQuiet_nil ?_
                intro wA hwA
                have bA : Below w9.heap.size w9 wA := by
                  obtain ⟨⟨dq, osq⟩, hw''⟩ := hwA
                  rw [hw'']
                  exact below_regrown _ dq osq
                have LCA := hid (LC9.out.later bA)
                have FA := hid (F95.out.below bA)
                clear hwA bA u0 u1 u2 u3 HSk HMov LC9 F95
                by_cases hjn : 0 ≤ j
                · by_cases hjm : j < (n : Int)
                  · have hbt : hbj = true := by rw [hhbj.out]; unfold hb; rw [decide_eq_true hjn, decide_eq_true hjm]; rfl
                    subst hbt
                    go_wp2_with fail
                    go_roundw
                    case rel => exact ⟨⟨i + 1, j, rfl, by first | rfl | go_num, by omega, hj1.1, hj1.2, LCA, FA⟩⟩
                    case measure => simp [intOf]; omega
                  · have hbt : hbj = false := by rw [hhbj.out]; unfold hb; rw [decide_eq_true hjn, decide_eq_false hjm]; rfl
                    subst hbt
                    go_wp2_with fail
                    go_roundw
                    case rel => exact ⟨⟨i + 1, j, rfl, by first | rfl | go_num, by omega, hj1.1, hj1.2, LCA, FA⟩⟩
                    case measure => simp [intOf]; omega
                · have hbt : hbj = false := by rw [hhbj.out]; unfold hb; rw [decide_eq_false hjn]; rfl
                  subst hbt
                  go_wp2_with fail
                  go_roundw
                  case rel => exact ⟨⟨i + 1, j, rfl, by first | rfl | go_num, by omega, hj1.1, hj1.2, LCA, FA⟩⟩
                  case measure => simp [intOf]; omega
              · have n1 : (vk == 1) = false := by rw [beq_eq_false_iff_ne]; exact h1
                by_cases h2 : vk = 2
                · subst h2
                  obtain ⟨j, hj⟩ : ∃ j : Int, j = (m : Int) := ⟨_, rfl⟩
                  have hj1 : -1 ≤ j ∧ j ≤ (n : Int) := by rw [hj]; omega
                  have HK := hid (seek_any g ga n m (k : Int) ys vkey vs vc w8 LC8.out (by omega) hm.out)
                  rw [← hj] at HK
                  have HMov : Hid (∀ W, Calls Try.prog 13 #[.int .i64 (n : Int), .int .i64 (k : Int), .int .i64 2, .int .i64 (m : Int)] W fun e w' => e = .returned (.int .i64 j) ∧ Below W.heap.size W w') := fun W => by
                    have := rmove_any n (k : Int) 2 m W (by omega) ⟨by omega, by omega⟩
                    rw [show mv n (k : Int) 2 m = j from by rw [hj]; exact rfl] at this
                    exact this.mono (fun e w' h => ⟨h.1, by rw [h.2]; exact Below.refl _ _⟩)
                  replace hj := hid hj
                  obtain ⟨hbj, hhbj⟩ : ∃ b, b = hb n j := ⟨_, rfl⟩
                  rw [← hhbj] at HK
                  replace hhbj := hid hhbj
                  go_wp2_with fail
                  refine HK.out.mono ?_
                  rintro e w9 ⟨rfl, LC9, F9⟩
                  have F95 := hid (F8.out.tr (F9.wide (fun j _ h => .inl h)))
                  have b9w : Hid (Below w.heap.size w w9) := ⟨F95.out.os.trans b5w.out.os, F95.out.tape.trans b5w.out.tape, F95.out.output.trans b5w.out.output, Nat.le_trans b5w.out.size F95.out.size, fun j hj => (F95.out.block j (Nat.lt_of_lt_of_le hj b5w.out.size) (by have := hgs.out; omega)).trans (b5w.out.block j hj)⟩
                  have SI9 := SI5.out.block (fun ad had => F95.out.block ad.block (hal5.out ad had) (hne5.out ad had))
                  have HSk : Hid (∀ d os, Calls Try.prog 14 #[.slice (some ⟨ab, ao, none⟩) n ac, .agg #[.string vkey, .int .u64 vs, .int .i64 vc]] (grow (redrawn w9 d) os) fun e w' => e = .returned (.int .i64 (m : Int)) ∧ Below (grow (redrawn w9 d) os).heap.size (grow (redrawn w9 d) os) w') := fun d os => rseek_any (some ⟨ab, ao, none⟩) n ac m (tag 0 ys) vkey vs vc _ (SI9.later (below_regrown w9 d os)) (by omega) hmt.out
                  have u0 := cell_regrown ((b9w.out.cell (block_lt_of_cell z0.out)).trans z0.out)
                  have u1 := cell_regrown ((b9w.out.cell (block_lt_of_cell z1.out)).trans z1.out)
                  have u2 := cell_regrown ((b9w.out.cell (block_lt_of_cell z2.out)).trans z2.out)
                  have u3 := cell_regrown ((b9w.out.cell (block_lt_of_cell z3.out)).trans z3.out)
                  replace LC9 := hid LC9
                  clear F9 SI9 y0 y1 y2 y3 HK LC8 F8 SI8 b8w
                  go_wp2_with fail
                  refine wp_region_quiet_below (by kernel_rfl) (by kernel_rfl) ?_
                  repeat (first | go_big_quiet_step (first | (go_at_call 14; exact Calls.regrown_of (HSk.out _ _)) | (go_at_call 13; exact Calls.regrown_of (HMov.out _))) | quiet_step (first | (go_at_call 14; exact Calls.regrown_of (HSk.out _ _)) | (go_at_call 13; exact Calls.regrown_of (HMov.out _))))
                  refine wpQuiet_nil ?_
                  intro wA hwA
                  have bA : Below w9.heap.size w9 wA := by
                    obtain ⟨⟨dq, osq⟩, hw''⟩ := hwA
                    rw [hw'']
                    exact below_regrown _ dq osq
                  have LCA := hid (LC9.out.later bA)
                  have FA := hid (F95.out.below bA)
                  clear hwA bA u0 u1 u2 u3 HSk HMov LC9 F95
                  by_cases hjn : 0 ≤ j
                  · by_cases hjm : j < (n : Int)
                    · have hbt : hbj = true := by rw [hhbj.out]; unfold hb; rw [decide_eq_true hjn, decide_eq_true hjm]; rfl
                      subst hbt
                      go_wp2_with fail
                      go_roundw
                      case rel => exact ⟨⟨i + 1, j, rfl, by first | rfl | go_num, by omega, hj1.1, hj1.2, LCA, FA⟩⟩
                      case measure => simp [intOf]; omega
                    · have hbt : hbj = false := by rw [hhbj.out]; unfold hb; rw [decide_eq_true hjn, decide_eq_false hjm]; rfl
                      subst hbt
                      go_wp2_with fail
                      go_roundw
                      case rel => exact ⟨⟨i + 1, j, rfl, by first | rfl | go_num, by omega, hj1.1, hj1.2, LCA, FA⟩⟩
                      case measure => simp [intOf]; omega
                  · have hbt : hbj = false := by rw [hhbj.out]; unfold hb; rw [decide_eq_false hjn]; rfl
                    subst hbt
                    go_wp2_with fail
                    go_roundw
                    case rel => exact ⟨⟨i + 1, j, rfl, by first | rfl | go_num, by omega, hj1.1, hj1.2, LCA, FA⟩⟩
                    case measure => simp [intOf]; omega
                · have n2 : (vk == 2) = false := by rw [beq_eq_false_iff_ne]; exact h2
                  by_cases h3 : vk = 3
                  · subst h3
                    obtain ⟨j, hj⟩ : ∃ j : Int, j = (min ((k : Int) + 1) (n : Int)) := ⟨_, rfl⟩
                    have hj1 : -1 ≤ j ∧ j ≤ (n : Int) := by rw [hj]; omega
                    have HK := hid (next_any g ga n (k : Int) ys w8 LC8.out ⟨by omega, by omega⟩ (by omega))
                    rw [← hj] at HK
                    have HMov : Hid (∀ W, Calls Try.prog 13 #[.int .i64 (n : Int), .int .i64 (k : Int), .int .i64 3, .int .i64 (m : Int)] W fun e w' => e = .returned (.int .i64 j) ∧ Below W.heap.size W w') := fun W => by
                      have := rmove_any n (k : Int) 3 m W (by omega) ⟨by omega, by omega⟩
                      rw [show mv n (k : Int) 3 m = j from by rw [hj]; exact (mv_same n (k : Int) m ⟨by omega, by omega⟩).1] at this
                      exact this.mono (fun e w' h => ⟨h.1, by rw [h.2]; exact Below.refl _ _⟩)
                    replace hj := hid hj
                    obtain ⟨hbj, hhbj⟩ : ∃ b, b = hb n j := ⟨_, rfl⟩
                    rw [← hhbj] at HK
                    replace hhbj := hid hhbj
                    go_wp2_with fail
                    refine HK.out.mono ?_
                    rintro e w9 ⟨rfl, LC9, F9⟩
                    have F95 := hid (F8.out.tr (F9.wide (fun j _ h => .inl h)))
                    have b9w : Hid (Below w.heap.size w w9) := ⟨F95.out.os.trans b5w.out.os, F95.out.tape.trans b5w.out.tape, F95.out.output.trans b5w.out.output, Nat.le_trans b5w.out.size F95.out.size, fun j hj => (F95.out.block j (Nat.lt_of_lt_of_le hj b5w.out.size) (by have := hgs.out; omega)).trans (b5w.out.block j hj)⟩
                    have SI9 := SI5.out.block (fun ad had => F95.out.block ad.block (hal5.out ad had) (hne5.out ad had))
                    have HSk : Hid (∀ d os, Calls Try.prog 14 #[.slice (some ⟨ab, ao, none⟩) n ac, .agg #[.string vkey, .int .u64 vs, .int .i64 vc]] (grow (redrawn w9 d) os) fun e w' => e = .returned (.int .i64 (m : Int)) ∧ Below (grow (redrawn w9 d) os).heap.size (grow (redrawn w9 d) os) w') := fun d os => rseek_any (some ⟨ab, ao, none⟩) n ac m (tag 0 ys) vkey vs vc _ (SI9.later (below_regrown w9 d os)) (by omega) hmt.out
                    have u0 := cell_regrown ((b9w.out.cell (block_lt_of_cell z0.out)).trans z0.out)
                    have u1 := cell_regrown ((b9w.out.cell (block_lt_of_cell z1.out)).trans z1.out)
                    have u2 := cell_regrown ((b9w.out.cell (block_lt_of_cell z2.out)).trans z2.out)
                    have u3 := cell_regrown ((b9w.out.cell (block_lt_of_cell z3.out)).trans z3.out)
                    replace LC9 := hid LC9
                    clear F9 SI9 y0 y1 y2 y3 HK LC8 F8 SI8 b8w
                    go_wp2_with fail
                    refine wp_region_quiet_below (by kernel_rfl) (by kernel_rfl) ?_
                    repeat (first | go_big_quiet_step (first | (go_at_call 14; exact Calls.regrown_of (HSk.out _ _)) | (go_at_call 13; exact Calls.regrown_of (HMov.out _))) | quiet_step (first | (go_at_call 14; exact Calls.regrown_of (HSk.out _ _)) | (go_at_call 13; exact Calls.regrown_of (HMov.out _))))
                    refine wpQuiet_nil ?_
                    intro wA hwA
                    have bA : Below w9.heap.size w9 wA := by
                      obtain ⟨⟨dq, osq⟩, hw''⟩ := hwA
                      rw [hw'']
                      exact below_regrown _ dq osq
                    have LCA := hid (LC9.out.later bA)
                    have FA := hid (F95.out.below bA)
                    clear hwA bA u0 u1 u2 u3 HSk HMov LC9 F95
                    by_cases hjn : 0 ≤ j
                    · by_cases hjm : j < (n : Int)
                      · have hbt : hbj = true := by rw [hhbj.out]; unfold hb; rw [decide_eq_true hjn, decide_eq_true hjm]; rfl
                        subst hbt
                        go_wp2_with fail
                        go_roundw
                        case rel => exact ⟨⟨i + 1, j, rfl, by first | rfl | go_num, by omega, hj1.1, hj1.2, LCA, FA⟩⟩
                        case measure => simp [intOf]; omega
                      · have hbt : hbj = false := by rw [hhbj.out]; unfold hb; rw [decide_eq_true hjn, decide_eq_false hjm]; rfl
                        subst hbt
                        go_wp2_with fail
                        go_roundw
                        case rel => exact ⟨⟨i + 1, j, rfl, by first | rfl | go_num, by omega, hj1.1, hj1.2, LCA, FA⟩⟩
                        case measure => simp [intOf]; omega
                    · have hbt : hbj = false := by rw [hhbj.out]; unfold hb; rw [decide_eq_false hjn]; rfl
                      subst hbt
                      go_wp2_with fail
                      go_roundw
                      case rel => exact ⟨⟨i + 1, j, rfl, by first | rfl | go_num, by omega, hj1.1, hj1.2, LCA, FA⟩⟩
                      case measure => simp [intOf]; omega
                  · have n3 : (vk == 3) = false := by rw [beq_eq_false_iff_ne]; exact h3
                    by_cases h4 : vk = 4
                    · subst h4
                      obtain ⟨j, hj⟩ : ∃ j : Int, j = (max ((k : Int) - 1) (-1)) := ⟨_, rfl⟩
                      have hj1 : -1 ≤ j ∧ j ≤ (n : Int) := by rw [hj]; omega
                      have HK := hid (prev_any g ga n (k : Int) ys w8 LC8.out ⟨by omega, by omega⟩ (by omega))
                      rw [← hj] at HK
                      have HMov : Hid (∀ W, Calls Try.prog 13 #[.int .i64 (n : Int), .int .i64 (k : Int), .int .i64 4, .int .i64 (m : Int)] W fun e w' => e = .returned (.int .i64 j) ∧ Below W.heap.size W w') := fun W => by
                        have := rmove_any n (k : Int) 4 m W (by omega) ⟨by omega, by omega⟩
                        rw [show mv n (k : Int) 4 m = j from by rw [hj]; exact (mv_same n (k : Int) m ⟨by omega, by omega⟩).2] at this
                        exact this.mono (fun e w' h => ⟨h.1, by rw [h.2]; exact Below.refl _ _⟩)
                      replace hj := hid hj
                      obtain ⟨hbj, hhbj⟩ : ∃ b, b = hb n j := ⟨_, rfl⟩
                      rw [← hhbj] at HK
                      replace hhbj := hid hhbj
                      go_wp2_with fail
                      refine HK.out.mono ?_
                      rintro e w9 ⟨rfl, LC9, F9⟩
                      have F95 := hid (F8.out.tr (F9.wide (fun j _ h => .inl h)))
                      have b9w : Hid (Below w.heap.size w w9) := ⟨F95.out.os.trans b5w.out.os, F95.out.tape.trans b5w.out.tape, F95.out.output.trans b5w.out.output, Nat.le_trans b5w.out.size F95.out.size, fun j hj => (F95.out.block j (Nat.lt_of_lt_of_le hj b5w.out.size) (by have := hgs.out; omega)).trans (b5w.out.block j hj)⟩
                      have SI9 := SI5.out.block (fun ad had => F95.out.block ad.block (hal5.out ad had) (hne5.out ad had))
                      have HSk : Hid (∀ d os, Calls Try.prog 14 #[.slice (some ⟨ab, ao, none⟩) n ac, .agg #[.string vkey, .int .u64 vs, .int .i64 vc]] (grow (redrawn w9 d) os) fun e w' => e = .returned (.int .i64 (m : Int)) ∧ Below (grow (redrawn w9 d) os).heap.size (grow (redrawn w9 d) os) w') := fun d os => rseek_any (some ⟨ab, ao, none⟩) n ac m (tag 0 ys) vkey vs vc _ (SI9.later (below_regrown w9 d os)) (by omega) hmt.out
                      have u0 := cell_regrown ((b9w.out.cell (block_lt_of_cell z0.out)).trans z0.out)
                      have u1 := cell_regrown ((b9w.out.cell (block_lt_of_cell z1.out)).trans z1.out)
                      have u2 := cell_regrown ((b9w.out.cell (block_lt_of_cell z2.out)).trans z2.out)
                      have u3 := cell_regrown ((b9w.out.cell (block_lt_of_cell z3.out)).trans z3.out)
                      replace LC9 := hid LC9
                      clear F9 SI9 y0 y1 y2 y3 HK LC8 F8 SI8 b8w
                      go_wp2_with fail
                      refine wp_region_quiet_below (by kernel_rfl) (by kernel_rfl) ?_
                      repeat (first | go_big_quiet_step (first | (go_at_call 14; exact Calls.regrown_of (HSk.out _ _)) | (go_at_call 13; exact Calls.regrown_of (HMov.out _))) | quiet_step (first | (go_at_call 14; exact Calls.regrown_of (HSk.out _ _)) | (go_at_call 13; exact Calls.regrown_of (HMov.out _))))
                      refine wpQuiet_nil ?_
                      intro wA hwA
                      have bA : Below w9.heap.size w9 wA := by
                        obtain ⟨⟨dq, osq⟩, hw''⟩ := hwA
                        rw [hw'']
                        exact below_regrown _ dq osq
                      have LCA := hid (LC9.out.later bA)
                      have FA := hid (F95.out.below bA)
                      clear hwA bA u0 u1 u2 u3 HSk HMov LC9 F95
                      by_cases hjn : 0 ≤ j
                      · by_cases hjm : j < (n : Int)
                        · have hbt : hbj = true := by rw [hhbj.out]; unfold hb; rw [decide_eq_true hjn, decide_eq_true hjm]; rfl
                          subst hbt
                          go_wp2_with fail
                          go_roundw
                          case rel => exact ⟨⟨i + 1, j, rfl, by first | rfl | go_num, by omega, hj1.1, hj1.2, LCA, FA⟩⟩
                          case measure => simp [intOf]; omega
                        · have hbt : hbj = false := by rw [hhbj.out]; unfold hb; rw [decide_eq_true hjn, decide_eq_false hjm]; rfl
                          subst hbt
                          go_wp2_with fail
                          go_roundw
                          case rel => exact ⟨⟨i + 1, j, rfl, by first | rfl | go_num, by omega, hj1.1, hj1.2, LCA, FA⟩⟩
                          case measure => simp [intOf]; omega
                      · have hbt : hbj = false := by rw [hhbj.out]; unfold hb; rw [decide_eq_false hjn]; rfl
                        subst hbt
                        go_wp2_with fail
                        go_roundw
                        case rel => exact ⟨⟨i + 1, j, rfl, by first | rfl | go_num, by omega, hj1.1, hj1.2, LCA, FA⟩⟩
                        case measure => simp [intOf]; omega
                    · have n4 : (vk == 4) = false := by rw [beq_eq_false_iff_ne]; exact h4
                      go_wp2_with fail
                      go_roundw
                      case rel => exact ⟨⟨i + 1, (k : Int), rfl, by first | rfl | go_num, by omega, by omega, by omega, LC8, F8⟩⟩
                      case measure => simp [intOf]; omega
          · have i1 : i = mn := by omega
            subst i1
            go_wp2_with fail
            go_ret
            exact ⟨rfl, b8w.out⟩
        · have hb1 : hb n p = false := by unfold hb; by_cases h0 : 0 ≤ p <;> simp [h0] <;> omega
          have hze : ek = ⟨#[]⟩ ∧ es = 0 ∧ ec = 0 ∧ ev = ⟨#[]⟩ := by
            have h1 := hhe
            unfold hr at h1
            rw [if_neg (by rw [hyl.out]; exact hin)] at h1
            injection h1 with h2 h3 h4 h5
            exact ⟨h2, h3, h4, h5⟩
          obtain ⟨rfl, rfl, rfl, rfl⟩ := hze
          replace hhe := hid hhe
          have e1 := e1.out
          by_cases hneg : 0 ≤ p
          · have hpn : p = (n : Int) := by omega
            subst hpn
            clear hin
            go_wp2_with fail
            rw [← hw7.out, ← hg7.out]
            go_quiet (fail)
            have LC8 : Hid (Lc (w7.drewN nq) g ga n (n : Int) ys) := LC7.out.later (drewN_below _ _)
            have F8 : Hid (Fp (· = g) w5 (w7.drewN nq)) := F7.out.below (drewN_below _ _)
            have SI8 : Hid (eI.Sl (w7.drewN nq) aa n ac (tag 0 ys)) := SI7.out.later (drewN_below _ _)
            have b8w : Hid (Below w.heap.size w (w7.drewN nq)) := Below.up b7w.out (drewN_below _ _)
            generalize w7.drewN nq = w8 at *
            clear LC7 F7 SI7 b7w q0 q1 q2 q3 e1
            by_cases himn : i < mn
            · have i1 : (i : Int) < (mn : Int) := by omega
              have i2 : (0 : Int) ≤ (i : Int) := by omega
              have i3 : ((i : Int) == (mn : Int)) = false := by rw [beq_eq_false_iff_ne]; omega
              obtain ⟨mb, mo, rfl, hm⟩ := sl_at (HMv.out w (Below.refl _ _)) i himn
              have hm := mv_at hm
              rw [show eV.k = 4 from rfl] at hm
              generalize ms.getD i eV.z = v at hm
              obtain ⟨vk, vkey, vs, vc⟩ := v
              obtain ⟨z0, z1, z2, z3⟩ := hm
              dsimp only at z0 z1 z2 z3
              have y0 := (b8w.out.cell (block_lt_of_cell z0)).trans z0
              have y1 := (b8w.out.cell (block_lt_of_cell z1)).trans z1
              have y2 := (b8w.out.cell (block_lt_of_cell z2)).trans z2
              have y3 := (b8w.out.cell (block_lt_of_cell z3)).trans z3
              replace z0 := hid z0
              replace z1 := hid z1
              replace z2 := hid z2
              replace z3 := hid z3
              obtain ⟨m, hm⟩ := cut_ex ys (ik vkey vs vc) (by rw [hys.out]; exact (srtE_spec xs).1)
              have hmn : m ≤ n := by have := hm.1; rw [hyl.out] at this; exact this
              have hmt : Cut ((tag 0 ys).map It.e) (ik vkey vs vc) m := by rw [tag_e]; exact hm
              replace hm := hid hm
              replace hmt := hid hmt
              have q3 : IntKind.i64.wrap ((i : Int) + 1) = ((i + 1 : Nat) : Int) := by rw [IntKind.wrap_i64]; omega
              by_cases h0 : vk = 0
              · subst h0
                obtain ⟨j, hj⟩ : ∃ j : Int, j = 0 := ⟨_, rfl⟩
                have hj1 : -1 ≤ j ∧ j ≤ (n : Int) := by rw [hj]; omega
                have HK := hid (first_any g ga n (n : Int) ys w8 LC8.out ⟨by omega, by omega⟩ (by omega))
                rw [← hj] at HK
                have HMov : Hid (∀ W, Calls Try.prog 13 #[.int .i64 (n : Int), .int .i64 (n : Int), .int .i64 0, .int .i64 (m : Int)] W fun e w' => e = .returned (.int .i64 j) ∧ Below W.heap.size W w') := fun W => by
                  have := rmove_any n (n : Int) 0 m W (by omega) ⟨by omega, by omega⟩
                  rw [show mv n (n : Int) 0 m = j from by rw [hj]; exact rfl] at this
                  exact this.mono (fun e w' h => ⟨h.1, by rw [h.2]; exact Below.refl _ _⟩)
                replace hj := hid hj
                obtain ⟨hbj, hhbj⟩ : ∃ b, b = hb n j := ⟨_, rfl⟩
                rw [← hhbj] at HK
                replace hhbj := hid hhbj
                go_wp2_with fail
                refine HK.out.mono ?_
                rintro e w9 ⟨rfl, LC9, F9⟩
                have F95 := hid (F8.out.tr (F9.wide (fun j _ h => .inl h)))
                have b9w : Hid (Below w.heap.size w w9) := ⟨F95.out.os.trans b5w.out.os, F95.out.tape.trans b5w.out.tape, F95.out.output.trans b5w.out.output, Nat.le_trans b5w.out.size F95.out.size, fun j hj => (F95.out.block j (Nat.lt_of_lt_of_le hj b5w.out.size) (by have := hgs.out; omega)).trans (b5w.out.block j hj)⟩
                have SI9 := SI5.out.block (fun ad had => F95.out.block ad.block (hal5.out ad had) (hne5.out ad had))
                have HSk : Hid (∀ d os, Calls Try.prog 14 #[.slice aa n ac, .agg #[.string vkey, .int .u64 vs, .int .i64 vc]] (grow (redrawn w9 d) os) fun e w' => e = .returned (.int .i64 (m : Int)) ∧ Below (grow (redrawn w9 d) os).heap.size (grow (redrawn w9 d) os) w') := fun d os => rseek_any aa n ac m (tag 0 ys) vkey vs vc _ (SI9.later (below_regrown w9 d os)) (by omega) hmt.out
                have u0 := cell_regrown ((b9w.out.cell (block_lt_of_cell z0.out)).trans z0.out)
                have u1 := cell_regrown ((b9w.out.cell (block_lt_of_cell z1.out)).trans z1.out)
                have u2 := cell_regrown ((b9w.out.cell (block_lt_of_cell z2.out)).trans z2.out)
                have u3 := cell_regrown ((b9w.out.cell (block_lt_of_cell z3.out)).trans z3.out)
                replace LC9 := hid LC9
                clear F9 SI9 y0 y1 y2 y3 HK LC8 F8 SI8 b8w
                go_wp2_with fail
                refine wp_region_quiet_below (by kernel_rfl) (by kernel_rfl) ?_
                repeat (first | go_big_quiet_step (first | (go_at_call 14; exact Calls.regrown_of (HSk.out _ _)) | (go_at_call 13; exact Calls.regrown_of (HMov.out _))) | quiet_step (first | (go_at_call 14; exact Calls.regrown_of (HSk.out _ _)) | (go_at_call 13; exact Calls.regrown_of (HMov.out _))))
                refine wpQuiet_nil ?_
                intro wA hwA
                have bA : Below w9.heap.size w9 wA := by
                  obtain ⟨⟨dq, osq⟩, hw''⟩ := hwA
                  rw [hw'']
                  exact below_regrown _ dq osq
                have LCA := hid (LC9.out.later bA)
                have FA := hid (F95.out.below bA)
                clear hwA bA u0 u1 u2 u3 HSk HMov LC9 F95
                by_cases hjn : 0 ≤ j
                · by_cases hjm : j < (n : Int)
                  · have hbt : hbj = true := by rw [hhbj.out]; unfold hb; rw [decide_eq_true hjn, decide_eq_true hjm]; rfl
                    subst hbt
                    go_wp2_with fail
                    go_roundw
                    case rel => exact ⟨⟨i + 1, j, rfl, by first | rfl | go_num, by omega, hj1.1, hj1.2, LCA, FA⟩⟩
                    case measure => simp [intOf]; omega
                  · have hbt : hbj = false := by rw [hhbj.out]; unfold hb; rw [decide_eq_true hjn, decide_eq_false hjm]; rfl
                    subst hbt
                    go_wp2_with fail
                    go_roundw
                    case rel => exact ⟨⟨i + 1, j, rfl, by first | rfl | go_num, by omega, hj1.1, hj1.2, LCA, FA⟩⟩
                    case measure => simp [intOf]; omega
                · have hbt : hbj = false := by rw [hhbj.out]; unfold hb; rw [decide_eq_false hjn]; rfl
                  subst hbt
                  go_wp2_with fail
                  go_roundw
                  case rel => exact ⟨⟨i + 1, j, rfl, by first | rfl | go_num, by omega, hj1.1, hj1.2, LCA, FA⟩⟩
                  case measure => simp [intOf]; omega
              · have n0 : (vk == 0) = false := by rw [beq_eq_false_iff_ne]; exact h0
                by_cases h1 : vk = 1
                · subst h1
                  obtain ⟨j, hj⟩ : ∃ j : Int, j = ((n : Int) - 1) := ⟨_, rfl⟩
                  have hj1 : -1 ≤ j ∧ j ≤ (n : Int) := by rw [hj]; omega
                  have HK := hid (last_any g ga n (n : Int) ys w8 LC8.out ⟨by omega, by omega⟩ (by omega))
                  rw [← hj] at HK
                  have HMov : Hid (∀ W, Calls Try.prog 13 #[.int .i64 (n : Int), .int .i64 (n : Int), .int .i64 1, .int .i64 (m : Int)] W fun e w' => e = .returned (.int .i64 j) ∧ Below W.heap.size W w') := fun W => by
                    have := rmove_any n (n : Int) 1 m W (by omega) ⟨by omega, by omega⟩
                    rw [show mv n (n : Int) 1 m = j from by rw [hj]; exact rfl] at this
                    exact this.mono (fun e w' h => ⟨h.1, by rw [h.2]; exact Below.refl _ _⟩)
                  replace hj := hid hj
                  obtain ⟨hbj, hhbj⟩ : ∃ b, b = hb n j := ⟨_, rfl⟩
                  rw [← hhbj] at HK
                  replace hhbj := hid hhbj
                  go_wp2_with fail
                  refine HK.out.mono ?_
                  rintro e w9 ⟨rfl, LC9, F9⟩
                  have F95 := hid (F8.out.tr (F9.wide (fun j _ h => .inl h)))
                  have b9w : Hid (Below w.heap.size w w9) := ⟨F95.out.os.trans b5w.out.os, F95.out.tape.trans b5w.out.tape, F95.out.output.trans b5w.out.output, Nat.le_trans b5w.out.size F95.out.size, fun j hj => (F95.out.block j (Nat.lt_of_lt_of_le hj b5w.out.size) (by have := hgs.out; omega)).trans (b5w.out.block j hj)⟩
                  have SI9 := SI5.out.block (fun ad had => F95.out.block ad.block (hal5.out ad had) (hne5.out ad had))
                  have HSk : Hid (∀ d os, Calls Try.prog 14 #[.slice aa n ac, .agg #[.string vkey, .int .u64 vs, .int .i64 vc]] (grow (redrawn w9 d) os) fun e w' => e = .returned (.int .i64 (m : Int)) ∧ Below (grow (redrawn w9 d) os).heap.size (grow (redrawn w9 d) os) w') := fun d os => rseek_any aa n ac m (tag 0 ys) vkey vs vc _ (SI9.later (below_regrown w9 d os)) (by omega) hmt.out
                  have u0 := cell_regrown ((b9w.out.cell (block_lt_of_cell z0.out)).trans z0.out)
                  have u1 := cell_regrown ((b9w.out.cell (block_lt_of_cell z1.out)).trans z1.out)
                  have u2 := cell_regrown ((b9w.out.cell (block_lt_of_cell z2.out)).trans z2.out)
                  have u3 := cell_regrown ((b9w.out.cell (block_lt_of_cell z3.out)).trans z3.out)
                  replace LC9 := hid LC9
                  clear F9 SI9 y0 y1 y2 y3 HK LC8 F8 SI8 b8w
                  go_wp2_with fail
                  refine wp_region_quiet_below (by kernel_rfl) (by kernel_rfl) ?_
                  repeat (first | go_big_quiet_step (first | (go_at_call 14; exact Calls.regrown_of (HSk.out _ _)) | (go_at_call 13; exact Calls.regrown_of (HMov.out _))) | quiet_step (first | (go_at_call 14; exact Calls.regrown_of (HSk.out _ _)) | (go_at_call 13; exact Calls.regrown_of (HMov.out _))))
                  refine wpQuiet_nil ?_
                  intro wA hwA
                  have bA : Below w9.heap.size w9 wA := by
                    obtain ⟨⟨dq, osq⟩, hw''⟩ := hwA
                    rw [hw'']
                    exact below_regrown _ dq osq
                  have LCA := hid (LC9.out.later bA)
                  have FA := hid (F95.out.below bA)
                  clear hwA bA u0 u1 u2 u3 HSk HMov LC9 F95
                  by_cases hjn : 0 ≤ j
                  · by_cases hjm : j < (n : Int)
                    · have hbt : hbj = true := by rw [hhbj.out]; unfold hb; rw [decide_eq_true hjn, decide_eq_true hjm]; rfl
                      subst hbt
                      go_wp2_with fail
                      go_roundw
                      case rel => exact ⟨⟨i + 1, j, rfl, by first | rfl | go_num, by omega, hj1.1, hj1.2, LCA, FA⟩⟩
                      case measure => simp [intOf]; omega
                    · have hbt : hbj = false := by rw [hhbj.out]; unfold hb; rw [decide_eq_true hjn, decide_eq_false hjm]; rfl
                      subst hbt
                      go_wp2_with fail
                      go_roundw
                      case rel => exact ⟨⟨i + 1, j, rfl, by first | rfl | go_num, by omega, hj1.1, hj1.2, LCA, FA⟩⟩
                      case measure => simp [intOf]; omega
                  · have hbt : hbj = false := by rw [hhbj.out]; unfold hb; rw [decide_eq_false hjn]; rfl
                    subst hbt
                    go_wp2_with fail
                    go_roundw
                    case rel => exact ⟨⟨i + 1, j, rfl, by first | rfl | go_num, by omega, hj1.1, hj1.2, LCA, FA⟩⟩
                    case measure => simp [intOf]; omega
                · have n1 : (vk == 1) = false := by rw [beq_eq_false_iff_ne]; exact h1
                  by_cases h2 : vk = 2
                  · subst h2
                    obtain ⟨j, hj⟩ : ∃ j : Int, j = (m : Int) := ⟨_, rfl⟩
                    have hj1 : -1 ≤ j ∧ j ≤ (n : Int) := by rw [hj]; omega
                    have HK := hid (seek_any g ga n m (n : Int) ys vkey vs vc w8 LC8.out (by omega) hm.out)
                    rw [← hj] at HK
                    have HMov : Hid (∀ W, Calls Try.prog 13 #[.int .i64 (n : Int), .int .i64 (n : Int), .int .i64 2, .int .i64 (m : Int)] W fun e w' => e = .returned (.int .i64 j) ∧ Below W.heap.size W w') := fun W => by
                      have := rmove_any n (n : Int) 2 m W (by omega) ⟨by omega, by omega⟩
                      rw [show mv n (n : Int) 2 m = j from by rw [hj]; exact rfl] at this
                      exact this.mono (fun e w' h => ⟨h.1, by rw [h.2]; exact Below.refl _ _⟩)
                    replace hj := hid hj
                    obtain ⟨hbj, hhbj⟩ : ∃ b, b = hb n j := ⟨_, rfl⟩
                    rw [← hhbj] at HK
                    replace hhbj := hid hhbj
                    go_wp2_with fail
                    refine HK.out.mono ?_
                    rintro e w9 ⟨rfl, LC9, F9⟩
                    have F95 := hid (F8.out.tr (F9.wide (fun j _ h => .inl h)))
                    have b9w : Hid (Below w.heap.size w w9) := ⟨F95.out.os.trans b5w.out.os, F95.out.tape.trans b5w.out.tape, F95.out.output.trans b5w.out.output, Nat.le_trans b5w.out.size F95.out.size, fun j hj => (F95.out.block j (Nat.lt_of_lt_of_le hj b5w.out.size) (by have := hgs.out; omega)).trans (b5w.out.block j hj)⟩
                    have SI9 := SI5.out.block (fun ad had => F95.out.block ad.block (hal5.out ad had) (hne5.out ad had))
                    have HSk : Hid (∀ d os, Calls Try.prog 14 #[.slice aa n ac, .agg #[.string vkey, .int .u64 vs, .int .i64 vc]] (grow (redrawn w9 d) os) fun e w' => e = .returned (.int .i64 (m : Int)) ∧ Below (grow (redrawn w9 d) os).heap.size (grow (redrawn w9 d) os) w') := fun d os => rseek_any aa n ac m (tag 0 ys) vkey vs vc _ (SI9.later (below_regrown w9 d os)) (by omega) hmt.out
                    have u0 := cell_regrown ((b9w.out.cell (block_lt_of_cell z0.out)).trans z0.out)
                    have u1 := cell_regrown ((b9w.out.cell (block_lt_of_cell z1.out)).trans z1.out)
                    have u2 := cell_regrown ((b9w.out.cell (block_lt_of_cell z2.out)).trans z2.out)
                    have u3 := cell_regrown ((b9w.out.cell (block_lt_of_cell z3.out)).trans z3.out)
                    replace LC9 := hid LC9
                    clear F9 SI9 y0 y1 y2 y3 HK LC8 F8 SI8 b8w
                    go_wp2_with fail
                    refine wp_region_quiet_below (by kernel_rfl) (by kernel_rfl) ?_
                    repeat (first | go_big_quiet_step (first | (go_at_call 14; exact Calls.regrown_of (HSk.out _ _)) | (go_at_call 13; exact Calls.regrown_of (HMov.out _))) | quiet_step (first | (go_at_call 14; exact Calls.regrown_of (HSk.out _ _)) | (go_at_call 13; exact Calls.regrown_of (HMov.out _))))
                    refine wpQuiet_nil ?_
                    intro wA hwA
                    have bA : Below w9.heap.size w9 wA := by
                      obtain ⟨⟨dq, osq⟩, hw''⟩ := hwA
                      rw [hw'']
                      exact below_regrown _ dq osq
                    have LCA := hid (LC9.out.later bA)
                    have FA := hid (F95.out.below bA)
                    clear hwA bA u0 u1 u2 u3 HSk HMov LC9 F95
                    by_cases hjn : 0 ≤ j
                    · by_cases hjm : j < (n : Int)
                      · have hbt : hbj = true := by rw [hhbj.out]; unfold hb; rw [decide_eq_true hjn, decide_eq_true hjm]; rfl
                        subst hbt
                        go_wp2_with fail
                        go_roundw
                        case rel => exact ⟨⟨i + 1, j, rfl, by first | rfl | go_num, by omega, hj1.1, hj1.2, LCA, FA⟩⟩
                        case measure => simp [intOf]; omega
                      · have hbt : hbj = false := by rw [hhbj.out]; unfold hb; rw [decide_eq_true hjn, decide_eq_false hjm]; rfl
                        subst hbt
                        go_wp2_with fail
                        go_roundw
                        case rel => exact ⟨⟨i + 1, j, rfl, by first | rfl | go_num, by omega, hj1.1, hj1.2, LCA, FA⟩⟩
                        case measure => simp [intOf]; omega
                    · have hbt : hbj = false := by rw [hhbj.out]; unfold hb; rw [decide_eq_false hjn]; rfl
                      subst hbt
                      go_wp2_with fail
                      go_roundw
                      case rel => exact ⟨⟨i + 1, j, rfl, by first | rfl | go_num, by omega, hj1.1, hj1.2, LCA, FA⟩⟩
                      case measure => simp [intOf]; omega
                  · have n2 : (vk == 2) = false := by rw [beq_eq_false_iff_ne]; exact h2
                    by_cases h3 : vk = 3
                    · subst h3
                      obtain ⟨j, hj⟩ : ∃ j : Int, j = (min ((n : Int) + 1) (n : Int)) := ⟨_, rfl⟩
                      have hj1 : -1 ≤ j ∧ j ≤ (n : Int) := by rw [hj]; omega
                      have HK := hid (next_any g ga n (n : Int) ys w8 LC8.out ⟨by omega, by omega⟩ (by omega))
                      rw [← hj] at HK
                      have HMov : Hid (∀ W, Calls Try.prog 13 #[.int .i64 (n : Int), .int .i64 (n : Int), .int .i64 3, .int .i64 (m : Int)] W fun e w' => e = .returned (.int .i64 j) ∧ Below W.heap.size W w') := fun W => by
                        have := rmove_any n (n : Int) 3 m W (by omega) ⟨by omega, by omega⟩
                        rw [show mv n (n : Int) 3 m = j from by rw [hj]; exact (mv_same n (n : Int) m ⟨by omega, by omega⟩).1] at this
                        exact this.mono (fun e w' h => ⟨h.1, by rw [h.2]; exact Below.refl _ _⟩)
                      replace hj := hid hj
                      obtain ⟨hbj, hhbj⟩ : ∃ b, b = hb n j := ⟨_, rfl⟩
                      rw [← hhbj] at HK
                      replace hhbj := hid hhbj
                      go_wp2_with fail
                      refine HK.out.mono ?_
                      rintro e w9 ⟨rfl, LC9, F9⟩
                      have F95 := hid (F8.out.tr (F9.wide (fun j _ h => .inl h)))
                      have b9w : Hid (Below w.heap.size w w9) := ⟨F95.out.os.trans b5w.out.os, F95.out.tape.trans b5w.out.tape, F95.out.output.trans b5w.out.output, Nat.le_trans b5w.out.size F95.out.size, fun j hj => (F95.out.block j (Nat.lt_of_lt_of_le hj b5w.out.size) (by have := hgs.out; omega)).trans (b5w.out.block j hj)⟩
                      have SI9 := SI5.out.block (fun ad had => F95.out.block ad.block (hal5.out ad had) (hne5.out ad had))
                      have HSk : Hid (∀ d os, Calls Try.prog 14 #[.slice aa n ac, .agg #[.string vkey, .int .u64 vs, .int .i64 vc]] (grow (redrawn w9 d) os) fun e w' => e = .returned (.int .i64 (m : Int)) ∧ Below (grow (redrawn w9 d) os).heap.size (grow (redrawn w9 d) os) w') := fun d os => rseek_any aa n ac m (tag 0 ys) vkey vs vc _ (SI9.later (below_regrown w9 d os)) (by omega) hmt.out
                      have u0 := cell_regrown ((b9w.out.cell (block_lt_of_cell z0.out)).trans z0.out)
                      have u1 := cell_regrown ((b9w.out.cell (block_lt_of_cell z1.out)).trans z1.out)
                      have u2 := cell_regrown ((b9w.out.cell (block_lt_of_cell z2.out)).trans z2.out)
                      have u3 := cell_regrown ((b9w.out.cell (block_lt_of_cell z3.out)).trans z3.out)
                      replace LC9 := hid LC9
                      clear F9 SI9 y0 y1 y2 y3 HK LC8 F8 SI8 b8w
                      go_wp2_with fail
                      refine wp_region_quiet_below (by kernel_rfl) (by kernel_rfl) ?_
                      repeat (first | go_big_quiet_step (first | (go_at_call 14; exact Calls.regrown_of (HSk.out _ _)) | (go_at_call 13; exact Calls.regrown_of (HMov.out _))) | quiet_step (first | (go_at_call 14; exact Calls.regrown_of (HSk.out _ _)) | (go_at_call 13; exact Calls.regrown_of (HMov.out _))))
                      refine wpQuiet_nil ?_
                      intro wA hwA
                      have bA : Below w9.heap.size w9 wA := by
                        obtain ⟨⟨dq, osq⟩, hw''⟩ := hwA
                        rw [hw'']
                        exact below_regrown _ dq osq
                      have LCA := hid (LC9.out.later bA)
                      have FA := hid (F95.out.below bA)
                      clear hwA bA u0 u1 u2 u3 HSk HMov LC9 F95
                      by_cases hjn : 0 ≤ j
                      · by_cases hjm : j < (n : Int)
                        · have hbt : hbj = true := by rw [hhbj.out]; unfold hb; rw [decide_eq_true hjn, decide_eq_true hjm]; rfl
                          subst hbt
                          go_wp2_with fail
                          go_roundw
                          case rel => exact ⟨⟨i + 1, j, rfl, by first | rfl | go_num, by omega, hj1.1, hj1.2, LCA, FA⟩⟩
                          case measure => simp [intOf]; omega
                        · have hbt : hbj = false := by rw [hhbj.out]; unfold hb; rw [decide_eq_true hjn, decide_eq_false hjm]; rfl
                          subst hbt
                          go_wp2_with fail
                          go_roundw
                          case rel => exact ⟨⟨i + 1, j, rfl, by first | rfl | go_num, by omega, hj1.1, hj1.2, LCA, FA⟩⟩
                          case measure => simp [intOf]; omega
                      · have hbt : hbj = false := by rw [hhbj.out]; unfold hb; rw [decide_eq_false hjn]; rfl
                        subst hbt
                        go_wp2_with fail
                        go_roundw
                        case rel => exact ⟨⟨i + 1, j, rfl, by first | rfl | go_num, by omega, hj1.1, hj1.2, LCA, FA⟩⟩
                        case measure => simp [intOf]; omega
                    · have n3 : (vk == 3) = false := by rw [beq_eq_false_iff_ne]; exact h3
                      by_cases h4 : vk = 4
                      · subst h4
                        obtain ⟨j, hj⟩ : ∃ j : Int, j = (max ((n : Int) - 1) (-1)) := ⟨_, rfl⟩
                        have hj1 : -1 ≤ j ∧ j ≤ (n : Int) := by rw [hj]; omega
                        have HK := hid (prev_any g ga n (n : Int) ys w8 LC8.out ⟨by omega, by omega⟩ (by omega))
                        rw [← hj] at HK
                        have HMov : Hid (∀ W, Calls Try.prog 13 #[.int .i64 (n : Int), .int .i64 (n : Int), .int .i64 4, .int .i64 (m : Int)] W fun e w' => e = .returned (.int .i64 j) ∧ Below W.heap.size W w') := fun W => by
                          have := rmove_any n (n : Int) 4 m W (by omega) ⟨by omega, by omega⟩
                          rw [show mv n (n : Int) 4 m = j from by rw [hj]; exact (mv_same n (n : Int) m ⟨by omega, by omega⟩).2] at this
                          exact this.mono (fun e w' h => ⟨h.1, by rw [h.2]; exact Below.refl _ _⟩)
                        replace hj := hid hj
                        obtain ⟨hbj, hhbj⟩ : ∃ b, b = hb n j := ⟨_, rfl⟩
                        rw [← hhbj] at HK
                        replace hhbj := hid hhbj
                        go_wp2_with fail
                        refine HK.out.mono ?_
                        rintro e w9 ⟨rfl, LC9, F9⟩
                        have F95 := hid (F8.out.tr (F9.wide (fun j _ h => .inl h)))
                        have b9w : Hid (Below w.heap.size w w9) := ⟨F95.out.os.trans b5w.out.os, F95.out.tape.trans b5w.out.tape, F95.out.output.trans b5w.out.output, Nat.le_trans b5w.out.size F95.out.size, fun j hj => (F95.out.block j (Nat.lt_of_lt_of_le hj b5w.out.size) (by have := hgs.out; omega)).trans (b5w.out.block j hj)⟩
                        have SI9 := SI5.out.block (fun ad had => F95.out.block ad.block (hal5.out ad had) (hne5.out ad had))
                        have HSk : Hid (∀ d os, Calls Try.prog 14 #[.slice aa n ac, .agg #[.string vkey, .int .u64 vs, .int .i64 vc]] (grow (redrawn w9 d) os) fun e w' => e = .returned (.int .i64 (m : Int)) ∧ Below (grow (redrawn w9 d) os).heap.size (grow (redrawn w9 d) os) w') := fun d os => rseek_any aa n ac m (tag 0 ys) vkey vs vc _ (SI9.later (below_regrown w9 d os)) (by omega) hmt.out
                        have u0 := cell_regrown ((b9w.out.cell (block_lt_of_cell z0.out)).trans z0.out)
                        have u1 := cell_regrown ((b9w.out.cell (block_lt_of_cell z1.out)).trans z1.out)
                        have u2 := cell_regrown ((b9w.out.cell (block_lt_of_cell z2.out)).trans z2.out)
                        have u3 := cell_regrown ((b9w.out.cell (block_lt_of_cell z3.out)).trans z3.out)
                        replace LC9 := hid LC9
                        clear F9 SI9 y0 y1 y2 y3 HK LC8 F8 SI8 b8w
                        go_wp2_with fail
                        refine wp_region_quiet_below (by kernel_rfl) (by kernel_rfl) ?_
                        repeat (first | go_big_quiet_step (first | (go_at_call 14; exact Calls.regrown_of (HSk.out _ _)) | (go_at_call 13; exact Calls.regrown_of (HMov.out _))) | quiet_step (first | (go_at_call 14; exact Calls.regrown_of (HSk.out _ _)) | (go_at_call 13; exact Calls.regrown_of (HMov.out _))))
                        refine wpQuiet_nil ?_
                        intro wA hwA
                        have bA : Below w9.heap.size w9 wA := by
                          obtain ⟨⟨dq, osq⟩, hw''⟩ := hwA
                          rw [hw'']
                          exact below_regrown _ dq osq
                        have LCA := hid (LC9.out.later bA)
                        have FA := hid (F95.out.below bA)
                        clear hwA bA u0 u1 u2 u3 HSk HMov LC9 F95
                        by_cases hjn : 0 ≤ j
                        · by_cases hjm : j < (n : Int)
                          · have hbt : hbj = true := by rw [hhbj.out]; unfold hb; rw [decide_eq_true hjn, decide_eq_true hjm]; rfl
                            subst hbt
                            go_wp2_with fail
                            go_roundw
                            case rel => exact ⟨⟨i + 1, j, rfl, by first | rfl | go_num, by omega, hj1.1, hj1.2, LCA, FA⟩⟩
                            case measure => simp [intOf]; omega
                          · have hbt : hbj = false := by rw [hhbj.out]; unfold hb; rw [decide_eq_true hjn, decide_eq_false hjm]; rfl
                            subst hbt
                            go_wp2_with fail
                            go_roundw
                            case rel => exact ⟨⟨i + 1, j, rfl, by first | rfl | go_num, by omega, hj1.1, hj1.2, LCA, FA⟩⟩
                            case measure => simp [intOf]; omega
                        · have hbt : hbj = false := by rw [hhbj.out]; unfold hb; rw [decide_eq_false hjn]; rfl
                          subst hbt
                          go_wp2_with fail
                          go_roundw
                          case rel => exact ⟨⟨i + 1, j, rfl, by first | rfl | go_num, by omega, hj1.1, hj1.2, LCA, FA⟩⟩
                          case measure => simp [intOf]; omega
                      · have n4 : (vk == 4) = false := by rw [beq_eq_false_iff_ne]; exact h4
                        go_wp2_with fail
                        go_roundw
                        case rel => exact ⟨⟨i + 1, (n : Int), rfl, by first | rfl | go_num, by omega, by omega, by omega, LC8, F8⟩⟩
                        case measure => simp [intOf]; omega
            · have i1 : i = mn := by omega
              subst i1
              go_wp2_with fail
              go_ret
              exact ⟨rfl, b8w.out⟩
          · have k1 : ¬ (0 : Int) ≤ p := hneg
            clear hin hneg
            go_wp2_with fail
            rw [← hw7.out, ← hg7.out]
            go_quiet (fail)
            have LC8 : Hid (Lc (w7.drewN nq) g ga n p ys) := LC7.out.later (drewN_below _ _)
            have F8 : Hid (Fp (· = g) w5 (w7.drewN nq)) := F7.out.below (drewN_below _ _)
            have SI8 : Hid (eI.Sl (w7.drewN nq) aa n ac (tag 0 ys)) := SI7.out.later (drewN_below _ _)
            have b8w : Hid (Below w.heap.size w (w7.drewN nq)) := Below.up b7w.out (drewN_below _ _)
            generalize w7.drewN nq = w8 at *
            clear LC7 F7 SI7 b7w q0 q1 q2 q3 e1
            by_cases himn : i < mn
            · have i1 : (i : Int) < (mn : Int) := by omega
              have i2 : (0 : Int) ≤ (i : Int) := by omega
              have i3 : ((i : Int) == (mn : Int)) = false := by rw [beq_eq_false_iff_ne]; omega
              obtain ⟨mb, mo, rfl, hm⟩ := sl_at (HMv.out w (Below.refl _ _)) i himn
              have hm := mv_at hm
              rw [show eV.k = 4 from rfl] at hm
              generalize ms.getD i eV.z = v at hm
              obtain ⟨vk, vkey, vs, vc⟩ := v
              obtain ⟨z0, z1, z2, z3⟩ := hm
              dsimp only at z0 z1 z2 z3
              have y0 := (b8w.out.cell (block_lt_of_cell z0)).trans z0
              have y1 := (b8w.out.cell (block_lt_of_cell z1)).trans z1
              have y2 := (b8w.out.cell (block_lt_of_cell z2)).trans z2
              have y3 := (b8w.out.cell (block_lt_of_cell z3)).trans z3
              replace z0 := hid z0
              replace z1 := hid z1
              replace z2 := hid z2
              replace z3 := hid z3
              obtain ⟨m, hm⟩ := cut_ex ys (ik vkey vs vc) (by rw [hys.out]; exact (srtE_spec xs).1)
              have hmn : m ≤ n := by have := hm.1; rw [hyl.out] at this; exact this
              have hmt : Cut ((tag 0 ys).map It.e) (ik vkey vs vc) m := by rw [tag_e]; exact hm
              replace hm := hid hm
              replace hmt := hid hmt
              have q3 : IntKind.i64.wrap ((i : Int) + 1) = ((i + 1 : Nat) : Int) := by rw [IntKind.wrap_i64]; omega
              by_cases h0 : vk = 0
              · subst h0
                obtain ⟨j, hj⟩ : ∃ j : Int, j = 0 := ⟨_, rfl⟩
                have hj1 : -1 ≤ j ∧ j ≤ (n : Int) := by rw [hj]; omega
                have HK := hid (first_any g ga n p ys w8 LC8.out ⟨by omega, by omega⟩ (by omega))
                rw [← hj] at HK
                have HMov : Hid (∀ W, Calls Try.prog 13 #[.int .i64 (n : Int), .int .i64 p, .int .i64 0, .int .i64 (m : Int)] W fun e w' => e = .returned (.int .i64 j) ∧ Below W.heap.size W w') := fun W => by
                  have := rmove_any n p 0 m W (by omega) ⟨by omega, by omega⟩
                  rw [show mv n p 0 m = j from by rw [hj]; exact rfl] at this
                  exact this.mono (fun e w' h => ⟨h.1, by rw [h.2]; exact Below.refl _ _⟩)
                replace hj := hid hj
                obtain ⟨hbj, hhbj⟩ : ∃ b, b = hb n j := ⟨_, rfl⟩
                rw [← hhbj] at HK
                replace hhbj := hid hhbj
                go_wp2_with fail
                refine HK.out.mono ?_
                rintro e w9 ⟨rfl, LC9, F9⟩
                have F95 := hid (F8.out.tr (F9.wide (fun j _ h => .inl h)))
                have b9w : Hid (Below w.heap.size w w9) := ⟨F95.out.os.trans b5w.out.os, F95.out.tape.trans b5w.out.tape, F95.out.output.trans b5w.out.output, Nat.le_trans b5w.out.size F95.out.size, fun j hj => (F95.out.block j (Nat.lt_of_lt_of_le hj b5w.out.size) (by have := hgs.out; omega)).trans (b5w.out.block j hj)⟩
                have SI9 := SI5.out.block (fun ad had => F95.out.block ad.block (hal5.out ad had) (hne5.out ad had))
                have HSk : Hid (∀ d os, Calls Try.prog 14 #[.slice aa n ac, .agg #[.string vkey, .int .u64 vs, .int .i64 vc]] (grow (redrawn w9 d) os) fun e w' => e = .returned (.int .i64 (m : Int)) ∧ Below (grow (redrawn w9 d) os).heap.size (grow (redrawn w9 d) os) w') := fun d os => rseek_any aa n ac m (tag 0 ys) vkey vs vc _ (SI9.later (below_regrown w9 d os)) (by omega) hmt.out
                have u0 := cell_regrown ((b9w.out.cell (block_lt_of_cell z0.out)).trans z0.out)
                have u1 := cell_regrown ((b9w.out.cell (block_lt_of_cell z1.out)).trans z1.out)
                have u2 := cell_regrown ((b9w.out.cell (block_lt_of_cell z2.out)).trans z2.out)
                have u3 := cell_regrown ((b9w.out.cell (block_lt_of_cell z3.out)).trans z3.out)
                replace LC9 := hid LC9
                clear F9 SI9 y0 y1 y2 y3 HK LC8 F8 SI8 b8w
                go_wp2_with fail
                refine wp_region_quiet_below (by kernel_rfl) (by kernel_rfl) ?_
                repeat (first | go_big_quiet_step (first | (go_at_call 14; exact Calls.regrown_of (HSk.out _ _)) | (go_at_call 13; exact Calls.regrown_of (HMov.out _))) | quiet_step (first | (go_at_call 14; exact Calls.regrown_of (HSk.out _ _)) | (go_at_call 13; exact Calls.regrown_of (HMov.out _))))
                refine wpQuiet_nil ?_
                intro wA hwA
                have bA : Below w9.heap.size w9 wA := by
                  obtain ⟨⟨dq, osq⟩, hw''⟩ := hwA
                  rw [hw'']
                  exact below_regrown _ dq osq
                have LCA := hid (LC9.out.later bA)
                have FA := hid (F95.out.below bA)
                clear hwA bA u0 u1 u2 u3 HSk HMov LC9 F95
                by_cases hjn : 0 ≤ j
                · by_cases hjm : j < (n : Int)
                  · have hbt : hbj = true := by rw [hhbj.out]; unfold hb; rw [decide_eq_true hjn, decide_eq_true hjm]; rfl
                    subst hbt
                    go_wp2_with fail
                    go_roundw
                    case rel => exact ⟨⟨i + 1, j, rfl, by first | rfl | go_num, by omega, hj1.1, hj1.2, LCA, FA⟩⟩
                    case measure => simp [intOf]; omega
                  · have hbt : hbj = false := by rw [hhbj.out]; unfold hb; rw [decide_eq_true hjn, decide_eq_false hjm]; rfl
                    subst hbt
                    go_wp2_with fail
                    go_roundw
                    case rel => exact ⟨⟨i + 1, j, rfl, by first | rfl | go_num, by omega, hj1.1, hj1.2, LCA, FA⟩⟩
                    case measure => simp [intOf]; omega
                · have hbt : hbj = false := by rw [hhbj.out]; unfold hb; rw [decide_eq_false hjn]; rfl
                  subst hbt
                  go_wp2_with fail
                  go_roundw
                  case rel => exact ⟨⟨i + 1, j, rfl, by first | rfl | go_num, by omega, hj1.1, hj1.2, LCA, FA⟩⟩
                  case measure => simp [intOf]; omega
              · have n0 : (vk == 0) = false := by rw [beq_eq_false_iff_ne]; exact h0
                by_cases h1 : vk = 1
                · subst h1
                  obtain ⟨j, hj⟩ : ∃ j : Int, j = ((n : Int) - 1) := ⟨_, rfl⟩
                  have hj1 : -1 ≤ j ∧ j ≤ (n : Int) := by rw [hj]; omega
                  have HK := hid (last_any g ga n p ys w8 LC8.out ⟨by omega, by omega⟩ (by omega))
                  rw [← hj] at HK
                  have HMov : Hid (∀ W, Calls Try.prog 13 #[.int .i64 (n : Int), .int .i64 p, .int .i64 1, .int .i64 (m : Int)] W fun e w' => e = .returned (.int .i64 j) ∧ Below W.heap.size W w') := fun W => by
                    have := rmove_any n p 1 m W (by omega) ⟨by omega, by omega⟩
                    rw [show mv n p 1 m = j from by rw [hj]; exact rfl] at this
                    exact this.mono (fun e w' h => ⟨h.1, by rw [h.2]; exact Below.refl _ _⟩)
                  replace hj := hid hj
                  obtain ⟨hbj, hhbj⟩ : ∃ b, b = hb n j := ⟨_, rfl⟩
                  rw [← hhbj] at HK
                  replace hhbj := hid hhbj
                  go_wp2_with fail
                  refine HK.out.mono ?_
                  rintro e w9 ⟨rfl, LC9, F9⟩
                  have F95 := hid (F8.out.tr (F9.wide (fun j _ h => .inl h)))
                  have b9w : Hid (Below w.heap.size w w9) := ⟨F95.out.os.trans b5w.out.os, F95.out.tape.trans b5w.out.tape, F95.out.output.trans b5w.out.output, Nat.le_trans b5w.out.size F95.out.size, fun j hj => (F95.out.block j (Nat.lt_of_lt_of_le hj b5w.out.size) (by have := hgs.out; omega)).trans (b5w.out.block j hj)⟩
                  have SI9 := SI5.out.block (fun ad had => F95.out.block ad.block (hal5.out ad had) (hne5.out ad had))
                  have HSk : Hid (∀ d os, Calls Try.prog 14 #[.slice aa n ac, .agg #[.string vkey, .int .u64 vs, .int .i64 vc]] (grow (redrawn w9 d) os) fun e w' => e = .returned (.int .i64 (m : Int)) ∧ Below (grow (redrawn w9 d) os).heap.size (grow (redrawn w9 d) os) w') := fun d os => rseek_any aa n ac m (tag 0 ys) vkey vs vc _ (SI9.later (below_regrown w9 d os)) (by omega) hmt.out
                  have u0 := cell_regrown ((b9w.out.cell (block_lt_of_cell z0.out)).trans z0.out)
                  have u1 := cell_regrown ((b9w.out.cell (block_lt_of_cell z1.out)).trans z1.out)
                  have u2 := cell_regrown ((b9w.out.cell (block_lt_of_cell z2.out)).trans z2.out)
                  have u3 := cell_regrown ((b9w.out.cell (block_lt_of_cell z3.out)).trans z3.out)
                  replace LC9 := hid LC9
                  clear F9 SI9 y0 y1 y2 y3 HK LC8 F8 SI8 b8w
                  go_wp2_with fail
                  refine wp_region_quiet_below (by kernel_rfl) (by kernel_rfl) ?_
                  repeat (first | go_big_quiet_step (first | (go_at_call 14; exact Calls.regrown_of (HSk.out _ _)) | (go_at_call 13; exact Calls.regrown_of (HMov.out _))) | quiet_step (first | (go_at_call 14; exact Calls.regrown_of (HSk.out _ _)) | (go_at_call 13; exact Calls.regrown_of (HMov.out _))))
                  refine wpQuiet_nil ?_
                  intro wA hwA
                  have bA : Below w9.heap.size w9 wA := by
                    obtain ⟨⟨dq, osq⟩, hw''⟩ := hwA
                    rw [hw'']
                    exact below_regrown _ dq osq
                  have LCA := hid (LC9.out.later bA)
                  have FA := hid (F95.out.below bA)
                  clear hwA bA u0 u1 u2 u3 HSk HMov LC9 F95
                  by_cases hjn : 0 ≤ j
                  · by_cases hjm : j < (n : Int)
                    · have hbt : hbj = true := by rw [hhbj.out]; unfold hb; rw [decide_eq_true hjn, decide_eq_true hjm]; rfl
                      subst hbt
                      go_wp2_with fail
                      go_roundw
                      case rel => exact ⟨⟨i + 1, j, rfl, by first | rfl | go_num, by omega, hj1.1, hj1.2, LCA, FA⟩⟩
                      case measure => simp [intOf]; omega
                    · have hbt : hbj = false := by rw [hhbj.out]; unfold hb; rw [decide_eq_true hjn, decide_eq_false hjm]; rfl
                      subst hbt
                      go_wp2_with fail
                      go_roundw
                      case rel => exact ⟨⟨i + 1, j, rfl, by first | rfl | go_num, by omega, hj1.1, hj1.2, LCA, FA⟩⟩
                      case measure => simp [intOf]; omega
                  · have hbt : hbj = false := by rw [hhbj.out]; unfold hb; rw [decide_eq_false hjn]; rfl
                    subst hbt
                    go_wp2_with fail
                    go_roundw
                    case rel => exact ⟨⟨i + 1, j, rfl, by first | rfl | go_num, by omega, hj1.1, hj1.2, LCA, FA⟩⟩
                    case measure => simp [intOf]; omega
                · have n1 : (vk == 1) = false := by rw [beq_eq_false_iff_ne]; exact h1
                  by_cases h2 : vk = 2
                  · subst h2
                    obtain ⟨j, hj⟩ : ∃ j : Int, j = (m : Int) := ⟨_, rfl⟩
                    have hj1 : -1 ≤ j ∧ j ≤ (n : Int) := by rw [hj]; omega
                    have HK := hid (seek_any g ga n m p ys vkey vs vc w8 LC8.out (by omega) hm.out)
                    rw [← hj] at HK
                    have HMov : Hid (∀ W, Calls Try.prog 13 #[.int .i64 (n : Int), .int .i64 p, .int .i64 2, .int .i64 (m : Int)] W fun e w' => e = .returned (.int .i64 j) ∧ Below W.heap.size W w') := fun W => by
                      have := rmove_any n p 2 m W (by omega) ⟨by omega, by omega⟩
                      rw [show mv n p 2 m = j from by rw [hj]; exact rfl] at this
                      exact this.mono (fun e w' h => ⟨h.1, by rw [h.2]; exact Below.refl _ _⟩)
                    replace hj := hid hj
                    obtain ⟨hbj, hhbj⟩ : ∃ b, b = hb n j := ⟨_, rfl⟩
                    rw [← hhbj] at HK
                    replace hhbj := hid hhbj
                    go_wp2_with fail
                    refine HK.out.mono ?_
                    rintro e w9 ⟨rfl, LC9, F9⟩
                    have F95 := hid (F8.out.tr (F9.wide (fun j _ h => .inl h)))
                    have b9w : Hid (Below w.heap.size w w9) := ⟨F95.out.os.trans b5w.out.os, F95.out.tape.trans b5w.out.tape, F95.out.output.trans b5w.out.output, Nat.le_trans b5w.out.size F95.out.size, fun j hj => (F95.out.block j (Nat.lt_of_lt_of_le hj b5w.out.size) (by have := hgs.out; omega)).trans (b5w.out.block j hj)⟩
                    have SI9 := SI5.out.block (fun ad had => F95.out.block ad.block (hal5.out ad had) (hne5.out ad had))
                    have HSk : Hid (∀ d os, Calls Try.prog 14 #[.slice aa n ac, .agg #[.string vkey, .int .u64 vs, .int .i64 vc]] (grow (redrawn w9 d) os) fun e w' => e = .returned (.int .i64 (m : Int)) ∧ Below (grow (redrawn w9 d) os).heap.size (grow (redrawn w9 d) os) w') := fun d os => rseek_any aa n ac m (tag 0 ys) vkey vs vc _ (SI9.later (below_regrown w9 d os)) (by omega) hmt.out
                    have u0 := cell_regrown ((b9w.out.cell (block_lt_of_cell z0.out)).trans z0.out)
                    have u1 := cell_regrown ((b9w.out.cell (block_lt_of_cell z1.out)).trans z1.out)
                    have u2 := cell_regrown ((b9w.out.cell (block_lt_of_cell z2.out)).trans z2.out)
                    have u3 := cell_regrown ((b9w.out.cell (block_lt_of_cell z3.out)).trans z3.out)
                    replace LC9 := hid LC9
                    clear F9 SI9 y0 y1 y2 y3 HK LC8 F8 SI8 b8w
                    go_wp2_with fail
                    refine wp_region_quiet_below (by kernel_rfl) (by kernel_rfl) ?_
                    repeat (first | go_big_quiet_step (first | (go_at_call 14; exact Calls.regrown_of (HSk.out _ _)) | (go_at_call 13; exact Calls.regrown_of (HMov.out _))) | quiet_step (first | (go_at_call 14; exact Calls.regrown_of (HSk.out _ _)) | (go_at_call 13; exact Calls.regrown_of (HMov.out _))))
                    refine wpQuiet_nil ?_
                    intro wA hwA
                    have bA : Below w9.heap.size w9 wA := by
                      obtain ⟨⟨dq, osq⟩, hw''⟩ := hwA
                      rw [hw'']
                      exact below_regrown _ dq osq
                    have LCA := hid (LC9.out.later bA)
                    have FA := hid (F95.out.below bA)
                    clear hwA bA u0 u1 u2 u3 HSk HMov LC9 F95
                    by_cases hjn : 0 ≤ j
                    · by_cases hjm : j < (n : Int)
                      · have hbt : hbj = true := by rw [hhbj.out]; unfold hb; rw [decide_eq_true hjn, decide_eq_true hjm]; rfl
                        subst hbt
                        go_wp2_with fail
                        go_roundw
                        case rel => exact ⟨⟨i + 1, j, rfl, by first | rfl | go_num, by omega, hj1.1, hj1.2, LCA, FA⟩⟩
                        case measure => simp [intOf]; omega
                      · have hbt : hbj = false := by rw [hhbj.out]; unfold hb; rw [decide_eq_true hjn, decide_eq_false hjm]; rfl
                        subst hbt
                        go_wp2_with fail
                        go_roundw
                        case rel => exact ⟨⟨i + 1, j, rfl, by first | rfl | go_num, by omega, hj1.1, hj1.2, LCA, FA⟩⟩
                        case measure => simp [intOf]; omega
                    · have hbt : hbj = false := by rw [hhbj.out]; unfold hb; rw [decide_eq_false hjn]; rfl
                      subst hbt
                      go_wp2_with fail
                      go_roundw
                      case rel => exact ⟨⟨i + 1, j, rfl, by first | rfl | go_num, by omega, hj1.1, hj1.2, LCA, FA⟩⟩
                      case measure => simp [intOf]; omega
                  · have n2 : (vk == 2) = false := by rw [beq_eq_false_iff_ne]; exact h2
                    by_cases h3 : vk = 3
                    · subst h3
                      obtain ⟨j, hj⟩ : ∃ j : Int, j = (min (p + 1) (n : Int)) := ⟨_, rfl⟩
                      have hj1 : -1 ≤ j ∧ j ≤ (n : Int) := by rw [hj]; omega
                      have HK := hid (next_any g ga n p ys w8 LC8.out ⟨by omega, by omega⟩ (by omega))
                      rw [← hj] at HK
                      have HMov : Hid (∀ W, Calls Try.prog 13 #[.int .i64 (n : Int), .int .i64 p, .int .i64 3, .int .i64 (m : Int)] W fun e w' => e = .returned (.int .i64 j) ∧ Below W.heap.size W w') := fun W => by
                        have := rmove_any n p 3 m W (by omega) ⟨by omega, by omega⟩
                        rw [show mv n p 3 m = j from by rw [hj]; exact (mv_same n p m ⟨by omega, by omega⟩).1] at this
                        exact this.mono (fun e w' h => ⟨h.1, by rw [h.2]; exact Below.refl _ _⟩)
                      replace hj := hid hj
                      obtain ⟨hbj, hhbj⟩ : ∃ b, b = hb n j := ⟨_, rfl⟩
                      rw [← hhbj] at HK
                      replace hhbj := hid hhbj
                      go_wp2_with fail
                      refine HK.out.mono ?_
                      rintro e w9 ⟨rfl, LC9, F9⟩
                      have F95 := hid (F8.out.tr (F9.wide (fun j _ h => .inl h)))
                      have b9w : Hid (Below w.heap.size w w9) := ⟨F95.out.os.trans b5w.out.os, F95.out.tape.trans b5w.out.tape, F95.out.output.trans b5w.out.output, Nat.le_trans b5w.out.size F95.out.size, fun j hj => (F95.out.block j (Nat.lt_of_lt_of_le hj b5w.out.size) (by have := hgs.out; omega)).trans (b5w.out.block j hj)⟩
                      have SI9 := SI5.out.block (fun ad had => F95.out.block ad.block (hal5.out ad had) (hne5.out ad had))
                      have HSk : Hid (∀ d os, Calls Try.prog 14 #[.slice aa n ac, .agg #[.string vkey, .int .u64 vs, .int .i64 vc]] (grow (redrawn w9 d) os) fun e w' => e = .returned (.int .i64 (m : Int)) ∧ Below (grow (redrawn w9 d) os).heap.size (grow (redrawn w9 d) os) w') := fun d os => rseek_any aa n ac m (tag 0 ys) vkey vs vc _ (SI9.later (below_regrown w9 d os)) (by omega) hmt.out
                      have u0 := cell_regrown ((b9w.out.cell (block_lt_of_cell z0.out)).trans z0.out)
                      have u1 := cell_regrown ((b9w.out.cell (block_lt_of_cell z1.out)).trans z1.out)
                      have u2 := cell_regrown ((b9w.out.cell (block_lt_of_cell z2.out)).trans z2.out)
                      have u3 := cell_regrown ((b9w.out.cell (block_lt_of_cell z3.out)).trans z3.out)
                      replace LC9 := hid LC9
                      clear F9 SI9 y0 y1 y2 y3 HK LC8 F8 SI8 b8w
                      go_wp2_with fail
                      refine wp_region_quiet_below (by kernel_rfl) (by kernel_rfl) ?_
                      repeat (first | go_big_quiet_step (first | (go_at_call 14; exact Calls.regrown_of (HSk.out _ _)) | (go_at_call 13; exact Calls.regrown_of (HMov.out _))) | quiet_step (first | (go_at_call 14; exact Calls.regrown_of (HSk.out _ _)) | (go_at_call 13; exact Calls.regrown_of (HMov.out _))))
                      refine wpQuiet_nil ?_
                      intro wA hwA
                      have bA : Below w9.heap.size w9 wA := by
                        obtain ⟨⟨dq, osq⟩, hw''⟩ := hwA
                        rw [hw'']
                        exact below_regrown _ dq osq
                      have LCA := hid (LC9.out.later bA)
                      have FA := hid (F95.out.below bA)
                      clear hwA bA u0 u1 u2 u3 HSk HMov LC9 F95
                      by_cases hjn : 0 ≤ j
                      · by_cases hjm : j < (n : Int)
                        · have hbt : hbj = true := by rw [hhbj.out]; unfold hb; rw [decide_eq_true hjn, decide_eq_true hjm]; rfl
                          subst hbt
                          go_wp2_with fail
                          go_roundw
                          case rel => exact ⟨⟨i + 1, j, rfl, by first | rfl | go_num, by omega, hj1.1, hj1.2, LCA, FA⟩⟩
                          case measure => simp [intOf]; omega
                        · have hbt : hbj = false := by rw [hhbj.out]; unfold hb; rw [decide_eq_true hjn, decide_eq_false hjm]; rfl
                          subst hbt
                          go_wp2_with fail
                          go_roundw
                          case rel => exact ⟨⟨i + 1, j, rfl, by first | rfl | go_num, by omega, hj1.1, hj1.2, LCA, FA⟩⟩
                          case measure => simp [intOf]; omega
                      · have hbt : hbj = false := by rw [hhbj.out]; unfold hb; rw [decide_eq_false hjn]; rfl
                        subst hbt
                        go_wp2_with fail
                        go_roundw
                        case rel => exact ⟨⟨i + 1, j, rfl, by first | rfl | go_num, by omega, hj1.1, hj1.2, LCA, FA⟩⟩
                        case measure => simp [intOf]; omega
                    · have n3 : (vk == 3) = false := by rw [beq_eq_false_iff_ne]; exact h3
                      by_cases h4 : vk = 4
                      · subst h4
                        obtain ⟨j, hj⟩ : ∃ j : Int, j = (max (p - 1) (-1)) := ⟨_, rfl⟩
                        have hj1 : -1 ≤ j ∧ j ≤ (n : Int) := by rw [hj]; omega
                        have HK := hid (prev_any g ga n p ys w8 LC8.out ⟨by omega, by omega⟩ (by omega))
                        rw [← hj] at HK
                        have HMov : Hid (∀ W, Calls Try.prog 13 #[.int .i64 (n : Int), .int .i64 p, .int .i64 4, .int .i64 (m : Int)] W fun e w' => e = .returned (.int .i64 j) ∧ Below W.heap.size W w') := fun W => by
                          have := rmove_any n p 4 m W (by omega) ⟨by omega, by omega⟩
                          rw [show mv n p 4 m = j from by rw [hj]; exact (mv_same n p m ⟨by omega, by omega⟩).2] at this
                          exact this.mono (fun e w' h => ⟨h.1, by rw [h.2]; exact Below.refl _ _⟩)
                        replace hj := hid hj
                        obtain ⟨hbj, hhbj⟩ : ∃ b, b = hb n j := ⟨_, rfl⟩
                        rw [← hhbj] at HK
                        replace hhbj := hid hhbj
                        go_wp2_with fail
                        refine HK.out.mono ?_
                        rintro e w9 ⟨rfl, LC9, F9⟩
                        have F95 := hid (F8.out.tr (F9.wide (fun j _ h => .inl h)))
                        have b9w : Hid (Below w.heap.size w w9) := ⟨F95.out.os.trans b5w.out.os, F95.out.tape.trans b5w.out.tape, F95.out.output.trans b5w.out.output, Nat.le_trans b5w.out.size F95.out.size, fun j hj => (F95.out.block j (Nat.lt_of_lt_of_le hj b5w.out.size) (by have := hgs.out; omega)).trans (b5w.out.block j hj)⟩
                        have SI9 := SI5.out.block (fun ad had => F95.out.block ad.block (hal5.out ad had) (hne5.out ad had))
                        have HSk : Hid (∀ d os, Calls Try.prog 14 #[.slice aa n ac, .agg #[.string vkey, .int .u64 vs, .int .i64 vc]] (grow (redrawn w9 d) os) fun e w' => e = .returned (.int .i64 (m : Int)) ∧ Below (grow (redrawn w9 d) os).heap.size (grow (redrawn w9 d) os) w') := fun d os => rseek_any aa n ac m (tag 0 ys) vkey vs vc _ (SI9.later (below_regrown w9 d os)) (by omega) hmt.out
                        have u0 := cell_regrown ((b9w.out.cell (block_lt_of_cell z0.out)).trans z0.out)
                        have u1 := cell_regrown ((b9w.out.cell (block_lt_of_cell z1.out)).trans z1.out)
                        have u2 := cell_regrown ((b9w.out.cell (block_lt_of_cell z2.out)).trans z2.out)
                        have u3 := cell_regrown ((b9w.out.cell (block_lt_of_cell z3.out)).trans z3.out)
                        replace LC9 := hid LC9
                        clear F9 SI9 y0 y1 y2 y3 HK LC8 F8 SI8 b8w
                        go_wp2_with fail
                        refine wp_region_quiet_below (by kernel_rfl) (by kernel_rfl) ?_
                        repeat (first | go_big_quiet_step (first | (go_at_call 14; exact Calls.regrown_of (HSk.out _ _)) | (go_at_call 13; exact Calls.regrown_of (HMov.out _))) | quiet_step (first | (go_at_call 14; exact Calls.regrown_of (HSk.out _ _)) | (go_at_call 13; exact Calls.regrown_of (HMov.out _))))
                        refine wpQuiet_nil ?_
                        intro wA hwA
                        have bA : Below w9.heap.size w9 wA := by
                          obtain ⟨⟨dq, osq⟩, hw''⟩ := hwA
                          rw [hw'']
                          exact below_regrown _ dq osq
                        have LCA := hid (LC9.out.later bA)
                        have FA := hid (F95.out.below bA)
                        clear hwA bA u0 u1 u2 u3 HSk HMov LC9 F95
                        by_cases hjn : 0 ≤ j
                        · by_cases hjm : j < (n : Int)
                          · have hbt : hbj = true := by rw [hhbj.out]; unfold hb; rw [decide_eq_true hjn, decide_eq_true hjm]; rfl
                            subst hbt
                            go_wp2_with fail
                            go_roundw
                            case rel => exact ⟨⟨i + 1, j, rfl, by first | rfl | go_num, by omega, hj1.1, hj1.2, LCA, FA⟩⟩
                            case measure => simp [intOf]; omega
                          · have hbt : hbj = false := by rw [hhbj.out]; unfold hb; rw [decide_eq_true hjn, decide_eq_false hjm]; rfl
                            subst hbt
                            go_wp2_with fail
                            go_roundw
                            case rel => exact ⟨⟨i + 1, j, rfl, by first | rfl | go_num, by omega, hj1.1, hj1.2, LCA, FA⟩⟩
                            case measure => simp [intOf]; omega
                        · have hbt : hbj = false := by rw [hhbj.out]; unfold hb; rw [decide_eq_false hjn]; rfl
                          subst hbt
                          go_wp2_with fail
                          go_roundw
                          case rel => exact ⟨⟨i + 1, j, rfl, by first | rfl | go_num, by omega, hj1.1, hj1.2, LCA, FA⟩⟩
                          case measure => simp [intOf]; omega
                      · have n4 : (vk == 4) = false := by rw [beq_eq_false_iff_ne]; exact h4
                        go_wp2_with fail
                        go_roundw
                        case rel => exact ⟨⟨i + 1, p, rfl, by first | rfl | go_num, by omega, by omega, by omega, LC8, F8⟩⟩
                        case measure => simp [intOf]; omega
            · have i1 : i = mn := by omega
              subst i1
              go_wp2_with fail
              go_ret
              exact ⟨rfl, b8w.out⟩
end Go.Proofs.Ytgjodfaliajlgaa.Ll9

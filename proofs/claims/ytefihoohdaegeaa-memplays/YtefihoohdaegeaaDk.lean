/- MemPlays walked. -/
import Derived.Test.YtefihoohdaegeaaDj
namespace Go.Proofs.Ytefihoohdaegeaa.Dk
open Go.ChangeShapes Go.WideShapes Go.ChangeAt Go.RowKit Go.Shelf
open Go.Sort (grow)
open Go.Proofs.Ytefihoohdaegeaa.Lx (hid)
open Go.Proofs.Ytefihoohdaegeaa.Rw
open Go.Proofs.Ytefihoohdaegeaa.Fm
open Go.Proofs.Ytefihoohdaegeaa.Tb
open Go.Proofs.Ytefihoohdaegeaa.Eo
open Go.Proofs.Ytefihoohdaegeaa.Et (ents)
open Go.Proofs.Ytefihoohdaegeaa.Ad (adE adS)
open Go.Proofs.Ytefihoohdaegeaa.Ae (add_any)
open Go.Proofs.Ytefihoohdaegeaa.Fl
open Go.Proofs.Ytefihoohdaegeaa.Db (put8 put8_at put8_below put8_ne put8_size)
open Go.Proofs.Ytefihoohdaegeaa.Dg
open Go.Proofs.Ytefihoohdaegeaa.Dj
open Go.Proofs.Ytefihoohdaegeaa.Wk (among_any)
open Go.Proofs.Ytefihoohdaegeaa.Mm (box_below)
open Go.Proofs.Ytefihoohdaegeaa.Tr (new_at cell_of size_alloc blk_lt fz_of set_of set_ne)
set_option linter.unusedVariables false
set_option linter.unusedSimpArgs false

theorem names_any (w : World) : Calls Try.prog 10 #[] w fun e w' => e = .returned (.bool true) ∧ w' = w := by
  go_enter Try.func10, Try.ntmps10
  go_wp2
  go_ret
  exact ⟨rfl, rfl⟩
/-- Both memtables, and where the document's lies. -/
structure Bo (w wr : World) (n0 g g6 n : Nat) (P : Nat → Prop) (S : St) (ea : Option Addr) (el ec : Nat) (ta : Option Addr) (tl tc : Nat) : Prop where
  two : Two wr n0 g P S ea el ec ta tl tc
  box : wr.heap[g6]? = some (.cells #[.int .i64 S.log, .slice ea el ec, .slice ta tl tc, .int .i64 ((S.ns.length : Int) + S.ts.length), .int .i64 S.sz, .int .u64 S.lo, .int .u64 S.hi, .bool S.dn] 29)
  lz : Lz S
  lo : 0 ≤ S.lo
  ts : S.ts.length ≤ n
  np : ¬ P g6
  re : ∀ j, (Value.slice ea el ec).ownBlock = some j → ¬ P j ∧ j ≠ g6
  rt : ∀ j, (Value.slice ta tl tc).ownBlock = some j → ¬ P j ∧ j ≠ g6
  b : Below n0 w wr
  l : n0 ≤ g6
theorem Bo.later {w wr wr' : World} {n0 g g6 n : Nat} {P : Nat → Prop} {S : St} {ea ta : Option Addr} {el ec tl tc : Nat} (h : Bo w wr n0 g g6 n P S ea el ec ta tl tc) (b : Below wr.heap.size wr wr') : Bo w wr' n0 g g6 n P S ea el ec ta tl tc :=
  ⟨h.two.later b, (b.block _ (blk_lt h.box)).trans h.box, h.lz, h.lo, h.ts, h.np, h.re, h.rt, h.b.trans (b.mono (by have := blk_lt h.box; have := h.l; omega)), h.l⟩
theorem Bo.more {w wr : World} {n0 g g6 n : Nat} {P : Nat → Prop} {S : St} {ea ta : Option Addr} {el ec tl tc : Nat} (h : Bo w wr n0 g g6 n P S ea el ec ta tl tc) : Bo w wr n0 g g6 (n + 1) P S ea el ec ta tl tc :=
  ⟨h.two, h.box, h.lz, h.lo, Nat.le_succ_of_le h.ts, h.np, h.re, h.rt, h.b, h.l⟩
/-- Behind the program's Add and then the document's, with the document's table stored. -/
theorem Bo.add {w wr w1 w2 : World} {n0 g g6 n : Nat} {P : Nat → Prop} {S : St} {ea ta ea' ta' : Option Addr} {el ec tl tc el' ec' tl' tc' : Nat} (h : Bo w wr n0 g g6 n P S ea el ec ta tl tc) (q c : Int) (k v : ByteArray) (ht : Int) (t1 : Tb.Tb w1 n0 g (gw P wr w1) (adS S q c k v ht)) (f1 : Fp P wr w1) (r2 : RT w2 (adS S q c k v ht) ea' el' ec' ta' tl' tc') (b2 : Below w1.heap.size w1 w2)
    (he : ∀ j, (Value.slice ea' el' ec').ownBlock = some j → (Value.slice ea el ec).ownBlock = some j ∨ w1.heap.size ≤ j) (htt : ∀ j, (Value.slice ta' tl' tc').ownBlock = some j → (Value.slice ta tl tc).ownBlock = some j ∨ w1.heap.size ≤ j) :
    Bo w (put8 w2 g6 (.int .i64 (adS S q c k v ht).log) (.slice ea' el' ec') (.slice ta' tl' tc') (.int .i64 (((adS S q c k v ht).ns.length : Int) + (adS S q c k v ht).ts.length)) (.int .i64 (adS S q c k v ht).sz) (.int .u64 (adS S q c k v ht).lo) (.int .u64 (adS S q c k v ht).hi) (.bool (adS S q c k v ht).dn)) n0 g g6 (n + 1) (gw P wr w1) (adS S q c k v ht) ea' el' ec' ta' tl' tc' := by
  have hlt := blk_lt h.box
  have hbx : w1.heap[g6]? = some (.cells #[.int .i64 S.log, .slice ea el ec, .slice ta tl tc, .int .i64 ((S.ns.length : Int) + S.ts.length), .int .i64 S.sz, .int .u64 S.lo, .int .u64 S.hi, .bool S.dn] 29) := (f1.block g6 hlt h.np).trans h.box
  have hbx2 := (b2.block g6 (blk_lt hbx)).trans hbx
  have hnp : ¬ gw P wr w1 g6 := fun hj => by
    rcases hj with hj | hj
    · exact h.np hj
    · omega
  have s1 := f1.size
  have hls := h.b.size
  have nre : ∀ j, (Value.slice ea' el' ec').ownBlock = some j → ¬ gw P wr w1 j ∧ j ≠ g6 := fun j hj => by
    rcases he j hj with h' | h'
    · obtain ⟨a, b⟩ := h.re j h'
      have := (own_lt h.two.b.e j h').2
      exact ⟨fun hg => by rcases hg with hg | hg; exact a hg; omega, b⟩
    · exact ⟨fun hg => by rcases hg with hg | hg; have := (h.two.a.low j hg).2; omega; omega, by omega⟩
  have nrt : ∀ j, (Value.slice ta' tl' tc').ownBlock = some j → ¬ gw P wr w1 j ∧ j ≠ g6 := fun j hj => by
    rcases htt j hj with h' | h'
    · obtain ⟨a, b⟩ := h.rt j h'
      have := (own_lt h.two.b.t j h').2
      exact ⟨fun hg => by rcases hg with hg | hg; exact a hg; omega, b⟩
    · exact ⟨fun hg => by rcases hg with hg | hg; have := (h.two.a.low j hg).2; omega; omega, by omega⟩
  refine ⟨⟨(t1.later b2).blocks (fun j hj => put8_ne _ _ _ (fun e => hnp (by rw [← e]; exact hj)) _ _ _ _ _ _ _ _) (by rw [put8_size]; exact Nat.le_refl _), ⟨own_blocks r2.e (fun j hj => put8_ne _ _ _ (nre j hj).2 _ _ _ _ _ _ _ _), r2.el, own_blocks r2.t (fun j hj => put8_ne _ _ _ (nrt j hj).2 _ _ _ _ _ _ _ _), r2.tl⟩⟩, put8_at hbx2 _ _ _ _ _ _ _ _, adS_lz h.lz _ _ _ _ _ h.lo, adS_lo h.lo _ _ _ _ _, Nat.le_trans (adS_ts S q c k v ht) (Nat.succ_le_succ h.ts), hnp, nre, nrt, ?_, h.l⟩
  have hl := h.l
  exact put8_below ((h.b.trans (f1.base (by omega) (fun j hj => (h.two.a.low j hj).1))).trans (b2.mono (by omega))) hl _ _ _ _ _ _ _ _
set_option maxHeartbeats 8000000 in
set_option maxRecDepth 100000 in
theorem plays_any (log : Int) (a0 : Option Addr) (len0 cap0 : Nat) (xs : List A6) (w : World) (H0 : Acts w a0 len0 cap0 xs) (hl0 : len0 ≤ 2199023255552) :
    Calls Try.prog 3 #[.int .i64 log, .slice a0 len0 cap0] w fun e w' => e = .returned (.bool true) ∧ Below w.heap.size w w' := by
  have hxl := hid H0.1
  obtain ⟨n0, hn0⟩ : ∃ n, n = w.heap.size := ⟨_, rfl⟩
  have AA : Hid (∀ W, Below n0 w W → Acts W a0 len0 cap0 xs) := fun W hb => H0.later (by rw [← hn0]; exact hb)
  have HN := hid (new_any log w)
  replace hn0 := hid hn0
  replace hl0 := hid hl0
  clear H0
  go_enter Try.func3, Try.ntmps3
  go_wp2_with fail
  refine HN.out.mono ?_
  rintro e w1 ⟨g, P1, rfl, T1, B1⟩
  rw [← hn0.out] at T1 B1
  obtain ⟨g6, hg6⟩ : ∃ n, n = w1.heap.size := ⟨_, rfl⟩
  obtain ⟨W2, hW2⟩ : ∃ W, W = w1.alloc (.cells #[.int .i64 log, .slice none 0 0, .slice none 0 0, .int .i64 0, .int .i64 0, .int .u64 0, .int .u64 0, .bool false] 29) := ⟨_, rfl⟩
  have b2 : Below w1.heap.size w1 W2 := by rw [hW2]; exact box_below _ _
  have k6 : W2.heap[g6]? = some (.cells #[.int .i64 log, .slice none 0 0, .slice none 0 0, .int .i64 0, .int .i64 0, .int .u64 0, .int .u64 0, .bool false] 29) := by rw [hW2, hg6]; exact new_at _ _
  have BO : Hid (Bo w W2 n0 g g6 0 P1 (St.new log) none 0 0 none 0 0) := by
    refine ⟨⟨T1.later b2, ⟨OwnE.nil _ _, rfl, OwnT.nil _ _, rfl⟩⟩, k6, Lz.new log, by simp [St.new], by simp [St.new], fun h => by have := (T1.low g6 h).2; omega, fun j hj => by simp [Value.ownBlock] at hj, fun j hj => by simp [Value.ownBlock] at hj, B1.trans (b2.mono (by have := B1.size; have := hn0.out; omega)), by have := B1.size; have := hn0.out; omega⟩
  have HNm := hid (names_any W2)
  replace hW2 := hid hW2
  replace hg6 := hid hg6
  clear T1 B1 b2 k6 HN
  go_wp2_with fail
  rw [← hW2.out, ← hg6.out]
  refine HNm.out.mono ?_
  rintro e w3 ⟨rfl, hw3⟩
  replace hw3 := hw3.symm
  subst hw3
  clear HNm hW2 hg6
  go_wp2_with fail
  go_loopw [7] (fun iv wr => ∃ (n : Nat) (P : Nat → Prop) (S : St) (ea : Option Addr) (el ec : Nat) (ta : Option Addr) (tl tc : Nat), n ≤ len0 ∧ iv = .int .i64 (n : Int) ∧ Hid (Bo w wr n0 g g6 n P S ea el ec ta tl tc))
    (fun iv _ => len0 - (intOf iv).toNat)
  case atStart => exact ⟨0, P1, St.new log, none, 0, 0, none, 0, 0, Nat.zero_le _, rfl, BO⟩
  case round =>
    obtain ⟨n, P, S, ea, el, ec, ta, tl, tc, hn, rfl, HB⟩ := hrel
    by_cases hlt : n < len0
    · have i1 : (n : Int) < (len0 : Int) := by omega
      have hlb := hl0.out
      have hA := AA.out wr HB.out.b
      obtain ⟨ad, rfl⟩ : ∃ ad, a0 = some ad := by
        cases a0 with
        | none => have := (hA.2.2.1 rfl).1; omega
        | some ad => exact ⟨ad, rfl⟩
      obtain ⟨pb, po, psp⟩ := ad
      obtain ⟨hsp, hat⟩ := hA.2.2.2.2 pb po psp rfl (by omega)
      subst hsp
      have hcp := hA.2.1
      have hok : (xs.getD n za).ok := hA.2.2.2.1 _ (get_mem (by have := hxl.out; omega))
      obtain ⟨c0, c1, c2, c3, c4', c5⟩ := hat n hlt
      obtain ⟨x, hxx⟩ : ∃ x, xs.getD n za = x := ⟨_, rfl⟩
      rw [hxx] at c0 c1 c2 c3 c4' c5 hok
      obtain ⟨xkd, xht, xsq, xc, xk, xv⟩ := x
      dsimp only at c0 c1 c2 c3 c4' c5
      have hk1 : Hid (xk.size ≤ maxLen) := hok.1
      have hk2 : Hid (xv.size ≤ maxLen) := hok.2.1
      obtain ⟨g8, hg8⟩ : ∃ m, m = wr.heap.size := ⟨_, rfl⟩
      obtain ⟨W3, hW3⟩ : ∃ W, W = wr.alloc (.cells #[.int .i64 xkd, .int .i64 xht, .int .u64 xsq, .int .i64 xc, .string xk, .string xv] 34) := ⟨_, rfl⟩
      have b3 : Below wr.heap.size wr W3 := by rw [hW3]; exact box_below _ _
      have B3 := hid (HB.out.later b3)
      have k8 : Hid (W3.heap[g8]? = some (.cells #[.int .i64 xkd, .int .i64 xht, .int .u64 xsq, .int .i64 xc, .string xk, .string xv] 34)) := by show _ = _; rw [hW3, hg8]; exact new_at _ _
      have hg8P : Hid (¬ P g8) := fun h => by have := (HB.out.two.a.low g8 h).2; omega
      have HAm := hid (among_any xkd 5 W3 (by omega))
      have htl : Hid (tl ≤ 2199023255552) := by
        have h1 := HB.out.two.b.tl
        have h2 := HB.out.ts
        have := hl0.out
        show _ ≤ _
        omega
      have y0 := cell_of k8.out 0 (.int .i64 xkd) rfl
      rw [hW3, hg8] at y0
      replace hW3 := hid hW3
      replace hg8 := hid hg8
      replace hA := hid hA
      clear hat hok hxx b3 HB
      go_wp2_with fail
      rw [← hW3.out, ← hg8.out]
      refine HAm.out.mono ?_
      rintro e w4 ⟨rfl, hw4⟩
      replace hw4 := hw4.symm
      subst hw4
      obtain ⟨K, hK⟩ : ∃ K, K = xkd % ((5 : Nat) : Int) := ⟨_, rfl⟩
      rw [← hK]
      have u := B3.out.box
      have u0 := cell_of u 0 (.int .i64 S.log) rfl
      have u1 := cell_of u 1 (.slice ea el ec) rfl
      have u2 := cell_of u 2 (.slice ta tl tc) rfl
      have u3 := cell_of u 3 (.int .i64 ((S.ns.length : Int) + S.ts.length)) rfl
      have u4 := cell_of u 4 (.int .i64 S.sz) rfl
      have u5 := cell_of u 5 (.int .u64 S.lo) rfl
      have u6 := cell_of u 6 (.int .u64 S.hi) rfl
      have u7 := cell_of u 7 (.bool S.dn) rfl
      have y0 := cell_of k8.out 0 (.int .i64 xkd) rfl
      have y1 := cell_of k8.out 1 (.int .i64 xht) rfl
      have y2 := cell_of k8.out 2 (.int .u64 xsq) rfl
      have y3 := cell_of k8.out 3 (.int .i64 xc) rfl
      have y4 := cell_of k8.out 4 (.string xk) rfl
      have y5 := cell_of k8.out 5 (.string xv) rfl
      replace hK := hid hK
      clear u HAm c0 c1 c2 c3 c4' c5
      by_cases hK0 : K = 0
      · subst hK0
        have HAd := hid (add_any n0 g P S xsq xc xk xv xht W3 B3.out.two.a (by have := blk_lt B3.out.box; have := B3.out.l; omega) hk1.out hk2.out (by have := B3.out.two.b.tl; have := htl.out; omega))
        go_wp2_with fail
        refine HAd.out.mono ?_
        rintro e w5 ⟨rfl, t5, f5⟩
        have hnP : ∀ j, (Value.slice ea el ec).ownBlock = some j → w5.heap[j]? = W3.heap[j]? := fun j hj => f5.block j (own_lt B3.out.two.b.e j hj).2 (B3.out.re j hj).1
        have hnT : ∀ j, (Value.slice ta tl tc).ownBlock = some j → w5.heap[j]? = W3.heap[j]? := fun j hj => f5.block j (own_lt B3.out.two.b.t j hj).2 (B3.out.rt j hj).1
        have r5 : RT w5 S ea el ec ta tl tc := ⟨own_blocks B3.out.two.b.e hnP, B3.out.two.b.el, own_blocks B3.out.two.b.t hnT, B3.out.two.b.tl⟩
        have HRa := radd_any S B3.out.two.a.wf B3.out.lz ea ta el ec tl tc xsq xc xk xv xht w5 r5 hk1.out hk2.out (by have := htl.out; omega)
        unfold tvl at HRa
        have bx5 := (f5.block g6 (blk_lt B3.out.box) B3.out.np).trans B3.out.box
        have k85 := (f5.block g8 (blk_lt k8.out) hg8P.out).trans k8.out
        clear hnP hnT u0 u1 u2 u3 u4 u5 u6 u7 y0 y1 y2 y3 y4 y5
        have u0 := cell_of bx5 0 (.int .i64 S.log) rfl
        have u1 := cell_of bx5 1 (.slice ea el ec) rfl
        have u2 := cell_of bx5 2 (.slice ta tl tc) rfl
        have u3 := cell_of bx5 3 (.int .i64 ((S.ns.length : Int) + S.ts.length)) rfl
        have u4 := cell_of bx5 4 (.int .i64 S.sz) rfl
        have u5 := cell_of bx5 5 (.int .u64 S.lo) rfl
        have u6 := cell_of bx5 6 (.int .u64 S.hi) rfl
        have u7 := cell_of bx5 7 (.bool S.dn) rfl
        have y2 := cell_of k85 2 (.int .u64 xsq) rfl
        have y1 := cell_of k85 1 (.int .i64 xht) rfl
        have y3 := cell_of k85 3 (.int .i64 xc) rfl
        have y4 := cell_of k85 4 (.string xk) rfl
        have y5 := cell_of k85 5 (.string xv) rfl
        generalize hEE : adE S xsq xc xk xv xht = EE at *
        replace HRa := hid HRa
        replace t5 := hid t5
        replace f5 := hid f5
        replace r5 := hid r5
        replace bx5 := hid bx5
        replace hEE := hid hEE
        clear k85 HAd
        go_wp2_with fail
        refine HRa.out.mono ?_
        rintro e w6 ⟨ea', el', ec', ta', tl', tc', rfl, r6, q1, q2, b6⟩
        have BN := B3.out.more
        have BA := B3.out.add xsq xc xk xv xht t5.out f5.out r6 b6 q1 q2
        have bx6 := (b6.block g6 (blk_lt bx5.out)).trans bx5.out
        clear u0 u1 u2 u3 u4 u5 u6 u7 y1 y2 y3 y4 y5
        generalize hSS : adS S xsq xc xk xv xht = S' at *
        have z0 := cell_of bx6 0 (.int .i64 S.log) rfl
        have z1 := cell_of bx6 1 (.slice ea el ec) rfl
        have z2 := cell_of bx6 2 (.slice ta tl tc) rfl
        have z3 := cell_of bx6 3 (.int .i64 ((S.ns.length : Int) + S.ts.length)) rfl
        have z4 := cell_of bx6 4 (.int .i64 S.sz) rfl
        have z5 := cell_of bx6 5 (.int .u64 S.lo) rfl
        have z6 := cell_of bx6 6 (.int .u64 S.hi) rfl
        have z7 := cell_of bx6 7 (.bool S.dn) rfl
        have fy0 := fz_of bx6 0
        have fy1 := fz_of bx6 1
        have fy2 := fz_of bx6 2
        have fy3 := fz_of bx6 3
        have fy4 := fz_of bx6 4
        have fy5 := fz_of bx6 5
        have fy6 := fz_of bx6 6
        have fy7 := fz_of bx6 7
        have ne0 : (EE != EE) = false := bne_self_eq_false _
        replace BA := hid BA
        clear r6 q1 q2 b6 bx6 BN bx5 r5 t5 f5 B3 k8 HRa
        go_wp2_with fail
        unfold put8 at BA
        refine ⟨⟨n + 1, _, S', ea', el', ec', ta', tl', tc', by omega, by first | rfl | go_num, BA⟩, ?_⟩
        simp only [intOf]; omega
      · have hK1 : (K != 0) = true := by simpa using hK0
        have HQ := hid (asked_any n0 g P S ea ta el ec tl tc xkd xht xsq xc xk xv W3 B3.out.two hk1.out htl.out)
        go_wp2_with fail
        refine HQ.out.mono ?_
        rintro e w5 ⟨rfl, b5⟩
        have B5 := hid (B3.out.more.later b5)
        clear b5 HQ u0 u1 u2 u3 u4 u5 u6 u7 y0 y1 y2 y3 y4 y5
        go_wp2_with fail
        refine ⟨⟨n + 1, P, S, ea, el, ec, ta, tl, tc, by omega, by first | rfl | go_num, B5⟩, ?_⟩
        simp only [intOf]; omega
    · have ik : ¬ (n : Int) < (len0 : Int) := by omega
      have htl : Hid (tl ≤ 2199023255552) := by
        have h1 := HB.out.two.b.tl
        have h2 := HB.out.ts
        have := hl0.out
        show _ ≤ _
        omega
      go_wp2_with fail
      go_loopw [11] (fun iv wq => ∃ (m : Nat), 2 ≤ m ∧ m ≤ 5 ∧ iv = .int .i64 (m : Int) ∧ Hid (Bo w wq n0 g g6 n P S ea el ec ta tl tc))
        (fun iv _ => 5 - (intOf iv).toNat)
      case atStart => exact ⟨2, by omega, by omega, rfl, HB⟩
      case round =>
        obtain ⟨m, hm1, hm2, rfl, HB⟩ := hrel
        by_cases hm5 : m < 5
        · have j1 : (m : Int) < 5 := by omega
          have u := HB.out.box
          have u0 := cell_of u 0 (.int .i64 S.log) rfl
          have u1 := cell_of u 1 (.slice ea el ec) rfl
          have u2 := cell_of u 2 (.slice ta tl tc) rfl
          have u3 := cell_of u 3 (.int .i64 ((S.ns.length : Int) + S.ts.length)) rfl
          have u4 := cell_of u 4 (.int .i64 S.sz) rfl
          have u5 := cell_of u 5 (.int .u64 S.lo) rfl
          have u6 := cell_of u 6 (.int .u64 S.hi) rfl
          have u7 := cell_of u 7 (.bool S.dn) rfl
          have HQ := hid (asked_any n0 g P S ea ta el ec tl tc (m : Int) 0 0 0 ⟨#[]⟩ ⟨#[]⟩ wr HB.out.two (Nat.zero_le _) htl.out)
          clear u
          go_wp2_with fail
          refine HQ.out.mono ?_
          rintro e w5 ⟨rfl, b5⟩
          have B5 := hid (HB.out.later b5)
          clear b5 HQ u0 u1 u2 u3 u4 u5 u6 u7 HB
          go_wp2_with fail
          refine ⟨⟨m + 1, by omega, by omega, by first | rfl | go_num, B5⟩, ?_⟩
          simp only [intOf]; omega
        · have j1 : ¬ (m : Int) < 5 := by omega
          have BF := hid HB.out.b
          go_wp2_with fail
          go_ret
          exact ⟨rfl, by rw [← hn0.out]; exact BF.out⟩
end Go.Proofs.Ytefihoohdaegeaa.Dk

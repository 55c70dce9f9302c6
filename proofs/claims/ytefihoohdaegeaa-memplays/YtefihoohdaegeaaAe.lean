/- Add of a memtable. -/
import Derived.Test.YtefihoohdaegeaaAd
namespace Go.Proofs.Ytefihoohdaegeaa.Ae
open Go.ChangeShapes Go.WideShapes Go.ChangeAt Go.RowKit Go.Shelf
open Go.Sort (grow)
open Go.Proofs.Ytefihoohdaegeaa.Lx
open Go.Proofs.Ytefihoohdaegeaa.Tm (T zt vd ret_bool ret_int)
open Go.Proofs.Ytefihoohdaegeaa.Rw
open Go.Proofs.Ytefihoohdaegeaa.Es
open Go.Proofs.Ytefihoohdaegeaa.Fm
open Go.Proofs.Ytefihoohdaegeaa.Sa
open Go.Proofs.Ytefihoohdaegeaa.Sg
open Go.Proofs.Ytefihoohdaegeaa.In
open Go.Proofs.Ytefihoohdaegeaa.Tb
open Go.Proofs.Ytefihoohdaegeaa.Ck
open Go.Proofs.Ytefihoohdaegeaa.Pt
open Go.Proofs.Ytefihoohdaegeaa.Ad
open Go.Proofs.Ytefihoohdaegeaa.Cm (ik)
open Go.Proofs.Ytefihoohdaegeaa.Mm (box_below)
open Go.Proofs.Ytefihoohdaegeaa.Tr (new_at cell_of Bx)
open Go.Proofs.Ytefihoohdaegeaa.Gs (insE_zero)
set_option linter.unusedVariables false
set_option linter.unusedSimpArgs false

theorem Tb.wide {w : World} {base g : Nat} {P Q : Nat → Prop} {S : St} (h : Tb.Tb w base g P S) (hp : ∀ j, P j → Q j) (hq : ∀ j, Q j → base ≤ j ∧ j < w.heap.size) : Tb.Tb w base g Q S := by
  obtain ⟨gl, bl, gs, bm, vt, h⟩ := h
  exact ⟨gl, bl, gs, bm, vt, h.c, h.l, h.s, h.o, h.m, h.wf, hp _ h.pg, hp _ h.pl, hp _ h.pb, hp _ h.ps, hp _ h.pm, fun j hj => hp j (h.pv j hj), hq⟩
theorem blk_ne {w : World} {a b : Nat} {o o' : Obj} (h : w.heap[a]? = some o) (h' : w.heap[b]? = some o') (hne : o ≠ o') : a ≠ b := by
  rintro rfl
  rw [h] at h'
  exact hne (Option.some.inj h')
theorem sl_gblk {w : World} {base g b most : Nat} {ns : List N} {ord : List Nat} (H : SL w base g b most ns ord) : (∃ c, w.heap[g]? = some (.cells c 135)) ∧ ∃ c, w.heap[b]? = some (.cells c 158 (0, 0)) := by
  obtain ⟨cap, tw, hL, _, _⟩ := H
  exact ⟨⟨_, hL.hd⟩, by obtain ⟨cur, h, _⟩ := hL.rw; exact ⟨cur, h⟩⟩
theorem own_blk {w : World} {base e size n : Nat} {v : Value} {xs : List Value} (h : w.ownsRow base e size v n xs) : ∀ j, v.ownBlock = some j → ∃ c, w.heap[j]? = some (.cells c e) := by
  intro j hj
  rcases h.2 with ⟨h1, _⟩ | ⟨g, c, cur, h1, h2, h3, h4⟩
  · rw [h1] at hj; simp [Value.ownBlock] at hj
  · rw [h1] at hj; simp [Value.ownBlock] at hj; subst hj
    exact ⟨_, h3⟩
structure Dis (g gl bl gs bm : Nat) (vt : Value) : Prop where
  a1 : g ≠ gl
  a2 : g ≠ bl
  a3 : g ≠ gs
  a4 : g ≠ bm
  a5 : ∀ j, vt.ownBlock = some j → j ≠ g
  b1 : gs ≠ gl
  b2 : gs ≠ bl
  b3 : bm ≠ gl
  b4 : bm ≠ bl
  b5 : ∀ j, vt.ownBlock = some j → j ≠ gl ∧ j ≠ bl
theorem Tx.dis {w : World} {base g gl bl gs bm : Nat} {vt : Value} {P : Nat → Prop} {S : St} (H : Tx w base g gl bl gs bm vt P S) : Dis g gl bl gs bm vt := by
  obtain ⟨⟨c1, h1⟩, c2, h2⟩ := sl_gblk H.l
  have hc : w.heap[g]? = some (.cells (S.cells gl gs bm) 80) := H.c
  have hs : w.heap[gs]? = some (.cells #[.bool true, vt] 141) := H.s
  obtain ⟨es, cl, hm, _⟩ := H.m
  refine ⟨blk_ne hc h1 (by simp), blk_ne hc h2 (by simp), blk_ne hc hs (by simp), blk_ne hc hm (by simp), fun j hj => ?_, blk_ne hs h1 (by simp), blk_ne hs h2 (by simp), blk_ne hm h1 (by simp), blk_ne hm h2 (by simp), fun j hj => ?_⟩
  · obtain ⟨c, h⟩ := own_blk H.o j hj
    exact blk_ne h hc (by simp)
  · obtain ⟨c, h⟩ := own_blk H.o j hj
    exact ⟨blk_ne h h1 (by simp), blk_ne h h2 (by simp)⟩
theorem wf_node {S : St} (W : Wf S) {q c : Int} {k v : ByteArray} {h : Int} (hq : 1 ≤ q ∧ q ≤ 72057594037927935) (hm : may c k v = true) (hc : c ≠ 2) (hE : insE 1048576 S.ns S.ord k q c h = 0) :
    Wf (St.count { S with ns := S.ns ++ [⟨k, q, c, .string v, h.toNat⟩], ord := ordI S.ns S.ord (ik k q c) (S.ns.length + 1) } q k v) := by
  obtain ⟨e1, e2, e3, e4⟩ := insE_zero hE
  obtain ⟨m1, m2, m3, m4⟩ := may_sizes hm
  have hlen := W.cap
  refine ⟨?_, W.tomb, ?_, ?_, ?_, ?_⟩
  · intro n hn
    rcases List.mem_append.1 hn with h' | h'
    · exact W.node n h'
    · rw [List.mem_singleton.1 h']
      exact ⟨e1, hq.1, by rcases m3 with h | h | h; exact .inl h; exact .inr h; exact absurd h hc, v, rfl, m2⟩
  · show 0 ≤ S.sz + (16 + (k.size : Int) + v.size)
    have := W.sz0
    omega
  · show S.sz + (16 + (k.size : Int) + v.size) ≤ 100000 * (((S.ns ++ [(⟨k, q, c, .string v, h.toNat⟩ : N)]).length : Int) + S.ts.length)
    have := W.sz1
    rw [List.length_append]
    simp only [List.length_cons, List.length_nil]
    omega
  · exact W.gd.ins ⟨k, q, c, .string v, h.toNat⟩ (by show 1 ≤ h.toNat ∧ h.toNat ≤ 12; omega) (fun n hn => no_there W.gd (ik k q c) e3 n hn)
  · show (S.ns ++ [(⟨k, q, c, .string v, h.toNat⟩ : N)]).length ≤ 1048576
    rw [List.length_append]
    simp only [List.length_cons, List.length_nil]
    omega
theorem wf_tomb {S : St} (W : Wf S) {q : Int} {k v : ByteArray} (hq : 1 ≤ q ∧ q ≤ 72057594037927935) (hm : may 2 k v = true) :
    Wf (St.count { S with ts := S.ts ++ [⟨k, v, q⟩] } q k v) := by
  obtain ⟨m1, m2, m3, m4⟩ := may_sizes hm
  refine ⟨W.node, ?_, ?_, ?_, W.gd, W.cap⟩
  · intro n hn
    rcases List.mem_append.1 hn with h' | h'
    · exact W.tomb n h'
    · rw [List.mem_singleton.1 h']
      have := vd_of rfl hm hq
      exact ⟨this.1, hq.1, this.2⟩
  · show 0 ≤ S.sz + (16 + (k.size : Int) + v.size)
    have := W.sz0
    omega
  · show S.sz + (16 + (k.size : Int) + v.size) ≤ 100000 * ((S.ns.length : Int) + ((S.ts ++ [(⟨k, v, q⟩ : T)]).length : Int))
    have := W.sz1
    rw [List.length_append]
    simp only [List.length_cons, List.length_nil]
    omega
/-- What a refusal leaves. -/
theorem kept_any {w w' : World} {base g : Nat} {P : Nat → Prop} {S : St} (H : Tb.Tb w base g P S) (hbase : base ≤ w.heap.size) (b : Below w.heap.size w w') : Tb.Tb w' base g (gw P w w') S ∧ Fp P w w' :=
  ⟨Tb.wide (H.later b) (fun j h => .inl h) (gw_low hbase b.size H.low), Fp.of b⟩
set_option maxHeartbeats 1000000 in
theorem add_any (base g : Nat) (P : Nat → Prop) (S : St) (q c : Int) (k v : ByteArray) (h : Int) (w : World) (H : Tb.Tb w base g P S) (hbase : base ≤ w.heap.size) (hk : k.size ≤ maxLen) (hv : v.size ≤ maxLen) (hroom : (S.ts.length + 1) * 40 ≤ 140737488355328) :
    Calls Try.prog 13 #[.pointer (some ⟨g, 0, none⟩), .int .u64 q, .agg #[.int .i64 c, .string k, .string v], .int .i64 h] w fun e w' => e = .returned (.int .i64 (adE S q c k v h)) ∧ Tb.Tb w' base g (gw P w w') (adS S q c k v h) ∧ Fp P w w' := by
  have HTb := H
  obtain ⟨gl, bl, gs, bm, vt, H⟩ := H
  obtain ⟨W0, hW0⟩ : ∃ W, W = w.alloc (.cells #[.int .i64 c, .string k, .string v] 32) := ⟨_, rfl⟩
  have B0 : Below w.heap.size w W0 := by rw [hW0]; exact box_below _ _
  obtain ⟨gt, hgt⟩ : ∃ n, n = w.heap.size := ⟨_, rfl⟩
  have kA : W0.heap[gt]? = some (.cells #[.int .i64 c, .string k, .string v] 32) := by rw [hW0, hgt]; exact new_at _ _
  have HC := hid (check_any g gl gs bm S q c k v h W0 ((B0.block g H.c.lt).trans H.c) hk hv)
  have t0 := cell_of kA 0 (.int .i64 c) rfl
  have t1 := cell_of kA 1 (.string k) rfl
  have t2 := cell_of kA 2 (.string v) rfl
  replace hW0 := hid hW0
  replace hgt := hid hgt
  by_cases hch : chk S q c k v h = 0
  · obtain ⟨z1, z2, z3, z4⟩ := chk_zero hch
    obtain ⟨m1, m2, m3, m4⟩ := may_sizes z3
    rw [hch] at HC
    have hszb : S.sz ≤ 1000000000000000000 := by have := H.wf.sz1; have := H.wf.cap; omega
    -- what is common behind check
    have kB : ∀ W : World, Below W0.heap.size W0 W → W.heap[gt]? = some (.cells #[.int .i64 c, .string k, .string v] 32) := fun W hW => (hW.block gt (Array.getElem?_eq_some_iff.1 kA).1).trans kA
    by_cases hc : c = 2
    · subst hc
      by_cases hh : has S.ts k q = true
      · have EA : Hid (adE S q 2 k v h = 81) := by show _ = _; unfold adE; rw [if_neg (by rw [hch]; simp), if_pos rfl, if_pos hh]
        have ES : Hid (adS S q 2 k v h = S) := by show _ = _; unfold adS; rw [if_pos (by rw [EA.out]; simp)]
        rw [EA.out, ES.out]
        have FIN : Hid (∀ w', Below w.heap.size w w' → Tb.Tb w' base g (gw P w w') S ∧ Fp P w w') := fun w' b => kept_any HTb hbase b
        have HPt : Hid (∀ W, Below w.heap.size w W → Calls Try.prog 51 #[.pointer (some ⟨g, 0, none⟩), .int .u64 q, .agg #[.int .i64 2, .string k, .string v], .int .i64 h] W fun e w' => e = .returned (.int .i64 81) ∧ Below W.heap.size W w') := fun W b => put_there base g gl bl gs bm vt P S q k v h W (H.later b) hh
        replace B0 := hid B0
        replace kB := hid kB
        clear H HTb kA z1 z2 z3 z4 m1 m2 m3 m4 hszb hch hh hroom
        go_enter Try.func13, Try.ntmps13
        go_wp2_with fail
        rw [← hW0.out, ← hgt.out]
        refine HC.out.mono ?_
        rintro e w1 ⟨rfl, b1⟩
        have B1 := B0.out.trans (b1.mono B0.out.size)
        have HP1 := hid (HPt.out w1 B1)
        have k1 := kB.out w1 b1
        have u0 := cell_of k1 0 (.int .i64 2) rfl
        have u1 := cell_of k1 1 (.string k) rfl
        have u2 := cell_of k1 2 (.string v) rfl
        replace B1 := hid B1
        clear b1 k1
        go_wp2_with fail
        refine HP1.out.mono ?_
        rintro e w2 ⟨rfl, b2⟩
        have B2 := hid (B1.out.trans (b2.mono B1.out.size))
        clear b2
        go_wp2_with fail
        go_ret
        exact ⟨rfl, FIN.out _ B2.out⟩
      · have hh' : has S.ts k q = false := by simpa using hh
        have EA : Hid (adE S q 2 k v h = 0) := by show _ = _; unfold adE; rw [if_neg (by rw [hch]; simp), if_pos rfl, if_neg hh]
        have ES : Hid (adS S q 2 k v h = St.count { S with ts := S.ts ++ [⟨k, v, q⟩] } q k v) := by show _ = _; unfold adS; rw [if_neg (by rw [EA.out]; simp), if_pos rfl]
        rw [EA.out, ES.out]
        have HPt : Hid (∀ W, Below w.heap.size w W → Calls Try.prog 51 #[.pointer (some ⟨g, 0, none⟩), .int .u64 q, .agg #[.int .i64 2, .string k, .string v], .int .i64 h] W fun e w' => e = .returned (.int .i64 0) ∧ Fp (fun j => j = gs ∨ vt.ownBlock = some j ∨ j = bm) W w' ∧ ∃ vt', Sb w' gs vt' ∧ OwnT w' base vt' (S.ts ++ [⟨k, v, q⟩]) ∧ Bg w' bm (S.ts ++ [⟨k, v, q⟩]) ∧ (∀ j, vt'.ownBlock = some j → vt.ownBlock = some j ∨ W.heap.size ≤ j)) := fun W b => put_tomb base g gl bl gs bm vt P S q k v h W (H.later b) (Nat.le_trans hbase b.size) hh' (vd_of rfl z3 z2).1 hroom
        have POST : Hid (∀ w1 w2 : World, Below w.heap.size w w1 → w1.heap[gt]? = some (.cells #[.int .i64 2, .string k, .string v] 32) → (Fp (fun j => j = gs ∨ vt.ownBlock = some j ∨ j = bm) w1 w2 ∧ ∃ vt', Sb w2 gs vt' ∧ OwnT w2 base vt' (S.ts ++ [⟨k, v, q⟩]) ∧ Bg w2 bm (S.ts ++ [⟨k, v, q⟩]) ∧ (∀ j, vt'.ownBlock = some j → vt.ownBlock = some j ∨ w1.heap.size ≤ j)) →
            w2.heap[gt]? = some (.cells #[.int .i64 2, .string k, .string v] 32) ∧ (Calls Try.prog 52 #[.pointer (some ⟨g, 0, none⟩), .int .u64 q, .agg #[.int .i64 2, .string k, .string v]] w2 fun e w' => e = .returned (.tuple #[]) ∧ Tc w' g (St.cells (St.count { S with ts := S.ts ++ [⟨k, v, q⟩] } q k v) gl gs bm) ∧ Fp (fun j => j = g) w2 w') ∧
            (∀ w3, (Tc w3 g (St.cells (St.count { S with ts := S.ts ++ [⟨k, v, q⟩] } q k v) gl gs bm) ∧ Fp (fun j => j = g) w2 w3) → Tb.Tb w3 base g (gw P w w3) (St.count { S with ts := S.ts ++ [⟨k, v, q⟩] } q k v) ∧ Fp P w w3)) := by
          intro w1 w2 B1 k1 ⟨f2, vt', s2, o2, m2', q2⟩
          have H1 := H.later B1
          have D := Tx.dis H1
          have hgP : ¬ P gt := fun hp => by have := (H.low gt hp).2; rw [← hgt.out] at this; omega
          have hs1 := B1.size
          have hs2 := f2.size
          have c2 : Tc w2 g (S.cells gl gs bm) := (f2.block g H1.c.lt (by rintro (e | e | e); exact D.a3 e; exact D.a5 g e rfl; exact D.a4 e)).trans H1.c
          have l2 : SL w2 base gl bl 1048576 S.ns S.ord := sl_blocks H1.l (f2.block gl (sl_lt H1.l).1 (by rintro (e | e | e); exact D.b1 e.symm; exact (D.b5 gl e).1 rfl; exact D.b3 e.symm)) (f2.block bl (sl_lt H1.l).2 (by rintro (e | e | e); exact D.b2 e.symm; exact (D.b5 bl e).2 rfl; exact D.b4 e.symm))
          have k2 : w2.heap[gt]? = some (.cells #[.int .i64 2, .string k, .string v] 32) := by
            refine (f2.block gt (Array.getElem?_eq_some_iff.1 k1).1 ?_).trans k1
            rintro (e | e | e)
            · exact hgP (by rw [e]; exact H1.ps)
            · exact hgP (H1.pv gt e)
            · exact hgP (by rw [e]; exact H1.pm)
          refine ⟨k2, count_any g gl gs bm { S with ts := S.ts ++ [⟨k, v, q⟩] } q 2 k v w2 c2 m1.2 m2 H.wf.sz0 hszb, ?_⟩
          rintro w3 ⟨c3, f3⟩
          have hs3 := f3.size
          have e2 : ∀ j, vt'.ownBlock = some j → j ≠ g := fun j hj => by
            obtain ⟨c, hh⟩ := own_blk o2 j hj
            exact blk_ne hh c2 (by simp)
          have PP : ∀ j, j = gs ∨ vt.ownBlock = some j ∨ j = bm → P j := by
            rintro j (rfl | e | rfl)
            · exact H1.ps
            · exact H1.pv j e
            · exact H1.pm
          refine ⟨⟨gl, bl, gs, bm, vt', c3, sl_blocks l2 (f3.block gl (sl_lt l2).1 (fun e => D.a1 e.symm)) (f3.block bl (sl_lt l2).2 (fun e => D.a2 e.symm)), (f3.block gs s2.lt (fun e => D.a3 e.symm)).trans s2, own_blocks o2 (fun j hj => f3.block j (own_lt o2 j hj).2 (e2 j hj)), m2'.blk (f3.block bm m2'.lt (fun e => D.a4 e.symm)), wf_tomb H.wf z2 z3, .inl H.pg, .inl H.pl, .inl H.pb, .inl H.ps, .inl H.pm, ?_, gw_low hbase (by omega) H.low⟩, ?_⟩
          · intro j hj
            rcases q2 j hj with e | e
            · exact .inl (H.pv j e)
            · exact .inr ⟨by omega, by have := (own_lt o2 j hj).2; omega⟩
          · refine Fp.trans (Fp.of B1) (Fp.trans (f2.wide (fun j _ hj => .inl (PP j hj))) (f3.wide (fun j _ hj => .inl (.inl (by rw [hj]; exact H.pg)))))
        replace B0 := hid B0
        replace kB := hid kB
        generalize St.count { S with ts := S.ts ++ [⟨k, v, q⟩] } q k v = S' at *
        clear H HTb kA z1 z2 z3 z4 m1 m2 m3 m4 hszb hch hh hh' hroom
        go_enter Try.func13, Try.ntmps13
        go_wp2_with fail
        rw [← hW0.out, ← hgt.out]
        refine HC.out.mono ?_
        rintro e w1 ⟨rfl, b1⟩
        have B1 := B0.out.trans (b1.mono B0.out.size)
        have HP1 := hid (HPt.out w1 B1)
        have k1 := kB.out w1 b1
        have u0 := cell_of k1 0 (.int .i64 2) rfl
        have u1 := cell_of k1 1 (.string k) rfl
        have u2 := cell_of k1 2 (.string v) rfl
        have hb1 := b1.size
        replace B1 := hid B1
        replace k1 := hid k1
        clear b1
        go_wp2_with fail
        refine HP1.out.mono ?_
        rintro e w2 ⟨rfl, hp2⟩
        obtain ⟨k2, HC2, FIN⟩ := POST.out w1 w2 B1.out k1.out hp2
        have v0 := cell_of k2 0 (.int .i64 2) rfl
        have v1 := cell_of k2 1 (.string k) rfl
        have v2 := cell_of k2 2 (.string v) rfl
        replace HC2 := hid HC2
        replace FIN := hid FIN
        clear hp2 k2
        go_wp2_with fail
        refine HC2.out.mono ?_
        rintro e w3 ⟨rfl, hp3⟩
        have F3 := hid (FIN.out w3 hp3)
        clear hp3
        go_wp2_with fail
        go_ret
        exact ⟨rfl, F3.out⟩
    · by_cases hE : insE 1048576 S.ns S.ord k q c h = 0
      · have EA : Hid (adE S q c k v h = 0) := by show _ = _; unfold adE; rw [if_neg (by rw [hch]; simp), if_neg hc, hE]
        have ES : Hid (adS S q c k v h = St.count { S with ns := S.ns ++ [⟨k, q, c, .string v, h.toNat⟩], ord := ordI S.ns S.ord (ik k q c) (S.ns.length + 1) } q k v) := by show _ = _; unfold adS; rw [if_neg (by rw [EA.out]; simp), if_neg hc]
        rw [EA.out, ES.out]
        have HPt : Hid (∀ W, Below w.heap.size w W → Calls Try.prog 51 #[.pointer (some ⟨g, 0, none⟩), .int .u64 q, .agg #[.int .i64 c, .string k, .string v], .int .i64 h] W fun e w' => e = .returned (.int .i64 0) ∧ Fp (fun j => j = gl ∨ j = bl) W w' ∧ ∃ b', (b' = bl ∨ W.heap.size ≤ b') ∧ SL w' base gl b' 1048576 (S.ns ++ [⟨k, q, c, .string v, h.toNat⟩]) (ordI S.ns S.ord (ik k q c) (S.ns.length + 1))) := fun W b => put_yes base g gl bl gs bm vt P S q c k v h W (H.later b) (Nat.le_trans hbase b.size) hk hc hE
        have POST : Hid (∀ w1 w2 : World, Below w.heap.size w w1 → w1.heap[gt]? = some (.cells #[.int .i64 c, .string k, .string v] 32) → (Fp (fun j => j = gl ∨ j = bl) w1 w2 ∧ ∃ b', (b' = bl ∨ w1.heap.size ≤ b') ∧ SL w2 base gl b' 1048576 (S.ns ++ [⟨k, q, c, .string v, h.toNat⟩]) (ordI S.ns S.ord (ik k q c) (S.ns.length + 1))) →
            w2.heap[gt]? = some (.cells #[.int .i64 c, .string k, .string v] 32) ∧ (Calls Try.prog 52 #[.pointer (some ⟨g, 0, none⟩), .int .u64 q, .agg #[.int .i64 c, .string k, .string v]] w2 fun e w' => e = .returned (.tuple #[]) ∧ Tc w' g (St.cells (St.count { S with ns := S.ns ++ [⟨k, q, c, .string v, h.toNat⟩], ord := ordI S.ns S.ord (ik k q c) (S.ns.length + 1) } q k v) gl gs bm) ∧ Fp (fun j => j = g) w2 w') ∧
            (∀ w3, (Tc w3 g (St.cells (St.count { S with ns := S.ns ++ [⟨k, q, c, .string v, h.toNat⟩], ord := ordI S.ns S.ord (ik k q c) (S.ns.length + 1) } q k v) gl gs bm) ∧ Fp (fun j => j = g) w2 w3) → Tb.Tb w3 base g (gw P w w3) (St.count { S with ns := S.ns ++ [⟨k, q, c, .string v, h.toNat⟩], ord := ordI S.ns S.ord (ik k q c) (S.ns.length + 1) } q k v) ∧ Fp P w w3)) := by
          intro w1 w2 B1 k1 ⟨f2, b', hb', l2⟩
          have H1 := H.later B1
          have D := Tx.dis H1
          have hgP : ¬ P gt := fun hp => by have := (H.low gt hp).2; rw [← hgt.out] at this; omega
          have hs1 := B1.size
          have hs2 := f2.size
          have c2 : Tc w2 g (S.cells gl gs bm) := (f2.block g H1.c.lt (by rintro (e | e); exact D.a1 e; exact D.a2 e)).trans H1.c
          have s2 : Sb w2 gs vt := (f2.block gs H1.s.lt (by rintro (e | e); exact D.b1 e; exact D.b2 e)).trans H1.s
          have o2 : OwnT w2 base vt S.ts := own_blocks H1.o (fun j hj => f2.block j (own_lt H1.o j hj).2 (by rintro (e | e); exact (D.b5 j hj).1 e; exact (D.b5 j hj).2 e))
          have m2' : Bg w2 bm S.ts := H1.m.blk (f2.block bm H1.m.lt (by rintro (e | e); exact D.b3 e; exact D.b4 e))
          have k2 : w2.heap[gt]? = some (.cells #[.int .i64 c, .string k, .string v] 32) := by
            refine (f2.block gt (Array.getElem?_eq_some_iff.1 k1).1 ?_).trans k1
            rintro (e | e)
            · exact hgP (by rw [e]; exact H1.pl)
            · exact hgP (by rw [e]; exact H1.pb)
          refine ⟨k2, count_any g gl gs bm { S with ns := S.ns ++ [⟨k, q, c, .string v, h.toNat⟩], ord := ordI S.ns S.ord (ik k q c) (S.ns.length + 1) } q c k v w2 c2 m1.2 m2 H.wf.sz0 hszb, ?_⟩
          rintro w3 ⟨c3, f3⟩
          have hs3 := f3.size
          obtain ⟨⟨cc1, x1⟩, cc2, x2⟩ := sl_gblk l2
          have hbg : b' ≠ g := blk_ne x2 c2 (by simp)
          have PP : ∀ j, j = gl ∨ j = bl → P j := by
            rintro j (rfl | rfl)
            · exact H1.pl
            · exact H1.pb
          refine ⟨⟨gl, b', gs, bm, vt, c3, sl_blocks l2 (f3.block gl (sl_lt l2).1 (fun e => D.a1 e.symm)) (f3.block b' (sl_lt l2).2 hbg), (f3.block gs s2.lt (fun e => D.a3 e.symm)).trans s2, own_blocks o2 (fun j hj => f3.block j (own_lt o2 j hj).2 (D.a5 j hj)), m2'.blk (f3.block bm m2'.lt (fun e => D.a4 e.symm)), wf_node H.wf z2 z3 hc hE, .inl H.pg, .inl H.pl, ?_, .inl H.ps, .inl H.pm, fun j hj => .inl (H.pv j hj), gw_low hbase (by omega) H.low⟩, ?_⟩
          · rcases hb' with e | e
            · exact .inl (by rw [e]; exact H.pb)
            · exact .inr ⟨by omega, by have := (sl_lt l2).2; omega⟩
          · refine Fp.trans (Fp.of B1) (Fp.trans (f2.wide (fun j _ hj => .inl (PP j hj))) (f3.wide (fun j _ hj => .inl (.inl (by rw [hj]; exact H.pg)))))
        replace B0 := hid B0
        replace kB := hid kB
        generalize St.count { S with ns := S.ns ++ [⟨k, q, c, .string v, h.toNat⟩], ord := ordI S.ns S.ord (ik k q c) (S.ns.length + 1) } q k v = S' at *
        generalize S.ns ++ [(⟨k, q, c, .string v, h.toNat⟩ : N)] = NS at *
        generalize ordI S.ns S.ord (ik k q c) (S.ns.length + 1) = OR at *
        clear H HTb kA z1 z2 z3 z4 m1 m2 m3 m4 hszb hch hroom hE hc
        go_enter Try.func13, Try.ntmps13
        go_wp2_with fail
        rw [← hW0.out, ← hgt.out]
        refine HC.out.mono ?_
        rintro e w1 ⟨rfl, b1⟩
        have B1 := B0.out.trans (b1.mono B0.out.size)
        have HP1 := hid (HPt.out w1 B1)
        have k1 := kB.out w1 b1
        have u0 := cell_of k1 0 (.int .i64 c) rfl
        have u1 := cell_of k1 1 (.string k) rfl
        have u2 := cell_of k1 2 (.string v) rfl
        have hb1 := b1.size
        replace B1 := hid B1
        replace k1 := hid k1
        clear b1
        go_wp2_with fail
        refine HP1.out.mono ?_
        rintro e w2 ⟨rfl, hp2⟩
        obtain ⟨k2, HC2, FIN⟩ := POST.out w1 w2 B1.out k1.out hp2
        have v0 := cell_of k2 0 (.int .i64 c) rfl
        have v1 := cell_of k2 1 (.string k) rfl
        have v2 := cell_of k2 2 (.string v) rfl
        replace HC2 := hid HC2
        replace FIN := hid FIN
        clear hp2 k2
        go_wp2_with fail
        refine HC2.out.mono ?_
        rintro e w3 ⟨rfl, hp3⟩
        have F3 := hid (FIN.out w3 hp3)
        clear hp3
        go_wp2_with fail
        go_ret
        exact ⟨rfl, F3.out⟩
      · have EA : Hid (adE S q c k v h = insE 1048576 S.ns S.ord k q c h) := by show _ = _; unfold adE; rw [if_neg (by rw [hch]; simp), if_neg hc]
        have ES : Hid (adS S q c k v h = S) := by show _ = _; unfold adS; rw [if_pos (by rw [EA.out]; exact hE)]
        rw [EA.out, ES.out]
        have FIN : Hid (∀ w', Below w.heap.size w w' → Tb.Tb w' base g (gw P w w') S ∧ Fp P w w') := fun w' b => kept_any HTb hbase b
        have HPt : Hid (∀ W, Below w.heap.size w W → Calls Try.prog 51 #[.pointer (some ⟨g, 0, none⟩), .int .u64 q, .agg #[.int .i64 c, .string k, .string v], .int .i64 h] W fun e w' => e = .returned (.int .i64 (insE 1048576 S.ns S.ord k q c h)) ∧ Below W.heap.size W w') := fun W b => put_no base g gl bl gs bm vt P S q c k v h W (H.later b) (Nat.le_trans hbase b.size) hk hc hE
        have e0 : (insE 1048576 S.ns S.ord k q c h != 0) = true := by simpa using hE
        generalize insE 1048576 S.ns S.ord k q c h = R at *
        replace B0 := hid B0
        replace kB := hid kB
        clear H HTb kA z1 z2 z3 z4 m1 m2 m3 m4 hszb hch hroom hE hc
        go_enter Try.func13, Try.ntmps13
        go_wp2_with fail
        rw [← hW0.out, ← hgt.out]
        refine HC.out.mono ?_
        rintro e w1 ⟨rfl, b1⟩
        have B1 := B0.out.trans (b1.mono B0.out.size)
        have HP1 := hid (HPt.out w1 B1)
        have k1 := kB.out w1 b1
        have u0 := cell_of k1 0 (.int .i64 c) rfl
        have u1 := cell_of k1 1 (.string k) rfl
        have u2 := cell_of k1 2 (.string v) rfl
        replace B1 := hid B1
        clear b1 k1
        go_wp2_with fail
        refine HP1.out.mono ?_
        rintro e w2 ⟨rfl, b2⟩
        have B2 := hid (B1.out.trans (b2.mono B1.out.size))
        clear b2
        go_wp2_with fail
        go_ret
        exact ⟨rfl, FIN.out _ B2.out⟩
  · have EA : Hid (adE S q c k v h = chk S q c k v h) := by show _ = _; unfold adE; rw [if_pos hch]
    have ES : Hid (adS S q c k v h = S) := by show _ = _; unfold adS; rw [if_pos (by rw [EA.out]; exact hch)]
    rw [EA.out, ES.out]
    have FIN : Hid (∀ w', Below w.heap.size w w' → Tb.Tb w' base g (gw P w w') S ∧ Fp P w w') := fun w' b => kept_any HTb hbase b
    have e0 : (chk S q c k v h != 0) = true := by simpa using hch
    generalize chk S q c k v h = R at *
    replace B0 := hid B0
    clear H HTb kA hch
    go_enter Try.func13, Try.ntmps13
    go_wp2_with fail
    rw [← hW0.out, ← hgt.out]
    refine HC.out.mono ?_
    rintro e w1 ⟨rfl, b1⟩
    have B1 := hid (B0.out.trans (b1.mono B0.out.size))
    clear b1
    go_wp2_with fail
    go_ret
    exact ⟨rfl, FIN.out _ B1.out⟩
end Go.Proofs.Ytefihoohdaegeaa.Ae

/- The law's asked: each call that changes nothing, of both. -/
import Derived.Test.YtefihoohdaegeaaDi
namespace Go.Proofs.Ytefihoohdaegeaa.Dj
open Go.ChangeShapes Go.WideShapes Go.ChangeAt Go.RowKit Go.Shelf
open Go.Sort (grow)
open Go.Proofs.Ytefihoohdaegeaa.Lx (hid)
open Go.Proofs.Ytefihoohdaegeaa.Tm (T zt At3 Tbs)
open Go.Proofs.Ytefihoohdaegeaa.Rw
open Go.Proofs.Ytefihoohdaegeaa.Fm (own_lt own_blocks)
open Go.Proofs.Ytefihoohdaegeaa.Ee (E ze Ents)
open Go.Proofs.Ytefihoohdaegeaa.Tb
open Go.Proofs.Ytefihoohdaegeaa.Eo
open Go.Proofs.Ytefihoohdaegeaa.Et (ents entries_any)
open Go.Proofs.Ytefihoohdaegeaa.Gt (fnd)
open Go.Proofs.Ytefihoohdaegeaa.Gu (get_any)
open Go.Proofs.Ytefihoohdaegeaa.Nw (c4)
open Go.Proofs.Ytefihoohdaegeaa.Dg
open Go.Proofs.Ytefihoohdaegeaa.Di
open Go.Proofs.Ytefihoohdaegeaa.Pm (ents_rise ents_mem)
open Go.Proofs.Ytefihoohdaegeaa.Wk (among_any)
open Go.Proofs.Ytefihoohdaegeaa.Mm (box_below)
open Go.Proofs.Ytefihoohdaegeaa.Tr (new_at cell_of size_alloc blk_lt fz_of set_of set_ne)
set_option linter.unusedVariables false
set_option linter.unusedSimpArgs false

/-- A memtable of the program's and of the document's that hold the same. -/
structure Two (w : World) (base g : Nat) (P : Nat → Prop) (S : St) (ea : Option Addr) (el ec : Nat) (ta : Option Addr) (tl tc : Nat) : Prop where
  a : Tb.Tb w base g P S
  b : RT w S ea el ec ta tl tc
theorem Two.later {w w' : World} {base g : Nat} {P : Nat → Prop} {S : St} {ea ta : Option Addr} {el ec tl tc : Nat} (h : Two w base g P S ea el ec ta tl tc) (b : Below w.heap.size w w') : Two w' base g P S ea el ec ta tl tc := ⟨h.a.later b, h.b.later b⟩
theorem Two.ents {w : World} {base g : Nat} {P : Nat → Prop} {S : St} {ea ta : Option Addr} {el ec tl tc : Nat} (h : Two w base g P S ea el ec ta tl tc) : Ents w ea el ec (ents S S.ord) := by
  obtain ⟨a', c', hv', x⟩ := h.b.e.ents (Dg.ents_ok h.a.wf)
  rw [h.b.el] at hv' x
  cases hv'
  exact x
theorem Two.tbs {w : World} {base g : Nat} {P : Nat → Prop} {S : St} {ea ta : Option Addr} {el ec tl tc : Nat} (h : Two w base g P S ea el ec ta tl tc) : Tbs w ta tl tc S.ts := by
  obtain ⟨a', c', hv', x⟩ := h.b.t.tbs (fun x hx => (h.a.wf.tomb x hx).2.2)
  rw [h.b.tl] at hv' x
  cases hv'
  exact x.1
set_option maxHeartbeats 8000000 in
set_option maxRecDepth 100000 in
theorem asked_0 (base g : Nat) (P : Nat → Prop) (S : St) (ea ta : Option Addr) (el ec tl tc : Nat) (log len sz lo hi : Int) (dn : Bool) (kd ht q c : Int) (k v : ByteArray) (w : World) (H : Two w base g P S ea el ec ta tl tc) (hk : k.size ≤ maxLen) (htl : tl ≤ 2199023255552) (e1 : log = S.log) (e2 : len = (S.ns.length : Int) + S.ts.length) (e3 : sz = S.sz) (e4 : lo = S.lo) (e5 : hi = S.hi) (hK : kd % 5 = 0) :
    Calls Try.prog 12 #[.pointer (some ⟨g, 0, none⟩), .agg #[.int .i64 log, .slice ea el ec, .slice ta tl tc, .int .i64 len, .int .i64 sz, .int .u64 lo, .int .u64 hi, .bool dn], .agg #[.int .i64 kd, .int .i64 ht, .int .u64 q, .int .i64 c, .string k, .string v]] w fun e w' => e = .returned (.bool true) ∧ Below w.heap.size w w' := by
  obtain ⟨g4, hg4⟩ : ∃ n, n = w.heap.size := ⟨_, rfl⟩
  obtain ⟨g5, hg5⟩ : ∃ n, g4 + 1 = n := ⟨_, rfl⟩
  obtain ⟨W0, hW0⟩ : ∃ W, W = (w.alloc (.cells #[.int .i64 log, .slice ea el ec, .slice ta tl tc, .int .i64 len, .int .i64 sz, .int .u64 lo, .int .u64 hi, .bool dn] 29)).alloc (.cells #[.int .i64 kd, .int .i64 ht, .int .u64 q, .int .i64 c, .string k, .string v] 34) := ⟨_, rfl⟩
  have b0 := box_below w (.cells #[.int .i64 log, .slice ea el ec, .slice ta tl tc, .int .i64 len, .int .i64 sz, .int .u64 lo, .int .u64 hi, .bool dn] 29)
  have k0 := new_at w (.cells #[.int .i64 log, .slice ea el ec, .slice ta tl tc, .int .i64 len, .int .i64 sz, .int .u64 lo, .int .u64 hi, .bool dn] 29)
  have s0 := size_alloc w (.cells #[.int .i64 log, .slice ea el ec, .slice ta tl tc, .int .i64 len, .int .i64 sz, .int .u64 lo, .int .u64 hi, .bool dn] 29)
  have B0 : Below w.heap.size w W0 := by rw [hW0]; exact b0.trans ((box_below _ _).mono (by omega))
  have K4 : W0.heap[g4]? = some (.cells #[.int .i64 log, .slice ea el ec, .slice ta tl tc, .int .i64 len, .int .i64 sz, .int .u64 lo, .int .u64 hi, .bool dn] 29) := by rw [hW0, hg4]; exact ((box_below _ _).block _ (by omega)).trans k0
  have K5 : W0.heap[g5]? = some (.cells #[.int .i64 kd, .int .i64 ht, .int .u64 q, .int .i64 c, .string k, .string v] 34) := by rw [hW0, ← hg5, hg4, ← s0]; exact new_at _ _
  obtain ⟨G, hG⟩ : ∃ G : World → Prop, G = fun W => Below W0.heap.size W0 W := ⟨_, rfl⟩
  have gW : Hid (G W0) := by show G W0; rw [hG]; exact Below.refl _ _
  have up : Hid (∀ W W', G W → Below W.heap.size W W' → G W') := fun W W' h b => by rw [hG] at h ⊢; exact Below.trans h (b.mono h.size)
  have TW : Hid (∀ W, G W → Two W base g P S ea el ec ta tl tc) := fun W h => by rw [hG] at h; exact (H.later B0).later h
  have BX : Hid (∀ W, G W → W.heap[g4]? = some (.cells #[.int .i64 log, .slice ea el ec, .slice ta tl tc, .int .i64 len, .int .i64 sz, .int .u64 lo, .int .u64 hi, .bool dn] 29) ∧ W.heap[g5]? = some (.cells #[.int .i64 kd, .int .i64 ht, .int .u64 q, .int .i64 c, .string k, .string v] 34)) := fun W h => by rw [hG] at h; exact ⟨(h.block g4 (blk_lt K4)).trans K4, (h.block g5 (blk_lt K5)).trans K5⟩
  have FIN : Hid (∀ W, G W → Below w.heap.size w W) := fun W h => by rw [hG] at h; exact B0.trans (Below.mono h B0.size)
  have GE : Hid (∀ W, G W → W0.heap.size ≤ W.heap.size) := fun W h => by rw [hG] at h; exact h.size
  have BG : Hid (∀ W, Below W0.heap.size W0 W → G W) := fun W h => by rw [hG]; exact h
  have GB : Hid (∀ W, G W → Below W0.heap.size W0 W) := fun W h => by rw [hG] at h; exact h
  have HAm := among_any kd 5 W0 (by omega)
  rw [show ((5 : Nat) : Int) = 5 from rfl, hK] at HAm
  have hts : Hid (S.ts.length ≤ 2199023255552) := by show _ ≤ _; rw [H.b.tl]; exact htl
  have hwf := hid H.a.wf
  have hTL := hid H.b.tl
  have hEL := hid H.b.el
  have x50 := cell_of K5 0 (.int .i64 kd) rfl
  rw [hW0] at x50
  replace HAm := hid HAm
  replace hW0 := hid hW0
  replace hg4 := hid hg4
  replace hg5 := hid hg5
  replace hG := hid hG
  replace hk := hid hk
  replace e1 := hid e1
  replace e2 := hid e2
  replace e3 := hid e3
  replace e4 := hid e4
  replace e5 := hid e5
  replace htl := hid htl
  have x50' : W0.cell? ⟨g5, 0, none⟩ = some (.int .i64 kd) := cell_of K5 0 (.int .i64 kd) rfl
  have hgg : w.heap.size + 1 = g5 := by rw [← hg4.out]; exact hg5.out
  rw [← hgg] at x50
  clear b0 k0 s0 B0 K4 K5 H hK
  go_enter Try.func12, Try.ntmps12
  go_wp2_with fail
  rw [← hW0.out, ← hg4.out]
  try rw [hg5.out]
  refine HAm.out.mono ?_
  rintro e w1 ⟨rfl, hw1⟩
  replace hw1 := hw1.symm
  subst hw1
  clear HAm x50 x50' hgg
  have SP : Hid (Calls Try.prog 26 #[.pointer (some ⟨g, 0, none⟩)] W0 fun e w' => e = .returned (.tuple #[.int .u64 lo, .int .u64 hi]) ∧ Below W0.heap.size W0 w') := by
    obtain ⟨gl, bl, gs, bm, vt, X⟩ := (TW.out W0 gW.out).a
    rw [e4.out, e5.out]
    exact span_any g gl gs bm S W0 X.c
  go_wp2_with fail
  refine SP.out.mono ?_
  rintro e w2 ⟨rfl, b2⟩
  have g2 := up.out _ _ gW.out b2
  have LG : Hid (∀ d os, Calls Try.prog 29 #[.pointer (some ⟨g, 0, none⟩)] (grow (redrawn w2 d) os) fun e w' => e = .returned (.int .i64 log) ∧ Below (grow (redrawn w2 d) os).heap.size (grow (redrawn w2 d) os) w') := fun d os => by
    obtain ⟨gl, bl, gs, bm, vt, X⟩ := (TW.out _ (up.out _ _ g2 (below_regrown w2 d os))).a
    rw [e1.out]
    exact (log_any g gl gs bm S _ X.c).mono fun _ _ h => ⟨h.1, by rw [h.2]; exact Below.refl _ _⟩
  have LN : Hid (∀ d os, Calls Try.prog 30 #[.pointer (some ⟨g, 0, none⟩)] (grow (redrawn w2 d) os) fun e w' => e = .returned (.int .i64 len) ∧ Below (grow (redrawn w2 d) os).heap.size (grow (redrawn w2 d) os) w') := fun d os => by
    rw [e2.out]
    exact len_any _ g _ S _ (TW.out _ (up.out _ _ g2 (below_regrown w2 d os))).a (by have := hts.out; omega)
  have SZ : Hid (∀ d os, Calls Try.prog 31 #[.pointer (some ⟨g, 0, none⟩)] (grow (redrawn w2 d) os) fun e w' => e = .returned (.int .i64 sz) ∧ Below (grow (redrawn w2 d) os).heap.size (grow (redrawn w2 d) os) w') := fun d os => by
    obtain ⟨gl, bl, gs, bm, vt, X⟩ := (TW.out _ (up.out _ _ g2 (below_regrown w2 d os))).a
    rw [e3.out]
    exact (size_any g gl gs bm S _ X.c).mono fun _ _ h => ⟨h.1, by rw [h.2]; exact Below.refl _ _⟩
  obtain ⟨kx, ky⟩ := BX.out w2 g2
  have d0 := fun d os => cell_regrown (cell_of kx 0 (.int .i64 log) rfl) d os
  have d3 := fun d os => cell_regrown (cell_of kx 3 (.int .i64 len) rfl) d os
  have d4 := fun d os => cell_regrown (cell_of kx 4 (.int .i64 sz) rfl) d os
  have d5 := fun d os => cell_regrown (cell_of kx 5 (.int .u64 lo) rfl) d os
  have d6 := fun d os => cell_regrown (cell_of kx 6 (.int .u64 hi) rfl) d os
  have r1 : (log == log) = true := beq_self_eq_true _
  have r2 : (len == len) = true := beq_self_eq_true _
  have r3 : (sz == sz) = true := beq_self_eq_true _
  have r4 : (lo == lo) = true := beq_self_eq_true _
  have r5 : (hi == hi) = true := beq_self_eq_true _
  replace g2 := hid g2
  clear kx ky b2 SP
  go_wp2_with fail
  refine wp_region_quiet_below (by kernel_rfl) (by kernel_rfl) ?_
  repeat (first | go_big_quiet_step (first | (go_at_call 29; exact Calls.regrown_of (LG.out _ _)) | (go_at_call 30; exact Calls.regrown_of (LN.out _ _)) | (go_at_call 31; exact Calls.regrown_of (SZ.out _ _))) | quiet_step (first | (go_at_call 29; exact Calls.regrown_of (LG.out _ _)) | (go_at_call 30; exact Calls.regrown_of (LN.out _ _)) | (go_at_call 31; exact Calls.regrown_of (SZ.out _ _))))
  refine wpQuiet_nil ?_
  intro w8 hw8
  have BF : Hid (Below w.heap.size w w8) := by
    obtain ⟨⟨dq, osq⟩, hw''⟩ := hw8
    rw [hw'']
    exact FIN.out _ (up.out _ _ g2.out (below_regrown _ dq osq))
  clear hw8 d0 d3 d4 d5 d6 LG LN SZ
  go_wp2_with fail
  go_ret
  exact ⟨by first | rfl | simp, BF.out⟩
set_option maxHeartbeats 8000000 in
set_option maxRecDepth 100000 in
theorem asked_1 (base g : Nat) (P : Nat → Prop) (S : St) (ea ta : Option Addr) (el ec tl tc : Nat) (log len sz lo hi : Int) (dn : Bool) (kd ht q c : Int) (k v : ByteArray) (w : World) (H : Two w base g P S ea el ec ta tl tc) (hk : k.size ≤ maxLen) (htl : tl ≤ 2199023255552) (e1 : log = S.log) (e2 : len = (S.ns.length : Int) + S.ts.length) (e3 : sz = S.sz) (e4 : lo = S.lo) (e5 : hi = S.hi) (hK : kd % 5 = 1) :
    Calls Try.prog 12 #[.pointer (some ⟨g, 0, none⟩), .agg #[.int .i64 log, .slice ea el ec, .slice ta tl tc, .int .i64 len, .int .i64 sz, .int .u64 lo, .int .u64 hi, .bool dn], .agg #[.int .i64 kd, .int .i64 ht, .int .u64 q, .int .i64 c, .string k, .string v]] w fun e w' => e = .returned (.bool true) ∧ Below w.heap.size w w' := by
  obtain ⟨g4, hg4⟩ : ∃ n, n = w.heap.size := ⟨_, rfl⟩
  obtain ⟨g5, hg5⟩ : ∃ n, g4 + 1 = n := ⟨_, rfl⟩
  obtain ⟨W0, hW0⟩ : ∃ W, W = (w.alloc (.cells #[.int .i64 log, .slice ea el ec, .slice ta tl tc, .int .i64 len, .int .i64 sz, .int .u64 lo, .int .u64 hi, .bool dn] 29)).alloc (.cells #[.int .i64 kd, .int .i64 ht, .int .u64 q, .int .i64 c, .string k, .string v] 34) := ⟨_, rfl⟩
  have b0 := box_below w (.cells #[.int .i64 log, .slice ea el ec, .slice ta tl tc, .int .i64 len, .int .i64 sz, .int .u64 lo, .int .u64 hi, .bool dn] 29)
  have k0 := new_at w (.cells #[.int .i64 log, .slice ea el ec, .slice ta tl tc, .int .i64 len, .int .i64 sz, .int .u64 lo, .int .u64 hi, .bool dn] 29)
  have s0 := size_alloc w (.cells #[.int .i64 log, .slice ea el ec, .slice ta tl tc, .int .i64 len, .int .i64 sz, .int .u64 lo, .int .u64 hi, .bool dn] 29)
  have B0 : Below w.heap.size w W0 := by rw [hW0]; exact b0.trans ((box_below _ _).mono (by omega))
  have K4 : W0.heap[g4]? = some (.cells #[.int .i64 log, .slice ea el ec, .slice ta tl tc, .int .i64 len, .int .i64 sz, .int .u64 lo, .int .u64 hi, .bool dn] 29) := by rw [hW0, hg4]; exact ((box_below _ _).block _ (by omega)).trans k0
  have K5 : W0.heap[g5]? = some (.cells #[.int .i64 kd, .int .i64 ht, .int .u64 q, .int .i64 c, .string k, .string v] 34) := by rw [hW0, ← hg5, hg4, ← s0]; exact new_at _ _
  obtain ⟨G, hG⟩ : ∃ G : World → Prop, G = fun W => Below W0.heap.size W0 W := ⟨_, rfl⟩
  have gW : Hid (G W0) := by show G W0; rw [hG]; exact Below.refl _ _
  have up : Hid (∀ W W', G W → Below W.heap.size W W' → G W') := fun W W' h b => by rw [hG] at h ⊢; exact Below.trans h (b.mono h.size)
  have TW : Hid (∀ W, G W → Two W base g P S ea el ec ta tl tc) := fun W h => by rw [hG] at h; exact (H.later B0).later h
  have BX : Hid (∀ W, G W → W.heap[g4]? = some (.cells #[.int .i64 log, .slice ea el ec, .slice ta tl tc, .int .i64 len, .int .i64 sz, .int .u64 lo, .int .u64 hi, .bool dn] 29) ∧ W.heap[g5]? = some (.cells #[.int .i64 kd, .int .i64 ht, .int .u64 q, .int .i64 c, .string k, .string v] 34)) := fun W h => by rw [hG] at h; exact ⟨(h.block g4 (blk_lt K4)).trans K4, (h.block g5 (blk_lt K5)).trans K5⟩
  have FIN : Hid (∀ W, G W → Below w.heap.size w W) := fun W h => by rw [hG] at h; exact B0.trans (Below.mono h B0.size)
  have GE : Hid (∀ W, G W → W0.heap.size ≤ W.heap.size) := fun W h => by rw [hG] at h; exact h.size
  have BG : Hid (∀ W, Below W0.heap.size W0 W → G W) := fun W h => by rw [hG]; exact h
  have GB : Hid (∀ W, G W → Below W0.heap.size W0 W) := fun W h => by rw [hG] at h; exact h
  have HAm := among_any kd 5 W0 (by omega)
  rw [show ((5 : Nat) : Int) = 5 from rfl, hK] at HAm
  have hts : Hid (S.ts.length ≤ 2199023255552) := by show _ ≤ _; rw [H.b.tl]; exact htl
  have hwf := hid H.a.wf
  have hTL := hid H.b.tl
  have hEL := hid H.b.el
  have x50 := cell_of K5 0 (.int .i64 kd) rfl
  rw [hW0] at x50
  replace HAm := hid HAm
  replace hW0 := hid hW0
  replace hg4 := hid hg4
  replace hg5 := hid hg5
  replace hG := hid hG
  replace hk := hid hk
  replace e1 := hid e1
  replace e2 := hid e2
  replace e3 := hid e3
  replace e4 := hid e4
  replace e5 := hid e5
  replace htl := hid htl
  have x50' : W0.cell? ⟨g5, 0, none⟩ = some (.int .i64 kd) := cell_of K5 0 (.int .i64 kd) rfl
  have hgg : w.heap.size + 1 = g5 := by rw [← hg4.out]; exact hg5.out
  rw [← hgg] at x50
  clear b0 k0 s0 B0 K4 K5 H hK
  go_enter Try.func12, Try.ntmps12
  go_wp2_with fail
  rw [← hW0.out, ← hg4.out]
  try rw [hg5.out]
  refine HAm.out.mono ?_
  rintro e w1 ⟨rfl, hw1⟩
  replace hw1 := hw1.symm
  subst hw1
  clear HAm x50 x50' hgg
  obtain ⟨⟨⟨y1, y2, y3, y4⟩, yb⟩, hy⟩ : ∃ r, r = fnd [(g, S)] k q := ⟨_, rfl⟩
  have GT : Hid (∀ W, G W → Calls Try.prog 25 #[.pointer (some ⟨g, 0, none⟩), .string k, .int .u64 q] W fun e w' => e = .returned (.tuple #[.agg #[.string y1, .int .u64 y2, .int .i64 y3, .string y4], .bool yb]) ∧ Below W.heap.size W w') := fun W h => by
    have := get_any _ g _ S k q W (TW.out W h).a (by have := hts.out; omega) hk.out
    rw [← hy] at this
    exact this
  have RG : Hid (∀ W, G W → Calls Try.prog 48 #[.slice ea el ec, .slice ta tl tc, .string k, .int .u64 q] W fun e w' => e = .returned (.tuple #[.agg #[.string y1, .int .u64 y2, .int .i64 y3, .string y4], .bool yb]) ∧ Below W.heap.size W w') := fun W h => by
    have hT := TW.out W h
    have hell : el ≤ 1048576 := by have := hEL.out; rw [ents_len, hwf.out.gd.len] at this; have := hwf.out.cap; omega
    refine (Dh.rget_any ea ta el ec tl tc (ents S S.ord) S.ts k q W hT.ents hT.tbs hell (by have := htl.out; omega) (ents_rise hwf.out) (fun t ht => (hwf.out.tomb t ht).2.1)).mono ?_
    rintro e w' ⟨rk, rs, rc, rv, rb, rfl, hA, b⟩
    have h1 := hA.same (ents_mem hwf.out) (fun t => Iff.rfl)
    have h2 := An.ans_get hwf.out g k q
    rw [← hy] at h2
    have h3 := h1.uniq h2 (An.uniq_of hwf.out)
    cases h3
    exact ⟨rfl, b⟩
  obtain ⟨kx, ky⟩ := BX.out W0 gW.out
  have x4 := cell_of ky 4 (.string k) rfl
  have x2 := cell_of ky 2 (.int .u64 q) rfl
  replace hy := hid hy
  clear kx ky
  go_wp2_with fail
  refine (GT.out W0 gW.out).mono ?_
  rintro e w2 ⟨rfl, b2⟩
  obtain ⟨b7, hb7⟩ : ∃ n, n = w2.heap.size := ⟨_, rfl⟩
  obtain ⟨W3, hW3⟩ : ∃ W, W = w2.alloc (.cells #[.string y1, .int .u64 y2, .int .i64 y3, .string y4] 56) := ⟨_, rfl⟩
  have k7 : W3.heap[b7]? = some (.cells #[.string y1, .int .u64 y2, .int .i64 y3, .string y4] 56) := by rw [hW3, hb7]; exact new_at _ _
  have g3 : G W3 := up.out _ _ gW.out (by rw [hW3]; exact b2.alloc b2.size _)
  obtain ⟨kx, ky⟩ := BX.out W3 g3
  have z1 := cell_of kx 1 (.slice ea el ec) rfl
  have z2 := cell_of kx 2 (.slice ta tl tc) rfl
  have x4' := cell_of ky 4 (.string k) rfl
  have x2' := cell_of ky 2 (.int .u64 q) rfl
  have RG3 := hid (RG.out W3 g3)
  rw [hW3] at z1 z2 x4' x2'
  replace k7 := hid k7
  replace g3 := hid g3
  replace hW3 := hid hW3
  replace hb7 := hid hb7
  clear b2 kx ky x4 x2 GT RG
  go_wp2_with fail
  rw [← hW3.out, ← hb7.out]
  refine RG3.out.mono ?_
  rintro e w4 ⟨rfl, b4⟩
  obtain ⟨b9, hb9⟩ : ∃ n, n = w4.heap.size := ⟨_, rfl⟩
  obtain ⟨W5, hW5⟩ : ∃ W, W = w4.alloc (.cells #[.string y1, .int .u64 y2, .int .i64 y3, .string y4] 56) := ⟨_, rfl⟩
  have k9 : W5.heap[b9]? = some (.cells #[.string y1, .int .u64 y2, .int .i64 y3, .string y4] 56) := by rw [hW5, hb9]; exact new_at _ _
  have b5 : Below W3.heap.size W3 W5 := by rw [hW5]; exact b4.alloc b4.size _
  have k7' := (b5.block b7 (blk_lt k7.out)).trans k7.out
  have BF := hid (FIN.out W5 (up.out _ _ g3.out b5))
  have hne : b9 ≠ b7 := by have := blk_lt k7.out; have := b4.size; omega
  have hne' : b7 ≠ b9 := Ne.symm hne
  have u0 := cell_of k7' 0 (.string y1) rfl
  have u1 := cell_of k7' 1 (.int .u64 y2) rfl
  have u2 := cell_of k7' 2 (.int .i64 y3) rfl
  have u3 := cell_of k7' 3 (.string y4) rfl
  have v0 := cell_of k9 0 (.string y1) rfl
  have v1 := cell_of k9 1 (.int .u64 y2) rfl
  have v2 := cell_of k9 2 (.int .i64 y3) rfl
  have v3 := cell_of k9 3 (.string y4) rfl
  rw [hb9] at v0 v1 v2 v3 hne hne'
  rw [hW5] at u0 u1 u2 u3 v0 v1 v2 v3 BF
  clear k7 k7' k9 b4 b5 RG3 z1 z2 x4' x2' hW5 hb9 hW3 hb7 g3
  go_wp2_with fail
  go_ret
  exact ⟨by first | rfl | simp, BF.out⟩
set_option maxHeartbeats 8000000 in
set_option maxRecDepth 100000 in
theorem asked_2 (base g : Nat) (P : Nat → Prop) (S : St) (ea ta : Option Addr) (el ec tl tc : Nat) (log len sz lo hi : Int) (dn : Bool) (kd ht q c : Int) (k v : ByteArray) (w : World) (H : Two w base g P S ea el ec ta tl tc) (hk : k.size ≤ maxLen) (htl : tl ≤ 2199023255552) (e1 : log = S.log) (e2 : len = (S.ns.length : Int) + S.ts.length) (e3 : sz = S.sz) (e4 : lo = S.lo) (e5 : hi = S.hi) (hK : kd % 5 = 2) :
    Calls Try.prog 12 #[.pointer (some ⟨g, 0, none⟩), .agg #[.int .i64 log, .slice ea el ec, .slice ta tl tc, .int .i64 len, .int .i64 sz, .int .u64 lo, .int .u64 hi, .bool dn], .agg #[.int .i64 kd, .int .i64 ht, .int .u64 q, .int .i64 c, .string k, .string v]] w fun e w' => e = .returned (.bool true) ∧ Below w.heap.size w w' := by
  obtain ⟨g4, hg4⟩ : ∃ n, n = w.heap.size := ⟨_, rfl⟩
  obtain ⟨g5, hg5⟩ : ∃ n, g4 + 1 = n := ⟨_, rfl⟩
  obtain ⟨W0, hW0⟩ : ∃ W, W = (w.alloc (.cells #[.int .i64 log, .slice ea el ec, .slice ta tl tc, .int .i64 len, .int .i64 sz, .int .u64 lo, .int .u64 hi, .bool dn] 29)).alloc (.cells #[.int .i64 kd, .int .i64 ht, .int .u64 q, .int .i64 c, .string k, .string v] 34) := ⟨_, rfl⟩
  have b0 := box_below w (.cells #[.int .i64 log, .slice ea el ec, .slice ta tl tc, .int .i64 len, .int .i64 sz, .int .u64 lo, .int .u64 hi, .bool dn] 29)
  have k0 := new_at w (.cells #[.int .i64 log, .slice ea el ec, .slice ta tl tc, .int .i64 len, .int .i64 sz, .int .u64 lo, .int .u64 hi, .bool dn] 29)
  have s0 := size_alloc w (.cells #[.int .i64 log, .slice ea el ec, .slice ta tl tc, .int .i64 len, .int .i64 sz, .int .u64 lo, .int .u64 hi, .bool dn] 29)
  have B0 : Below w.heap.size w W0 := by rw [hW0]; exact b0.trans ((box_below _ _).mono (by omega))
  have K4 : W0.heap[g4]? = some (.cells #[.int .i64 log, .slice ea el ec, .slice ta tl tc, .int .i64 len, .int .i64 sz, .int .u64 lo, .int .u64 hi, .bool dn] 29) := by rw [hW0, hg4]; exact ((box_below _ _).block _ (by omega)).trans k0
  have K5 : W0.heap[g5]? = some (.cells #[.int .i64 kd, .int .i64 ht, .int .u64 q, .int .i64 c, .string k, .string v] 34) := by rw [hW0, ← hg5, hg4, ← s0]; exact new_at _ _
  obtain ⟨G, hG⟩ : ∃ G : World → Prop, G = fun W => Below W0.heap.size W0 W := ⟨_, rfl⟩
  have gW : Hid (G W0) := by show G W0; rw [hG]; exact Below.refl _ _
  have up : Hid (∀ W W', G W → Below W.heap.size W W' → G W') := fun W W' h b => by rw [hG] at h ⊢; exact Below.trans h (b.mono h.size)
  have TW : Hid (∀ W, G W → Two W base g P S ea el ec ta tl tc) := fun W h => by rw [hG] at h; exact (H.later B0).later h
  have BX : Hid (∀ W, G W → W.heap[g4]? = some (.cells #[.int .i64 log, .slice ea el ec, .slice ta tl tc, .int .i64 len, .int .i64 sz, .int .u64 lo, .int .u64 hi, .bool dn] 29) ∧ W.heap[g5]? = some (.cells #[.int .i64 kd, .int .i64 ht, .int .u64 q, .int .i64 c, .string k, .string v] 34)) := fun W h => by rw [hG] at h; exact ⟨(h.block g4 (blk_lt K4)).trans K4, (h.block g5 (blk_lt K5)).trans K5⟩
  have FIN : Hid (∀ W, G W → Below w.heap.size w W) := fun W h => by rw [hG] at h; exact B0.trans (Below.mono h B0.size)
  have GE : Hid (∀ W, G W → W0.heap.size ≤ W.heap.size) := fun W h => by rw [hG] at h; exact h.size
  have BG : Hid (∀ W, Below W0.heap.size W0 W → G W) := fun W h => by rw [hG]; exact h
  have GB : Hid (∀ W, G W → Below W0.heap.size W0 W) := fun W h => by rw [hG] at h; exact h
  have HAm := among_any kd 5 W0 (by omega)
  rw [show ((5 : Nat) : Int) = 5 from rfl, hK] at HAm
  have hts : Hid (S.ts.length ≤ 2199023255552) := by show _ ≤ _; rw [H.b.tl]; exact htl
  have hwf := hid H.a.wf
  have hTL := hid H.b.tl
  have hEL := hid H.b.el
  have x50 := cell_of K5 0 (.int .i64 kd) rfl
  rw [hW0] at x50
  replace HAm := hid HAm
  replace hW0 := hid hW0
  replace hg4 := hid hg4
  replace hg5 := hid hg5
  replace hG := hid hG
  replace hk := hid hk
  replace e1 := hid e1
  replace e2 := hid e2
  replace e3 := hid e3
  replace e4 := hid e4
  replace e5 := hid e5
  replace htl := hid htl
  have x50' : W0.cell? ⟨g5, 0, none⟩ = some (.int .i64 kd) := cell_of K5 0 (.int .i64 kd) rfl
  have hgg : w.heap.size + 1 = g5 := by rw [← hg4.out]; exact hg5.out
  rw [← hgg] at x50
  clear b0 k0 s0 B0 K4 K5 H hK
  go_enter Try.func12, Try.ntmps12
  go_wp2_with fail
  rw [← hW0.out, ← hg4.out]
  try rw [hg5.out]
  refine HAm.out.mono ?_
  rintro e w1 ⟨rfl, hw1⟩
  replace hw1 := hw1.symm
  subst hw1
  clear HAm x50 x50' hgg
  have ROW : Hid (∀ W, G W → Calls Try.prog 27 #[.pointer (some ⟨g, 0, none⟩)] W fun e w' => ∃ a c, e = .returned (.slice a el c) ∧ OwnE w' W.heap.size (.slice a el c) (ents S S.ord) ∧ Below W.heap.size W w') := fun W h => by
    refine (entries_any _ g _ S W (TW.out W h).a).mono ?_
    rintro e w' ⟨v', rfl, o, b⟩
    obtain ⟨a, c, rfl⟩ := Sa.row_block o
    rw [hEL.out] at o
    exact ⟨a, c, by rw [hEL.out], o, b⟩
  have SAME : Hid (∀ W W' a c, G W → OwnE W' W.heap.size (.slice a el c) (ents S S.ord) → Below W.heap.size W W' → Calls Try.prog 45 #[.slice a el c, .slice ea el ec] W' fun e w' => e = .returned (.bool true) ∧ Below W'.heap.size W' w') := fun W W' a c h o b => by
    obtain ⟨a', c', hv', x⟩ := o.ents (Dg.ents_ok hwf.out)
    rw [hEL.out] at hv' x
    cases hv'
    exact Og.same_any a ea el c ec (ents S S.ord) W' x (TW.out W' (up.out _ _ h b)).ents (by have := hEL.out; rw [ents_len, hwf.out.gd.len] at this; have := hwf.out.cap; omega)
  go_wp2_with fail
  refine (ROW.out W0 gW.out).mono ?_
  rintro e w2 ⟨a2, c2, rfl, o2, b2⟩
  have SM := hid (SAME.out W0 w2 a2 c2 gW.out o2 b2)
  have g2 := up.out _ _ gW.out b2
  have z1 := cell_of (BX.out w2 g2).1 1 (.slice ea el ec) rfl
  replace o2 := hid o2
  replace g2 := hid g2
  clear b2
  go_wp2_with fail
  refine SM.out.mono ?_
  rintro e W3 ⟨rfl, b3⟩
  have g3 := up.out _ _ g2.out b3
  have o3 : OwnE W3 W0.heap.size (.slice a2 el c2) (ents S S.ord) := own_blocks o2.out (fun j hj => b3.block j (own_lt o2.out j hj).2)
  obtain ⟨n3, hn3⟩ : ∃ n, n = W0.heap.size := ⟨_, rfl⟩
  rw [← hn3] at o3
  have GG : Hid (∀ W, Below n3 W3 W → G W) := fun W h => BG.out W (by have h1 := GB.out W3 g3; rw [← hn3] at h1 ⊢; exact h1.trans h)
  have n3le : Hid (n3 ≤ W3.heap.size) := by show _ ≤ _; rw [hn3]; exact GE.out W3 g3
  have PAD : Hid (0 < el → ∃ b, a2 = some ⟨b, 0, none⟩ ∧ el ≤ c2 ∧ n3 ≤ b ∧ Pad W3 b 56 (el * 4)) := fun h0 => by
    have o3' := o3
    unfold OwnE at o3'
    rw [hEL.out] at o3'
    exact own_pad o3' h0 (by rw [ecs_len, hEL.out])
  have hNb : el ≤ 2199023255552 := by first | exact htl.out | (have := hEL.out; rw [ents_len, hwf.out.gd.len] at this; have := hwf.out.cap; omega)
  replace g3 := hid g3
  replace hn3 := hid hn3
  clear o3 b3 SM z1 o2
  go_wp2_with fail
  go_loopw [12] (fun iv wr => ∃ (m : Nat), m ≤ el ∧ iv = .int .i64 (m : Int) ∧ Hid (∀ b, a2 = some ⟨b, 0, none⟩ → n3 ≤ b → Pad W3 b 56 (el * 4) → Pad wr b 56 (el * 4)) ∧ Hid (Below n3 W3 wr))
    (fun iv _ => el - (intOf iv).toNat)
  case atStart => exact ⟨0, Nat.zero_le _, rfl, fun b _ _ h => h, Below.refl _ _⟩
  case round =>
    obtain ⟨m, hm, rfl, HP0, HB⟩ := hrel
    by_cases hlt : m < el
    · have m1 : (m : Int) < (el : Int) := by omega
      obtain ⟨b, rfl, hcap, hbb, hpd⟩ := PAD.out (by omega)
      have HP := hid (HP0.out b rfl hbb hpd)
      have hmc : m * 4 + 4 ≤ el * 4 := by
        have := Nat.mul_le_mul_right 4 (show m + 1 ≤ el by omega)
        omega
      obtain ⟨c0, hc0⟩ := HP.out.cell (m * 4) (by omega)
      have f0 := HP.out.fz (m * 4)
      obtain ⟨c1, hc1⟩ := HP.out.cell (m * 4 + 1) (by omega)
      have f1 := HP.out.fz (m * 4 + 1)
      obtain ⟨c2, hc2⟩ := HP.out.cell (m * 4 + 2) (by omega)
      have f2 := HP.out.fz (m * 4 + 2)
      obtain ⟨c3, hc3⟩ := HP.out.cell (m * 4 + 3) (by omega)
      have f3 := HP.out.fz (m * 4 + 3)
      have NP : Hid (∀ b', (some (⟨b, 0, none⟩ : Addr)) = some ⟨b', 0, none⟩ → n3 ≤ b' → Pad W3 b' 56 (el * 4) → Pad ((((wr.setCell ⟨b, m * 4, none⟩ (.string ⟨#[115, 112, 111, 105, 108, 116]⟩)).setCell ⟨b, m * 4 + 1, none⟩ (.int .u64 0)).setCell ⟨b, m * 4 + 2, none⟩ (.int .i64 0)).setCell ⟨b, m * 4 + 3, none⟩ (.string ⟨#[]⟩)) b' 56 (el * 4)) := fun b' hb' _ _ => by
        cases hb'
        exact ((((HP.out.set (m * 4) (.string ⟨#[115, 112, 111, 105, 108, 116]⟩)).set (m * 4 + 1) (.int .u64 0)).set (m * 4 + 2) (.int .i64 0)).set (m * 4 + 3) (.string ⟨#[]⟩))
      have NB : Hid (Below n3 W3 ((((wr.setCell ⟨b, m * 4, none⟩ (.string ⟨#[115, 112, 111, 105, 108, 116]⟩)).setCell ⟨b, m * 4 + 1, none⟩ (.int .u64 0)).setCell ⟨b, m * 4 + 2, none⟩ (.int .i64 0)).setCell ⟨b, m * 4 + 3, none⟩ (.string ⟨#[]⟩))) := ((((HB.out.setCell (p := ⟨b, m * 4, none⟩) hbb (.string ⟨#[115, 112, 111, 105, 108, 116]⟩)).setCell (p := ⟨b, m * 4 + 1, none⟩) hbb (.int .u64 0)).setCell (p := ⟨b, m * 4 + 2, none⟩) hbb (.int .i64 0)).setCell (p := ⟨b, m * 4 + 3, none⟩) hbb (.string ⟨#[]⟩))
      replace hmc := hid hmc
      replace hpd := hid hpd
      clear HP0 HP HB
      go_wp2_with fail
      refine ⟨⟨m + 1, by omega, by first | rfl | go_num, NP, NB⟩, ?_⟩
      simp only [intOf]; omega
    · have ik : ¬ (m : Int) < (el : Int) := by omega
      have HBD : Hid (Below n3 W3 wr.drew) := HB.out.drew
      clear HP0
      go_wp2_with fail
      refine wp_region_held_drew (S := fun W => Below n3 W3 W) (by kernel_rfl) (HBD.out) (fun hS => ?_)
      generalize World.drew wr = x0 at *
      refine wpAnyH_take (i := 0) (v := ?v1) rfl (by kernel_rfl) (by kernel_rfl) (by kernel_rfl) (fun _ _ _ h => h) (Or.inl ⟨by rfl, ?h1⟩) hS ?_
      case h1 => (intro W hW; go_simp; try (with_reducible rfl))
      go_simp
      refine wpAnyH_take (i := 2) (v := ?v2) rfl (by kernel_rfl) (by kernel_rfl) (by kernel_rfl) (fun _ _ _ h => h) (Or.inl ⟨by rfl, ?h2⟩) hS ?_
      case h2 => (intro W hW; go_simp; try (with_reducible rfl))
      go_simp
      refine wpAnyH_take (i := 3) (v := ?v3) rfl (by kernel_rfl) (by kernel_rfl) (by kernel_rfl) (fun _ _ _ h => h) (Or.inl ⟨by rfl, ?h3⟩) hS ?_
      case h3 => (intro W hW; have z1 := cell_of (BX.out W (GG.out W hW)).1 1 (.slice ea el ec) rfl; go_simp; try (with_reducible rfl))
      go_simp
      refine wpAnyH_ready (rs := [1]) (by kernel_rfl) (by simp) ?_
      refine AllReadyH.cons rfl (fun K hK => ?_) ?_
      · go_simp
        refine (ROW.out _ (GG.out _ hS)).mono ?_
        rintro e x1 ⟨a3, c3, rfl, o3, b3⟩
        have hx0 := GG.out _ hS
        refine hK.out _ _ (hS.trans (b3.mono (Nat.le_trans n3le.out hS.size))) (fun hS => ?_)
        clear hK K
        have HSm := hid (SAME.out _ x1 a3 c3 hx0 o3 b3)
        clear o3 b3 hx0
        refine wpAnyH_ready (rs := [4]) (by kernel_rfl) (by simp) ?_
        refine AllReadyH.cons rfl (fun K hK => ?_) ?_
        · go_simp
          refine HSm.out.mono ?_
          rintro e x2 ⟨rfl, b4⟩
          refine hK.out _ _ (hS.trans (b4.mono (Nat.le_trans n3le.out hS.size))) (fun hS => ?_)
          clear hK K b4 HSm
          refine wpAnyH_take (i := 5) (v := ?v4) rfl (by kernel_rfl) (by kernel_rfl) (by kernel_rfl) (fun _ _ _ h => h) (Or.inl ⟨by rfl, ?h4⟩) hS ?_
          case h4 => (intro W hW; go_simp; try (with_reducible rfl))
          go_simp
          refine wpAnyH_done (by kernel_rfl) ?_ _
          have BF := hid (FIN.out _ (GG.out _ hS))
          clear hS
          go_wp2_with fail
          go_ret
          exact ⟨by first | rfl | simp, BF.out⟩
        exact AllReadyH.nil
      exact AllReadyH.nil
set_option maxHeartbeats 8000000 in
set_option maxRecDepth 100000 in
theorem asked_3 (base g : Nat) (P : Nat → Prop) (S : St) (ea ta : Option Addr) (el ec tl tc : Nat) (log len sz lo hi : Int) (dn : Bool) (kd ht q c : Int) (k v : ByteArray) (w : World) (H : Two w base g P S ea el ec ta tl tc) (hk : k.size ≤ maxLen) (htl : tl ≤ 2199023255552) (e1 : log = S.log) (e2 : len = (S.ns.length : Int) + S.ts.length) (e3 : sz = S.sz) (e4 : lo = S.lo) (e5 : hi = S.hi) (hK : kd % 5 = 3) :
    Calls Try.prog 12 #[.pointer (some ⟨g, 0, none⟩), .agg #[.int .i64 log, .slice ea el ec, .slice ta tl tc, .int .i64 len, .int .i64 sz, .int .u64 lo, .int .u64 hi, .bool dn], .agg #[.int .i64 kd, .int .i64 ht, .int .u64 q, .int .i64 c, .string k, .string v]] w fun e w' => e = .returned (.bool true) ∧ Below w.heap.size w w' := by
  obtain ⟨g4, hg4⟩ : ∃ n, n = w.heap.size := ⟨_, rfl⟩
  obtain ⟨g5, hg5⟩ : ∃ n, g4 + 1 = n := ⟨_, rfl⟩
  obtain ⟨W0, hW0⟩ : ∃ W, W = (w.alloc (.cells #[.int .i64 log, .slice ea el ec, .slice ta tl tc, .int .i64 len, .int .i64 sz, .int .u64 lo, .int .u64 hi, .bool dn] 29)).alloc (.cells #[.int .i64 kd, .int .i64 ht, .int .u64 q, .int .i64 c, .string k, .string v] 34) := ⟨_, rfl⟩
  have b0 := box_below w (.cells #[.int .i64 log, .slice ea el ec, .slice ta tl tc, .int .i64 len, .int .i64 sz, .int .u64 lo, .int .u64 hi, .bool dn] 29)
  have k0 := new_at w (.cells #[.int .i64 log, .slice ea el ec, .slice ta tl tc, .int .i64 len, .int .i64 sz, .int .u64 lo, .int .u64 hi, .bool dn] 29)
  have s0 := size_alloc w (.cells #[.int .i64 log, .slice ea el ec, .slice ta tl tc, .int .i64 len, .int .i64 sz, .int .u64 lo, .int .u64 hi, .bool dn] 29)
  have B0 : Below w.heap.size w W0 := by rw [hW0]; exact b0.trans ((box_below _ _).mono (by omega))
  have K4 : W0.heap[g4]? = some (.cells #[.int .i64 log, .slice ea el ec, .slice ta tl tc, .int .i64 len, .int .i64 sz, .int .u64 lo, .int .u64 hi, .bool dn] 29) := by rw [hW0, hg4]; exact ((box_below _ _).block _ (by omega)).trans k0
  have K5 : W0.heap[g5]? = some (.cells #[.int .i64 kd, .int .i64 ht, .int .u64 q, .int .i64 c, .string k, .string v] 34) := by rw [hW0, ← hg5, hg4, ← s0]; exact new_at _ _
  obtain ⟨G, hG⟩ : ∃ G : World → Prop, G = fun W => Below W0.heap.size W0 W := ⟨_, rfl⟩
  have gW : Hid (G W0) := by show G W0; rw [hG]; exact Below.refl _ _
  have up : Hid (∀ W W', G W → Below W.heap.size W W' → G W') := fun W W' h b => by rw [hG] at h ⊢; exact Below.trans h (b.mono h.size)
  have TW : Hid (∀ W, G W → Two W base g P S ea el ec ta tl tc) := fun W h => by rw [hG] at h; exact (H.later B0).later h
  have BX : Hid (∀ W, G W → W.heap[g4]? = some (.cells #[.int .i64 log, .slice ea el ec, .slice ta tl tc, .int .i64 len, .int .i64 sz, .int .u64 lo, .int .u64 hi, .bool dn] 29) ∧ W.heap[g5]? = some (.cells #[.int .i64 kd, .int .i64 ht, .int .u64 q, .int .i64 c, .string k, .string v] 34)) := fun W h => by rw [hG] at h; exact ⟨(h.block g4 (blk_lt K4)).trans K4, (h.block g5 (blk_lt K5)).trans K5⟩
  have FIN : Hid (∀ W, G W → Below w.heap.size w W) := fun W h => by rw [hG] at h; exact B0.trans (Below.mono h B0.size)
  have GE : Hid (∀ W, G W → W0.heap.size ≤ W.heap.size) := fun W h => by rw [hG] at h; exact h.size
  have BG : Hid (∀ W, Below W0.heap.size W0 W → G W) := fun W h => by rw [hG]; exact h
  have GB : Hid (∀ W, G W → Below W0.heap.size W0 W) := fun W h => by rw [hG] at h; exact h
  have HAm := among_any kd 5 W0 (by omega)
  rw [show ((5 : Nat) : Int) = 5 from rfl, hK] at HAm
  have hts : Hid (S.ts.length ≤ 2199023255552) := by show _ ≤ _; rw [H.b.tl]; exact htl
  have hwf := hid H.a.wf
  have hTL := hid H.b.tl
  have hEL := hid H.b.el
  have x50 := cell_of K5 0 (.int .i64 kd) rfl
  rw [hW0] at x50
  replace HAm := hid HAm
  replace hW0 := hid hW0
  replace hg4 := hid hg4
  replace hg5 := hid hg5
  replace hG := hid hG
  replace hk := hid hk
  replace e1 := hid e1
  replace e2 := hid e2
  replace e3 := hid e3
  replace e4 := hid e4
  replace e5 := hid e5
  replace htl := hid htl
  have x50' : W0.cell? ⟨g5, 0, none⟩ = some (.int .i64 kd) := cell_of K5 0 (.int .i64 kd) rfl
  have hgg : w.heap.size + 1 = g5 := by rw [← hg4.out]; exact hg5.out
  rw [← hgg] at x50
  clear b0 k0 s0 B0 K4 K5 H hK
  go_enter Try.func12, Try.ntmps12
  go_wp2_with fail
  rw [← hW0.out, ← hg4.out]
  try rw [hg5.out]
  refine HAm.out.mono ?_
  rintro e w1 ⟨rfl, hw1⟩
  replace hw1 := hw1.symm
  subst hw1
  clear HAm x50 x50' hgg
  have ROW : Hid (∀ W, G W → Calls Try.prog 28 #[.pointer (some ⟨g, 0, none⟩)] W fun e w' => ∃ a c, e = .returned (.slice a tl c) ∧ OwnT w' W.heap.size (.slice a tl c) S.ts ∧ Below W.heap.size W w') := fun W h => by
    have := tombs_own _ g _ S W (TW.out W h).a (by have := hts.out; omega)
    rw [hTL.out] at this
    exact this
  have SAME : Hid (∀ W W' a c, G W → OwnT W' W.heap.size (.slice a tl c) S.ts → Below W.heap.size W W' → Calls Try.prog 49 #[.slice a tl c, .slice ta tl tc] W' fun e w' => e = .returned (.bool true) ∧ Below W'.heap.size W' w') := fun W W' a c h o b => by
    obtain ⟨a', c', hv', x⟩ := o.tbs (fun x hx => (hwf.out.tomb x hx).2.2)
    rw [hTL.out] at hv' x
    cases hv'
    exact tsame_any a ta tl c tc S.ts W' x.1 (TW.out W' (up.out _ _ h b)).tbs (by have := htl.out; omega)
  go_wp2_with fail
  refine (ROW.out W0 gW.out).mono ?_
  rintro e w2 ⟨a2, c2, rfl, o2, b2⟩
  have SM := hid (SAME.out W0 w2 a2 c2 gW.out o2 b2)
  have g2 := up.out _ _ gW.out b2
  have z1 := cell_of (BX.out w2 g2).1 2 (.slice ta tl tc) rfl
  replace o2 := hid o2
  replace g2 := hid g2
  clear b2
  go_wp2_with fail
  refine SM.out.mono ?_
  rintro e W3 ⟨rfl, b3⟩
  have g3 := up.out _ _ g2.out b3
  have o3 : OwnT W3 W0.heap.size (.slice a2 tl c2) S.ts := own_blocks o2.out (fun j hj => b3.block j (own_lt o2.out j hj).2)
  obtain ⟨n3, hn3⟩ : ∃ n, n = W0.heap.size := ⟨_, rfl⟩
  rw [← hn3] at o3
  have GG : Hid (∀ W, Below n3 W3 W → G W) := fun W h => BG.out W (by have h1 := GB.out W3 g3; rw [← hn3] at h1 ⊢; exact h1.trans h)
  have n3le : Hid (n3 ≤ W3.heap.size) := by show _ ≤ _; rw [hn3]; exact GE.out W3 g3
  have PAD : Hid (0 < tl → ∃ b, a2 = some ⟨b, 0, none⟩ ∧ tl ≤ c2 ∧ n3 ≤ b ∧ Pad W3 b 111 (tl * 3)) := fun h0 => by
    have o3' := o3
    unfold OwnT at o3'
    rw [hTL.out] at o3'
    exact own_pad o3' h0 (by rw [tcs_len, hTL.out])
  have hNb : tl ≤ 2199023255552 := by first | exact htl.out | (have := hEL.out; rw [ents_len, hwf.out.gd.len] at this; have := hwf.out.cap; omega)
  replace g3 := hid g3
  replace hn3 := hid hn3
  clear o3 b3 SM z1 o2
  go_wp2_with fail
  go_loopw [14] (fun iv wr => ∃ (m : Nat), m ≤ tl ∧ iv = .int .i64 (m : Int) ∧ Hid (∀ b, a2 = some ⟨b, 0, none⟩ → n3 ≤ b → Pad W3 b 111 (tl * 3) → Pad wr b 111 (tl * 3)) ∧ Hid (Below n3 W3 wr))
    (fun iv _ => tl - (intOf iv).toNat)
  case atStart => exact ⟨0, Nat.zero_le _, rfl, fun b _ _ h => h, Below.refl _ _⟩
  case round =>
    obtain ⟨m, hm, rfl, HP0, HB⟩ := hrel
    by_cases hlt : m < tl
    · have m1 : (m : Int) < (tl : Int) := by omega
      obtain ⟨b, rfl, hcap, hbb, hpd⟩ := PAD.out (by omega)
      have HP := hid (HP0.out b rfl hbb hpd)
      have hmc : m * 3 + 3 ≤ tl * 3 := by
        have := Nat.mul_le_mul_right 3 (show m + 1 ≤ tl by omega)
        omega
      obtain ⟨c0, hc0⟩ := HP.out.cell (m * 3) (by omega)
      have f0 := HP.out.fz (m * 3)
      obtain ⟨c1, hc1⟩ := HP.out.cell (m * 3 + 1) (by omega)
      have f1 := HP.out.fz (m * 3 + 1)
      obtain ⟨c2, hc2⟩ := HP.out.cell (m * 3 + 2) (by omega)
      have f2 := HP.out.fz (m * 3 + 2)
      have NP : Hid (∀ b', (some (⟨b, 0, none⟩ : Addr)) = some ⟨b', 0, none⟩ → n3 ≤ b' → Pad W3 b' 111 (tl * 3) → Pad (((wr.setCell ⟨b, m * 3, none⟩ (.string ⟨#[115, 112, 111, 105, 108, 116]⟩)).setCell ⟨b, m * 3 + 1, none⟩ (.string ⟨#[]⟩)).setCell ⟨b, m * 3 + 2, none⟩ (.int .u64 0)) b' 111 (tl * 3)) := fun b' hb' _ _ => by
        cases hb'
        exact (((HP.out.set (m * 3) (.string ⟨#[115, 112, 111, 105, 108, 116]⟩)).set (m * 3 + 1) (.string ⟨#[]⟩)).set (m * 3 + 2) (.int .u64 0))
      have NB : Hid (Below n3 W3 (((wr.setCell ⟨b, m * 3, none⟩ (.string ⟨#[115, 112, 111, 105, 108, 116]⟩)).setCell ⟨b, m * 3 + 1, none⟩ (.string ⟨#[]⟩)).setCell ⟨b, m * 3 + 2, none⟩ (.int .u64 0))) := (((HB.out.setCell (p := ⟨b, m * 3, none⟩) hbb (.string ⟨#[115, 112, 111, 105, 108, 116]⟩)).setCell (p := ⟨b, m * 3 + 1, none⟩) hbb (.string ⟨#[]⟩)).setCell (p := ⟨b, m * 3 + 2, none⟩) hbb (.int .u64 0))
      replace hmc := hid hmc
      replace hpd := hid hpd
      clear HP0 HP HB
      go_wp2_with fail
      refine ⟨⟨m + 1, by omega, by first | rfl | go_num, NP, NB⟩, ?_⟩
      simp only [intOf]; omega
    · have ik : ¬ (m : Int) < (tl : Int) := by omega
      have HBD : Hid (Below n3 W3 wr.drew) := HB.out.drew
      clear HP0
      go_wp2_with fail
      refine wp_region_held_drew (S := fun W => Below n3 W3 W) (by kernel_rfl) (HBD.out) (fun hS => ?_)
      generalize World.drew wr = x0 at *
      refine wpAnyH_take (i := 0) (v := ?v5) rfl (by kernel_rfl) (by kernel_rfl) (by kernel_rfl) (fun _ _ _ h => h) (Or.inl ⟨by rfl, ?h5⟩) hS ?_
      case h5 => (intro W hW; go_simp; try (with_reducible rfl))
      go_simp
      refine wpAnyH_take (i := 2) (v := ?v6) rfl (by kernel_rfl) (by kernel_rfl) (by kernel_rfl) (fun _ _ _ h => h) (Or.inl ⟨by rfl, ?h6⟩) hS ?_
      case h6 => (intro W hW; go_simp; try (with_reducible rfl))
      go_simp
      refine wpAnyH_take (i := 3) (v := ?v7) rfl (by kernel_rfl) (by kernel_rfl) (by kernel_rfl) (fun _ _ _ h => h) (Or.inl ⟨by rfl, ?h7⟩) hS ?_
      case h7 => (intro W hW; have z1 := cell_of (BX.out W (GG.out W hW)).1 2 (.slice ta tl tc) rfl; go_simp; try (with_reducible rfl))
      go_simp
      refine wpAnyH_ready (rs := [1]) (by kernel_rfl) (by simp) ?_
      refine AllReadyH.cons rfl (fun K hK => ?_) ?_
      · go_simp
        refine (ROW.out _ (GG.out _ hS)).mono ?_
        rintro e x1 ⟨a3, c3, rfl, o3, b3⟩
        have hx0 := GG.out _ hS
        refine hK.out _ _ (hS.trans (b3.mono (Nat.le_trans n3le.out hS.size))) (fun hS => ?_)
        clear hK K
        have HSm := hid (SAME.out _ x1 a3 c3 hx0 o3 b3)
        clear o3 b3 hx0
        refine wpAnyH_ready (rs := [4]) (by kernel_rfl) (by simp) ?_
        refine AllReadyH.cons rfl (fun K hK => ?_) ?_
        · go_simp
          refine HSm.out.mono ?_
          rintro e x2 ⟨rfl, b4⟩
          refine hK.out _ _ (hS.trans (b4.mono (Nat.le_trans n3le.out hS.size))) (fun hS => ?_)
          clear hK K b4 HSm
          refine wpAnyH_take (i := 5) (v := ?v8) rfl (by kernel_rfl) (by kernel_rfl) (by kernel_rfl) (fun _ _ _ h => h) (Or.inl ⟨by rfl, ?h8⟩) hS ?_
          case h8 => (intro W hW; go_simp; try (with_reducible rfl))
          go_simp
          refine wpAnyH_done (by kernel_rfl) ?_ _
          have BF := hid (FIN.out _ (GG.out _ hS))
          clear hS
          go_wp2_with fail
          go_ret
          exact ⟨by first | rfl | simp, BF.out⟩
        exact AllReadyH.nil
      exact AllReadyH.nil
set_option maxHeartbeats 8000000 in
set_option maxRecDepth 100000 in
theorem asked_4 (base g : Nat) (P : Nat → Prop) (S : St) (ea ta : Option Addr) (el ec tl tc : Nat) (log len sz lo hi : Int) (dn : Bool) (kd ht q c : Int) (k v : ByteArray) (w : World) (H : Two w base g P S ea el ec ta tl tc) (hk : k.size ≤ maxLen) (htl : tl ≤ 2199023255552) (e1 : log = S.log) (e2 : len = (S.ns.length : Int) + S.ts.length) (e3 : sz = S.sz) (e4 : lo = S.lo) (e5 : hi = S.hi) (hK : kd % 5 = 4) :
    Calls Try.prog 12 #[.pointer (some ⟨g, 0, none⟩), .agg #[.int .i64 log, .slice ea el ec, .slice ta tl tc, .int .i64 len, .int .i64 sz, .int .u64 lo, .int .u64 hi, .bool dn], .agg #[.int .i64 kd, .int .i64 ht, .int .u64 q, .int .i64 c, .string k, .string v]] w fun e w' => e = .returned (.bool true) ∧ Below w.heap.size w w' := by
  obtain ⟨g4, hg4⟩ : ∃ n, n = w.heap.size := ⟨_, rfl⟩
  obtain ⟨g5, hg5⟩ : ∃ n, g4 + 1 = n := ⟨_, rfl⟩
  obtain ⟨W0, hW0⟩ : ∃ W, W = (w.alloc (.cells #[.int .i64 log, .slice ea el ec, .slice ta tl tc, .int .i64 len, .int .i64 sz, .int .u64 lo, .int .u64 hi, .bool dn] 29)).alloc (.cells #[.int .i64 kd, .int .i64 ht, .int .u64 q, .int .i64 c, .string k, .string v] 34) := ⟨_, rfl⟩
  have b0 := box_below w (.cells #[.int .i64 log, .slice ea el ec, .slice ta tl tc, .int .i64 len, .int .i64 sz, .int .u64 lo, .int .u64 hi, .bool dn] 29)
  have k0 := new_at w (.cells #[.int .i64 log, .slice ea el ec, .slice ta tl tc, .int .i64 len, .int .i64 sz, .int .u64 lo, .int .u64 hi, .bool dn] 29)
  have s0 := size_alloc w (.cells #[.int .i64 log, .slice ea el ec, .slice ta tl tc, .int .i64 len, .int .i64 sz, .int .u64 lo, .int .u64 hi, .bool dn] 29)
  have B0 : Below w.heap.size w W0 := by rw [hW0]; exact b0.trans ((box_below _ _).mono (by omega))
  have K4 : W0.heap[g4]? = some (.cells #[.int .i64 log, .slice ea el ec, .slice ta tl tc, .int .i64 len, .int .i64 sz, .int .u64 lo, .int .u64 hi, .bool dn] 29) := by rw [hW0, hg4]; exact ((box_below _ _).block _ (by omega)).trans k0
  have K5 : W0.heap[g5]? = some (.cells #[.int .i64 kd, .int .i64 ht, .int .u64 q, .int .i64 c, .string k, .string v] 34) := by rw [hW0, ← hg5, hg4, ← s0]; exact new_at _ _
  obtain ⟨G, hG⟩ : ∃ G : World → Prop, G = fun W => Below W0.heap.size W0 W := ⟨_, rfl⟩
  have gW : Hid (G W0) := by show G W0; rw [hG]; exact Below.refl _ _
  have up : Hid (∀ W W', G W → Below W.heap.size W W' → G W') := fun W W' h b => by rw [hG] at h ⊢; exact Below.trans h (b.mono h.size)
  have TW : Hid (∀ W, G W → Two W base g P S ea el ec ta tl tc) := fun W h => by rw [hG] at h; exact (H.later B0).later h
  have BX : Hid (∀ W, G W → W.heap[g4]? = some (.cells #[.int .i64 log, .slice ea el ec, .slice ta tl tc, .int .i64 len, .int .i64 sz, .int .u64 lo, .int .u64 hi, .bool dn] 29) ∧ W.heap[g5]? = some (.cells #[.int .i64 kd, .int .i64 ht, .int .u64 q, .int .i64 c, .string k, .string v] 34)) := fun W h => by rw [hG] at h; exact ⟨(h.block g4 (blk_lt K4)).trans K4, (h.block g5 (blk_lt K5)).trans K5⟩
  have FIN : Hid (∀ W, G W → Below w.heap.size w W) := fun W h => by rw [hG] at h; exact B0.trans (Below.mono h B0.size)
  have GE : Hid (∀ W, G W → W0.heap.size ≤ W.heap.size) := fun W h => by rw [hG] at h; exact h.size
  have BG : Hid (∀ W, Below W0.heap.size W0 W → G W) := fun W h => by rw [hG]; exact h
  have GB : Hid (∀ W, G W → Below W0.heap.size W0 W) := fun W h => by rw [hG] at h; exact h
  have HAm := among_any kd 5 W0 (by omega)
  rw [show ((5 : Nat) : Int) = 5 from rfl, hK] at HAm
  have hts : Hid (S.ts.length ≤ 2199023255552) := by show _ ≤ _; rw [H.b.tl]; exact htl
  have hwf := hid H.a.wf
  have hTL := hid H.b.tl
  have hEL := hid H.b.el
  have x50 := cell_of K5 0 (.int .i64 kd) rfl
  rw [hW0] at x50
  replace HAm := hid HAm
  replace hW0 := hid hW0
  replace hg4 := hid hg4
  replace hg5 := hid hg5
  replace hG := hid hG
  replace hk := hid hk
  replace e1 := hid e1
  replace e2 := hid e2
  replace e3 := hid e3
  replace e4 := hid e4
  replace e5 := hid e5
  replace htl := hid htl
  have x50' : W0.cell? ⟨g5, 0, none⟩ = some (.int .i64 kd) := cell_of K5 0 (.int .i64 kd) rfl
  have hgg : w.heap.size + 1 = g5 := by rw [← hg4.out]; exact hg5.out
  rw [← hgg] at x50
  clear b0 k0 s0 B0 K4 K5 H hK
  go_enter Try.func12, Try.ntmps12
  go_wp2_with fail
  rw [← hW0.out, ← hg4.out]
  try rw [hg5.out]
  refine HAm.out.mono ?_
  rintro e w1 ⟨rfl, hw1⟩
  replace hw1 := hw1.symm
  subst hw1
  clear HAm x50 x50' hgg
  have SP : Hid (Calls Try.prog 26 #[.pointer (some ⟨g, 0, none⟩)] W0 fun e w' => e = .returned (.tuple #[.int .u64 lo, .int .u64 hi]) ∧ Below W0.heap.size W0 w') := by
    obtain ⟨gl, bl, gs, bm, vt, X⟩ := (TW.out W0 gW.out).a
    rw [e4.out, e5.out]
    exact span_any g gl gs bm S W0 X.c
  go_wp2_with fail
  refine SP.out.mono ?_
  rintro e w2 ⟨rfl, b2⟩
  have g2 := up.out _ _ gW.out b2
  have LG : Hid (∀ d os, Calls Try.prog 29 #[.pointer (some ⟨g, 0, none⟩)] (grow (redrawn w2 d) os) fun e w' => e = .returned (.int .i64 log) ∧ Below (grow (redrawn w2 d) os).heap.size (grow (redrawn w2 d) os) w') := fun d os => by
    obtain ⟨gl, bl, gs, bm, vt, X⟩ := (TW.out _ (up.out _ _ g2 (below_regrown w2 d os))).a
    rw [e1.out]
    exact (log_any g gl gs bm S _ X.c).mono fun _ _ h => ⟨h.1, by rw [h.2]; exact Below.refl _ _⟩
  have LN : Hid (∀ d os, Calls Try.prog 30 #[.pointer (some ⟨g, 0, none⟩)] (grow (redrawn w2 d) os) fun e w' => e = .returned (.int .i64 len) ∧ Below (grow (redrawn w2 d) os).heap.size (grow (redrawn w2 d) os) w') := fun d os => by
    rw [e2.out]
    exact len_any _ g _ S _ (TW.out _ (up.out _ _ g2 (below_regrown w2 d os))).a (by have := hts.out; omega)
  have SZ : Hid (∀ d os, Calls Try.prog 31 #[.pointer (some ⟨g, 0, none⟩)] (grow (redrawn w2 d) os) fun e w' => e = .returned (.int .i64 sz) ∧ Below (grow (redrawn w2 d) os).heap.size (grow (redrawn w2 d) os) w') := fun d os => by
    obtain ⟨gl, bl, gs, bm, vt, X⟩ := (TW.out _ (up.out _ _ g2 (below_regrown w2 d os))).a
    rw [e3.out]
    exact (size_any g gl gs bm S _ X.c).mono fun _ _ h => ⟨h.1, by rw [h.2]; exact Below.refl _ _⟩
  obtain ⟨kx, ky⟩ := BX.out w2 g2
  have d0 := fun d os => cell_regrown (cell_of kx 0 (.int .i64 log) rfl) d os
  have d3 := fun d os => cell_regrown (cell_of kx 3 (.int .i64 len) rfl) d os
  have d4 := fun d os => cell_regrown (cell_of kx 4 (.int .i64 sz) rfl) d os
  have d5 := fun d os => cell_regrown (cell_of kx 5 (.int .u64 lo) rfl) d os
  have d6 := fun d os => cell_regrown (cell_of kx 6 (.int .u64 hi) rfl) d os
  have r1 : (log == log) = true := beq_self_eq_true _
  have r2 : (len == len) = true := beq_self_eq_true _
  have r3 : (sz == sz) = true := beq_self_eq_true _
  have r4 : (lo == lo) = true := beq_self_eq_true _
  have r5 : (hi == hi) = true := beq_self_eq_true _
  replace g2 := hid g2
  clear kx ky b2 SP
  go_wp2_with fail
  refine wp_region_quiet_below (by kernel_rfl) (by kernel_rfl) ?_
  repeat (first | go_big_quiet_step (first | (go_at_call 29; exact Calls.regrown_of (LG.out _ _)) | (go_at_call 30; exact Calls.regrown_of (LN.out _ _)) | (go_at_call 31; exact Calls.regrown_of (SZ.out _ _))) | quiet_step (first | (go_at_call 29; exact Calls.regrown_of (LG.out _ _)) | (go_at_call 30; exact Calls.regrown_of (LN.out _ _)) | (go_at_call 31; exact Calls.regrown_of (SZ.out _ _))))
  refine wpQuiet_nil ?_
  intro w8 hw8
  have BF : Hid (Below w.heap.size w w8) := by
    obtain ⟨⟨dq, osq⟩, hw''⟩ := hw8
    rw [hw'']
    exact FIN.out _ (up.out _ _ g2.out (below_regrown _ dq osq))
  clear hw8 d0 d3 d4 d5 d6 LG LN SZ
  go_wp2_with fail
  go_ret
  exact ⟨by first | rfl | simp, BF.out⟩
theorem asked_any (base g : Nat) (P : Nat → Prop) (S : St) (ea ta : Option Addr) (el ec tl tc : Nat) (kd ht q c : Int) (k v : ByteArray) (w : World) (H : Two w base g P S ea el ec ta tl tc) (hk : k.size ≤ maxLen) (htl : tl ≤ 2199023255552) :
    Calls Try.prog 12 #[.pointer (some ⟨g, 0, none⟩), .agg #[.int .i64 S.log, .slice ea el ec, .slice ta tl tc, .int .i64 ((S.ns.length : Int) + S.ts.length), .int .i64 S.sz, .int .u64 S.lo, .int .u64 S.hi, .bool S.dn], .agg #[.int .i64 kd, .int .i64 ht, .int .u64 q, .int .i64 c, .string k, .string v]] w fun e w' => e = .returned (.bool true) ∧ Below w.heap.size w w' := by
  have h1 := Int.emod_nonneg kd (show (5 : Int) ≠ 0 by decide)
  have h2 := Int.emod_lt_of_pos kd (show (0 : Int) < 5 by decide)
  have h3 : kd % 5 = 0 ∨ kd % 5 = 1 ∨ kd % 5 = 2 ∨ kd % 5 = 3 ∨ kd % 5 = 4 := by omega
  rcases h3 with h | h | h | h | h
  · exact asked_0 base g P S ea ta el ec tl tc _ _ _ _ _ _ kd ht q c k v w H hk htl rfl rfl rfl rfl rfl h
  · exact asked_1 base g P S ea ta el ec tl tc _ _ _ _ _ _ kd ht q c k v w H hk htl rfl rfl rfl rfl rfl h
  · exact asked_2 base g P S ea ta el ec tl tc _ _ _ _ _ _ kd ht q c k v w H hk htl rfl rfl rfl rfl rfl h
  · exact asked_3 base g P S ea ta el ec tl tc _ _ _ _ _ _ kd ht q c k v w H hk htl rfl rfl rfl rfl rfl h
  · exact asked_4 base g P S ea ta el ec tl tc _ _ _ _ _ _ kd ht q c k v w H hk htl rfl rfl rfl rfl rfl h
end Go.Proofs.Ytefihoohdaegeaa.Dj

/- The document's Table.Add of an entry. -/
import Derived.Test.YtefihoohdaegeaaDp
namespace Go.Proofs.Ytefihoohdaegeaa.De
open Go.ChangeShapes Go.WideShapes Go.ChangeAt Go.RowKit Go.Shelf
open Go.Sort (grow)
open Go.Proofs.Ytefihoohdaegeaa.Lx (hid lt)
open Go.Proofs.Ytefihoohdaegeaa.Ik
open Go.Proofs.Ytefihoohdaegeaa.Cm
open Go.Proofs.Ytefihoohdaegeaa.Ck
open Go.Proofs.Ytefihoohdaegeaa.Da
open Go.Proofs.Ytefihoohdaegeaa.Db
open Go.Proofs.Ytefihoohdaegeaa.Dp
open Go.Proofs.Ytefihoohdaegeaa.Ee (E ze Ents At4)
open Go.Proofs.Ytefihoohdaegeaa.Eo
open Go.Proofs.Ytefihoohdaegeaa.Fm (own_lt own_blocks)
open Go.Proofs.Ytefihoohdaegeaa.Mm (box_below)
open Go.Proofs.Ytefihoohdaegeaa.Tr (new_at cell_of size_alloc blk_lt fz_of set_of set_ne)
set_option linter.unusedVariables false
set_option linter.unusedSimpArgs false

/-- The boxes of Add, and the entry's. -/
structure Mk (w W : World) (g be : Nat) (A O X : Array Value) : Prop where
  m : Mi w W g A O
  e : W.heap[be]? = some (.cells X 56)
  l : g + 3 ≤ be
theorem Mk.later {w W W' : World} {g be : Nat} {A O X : Array Value} (h : Mk w W g be A O X) (b : Below W.heap.size W W') : Mk w W' g be A O X := ⟨h.m.later b, (b.block _ (blk_lt h.e)).trans h.e, h.l⟩
theorem Mk.grown {w W W' : World} {g be : Nat} {A O X : Array Value} {row : Option Nat} (h : Mk w W g be A O X) (b : W.grownBy W' row) (hr : ∀ j, row = some j → be < j) : Mk w W' g be A O X :=
  ⟨h.m.grown b (fun j e => by have := hr j e; have := h.l; omega), (b.block _ (blk_lt h.e) (fun e => by have := hr _ e.symm; omega)).trans h.e, h.l⟩
theorem there_at {es : List E} {K : IK} (hs : es.Pairwise (fun a b => cmp a.ik b.ik < 0)) (h : ∃ x ∈ es, x.ik = K) : plc es K < es.length ∧ (es.getD (plc es K) ze).ik = K := by
  obtain ⟨x, hx, hk⟩ := h
  obtain ⟨i, hi, e⟩ := List.getElem_of_mem hx
  have hnb : ¬ i < plc es K := fun hlt => by
    have := (plc_iff hs K i x (by rw [List.getElem?_eq_getElem hi, e])).2 hlt
    rw [hk] at this
    exact Sg.cmp_lt_irrefl _ this
  have hle : plc es K < es.length := by omega
  refine ⟨hle, ?_⟩
  have hP : es[plc es K]? = some (es.getD (plc es K) ze) := by rw [List.getD_eq_getElem?_getD, List.getElem?_eq_getElem hle]; rfl
  have hn : ¬ cmp (es.getD (plc es K) ze).ik K < 0 := fun hc => by
    have := (plc_iff hs K _ _ hP).1 hc
    omega
  by_cases hip : i = plc es K
  · rw [← hip, List.getD_eq_getElem?_getD, List.getElem?_eq_getElem hi, e]; exact hk
  · exfalso
    have hlt : plc es K < i := by omega
    have hr := List.pairwise_iff_getElem.1 hs (plc es K) i hle hi hlt
    rw [e, hk] at hr
    apply hn
    rw [List.getD_eq_getElem?_getD, List.getElem?_eq_getElem hle]
    exact hr
set_option maxHeartbeats 8000000 in
set_option maxRecDepth 100000 in
theorem radd_ethere (log : Int) (ea ta : Option Addr) (el ec tl tc : Nat) (len sz lo hi : Int) (q c : Int) (k v : ByteArray) (h : Int) (base : Nat) (es : List E) (w : World) (hk : k.size ≤ maxLen) (hv : v.size ≤ maxLen) (hq0 : ¬ q < 1) (hq : ¬ 72057594037927935 < q) (hc2 : c ≠ 2) (hm : may c k v = true) (hh0 : ¬ h < 1) (hh : ¬ 12 < h) (HE : OwnE w base (.slice ea el ec) es) (hel : es.length = el) (hl : el ≤ 1048576) (hok : ∀ x ∈ es, x.ok) (hs : es.Pairwise (fun a b => cmp a.ik b.ik < 0)) (hlen : 0 ≤ len ∧ len ≤ 4000000000000000000) (hsz : 0 ≤ sz ∧ sz ≤ 4000000000000000000) (hth : ∃ x ∈ es, x.ik = ik k q c) :
    Calls Try.prog 14 #[.agg #[.int .i64 log, .slice ea el ec, .slice ta tl tc, .int .i64 len, .int .i64 sz, .int .u64 lo, .int .u64 hi, .bool false], .int .u64 q, .agg #[.int .i64 c, .string k, .string v], .int .i64 h] w fun e w' => e = .returned (.tuple #[.agg #[.int .i64 log, .slice ea el ec, .slice ta tl tc, .int .i64 len, .int .i64 sz, .int .u64 lo, .int .u64 hi, .bool false], .int .i64 81]) ∧ Below w.heap.size w w' := by
  have hth' : plc es (ik k q c) < es.length ∧ (es.getD (plc es (ik k q c)) ze).ik = ik k q c := there_at hs hth
  rw [hel] at hth'
  have M0 := Mi.start w #[.int .i64 log, .slice ea el ec, .slice ta tl tc, .int .i64 len, .int .i64 sz, .int .u64 lo, .int .u64 hi, .bool false] #[.int .i64 c, .string k, .string v]
  obtain ⟨g, hg⟩ : ∃ n, n = w.heap.size := ⟨_, rfl⟩
  obtain ⟨W0, hW0⟩ : ∃ W, W = ((w.alloc (.cells #[.int .i64 log, .slice ea el ec, .slice ta tl tc, .int .i64 len, .int .i64 sz, .int .u64 lo, .int .u64 hi, .bool false] 29)).alloc (.cells #[.int .i64 c, .string k, .string v] 32)).alloc (.cells #[.int .i64 0, .slice none 0 0, .slice none 0 0, .int .i64 0, .int .i64 0, .int .u64 0, .int .u64 0, .bool false] 29) := ⟨_, rfl⟩
  rw [← hW0, ← hg] at M0
  have HM := hid (rmay_any c k v W0 hk hv)
  rw [hm] at HM
  obtain ⟨go, hgo⟩ : ∃ n, g + 1 = n := ⟨_, rfl⟩
  obtain ⟨gr, hgr⟩ : ∃ n, go + 1 = n := ⟨_, rfl⟩
  have hks : Hid (k.size ≤ 1000000 ∧ v.size ≤ 1000000) := by
    have := Ad.may_sizes hm
    show _ ∧ _
    omega
  have OO : Hid (∀ W, Below g w W → OwnE W base (.slice ea el ec) es) := fun W hb => OwnE.later HE (by rw [← hg]; exact hb)
  obtain ⟨P, hP⟩ : ∃ P, P = plc es (ik k q c) := ⟨_, rfl⟩
  have hpl : P ≤ el := by rw [hP, ← hel]; exact plc_le _ _
  have EE : Hid (∀ W, Below g w W → Ents W ea el ec es) := fun W hb => by
    obtain ⟨a', c', hv', x⟩ := (OO.out W hb).ents hok
    rw [hel] at hv' x
    cases hv'
    exact x
  have PL : Hid (∀ W, Below g w W → Calls Try.prog 55 #[.slice ea el ec, .agg #[.string k, .int .u64 q, .int .i64 c]] W fun e w' => e = .returned (.int .i64 (P : Int)) ∧ Below W.heap.size W w') := fun W hb => by
    rw [hP]; exact rplace_any ea el ec es k q c W (EE.out W hb) hl hs
  have KY : Hid (∀ k q c v W, Calls Try.prog 56 #[.agg #[.string k, .int .u64 q, .int .i64 c, .string v]] W fun e w' => e = .returned (.agg #[.string k, .int .u64 q, .int .i64 c]) ∧ Below W.heap.size W w') := fun k q c v W => rkey_any k q c v W
  have hc2' : (c == 2) = false := beq_eq_false_iff_ne.2 hc2
  replace M0 := hid M0
  replace hW0 := hid hW0
  replace hg := hid hg
  replace hgo := hid hgo
  replace hgr := hid hgr
  replace hok := hid hok
  replace hs := hid hs
  replace hel := hid hel
  replace HE := hid HE
  replace hP := hid hP
  replace hlen := hid hlen
  replace hsz := hid hsz
  replace hth' := hid hth'
  clear hth
  clear hm hk hv
  go_enter Try.func14, Try.ntmps14
  go_wp2_with fail
  rw [← hW0.out, ← hg.out, hgo.out, hgr.out]
  refine HM.out.mono ?_
  rintro e w1 ⟨rfl, b1⟩
  have M1 := M0.out.later b1
  have mo := M1.o
  rw [hgo.out] at mo
  have o0 := cell_of mo 0 (.int .i64 c) rfl
  have o1 := cell_of mo 1 (.string k) rfl
  have o2 := cell_of mo 2 (.string v) rfl
  obtain ⟨be, hbe⟩ : ∃ n, n = w1.heap.size := ⟨_, rfl⟩
  obtain ⟨w2, hw2⟩ : ∃ W, W = w1.alloc (.cells #[.string k, .int .u64 q, .int .i64 c, .string v] 56) := ⟨_, rfl⟩
  have M2 : Mk w w2 g be #[.int .i64 log, .slice ea el ec, .slice ta tl tc, .int .i64 len, .int .i64 sz, .int .u64 lo, .int .u64 hi, .bool false] #[.int .i64 c, .string k, .string v] #[.string k, .int .u64 q, .int .i64 c, .string v] := ⟨M1.later (by rw [hw2]; exact box_below _ _), by rw [hw2, hbe]; exact new_at _ _, by rw [hbe]; exact M1.s⟩
  have c1 := cell_of M2.m.t 1 (.slice ea el ec) rfl
  have e0 := cell_of M2.e 0 (.string k) rfl
  have e1 := cell_of M2.e 1 (.int .u64 q) rfl
  have e2 := cell_of M2.e 2 (.int .i64 c) rfl
  have e3 := cell_of M2.e 3 (.string v) rfl
  replace M1 := hid M1
  replace hbe := hid hbe
  replace hw2 := hid hw2
  clear mo b1 HM M0 hW0
  go_wp2_with fail
  rw [← hw2.out, ← hbe.out]
  clear o0 o1 o2 M1
  have d1 := fun d os => cell_regrown c1 d os
  have x0 := fun d os => cell_regrown e0 d os
  have x1 := fun d os => cell_regrown e1 d os
  have x2 := fun d os => cell_regrown e2 d os
  have x3 := fun d os => cell_regrown e3 d os
  have HP2 : Hid (∀ d os, Calls Try.prog 55 #[.slice ea el ec, .agg #[.string k, .int .u64 q, .int .i64 c]] (grow (redrawn w2 d) os) fun e w' => e = .returned (.int .i64 (P : Int)) ∧ Below (grow (redrawn w2 d) os).heap.size (grow (redrawn w2 d) os) w') := fun d os => PL.out _ (M2.m.b.trans ((below_regrown w2 d os).mono (by have := M2.m.s; omega)))
  replace M2 := hid M2
  clear c1 e0 e1 e2 e3
  refine wp_region_quiet_below (by kernel_rfl) (by kernel_rfl) ?_
  repeat (first | go_big_quiet_step (first | (go_at_call 56; exact Calls.regrown_of (KY.out _ _ _ _ _)) | (go_at_call 55; exact Calls.regrown_of (HP2.out _ _))) | quiet_step (first | (go_at_call 56; exact Calls.regrown_of (KY.out _ _ _ _ _)) | (go_at_call 55; exact Calls.regrown_of (HP2.out _ _))))
  refine wpQuiet_nil ?_
  intro w3 hw3
  have b3 : Below w2.heap.size w2 w3 := by
    obtain ⟨⟨dq, osq⟩, hw''⟩ := hw3
    rw [hw'']
    exact below_regrown _ dq osq
  have M3 := M2.out.later b3
  clear hw3 d1 x0 x1 x2 x3 HP2 M2 b3 hw2 hbe
  have c1 := cell_of M3.m.t 1 (.slice ea el ec) rfl
  have e0 := cell_of M3.e 0 (.string k) rfl
  have e1 := cell_of M3.e 1 (.int .u64 q) rfl
  have e2 := cell_of M3.e 2 (.int .i64 c) rfl
  have e3 := cell_of M3.e 3 (.string v) rfl
  have d1 := fun d os => cell_regrown c1 d os
  have x0 := fun d os => cell_regrown e0 d os
  have x1 := fun d os => cell_regrown e1 d os
  have x2 := fun d os => cell_regrown e2 d os
  have x3 := fun d os => cell_regrown e3 d os
  have EN3 := EE.out w3 M3.m.b
  clear c1 e0 e1 e2 e3
  have hlt : P < el := by rw [hP.out]; exact hth'.out.1
  obtain ⟨ad, rfl⟩ : ∃ ad, ea = some ad := by
    cases ea with
    | none => have := (EN3.2.2.1 rfl).1; omega
    | some ad => exact ⟨ad, rfl⟩
  obtain ⟨pb, po, psp⟩ := ad
  obtain ⟨hsp, hat⟩ := EN3.2.2.2.2 pb po psp rfl (by omega)
  subst hsp
  have hcp := EN3.2.1
  obtain ⟨p0, p1, p2, p3⟩ := hat P hlt
  obtain ⟨⟨yk, yq, yc, yv⟩, hy⟩ : ∃ y, y = es.getD P ze := ⟨_, rfl⟩
  rw [← hy] at p0 p1 p2 p3
  dsimp only at p0 p1 p2 p3
  have y0 := fun d os => cell_regrown p0 d os
  have y1 := fun d os => cell_regrown p1 d os
  have y2 := fun d os => cell_regrown p2 d os
  have y3 := fun d os => cell_regrown p3 d os
  have i1 : (P : Int) < (el : Int) := by omega
  have hyk : (⟨yk, yq, yc, yv⟩ : E).ik = ik k q c := by rw [hy, hP.out]; exact hth'.out.2
  have t1 : yk = k := Vl.data_inj (congrArg (·.1) hyk)
  have t2 : yq = q := congrArg (·.2.1) hyk
  have t3 : yc = c := congrArg (·.2.2) hyk
  subst t1 t2 t3
  replace hyk := hid hyk
  replace hy := hid hy
  replace EN3 := hid EN3
  replace M3 := hid M3
  clear p0 p1 p2 p3 hat
  go_wp2_with fail
  refine wp_region_quiet_below (by kernel_rfl) (by kernel_rfl) ?_
  repeat (first | go_big_quiet_step (first | (go_at_call 56; exact Calls.regrown_of (KY.out _ _ _ _ _))) | quiet_step (first | (go_at_call 56; exact Calls.regrown_of (KY.out _ _ _ _ _))))
  refine wpQuiet_nil ?_
  intro w4 hw4
  have b4 : Below w3.heap.size w3 w4 := by
    obtain ⟨⟨dq, osq⟩, hw''⟩ := hw4
    rw [hw'']
    exact below_regrown _ dq osq
  have M4 := M3.out.later b4
  clear hw4 b4 M3 d1 x0 x1 x2 x3
  clear y0 y1 y2 y3
  have mz := M4.m.z
  rw [show g + 2 = gr by have := hgo.out; have := hgr.out; omega] at mz
  have KF := put8_at mz (.int .i64 log) (.slice (some ⟨pb, po, none⟩) el ec) (.slice ta tl tc) (.int .i64 len) (.int .i64 sz) (.int .u64 lo) (.int .u64 hi) (.bool false)
  have BF := put8_below M4.m.b (g := gr) (by have := hgo.out; have := hgr.out; omega) (.int .i64 log) (.slice (some ⟨pb, po, none⟩) el ec) (.slice ta tl tc) (.int .i64 len) (.int .i64 sz) (.int .u64 lo) (.int .u64 hi) (.bool false)
  have u0 := cell_of M4.m.t 0 (.int .i64 log) rfl
  have u1 := cell_of M4.m.t 1 (.slice (some ⟨pb, po, none⟩) el ec) rfl
  have u2 := cell_of M4.m.t 2 (.slice ta tl tc) rfl
  have u3 := cell_of M4.m.t 3 (.int .i64 len) rfl
  have u4 := cell_of M4.m.t 4 (.int .i64 sz) rfl
  have u5 := cell_of M4.m.t 5 (.int .u64 lo) rfl
  have u6 := cell_of M4.m.t 6 (.int .u64 hi) rfl
  have u7 := cell_of M4.m.t 7 (.bool false) rfl
  have f0 := fz_of mz 0
  have f1 := fz_of mz 1
  have f2 := fz_of mz 2
  have f3 := fz_of mz 3
  have f4 := fz_of mz 4
  have f5 := fz_of mz 5
  have f6 := fz_of mz 6
  have f7 := fz_of mz 7
  have z0 := cell_of mz 0 (.int .i64 0) rfl
  have z1 := cell_of mz 1 (.slice none 0 0) rfl
  have z2 := cell_of mz 2 (.slice none 0 0) rfl
  have z3 := cell_of mz 3 (.int .i64 0) rfl
  have z4 := cell_of mz 4 (.int .i64 0) rfl
  have z5 := cell_of mz 5 (.int .u64 0) rfl
  have z6 := cell_of mz 6 (.int .u64 0) rfl
  have z7 := cell_of mz 7 (.bool false) rfl
  replace KF := hid KF
  replace BF := hid BF
  replace M4 := hid M4
  clear mz
  go_wp2_with fail
  have KG := KF.out
  have BG := BF.out
  unfold put8 at KG BG
  generalize hWG : ((((((((w4.setCell ⟨gr, 0, none⟩ (.int .i64 log)).setCell ⟨gr, 1, none⟩ (.slice (some ⟨pb, po, none⟩) el ec)).setCell ⟨gr, 2, none⟩ (.slice ta tl tc)).setCell ⟨gr, 3, none⟩ (.int .i64 len)).setCell ⟨gr, 4, none⟩ (.int .i64 sz)).setCell ⟨gr, 5, none⟩ (.int .u64 lo)).setCell ⟨gr, 6, none⟩ (.int .u64 hi)).setCell ⟨gr, 7, none⟩ (.bool false)) = WG at *
  have q0 := cell_of KG 0 (.int .i64 log) rfl
  have q1 := cell_of KG 1 (.slice (some ⟨pb, po, none⟩) el ec) rfl
  have q2 := cell_of KG 2 (.slice ta tl tc) rfl
  have q3 := cell_of KG 3 (.int .i64 len) rfl
  have q4 := cell_of KG 4 (.int .i64 sz) rfl
  have q5 := cell_of KG 5 (.int .u64 lo) rfl
  have q6 := cell_of KG 6 (.int .u64 hi) rfl
  have q7 := cell_of KG 7 (.bool false) rfl
  refine bodyPost_ret (v := .tuple #[.agg #[.int .i64 log, .slice (some ⟨pb, po, none⟩) el ec, .slice ta tl tc, .int .i64 len, .int .i64 sz, .int .u64 lo, .int .u64 hi, .bool false], .int .i64 81]) (by simp [results, Try.results14, go_sem, q0, q1, q2, q3, q4, q5, q6, q7]) rfl ⟨rfl, ?_⟩
  rw [← hg.out]
  exact BG
set_option maxHeartbeats 8000000 in
set_option maxRecDepth 100000 in
theorem radd_full (log : Int) (ea ta : Option Addr) (el ec tl tc : Nat) (len sz lo hi : Int) (q c : Int) (k v : ByteArray) (h : Int) (base : Nat) (es : List E) (w : World) (hk : k.size ≤ maxLen) (hv : v.size ≤ maxLen) (hq0 : ¬ q < 1) (hq : ¬ 72057594037927935 < q) (hc2 : c ≠ 2) (hm : may c k v = true) (hh0 : ¬ h < 1) (hh : ¬ 12 < h) (HE : OwnE w base (.slice ea el ec) es) (hel : es.length = el) (hl : el ≤ 1048576) (hok : ∀ x ∈ es, x.ok) (hs : es.Pairwise (fun a b => cmp a.ik b.ik < 0)) (hlen : 0 ≤ len ∧ len ≤ 4000000000000000000) (hsz : 0 ≤ sz ∧ sz ≤ 4000000000000000000) (hth : ¬ ∃ x ∈ es, x.ik = ik k q c) (hfu : el = 1048576) :
    Calls Try.prog 14 #[.agg #[.int .i64 log, .slice ea el ec, .slice ta tl tc, .int .i64 len, .int .i64 sz, .int .u64 lo, .int .u64 hi, .bool false], .int .u64 q, .agg #[.int .i64 c, .string k, .string v], .int .i64 h] w fun e w' => e = .returned (.tuple #[.agg #[.int .i64 log, .slice ea el ec, .slice ta tl tc, .int .i64 len, .int .i64 sz, .int .u64 lo, .int .u64 hi, .bool false], .int .i64 82]) ∧ Below w.heap.size w w' := by
  have M0 := Mi.start w #[.int .i64 log, .slice ea el ec, .slice ta tl tc, .int .i64 len, .int .i64 sz, .int .u64 lo, .int .u64 hi, .bool false] #[.int .i64 c, .string k, .string v]
  obtain ⟨g, hg⟩ : ∃ n, n = w.heap.size := ⟨_, rfl⟩
  obtain ⟨W0, hW0⟩ : ∃ W, W = ((w.alloc (.cells #[.int .i64 log, .slice ea el ec, .slice ta tl tc, .int .i64 len, .int .i64 sz, .int .u64 lo, .int .u64 hi, .bool false] 29)).alloc (.cells #[.int .i64 c, .string k, .string v] 32)).alloc (.cells #[.int .i64 0, .slice none 0 0, .slice none 0 0, .int .i64 0, .int .i64 0, .int .u64 0, .int .u64 0, .bool false] 29) := ⟨_, rfl⟩
  rw [← hW0, ← hg] at M0
  have HM := hid (rmay_any c k v W0 hk hv)
  rw [hm] at HM
  obtain ⟨go, hgo⟩ : ∃ n, g + 1 = n := ⟨_, rfl⟩
  obtain ⟨gr, hgr⟩ : ∃ n, go + 1 = n := ⟨_, rfl⟩
  have hks : Hid (k.size ≤ 1000000 ∧ v.size ≤ 1000000) := by
    have := Ad.may_sizes hm
    show _ ∧ _
    omega
  have OO : Hid (∀ W, Below g w W → OwnE W base (.slice ea el ec) es) := fun W hb => OwnE.later HE (by rw [← hg]; exact hb)
  obtain ⟨P, hP⟩ : ∃ P, P = plc es (ik k q c) := ⟨_, rfl⟩
  have hpl : P ≤ el := by rw [hP, ← hel]; exact plc_le _ _
  have EE : Hid (∀ W, Below g w W → Ents W ea el ec es) := fun W hb => by
    obtain ⟨a', c', hv', x⟩ := (OO.out W hb).ents hok
    rw [hel] at hv' x
    cases hv'
    exact x
  have PL : Hid (∀ W, Below g w W → Calls Try.prog 55 #[.slice ea el ec, .agg #[.string k, .int .u64 q, .int .i64 c]] W fun e w' => e = .returned (.int .i64 (P : Int)) ∧ Below W.heap.size W w') := fun W hb => by
    rw [hP]; exact rplace_any ea el ec es k q c W (EE.out W hb) hl hs
  have KY : Hid (∀ k q c v W, Calls Try.prog 56 #[.agg #[.string k, .int .u64 q, .int .i64 c, .string v]] W fun e w' => e = .returned (.agg #[.string k, .int .u64 q, .int .i64 c]) ∧ Below W.heap.size W w') := fun k q c v W => rkey_any k q c v W
  have hc2' : (c == 2) = false := beq_eq_false_iff_ne.2 hc2
  replace M0 := hid M0
  replace hW0 := hid hW0
  replace hg := hid hg
  replace hgo := hid hgo
  replace hgr := hid hgr
  replace hok := hid hok
  replace hs := hid hs
  replace hel := hid hel
  replace HE := hid HE
  replace hP := hid hP
  replace hlen := hid hlen
  replace hsz := hid hsz
  replace hth := hid hth
  replace hfu := hid hfu
  clear hm hk hv
  go_enter Try.func14, Try.ntmps14
  go_wp2_with fail
  rw [← hW0.out, ← hg.out, hgo.out, hgr.out]
  refine HM.out.mono ?_
  rintro e w1 ⟨rfl, b1⟩
  have M1 := M0.out.later b1
  have mo := M1.o
  rw [hgo.out] at mo
  have o0 := cell_of mo 0 (.int .i64 c) rfl
  have o1 := cell_of mo 1 (.string k) rfl
  have o2 := cell_of mo 2 (.string v) rfl
  obtain ⟨be, hbe⟩ : ∃ n, n = w1.heap.size := ⟨_, rfl⟩
  obtain ⟨w2, hw2⟩ : ∃ W, W = w1.alloc (.cells #[.string k, .int .u64 q, .int .i64 c, .string v] 56) := ⟨_, rfl⟩
  have M2 : Mk w w2 g be #[.int .i64 log, .slice ea el ec, .slice ta tl tc, .int .i64 len, .int .i64 sz, .int .u64 lo, .int .u64 hi, .bool false] #[.int .i64 c, .string k, .string v] #[.string k, .int .u64 q, .int .i64 c, .string v] := ⟨M1.later (by rw [hw2]; exact box_below _ _), by rw [hw2, hbe]; exact new_at _ _, by rw [hbe]; exact M1.s⟩
  have c1 := cell_of M2.m.t 1 (.slice ea el ec) rfl
  have e0 := cell_of M2.e 0 (.string k) rfl
  have e1 := cell_of M2.e 1 (.int .u64 q) rfl
  have e2 := cell_of M2.e 2 (.int .i64 c) rfl
  have e3 := cell_of M2.e 3 (.string v) rfl
  replace M1 := hid M1
  replace hbe := hid hbe
  replace hw2 := hid hw2
  clear mo b1 HM M0 hW0
  go_wp2_with fail
  rw [← hw2.out, ← hbe.out]
  clear o0 o1 o2 M1
  have d1 := fun d os => cell_regrown c1 d os
  have x0 := fun d os => cell_regrown e0 d os
  have x1 := fun d os => cell_regrown e1 d os
  have x2 := fun d os => cell_regrown e2 d os
  have x3 := fun d os => cell_regrown e3 d os
  have HP2 : Hid (∀ d os, Calls Try.prog 55 #[.slice ea el ec, .agg #[.string k, .int .u64 q, .int .i64 c]] (grow (redrawn w2 d) os) fun e w' => e = .returned (.int .i64 (P : Int)) ∧ Below (grow (redrawn w2 d) os).heap.size (grow (redrawn w2 d) os) w') := fun d os => PL.out _ (M2.m.b.trans ((below_regrown w2 d os).mono (by have := M2.m.s; omega)))
  replace M2 := hid M2
  clear c1 e0 e1 e2 e3
  refine wp_region_quiet_below (by kernel_rfl) (by kernel_rfl) ?_
  repeat (first | go_big_quiet_step (first | (go_at_call 56; exact Calls.regrown_of (KY.out _ _ _ _ _)) | (go_at_call 55; exact Calls.regrown_of (HP2.out _ _))) | quiet_step (first | (go_at_call 56; exact Calls.regrown_of (KY.out _ _ _ _ _)) | (go_at_call 55; exact Calls.regrown_of (HP2.out _ _))))
  refine wpQuiet_nil ?_
  intro w3 hw3
  have b3 : Below w2.heap.size w2 w3 := by
    obtain ⟨⟨dq, osq⟩, hw''⟩ := hw3
    rw [hw'']
    exact below_regrown _ dq osq
  have M3 := M2.out.later b3
  clear hw3 d1 x0 x1 x2 x3 HP2 M2 b3 hw2 hbe
  have c1 := cell_of M3.m.t 1 (.slice ea el ec) rfl
  have e0 := cell_of M3.e 0 (.string k) rfl
  have e1 := cell_of M3.e 1 (.int .u64 q) rfl
  have e2 := cell_of M3.e 2 (.int .i64 c) rfl
  have e3 := cell_of M3.e 3 (.string v) rfl
  have d1 := fun d os => cell_regrown c1 d os
  have x0 := fun d os => cell_regrown e0 d os
  have x1 := fun d os => cell_regrown e1 d os
  have x2 := fun d os => cell_regrown e2 d os
  have x3 := fun d os => cell_regrown e3 d os
  have EN3 := EE.out w3 M3.m.b
  clear c1 e0 e1 e2 e3
  by_cases hlt : P < el
  · obtain ⟨ad, rfl⟩ : ∃ ad, ea = some ad := by
      cases ea with
      | none => have := (EN3.2.2.1 rfl).1; omega
      | some ad => exact ⟨ad, rfl⟩
    obtain ⟨pb, po, psp⟩ := ad
    obtain ⟨hsp, hat⟩ := EN3.2.2.2.2 pb po psp rfl (by omega)
    subst hsp
    have hcp := EN3.2.1
    obtain ⟨p0, p1, p2, p3⟩ := hat P hlt
    obtain ⟨⟨yk, yq, yc, yv⟩, hy⟩ : ∃ y, y = es.getD P ze := ⟨_, rfl⟩
    rw [← hy] at p0 p1 p2 p3
    dsimp only at p0 p1 p2 p3
    have y0 := fun d os => cell_regrown p0 d os
    have y1 := fun d os => cell_regrown p1 d os
    have y2 := fun d os => cell_regrown p2 d os
    have y3 := fun d os => cell_regrown p3 d os
    have i1 : (P : Int) < (el : Int) := by omega
    have hN3 : (yk.toList == k.toList) = false ∨ ((yk.toList == k.toList) = true ∧ (yq == q) = false) ∨ ((yk.toList == k.toList) = true ∧ (yq == q) = true ∧ (yc == c) = false) := by
      cases h1 : (yk.toList == k.toList) with
      | false => exact .inl rfl
      | true =>
        cases h2 : (yq == q) with
        | false => exact .inr (.inl ⟨rfl, rfl⟩)
        | true =>
          cases h3 : (yc == c) with
          | false => exact .inr (.inr ⟨rfl, rfl, rfl⟩)
          | true =>
            simp only [beq_iff_eq] at h1 h2 h3
            exact absurd ⟨⟨yk, yq, yc, yv⟩, by rw [hy, List.getD_eq_getElem?_getD, List.getElem?_eq_getElem (by have := hel.out; omega)]; exact List.getElem_mem _, by
              show (yk.data.toList, yq, yc) = (k.data.toList, q, c)
              rw [toList_inj h1, h2, h3]⟩ hth.out
    replace hy := hid hy
    replace EN3 := hid EN3
    replace M3 := hid M3
    clear p0 p1 p2 p3 hat
    rcases hN3 with t1 | ⟨t1, t2⟩ | ⟨t1, t2, t3⟩
    · go_wp2_with fail
      refine wp_region_quiet_below (by kernel_rfl) (by kernel_rfl) ?_
      repeat (first | go_big_quiet_step (first | (go_at_call 56; exact Calls.regrown_of (KY.out _ _ _ _ _))) | quiet_step (first | (go_at_call 56; exact Calls.regrown_of (KY.out _ _ _ _ _))))
      refine wpQuiet_nil ?_
      intro w4 hw4
      have b4 : Below w3.heap.size w3 w4 := by
        obtain ⟨⟨dq, osq⟩, hw''⟩ := hw4
        rw [hw'']
        exact below_regrown _ dq osq
      have M4 := M3.out.later b4
      clear hw4 b4 M3 d1 x0 x1 x2 x3
      clear y0 y1 y2 y3
      clear t1
      have hge : (1048576 : Int) ≤ (el : Int) := by have := hfu.out; omega
      have u11 := cell_of M4.m.t 1 (.slice (some ⟨pb, po, none⟩) el ec) rfl
      have mz := M4.m.z
      rw [show g + 2 = gr by have := hgo.out; have := hgr.out; omega] at mz
      have KF := put8_at mz (.int .i64 log) (.slice (some ⟨pb, po, none⟩) el ec) (.slice ta tl tc) (.int .i64 len) (.int .i64 sz) (.int .u64 lo) (.int .u64 hi) (.bool false)
      have BF := put8_below M4.m.b (g := gr) (by have := hgo.out; have := hgr.out; omega) (.int .i64 log) (.slice (some ⟨pb, po, none⟩) el ec) (.slice ta tl tc) (.int .i64 len) (.int .i64 sz) (.int .u64 lo) (.int .u64 hi) (.bool false)
      have u0 := cell_of M4.m.t 0 (.int .i64 log) rfl
      have u1 := cell_of M4.m.t 1 (.slice (some ⟨pb, po, none⟩) el ec) rfl
      have u2 := cell_of M4.m.t 2 (.slice ta tl tc) rfl
      have u3 := cell_of M4.m.t 3 (.int .i64 len) rfl
      have u4 := cell_of M4.m.t 4 (.int .i64 sz) rfl
      have u5 := cell_of M4.m.t 5 (.int .u64 lo) rfl
      have u6 := cell_of M4.m.t 6 (.int .u64 hi) rfl
      have u7 := cell_of M4.m.t 7 (.bool false) rfl
      have f0 := fz_of mz 0
      have f1 := fz_of mz 1
      have f2 := fz_of mz 2
      have f3 := fz_of mz 3
      have f4 := fz_of mz 4
      have f5 := fz_of mz 5
      have f6 := fz_of mz 6
      have f7 := fz_of mz 7
      have z0 := cell_of mz 0 (.int .i64 0) rfl
      have z1 := cell_of mz 1 (.slice none 0 0) rfl
      have z2 := cell_of mz 2 (.slice none 0 0) rfl
      have z3 := cell_of mz 3 (.int .i64 0) rfl
      have z4 := cell_of mz 4 (.int .i64 0) rfl
      have z5 := cell_of mz 5 (.int .u64 0) rfl
      have z6 := cell_of mz 6 (.int .u64 0) rfl
      have z7 := cell_of mz 7 (.bool false) rfl
      replace KF := hid KF
      replace BF := hid BF
      replace M4 := hid M4
      clear mz
      go_wp2_with fail
      have KG := KF.out
      have BG := BF.out
      unfold put8 at KG BG
      generalize hWG : ((((((((w4.setCell ⟨gr, 0, none⟩ (.int .i64 log)).setCell ⟨gr, 1, none⟩ (.slice (some ⟨pb, po, none⟩) el ec)).setCell ⟨gr, 2, none⟩ (.slice ta tl tc)).setCell ⟨gr, 3, none⟩ (.int .i64 len)).setCell ⟨gr, 4, none⟩ (.int .i64 sz)).setCell ⟨gr, 5, none⟩ (.int .u64 lo)).setCell ⟨gr, 6, none⟩ (.int .u64 hi)).setCell ⟨gr, 7, none⟩ (.bool false)) = WG at *
      have q0 := cell_of KG 0 (.int .i64 log) rfl
      have q1 := cell_of KG 1 (.slice (some ⟨pb, po, none⟩) el ec) rfl
      have q2 := cell_of KG 2 (.slice ta tl tc) rfl
      have q3 := cell_of KG 3 (.int .i64 len) rfl
      have q4 := cell_of KG 4 (.int .i64 sz) rfl
      have q5 := cell_of KG 5 (.int .u64 lo) rfl
      have q6 := cell_of KG 6 (.int .u64 hi) rfl
      have q7 := cell_of KG 7 (.bool false) rfl
      refine bodyPost_ret (v := .tuple #[.agg #[.int .i64 log, .slice (some ⟨pb, po, none⟩) el ec, .slice ta tl tc, .int .i64 len, .int .i64 sz, .int .u64 lo, .int .u64 hi, .bool false], .int .i64 82]) (by simp [results, Try.results14, go_sem, q0, q1, q2, q3, q4, q5, q6, q7]) rfl ⟨rfl, ?_⟩
      rw [← hg.out]
      exact BG
    · go_wp2_with fail
      refine wp_region_quiet_below (by kernel_rfl) (by kernel_rfl) ?_
      repeat (first | go_big_quiet_step (first | (go_at_call 56; exact Calls.regrown_of (KY.out _ _ _ _ _))) | quiet_step (first | (go_at_call 56; exact Calls.regrown_of (KY.out _ _ _ _ _))))
      refine wpQuiet_nil ?_
      intro w4 hw4
      have b4 : Below w3.heap.size w3 w4 := by
        obtain ⟨⟨dq, osq⟩, hw''⟩ := hw4
        rw [hw'']
        exact below_regrown _ dq osq
      have M4 := M3.out.later b4
      clear hw4 b4 M3 d1 x0 x1 x2 x3
      clear y0 y1 y2 y3
      clear t1 t2
      have hge : (1048576 : Int) ≤ (el : Int) := by have := hfu.out; omega
      have u11 := cell_of M4.m.t 1 (.slice (some ⟨pb, po, none⟩) el ec) rfl
      have mz := M4.m.z
      rw [show g + 2 = gr by have := hgo.out; have := hgr.out; omega] at mz
      have KF := put8_at mz (.int .i64 log) (.slice (some ⟨pb, po, none⟩) el ec) (.slice ta tl tc) (.int .i64 len) (.int .i64 sz) (.int .u64 lo) (.int .u64 hi) (.bool false)
      have BF := put8_below M4.m.b (g := gr) (by have := hgo.out; have := hgr.out; omega) (.int .i64 log) (.slice (some ⟨pb, po, none⟩) el ec) (.slice ta tl tc) (.int .i64 len) (.int .i64 sz) (.int .u64 lo) (.int .u64 hi) (.bool false)
      have u0 := cell_of M4.m.t 0 (.int .i64 log) rfl
      have u1 := cell_of M4.m.t 1 (.slice (some ⟨pb, po, none⟩) el ec) rfl
      have u2 := cell_of M4.m.t 2 (.slice ta tl tc) rfl
      have u3 := cell_of M4.m.t 3 (.int .i64 len) rfl
      have u4 := cell_of M4.m.t 4 (.int .i64 sz) rfl
      have u5 := cell_of M4.m.t 5 (.int .u64 lo) rfl
      have u6 := cell_of M4.m.t 6 (.int .u64 hi) rfl
      have u7 := cell_of M4.m.t 7 (.bool false) rfl
      have f0 := fz_of mz 0
      have f1 := fz_of mz 1
      have f2 := fz_of mz 2
      have f3 := fz_of mz 3
      have f4 := fz_of mz 4
      have f5 := fz_of mz 5
      have f6 := fz_of mz 6
      have f7 := fz_of mz 7
      have z0 := cell_of mz 0 (.int .i64 0) rfl
      have z1 := cell_of mz 1 (.slice none 0 0) rfl
      have z2 := cell_of mz 2 (.slice none 0 0) rfl
      have z3 := cell_of mz 3 (.int .i64 0) rfl
      have z4 := cell_of mz 4 (.int .i64 0) rfl
      have z5 := cell_of mz 5 (.int .u64 0) rfl
      have z6 := cell_of mz 6 (.int .u64 0) rfl
      have z7 := cell_of mz 7 (.bool false) rfl
      replace KF := hid KF
      replace BF := hid BF
      replace M4 := hid M4
      clear mz
      go_wp2_with fail
      have KG := KF.out
      have BG := BF.out
      unfold put8 at KG BG
      generalize hWG : ((((((((w4.setCell ⟨gr, 0, none⟩ (.int .i64 log)).setCell ⟨gr, 1, none⟩ (.slice (some ⟨pb, po, none⟩) el ec)).setCell ⟨gr, 2, none⟩ (.slice ta tl tc)).setCell ⟨gr, 3, none⟩ (.int .i64 len)).setCell ⟨gr, 4, none⟩ (.int .i64 sz)).setCell ⟨gr, 5, none⟩ (.int .u64 lo)).setCell ⟨gr, 6, none⟩ (.int .u64 hi)).setCell ⟨gr, 7, none⟩ (.bool false)) = WG at *
      have q0 := cell_of KG 0 (.int .i64 log) rfl
      have q1 := cell_of KG 1 (.slice (some ⟨pb, po, none⟩) el ec) rfl
      have q2 := cell_of KG 2 (.slice ta tl tc) rfl
      have q3 := cell_of KG 3 (.int .i64 len) rfl
      have q4 := cell_of KG 4 (.int .i64 sz) rfl
      have q5 := cell_of KG 5 (.int .u64 lo) rfl
      have q6 := cell_of KG 6 (.int .u64 hi) rfl
      have q7 := cell_of KG 7 (.bool false) rfl
      refine bodyPost_ret (v := .tuple #[.agg #[.int .i64 log, .slice (some ⟨pb, po, none⟩) el ec, .slice ta tl tc, .int .i64 len, .int .i64 sz, .int .u64 lo, .int .u64 hi, .bool false], .int .i64 82]) (by simp [results, Try.results14, go_sem, q0, q1, q2, q3, q4, q5, q6, q7]) rfl ⟨rfl, ?_⟩
      rw [← hg.out]
      exact BG
    · go_wp2_with fail
      refine wp_region_quiet_below (by kernel_rfl) (by kernel_rfl) ?_
      repeat (first | go_big_quiet_step (first | (go_at_call 56; exact Calls.regrown_of (KY.out _ _ _ _ _))) | quiet_step (first | (go_at_call 56; exact Calls.regrown_of (KY.out _ _ _ _ _))))
      refine wpQuiet_nil ?_
      intro w4 hw4
      have b4 : Below w3.heap.size w3 w4 := by
        obtain ⟨⟨dq, osq⟩, hw''⟩ := hw4
        rw [hw'']
        exact below_regrown _ dq osq
      have M4 := M3.out.later b4
      clear hw4 b4 M3 d1 x0 x1 x2 x3
      clear y0 y1 y2 y3
      clear t1 t2 t3
      have hge : (1048576 : Int) ≤ (el : Int) := by have := hfu.out; omega
      have u11 := cell_of M4.m.t 1 (.slice (some ⟨pb, po, none⟩) el ec) rfl
      have mz := M4.m.z
      rw [show g + 2 = gr by have := hgo.out; have := hgr.out; omega] at mz
      have KF := put8_at mz (.int .i64 log) (.slice (some ⟨pb, po, none⟩) el ec) (.slice ta tl tc) (.int .i64 len) (.int .i64 sz) (.int .u64 lo) (.int .u64 hi) (.bool false)
      have BF := put8_below M4.m.b (g := gr) (by have := hgo.out; have := hgr.out; omega) (.int .i64 log) (.slice (some ⟨pb, po, none⟩) el ec) (.slice ta tl tc) (.int .i64 len) (.int .i64 sz) (.int .u64 lo) (.int .u64 hi) (.bool false)
      have u0 := cell_of M4.m.t 0 (.int .i64 log) rfl
      have u1 := cell_of M4.m.t 1 (.slice (some ⟨pb, po, none⟩) el ec) rfl
      have u2 := cell_of M4.m.t 2 (.slice ta tl tc) rfl
      have u3 := cell_of M4.m.t 3 (.int .i64 len) rfl
      have u4 := cell_of M4.m.t 4 (.int .i64 sz) rfl
      have u5 := cell_of M4.m.t 5 (.int .u64 lo) rfl
      have u6 := cell_of M4.m.t 6 (.int .u64 hi) rfl
      have u7 := cell_of M4.m.t 7 (.bool false) rfl
      have f0 := fz_of mz 0
      have f1 := fz_of mz 1
      have f2 := fz_of mz 2
      have f3 := fz_of mz 3
      have f4 := fz_of mz 4
      have f5 := fz_of mz 5
      have f6 := fz_of mz 6
      have f7 := fz_of mz 7
      have z0 := cell_of mz 0 (.int .i64 0) rfl
      have z1 := cell_of mz 1 (.slice none 0 0) rfl
      have z2 := cell_of mz 2 (.slice none 0 0) rfl
      have z3 := cell_of mz 3 (.int .i64 0) rfl
      have z4 := cell_of mz 4 (.int .i64 0) rfl
      have z5 := cell_of mz 5 (.int .u64 0) rfl
      have z6 := cell_of mz 6 (.int .u64 0) rfl
      have z7 := cell_of mz 7 (.bool false) rfl
      replace KF := hid KF
      replace BF := hid BF
      replace M4 := hid M4
      clear mz
      go_wp2_with fail
      have KG := KF.out
      have BG := BF.out
      unfold put8 at KG BG
      generalize hWG : ((((((((w4.setCell ⟨gr, 0, none⟩ (.int .i64 log)).setCell ⟨gr, 1, none⟩ (.slice (some ⟨pb, po, none⟩) el ec)).setCell ⟨gr, 2, none⟩ (.slice ta tl tc)).setCell ⟨gr, 3, none⟩ (.int .i64 len)).setCell ⟨gr, 4, none⟩ (.int .i64 sz)).setCell ⟨gr, 5, none⟩ (.int .u64 lo)).setCell ⟨gr, 6, none⟩ (.int .u64 hi)).setCell ⟨gr, 7, none⟩ (.bool false)) = WG at *
      have q0 := cell_of KG 0 (.int .i64 log) rfl
      have q1 := cell_of KG 1 (.slice (some ⟨pb, po, none⟩) el ec) rfl
      have q2 := cell_of KG 2 (.slice ta tl tc) rfl
      have q3 := cell_of KG 3 (.int .i64 len) rfl
      have q4 := cell_of KG 4 (.int .i64 sz) rfl
      have q5 := cell_of KG 5 (.int .u64 lo) rfl
      have q6 := cell_of KG 6 (.int .u64 hi) rfl
      have q7 := cell_of KG 7 (.bool false) rfl
      refine bodyPost_ret (v := .tuple #[.agg #[.int .i64 log, .slice (some ⟨pb, po, none⟩) el ec, .slice ta tl tc, .int .i64 len, .int .i64 sz, .int .u64 lo, .int .u64 hi, .bool false], .int .i64 82]) (by simp [results, Try.results14, go_sem, q0, q1, q2, q3, q4, q5, q6, q7]) rfl ⟨rfl, ?_⟩
      rw [← hg.out]
      exact BG
  · have i1 : ¬ (P : Int) < (el : Int) := by omega
    have i2 : ¬ P < el := hlt
    have i3 : decide ((P : Int) < (el : Int)) = false := by simpa using i1
    replace EN3 := hid EN3
    replace M3 := hid M3
    go_wp2_with fail
    refine wp_region_quiet_below (by kernel_rfl) (by kernel_rfl) ?_
    repeat (first | go_big_quiet_step (first | (go_at_call 56; exact Calls.regrown_of (KY.out _ _ _ _ _))) | quiet_step (first | (go_at_call 56; exact Calls.regrown_of (KY.out _ _ _ _ _))))
    refine wpQuiet_nil ?_
    intro w4 hw4
    have b4 : Below w3.heap.size w3 w4 := by
      obtain ⟨⟨dq, osq⟩, hw''⟩ := hw4
      rw [hw'']
      exact below_regrown _ dq osq
    have M4 := M3.out.later b4
    clear hw4 b4 M3 d1 x0 x1 x2 x3
    have hge : (1048576 : Int) ≤ (el : Int) := by have := hfu.out; omega
    have u11 := cell_of M4.m.t 1 (.slice ea el ec) rfl
    have mz := M4.m.z
    rw [show g + 2 = gr by have := hgo.out; have := hgr.out; omega] at mz
    have KF := put8_at mz (.int .i64 log) (.slice ea el ec) (.slice ta tl tc) (.int .i64 len) (.int .i64 sz) (.int .u64 lo) (.int .u64 hi) (.bool false)
    have BF := put8_below M4.m.b (g := gr) (by have := hgo.out; have := hgr.out; omega) (.int .i64 log) (.slice ea el ec) (.slice ta tl tc) (.int .i64 len) (.int .i64 sz) (.int .u64 lo) (.int .u64 hi) (.bool false)
    have u0 := cell_of M4.m.t 0 (.int .i64 log) rfl
    have u1 := cell_of M4.m.t 1 (.slice ea el ec) rfl
    have u2 := cell_of M4.m.t 2 (.slice ta tl tc) rfl
    have u3 := cell_of M4.m.t 3 (.int .i64 len) rfl
    have u4 := cell_of M4.m.t 4 (.int .i64 sz) rfl
    have u5 := cell_of M4.m.t 5 (.int .u64 lo) rfl
    have u6 := cell_of M4.m.t 6 (.int .u64 hi) rfl
    have u7 := cell_of M4.m.t 7 (.bool false) rfl
    have f0 := fz_of mz 0
    have f1 := fz_of mz 1
    have f2 := fz_of mz 2
    have f3 := fz_of mz 3
    have f4 := fz_of mz 4
    have f5 := fz_of mz 5
    have f6 := fz_of mz 6
    have f7 := fz_of mz 7
    have z0 := cell_of mz 0 (.int .i64 0) rfl
    have z1 := cell_of mz 1 (.slice none 0 0) rfl
    have z2 := cell_of mz 2 (.slice none 0 0) rfl
    have z3 := cell_of mz 3 (.int .i64 0) rfl
    have z4 := cell_of mz 4 (.int .i64 0) rfl
    have z5 := cell_of mz 5 (.int .u64 0) rfl
    have z6 := cell_of mz 6 (.int .u64 0) rfl
    have z7 := cell_of mz 7 (.bool false) rfl
    replace KF := hid KF
    replace BF := hid BF
    replace M4 := hid M4
    clear mz
    go_wp2_with fail
    have KG := KF.out
    have BG := BF.out
    unfold put8 at KG BG
    generalize hWG : ((((((((w4.setCell ⟨gr, 0, none⟩ (.int .i64 log)).setCell ⟨gr, 1, none⟩ (.slice ea el ec)).setCell ⟨gr, 2, none⟩ (.slice ta tl tc)).setCell ⟨gr, 3, none⟩ (.int .i64 len)).setCell ⟨gr, 4, none⟩ (.int .i64 sz)).setCell ⟨gr, 5, none⟩ (.int .u64 lo)).setCell ⟨gr, 6, none⟩ (.int .u64 hi)).setCell ⟨gr, 7, none⟩ (.bool false)) = WG at *
    have q0 := cell_of KG 0 (.int .i64 log) rfl
    have q1 := cell_of KG 1 (.slice ea el ec) rfl
    have q2 := cell_of KG 2 (.slice ta tl tc) rfl
    have q3 := cell_of KG 3 (.int .i64 len) rfl
    have q4 := cell_of KG 4 (.int .i64 sz) rfl
    have q5 := cell_of KG 5 (.int .u64 lo) rfl
    have q6 := cell_of KG 6 (.int .u64 hi) rfl
    have q7 := cell_of KG 7 (.bool false) rfl
    refine bodyPost_ret (v := .tuple #[.agg #[.int .i64 log, .slice ea el ec, .slice ta tl tc, .int .i64 len, .int .i64 sz, .int .u64 lo, .int .u64 hi, .bool false], .int .i64 82]) (by simp [results, Try.results14, go_sem, q0, q1, q2, q3, q4, q5, q6, q7]) rfl ⟨rfl, ?_⟩
    rw [← hg.out]
    exact BG
end Go.Proofs.Ytefihoohdaegeaa.De

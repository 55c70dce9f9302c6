/- The document's Table.Add of an entry. -/
import Derived.Test.YtefihoohdaegeaaDp
namespace Go.Proofs.Ytefihoohdaegeaa.Df
open Go.ChangeShapes Go.WideShapes Go.ChangeAt Go.RowKit Go.Shelf
open Go.Sort (grow)
open Go.Proofs.Ytefihoohdaegeaa.Lx (hid lt)
open Go.Proofs.Ytefihoohdaegeaa.Ik
open Go.Proofs.Ytefihoohdaegeaa.Cm
open Go.Proofs.Ytefihoohdaegeaa.Ck
open Go.Proofs.Ytefihoohdaegeaa.Da
open Go.Proofs.Ytefihoohdaegeaa.Db
open Go.Proofs.Ytefihoohdaegeaa.Dp
open Go.Proofs.Ytefihoohdaegeaa.Ee (E ze Ents At4)
open Go.Proofs.Ytefihoohdaegeaa.Eo
open Go.Proofs.Ytefihoohdaegeaa.Fm (own_lt own_blocks)
open Go.Proofs.Ytefihoohdaegeaa.Mm (box_below)
open Go.Proofs.Ytefihoohdaegeaa.Tr (new_at cell_of size_alloc blk_lt fz_of set_of set_ne)
set_option linter.unusedVariables false
set_option linter.unusedSimpArgs false

/-- The boxes of Add, and the entry's. -/
structure Mk (w W : World) (g be : Nat) (A O X : Array Value) : Prop where
  m : Mi w W g A O
  e : W.heap[be]? = some (.cells X 56)
  l : g + 3 ≤ be
theorem Mk.later {w W W' : World} {g be : Nat} {A O X : Array Value} (h : Mk w W g be A O X) (b : Below W.heap.size W W') : Mk w W' g be A O X := ⟨h.m.later b, (b.block _ (blk_lt h.e)).trans h.e, h.l⟩
theorem Mk.grown {w W W' : World} {g be : Nat} {A O X : Array Value} {row : Option Nat} (h : Mk w W g be A O X) (b : W.grownBy W' row) (hr : ∀ j, row = some j → be < j) : Mk w W' g be A O X :=
  ⟨h.m.grown b (fun j e => by have := hr j e; have := h.l; omega), (b.block _ (blk_lt h.e) (fun e => by have := hr _ e.symm; omega)).trans h.e, h.l⟩
theorem there_at {es : List E} {K : IK} (hs : es.Pairwise (fun a b => cmp a.ik b.ik < 0)) (h : ∃ x ∈ es, x.ik = K) : plc es K < es.length ∧ (es.getD (plc es K) ze).ik = K := by
  obtain ⟨x, hx, hk⟩ := h
  obtain ⟨i, hi, e⟩ := List.getElem_of_mem hx
  have hnb : ¬ i < plc es K := fun hlt => by
    have := (plc_iff hs K i x (by rw [List.getElem?_eq_getElem hi, e])).2 hlt
    rw [hk] at this
    exact Sg.cmp_lt_irrefl _ this
  have hle : plc es K < es.length := by omega
  refine ⟨hle, ?_⟩
  have hP : es[plc es K]? = some (es.getD (plc es K) ze) := by rw [List.getD_eq_getElem?_getD, List.getElem?_eq_getElem hle]; rfl
  have hn : ¬ cmp (es.getD (plc es K) ze).ik K < 0 := fun hc => by
    have := (plc_iff hs K _ _ hP).1 hc
    omega
  by_cases hip : i = plc es K
  · rw [← hip, List.getD_eq_getElem?_getD, List.getElem?_eq_getElem hi, e]; exact hk
  · exfalso
    have hlt : plc es K < i := by omega
    have hr := List.pairwise_iff_getElem.1 hs (plc es K) i hle hi hlt
    rw [e, hk] at hr
    apply hn
    rw [List.getD_eq_getElem?_getD, List.getElem?_eq_getElem hle]
    exact hr
set_option maxHeartbeats 8000000 in
set_option maxRecDepth 100000 in
theorem radd_ent (log : Int) (ea ta : Option Addr) (el ec tl tc : Nat) (len sz lo hi : Int) (q c : Int) (k v : ByteArray) (h : Int) (base : Nat) (es : List E) (w : World) (hk : k.size ≤ maxLen) (hv : v.size ≤ maxLen) (hq0 : ¬ q < 1) (hq : ¬ 72057594037927935 < q) (hc2 : c ≠ 2) (hm : may c k v = true) (hh0 : ¬ h < 1) (hh : ¬ 12 < h) (HE : OwnE w base (.slice ea el ec) es) (hel : es.length = el) (hl : el ≤ 1048576) (hok : ∀ x ∈ es, x.ok) (hs : es.Pairwise (fun a b => cmp a.ik b.ik < 0)) (hlen : 0 ≤ len ∧ len ≤ 4000000000000000000) (hsz : 0 ≤ sz ∧ sz ≤ 4000000000000000000) (hth : ¬ ∃ x ∈ es, x.ik = ik k q c) (hfu : el < 1048576) (len1 sz1 lo1 hi1 : Int) (em : Nat) (hlen1 : len1 = len + 1) (hsz1 : sz1 = sz + (16 + (k.size : Int) + v.size)) (hlo1 : lo1 = if len = 0 ∨ q < lo then q else lo) (hhi1 : hi1 = max hi q) (hem : em = el + 1) :
    Calls Try.prog 14 #[.agg #[.int .i64 log, .slice ea el ec, .slice ta tl tc, .int .i64 len, .int .i64 sz, .int .u64 lo, .int .u64 hi, .bool false], .int .u64 q, .agg #[.int .i64 c, .string k, .string v], .int .i64 h] w fun e w' => ∃ ea' ec', e = .returned (.tuple #[.agg #[.int .i64 log, .slice ea' em ec', .slice ta tl tc, .int .i64 len1, .int .i64 sz1, .int .u64 lo1, .int .u64 hi1, .bool false], .int .i64 0]) ∧ OwnE w' w.heap.size (.slice ea' em ec') (es.take (plc es (ik k q c)) ++ [⟨k, q, c, v⟩] ++ es.drop (plc es (ik k q c))) ∧ Below w.heap.size w w' := by
  have M0 := Mi.start w #[.int .i64 log, .slice ea el ec, .slice ta tl tc, .int .i64 len, .int .i64 sz, .int .u64 lo, .int .u64 hi, .bool false] #[.int .i64 c, .string k, .string v]
  obtain ⟨g, hg⟩ : ∃ n, n = w.heap.size := ⟨_, rfl⟩
  obtain ⟨W0, hW0⟩ : ∃ W, W = ((w.alloc (.cells #[.int .i64 log, .slice ea el ec, .slice ta tl tc, .int .i64 len, .int .i64 sz, .int .u64 lo, .int .u64 hi, .bool false] 29)).alloc (.cells #[.int .i64 c, .string k, .string v] 32)).alloc (.cells #[.int .i64 0, .slice none 0 0, .slice none 0 0, .int .i64 0, .int .i64 0, .int .u64 0, .int .u64 0, .bool false] 29) := ⟨_, rfl⟩
  rw [← hW0, ← hg] at M0
  have HM := hid (rmay_any c k v W0 hk hv)
  rw [hm] at HM
  obtain ⟨go, hgo⟩ : ∃ n, g + 1 = n := ⟨_, rfl⟩
  obtain ⟨gr, hgr⟩ : ∃ n, go + 1 = n := ⟨_, rfl⟩
  have hks : Hid (k.size ≤ 1000000 ∧ v.size ≤ 1000000) := by
    have := Ad.may_sizes hm
    show _ ∧ _
    omega
  have OO : Hid (∀ W, Below g w W → OwnE W base (.slice ea el ec) es) := fun W hb => OwnE.later HE (by rw [← hg]; exact hb)
  obtain ⟨P, hP⟩ : ∃ P, P = plc es (ik k q c) := ⟨_, rfl⟩
  rw [← hP]
  have hpl : P ≤ el := by rw [hP, ← hel]; exact plc_le _ _
  have EE : Hid (∀ W, Below g w W → Ents W ea el ec es) := fun W hb => by
    obtain ⟨a', c', hv', x⟩ := (OO.out W hb).ents hok
    rw [hel] at hv' x
    cases hv'
    exact x
  have PL : Hid (∀ W, Below g w W → Calls Try.prog 55 #[.slice ea el ec, .agg #[.string k, .int .u64 q, .int .i64 c]] W fun e w' => e = .returned (.int .i64 (P : Int)) ∧ Below W.heap.size W w') := fun W hb => by
    rw [hP]; exact rplace_any ea el ec es k q c W (EE.out W hb) hl hs
  have KY : Hid (∀ k q c v W, Calls Try.prog 56 #[.agg #[.string k, .int .u64 q, .int .i64 c, .string v]] W fun e w' => e = .returned (.agg #[.string k, .int .u64 q, .int .i64 c]) ∧ Below W.heap.size W w') := fun k q c v W => rkey_any k q c v W
  have hc2' : (c == 2) = false := beq_eq_false_iff_ne.2 hc2
  replace M0 := hid M0
  replace hW0 := hid hW0
  replace hg := hid hg
  replace hgo := hid hgo
  replace hgr := hid hgr
  replace hok := hid hok
  replace hs := hid hs
  replace hel := hid hel
  replace HE := hid HE
  replace hP := hid hP
  replace hlen := hid hlen
  replace hsz := hid hsz
  replace hth := hid hth
  replace hfu := hid hfu
  replace hlen1 := hid hlen1
  replace hsz1 := hid hsz1
  replace hlo1 := hid hlo1
  replace hhi1 := hid hhi1
  replace hem := hid hem
  clear hm hk hv
  go_enter Try.func14, Try.ntmps14
  go_wp2_with fail
  rw [← hW0.out, ← hg.out, hgo.out, hgr.out]
  refine HM.out.mono ?_
  rintro e w1 ⟨rfl, b1⟩
  have M1 := M0.out.later b1
  have mo := M1.o
  rw [hgo.out] at mo
  have o0 := cell_of mo 0 (.int .i64 c) rfl
  have o1 := cell_of mo 1 (.string k) rfl
  have o2 := cell_of mo 2 (.string v) rfl
  obtain ⟨be, hbe⟩ : ∃ n, n = w1.heap.size := ⟨_, rfl⟩
  obtain ⟨w2, hw2⟩ : ∃ W, W = w1.alloc (.cells #[.string k, .int .u64 q, .int .i64 c, .string v] 56) := ⟨_, rfl⟩
  have M2 : Mk w w2 g be #[.int .i64 log, .slice ea el ec, .slice ta tl tc, .int .i64 len, .int .i64 sz, .int .u64 lo, .int .u64 hi, .bool false] #[.int .i64 c, .string k, .string v] #[.string k, .int .u64 q, .int .i64 c, .string v] := ⟨M1.later (by rw [hw2]; exact box_below _ _), by rw [hw2, hbe]; exact new_at _ _, by rw [hbe]; exact M1.s⟩
  have c1 := cell_of M2.m.t 1 (.slice ea el ec) rfl
  have e0 := cell_of M2.e 0 (.string k) rfl
  have e1 := cell_of M2.e 1 (.int .u64 q) rfl
  have e2 := cell_of M2.e 2 (.int .i64 c) rfl
  have e3 := cell_of M2.e 3 (.string v) rfl
  replace M1 := hid M1
  replace hbe := hid hbe
  replace hw2 := hid hw2
  clear mo b1 HM M0 hW0
  go_wp2_with fail
  rw [← hw2.out, ← hbe.out]
  clear o0 o1 o2 M1
  have d1 := fun d os => cell_regrown c1 d os
  have x0 := fun d os => cell_regrown e0 d os
  have x1 := fun d os => cell_regrown e1 d os
  have x2 := fun d os => cell_regrown e2 d os
  have x3 := fun d os => cell_regrown e3 d os
  have HP2 : Hid (∀ d os, Calls Try.prog 55 #[.slice ea el ec, .agg #[.string k, .int .u64 q, .int .i64 c]] (grow (redrawn w2 d) os) fun e w' => e = .returned (.int .i64 (P : Int)) ∧ Below (grow (redrawn w2 d) os).heap.size (grow (redrawn w2 d) os) w') := fun d os => PL.out _ (M2.m.b.trans ((below_regrown w2 d os).mono (by have := M2.m.s; omega)))
  replace M2 := hid M2
  clear c1 e0 e1 e2 e3
  refine wp_region_quiet_below (by kernel_rfl) (by kernel_rfl) ?_
  repeat (first | go_big_quiet_step (first | (go_at_call 56; exact Calls.regrown_of (KY.out _ _ _ _ _)) | (go_at_call 55; exact Calls.regrown_of (HP2.out _ _))) | quiet_step (first | (go_at_call 56; exact Calls.regrown_of (KY.out _ _ _ _ _)) | (go_at_call 55; exact Calls.regrown_of (HP2.out _ _))))
  refine wpQuiet_nil ?_
  intro w3 hw3
  have b3 : Below w2.heap.size w2 w3 := by
    obtain ⟨⟨dq, osq⟩, hw''⟩ := hw3
    rw [hw'']
    exact below_regrown _ dq osq
  have M3 := M2.out.later b3
  clear hw3 d1 x0 x1 x2 x3 HP2 M2 b3 hw2 hbe
  have c1 := cell_of M3.m.t 1 (.slice ea el ec) rfl
  have e0 := cell_of M3.e 0 (.string k) rfl
  have e1 := cell_of M3.e 1 (.int .u64 q) rfl
  have e2 := cell_of M3.e 2 (.int .i64 c) rfl
  have e3 := cell_of M3.e 3 (.string v) rfl
  have d1 := fun d os => cell_regrown c1 d os
  have x0 := fun d os => cell_regrown e0 d os
  have x1 := fun d os => cell_regrown e1 d os
  have x2 := fun d os => cell_regrown e2 d os
  have x3 := fun d os => cell_regrown e3 d os
  have EN3 := EE.out w3 M3.m.b
  clear c1 e0 e1 e2 e3
  by_cases hlt : P < el
  · obtain ⟨ad, rfl⟩ : ∃ ad, ea = some ad := by
      cases ea with
      | none => have := (EN3.2.2.1 rfl).1; omega
      | some ad => exact ⟨ad, rfl⟩
    obtain ⟨pb, po, psp⟩ := ad
    obtain ⟨hsp, hat⟩ := EN3.2.2.2.2 pb po psp rfl (by omega)
    subst hsp
    have hcp := EN3.2.1
    obtain ⟨p0, p1, p2, p3⟩ := hat P hlt
    obtain ⟨⟨yk, yq, yc, yv⟩, hy⟩ : ∃ y, y = es.getD P ze := ⟨_, rfl⟩
    rw [← hy] at p0 p1 p2 p3
    dsimp only at p0 p1 p2 p3
    have y0 := fun d os => cell_regrown p0 d os
    have y1 := fun d os => cell_regrown p1 d os
    have y2 := fun d os => cell_regrown p2 d os
    have y3 := fun d os => cell_regrown p3 d os
    have i1 : (P : Int) < (el : Int) := by omega
    have hN3 : (yk.toList == k.toList) = false ∨ ((yk.toList == k.toList) = true ∧ (yq == q) = false) ∨ ((yk.toList == k.toList) = true ∧ (yq == q) = true ∧ (yc == c) = false) := by
      cases h1 : (yk.toList == k.toList) with
      | false => exact .inl rfl
      | true =>
        cases h2 : (yq == q) with
        | false => exact .inr (.inl ⟨rfl, rfl⟩)
        | true =>
          cases h3 : (yc == c) with
          | false => exact .inr (.inr ⟨rfl, rfl, rfl⟩)
          | true =>
            simp only [beq_iff_eq] at h1 h2 h3
            exact absurd ⟨⟨yk, yq, yc, yv⟩, by rw [hy, List.getD_eq_getElem?_getD, List.getElem?_eq_getElem (by have := hel.out; omega)]; exact List.getElem_mem _, by
              show (yk.data.toList, yq, yc) = (k.data.toList, q, c)
              rw [toList_inj h1, h2, h3]⟩ hth.out
    replace hy := hid hy
    replace EN3 := hid EN3
    replace M3 := hid M3
    clear p0 p1 p2 p3 hat
    rcases hN3 with t1 | ⟨t1, t2⟩ | ⟨t1, t2, t3⟩
    · go_wp2_with fail
      refine wp_region_quiet_below (by kernel_rfl) (by kernel_rfl) ?_
      repeat (first | go_big_quiet_step (first | (go_at_call 56; exact Calls.regrown_of (KY.out _ _ _ _ _))) | quiet_step (first | (go_at_call 56; exact Calls.regrown_of (KY.out _ _ _ _ _))))
      refine wpQuiet_nil ?_
      intro w4 hw4
      have b4 : Below w3.heap.size w3 w4 := by
        obtain ⟨⟨dq, osq⟩, hw''⟩ := hw4
        rw [hw'']
        exact below_regrown _ dq osq
      have M4 := M3.out.later b4
      clear hw4 b4 M3 d1 x0 x1 x2 x3
      clear y0 y1 y2 y3
      clear t1
      have hnf : ¬ (1048576 : Int) ≤ (el : Int) := by have := hfu.out; omega
      have u11 := cell_of M4.m.t 1 (.slice (some ⟨pb, po, none⟩) el ec) rfl
      have O4 := OO.out w4 M4.m.b
      have hell := hel.out
      obtain ⟨a1, k1, a2, k2, su1, su2, hPR⟩ : ∃ a1 k1 a2 k2, (∀ W : World, (Instr.slice 25 (.slice (some ⟨pb, po, none⟩) el ec) none (some (.int .i64 (P : Int))) none).run Try.prog W = .ok (.slice a1 P k1) W) ∧ (∀ W : World, (Instr.slice 25 (.slice (some ⟨pb, po, none⟩) el ec) (some (.int .i64 (P : Int))) none none).run Try.prog W = .ok (.slice a2 (el - P) k2) W) ∧ (∀ W : World, OwnE W base (.slice (some ⟨pb, po, none⟩) el ec) es → Ents W a1 P k1 (es.take P) ∧ Ents W a2 (el - P) k2 (es.drop P)) := by
        have := parts P (show OwnE w4 base (.slice (some ⟨pb, po, none⟩) es.length ec) es by rw [hell]; exact O4) hok.out (by omega)
        rw [hell] at this
        exact this
      obtain ⟨b9, hb9⟩ : ∃ n, n = w4.heap.size := ⟨_, rfl⟩
      obtain ⟨W9, hW9⟩ : ∃ W, W = w4.alloc (.cells #[] 56) := ⟨_, rfl⟩
      have B9 : Below w4.heap.size w4 W9 := by rw [hW9]; exact box_below _ _
      have M9 := M4.later B9
      have hbl : be < b9 := by rw [hb9]; exact blk_lt M4.e
      have R9 : OwnE W9 b9 (.slice (some ⟨b9, 0, none⟩) 0 0) [] := by rw [hW9, hb9]; exact World.ownsRow_made w4 #[] 0 (Nat.le_refl _) (by unfold maxLen; omega) rfl
      have s9 : b9 ≤ W9.heap.size := by rw [hb9]; exact B9.size
      have hfu2 := hfu.out
      obtain ⟨v10, W10, r10, R10, g10⟩ := app_ents W9 b9 _ [] R9 a1 P k1 (es.take P) (hPR W9 (OO.out W9 M9.m.b)).1 (by simp; omega) s9
      rw [List.nil_append] at R10
      have M10 := M9.grown g10 (fun j hj => by have := (own_lt R9 j hj).1; omega)
      have s10 : b9 ≤ W10.heap.size := Nat.le_trans s9 g10.size
      have l10 : (es.take P).length = P := by rw [List.length_take]; omega
      obtain ⟨v11, W11, r11, R11, g11, _⟩ := app_entry W10 b9 v10 (es.take P) ⟨k, q, c, v⟩ R10 (by rw [l10]; omega) s10
      have M11 := M10.grown g11 (fun j hj => by have := (own_lt R10 j hj).1; omega)
      have s11 : b9 ≤ W11.heap.size := Nat.le_trans s10 g11.size
      obtain ⟨v12, W12, r12, R12, g12⟩ := app_ents W11 b9 v11 _ R11 a2 (el - P) k2 (es.drop P) (hPR W11 (OO.out W11 M11.m.b)).2 (by rw [List.length_append, l10]; simp; omega) s11
      have M12 := M11.grown g12 (fun j hj => by have := (own_lt R11 j hj).1; omega)
      obtain ⟨a10, c10, rfl⟩ := Sa.row_block R10
      obtain ⟨a11, c11, rfl⟩ := Sa.row_block R11
      obtain ⟨a4, c4, rfl⟩ := Sa.row_block R12
      have l11 : (es.take P ++ [(⟨k, q, c, v⟩ : E)]).length = P + 1 := by rw [List.length_append, l10]; rfl
      have l12 : (es.take P ++ [(⟨k, q, c, v⟩ : E)] ++ es.drop P).length = em := by rw [List.length_append, l11, List.length_drop, hem.out]; omega
      rw [l10] at r10 R10 r11
      rw [l11] at r11 R11 r12
      rw [l12] at r12 R12
      dsimp only at r11
      obtain ⟨W13, hW13⟩ : ∃ W, W = W12.setCell ⟨g, 1, none⟩ (.slice a4 em c4) := ⟨_, rfl⟩
      have hgl : g + 3 ≤ b9 := by have := M4.l; omega
      have mt3 : W13.heap[g]? = some (.cells #[.int .i64 log, .slice a4 em c4, .slice ta tl tc, .int .i64 len, .int .i64 sz, .int .u64 lo, .int .u64 hi, .bool false] 29) := by rw [hW13]; exact (set_of M12.m.t 1 _).trans rfl
      have mo3 : W13.heap[go]? = some (.cells #[.int .i64 c, .string k, .string v] 32) := by rw [hW13]; exact (set_ne _ _ _ _ _ (by have := hgo.out; omega)).trans (by have := M12.m.o; rwa [hgo.out] at this)
      have mz3 : W13.heap[gr]? = some (.cells #[.int .i64 0, .slice none 0 0, .slice none 0 0, .int .i64 0, .int .i64 0, .int .u64 0, .int .u64 0, .bool false] 29) := by rw [hW13]; exact (set_ne _ _ _ _ _ (by have := hgo.out; have := hgr.out; omega)).trans (by have := M12.m.z; rwa [show g + 2 = gr by have := hgo.out; have := hgr.out; omega] at this)
      have b13 : Below g w W13 := by rw [hW13]; exact M12.m.b.setCell (p := ⟨g, 1, none⟩) (Nat.le_refl _) _
      have s13 : g + 3 ≤ W13.heap.size := by rw [hW13]; simp; exact M12.m.s
      have R13 : OwnE W13 b9 (.slice a4 em c4) (es.take P ++ [⟨k, q, c, v⟩] ++ es.drop P) := own_blocks R12 (fun j hj => by rw [hW13]; exact set_ne _ _ _ _ _ (by have := (own_lt R12 j hj).1; omega))
      have HC := rcount_any log a4 ta em c4 tl tc len sz lo hi false q c k v W13 hlen.out hsz.out hks.out.1 hks.out.2
      rw [← hlen1.out, ← hsz1.out, ← hlo1.out, ← hhi1.out] at HC
      have c9 := cell_of M9.m.t 1 (.slice (some ⟨pb, po, none⟩) el ec) rfl
      rw [hW9] at c9 r10
      rw [hb9] at r10
      have c10' := M10.e
      have e0 := cell_of c10' 0 (.string k) rfl
      have e1 := cell_of c10' 1 (.int .u64 q) rfl
      have e2 := cell_of c10' 2 (.int .i64 c) rfl
      have e3 := cell_of c10' 3 (.string v) rfl
      have c11' := cell_of M11.m.t 1 (.slice (some ⟨pb, po, none⟩) el ec) rfl
      have c12' := cell_of M12.m.t 1 (.slice (some ⟨pb, po, none⟩) el ec) rfl
      have f12 := fz_of M12.m.t 1
      have y0 := cell_of mt3 0 (.int .i64 log) rfl
      have y1 := cell_of mt3 1 (.slice a4 em c4) rfl
      have y2 := cell_of mt3 2 (.slice ta tl tc) rfl
      have y3 := cell_of mt3 3 (.int .i64 len) rfl
      have y4 := cell_of mt3 4 (.int .i64 sz) rfl
      have y5 := cell_of mt3 5 (.int .u64 lo) rfl
      have y6 := cell_of mt3 6 (.int .u64 hi) rfl
      have y7 := cell_of mt3 7 (.bool false) rfl
      have y8 := cell_of mo3 0 (.int .i64 c) rfl
      have y9 := cell_of mo3 1 (.string k) rfl
      have y10 := cell_of mo3 2 (.string v) rfl
      rw [hW13] at y0 y1 y2 y3 y4 y5 y6 y7 y8 y9 y10
      replace HC := hid HC
      replace r10 := hid r10
      replace r11 := hid r11
      replace r12 := hid r12
      replace mz3 := hid mz3
      replace b13 := hid b13
      replace s13 := hid s13
      replace R13 := hid R13
      replace hW13 := hid hW13
      replace hW9 := hid hW9
      replace hb9 := hid hb9
      replace hgl := hid hgl
      clear M4 M9 M10 M11 M12 R9 R10 R11 R12 g10 g11 g12 B9 O4 hPR mt3 mo3 hbl s9 s10 s11 l10 l11 l12 hell hfu2 c10'
      go_wp2_with (first | (at_builtin; refine Ob.wpList_append_run rfl (.tmp 121) (.tmp 125) 25 25 rfl (.slice (some ⟨w4.heap.size, 0, none⟩) 0 0) (.slice a1 P k1) (.slice a10 P c10) rfl rfl r10.out ?_) | (at_builtin; refine Ob.wpList_append_run rfl (.tmp 127) (.tmp 129) 25 25 rfl (.slice a10 P c10) (.slice (some ⟨W10.heap.size, 0, none⟩) 1 1) (.slice a11 (P + 1) c11) rfl rfl r11.out ?_) | (at_builtin; refine Ob.wpList_append_run rfl (.tmp 131) (.tmp 135) 25 25 rfl (.slice a11 (P + 1) c11) (.slice a2 (el - P) k2) (.slice a4 em c4) rfl rfl r12.out ?_))
      rw [← hW13.out]
      refine HC.out.mono ?_
      rintro e x6 ⟨rfl, b6⟩
      have zb := (b6.block gr (blk_lt mz3.out)).trans mz3.out
      have KF := put8_at zb (.int .i64 log) (.slice a4 em c4) (.slice ta tl tc) (.int .i64 len1) (.int .i64 sz1) (.int .u64 lo1) (.int .u64 hi1) (.bool false)
      have BB : Below g w x6 := b13.out.trans (b6.mono (by have := s13.out; omega))
      have BF := put8_below BB (g := gr) (by have := hgo.out; have := hgr.out; omega) (.int .i64 log) (.slice a4 em c4) (.slice ta tl tc) (.int .i64 len1) (.int .i64 sz1) (.int .u64 lo1) (.int .u64 hi1) (.bool false)
      have R6 : OwnE (put8 x6 gr (.int .i64 log) (.slice a4 em c4) (.slice ta tl tc) (.int .i64 len1) (.int .i64 sz1) (.int .u64 lo1) (.int .u64 hi1) (.bool false)) g (.slice a4 em c4) (es.take P ++ [⟨k, q, c, v⟩] ++ es.drop P) := Mt.own_base (own_blocks (OwnE.later R13.out b6) (fun j hj => put8_ne _ _ _ (by have := (own_lt R13.out j hj).1; have := hgo.out; have := hgr.out; have := hgl.out; omega) _ _ _ _ _ _ _ _)) (by have := hgl.out; omega)
      have f0 := fz_of zb 0
      have f1 := fz_of zb 1
      have f2 := fz_of zb 2
      have f3 := fz_of zb 3
      have f4 := fz_of zb 4
      have f5 := fz_of zb 5
      have f6 := fz_of zb 6
      have f7 := fz_of zb 7
      have z0 := cell_of zb 0 (.int .i64 0) rfl
      have z1 := cell_of zb 1 (.slice none 0 0) rfl
      have z2 := cell_of zb 2 (.slice none 0 0) rfl
      have z3 := cell_of zb 3 (.int .i64 0) rfl
      have z4 := cell_of zb 4 (.int .i64 0) rfl
      have z5 := cell_of zb 5 (.int .u64 0) rfl
      have z6 := cell_of zb 6 (.int .u64 0) rfl
      have z7 := cell_of zb 7 (.bool false) rfl
      replace KF := hid KF
      replace BF := hid BF
      replace R6 := hid R6
      clear zb BB b6 HC y0 y1 y2 y3 y4 y5 y6 y7 y8 y9 y10 e0 e1 e2 e3 c9 c11' c12' f12 su1 su2 u11
      go_wp2_with fail
      have KG := KF.out
      have BG := BF.out
      have RG := R6.out
      unfold put8 at KG BG RG
      generalize hWG : ((((((((x6.setCell ⟨gr, 0, none⟩ (.int .i64 log)).setCell ⟨gr, 1, none⟩ (.slice a4 em c4)).setCell ⟨gr, 2, none⟩ (.slice ta tl tc)).setCell ⟨gr, 3, none⟩ (.int .i64 len1)).setCell ⟨gr, 4, none⟩ (.int .i64 sz1)).setCell ⟨gr, 5, none⟩ (.int .u64 lo1)).setCell ⟨gr, 6, none⟩ (.int .u64 hi1)).setCell ⟨gr, 7, none⟩ (.bool false)) = WG at *
      have q0 := cell_of KG 0 (.int .i64 log) rfl
      have q1 := cell_of KG 1 (.slice a4 em c4) rfl
      have q2 := cell_of KG 2 (.slice ta tl tc) rfl
      have q3 := cell_of KG 3 (.int .i64 len1) rfl
      have q4 := cell_of KG 4 (.int .i64 sz1) rfl
      have q5 := cell_of KG 5 (.int .u64 lo1) rfl
      have q6 := cell_of KG 6 (.int .u64 hi1) rfl
      have q7 := cell_of KG 7 (.bool false) rfl
      refine bodyPost_ret (v := .tuple #[.agg #[.int .i64 log, .slice a4 em c4, .slice ta tl tc, .int .i64 len1, .int .i64 sz1, .int .u64 lo1, .int .u64 hi1, .bool false], .int .i64 0]) (by simp [results, Try.results14, go_sem, q0, q1, q2, q3, q4, q5, q6, q7]) rfl ⟨a4, c4, rfl, ?_⟩
      rw [← hg.out]
      exact ⟨RG, BG⟩
    · go_wp2_with fail
      refine wp_region_quiet_below (by kernel_rfl) (by kernel_rfl) ?_
      repeat (first | go_big_quiet_step (first | (go_at_call 56; exact Calls.regrown_of (KY.out _ _ _ _ _))) | quiet_step (first | (go_at_call 56; exact Calls.regrown_of (KY.out _ _ _ _ _))))
      refine wpQuiet_nil ?_
      intro w4 hw4
      have b4 : Below w3.heap.size w3 w4 := by
        obtain ⟨⟨dq, osq⟩, hw''⟩ := hw4
        rw [hw'']
        exact below_regrown _ dq osq
      have M4 := M3.out.later b4
      clear hw4 b4 M3 d1 x0 x1 x2 x3
      clear y0 y1 y2 y3
      clear t1 t2
      have hnf : ¬ (1048576 : Int) ≤ (el : Int) := by have := hfu.out; omega
      have u11 := cell_of M4.m.t 1 (.slice (some ⟨pb, po, none⟩) el ec) rfl
      have O4 := OO.out w4 M4.m.b
      have hell := hel.out
      obtain ⟨a1, k1, a2, k2, su1, su2, hPR⟩ : ∃ a1 k1 a2 k2, (∀ W : World, (Instr.slice 25 (.slice (some ⟨pb, po, none⟩) el ec) none (some (.int .i64 (P : Int))) none).run Try.prog W = .ok (.slice a1 P k1) W) ∧ (∀ W : World, (Instr.slice 25 (.slice (some ⟨pb, po, none⟩) el ec) (some (.int .i64 (P : Int))) none none).run Try.prog W = .ok (.slice a2 (el - P) k2) W) ∧ (∀ W : World, OwnE W base (.slice (some ⟨pb, po, none⟩) el ec) es → Ents W a1 P k1 (es.take P) ∧ Ents W a2 (el - P) k2 (es.drop P)) := by
        have := parts P (show OwnE w4 base (.slice (some ⟨pb, po, none⟩) es.length ec) es by rw [hell]; exact O4) hok.out (by omega)
        rw [hell] at this
        exact this
      obtain ⟨b9, hb9⟩ : ∃ n, n = w4.heap.size := ⟨_, rfl⟩
      obtain ⟨W9, hW9⟩ : ∃ W, W = w4.alloc (.cells #[] 56) := ⟨_, rfl⟩
      have B9 : Below w4.heap.size w4 W9 := by rw [hW9]; exact box_below _ _
      have M9 := M4.later B9
      have hbl : be < b9 := by rw [hb9]; exact blk_lt M4.e
      have R9 : OwnE W9 b9 (.slice (some ⟨b9, 0, none⟩) 0 0) [] := by rw [hW9, hb9]; exact World.ownsRow_made w4 #[] 0 (Nat.le_refl _) (by unfold maxLen; omega) rfl
      have s9 : b9 ≤ W9.heap.size := by rw [hb9]; exact B9.size
      have hfu2 := hfu.out
      obtain ⟨v10, W10, r10, R10, g10⟩ := app_ents W9 b9 _ [] R9 a1 P k1 (es.take P) (hPR W9 (OO.out W9 M9.m.b)).1 (by simp; omega) s9
      rw [List.nil_append] at R10
      have M10 := M9.grown g10 (fun j hj => by have := (own_lt R9 j hj).1; omega)
      have s10 : b9 ≤ W10.heap.size := Nat.le_trans s9 g10.size
      have l10 : (es.take P).length = P := by rw [List.length_take]; omega
      obtain ⟨v11, W11, r11, R11, g11, _⟩ := app_entry W10 b9 v10 (es.take P) ⟨k, q, c, v⟩ R10 (by rw [l10]; omega) s10
      have M11 := M10.grown g11 (fun j hj => by have := (own_lt R10 j hj).1; omega)
      have s11 : b9 ≤ W11.heap.size := Nat.le_trans s10 g11.size
      obtain ⟨v12, W12, r12, R12, g12⟩ := app_ents W11 b9 v11 _ R11 a2 (el - P) k2 (es.drop P) (hPR W11 (OO.out W11 M11.m.b)).2 (by rw [List.length_append, l10]; simp; omega) s11
      have M12 := M11.grown g12 (fun j hj => by have := (own_lt R11 j hj).1; omega)
      obtain ⟨a10, c10, rfl⟩ := Sa.row_block R10
      obtain ⟨a11, c11, rfl⟩ := Sa.row_block R11
      obtain ⟨a4, c4, rfl⟩ := Sa.row_block R12
      have l11 : (es.take P ++ [(⟨k, q, c, v⟩ : E)]).length = P + 1 := by rw [List.length_append, l10]; rfl
      have l12 : (es.take P ++ [(⟨k, q, c, v⟩ : E)] ++ es.drop P).length = em := by rw [List.length_append, l11, List.length_drop, hem.out]; omega
      rw [l10] at r10 R10 r11
      rw [l11] at r11 R11 r12
      rw [l12] at r12 R12
      dsimp only at r11
      obtain ⟨W13, hW13⟩ : ∃ W, W = W12.setCell ⟨g, 1, none⟩ (.slice a4 em c4) := ⟨_, rfl⟩
      have hgl : g + 3 ≤ b9 := by have := M4.l; omega
      have mt3 : W13.heap[g]? = some (.cells #[.int .i64 log, .slice a4 em c4, .slice ta tl tc, .int .i64 len, .int .i64 sz, .int .u64 lo, .int .u64 hi, .bool false] 29) := by rw [hW13]; exact (set_of M12.m.t 1 _).trans rfl
      have mo3 : W13.heap[go]? = some (.cells #[.int .i64 c, .string k, .string v] 32) := by rw [hW13]; exact (set_ne _ _ _ _ _ (by have := hgo.out; omega)).trans (by have := M12.m.o; rwa [hgo.out] at this)
      have mz3 : W13.heap[gr]? = some (.cells #[.int .i64 0, .slice none 0 0, .slice none 0 0, .int .i64 0, .int .i64 0, .int .u64 0, .int .u64 0, .bool false] 29) := by rw [hW13]; exact (set_ne _ _ _ _ _ (by have := hgo.out; have := hgr.out; omega)).trans (by have := M12.m.z; rwa [show g + 2 = gr by have := hgo.out; have := hgr.out; omega] at this)
      have b13 : Below g w W13 := by rw [hW13]; exact M12.m.b.setCell (p := ⟨g, 1, none⟩) (Nat.le_refl _) _
      have s13 : g + 3 ≤ W13.heap.size := by rw [hW13]; simp; exact M12.m.s
      have R13 : OwnE W13 b9 (.slice a4 em c4) (es.take P ++ [⟨k, q, c, v⟩] ++ es.drop P) := own_blocks R12 (fun j hj => by rw [hW13]; exact set_ne _ _ _ _ _ (by have := (own_lt R12 j hj).1; omega))
      have HC := rcount_any log a4 ta em c4 tl tc len sz lo hi false q c k v W13 hlen.out hsz.out hks.out.1 hks.out.2
      rw [← hlen1.out, ← hsz1.out, ← hlo1.out, ← hhi1.out] at HC
      have c9 := cell_of M9.m.t 1 (.slice (some ⟨pb, po, none⟩) el ec) rfl
      rw [hW9] at c9 r10
      rw [hb9] at r10
      have c10' := M10.e
      have e0 := cell_of c10' 0 (.string k) rfl
      have e1 := cell_of c10' 1 (.int .u64 q) rfl
      have e2 := cell_of c10' 2 (.int .i64 c) rfl
      have e3 := cell_of c10' 3 (.string v) rfl
      have c11' := cell_of M11.m.t 1 (.slice (some ⟨pb, po, none⟩) el ec) rfl
      have c12' := cell_of M12.m.t 1 (.slice (some ⟨pb, po, none⟩) el ec) rfl
      have f12 := fz_of M12.m.t 1
      have y0 := cell_of mt3 0 (.int .i64 log) rfl
      have y1 := cell_of mt3 1 (.slice a4 em c4) rfl
      have y2 := cell_of mt3 2 (.slice ta tl tc) rfl
      have y3 := cell_of mt3 3 (.int .i64 len) rfl
      have y4 := cell_of mt3 4 (.int .i64 sz) rfl
      have y5 := cell_of mt3 5 (.int .u64 lo) rfl
      have y6 := cell_of mt3 6 (.int .u64 hi) rfl
      have y7 := cell_of mt3 7 (.bool false) rfl
      have y8 := cell_of mo3 0 (.int .i64 c) rfl
      have y9 := cell_of mo3 1 (.string k) rfl
      have y10 := cell_of mo3 2 (.string v) rfl
      rw [hW13] at y0 y1 y2 y3 y4 y5 y6 y7 y8 y9 y10
      replace HC := hid HC
      replace r10 := hid r10
      replace r11 := hid r11
      replace r12 := hid r12
      replace mz3 := hid mz3
      replace b13 := hid b13
      replace s13 := hid s13
      replace R13 := hid R13
      replace hW13 := hid hW13
      replace hW9 := hid hW9
      replace hb9 := hid hb9
      replace hgl := hid hgl
      clear M4 M9 M10 M11 M12 R9 R10 R11 R12 g10 g11 g12 B9 O4 hPR mt3 mo3 hbl s9 s10 s11 l10 l11 l12 hell hfu2 c10'
      go_wp2_with (first | (at_builtin; refine Ob.wpList_append_run rfl (.tmp 121) (.tmp 125) 25 25 rfl (.slice (some ⟨w4.heap.size, 0, none⟩) 0 0) (.slice a1 P k1) (.slice a10 P c10) rfl rfl r10.out ?_) | (at_builtin; refine Ob.wpList_append_run rfl (.tmp 127) (.tmp 129) 25 25 rfl (.slice a10 P c10) (.slice (some ⟨W10.heap.size, 0, none⟩) 1 1) (.slice a11 (P + 1) c11) rfl rfl r11.out ?_) | (at_builtin; refine Ob.wpList_append_run rfl (.tmp 131) (.tmp 135) 25 25 rfl (.slice a11 (P + 1) c11) (.slice a2 (el - P) k2) (.slice a4 em c4) rfl rfl r12.out ?_))
      rw [← hW13.out]
      refine HC.out.mono ?_
      rintro e x6 ⟨rfl, b6⟩
      have zb := (b6.block gr (blk_lt mz3.out)).trans mz3.out
      have KF := put8_at zb (.int .i64 log) (.slice a4 em c4) (.slice ta tl tc) (.int .i64 len1) (.int .i64 sz1) (.int .u64 lo1) (.int .u64 hi1) (.bool false)
      have BB : Below g w x6 := b13.out.trans (b6.mono (by have := s13.out; omega))
      have BF := put8_below BB (g := gr) (by have := hgo.out; have := hgr.out; omega) (.int .i64 log) (.slice a4 em c4) (.slice ta tl tc) (.int .i64 len1) (.int .i64 sz1) (.int .u64 lo1) (.int .u64 hi1) (.bool false)
      have R6 : OwnE (put8 x6 gr (.int .i64 log) (.slice a4 em c4) (.slice ta tl tc) (.int .i64 len1) (.int .i64 sz1) (.int .u64 lo1) (.int .u64 hi1) (.bool false)) g (.slice a4 em c4) (es.take P ++ [⟨k, q, c, v⟩] ++ es.drop P) := Mt.own_base (own_blocks (OwnE.later R13.out b6) (fun j hj => put8_ne _ _ _ (by have := (own_lt R13.out j hj).1; have := hgo.out; have := hgr.out; have := hgl.out; omega) _ _ _ _ _ _ _ _)) (by have := hgl.out; omega)
      have f0 := fz_of zb 0
      have f1 := fz_of zb 1
      have f2 := fz_of zb 2
      have f3 := fz_of zb 3
      have f4 := fz_of zb 4
      have f5 := fz_of zb 5
      have f6 := fz_of zb 6
      have f7 := fz_of zb 7
      have z0 := cell_of zb 0 (.int .i64 0) rfl
      have z1 := cell_of zb 1 (.slice none 0 0) rfl
      have z2 := cell_of zb 2 (.slice none 0 0) rfl
      have z3 := cell_of zb 3 (.int .i64 0) rfl
      have z4 := cell_of zb 4 (.int .i64 0) rfl
      have z5 := cell_of zb 5 (.int .u64 0) rfl
      have z6 := cell_of zb 6 (.int .u64 0) rfl
      have z7 := cell_of zb 7 (.bool false) rfl
      replace KF := hid KF
      replace BF := hid BF
      replace R6 := hid R6
      clear zb BB b6 HC y0 y1 y2 y3 y4 y5 y6 y7 y8 y9 y10 e0 e1 e2 e3 c9 c11' c12' f12 su1 su2 u11
      go_wp2_with fail
      have KG := KF.out
      have BG := BF.out
      have RG := R6.out
      unfold put8 at KG BG RG
      generalize hWG : ((((((((x6.setCell ⟨gr, 0, none⟩ (.int .i64 log)).setCell ⟨gr, 1, none⟩ (.slice a4 em c4)).setCell ⟨gr, 2, none⟩ (.slice ta tl tc)).setCell ⟨gr, 3, none⟩ (.int .i64 len1)).setCell ⟨gr, 4, none⟩ (.int .i64 sz1)).setCell ⟨gr, 5, none⟩ (.int .u64 lo1)).setCell ⟨gr, 6, none⟩ (.int .u64 hi1)).setCell ⟨gr, 7, none⟩ (.bool false)) = WG at *
      have q0 := cell_of KG 0 (.int .i64 log) rfl
      have q1 := cell_of KG 1 (.slice a4 em c4) rfl
      have q2 := cell_of KG 2 (.slice ta tl tc) rfl
      have q3 := cell_of KG 3 (.int .i64 len1) rfl
      have q4 := cell_of KG 4 (.int .i64 sz1) rfl
      have q5 := cell_of KG 5 (.int .u64 lo1) rfl
      have q6 := cell_of KG 6 (.int .u64 hi1) rfl
      have q7 := cell_of KG 7 (.bool false) rfl
      refine bodyPost_ret (v := .tuple #[.agg #[.int .i64 log, .slice a4 em c4, .slice ta tl tc, .int .i64 len1, .int .i64 sz1, .int .u64 lo1, .int .u64 hi1, .bool false], .int .i64 0]) (by simp [results, Try.results14, go_sem, q0, q1, q2, q3, q4, q5, q6, q7]) rfl ⟨a4, c4, rfl, ?_⟩
      rw [← hg.out]
      exact ⟨RG, BG⟩
    · go_wp2_with fail
      refine wp_region_quiet_below (by kernel_rfl) (by kernel_rfl) ?_
      repeat (first | go_big_quiet_step (first | (go_at_call 56; exact Calls.regrown_of (KY.out _ _ _ _ _))) | quiet_step (first | (go_at_call 56; exact Calls.regrown_of (KY.out _ _ _ _ _))))
      refine wpQuiet_nil ?_
      intro w4 hw4
      have b4 : Below w3.heap.size w3 w4 := by
        obtain ⟨⟨dq, osq⟩, hw''⟩ := hw4
        rw [hw'']
        exact below_regrown _ dq osq
      have M4 := M3.out.later b4
      clear hw4 b4 M3 d1 x0 x1 x2 x3
      clear y0 y1 y2 y3
      clear t1 t2 t3
      have hnf : ¬ (1048576 : Int) ≤ (el : Int) := by have := hfu.out; omega
      have u11 := cell_of M4.m.t 1 (.slice (some ⟨pb, po, none⟩) el ec) rfl
      have O4 := OO.out w4 M4.m.b
      have hell := hel.out
      obtain ⟨a1, k1, a2, k2, su1, su2, hPR⟩ : ∃ a1 k1 a2 k2, (∀ W : World, (Instr.slice 25 (.slice (some ⟨pb, po, none⟩) el ec) none (some (.int .i64 (P : Int))) none).run Try.prog W = .ok (.slice a1 P k1) W) ∧ (∀ W : World, (Instr.slice 25 (.slice (some ⟨pb, po, none⟩) el ec) (some (.int .i64 (P : Int))) none none).run Try.prog W = .ok (.slice a2 (el - P) k2) W) ∧ (∀ W : World, OwnE W base (.slice (some ⟨pb, po, none⟩) el ec) es → Ents W a1 P k1 (es.take P) ∧ Ents W a2 (el - P) k2 (es.drop P)) := by
        have := parts P (show OwnE w4 base (.slice (some ⟨pb, po, none⟩) es.length ec) es by rw [hell]; exact O4) hok.out (by omega)
        rw [hell] at this
        exact this
      obtain ⟨b9, hb9⟩ : ∃ n, n = w4.heap.size := ⟨_, rfl⟩
      obtain ⟨W9, hW9⟩ : ∃ W, W = w4.alloc (.cells #[] 56) := ⟨_, rfl⟩
      have B9 : Below w4.heap.size w4 W9 := by rw [hW9]; exact box_below _ _
      have M9 := M4.later B9
      have hbl : be < b9 := by rw [hb9]; exact blk_lt M4.e
      have R9 : OwnE W9 b9 (.slice (some ⟨b9, 0, none⟩) 0 0) [] := by rw [hW9, hb9]; exact World.ownsRow_made w4 #[] 0 (Nat.le_refl _) (by unfold maxLen; omega) rfl
      have s9 : b9 ≤ W9.heap.size := by rw [hb9]; exact B9.size
      have hfu2 := hfu.out
      obtain ⟨v10, W10, r10, R10, g10⟩ := app_ents W9 b9 _ [] R9 a1 P k1 (es.take P) (hPR W9 (OO.out W9 M9.m.b)).1 (by simp; omega) s9
      rw [List.nil_append] at R10
      have M10 := M9.grown g10 (fun j hj => by have := (own_lt R9 j hj).1; omega)
      have s10 : b9 ≤ W10.heap.size := Nat.le_trans s9 g10.size
      have l10 : (es.take P).length = P := by rw [List.length_take]; omega
      obtain ⟨v11, W11, r11, R11, g11, _⟩ := app_entry W10 b9 v10 (es.take P) ⟨k, q, c, v⟩ R10 (by rw [l10]; omega) s10
      have M11 := M10.grown g11 (fun j hj => by have := (own_lt R10 j hj).1; omega)
      have s11 : b9 ≤ W11.heap.size := Nat.le_trans s10 g11.size
      obtain ⟨v12, W12, r12, R12, g12⟩ := app_ents W11 b9 v11 _ R11 a2 (el - P) k2 (es.drop P) (hPR W11 (OO.out W11 M11.m.b)).2 (by rw [List.length_append, l10]; simp; omega) s11
      have M12 := M11.grown g12 (fun j hj => by have := (own_lt R11 j hj).1; omega)
      obtain ⟨a10, c10, rfl⟩ := Sa.row_block R10
      obtain ⟨a11, c11, rfl⟩ := Sa.row_block R11
      obtain ⟨a4, c4, rfl⟩ := Sa.row_block R12
      have l11 : (es.take P ++ [(⟨k, q, c, v⟩ : E)]).length = P + 1 := by rw [List.length_append, l10]; rfl
      have l12 : (es.take P ++ [(⟨k, q, c, v⟩ : E)] ++ es.drop P).length = em := by rw [List.length_append, l11, List.length_drop, hem.out]; omega
      rw [l10] at r10 R10 r11
      rw [l11] at r11 R11 r12
      rw [l12] at r12 R12
      dsimp only at r11
      obtain ⟨W13, hW13⟩ : ∃ W, W = W12.setCell ⟨g, 1, none⟩ (.slice a4 em c4) := ⟨_, rfl⟩
      have hgl : g + 3 ≤ b9 := by have := M4.l; omega
      have mt3 : W13.heap[g]? = some (.cells #[.int .i64 log, .slice a4 em c4, .slice ta tl tc, .int .i64 len, .int .i64 sz, .int .u64 lo, .int .u64 hi, .bool false] 29) := by rw [hW13]; exact (set_of M12.m.t 1 _).trans rfl
      have mo3 : W13.heap[go]? = some (.cells #[.int .i64 c, .string k, .string v] 32) := by rw [hW13]; exact (set_ne _ _ _ _ _ (by have := hgo.out; omega)).trans (by have := M12.m.o; rwa [hgo.out] at this)
      have mz3 : W13.heap[gr]? = some (.cells #[.int .i64 0, .slice none 0 0, .slice none 0 0, .int .i64 0, .int .i64 0, .int .u64 0, .int .u64 0, .bool false] 29) := by rw [hW13]; exact (set_ne _ _ _ _ _ (by have := hgo.out; have := hgr.out; omega)).trans (by have := M12.m.z; rwa [show g + 2 = gr by have := hgo.out; have := hgr.out; omega] at this)
      have b13 : Below g w W13 := by rw [hW13]; exact M12.m.b.setCell (p := ⟨g, 1, none⟩) (Nat.le_refl _) _
      have s13 : g + 3 ≤ W13.heap.size := by rw [hW13]; simp; exact M12.m.s
      have R13 : OwnE W13 b9 (.slice a4 em c4) (es.take P ++ [⟨k, q, c, v⟩] ++ es.drop P) := own_blocks R12 (fun j hj => by rw [hW13]; exact set_ne _ _ _ _ _ (by have := (own_lt R12 j hj).1; omega))
      have HC := rcount_any log a4 ta em c4 tl tc len sz lo hi false q c k v W13 hlen.out hsz.out hks.out.1 hks.out.2
      rw [← hlen1.out, ← hsz1.out, ← hlo1.out, ← hhi1.out] at HC
      have c9 := cell_of M9.m.t 1 (.slice (some ⟨pb, po, none⟩) el ec) rfl
      rw [hW9] at c9 r10
      rw [hb9] at r10
      have c10' := M10.e
      have e0 := cell_of c10' 0 (.string k) rfl
      have e1 := cell_of c10' 1 (.int .u64 q) rfl
      have e2 := cell_of c10' 2 (.int .i64 c) rfl
      have e3 := cell_of c10' 3 (.string v) rfl
      have c11' := cell_of M11.m.t 1 (.slice (some ⟨pb, po, none⟩) el ec) rfl
      have c12' := cell_of M12.m.t 1 (.slice (some ⟨pb, po, none⟩) el ec) rfl
      have f12 := fz_of M12.m.t 1
      have y0 := cell_of mt3 0 (.int .i64 log) rfl
      have y1 := cell_of mt3 1 (.slice a4 em c4) rfl
      have y2 := cell_of mt3 2 (.slice ta tl tc) rfl
      have y3 := cell_of mt3 3 (.int .i64 len) rfl
      have y4 := cell_of mt3 4 (.int .i64 sz) rfl
      have y5 := cell_of mt3 5 (.int .u64 lo) rfl
      have y6 := cell_of mt3 6 (.int .u64 hi) rfl
      have y7 := cell_of mt3 7 (.bool false) rfl
      have y8 := cell_of mo3 0 (.int .i64 c) rfl
      have y9 := cell_of mo3 1 (.string k) rfl
      have y10 := cell_of mo3 2 (.string v) rfl
      rw [hW13] at y0 y1 y2 y3 y4 y5 y6 y7 y8 y9 y10
      replace HC := hid HC
      replace r10 := hid r10
      replace r11 := hid r11
      replace r12 := hid r12
      replace mz3 := hid mz3
      replace b13 := hid b13
      replace s13 := hid s13
      replace R13 := hid R13
      replace hW13 := hid hW13
      replace hW9 := hid hW9
      replace hb9 := hid hb9
      replace hgl := hid hgl
      clear M4 M9 M10 M11 M12 R9 R10 R11 R12 g10 g11 g12 B9 O4 hPR mt3 mo3 hbl s9 s10 s11 l10 l11 l12 hell hfu2 c10'
      go_wp2_with (first | (at_builtin; refine Ob.wpList_append_run rfl (.tmp 121) (.tmp 125) 25 25 rfl (.slice (some ⟨w4.heap.size, 0, none⟩) 0 0) (.slice a1 P k1) (.slice a10 P c10) rfl rfl r10.out ?_) | (at_builtin; refine Ob.wpList_append_run rfl (.tmp 127) (.tmp 129) 25 25 rfl (.slice a10 P c10) (.slice (some ⟨W10.heap.size, 0, none⟩) 1 1) (.slice a11 (P + 1) c11) rfl rfl r11.out ?_) | (at_builtin; refine Ob.wpList_append_run rfl (.tmp 131) (.tmp 135) 25 25 rfl (.slice a11 (P + 1) c11) (.slice a2 (el - P) k2) (.slice a4 em c4) rfl rfl r12.out ?_))
      rw [← hW13.out]
      refine HC.out.mono ?_
      rintro e x6 ⟨rfl, b6⟩
      have zb := (b6.block gr (blk_lt mz3.out)).trans mz3.out
      have KF := put8_at zb (.int .i64 log) (.slice a4 em c4) (.slice ta tl tc) (.int .i64 len1) (.int .i64 sz1) (.int .u64 lo1) (.int .u64 hi1) (.bool false)
      have BB : Below g w x6 := b13.out.trans (b6.mono (by have := s13.out; omega))
      have BF := put8_below BB (g := gr) (by have := hgo.out; have := hgr.out; omega) (.int .i64 log) (.slice a4 em c4) (.slice ta tl tc) (.int .i64 len1) (.int .i64 sz1) (.int .u64 lo1) (.int .u64 hi1) (.bool false)
      have R6 : OwnE (put8 x6 gr (.int .i64 log) (.slice a4 em c4) (.slice ta tl tc) (.int .i64 len1) (.int .i64 sz1) (.int .u64 lo1) (.int .u64 hi1) (.bool false)) g (.slice a4 em c4) (es.take P ++ [⟨k, q, c, v⟩] ++ es.drop P) := Mt.own_base (own_blocks (OwnE.later R13.out b6) (fun j hj => put8_ne _ _ _ (by have := (own_lt R13.out j hj).1; have := hgo.out; have := hgr.out; have := hgl.out; omega) _ _ _ _ _ _ _ _)) (by have := hgl.out; omega)
      have f0 := fz_of zb 0
      have f1 := fz_of zb 1
      have f2 := fz_of zb 2
      have f3 := fz_of zb 3
      have f4 := fz_of zb 4
      have f5 := fz_of zb 5
      have f6 := fz_of zb 6
      have f7 := fz_of zb 7
      have z0 := cell_of zb 0 (.int .i64 0) rfl
      have z1 := cell_of zb 1 (.slice none 0 0) rfl
      have z2 := cell_of zb 2 (.slice none 0 0) rfl
      have z3 := cell_of zb 3 (.int .i64 0) rfl
      have z4 := cell_of zb 4 (.int .i64 0) rfl
      have z5 := cell_of zb 5 (.int .u64 0) rfl
      have z6 := cell_of zb 6 (.int .u64 0) rfl
      have z7 := cell_of zb 7 (.bool false) rfl
      replace KF := hid KF
      replace BF := hid BF
      replace R6 := hid R6
      clear zb BB b6 HC y0 y1 y2 y3 y4 y5 y6 y7 y8 y9 y10 e0 e1 e2 e3 c9 c11' c12' f12 su1 su2 u11
      go_wp2_with fail
      have KG := KF.out
      have BG := BF.out
      have RG := R6.out
      unfold put8 at KG BG RG
      generalize hWG : ((((((((x6.setCell ⟨gr, 0, none⟩ (.int .i64 log)).setCell ⟨gr, 1, none⟩ (.slice a4 em c4)).setCell ⟨gr, 2, none⟩ (.slice ta tl tc)).setCell ⟨gr, 3, none⟩ (.int .i64 len1)).setCell ⟨gr, 4, none⟩ (.int .i64 sz1)).setCell ⟨gr, 5, none⟩ (.int .u64 lo1)).setCell ⟨gr, 6, none⟩ (.int .u64 hi1)).setCell ⟨gr, 7, none⟩ (.bool false)) = WG at *
      have q0 := cell_of KG 0 (.int .i64 log) rfl
      have q1 := cell_of KG 1 (.slice a4 em c4) rfl
      have q2 := cell_of KG 2 (.slice ta tl tc) rfl
      have q3 := cell_of KG 3 (.int .i64 len1) rfl
      have q4 := cell_of KG 4 (.int .i64 sz1) rfl
      have q5 := cell_of KG 5 (.int .u64 lo1) rfl
      have q6 := cell_of KG 6 (.int .u64 hi1) rfl
      have q7 := cell_of KG 7 (.bool false) rfl
      refine bodyPost_ret (v := .tuple #[.agg #[.int .i64 log, .slice a4 em c4, .slice ta tl tc, .int .i64 len1, .int .i64 sz1, .int .u64 lo1, .int .u64 hi1, .bool false], .int .i64 0]) (by simp [results, Try.results14, go_sem, q0, q1, q2, q3, q4, q5, q6, q7]) rfl ⟨a4, c4, rfl, ?_⟩
      rw [← hg.out]
      exact ⟨RG, BG⟩
  · have i1 : ¬ (P : Int) < (el : Int) := by omega
    have i2 : ¬ P < el := hlt
    have i3 : decide ((P : Int) < (el : Int)) = false := by simpa using i1
    replace EN3 := hid EN3
    replace M3 := hid M3
    go_wp2_with fail
    refine wp_region_quiet_below (by kernel_rfl) (by kernel_rfl) ?_
    repeat (first | go_big_quiet_step (first | (go_at_call 56; exact Calls.regrown_of (KY.out _ _ _ _ _))) | quiet_step (first | (go_at_call 56; exact Calls.regrown_of (KY.out _ _ _ _ _))))
    refine wpQuiet_nil ?_
    intro w4 hw4
    have b4 : Below w3.heap.size w3 w4 := by
      obtain ⟨⟨dq, osq⟩, hw''⟩ := hw4
      rw [hw'']
      exact below_regrown _ dq osq
    have M4 := M3.out.later b4
    clear hw4 b4 M3 d1 x0 x1 x2 x3
    have hnf : ¬ (1048576 : Int) ≤ (el : Int) := by have := hfu.out; omega
    have u11 := cell_of M4.m.t 1 (.slice ea el ec) rfl
    have O4 := OO.out w4 M4.m.b
    have hell := hel.out
    obtain ⟨a1, k1, a2, k2, su1, su2, hPR⟩ : ∃ a1 k1 a2 k2, (∀ W : World, (Instr.slice 25 (.slice ea el ec) none (some (.int .i64 (P : Int))) none).run Try.prog W = .ok (.slice a1 P k1) W) ∧ (∀ W : World, (Instr.slice 25 (.slice ea el ec) (some (.int .i64 (P : Int))) none none).run Try.prog W = .ok (.slice a2 (el - P) k2) W) ∧ (∀ W : World, OwnE W base (.slice ea el ec) es → Ents W a1 P k1 (es.take P) ∧ Ents W a2 (el - P) k2 (es.drop P)) := by
      have := parts P (show OwnE w4 base (.slice ea es.length ec) es by rw [hell]; exact O4) hok.out (by omega)
      rw [hell] at this
      exact this
    obtain ⟨b9, hb9⟩ : ∃ n, n = w4.heap.size := ⟨_, rfl⟩
    obtain ⟨W9, hW9⟩ : ∃ W, W = w4.alloc (.cells #[] 56) := ⟨_, rfl⟩
    have B9 : Below w4.heap.size w4 W9 := by rw [hW9]; exact box_below _ _
    have M9 := M4.later B9
    have hbl : be < b9 := by rw [hb9]; exact blk_lt M4.e
    have R9 : OwnE W9 b9 (.slice (some ⟨b9, 0, none⟩) 0 0) [] := by rw [hW9, hb9]; exact World.ownsRow_made w4 #[] 0 (Nat.le_refl _) (by unfold maxLen; omega) rfl
    have s9 : b9 ≤ W9.heap.size := by rw [hb9]; exact B9.size
    have hfu2 := hfu.out
    obtain ⟨v10, W10, r10, R10, g10⟩ := app_ents W9 b9 _ [] R9 a1 P k1 (es.take P) (hPR W9 (OO.out W9 M9.m.b)).1 (by simp; omega) s9
    rw [List.nil_append] at R10
    have M10 := M9.grown g10 (fun j hj => by have := (own_lt R9 j hj).1; omega)
    have s10 : b9 ≤ W10.heap.size := Nat.le_trans s9 g10.size
    have l10 : (es.take P).length = P := by rw [List.length_take]; omega
    obtain ⟨v11, W11, r11, R11, g11, _⟩ := app_entry W10 b9 v10 (es.take P) ⟨k, q, c, v⟩ R10 (by rw [l10]; omega) s10
    have M11 := M10.grown g11 (fun j hj => by have := (own_lt R10 j hj).1; omega)
    have s11 : b9 ≤ W11.heap.size := Nat.le_trans s10 g11.size
    obtain ⟨v12, W12, r12, R12, g12⟩ := app_ents W11 b9 v11 _ R11 a2 (el - P) k2 (es.drop P) (hPR W11 (OO.out W11 M11.m.b)).2 (by rw [List.length_append, l10]; simp; omega) s11
    have M12 := M11.grown g12 (fun j hj => by have := (own_lt R11 j hj).1; omega)
    obtain ⟨a10, c10, rfl⟩ := Sa.row_block R10
    obtain ⟨a11, c11, rfl⟩ := Sa.row_block R11
    obtain ⟨a4, c4, rfl⟩ := Sa.row_block R12
    have l11 : (es.take P ++ [(⟨k, q, c, v⟩ : E)]).length = P + 1 := by rw [List.length_append, l10]; rfl
    have l12 : (es.take P ++ [(⟨k, q, c, v⟩ : E)] ++ es.drop P).length = em := by rw [List.length_append, l11, List.length_drop, hem.out]; omega
    rw [l10] at r10 R10 r11
    rw [l11] at r11 R11 r12
    rw [l12] at r12 R12
    dsimp only at r11
    obtain ⟨W13, hW13⟩ : ∃ W, W = W12.setCell ⟨g, 1, none⟩ (.slice a4 em c4) := ⟨_, rfl⟩
    have hgl : g + 3 ≤ b9 := by have := M4.l; omega
    have mt3 : W13.heap[g]? = some (.cells #[.int .i64 log, .slice a4 em c4, .slice ta tl tc, .int .i64 len, .int .i64 sz, .int .u64 lo, .int .u64 hi, .bool false] 29) := by rw [hW13]; exact (set_of M12.m.t 1 _).trans rfl
    have mo3 : W13.heap[go]? = some (.cells #[.int .i64 c, .string k, .string v] 32) := by rw [hW13]; exact (set_ne _ _ _ _ _ (by have := hgo.out; omega)).trans (by have := M12.m.o; rwa [hgo.out] at this)
    have mz3 : W13.heap[gr]? = some (.cells #[.int .i64 0, .slice none 0 0, .slice none 0 0, .int .i64 0, .int .i64 0, .int .u64 0, .int .u64 0, .bool false] 29) := by rw [hW13]; exact (set_ne _ _ _ _ _ (by have := hgo.out; have := hgr.out; omega)).trans (by have := M12.m.z; rwa [show g + 2 = gr by have := hgo.out; have := hgr.out; omega] at this)
    have b13 : Below g w W13 := by rw [hW13]; exact M12.m.b.setCell (p := ⟨g, 1, none⟩) (Nat.le_refl _) _
    have s13 : g + 3 ≤ W13.heap.size := by rw [hW13]; simp; exact M12.m.s
    have R13 : OwnE W13 b9 (.slice a4 em c4) (es.take P ++ [⟨k, q, c, v⟩] ++ es.drop P) := own_blocks R12 (fun j hj => by rw [hW13]; exact set_ne _ _ _ _ _ (by have := (own_lt R12 j hj).1; omega))
    have HC := rcount_any log a4 ta em c4 tl tc len sz lo hi false q c k v W13 hlen.out hsz.out hks.out.1 hks.out.2
    rw [← hlen1.out, ← hsz1.out, ← hlo1.out, ← hhi1.out] at HC
    have c9 := cell_of M9.m.t 1 (.slice ea el ec) rfl
    rw [hW9] at c9 r10
    rw [hb9] at r10
    have c10' := M10.e
    have e0 := cell_of c10' 0 (.string k) rfl
    have e1 := cell_of c10' 1 (.int .u64 q) rfl
    have e2 := cell_of c10' 2 (.int .i64 c) rfl
    have e3 := cell_of c10' 3 (.string v) rfl
    have c11' := cell_of M11.m.t 1 (.slice ea el ec) rfl
    have c12' := cell_of M12.m.t 1 (.slice ea el ec) rfl
    have f12 := fz_of M12.m.t 1
    have y0 := cell_of mt3 0 (.int .i64 log) rfl
    have y1 := cell_of mt3 1 (.slice a4 em c4) rfl
    have y2 := cell_of mt3 2 (.slice ta tl tc) rfl
    have y3 := cell_of mt3 3 (.int .i64 len) rfl
    have y4 := cell_of mt3 4 (.int .i64 sz) rfl
    have y5 := cell_of mt3 5 (.int .u64 lo) rfl
    have y6 := cell_of mt3 6 (.int .u64 hi) rfl
    have y7 := cell_of mt3 7 (.bool false) rfl
    have y8 := cell_of mo3 0 (.int .i64 c) rfl
    have y9 := cell_of mo3 1 (.string k) rfl
    have y10 := cell_of mo3 2 (.string v) rfl
    rw [hW13] at y0 y1 y2 y3 y4 y5 y6 y7 y8 y9 y10
    replace HC := hid HC
    replace r10 := hid r10
    replace r11 := hid r11
    replace r12 := hid r12
    replace mz3 := hid mz3
    replace b13 := hid b13
    replace s13 := hid s13
    replace R13 := hid R13
    replace hW13 := hid hW13
    replace hW9 := hid hW9
    replace hb9 := hid hb9
    replace hgl := hid hgl
    clear M4 M9 M10 M11 M12 R9 R10 R11 R12 g10 g11 g12 B9 O4 hPR mt3 mo3 hbl s9 s10 s11 l10 l11 l12 hell hfu2 c10'
    go_wp2_with (first | (at_builtin; refine Ob.wpList_append_run rfl (.tmp 121) (.tmp 125) 25 25 rfl (.slice (some ⟨w4.heap.size, 0, none⟩) 0 0) (.slice a1 P k1) (.slice a10 P c10) rfl rfl r10.out ?_) | (at_builtin; refine Ob.wpList_append_run rfl (.tmp 127) (.tmp 129) 25 25 rfl (.slice a10 P c10) (.slice (some ⟨W10.heap.size, 0, none⟩) 1 1) (.slice a11 (P + 1) c11) rfl rfl r11.out ?_) | (at_builtin; refine Ob.wpList_append_run rfl (.tmp 131) (.tmp 135) 25 25 rfl (.slice a11 (P + 1) c11) (.slice a2 (el - P) k2) (.slice a4 em c4) rfl rfl r12.out ?_))
    rw [← hW13.out]
    refine HC.out.mono ?_
    rintro e x6 ⟨rfl, b6⟩
    have zb := (b6.block gr (blk_lt mz3.out)).trans mz3.out
    have KF := put8_at zb (.int .i64 log) (.slice a4 em c4) (.slice ta tl tc) (.int .i64 len1) (.int .i64 sz1) (.int .u64 lo1) (.int .u64 hi1) (.bool false)
    have BB : Below g w x6 := b13.out.trans (b6.mono (by have := s13.out; omega))
    have BF := put8_below BB (g := gr) (by have := hgo.out; have := hgr.out; omega) (.int .i64 log) (.slice a4 em c4) (.slice ta tl tc) (.int .i64 len1) (.int .i64 sz1) (.int .u64 lo1) (.int .u64 hi1) (.bool false)
    have R6 : OwnE (put8 x6 gr (.int .i64 log) (.slice a4 em c4) (.slice ta tl tc) (.int .i64 len1) (.int .i64 sz1) (.int .u64 lo1) (.int .u64 hi1) (.bool false)) g (.slice a4 em c4) (es.take P ++ [⟨k, q, c, v⟩] ++ es.drop P) := Mt.own_base (own_blocks (OwnE.later R13.out b6) (fun j hj => put8_ne _ _ _ (by have := (own_lt R13.out j hj).1; have := hgo.out; have := hgr.out; have := hgl.out; omega) _ _ _ _ _ _ _ _)) (by have := hgl.out; omega)
    have f0 := fz_of zb 0
    have f1 := fz_of zb 1
    have f2 := fz_of zb 2
    have f3 := fz_of zb 3
    have f4 := fz_of zb 4
    have f5 := fz_of zb 5
    have f6 := fz_of zb 6
    have f7 := fz_of zb 7
    have z0 := cell_of zb 0 (.int .i64 0) rfl
    have z1 := cell_of zb 1 (.slice none 0 0) rfl
    have z2 := cell_of zb 2 (.slice none 0 0) rfl
    have z3 := cell_of zb 3 (.int .i64 0) rfl
    have z4 := cell_of zb 4 (.int .i64 0) rfl
    have z5 := cell_of zb 5 (.int .u64 0) rfl
    have z6 := cell_of zb 6 (.int .u64 0) rfl
    have z7 := cell_of zb 7 (.bool false) rfl
    replace KF := hid KF
    replace BF := hid BF
    replace R6 := hid R6
    clear zb BB b6 HC y0 y1 y2 y3 y4 y5 y6 y7 y8 y9 y10 e0 e1 e2 e3 c9 c11' c12' f12 su1 su2 u11
    go_wp2_with fail
    have KG := KF.out
    have BG := BF.out
    have RG := R6.out
    unfold put8 at KG BG RG
    generalize hWG : ((((((((x6.setCell ⟨gr, 0, none⟩ (.int .i64 log)).setCell ⟨gr, 1, none⟩ (.slice a4 em c4)).setCell ⟨gr, 2, none⟩ (.slice ta tl tc)).setCell ⟨gr, 3, none⟩ (.int .i64 len1)).setCell ⟨gr, 4, none⟩ (.int .i64 sz1)).setCell ⟨gr, 5, none⟩ (.int .u64 lo1)).setCell ⟨gr, 6, none⟩ (.int .u64 hi1)).setCell ⟨gr, 7, none⟩ (.bool false)) = WG at *
    have q0 := cell_of KG 0 (.int .i64 log) rfl
    have q1 := cell_of KG 1 (.slice a4 em c4) rfl
    have q2 := cell_of KG 2 (.slice ta tl tc) rfl
    have q3 := cell_of KG 3 (.int .i64 len1) rfl
    have q4 := cell_of KG 4 (.int .i64 sz1) rfl
    have q5 := cell_of KG 5 (.int .u64 lo1) rfl
    have q6 := cell_of KG 6 (.int .u64 hi1) rfl
    have q7 := cell_of KG 7 (.bool false) rfl
    refine bodyPost_ret (v := .tuple #[.agg #[.int .i64 log, .slice a4 em c4, .slice ta tl tc, .int .i64 len1, .int .i64 sz1, .int .u64 lo1, .int .u64 hi1, .bool false], .int .i64 0]) (by simp [results, Try.results14, go_sem, q0, q1, q2, q3, q4, q5, q6, q7]) rfl ⟨a4, c4, rfl, ?_⟩
    rw [← hg.out]
    exact ⟨RG, BG⟩
end Go.Proofs.Ytefihoohdaegeaa.Df

/- The document's Table.Add of a tomb. -/
import Derived.Test.YtefihoohdaegeaaDb
namespace Go.Proofs.Ytefihoohdaegeaa.Dc
open Go.ChangeShapes Go.WideShapes Go.ChangeAt Go.RowKit Go.Shelf
open Go.Sort (grow)
open Go.Proofs.Ytefihoohdaegeaa.Lx (hid lt)
open Go.Proofs.Ytefihoohdaegeaa.Ik
open Go.Proofs.Ytefihoohdaegeaa.Ck
open Go.Proofs.Ytefihoohdaegeaa.Da
open Go.Proofs.Ytefihoohdaegeaa.Db
open Go.Proofs.Ytefihoohdaegeaa.Tm (T zt At3 Tbs addr_add)
open Go.Proofs.Ytefihoohdaegeaa.Rw
open Go.Proofs.Ytefihoohdaegeaa.Fm (has own_lt own_blocks)
open Go.Proofs.Ytefihoohdaegeaa.Mm (box_below)
open Go.Proofs.Ytefihoohdaegeaa.Tr (new_at cell_of size_alloc blk_lt fz_of set_of set_ne)
set_option linter.unusedVariables false
set_option linter.unusedSimpArgs false

theorem wp_append_run {P : Program} {w w' : World} {o : Oper} {a : Act} {K : Act → World → Prop} {Q : Exit → Act → World → Prop} (s x : Operand) (t tx : TypeId) (hop : o.op = Op.call { callee := Callee.builtin Builtin.append, args := #[s, x], argTypes := #[t, tx] })
    (u v v' : Value) (hs : a.eval s = u) (hx : a.eval x = v) (hrun : (Builtin.append_ #[t, tx] o.type #[u, v]).run P w = .ok v' w') (hK : K (a.put o.dst v') w') : o.wp P a w K Q := by
  unfold Oper.wp
  simp [execOp, hop, resolve, invoke, builtin, hs, hx, hrun, Result.andThen]
  exact hK
/-- What stays of the boxes, whatever the table's box holds. -/
structure Mj (w W : World) (g : Nat) (O : Array Value) : Prop where
  o : W.heap[g + 1]? = some (.cells O 32)
  b : Below g w W
  s : g + 3 ≤ W.heap.size
theorem mj {w W : World} {g : Nat} {A O : Array Value} (h : Mi w W g A O) : Mj w W g O := ⟨h.o, h.b, h.s⟩
theorem tbs_cells {w : World} {ad : Addr} {n c : Nat} {xs : List T} (H : Tbs w (some ad) n c xs) : ∀ (q : Nat) (u : Value), (tcs xs)[q]? = some u → w.cell? (ad.add q) = some u := by
  intro q u hq
  have hql : q < (tcs xs).length := by
    rcases Nat.lt_or_ge q (tcs xs).length with h | h
    · exact h
    · rw [List.getElem?_eq_none h] at hq; cases hq
  rw [tcs_len] at hql
  obtain ⟨b, o, p⟩ := ad
  have hl := H.1
  obtain ⟨rfl, hat⟩ := H.2.2.2.2 b o p rfl (by omega)
  have h3 := hat (q / 3) (by omega)
  have hg := tcs_get xs (q / 3) (by omega)
  rw [addr_add]
  have hq3 : q % 3 = 0 ∨ q % 3 = 1 ∨ q % 3 = 2 := by omega
  rcases hq3 with h | h | h
  · have e : q = q / 3 * 3 := by omega
    rw [e] at hq ⊢
    rw [hg.1] at hq
    rw [← hq]; exact h3.1
  · have e : q = q / 3 * 3 + 1 := by omega
    rw [e] at hq ⊢
    rw [hg.2.1] at hq
    rw [← hq]
    have := h3.2.1
    rwa [Nat.add_assoc] at this
  · have e : q = q / 3 * 3 + 2 := by omega
    rw [e] at hq ⊢
    rw [hg.2.2] at hq
    rw [← hq]
    have := h3.2.2
    rwa [Nat.add_assoc] at this
theorem OwnT.later {w w' : World} {base : Nat} {v : Value} {xs : List T} (h : OwnT w base v xs) (b : Below w.heap.size w w') : OwnT w' base v xs := own_blocks h (fun j hj => b.block j (own_lt h j hj).2)
/-- Tombs put behind a row of one's own. -/
theorem app_tombs (w : World) (base : Nat) (v : Value) (l : List T) (H : OwnT w base v l) (a : Option Addr) (m c : Nat) (ys : List T) (HB : Tbs w a m c ys) (hn : (l.length + m) * 40 ≤ 140737488355328) (hbase : base ≤ w.heap.size) :
    ∃ v' w', (Builtin.append_ #[26, 26] 26 #[v, .slice a m c]).run Try.prog w = .ok v' w' ∧ OwnT w' base v' (l ++ ys) ∧ w.grownBy w' v.ownBlock := by
  obtain ⟨i0, hi, hz0, hz1, hz2⟩ := info_parts infoT
  cases a with
  | none =>
    obtain ⟨rfl, rfl⟩ := HB.2.2.1 rfl
    have hy : ys = [] := List.eq_nil_of_length_eq_zero HB.1
    subst hy
    exact ⟨v, w, run_append_owned_none (P := Try.prog) (w := w) base 26 26 111 i0 3 Try.underlying26 hi v l.length _ H, by rw [List.append_nil]; exact H, World.grownBy.refl _ _⟩
  | some ad =>
    obtain ⟨v5, W5, r5, o5, g5, _⟩ := run_append_own_at (P := Try.prog) w base 26 26 111 i0 _ 3 40 Try.underlying26 hi hz0 hz1 hz2 rfl (by decide) v l.length _ H ad m c (tcs ys) (by rw [tcs_len, HB.1]) (tbs_cells HB) (tcs_one ys) (by unfold maxLen; omega) (by omega) hbase
    refine ⟨v5, W5, r5, ?_, g5⟩
    unfold OwnT
    rw [List.length_append, tcs_append, HB.1]
    exact o5
theorem has_false {ts : List T} {k : ByteArray} {q : Int} (h : ∀ j, j < ts.length → ¬ ((ts.getD j zt).b = k ∧ (ts.getD j zt).s = q)) : has ts k q = false := by
  cases hh : has ts k q with
  | false => rfl
  | true =>
    unfold has at hh
    rw [List.any_eq_true] at hh
    obtain ⟨x, hx, hd⟩ := hh
    obtain ⟨i, hi, e⟩ := List.getElem_of_mem hx
    have hd' : x.b.data.toList = k.data.toList ∧ x.s = q := by simpa using hd
    refine absurd ⟨?_, ?_⟩ (h i hi)
    · rw [List.getD_eq_getElem?_getD, List.getElem?_eq_getElem hi, e]; exact Vl.data_inj hd'.1
    · rw [List.getD_eq_getElem?_getD, List.getElem?_eq_getElem hi, e]; exact hd'.2
theorem has_true {ts : List T} {k : ByteArray} {q : Int} (j : Nat) (hj : j < ts.length) (h : (ts.getD j zt).b = k ∧ (ts.getD j zt).s = q) : has ts k q = true := by
  unfold has
  rw [List.any_eq_true]
  refine ⟨ts[j], List.getElem_mem hj, ?_⟩
  rw [List.getD_eq_getElem?_getD, List.getElem?_eq_getElem hj] at h
  have h' : ts[j].b = k ∧ ts[j].s = q := h
  simp [h'.1, h'.2]
set_option maxHeartbeats 8000000 in
set_option maxRecDepth 100000 in
theorem radd_there (log : Int) (ea ta : Option Addr) (el ec tl tc : Nat) (len sz lo hi : Int) (q : Int) (k v : ByteArray) (h : Int) (ts : List T) (w : World) (hk : k.size ≤ maxLen) (hv : v.size ≤ maxLen) (hq0 : ¬ q < 1) (hq : ¬ 72057594037927935 < q) (hm : may 2 k v = true) (hh0 : ¬ h < 1) (hh : ¬ 12 < h) (HT : Tbs w ta tl tc ts) (htl : (tl + 1) * 40 ≤ 140737488355328) (hlen : 0 ≤ len ∧ len ≤ 4000000000000000000) (hsz : 0 ≤ sz ∧ sz ≤ 4000000000000000000) (hh2 : has ts k q = true) :
    Calls Try.prog 14 #[.agg #[.int .i64 log, .slice ea el ec, .slice ta tl tc, .int .i64 len, .int .i64 sz, .int .u64 lo, .int .u64 hi, .bool false], .int .u64 q, .agg #[.int .i64 2, .string k, .string v], .int .i64 h] w fun e w' => e = .returned (.tuple #[.agg #[.int .i64 log, .slice ea el ec, .slice ta tl tc, .int .i64 len, .int .i64 sz, .int .u64 lo, .int .u64 hi, .bool false], .int .i64 81]) ∧ Below w.heap.size w w' := by
  have M0 := Mi.start w #[.int .i64 log, .slice ea el ec, .slice ta tl tc, .int .i64 len, .int .i64 sz, .int .u64 lo, .int .u64 hi, .bool false] #[.int .i64 2, .string k, .string v]
  obtain ⟨g, hg⟩ : ∃ n, n = w.heap.size := ⟨_, rfl⟩
  obtain ⟨W0, hW0⟩ : ∃ W, W = ((w.alloc (.cells #[.int .i64 log, .slice ea el ec, .slice ta tl tc, .int .i64 len, .int .i64 sz, .int .u64 lo, .int .u64 hi, .bool false] 29)).alloc (.cells #[.int .i64 2, .string k, .string v] 32)).alloc (.cells #[.int .i64 0, .slice none 0 0, .slice none 0 0, .int .i64 0, .int .i64 0, .int .u64 0, .int .u64 0, .bool false] 29) := ⟨_, rfl⟩
  rw [← hW0, ← hg] at M0
  have HM := hid (rmay_any 2 k v W0 hk hv)
  rw [hm] at HM
  obtain ⟨go, hgo⟩ : ∃ n, g + 1 = n := ⟨_, rfl⟩
  obtain ⟨gr, hgr⟩ : ∃ n, go + 1 = n := ⟨_, rfl⟩
  have hxl := hid HT.1
  have TT : Hid (∀ W, Below g w W → Tbs W ta tl tc ts) := fun W hb => Tm.Tbs.later HT (by rw [← hg]; exact hb)
  have hks : Hid (k.size ≤ 1000000 ∧ v.size ≤ 1000000) := by
    have := Ad.may_sizes hm
    show _ ∧ _
    omega
  replace M0 := hid M0
  replace hW0 := hid hW0
  replace hg := hid hg
  replace hgo := hid hgo
  replace hgr := hid hgr
  replace hh2 := hid hh2
  replace htl := hid htl
  replace hlen := hid hlen
  replace hsz := hid hsz
  clear hm HT hk hv
  go_enter Try.func14, Try.ntmps14
  go_wp2_with fail
  rw [← hW0.out, ← hg.out, hgo.out, hgr.out]
  refine HM.out.mono ?_
  rintro e w1 ⟨rfl, b1⟩
  have M1 := M0.out.later b1
  have mo := M1.o
  rw [hgo.out] at mo
  have o0 := cell_of mo 0 (.int .i64 2) rfl
  replace M1 := hid M1
  clear mo b1 HM M0 hW0
  go_wp2_with fail
  go_loopw [10] (fun iv wr => ∃ (i : Nat), i ≤ tl ∧ iv = .int .i64 (i : Int) ∧ Hid (∀ j, j < i → ¬ ((ts.getD j zt).b = k ∧ (ts.getD j zt).s = q)) ∧ Hid (Mi w wr g #[.int .i64 log, .slice ea el ec, .slice ta tl tc, .int .i64 len, .int .i64 sz, .int .u64 lo, .int .u64 hi, .bool false] #[.int .i64 2, .string k, .string v]))
    (fun iv _ => tl - (intOf iv).toNat)
  case atStart => exact ⟨0, Nat.zero_le _, rfl, fun j hj => by omega, M1⟩
  case round =>
    obtain ⟨i, hi', rfl, HN, HM⟩ := hrel
    have htl2 := htl.out
    have mt := HM.out.t
    have mo := HM.out.o
    rw [hgo.out] at mo
    have c2 := cell_of mt 2 (.slice ta tl tc) rfl
    have p1 := cell_of mo 1 (.string k) rfl
    by_cases hlt : i < tl
    · have hA := TT.out wr HM.out.b
      obtain ⟨ad, rfl⟩ : ∃ ad, ta = some ad := by
        cases ta with
        | none => have := (hA.2.2.1 rfl).1; omega
        | some ad => exact ⟨ad, rfl⟩
      obtain ⟨pb, po, psp⟩ := ad
      obtain ⟨hsp, hat⟩ := hA.2.2.2.2 pb po psp rfl (by omega)
      subst hsp
      have hcp := hA.2.1
      obtain ⟨d0, d1, d2⟩ := hat i hlt
      obtain ⟨x, hx⟩ : ∃ x, x = ts.getD i zt := ⟨_, rfl⟩
      rw [← hx] at d0 d1 d2
      obtain ⟨xb, xe, xs⟩ := x
      dsimp only at d0 d1 d2
      have i1 : (i : Int) < (tl : Int) := by omega
      have NX : Hid (¬ (xb = k ∧ xs = q) → ∀ j, j < i + 1 → ¬ ((ts.getD j zt).b = k ∧ (ts.getD j zt).s = q)) := fun hno j hj => by
        by_cases hji : j = i
        · rw [hji, ← hx]; exact hno
        · exact HN.out j (by omega)
      have YS : Hid (xb = k ∧ xs = q → has ts k q = true) := fun hy => has_true i (by have := hxl.out; omega) (by rw [← hx]; exact hy)
      replace hA := hid hA
      replace mt := hid mt
      replace mo := hid mo
      replace hx := hid hx
      clear hat
      by_cases hb : xb = k
      · have tb : (xb.toList == k.toList) = true := by rw [hb]; simp
        by_cases hs : xs = q
        · have ts' : (xs == q) = true := by rw [hs]; simp
          have YY := YS.out ⟨hb, hs⟩
          replace hb := hid hb
          replace hs := hid hs
          clear YY
          go_wp2_with fail
          go_quiet (fail)
          have bq := Li.drewN_below wr nq
          have M2 := HM.out.later bq
          generalize wr.drewN nq = w2 at *
          obtain ⟨mt2, mo2, mz2, mb2, ms2⟩ := M2
          rw [show g + 2 = gr by have := hgo.out; have := hgr.out; omega] at mz2
          have KF := put8_at mz2 (.int .i64 log) (.slice ea el ec) (.slice (some ⟨pb, po, none⟩) tl tc) (.int .i64 len) (.int .i64 sz) (.int .u64 lo) (.int .u64 hi) (.bool false)
          have BF := put8_below mb2 (g := gr) (by have := hgo.out; have := hgr.out; omega) (.int .i64 log) (.slice ea el ec) (.slice (some ⟨pb, po, none⟩) tl tc) (.int .i64 len) (.int .i64 sz) (.int .u64 lo) (.int .u64 hi) (.bool false)
          have u0 := cell_of mt2 0 (.int .i64 log) rfl
          have u1 := cell_of mt2 1 (.slice ea el ec) rfl
          have u2 := cell_of mt2 2 (.slice (some ⟨pb, po, none⟩) tl tc) rfl
          have u3 := cell_of mt2 3 (.int .i64 len) rfl
          have u4 := cell_of mt2 4 (.int .i64 sz) rfl
          have u5 := cell_of mt2 5 (.int .u64 lo) rfl
          have u6 := cell_of mt2 6 (.int .u64 hi) rfl
          have u7 := cell_of mt2 7 (.bool false) rfl
          have f0 := fz_of mz2 0
          have f1 := fz_of mz2 1
          have f2 := fz_of mz2 2
          have f3 := fz_of mz2 3
          have f4 := fz_of mz2 4
          have f5 := fz_of mz2 5
          have f6 := fz_of mz2 6
          have f7 := fz_of mz2 7
          have z0 := cell_of mz2 0 (.int .i64 0) rfl
          have z1 := cell_of mz2 1 (.slice none 0 0) rfl
          have z2 := cell_of mz2 2 (.slice none 0 0) rfl
          have z3 := cell_of mz2 3 (.int .i64 0) rfl
          have z4 := cell_of mz2 4 (.int .i64 0) rfl
          have z5 := cell_of mz2 5 (.int .u64 0) rfl
          have z6 := cell_of mz2 6 (.int .u64 0) rfl
          have z7 := cell_of mz2 7 (.bool false) rfl
          have q0 := cell_of KF 0 (.int .i64 log) rfl
          have q1 := cell_of KF 1 (.slice ea el ec) rfl
          have q2 := cell_of KF 2 (.slice (some ⟨pb, po, none⟩) tl tc) rfl
          have q3 := cell_of KF 3 (.int .i64 len) rfl
          have q4 := cell_of KF 4 (.int .i64 sz) rfl
          have q5 := cell_of KF 5 (.int .u64 lo) rfl
          have q6 := cell_of KF 6 (.int .u64 hi) rfl
          have q7 := cell_of KF 7 (.bool false) rfl
          unfold put8 at BF q0 q1 q2 q3 q4 q5 q6 q7
          replace BF := hid BF
          replace q0 := hid q0
          replace q1 := hid q1
          replace q2 := hid q2
          replace q3 := hid q3
          replace q4 := hid q4
          replace q5 := hid q5
          replace q6 := hid q6
          replace q7 := hid q7
          clear mt2 mo2 mz2 mb2 KF ms2 bq HM mt mo
          go_wp2_with fail
          refine bodyPost_ret (v := .tuple #[.agg #[.int .i64 log, .slice ea el ec, .slice (some ⟨pb, po, none⟩) tl tc, .int .i64 len, .int .i64 sz, .int .u64 lo, .int .u64 hi, .bool false], .int .i64 81]) (by simp [results, Try.results14, go_sem, q0.out, q1.out, q2.out, q3.out, q4.out, q5.out, q6.out, q7.out]) rfl ⟨rfl, ?_⟩
          rw [← hg.out]
          exact BF.out
        · have ts' : (xs == q) = false := beq_eq_false_iff_ne.2 hs
          have NN := hid (NX.out (fun h => hs h.2))
          clear YS NX
          go_wp2_with fail
          go_quiet (fail)
          have M2 := hid (HM.out.later (Li.drewN_below wr nq))
          go_wp2_with fail
          refine ⟨⟨i + 1, by omega, by first | rfl | go_num, NN, M2⟩, ?_⟩
          simp only [intOf]; omega
      · have tb : (xb.toList == k.toList) = false := text_ne hb
        have NN := hid (NX.out (fun h => hb h.1))
        clear YS NX
        go_wp2_with fail
        go_quiet (fail)
        have M2 := hid (HM.out.later (Li.drewN_below wr nq))
        go_wp2_with fail
        refine ⟨⟨i + 1, by omega, by first | rfl | go_num, NN, M2⟩, ?_⟩
        simp only [intOf]; omega
    · have hil : i = tl := by omega
      have ik : ¬ (i : Int) < (tl : Int) := by omega
      have := has_false (ts := ts) (k := k) (q := q) (fun j hj => HN.out j (by have := hxl.out; omega))
      rw [hh2.out] at this
      cases this
set_option maxHeartbeats 8000000 in
set_option maxRecDepth 100000 in
theorem radd_tomb (log : Int) (ea ta : Option Addr) (el ec tl tc : Nat) (len sz lo hi : Int) (q : Int) (k v : ByteArray) (h : Int) (ts : List T) (w : World) (hk : k.size ≤ maxLen) (hv : v.size ≤ maxLen) (hq0 : ¬ q < 1) (hq : ¬ 72057594037927935 < q) (hm : may 2 k v = true) (hh0 : ¬ h < 1) (hh : ¬ 12 < h) (HT : Tbs w ta tl tc ts) (htl : (tl + 1) * 40 ≤ 140737488355328) (hlen : 0 ≤ len ∧ len ≤ 4000000000000000000) (hsz : 0 ≤ sz ∧ sz ≤ 4000000000000000000) (hh2 : has ts k q = false) (len1 sz1 lo1 hi1 : Int) (tm : Nat) (hlen1 : len1 = len + 1) (hsz1 : sz1 = sz + (16 + (k.size : Int) + v.size)) (hlo1 : lo1 = if len = 0 ∨ q < lo then q else lo) (hhi1 : hi1 = max hi q) (htm : tm = tl + 1) :
    Calls Try.prog 14 #[.agg #[.int .i64 log, .slice ea el ec, .slice ta tl tc, .int .i64 len, .int .i64 sz, .int .u64 lo, .int .u64 hi, .bool false], .int .u64 q, .agg #[.int .i64 2, .string k, .string v], .int .i64 h] w fun e w' => ∃ ta' tc', e = .returned (.tuple #[.agg #[.int .i64 log, .slice ea el ec, .slice ta' tm tc', .int .i64 len1, .int .i64 sz1, .int .u64 lo1, .int .u64 hi1, .bool false], .int .i64 0]) ∧ OwnT w' w.heap.size (.slice ta' tm tc') (ts ++ [⟨k, v, q⟩]) ∧ Below w.heap.size w w' := by
  replace hlen1 := hid hlen1
  replace hsz1 := hid hsz1
  replace hlo1 := hid hlo1
  replace hhi1 := hid hhi1
  replace htm := hid htm
  have M0 := Mi.start w #[.int .i64 log, .slice ea el ec, .slice ta tl tc, .int .i64 len, .int .i64 sz, .int .u64 lo, .int .u64 hi, .bool false] #[.int .i64 2, .string k, .string v]
  obtain ⟨g, hg⟩ : ∃ n, n = w.heap.size := ⟨_, rfl⟩
  obtain ⟨W0, hW0⟩ : ∃ W, W = ((w.alloc (.cells #[.int .i64 log, .slice ea el ec, .slice ta tl tc, .int .i64 len, .int .i64 sz, .int .u64 lo, .int .u64 hi, .bool false] 29)).alloc (.cells #[.int .i64 2, .string k, .string v] 32)).alloc (.cells #[.int .i64 0, .slice none 0 0, .slice none 0 0, .int .i64 0, .int .i64 0, .int .u64 0, .int .u64 0, .bool false] 29) := ⟨_, rfl⟩
  rw [← hW0, ← hg] at M0
  have HM := hid (rmay_any 2 k v W0 hk hv)
  rw [hm] at HM
  obtain ⟨go, hgo⟩ : ∃ n, g + 1 = n := ⟨_, rfl⟩
  obtain ⟨gr, hgr⟩ : ∃ n, go + 1 = n := ⟨_, rfl⟩
  have hxl := hid HT.1
  have TT : Hid (∀ W, Below g w W → Tbs W ta tl tc ts) := fun W hb => Tm.Tbs.later HT (by rw [← hg]; exact hb)
  have hks : Hid (k.size ≤ 1000000 ∧ v.size ≤ 1000000) := by
    have := Ad.may_sizes hm
    show _ ∧ _
    omega
  replace M0 := hid M0
  replace hW0 := hid hW0
  replace hg := hid hg
  replace hgo := hid hgo
  replace hgr := hid hgr
  replace hh2 := hid hh2
  replace htl := hid htl
  replace hlen := hid hlen
  replace hsz := hid hsz
  clear hm HT hk hv
  go_enter Try.func14, Try.ntmps14
  go_wp2_with fail
  rw [← hW0.out, ← hg.out, hgo.out, hgr.out]
  refine HM.out.mono ?_
  rintro e w1 ⟨rfl, b1⟩
  have M1 := M0.out.later b1
  have mo := M1.o
  rw [hgo.out] at mo
  have o0 := cell_of mo 0 (.int .i64 2) rfl
  replace M1 := hid M1
  clear mo b1 HM M0 hW0
  go_wp2_with fail
  go_loopw [10] (fun iv wr => ∃ (i : Nat), i ≤ tl ∧ iv = .int .i64 (i : Int) ∧ Hid (∀ j, j < i → ¬ ((ts.getD j zt).b = k ∧ (ts.getD j zt).s = q)) ∧ Hid (Mi w wr g #[.int .i64 log, .slice ea el ec, .slice ta tl tc, .int .i64 len, .int .i64 sz, .int .u64 lo, .int .u64 hi, .bool false] #[.int .i64 2, .string k, .string v]))
    (fun iv _ => tl - (intOf iv).toNat)
  case atStart => exact ⟨0, Nat.zero_le _, rfl, fun j hj => by omega, M1⟩
  case round =>
    obtain ⟨i, hi', rfl, HN, HM⟩ := hrel
    have htl2 := htl.out
    have mt := HM.out.t
    have mo := HM.out.o
    rw [hgo.out] at mo
    have c2 := cell_of mt 2 (.slice ta tl tc) rfl
    have p1 := cell_of mo 1 (.string k) rfl
    by_cases hlt : i < tl
    · have hA := TT.out wr HM.out.b
      obtain ⟨ad, rfl⟩ : ∃ ad, ta = some ad := by
        cases ta with
        | none => have := (hA.2.2.1 rfl).1; omega
        | some ad => exact ⟨ad, rfl⟩
      obtain ⟨pb, po, psp⟩ := ad
      obtain ⟨hsp, hat⟩ := hA.2.2.2.2 pb po psp rfl (by omega)
      subst hsp
      have hcp := hA.2.1
      obtain ⟨d0, d1, d2⟩ := hat i hlt
      obtain ⟨x, hx⟩ : ∃ x, x = ts.getD i zt := ⟨_, rfl⟩
      rw [← hx] at d0 d1 d2
      obtain ⟨xb, xe, xs⟩ := x
      dsimp only at d0 d1 d2
      have i1 : (i : Int) < (tl : Int) := by omega
      have NX : Hid (¬ (xb = k ∧ xs = q) → ∀ j, j < i + 1 → ¬ ((ts.getD j zt).b = k ∧ (ts.getD j zt).s = q)) := fun hno j hj => by
        by_cases hji : j = i
        · rw [hji, ← hx]; exact hno
        · exact HN.out j (by omega)
      have YS : Hid (xb = k ∧ xs = q → has ts k q = true) := fun hy => has_true i (by have := hxl.out; omega) (by rw [← hx]; exact hy)
      replace hA := hid hA
      replace mt := hid mt
      replace mo := hid mo
      replace hx := hid hx
      clear hat
      by_cases hb : xb = k
      · have tb : (xb.toList == k.toList) = true := by rw [hb]; simp
        by_cases hs : xs = q
        · have ts' : (xs == q) = true := by rw [hs]; simp
          have YY := YS.out ⟨hb, hs⟩
          replace hb := hid hb
          replace hs := hid hs
          rw [hh2.out] at YY
          cases YY
        · have ts' : (xs == q) = false := beq_eq_false_iff_ne.2 hs
          have NN := hid (NX.out (fun h => hs h.2))
          clear YS NX
          go_wp2_with fail
          go_quiet (fail)
          have M2 := hid (HM.out.later (Li.drewN_below wr nq))
          go_wp2_with fail
          refine ⟨⟨i + 1, by omega, by first | rfl | go_num, NN, M2⟩, ?_⟩
          simp only [intOf]; omega
      · have tb : (xb.toList == k.toList) = false := text_ne hb
        have NN := hid (NX.out (fun h => hb h.1))
        clear YS NX
        go_wp2_with fail
        go_quiet (fail)
        have M2 := hid (HM.out.later (Li.drewN_below wr nq))
        go_wp2_with fail
        refine ⟨⟨i + 1, by omega, by first | rfl | go_num, NN, M2⟩, ?_⟩
        simp only [intOf]; omega
    · have hil : i = tl := by omega
      have ik : ¬ (i : Int) < (tl : Int) := by omega
      clear HN
      have tok : Hid ((⟨k, v, q⟩ : T).ok) := by
        show T.ok _
        have := hks.out
        unfold T.ok maxLen
        dsimp only
        omega
      replace mt := hid mt
      replace mo := hid mo
      clear p1 o0
      go_wp2_with fail
      clear c2 mt mo
      refine wp_region_held_drew (S := fun W => Mj w W g #[.int .i64 2, .string k, .string v]) (by kernel_rfl) (mj (HM.out.later ((Below.refl _ _).drew))) (fun hS => ?_)
      have hM := HM.out.later ((Below.refl wr.heap.size wr).drew)
      generalize World.drew wr = x0 at *
      have hs0 := hM.s
      refine wpAnyH_take (i := 1) (v := ?v1) rfl (by kernel_rfl) (by kernel_rfl) (by kernel_rfl) (fun _ _ _ h => h) (Or.inl ⟨by rfl, ?h1⟩) hS ?_
      case h1 => (intro W hW; go_simp; try (with_reducible rfl))
      go_simp
      refine wpAnyH_take (i := 4) (v := ?v2) rfl (by kernel_rfl) (by kernel_rfl) (by kernel_rfl) (fun _ _ _ h => h) (Or.inl ⟨by rfl, ?h2⟩) hS ?_
      case h2 => (intro W hW; go_simp; try (with_reducible rfl))
      go_simp
      refine wpAnyH_take (i := 5) (v := ?v3) rfl (by kernel_rfl) (by kernel_rfl) (by kernel_rfl) (fun _ _ _ h => h) (Or.inl ⟨by rfl, ?h3⟩) hS ?_
      case h3 => (intro W hW; have mo := hW.o; rw [hgo.out] at mo; have p1 := cell_of mo 1 (.string k) rfl; go_simp; try (with_reducible rfl))
      go_simp
      refine wpAnyH_take (i := 6) (v := ?v4) rfl (by kernel_rfl) (by kernel_rfl) (by kernel_rfl) (fun _ _ _ h => h) (Or.inl ⟨by rfl, ?h4⟩) hS ?_
      case h4 => (intro W hW; go_simp; try (with_reducible rfl))
      go_simp
      refine wpAnyH_take (i := 7) (v := ?v5) rfl (by kernel_rfl) (by kernel_rfl) (by kernel_rfl) (fun _ _ _ h => h) (Or.inl ⟨by rfl, ?h5⟩) hS ?_
      case h5 => (intro W hW; have mo := hW.o; rw [hgo.out] at mo; have p2 := cell_of mo 2 (.string v) rfl; go_simp; try (with_reducible rfl))
      go_simp
      refine wpAnyH_take (i := 8) (v := ?v6) rfl (by kernel_rfl) (by kernel_rfl) (by kernel_rfl) (fun _ _ _ h => h) (Or.inl ⟨by rfl, ?h6⟩) hS ?_
      case h6 => (intro W hW; go_simp; try (with_reducible rfl))
      go_simp
      refine wpAnyH_take (i := 9) (v := ?v7) rfl (by kernel_rfl) (by kernel_rfl) (by kernel_rfl) (fun _ _ _ h => h) (Or.inl ⟨by rfl, ?h7⟩) hS ?_
      case h7 => (intro W hW; go_simp; try (with_reducible rfl))
      go_simp
      refine wpAnyH_ready (rs := [0, 2, 10]) (by kernel_rfl) (by simp) ?_
      refine AllReadyH.cons rfl (fun K hK => ?_) ?_
      · go_simp
        refine hK.out _ _ (mj (hM.later (box_below _ _))) (fun hS => ?_)
        clear hK K
        replace hM := hM.later (box_below x0 (.cells #[] 111))
        have R0 : OwnT (x0.alloc (.cells #[] 111)) (g + 3) (.slice (some ⟨x0.heap.size, 0, none⟩) 0 0) [] := World.ownsRow_made x0 #[] 0 hs0 (by unfold maxLen; omega) rfl
        obtain ⟨b0, hb0⟩ : ∃ n, n = x0.heap.size := ⟨_, rfl⟩
        rw [← hb0] at R0 ⊢
        generalize x0.alloc (.cells #[] 111) = x1 at *
        replace hs0 := hM.s
        refine wpAnyH_ready (rs := [2, 10]) (by kernel_rfl) (by simp) ?_
        refine AllReadyH.cons rfl (fun K hK => ?_) ?_
        · have c2 := cell_of hM.t 2 (.slice ta tl tc) rfl
          go_simp
          refine hK.out _ _ hS (fun hS => ?_)
          clear hK K c2
          refine wpAnyH_ready (rs := [3, 10]) (by kernel_rfl) (by simp) ?_
          refine AllReadyH.cons rfl (fun K hK => ?_) ?_
          · obtain ⟨v3, x2, r3, R3, g3⟩ := app_tombs x1 (g + 3) _ [] R0 ta tl tc ts (TT.out x1 hM.b) (by simp; omega) hs0
            rw [List.nil_append] at R3
            obtain ⟨a3, c3, rfl⟩ := Sa.row_block R3
            rw [hxl.out] at r3 R3
            refine wp_append_run (.tmp 69) (.tmp 71) 26 26 rfl (.slice (some ⟨b0, 0, none⟩) 0 0) (.slice ta tl tc) (.slice a3 tl c3) (by go_simp) (by go_simp) r3 ?_
            go_simp
            refine hK.out _ _ (mj (hM.grown g3 (fun j hj => (own_lt R0 j hj).1))) (fun hS => ?_)
            clear hK K r3
            replace hM := hM.grown g3 (fun j hj => (own_lt R0 j hj).1)
            clear g3 R0
            replace hs0 := hM.s
            refine wpAnyH_ready (rs := [10]) (by kernel_rfl) (by simp) ?_
            refine AllReadyH.cons rfl (fun K hK => ?_) ?_
            · go_simp
              refine hK.out _ _ (mj (hM.later (box_below _ _))) (fun hS => ?_)
              clear hK K
              replace hM := hM.later (box_below x2 (.cells #[.string k, .string v, .int .u64 q] 111))
              have k10 := new_at x2 (.cells #[.string k, .string v, .int .u64 q] 111)
              obtain ⟨b10, hb10⟩ : ∃ n, n = x2.heap.size := ⟨_, rfl⟩
              rw [← hb10] at k10 ⊢
              replace R3 := OwnT.later R3 (box_below x2 (.cells #[.string k, .string v, .int .u64 q] 111))
              generalize x2.alloc (.cells #[.string k, .string v, .int .u64 q] 111) = x3 at *
              replace hs0 := hM.s
              refine wpAnyH_ready (rs := [11]) (by kernel_rfl) (by simp) ?_
              refine AllReadyH.cons rfl (fun K hK => ?_) ?_
              · have T10 : Tbs x3 (some ⟨b10, 0, none⟩) 1 1 [⟨k, v, q⟩] := ⟨rfl, Nat.le_refl _, (fun e => by cases e), (fun x hx => by rw [List.mem_singleton.1 hx]; exact tok.out), fun b o p hp _ => by
                  cases hp
                  refine ⟨rfl, fun j hj => ?_⟩
                  have : j = 0 := by omega
                  subst this
                  exact ⟨cell_of k10 0 _ rfl, cell_of k10 1 _ rfl, cell_of k10 2 _ rfl⟩⟩
                obtain ⟨v4, x4, r4, R4, g4⟩ := app_tombs x3 (g + 3) _ ts R3 (some ⟨b10, 0, none⟩) 1 1 [⟨k, v, q⟩] T10 (by have := hxl.out; omega) hs0
                obtain ⟨a4, c4, rfl⟩ := Sa.row_block R4
                rw [show (ts ++ [(⟨k, v, q⟩ : T)]).length = tl + 1 by rw [List.length_append, hxl.out]; rfl] at r4 R4
                refine wp_append_run (.tmp 72) (.tmp 79) 26 26 rfl (.slice a3 tl c3) (.slice (some ⟨b10, 0, none⟩) 1 1) (.slice a4 (tl + 1) c4) (by go_simp) (by go_simp) r4 ?_
                go_simp
                refine hK.out _ _ (mj (hM.grown g4 (fun j hj => (own_lt R3 j hj).1))) (fun hS => ?_)
                replace hM := hM.grown g4 (fun j hj => (own_lt R3 j hj).1)
                clear hK K r4 T10 k10 R3 g4 hs0
                refine wpAnyH_take (i := 12) (v := ?v8) rfl (by kernel_rfl) (by kernel_rfl) (by kernel_rfl) (fun _ _ _ h => h) (Or.inl ⟨by rfl, ?h8⟩) hS ?_
                case h8 => (intro W hW; go_simp; try (with_reducible rfl))
                go_simp
                refine wpAnyH_ready (rs := [13]) (by kernel_rfl) (by simp) ?_
                refine AllReadyH.cons rfl (fun K hK => ?_) ?_
                · have hs4 := hM.s
                  obtain ⟨xz, hxz⟩ : ∃ W, W = x4.setCell ⟨g, 2, none⟩ (.slice a4 (tl + 1) c4) := ⟨_, rfl⟩
                  have b3 : Below g w xz := by rw [hxz]; exact hM.b.setCell (p := ⟨g, 2, none⟩) (Nat.le_refl _) _
                  have s3 : g + 3 ≤ xz.heap.size := by rw [hxz]; simp; exact hs4
                  have mo4 : xz.heap[g + 1]? = some (.cells #[.int .i64 2, .string k, .string v] 32) := by rw [hxz]; exact (set_ne _ _ _ _ _ (by omega)).trans hM.o
                  have c23 := cell_of hM.t 2 (.slice ta tl tc) rfl
                  have f23 := fz_of hM.t 2
                  have hz4 : Mj w (x4.setCell ⟨g, 2, none⟩ (.slice a4 (tl + 1) c4)) g #[.int .i64 2, .string k, .string v] := by rw [← hxz]; exact ⟨mo4, b3, s3⟩
                  go_simp
                  refine hK.out _ _ hz4 (fun hS => ?_)
                  rw [← hxz]
                  clear hK K c23 f23 hz4
                  refine wpAnyH_done (by kernel_rfl) ?_ _
                  have mt3 : xz.heap[g]? = some (.cells #[.int .i64 log, .slice ea el ec, .slice a4 (tl + 1) c4, .int .i64 len, .int .i64 sz, .int .u64 lo, .int .u64 hi, .bool false] 29) := by rw [hxz]; exact (set_of hM.t 2 _).trans rfl
                  have mo3 : xz.heap[go]? = some (.cells #[.int .i64 2, .string k, .string v] 32) := by rw [hxz]; exact (set_ne _ _ _ _ _ (by have := hgo.out; omega)).trans (by have := hM.o; rwa [hgo.out] at this)
                  have mz3 : xz.heap[gr]? = some (.cells #[.int .i64 0, .slice none 0 0, .slice none 0 0, .int .i64 0, .int .i64 0, .int .u64 0, .int .u64 0, .bool false] 29) := by rw [hxz]; exact (set_ne _ _ _ _ _ (by have := hgo.out; have := hgr.out; omega)).trans (by have := hM.z; rwa [show g + 2 = gr by have := hgo.out; have := hgr.out; omega] at this)
                  have R5 : OwnT xz (g + 3) (.slice a4 (tl + 1) c4) (ts ++ [⟨k, v, q⟩]) := own_blocks R4 (fun j hj => by rw [hxz]; exact set_ne _ _ _ _ _ (by have := (own_lt R4 j hj).1; omega))
                  have HC := rcount_any log ea a4 el ec (tl + 1) c4 len sz lo hi false q 2 k v xz hlen.out hsz.out hks.out.1 hks.out.2
                  rw [← hlen1.out, ← hsz1.out, ← hlo1.out, ← hhi1.out, ← htm.out] at HC
                  rw [← htm.out]
                  rw [← htm.out] at mt3 R5
                  replace HC := hid HC
                  have y0 := cell_of mt3 0 (.int .i64 log) rfl
                  have y1 := cell_of mt3 1 (.slice ea el ec) rfl
                  have y2 := cell_of mt3 2 (.slice a4 tm c4) rfl
                  have y3 := cell_of mt3 3 (.int .i64 len) rfl
                  have y4 := cell_of mt3 4 (.int .i64 sz) rfl
                  have y5 := cell_of mt3 5 (.int .u64 lo) rfl
                  have y6 := cell_of mt3 6 (.int .u64 hi) rfl
                  have y7 := cell_of mt3 7 (.bool false) rfl
                  have y8 := cell_of mo3 0 (.int .i64 2) rfl
                  have y9 := cell_of mo3 1 (.string k) rfl
                  have y10 := cell_of mo3 2 (.string v) rfl
                  replace mt3 := hid mt3
                  replace mo3 := hid mo3
                  replace mz3 := hid mz3
                  replace b3 := hid b3
                  replace s3 := hid s3
                  replace R5 := hid R5
                  clear R4 hs4 hS hM hxz mo4
                  go_wp2_with fail
                  refine HC.out.mono ?_
                  rintro e x6 ⟨rfl, b6⟩
                  have zb := (b6.block gr (blk_lt mz3.out)).trans mz3.out
                  have KF := put8_at zb (.int .i64 log) (.slice ea el ec) (.slice a4 tm c4) (.int .i64 len1) (.int .i64 sz1) (.int .u64 lo1) (.int .u64 hi1) (.bool false)
                  have BB : Below g w x6 := b3.out.trans (b6.mono (by have := s3.out; omega))
                  have BF := put8_below BB (g := gr) (by have := hgo.out; have := hgr.out; omega) (.int .i64 log) (.slice ea el ec) (.slice a4 tm c4) (.int .i64 len1) (.int .i64 sz1) (.int .u64 lo1) (.int .u64 hi1) (.bool false)
                  have R6 : OwnT (put8 x6 gr (.int .i64 log) (.slice ea el ec) (.slice a4 tm c4) (.int .i64 len1) (.int .i64 sz1) (.int .u64 lo1) (.int .u64 hi1) (.bool false)) g (.slice a4 tm c4) (ts ++ [⟨k, v, q⟩]) := Mt.own_base (own_blocks (OwnT.later R5.out b6) (fun j hj => put8_ne _ _ _ (by have := (own_lt R5.out j hj).1; have := hgo.out; have := hgr.out; omega) _ _ _ _ _ _ _ _)) (by omega)
                  have f0 := fz_of zb 0
                  have f1 := fz_of zb 1
                  have f2 := fz_of zb 2
                  have f3 := fz_of zb 3
                  have f4 := fz_of zb 4
                  have f5 := fz_of zb 5
                  have f6 := fz_of zb 6
                  have f7 := fz_of zb 7
                  have z0 := cell_of zb 0 (.int .i64 0) rfl
                  have z1 := cell_of zb 1 (.slice none 0 0) rfl
                  have z2 := cell_of zb 2 (.slice none 0 0) rfl
                  have z3 := cell_of zb 3 (.int .i64 0) rfl
                  have z4 := cell_of zb 4 (.int .i64 0) rfl
                  have z5 := cell_of zb 5 (.int .u64 0) rfl
                  have z6 := cell_of zb 6 (.int .u64 0) rfl
                  have z7 := cell_of zb 7 (.bool false) rfl
                  replace BF := hid BF
                  replace R6 := hid R6
                  replace KF := hid KF
                  clear zb BB b6 HC y0 y1 y2 y3 y4 y5 y6 y7 y8 y9 y10 hb0 hb10 hS
                  go_wp2_with fail
                  have KG := KF.out
                  have BG := BF.out
                  have RG := R6.out
                  unfold put8 at KG BG RG
                  generalize hWG : ((((((((x6.setCell ⟨gr, 0, none⟩ (.int .i64 log)).setCell ⟨gr, 1, none⟩ (.slice ea el ec)).setCell ⟨gr, 2, none⟩ (.slice a4 tm c4)).setCell ⟨gr, 3, none⟩ (.int .i64 len1)).setCell ⟨gr, 4, none⟩ (.int .i64 sz1)).setCell ⟨gr, 5, none⟩ (.int .u64 lo1)).setCell ⟨gr, 6, none⟩ (.int .u64 hi1)).setCell ⟨gr, 7, none⟩ (.bool false)) = WG at *
                  have q0 := cell_of KG 0 (.int .i64 log) rfl
                  have q1 := cell_of KG 1 (.slice ea el ec) rfl
                  have q2 := cell_of KG 2 (.slice a4 tm c4) rfl
                  have q3 := cell_of KG 3 (.int .i64 len1) rfl
                  have q4 := cell_of KG 4 (.int .i64 sz1) rfl
                  have q5 := cell_of KG 5 (.int .u64 lo1) rfl
                  have q6 := cell_of KG 6 (.int .u64 hi1) rfl
                  have q7 := cell_of KG 7 (.bool false) rfl
                  refine bodyPost_ret (v := .tuple #[.agg #[.int .i64 log, .slice ea el ec, .slice a4 tm c4, .int .i64 len1, .int .i64 sz1, .int .u64 lo1, .int .u64 hi1, .bool false], .int .i64 0]) (by simp [results, Try.results14, go_sem, q0, q1, q2, q3, q4, q5, q6, q7]) rfl ⟨a4, c4, rfl, ?_⟩
                  rw [← hg.out]
                  exact ⟨RG, BG⟩
                exact AllReadyH.nil
              exact AllReadyH.nil
            exact AllReadyH.nil
          refine AllReadyH.cons rfl (fun K hK => ?_) ?_
          · go_simp
            refine hK.out _ _ (mj (hM.later (box_below _ _))) (fun hS => ?_)
            clear hK K
            replace hM := hM.later (box_below x1 (.cells #[.string k, .string v, .int .u64 q] 111))
            have k10 := new_at x1 (.cells #[.string k, .string v, .int .u64 q] 111)
            obtain ⟨b10, hb10⟩ : ∃ n, n = x1.heap.size := ⟨_, rfl⟩
            rw [← hb10] at k10 ⊢
            have hne : b0 ≠ b10 := by have := (own_lt R0 b0 rfl).2; omega
            replace R0 := OwnT.later R0 (box_below x1 (.cells #[.string k, .string v, .int .u64 q] 111))
            generalize x1.alloc (.cells #[.string k, .string v, .int .u64 q] 111) = x2 at *
            replace hs0 := hM.s
            refine wpAnyH_ready (rs := [3]) (by kernel_rfl) (by simp) ?_
            refine AllReadyH.cons rfl (fun K hK => ?_) ?_
            · obtain ⟨v3, x3, r3, R3, g3⟩ := app_tombs x2 (g + 3) _ [] R0 ta tl tc ts (TT.out x2 hM.b) (by simp; omega) hs0
              rw [List.nil_append] at R3
              obtain ⟨a3, c3, rfl⟩ := Sa.row_block R3
              rw [hxl.out] at r3 R3
              refine wp_append_run (.tmp 69) (.tmp 71) 26 26 rfl (.slice (some ⟨b0, 0, none⟩) 0 0) (.slice ta tl tc) (.slice a3 tl c3) (by go_simp) (by go_simp) r3 ?_
              go_simp
              refine hK.out _ _ (mj (hM.grown g3 (fun j hj => (own_lt R0 j hj).1))) (fun hS => ?_)
              clear hK K r3
              replace hM := hM.grown g3 (fun j hj => (own_lt R0 j hj).1)
              replace k10 := (g3.block b10 (blk_lt k10) (fun e => hne (by simpa [Value.ownBlock] using e.symm))).trans k10
              clear hne
              clear g3 R0
              replace hs0 := hM.s
              refine wpAnyH_ready (rs := [11]) (by kernel_rfl) (by simp) ?_
              refine AllReadyH.cons rfl (fun K hK => ?_) ?_
              · have T10 : Tbs x3 (some ⟨b10, 0, none⟩) 1 1 [⟨k, v, q⟩] := ⟨rfl, Nat.le_refl _, (fun e => by cases e), (fun x hx => by rw [List.mem_singleton.1 hx]; exact tok.out), fun b o p hp _ => by
                  cases hp
                  refine ⟨rfl, fun j hj => ?_⟩
                  have : j = 0 := by omega
                  subst this
                  exact ⟨cell_of k10 0 _ rfl, cell_of k10 1 _ rfl, cell_of k10 2 _ rfl⟩⟩
                obtain ⟨v4, x4, r4, R4, g4⟩ := app_tombs x3 (g + 3) _ ts R3 (some ⟨b10, 0, none⟩) 1 1 [⟨k, v, q⟩] T10 (by have := hxl.out; omega) hs0
                obtain ⟨a4, c4, rfl⟩ := Sa.row_block R4
                rw [show (ts ++ [(⟨k, v, q⟩ : T)]).length = tl + 1 by rw [List.length_append, hxl.out]; rfl] at r4 R4
                refine wp_append_run (.tmp 72) (.tmp 79) 26 26 rfl (.slice a3 tl c3) (.slice (some ⟨b10, 0, none⟩) 1 1) (.slice a4 (tl + 1) c4) (by go_simp) (by go_simp) r4 ?_
                go_simp
                refine hK.out _ _ (mj (hM.grown g4 (fun j hj => (own_lt R3 j hj).1))) (fun hS => ?_)
                replace hM := hM.grown g4 (fun j hj => (own_lt R3 j hj).1)
                clear hK K r4 T10 k10 R3 g4 hs0
                refine wpAnyH_take (i := 12) (v := ?v9) rfl (by kernel_rfl) (by kernel_rfl) (by kernel_rfl) (fun _ _ _ h => h) (Or.inl ⟨by rfl, ?h9⟩) hS ?_
                case h9 => (intro W hW; go_simp; try (with_reducible rfl))
                go_simp
                refine wpAnyH_ready (rs := [13]) (by kernel_rfl) (by simp) ?_
                refine AllReadyH.cons rfl (fun K hK => ?_) ?_
                · have hs4 := hM.s
                  obtain ⟨xz, hxz⟩ : ∃ W, W = x4.setCell ⟨g, 2, none⟩ (.slice a4 (tl + 1) c4) := ⟨_, rfl⟩
                  have b3 : Below g w xz := by rw [hxz]; exact hM.b.setCell (p := ⟨g, 2, none⟩) (Nat.le_refl _) _
                  have s3 : g + 3 ≤ xz.heap.size := by rw [hxz]; simp; exact hs4
                  have mo4 : xz.heap[g + 1]? = some (.cells #[.int .i64 2, .string k, .string v] 32) := by rw [hxz]; exact (set_ne _ _ _ _ _ (by omega)).trans hM.o
                  have c23 := cell_of hM.t 2 (.slice ta tl tc) rfl
                  have f23 := fz_of hM.t 2
                  have hz4 : Mj w (x4.setCell ⟨g, 2, none⟩ (.slice a4 (tl + 1) c4)) g #[.int .i64 2, .string k, .string v] := by rw [← hxz]; exact ⟨mo4, b3, s3⟩
                  go_simp
                  refine hK.out _ _ hz4 (fun hS => ?_)
                  rw [← hxz]
                  clear hK K c23 f23 hz4
                  refine wpAnyH_done (by kernel_rfl) ?_ _
                  have mt3 : xz.heap[g]? = some (.cells #[.int .i64 log, .slice ea el ec, .slice a4 (tl + 1) c4, .int .i64 len, .int .i64 sz, .int .u64 lo, .int .u64 hi, .bool false] 29) := by rw [hxz]; exact (set_of hM.t 2 _).trans rfl
                  have mo3 : xz.heap[go]? = some (.cells #[.int .i64 2, .string k, .string v] 32) := by rw [hxz]; exact (set_ne _ _ _ _ _ (by have := hgo.out; omega)).trans (by have := hM.o; rwa [hgo.out] at this)
                  have mz3 : xz.heap[gr]? = some (.cells #[.int .i64 0, .slice none 0 0, .slice none 0 0, .int .i64 0, .int .i64 0, .int .u64 0, .int .u64 0, .bool false] 29) := by rw [hxz]; exact (set_ne _ _ _ _ _ (by have := hgo.out; have := hgr.out; omega)).trans (by have := hM.z; rwa [show g + 2 = gr by have := hgo.out; have := hgr.out; omega] at this)
                  have R5 : OwnT xz (g + 3) (.slice a4 (tl + 1) c4) (ts ++ [⟨k, v, q⟩]) := own_blocks R4 (fun j hj => by rw [hxz]; exact set_ne _ _ _ _ _ (by have := (own_lt R4 j hj).1; omega))
                  have HC := rcount_any log ea a4 el ec (tl + 1) c4 len sz lo hi false q 2 k v xz hlen.out hsz.out hks.out.1 hks.out.2
                  rw [← hlen1.out, ← hsz1.out, ← hlo1.out, ← hhi1.out, ← htm.out] at HC
                  rw [← htm.out]
                  rw [← htm.out] at mt3 R5
                  replace HC := hid HC
                  have y0 := cell_of mt3 0 (.int .i64 log) rfl
                  have y1 := cell_of mt3 1 (.slice ea el ec) rfl
                  have y2 := cell_of mt3 2 (.slice a4 tm c4) rfl
                  have y3 := cell_of mt3 3 (.int .i64 len) rfl
                  have y4 := cell_of mt3 4 (.int .i64 sz) rfl
                  have y5 := cell_of mt3 5 (.int .u64 lo) rfl
                  have y6 := cell_of mt3 6 (.int .u64 hi) rfl
                  have y7 := cell_of mt3 7 (.bool false) rfl
                  have y8 := cell_of mo3 0 (.int .i64 2) rfl
                  have y9 := cell_of mo3 1 (.string k) rfl
                  have y10 := cell_of mo3 2 (.string v) rfl
                  replace mt3 := hid mt3
                  replace mo3 := hid mo3
                  replace mz3 := hid mz3
                  replace b3 := hid b3
                  replace s3 := hid s3
                  replace R5 := hid R5
                  clear R4 hs4 hS hM hxz mo4
                  go_wp2_with fail
                  refine HC.out.mono ?_
                  rintro e x6 ⟨rfl, b6⟩
                  have zb := (b6.block gr (blk_lt mz3.out)).trans mz3.out
                  have KF := put8_at zb (.int .i64 log) (.slice ea el ec) (.slice a4 tm c4) (.int .i64 len1) (.int .i64 sz1) (.int .u64 lo1) (.int .u64 hi1) (.bool false)
                  have BB : Below g w x6 := b3.out.trans (b6.mono (by have := s3.out; omega))
                  have BF := put8_below BB (g := gr) (by have := hgo.out; have := hgr.out; omega) (.int .i64 log) (.slice ea el ec) (.slice a4 tm c4) (.int .i64 len1) (.int .i64 sz1) (.int .u64 lo1) (.int .u64 hi1) (.bool false)
                  have R6 : OwnT (put8 x6 gr (.int .i64 log) (.slice ea el ec) (.slice a4 tm c4) (.int .i64 len1) (.int .i64 sz1) (.int .u64 lo1) (.int .u64 hi1) (.bool false)) g (.slice a4 tm c4) (ts ++ [⟨k, v, q⟩]) := Mt.own_base (own_blocks (OwnT.later R5.out b6) (fun j hj => put8_ne _ _ _ (by have := (own_lt R5.out j hj).1; have := hgo.out; have := hgr.out; omega) _ _ _ _ _ _ _ _)) (by omega)
                  have f0 := fz_of zb 0
                  have f1 := fz_of zb 1
                  have f2 := fz_of zb 2
                  have f3 := fz_of zb 3
                  have f4 := fz_of zb 4
                  have f5 := fz_of zb 5
                  have f6 := fz_of zb 6
                  have f7 := fz_of zb 7
                  have z0 := cell_of zb 0 (.int .i64 0) rfl
                  have z1 := cell_of zb 1 (.slice none 0 0) rfl
                  have z2 := cell_of zb 2 (.slice none 0 0) rfl
                  have z3 := cell_of zb 3 (.int .i64 0) rfl
                  have z4 := cell_of zb 4 (.int .i64 0) rfl
                  have z5 := cell_of zb 5 (.int .u64 0) rfl
                  have z6 := cell_of zb 6 (.int .u64 0) rfl
                  have z7 := cell_of zb 7 (.bool false) rfl
                  replace BF := hid BF
                  replace R6 := hid R6
                  replace KF := hid KF
                  clear zb BB b6 HC y0 y1 y2 y3 y4 y5 y6 y7 y8 y9 y10 hb0 hb10 hS
                  go_wp2_with fail
                  have KG := KF.out
                  have BG := BF.out
                  have RG := R6.out
                  unfold put8 at KG BG RG
                  generalize hWG : ((((((((x6.setCell ⟨gr, 0, none⟩ (.int .i64 log)).setCell ⟨gr, 1, none⟩ (.slice ea el ec)).setCell ⟨gr, 2, none⟩ (.slice a4 tm c4)).setCell ⟨gr, 3, none⟩ (.int .i64 len1)).setCell ⟨gr, 4, none⟩ (.int .i64 sz1)).setCell ⟨gr, 5, none⟩ (.int .u64 lo1)).setCell ⟨gr, 6, none⟩ (.int .u64 hi1)).setCell ⟨gr, 7, none⟩ (.bool false)) = WG at *
                  have q0 := cell_of KG 0 (.int .i64 log) rfl
                  have q1 := cell_of KG 1 (.slice ea el ec) rfl
                  have q2 := cell_of KG 2 (.slice a4 tm c4) rfl
                  have q3 := cell_of KG 3 (.int .i64 len1) rfl
                  have q4 := cell_of KG 4 (.int .i64 sz1) rfl
                  have q5 := cell_of KG 5 (.int .u64 lo1) rfl
                  have q6 := cell_of KG 6 (.int .u64 hi1) rfl
                  have q7 := cell_of KG 7 (.bool false) rfl
                  refine bodyPost_ret (v := .tuple #[.agg #[.int .i64 log, .slice ea el ec, .slice a4 tm c4, .int .i64 len1, .int .i64 sz1, .int .u64 lo1, .int .u64 hi1, .bool false], .int .i64 0]) (by simp [results, Try.results14, go_sem, q0, q1, q2, q3, q4, q5, q6, q7]) rfl ⟨a4, c4, rfl, ?_⟩
                  rw [← hg.out]
                  exact ⟨RG, BG⟩
                exact AllReadyH.nil
              exact AllReadyH.nil
            exact AllReadyH.nil
          exact AllReadyH.nil
        refine AllReadyH.cons rfl (fun K hK => ?_) ?_
        · go_simp
          refine hK.out _ _ (mj (hM.later (box_below _ _))) (fun hS => ?_)
          clear hK K
          replace hM := hM.later (box_below x1 (.cells #[.string k, .string v, .int .u64 q] 111))
          have k10 := new_at x1 (.cells #[.string k, .string v, .int .u64 q] 111)
          obtain ⟨b10, hb10⟩ : ∃ n, n = x1.heap.size := ⟨_, rfl⟩
          rw [← hb10] at k10 ⊢
          have hne : b0 ≠ b10 := by have := (own_lt R0 b0 rfl).2; omega
          replace R0 := OwnT.later R0 (box_below x1 (.cells #[.string k, .string v, .int .u64 q] 111))
          generalize x1.alloc (.cells #[.string k, .string v, .int .u64 q] 111) = x2 at *
          replace hs0 := hM.s
          refine wpAnyH_ready (rs := [2]) (by kernel_rfl) (by simp) ?_
          refine AllReadyH.cons rfl (fun K hK => ?_) ?_
          · have c2 := cell_of hM.t 2 (.slice ta tl tc) rfl
            go_simp
            refine hK.out _ _ hS (fun hS => ?_)
            clear hK K c2
            refine wpAnyH_ready (rs := [3]) (by kernel_rfl) (by simp) ?_
            refine AllReadyH.cons rfl (fun K hK => ?_) ?_
            · obtain ⟨v3, x3, r3, R3, g3⟩ := app_tombs x2 (g + 3) _ [] R0 ta tl tc ts (TT.out x2 hM.b) (by simp; omega) hs0
              rw [List.nil_append] at R3
              obtain ⟨a3, c3, rfl⟩ := Sa.row_block R3
              rw [hxl.out] at r3 R3
              refine wp_append_run (.tmp 69) (.tmp 71) 26 26 rfl (.slice (some ⟨b0, 0, none⟩) 0 0) (.slice ta tl tc) (.slice a3 tl c3) (by go_simp) (by go_simp) r3 ?_
              go_simp
              refine hK.out _ _ (mj (hM.grown g3 (fun j hj => (own_lt R0 j hj).1))) (fun hS => ?_)
              clear hK K r3
              replace hM := hM.grown g3 (fun j hj => (own_lt R0 j hj).1)
              replace k10 := (g3.block b10 (blk_lt k10) (fun e => hne (by simpa [Value.ownBlock] using e.symm))).trans k10
              clear hne
              clear g3 R0
              replace hs0 := hM.s
              refine wpAnyH_ready (rs := [11]) (by kernel_rfl) (by simp) ?_
              refine AllReadyH.cons rfl (fun K hK => ?_) ?_
              · have T10 : Tbs x3 (some ⟨b10, 0, none⟩) 1 1 [⟨k, v, q⟩] := ⟨rfl, Nat.le_refl _, (fun e => by cases e), (fun x hx => by rw [List.mem_singleton.1 hx]; exact tok.out), fun b o p hp _ => by
                  cases hp
                  refine ⟨rfl, fun j hj => ?_⟩
                  have : j = 0 := by omega
                  subst this
                  exact ⟨cell_of k10 0 _ rfl, cell_of k10 1 _ rfl, cell_of k10 2 _ rfl⟩⟩
                obtain ⟨v4, x4, r4, R4, g4⟩ := app_tombs x3 (g + 3) _ ts R3 (some ⟨b10, 0, none⟩) 1 1 [⟨k, v, q⟩] T10 (by have := hxl.out; omega) hs0
                obtain ⟨a4, c4, rfl⟩ := Sa.row_block R4
                rw [show (ts ++ [(⟨k, v, q⟩ : T)]).length = tl + 1 by rw [List.length_append, hxl.out]; rfl] at r4 R4
                refine wp_append_run (.tmp 72) (.tmp 79) 26 26 rfl (.slice a3 tl c3) (.slice (some ⟨b10, 0, none⟩) 1 1) (.slice a4 (tl + 1) c4) (by go_simp) (by go_simp) r4 ?_
                go_simp
                refine hK.out _ _ (mj (hM.grown g4 (fun j hj => (own_lt R3 j hj).1))) (fun hS => ?_)
                replace hM := hM.grown g4 (fun j hj => (own_lt R3 j hj).1)
                clear hK K r4 T10 k10 R3 g4 hs0
                refine wpAnyH_take (i := 12) (v := ?v10) rfl (by kernel_rfl) (by kernel_rfl) (by kernel_rfl) (fun _ _ _ h => h) (Or.inl ⟨by rfl, ?h10⟩) hS ?_
                case h10 => (intro W hW; go_simp; try (with_reducible rfl))
                go_simp
                refine wpAnyH_ready (rs := [13]) (by kernel_rfl) (by simp) ?_
                refine AllReadyH.cons rfl (fun K hK => ?_) ?_
                · have hs4 := hM.s
                  obtain ⟨xz, hxz⟩ : ∃ W, W = x4.setCell ⟨g, 2, none⟩ (.slice a4 (tl + 1) c4) := ⟨_, rfl⟩
                  have b3 : Below g w xz := by rw [hxz]; exact hM.b.setCell (p := ⟨g, 2, none⟩) (Nat.le_refl _) _
                  have s3 : g + 3 ≤ xz.heap.size := by rw [hxz]; simp; exact hs4
                  have mo4 : xz.heap[g + 1]? = some (.cells #[.int .i64 2, .string k, .string v] 32) := by rw [hxz]; exact (set_ne _ _ _ _ _ (by omega)).trans hM.o
                  have c23 := cell_of hM.t 2 (.slice ta tl tc) rfl
                  have f23 := fz_of hM.t 2
                  have hz4 : Mj w (x4.setCell ⟨g, 2, none⟩ (.slice a4 (tl + 1) c4)) g #[.int .i64 2, .string k, .string v] := by rw [← hxz]; exact ⟨mo4, b3, s3⟩
                  go_simp
                  refine hK.out _ _ hz4 (fun hS => ?_)
                  rw [← hxz]
                  clear hK K c23 f23 hz4
                  refine wpAnyH_done (by kernel_rfl) ?_ _
                  have mt3 : xz.heap[g]? = some (.cells #[.int .i64 log, .slice ea el ec, .slice a4 (tl + 1) c4, .int .i64 len, .int .i64 sz, .int .u64 lo, .int .u64 hi, .bool false] 29) := by rw [hxz]; exact (set_of hM.t 2 _).trans rfl
                  have mo3 : xz.heap[go]? = some (.cells #[.int .i64 2, .string k, .string v] 32) := by rw [hxz]; exact (set_ne _ _ _ _ _ (by have := hgo.out; omega)).trans (by have := hM.o; rwa [hgo.out] at this)
                  have mz3 : xz.heap[gr]? = some (.cells #[.int .i64 0, .slice none 0 0, .slice none 0 0, .int .i64 0, .int .i64 0, .int .u64 0, .int .u64 0, .bool false] 29) := by rw [hxz]; exact (set_ne _ _ _ _ _ (by have := hgo.out; have := hgr.out; omega)).trans (by have := hM.z; rwa [show g + 2 = gr by have := hgo.out; have := hgr.out; omega] at this)
                  have R5 : OwnT xz (g + 3) (.slice a4 (tl + 1) c4) (ts ++ [⟨k, v, q⟩]) := own_blocks R4 (fun j hj => by rw [hxz]; exact set_ne _ _ _ _ _ (by have := (own_lt R4 j hj).1; omega))
                  have HC := rcount_any log ea a4 el ec (tl + 1) c4 len sz lo hi false q 2 k v xz hlen.out hsz.out hks.out.1 hks.out.2
                  rw [← hlen1.out, ← hsz1.out, ← hlo1.out, ← hhi1.out, ← htm.out] at HC
                  rw [← htm.out]
                  rw [← htm.out] at mt3 R5
                  replace HC := hid HC
                  have y0 := cell_of mt3 0 (.int .i64 log) rfl
                  have y1 := cell_of mt3 1 (.slice ea el ec) rfl
                  have y2 := cell_of mt3 2 (.slice a4 tm c4) rfl
                  have y3 := cell_of mt3 3 (.int .i64 len) rfl
                  have y4 := cell_of mt3 4 (.int .i64 sz) rfl
                  have y5 := cell_of mt3 5 (.int .u64 lo) rfl
                  have y6 := cell_of mt3 6 (.int .u64 hi) rfl
                  have y7 := cell_of mt3 7 (.bool false) rfl
                  have y8 := cell_of mo3 0 (.int .i64 2) rfl
                  have y9 := cell_of mo3 1 (.string k) rfl
                  have y10 := cell_of mo3 2 (.string v) rfl
                  replace mt3 := hid mt3
                  replace mo3 := hid mo3
                  replace mz3 := hid mz3
                  replace b3 := hid b3
                  replace s3 := hid s3
                  replace R5 := hid R5
                  clear R4 hs4 hS hM hxz mo4
                  go_wp2_with fail
                  refine HC.out.mono ?_
                  rintro e x6 ⟨rfl, b6⟩
                  have zb := (b6.block gr (blk_lt mz3.out)).trans mz3.out
                  have KF := put8_at zb (.int .i64 log) (.slice ea el ec) (.slice a4 tm c4) (.int .i64 len1) (.int .i64 sz1) (.int .u64 lo1) (.int .u64 hi1) (.bool false)
                  have BB : Below g w x6 := b3.out.trans (b6.mono (by have := s3.out; omega))
                  have BF := put8_below BB (g := gr) (by have := hgo.out; have := hgr.out; omega) (.int .i64 log) (.slice ea el ec) (.slice a4 tm c4) (.int .i64 len1) (.int .i64 sz1) (.int .u64 lo1) (.int .u64 hi1) (.bool false)
                  have R6 : OwnT (put8 x6 gr (.int .i64 log) (.slice ea el ec) (.slice a4 tm c4) (.int .i64 len1) (.int .i64 sz1) (.int .u64 lo1) (.int .u64 hi1) (.bool false)) g (.slice a4 tm c4) (ts ++ [⟨k, v, q⟩]) := Mt.own_base (own_blocks (OwnT.later R5.out b6) (fun j hj => put8_ne _ _ _ (by have := (own_lt R5.out j hj).1; have := hgo.out; have := hgr.out; omega) _ _ _ _ _ _ _ _)) (by omega)
                  have f0 := fz_of zb 0
                  have f1 := fz_of zb 1
                  have f2 := fz_of zb 2
                  have f3 := fz_of zb 3
                  have f4 := fz_of zb 4
                  have f5 := fz_of zb 5
                  have f6 := fz_of zb 6
                  have f7 := fz_of zb 7
                  have z0 := cell_of zb 0 (.int .i64 0) rfl
                  have z1 := cell_of zb 1 (.slice none 0 0) rfl
                  have z2 := cell_of zb 2 (.slice none 0 0) rfl
                  have z3 := cell_of zb 3 (.int .i64 0) rfl
                  have z4 := cell_of zb 4 (.int .i64 0) rfl
                  have z5 := cell_of zb 5 (.int .u64 0) rfl
                  have z6 := cell_of zb 6 (.int .u64 0) rfl
                  have z7 := cell_of zb 7 (.bool false) rfl
                  replace BF := hid BF
                  replace R6 := hid R6
                  replace KF := hid KF
                  clear zb BB b6 HC y0 y1 y2 y3 y4 y5 y6 y7 y8 y9 y10 hb0 hb10 hS
                  go_wp2_with fail
                  have KG := KF.out
                  have BG := BF.out
                  have RG := R6.out
                  unfold put8 at KG BG RG
                  generalize hWG : ((((((((x6.setCell ⟨gr, 0, none⟩ (.int .i64 log)).setCell ⟨gr, 1, none⟩ (.slice ea el ec)).setCell ⟨gr, 2, none⟩ (.slice a4 tm c4)).setCell ⟨gr, 3, none⟩ (.int .i64 len1)).setCell ⟨gr, 4, none⟩ (.int .i64 sz1)).setCell ⟨gr, 5, none⟩ (.int .u64 lo1)).setCell ⟨gr, 6, none⟩ (.int .u64 hi1)).setCell ⟨gr, 7, none⟩ (.bool false)) = WG at *
                  have q0 := cell_of KG 0 (.int .i64 log) rfl
                  have q1 := cell_of KG 1 (.slice ea el ec) rfl
                  have q2 := cell_of KG 2 (.slice a4 tm c4) rfl
                  have q3 := cell_of KG 3 (.int .i64 len1) rfl
                  have q4 := cell_of KG 4 (.int .i64 sz1) rfl
                  have q5 := cell_of KG 5 (.int .u64 lo1) rfl
                  have q6 := cell_of KG 6 (.int .u64 hi1) rfl
                  have q7 := cell_of KG 7 (.bool false) rfl
                  refine bodyPost_ret (v := .tuple #[.agg #[.int .i64 log, .slice ea el ec, .slice a4 tm c4, .int .i64 len1, .int .i64 sz1, .int .u64 lo1, .int .u64 hi1, .bool false], .int .i64 0]) (by simp [results, Try.results14, go_sem, q0, q1, q2, q3, q4, q5, q6, q7]) rfl ⟨a4, c4, rfl, ?_⟩
                  rw [← hg.out]
                  exact ⟨RG, BG⟩
                exact AllReadyH.nil
              exact AllReadyH.nil
            exact AllReadyH.nil
          exact AllReadyH.nil
        exact AllReadyH.nil
      refine AllReadyH.cons rfl (fun K hK => ?_) ?_
      · have c2 := cell_of hM.t 2 (.slice ta tl tc) rfl
        go_simp
        refine hK.out _ _ hS (fun hS => ?_)
        clear hK K c2
        refine wpAnyH_ready (rs := [0, 10]) (by kernel_rfl) (by simp) ?_
        refine AllReadyH.cons rfl (fun K hK => ?_) ?_
        · go_simp
          refine hK.out _ _ (mj (hM.later (box_below _ _))) (fun hS => ?_)
          clear hK K
          replace hM := hM.later (box_below x0 (.cells #[] 111))
          have R0 : OwnT (x0.alloc (.cells #[] 111)) (g + 3) (.slice (some ⟨x0.heap.size, 0, none⟩) 0 0) [] := World.ownsRow_made x0 #[] 0 hs0 (by unfold maxLen; omega) rfl
          obtain ⟨b0, hb0⟩ : ∃ n, n = x0.heap.size := ⟨_, rfl⟩
          rw [← hb0] at R0 ⊢
          generalize x0.alloc (.cells #[] 111) = x1 at *
          replace hs0 := hM.s
          refine wpAnyH_ready (rs := [3, 10]) (by kernel_rfl) (by simp) ?_
          refine AllReadyH.cons rfl (fun K hK => ?_) ?_
          · obtain ⟨v3, x2, r3, R3, g3⟩ := app_tombs x1 (g + 3) _ [] R0 ta tl tc ts (TT.out x1 hM.b) (by simp; omega) hs0
            rw [List.nil_append] at R3
            obtain ⟨a3, c3, rfl⟩ := Sa.row_block R3
            rw [hxl.out] at r3 R3
            refine wp_append_run (.tmp 69) (.tmp 71) 26 26 rfl (.slice (some ⟨b0, 0, none⟩) 0 0) (.slice ta tl tc) (.slice a3 tl c3) (by go_simp) (by go_simp) r3 ?_
            go_simp
            refine hK.out _ _ (mj (hM.grown g3 (fun j hj => (own_lt R0 j hj).1))) (fun hS => ?_)
            clear hK K r3
            replace hM := hM.grown g3 (fun j hj => (own_lt R0 j hj).1)
            clear g3 R0
            replace hs0 := hM.s
            refine wpAnyH_ready (rs := [10]) (by kernel_rfl) (by simp) ?_
            refine AllReadyH.cons rfl (fun K hK => ?_) ?_
            · go_simp
              refine hK.out _ _ (mj (hM.later (box_below _ _))) (fun hS => ?_)
              clear hK K
              replace hM := hM.later (box_below x2 (.cells #[.string k, .string v, .int .u64 q] 111))
              have k10 := new_at x2 (.cells #[.string k, .string v, .int .u64 q] 111)
              obtain ⟨b10, hb10⟩ : ∃ n, n = x2.heap.size := ⟨_, rfl⟩
              rw [← hb10] at k10 ⊢
              replace R3 := OwnT.later R3 (box_below x2 (.cells #[.string k, .string v, .int .u64 q] 111))
              generalize x2.alloc (.cells #[.string k, .string v, .int .u64 q] 111) = x3 at *
              replace hs0 := hM.s
              refine wpAnyH_ready (rs := [11]) (by kernel_rfl) (by simp) ?_
              refine AllReadyH.cons rfl (fun K hK => ?_) ?_
              · have T10 : Tbs x3 (some ⟨b10, 0, none⟩) 1 1 [⟨k, v, q⟩] := ⟨rfl, Nat.le_refl _, (fun e => by cases e), (fun x hx => by rw [List.mem_singleton.1 hx]; exact tok.out), fun b o p hp _ => by
                  cases hp
                  refine ⟨rfl, fun j hj => ?_⟩
                  have : j = 0 := by omega
                  subst this
                  exact ⟨cell_of k10 0 _ rfl, cell_of k10 1 _ rfl, cell_of k10 2 _ rfl⟩⟩
                obtain ⟨v4, x4, r4, R4, g4⟩ := app_tombs x3 (g + 3) _ ts R3 (some ⟨b10, 0, none⟩) 1 1 [⟨k, v, q⟩] T10 (by have := hxl.out; omega) hs0
                obtain ⟨a4, c4, rfl⟩ := Sa.row_block R4
                rw [show (ts ++ [(⟨k, v, q⟩ : T)]).length = tl + 1 by rw [List.length_append, hxl.out]; rfl] at r4 R4
                refine wp_append_run (.tmp 72) (.tmp 79) 26 26 rfl (.slice a3 tl c3) (.slice (some ⟨b10, 0, none⟩) 1 1) (.slice a4 (tl + 1) c4) (by go_simp) (by go_simp) r4 ?_
                go_simp
                refine hK.out _ _ (mj (hM.grown g4 (fun j hj => (own_lt R3 j hj).1))) (fun hS => ?_)
                replace hM := hM.grown g4 (fun j hj => (own_lt R3 j hj).1)
                clear hK K r4 T10 k10 R3 g4 hs0
                refine wpAnyH_take (i := 12) (v := ?v11) rfl (by kernel_rfl) (by kernel_rfl) (by kernel_rfl) (fun _ _ _ h => h) (Or.inl ⟨by rfl, ?h11⟩) hS ?_
                case h11 => (intro W hW; go_simp; try (with_reducible rfl))
                go_simp
                refine wpAnyH_ready (rs := [13]) (by kernel_rfl) (by simp) ?_
                refine AllReadyH.cons rfl (fun K hK => ?_) ?_
                · have hs4 := hM.s
                  obtain ⟨xz, hxz⟩ : ∃ W, W = x4.setCell ⟨g, 2, none⟩ (.slice a4 (tl + 1) c4) := ⟨_, rfl⟩
                  have b3 : Below g w xz := by rw [hxz]; exact hM.b.setCell (p := ⟨g, 2, none⟩) (Nat.le_refl _) _
                  have s3 : g + 3 ≤ xz.heap.size := by rw [hxz]; simp; exact hs4
                  have mo4 : xz.heap[g + 1]? = some (.cells #[.int .i64 2, .string k, .string v] 32) := by rw [hxz]; exact (set_ne _ _ _ _ _ (by omega)).trans hM.o
                  have c23 := cell_of hM.t 2 (.slice ta tl tc) rfl
                  have f23 := fz_of hM.t 2
                  have hz4 : Mj w (x4.setCell ⟨g, 2, none⟩ (.slice a4 (tl + 1) c4)) g #[.int .i64 2, .string k, .string v] := by rw [← hxz]; exact ⟨mo4, b3, s3⟩
                  go_simp
                  refine hK.out _ _ hz4 (fun hS => ?_)
                  rw [← hxz]
                  clear hK K c23 f23 hz4
                  refine wpAnyH_done (by kernel_rfl) ?_ _
                  have mt3 : xz.heap[g]? = some (.cells #[.int .i64 log, .slice ea el ec, .slice a4 (tl + 1) c4, .int .i64 len, .int .i64 sz, .int .u64 lo, .int .u64 hi, .bool false] 29) := by rw [hxz]; exact (set_of hM.t 2 _).trans rfl
                  have mo3 : xz.heap[go]? = some (.cells #[.int .i64 2, .string k, .string v] 32) := by rw [hxz]; exact (set_ne _ _ _ _ _ (by have := hgo.out; omega)).trans (by have := hM.o; rwa [hgo.out] at this)
                  have mz3 : xz.heap[gr]? = some (.cells #[.int .i64 0, .slice none 0 0, .slice none 0 0, .int .i64 0, .int .i64 0, .int .u64 0, .int .u64 0, .bool false] 29) := by rw [hxz]; exact (set_ne _ _ _ _ _ (by have := hgo.out; have := hgr.out; omega)).trans (by have := hM.z; rwa [show g + 2 = gr by have := hgo.out; have := hgr.out; omega] at this)
                  have R5 : OwnT xz (g + 3) (.slice a4 (tl + 1) c4) (ts ++ [⟨k, v, q⟩]) := own_blocks R4 (fun j hj => by rw [hxz]; exact set_ne _ _ _ _ _ (by have := (own_lt R4 j hj).1; omega))
                  have HC := rcount_any log ea a4 el ec (tl + 1) c4 len sz lo hi false q 2 k v xz hlen.out hsz.out hks.out.1 hks.out.2
                  rw [← hlen1.out, ← hsz1.out, ← hlo1.out, ← hhi1.out, ← htm.out] at HC
                  rw [← htm.out]
                  rw [← htm.out] at mt3 R5
                  replace HC := hid HC
                  have y0 := cell_of mt3 0 (.int .i64 log) rfl
                  have y1 := cell_of mt3 1 (.slice ea el ec) rfl
                  have y2 := cell_of mt3 2 (.slice a4 tm c4) rfl
                  have y3 := cell_of mt3 3 (.int .i64 len) rfl
                  have y4 := cell_of mt3 4 (.int .i64 sz) rfl
                  have y5 := cell_of mt3 5 (.int .u64 lo) rfl
                  have y6 := cell_of mt3 6 (.int .u64 hi) rfl
                  have y7 := cell_of mt3 7 (.bool false) rfl
                  have y8 := cell_of mo3 0 (.int .i64 2) rfl
                  have y9 := cell_of mo3 1 (.string k) rfl
                  have y10 := cell_of mo3 2 (.string v) rfl
                  replace mt3 := hid mt3
                  replace mo3 := hid mo3
                  replace mz3 := hid mz3
                  replace b3 := hid b3
                  replace s3 := hid s3
                  replace R5 := hid R5
                  clear R4 hs4 hS hM hxz mo4
                  go_wp2_with fail
                  refine HC.out.mono ?_
                  rintro e x6 ⟨rfl, b6⟩
                  have zb := (b6.block gr (blk_lt mz3.out)).trans mz3.out
                  have KF := put8_at zb (.int .i64 log) (.slice ea el ec) (.slice a4 tm c4) (.int .i64 len1) (.int .i64 sz1) (.int .u64 lo1) (.int .u64 hi1) (.bool false)
                  have BB : Below g w x6 := b3.out.trans (b6.mono (by have := s3.out; omega))
                  have BF := put8_below BB (g := gr) (by have := hgo.out; have := hgr.out; omega) (.int .i64 log) (.slice ea el ec) (.slice a4 tm c4) (.int .i64 len1) (.int .i64 sz1) (.int .u64 lo1) (.int .u64 hi1) (.bool false)
                  have R6 : OwnT (put8 x6 gr (.int .i64 log) (.slice ea el ec) (.slice a4 tm c4) (.int .i64 len1) (.int .i64 sz1) (.int .u64 lo1) (.int .u64 hi1) (.bool false)) g (.slice a4 tm c4) (ts ++ [⟨k, v, q⟩]) := Mt.own_base (own_blocks (OwnT.later R5.out b6) (fun j hj => put8_ne _ _ _ (by have := (own_lt R5.out j hj).1; have := hgo.out; have := hgr.out; omega) _ _ _ _ _ _ _ _)) (by omega)
                  have f0 := fz_of zb 0
                  have f1 := fz_of zb 1
                  have f2 := fz_of zb 2
                  have f3 := fz_of zb 3
                  have f4 := fz_of zb 4
                  have f5 := fz_of zb 5
                  have f6 := fz_of zb 6
                  have f7 := fz_of zb 7
                  have z0 := cell_of zb 0 (.int .i64 0) rfl
                  have z1 := cell_of zb 1 (.slice none 0 0) rfl
                  have z2 := cell_of zb 2 (.slice none 0 0) rfl
                  have z3 := cell_of zb 3 (.int .i64 0) rfl
                  have z4 := cell_of zb 4 (.int .i64 0) rfl
                  have z5 := cell_of zb 5 (.int .u64 0) rfl
                  have z6 := cell_of zb 6 (.int .u64 0) rfl
                  have z7 := cell_of zb 7 (.bool false) rfl
                  replace BF := hid BF
                  replace R6 := hid R6
                  replace KF := hid KF
                  clear zb BB b6 HC y0 y1 y2 y3 y4 y5 y6 y7 y8 y9 y10 hb0 hb10 hS
                  go_wp2_with fail
                  have KG := KF.out
                  have BG := BF.out
                  have RG := R6.out
                  unfold put8 at KG BG RG
                  generalize hWG : ((((((((x6.setCell ⟨gr, 0, none⟩ (.int .i64 log)).setCell ⟨gr, 1, none⟩ (.slice ea el ec)).setCell ⟨gr, 2, none⟩ (.slice a4 tm c4)).setCell ⟨gr, 3, none⟩ (.int .i64 len1)).setCell ⟨gr, 4, none⟩ (.int .i64 sz1)).setCell ⟨gr, 5, none⟩ (.int .u64 lo1)).setCell ⟨gr, 6, none⟩ (.int .u64 hi1)).setCell ⟨gr, 7, none⟩ (.bool false)) = WG at *
                  have q0 := cell_of KG 0 (.int .i64 log) rfl
                  have q1 := cell_of KG 1 (.slice ea el ec) rfl
                  have q2 := cell_of KG 2 (.slice a4 tm c4) rfl
                  have q3 := cell_of KG 3 (.int .i64 len1) rfl
                  have q4 := cell_of KG 4 (.int .i64 sz1) rfl
                  have q5 := cell_of KG 5 (.int .u64 lo1) rfl
                  have q6 := cell_of KG 6 (.int .u64 hi1) rfl
                  have q7 := cell_of KG 7 (.bool false) rfl
                  refine bodyPost_ret (v := .tuple #[.agg #[.int .i64 log, .slice ea el ec, .slice a4 tm c4, .int .i64 len1, .int .i64 sz1, .int .u64 lo1, .int .u64 hi1, .bool false], .int .i64 0]) (by simp [results, Try.results14, go_sem, q0, q1, q2, q3, q4, q5, q6, q7]) rfl ⟨a4, c4, rfl, ?_⟩
                  rw [← hg.out]
                  exact ⟨RG, BG⟩
                exact AllReadyH.nil
              exact AllReadyH.nil
            exact AllReadyH.nil
          refine AllReadyH.cons rfl (fun K hK => ?_) ?_
          · go_simp
            refine hK.out _ _ (mj (hM.later (box_below _ _))) (fun hS => ?_)
            clear hK K
            replace hM := hM.later (box_below x1 (.cells #[.string k, .string v, .int .u64 q] 111))
            have k10 := new_at x1 (.cells #[.string k, .string v, .int .u64 q] 111)
            obtain ⟨b10, hb10⟩ : ∃ n, n = x1.heap.size := ⟨_, rfl⟩
            rw [← hb10] at k10 ⊢
            have hne : b0 ≠ b10 := by have := (own_lt R0 b0 rfl).2; omega
            replace R0 := OwnT.later R0 (box_below x1 (.cells #[.string k, .string v, .int .u64 q] 111))
            generalize x1.alloc (.cells #[.string k, .string v, .int .u64 q] 111) = x2 at *
            replace hs0 := hM.s
            refine wpAnyH_ready (rs := [3]) (by kernel_rfl) (by simp) ?_
            refine AllReadyH.cons rfl (fun K hK => ?_) ?_
            · obtain ⟨v3, x3, r3, R3, g3⟩ := app_tombs x2 (g + 3) _ [] R0 ta tl tc ts (TT.out x2 hM.b) (by simp; omega) hs0
              rw [List.nil_append] at R3
              obtain ⟨a3, c3, rfl⟩ := Sa.row_block R3
              rw [hxl.out] at r3 R3
              refine wp_append_run (.tmp 69) (.tmp 71) 26 26 rfl (.slice (some ⟨b0, 0, none⟩) 0 0) (.slice ta tl tc) (.slice a3 tl c3) (by go_simp) (by go_simp) r3 ?_
              go_simp
              refine hK.out _ _ (mj (hM.grown g3 (fun j hj => (own_lt R0 j hj).1))) (fun hS => ?_)
              clear hK K r3
              replace hM := hM.grown g3 (fun j hj => (own_lt R0 j hj).1)
              replace k10 := (g3.block b10 (blk_lt k10) (fun e => hne (by simpa [Value.ownBlock] using e.symm))).trans k10
              clear hne
              clear g3 R0
              replace hs0 := hM.s
              refine wpAnyH_ready (rs := [11]) (by kernel_rfl) (by simp) ?_
              refine AllReadyH.cons rfl (fun K hK => ?_) ?_
              · have T10 : Tbs x3 (some ⟨b10, 0, none⟩) 1 1 [⟨k, v, q⟩] := ⟨rfl, Nat.le_refl _, (fun e => by cases e), (fun x hx => by rw [List.mem_singleton.1 hx]; exact tok.out), fun b o p hp _ => by
                  cases hp
                  refine ⟨rfl, fun j hj => ?_⟩
                  have : j = 0 := by omega
                  subst this
                  exact ⟨cell_of k10 0 _ rfl, cell_of k10 1 _ rfl, cell_of k10 2 _ rfl⟩⟩
                obtain ⟨v4, x4, r4, R4, g4⟩ := app_tombs x3 (g + 3) _ ts R3 (some ⟨b10, 0, none⟩) 1 1 [⟨k, v, q⟩] T10 (by have := hxl.out; omega) hs0
                obtain ⟨a4, c4, rfl⟩ := Sa.row_block R4
                rw [show (ts ++ [(⟨k, v, q⟩ : T)]).length = tl + 1 by rw [List.length_append, hxl.out]; rfl] at r4 R4
                refine wp_append_run (.tmp 72) (.tmp 79) 26 26 rfl (.slice a3 tl c3) (.slice (some ⟨b10, 0, none⟩) 1 1) (.slice a4 (tl + 1) c4) (by go_simp) (by go_simp) r4 ?_
                go_simp
                refine hK.out _ _ (mj (hM.grown g4 (fun j hj => (own_lt R3 j hj).1))) (fun hS => ?_)
                replace hM := hM.grown g4 (fun j hj => (own_lt R3 j hj).1)
                clear hK K r4 T10 k10 R3 g4 hs0
                refine wpAnyH_take (i := 12) (v := ?v12) rfl (by kernel_rfl) (by kernel_rfl) (by kernel_rfl) (fun _ _ _ h => h) (Or.inl ⟨by rfl, ?h12⟩) hS ?_
                case h12 => (intro W hW; go_simp; try (with_reducible rfl))
                go_simp
                refine wpAnyH_ready (rs := [13]) (by kernel_rfl) (by simp) ?_
                refine AllReadyH.cons rfl (fun K hK => ?_) ?_
                · have hs4 := hM.s
                  obtain ⟨xz, hxz⟩ : ∃ W, W = x4.setCell ⟨g, 2, none⟩ (.slice a4 (tl + 1) c4) := ⟨_, rfl⟩
                  have b3 : Below g w xz := by rw [hxz]; exact hM.b.setCell (p := ⟨g, 2, none⟩) (Nat.le_refl _) _
                  have s3 : g + 3 ≤ xz.heap.size := by rw [hxz]; simp; exact hs4
                  have mo4 : xz.heap[g + 1]? = some (.cells #[.int .i64 2, .string k, .string v] 32) := by rw [hxz]; exact (set_ne _ _ _ _ _ (by omega)).trans hM.o
                  have c23 := cell_of hM.t 2 (.slice ta tl tc) rfl
                  have f23 := fz_of hM.t 2
                  have hz4 : Mj w (x4.setCell ⟨g, 2, none⟩ (.slice a4 (tl + 1) c4)) g #[.int .i64 2, .string k, .string v] := by rw [← hxz]; exact ⟨mo4, b3, s3⟩
                  go_simp
                  refine hK.out _ _ hz4 (fun hS => ?_)
                  rw [← hxz]
                  clear hK K c23 f23 hz4
                  refine wpAnyH_done (by kernel_rfl) ?_ _
                  have mt3 : xz.heap[g]? = some (.cells #[.int .i64 log, .slice ea el ec, .slice a4 (tl + 1) c4, .int .i64 len, .int .i64 sz, .int .u64 lo, .int .u64 hi, .bool false] 29) := by rw [hxz]; exact (set_of hM.t 2 _).trans rfl
                  have mo3 : xz.heap[go]? = some (.cells #[.int .i64 2, .string k, .string v] 32) := by rw [hxz]; exact (set_ne _ _ _ _ _ (by have := hgo.out; omega)).trans (by have := hM.o; rwa [hgo.out] at this)
                  have mz3 : xz.heap[gr]? = some (.cells #[.int .i64 0, .slice none 0 0, .slice none 0 0, .int .i64 0, .int .i64 0, .int .u64 0, .int .u64 0, .bool false] 29) := by rw [hxz]; exact (set_ne _ _ _ _ _ (by have := hgo.out; have := hgr.out; omega)).trans (by have := hM.z; rwa [show g + 2 = gr by have := hgo.out; have := hgr.out; omega] at this)
                  have R5 : OwnT xz (g + 3) (.slice a4 (tl + 1) c4) (ts ++ [⟨k, v, q⟩]) := own_blocks R4 (fun j hj => by rw [hxz]; exact set_ne _ _ _ _ _ (by have := (own_lt R4 j hj).1; omega))
                  have HC := rcount_any log ea a4 el ec (tl + 1) c4 len sz lo hi false q 2 k v xz hlen.out hsz.out hks.out.1 hks.out.2
                  rw [← hlen1.out, ← hsz1.out, ← hlo1.out, ← hhi1.out, ← htm.out] at HC
                  rw [← htm.out]
                  rw [← htm.out] at mt3 R5
                  replace HC := hid HC
                  have y0 := cell_of mt3 0 (.int .i64 log) rfl
                  have y1 := cell_of mt3 1 (.slice ea el ec) rfl
                  have y2 := cell_of mt3 2 (.slice a4 tm c4) rfl
                  have y3 := cell_of mt3 3 (.int .i64 len) rfl
                  have y4 := cell_of mt3 4 (.int .i64 sz) rfl
                  have y5 := cell_of mt3 5 (.int .u64 lo) rfl
                  have y6 := cell_of mt3 6 (.int .u64 hi) rfl
                  have y7 := cell_of mt3 7 (.bool false) rfl
                  have y8 := cell_of mo3 0 (.int .i64 2) rfl
                  have y9 := cell_of mo3 1 (.string k) rfl
                  have y10 := cell_of mo3 2 (.string v) rfl
                  replace mt3 := hid mt3
                  replace mo3 := hid mo3
                  replace mz3 := hid mz3
                  replace b3 := hid b3
                  replace s3 := hid s3
                  replace R5 := hid R5
                  clear R4 hs4 hS hM hxz mo4
                  go_wp2_with fail
                  refine HC.out.mono ?_
                  rintro e x6 ⟨rfl, b6⟩
                  have zb := (b6.block gr (blk_lt mz3.out)).trans mz3.out
                  have KF := put8_at zb (.int .i64 log) (.slice ea el ec) (.slice a4 tm c4) (.int .i64 len1) (.int .i64 sz1) (.int .u64 lo1) (.int .u64 hi1) (.bool false)
                  have BB : Below g w x6 := b3.out.trans (b6.mono (by have := s3.out; omega))
                  have BF := put8_below BB (g := gr) (by have := hgo.out; have := hgr.out; omega) (.int .i64 log) (.slice ea el ec) (.slice a4 tm c4) (.int .i64 len1) (.int .i64 sz1) (.int .u64 lo1) (.int .u64 hi1) (.bool false)
                  have R6 : OwnT (put8 x6 gr (.int .i64 log) (.slice ea el ec) (.slice a4 tm c4) (.int .i64 len1) (.int .i64 sz1) (.int .u64 lo1) (.int .u64 hi1) (.bool false)) g (.slice a4 tm c4) (ts ++ [⟨k, v, q⟩]) := Mt.own_base (own_blocks (OwnT.later R5.out b6) (fun j hj => put8_ne _ _ _ (by have := (own_lt R5.out j hj).1; have := hgo.out; have := hgr.out; omega) _ _ _ _ _ _ _ _)) (by omega)
                  have f0 := fz_of zb 0
                  have f1 := fz_of zb 1
                  have f2 := fz_of zb 2
                  have f3 := fz_of zb 3
                  have f4 := fz_of zb 4
                  have f5 := fz_of zb 5
                  have f6 := fz_of zb 6
                  have f7 := fz_of zb 7
                  have z0 := cell_of zb 0 (.int .i64 0) rfl
                  have z1 := cell_of zb 1 (.slice none 0 0) rfl
                  have z2 := cell_of zb 2 (.slice none 0 0) rfl
                  have z3 := cell_of zb 3 (.int .i64 0) rfl
                  have z4 := cell_of zb 4 (.int .i64 0) rfl
                  have z5 := cell_of zb 5 (.int .u64 0) rfl
                  have z6 := cell_of zb 6 (.int .u64 0) rfl
                  have z7 := cell_of zb 7 (.bool false) rfl
                  replace BF := hid BF
                  replace R6 := hid R6
                  replace KF := hid KF
                  clear zb BB b6 HC y0 y1 y2 y3 y4 y5 y6 y7 y8 y9 y10 hb0 hb10 hS
                  go_wp2_with fail
                  have KG := KF.out
                  have BG := BF.out
                  have RG := R6.out
                  unfold put8 at KG BG RG
                  generalize hWG : ((((((((x6.setCell ⟨gr, 0, none⟩ (.int .i64 log)).setCell ⟨gr, 1, none⟩ (.slice ea el ec)).setCell ⟨gr, 2, none⟩ (.slice a4 tm c4)).setCell ⟨gr, 3, none⟩ (.int .i64 len1)).setCell ⟨gr, 4, none⟩ (.int .i64 sz1)).setCell ⟨gr, 5, none⟩ (.int .u64 lo1)).setCell ⟨gr, 6, none⟩ (.int .u64 hi1)).setCell ⟨gr, 7, none⟩ (.bool false)) = WG at *
                  have q0 := cell_of KG 0 (.int .i64 log) rfl
                  have q1 := cell_of KG 1 (.slice ea el ec) rfl
                  have q2 := cell_of KG 2 (.slice a4 tm c4) rfl
                  have q3 := cell_of KG 3 (.int .i64 len1) rfl
                  have q4 := cell_of KG 4 (.int .i64 sz1) rfl
                  have q5 := cell_of KG 5 (.int .u64 lo1) rfl
                  have q6 := cell_of KG 6 (.int .u64 hi1) rfl
                  have q7 := cell_of KG 7 (.bool false) rfl
                  refine bodyPost_ret (v := .tuple #[.agg #[.int .i64 log, .slice ea el ec, .slice a4 tm c4, .int .i64 len1, .int .i64 sz1, .int .u64 lo1, .int .u64 hi1, .bool false], .int .i64 0]) (by simp [results, Try.results14, go_sem, q0, q1, q2, q3, q4, q5, q6, q7]) rfl ⟨a4, c4, rfl, ?_⟩
                  rw [← hg.out]
                  exact ⟨RG, BG⟩
                exact AllReadyH.nil
              exact AllReadyH.nil
            exact AllReadyH.nil
          exact AllReadyH.nil
        refine AllReadyH.cons rfl (fun K hK => ?_) ?_
        · go_simp
          refine hK.out _ _ (mj (hM.later (box_below _ _))) (fun hS => ?_)
          clear hK K
          replace hM := hM.later (box_below x0 (.cells #[.string k, .string v, .int .u64 q] 111))
          have k10 := new_at x0 (.cells #[.string k, .string v, .int .u64 q] 111)
          obtain ⟨b10, hb10⟩ : ∃ n, n = x0.heap.size := ⟨_, rfl⟩
          rw [← hb10] at k10 ⊢
          generalize x0.alloc (.cells #[.string k, .string v, .int .u64 q] 111) = x1 at *
          replace hs0 := hM.s
          refine wpAnyH_ready (rs := [0]) (by kernel_rfl) (by simp) ?_
          refine AllReadyH.cons rfl (fun K hK => ?_) ?_
          · go_simp
            refine hK.out _ _ (mj (hM.later (box_below _ _))) (fun hS => ?_)
            clear hK K
            replace hM := hM.later (box_below x1 (.cells #[] 111))
            have R0 : OwnT (x1.alloc (.cells #[] 111)) (g + 3) (.slice (some ⟨x1.heap.size, 0, none⟩) 0 0) [] := World.ownsRow_made x1 #[] 0 hs0 (by unfold maxLen; omega) rfl
            obtain ⟨b0, hb0⟩ : ∃ n, n = x1.heap.size := ⟨_, rfl⟩
            rw [← hb0] at R0 ⊢
            have hne : b0 ≠ b10 := by have := blk_lt k10; omega
            replace k10 := ((box_below x1 (.cells #[] 111)).block b10 (blk_lt k10)).trans k10
            generalize x1.alloc (.cells #[] 111) = x2 at *
            replace hs0 := hM.s
            refine wpAnyH_ready (rs := [3]) (by kernel_rfl) (by simp) ?_
            refine AllReadyH.cons rfl (fun K hK => ?_) ?_
            · obtain ⟨v3, x3, r3, R3, g3⟩ := app_tombs x2 (g + 3) _ [] R0 ta tl tc ts (TT.out x2 hM.b) (by simp; omega) hs0
              rw [List.nil_append] at R3
              obtain ⟨a3, c3, rfl⟩ := Sa.row_block R3
              rw [hxl.out] at r3 R3
              refine wp_append_run (.tmp 69) (.tmp 71) 26 26 rfl (.slice (some ⟨b0, 0, none⟩) 0 0) (.slice ta tl tc) (.slice a3 tl c3) (by go_simp) (by go_simp) r3 ?_
              go_simp
              refine hK.out _ _ (mj (hM.grown g3 (fun j hj => (own_lt R0 j hj).1))) (fun hS => ?_)
              clear hK K r3
              replace hM := hM.grown g3 (fun j hj => (own_lt R0 j hj).1)
              replace k10 := (g3.block b10 (blk_lt k10) (fun e => hne (by simpa [Value.ownBlock] using e.symm))).trans k10
              clear hne
              clear g3 R0
              replace hs0 := hM.s
              refine wpAnyH_ready (rs := [11]) (by kernel_rfl) (by simp) ?_
              refine AllReadyH.cons rfl (fun K hK => ?_) ?_
              · have T10 : Tbs x3 (some ⟨b10, 0, none⟩) 1 1 [⟨k, v, q⟩] := ⟨rfl, Nat.le_refl _, (fun e => by cases e), (fun x hx => by rw [List.mem_singleton.1 hx]; exact tok.out), fun b o p hp _ => by
                  cases hp
                  refine ⟨rfl, fun j hj => ?_⟩
                  have : j = 0 := by omega
                  subst this
                  exact ⟨cell_of k10 0 _ rfl, cell_of k10 1 _ rfl, cell_of k10 2 _ rfl⟩⟩
                obtain ⟨v4, x4, r4, R4, g4⟩ := app_tombs x3 (g + 3) _ ts R3 (some ⟨b10, 0, none⟩) 1 1 [⟨k, v, q⟩] T10 (by have := hxl.out; omega) hs0
                obtain ⟨a4, c4, rfl⟩ := Sa.row_block R4
                rw [show (ts ++ [(⟨k, v, q⟩ : T)]).length = tl + 1 by rw [List.length_append, hxl.out]; rfl] at r4 R4
                refine wp_append_run (.tmp 72) (.tmp 79) 26 26 rfl (.slice a3 tl c3) (.slice (some ⟨b10, 0, none⟩) 1 1) (.slice a4 (tl + 1) c4) (by go_simp) (by go_simp) r4 ?_
                go_simp
                refine hK.out _ _ (mj (hM.grown g4 (fun j hj => (own_lt R3 j hj).1))) (fun hS => ?_)
                replace hM := hM.grown g4 (fun j hj => (own_lt R3 j hj).1)
                clear hK K r4 T10 k10 R3 g4 hs0
                refine wpAnyH_take (i := 12) (v := ?v13) rfl (by kernel_rfl) (by kernel_rfl) (by kernel_rfl) (fun _ _ _ h => h) (Or.inl ⟨by rfl, ?h13⟩) hS ?_
                case h13 => (intro W hW; go_simp; try (with_reducible rfl))
                go_simp
                refine wpAnyH_ready (rs := [13]) (by kernel_rfl) (by simp) ?_
                refine AllReadyH.cons rfl (fun K hK => ?_) ?_
                · have hs4 := hM.s
                  obtain ⟨xz, hxz⟩ : ∃ W, W = x4.setCell ⟨g, 2, none⟩ (.slice a4 (tl + 1) c4) := ⟨_, rfl⟩
                  have b3 : Below g w xz := by rw [hxz]; exact hM.b.setCell (p := ⟨g, 2, none⟩) (Nat.le_refl _) _
                  have s3 : g + 3 ≤ xz.heap.size := by rw [hxz]; simp; exact hs4
                  have mo4 : xz.heap[g + 1]? = some (.cells #[.int .i64 2, .string k, .string v] 32) := by rw [hxz]; exact (set_ne _ _ _ _ _ (by omega)).trans hM.o
                  have c23 := cell_of hM.t 2 (.slice ta tl tc) rfl
                  have f23 := fz_of hM.t 2
                  have hz4 : Mj w (x4.setCell ⟨g, 2, none⟩ (.slice a4 (tl + 1) c4)) g #[.int .i64 2, .string k, .string v] := by rw [← hxz]; exact ⟨mo4, b3, s3⟩
                  go_simp
                  refine hK.out _ _ hz4 (fun hS => ?_)
                  rw [← hxz]
                  clear hK K c23 f23 hz4
                  refine wpAnyH_done (by kernel_rfl) ?_ _
                  have mt3 : xz.heap[g]? = some (.cells #[.int .i64 log, .slice ea el ec, .slice a4 (tl + 1) c4, .int .i64 len, .int .i64 sz, .int .u64 lo, .int .u64 hi, .bool false] 29) := by rw [hxz]; exact (set_of hM.t 2 _).trans rfl
                  have mo3 : xz.heap[go]? = some (.cells #[.int .i64 2, .string k, .string v] 32) := by rw [hxz]; exact (set_ne _ _ _ _ _ (by have := hgo.out; omega)).trans (by have := hM.o; rwa [hgo.out] at this)
                  have mz3 : xz.heap[gr]? = some (.cells #[.int .i64 0, .slice none 0 0, .slice none 0 0, .int .i64 0, .int .i64 0, .int .u64 0, .int .u64 0, .bool false] 29) := by rw [hxz]; exact (set_ne _ _ _ _ _ (by have := hgo.out; have := hgr.out; omega)).trans (by have := hM.z; rwa [show g + 2 = gr by have := hgo.out; have := hgr.out; omega] at this)
                  have R5 : OwnT xz (g + 3) (.slice a4 (tl + 1) c4) (ts ++ [⟨k, v, q⟩]) := own_blocks R4 (fun j hj => by rw [hxz]; exact set_ne _ _ _ _ _ (by have := (own_lt R4 j hj).1; omega))
                  have HC := rcount_any log ea a4 el ec (tl + 1) c4 len sz lo hi false q 2 k v xz hlen.out hsz.out hks.out.1 hks.out.2
                  rw [← hlen1.out, ← hsz1.out, ← hlo1.out, ← hhi1.out, ← htm.out] at HC
                  rw [← htm.out]
                  rw [← htm.out] at mt3 R5
                  replace HC := hid HC
                  have y0 := cell_of mt3 0 (.int .i64 log) rfl
                  have y1 := cell_of mt3 1 (.slice ea el ec) rfl
                  have y2 := cell_of mt3 2 (.slice a4 tm c4) rfl
                  have y3 := cell_of mt3 3 (.int .i64 len) rfl
                  have y4 := cell_of mt3 4 (.int .i64 sz) rfl
                  have y5 := cell_of mt3 5 (.int .u64 lo) rfl
                  have y6 := cell_of mt3 6 (.int .u64 hi) rfl
                  have y7 := cell_of mt3 7 (.bool false) rfl
                  have y8 := cell_of mo3 0 (.int .i64 2) rfl
                  have y9 := cell_of mo3 1 (.string k) rfl
                  have y10 := cell_of mo3 2 (.string v) rfl
                  replace mt3 := hid mt3
                  replace mo3 := hid mo3
                  replace mz3 := hid mz3
                  replace b3 := hid b3
                  replace s3 := hid s3
                  replace R5 := hid R5
                  clear R4 hs4 hS hM hxz mo4
                  go_wp2_with fail
                  refine HC.out.mono ?_
                  rintro e x6 ⟨rfl, b6⟩
                  have zb := (b6.block gr (blk_lt mz3.out)).trans mz3.out
                  have KF := put8_at zb (.int .i64 log) (.slice ea el ec) (.slice a4 tm c4) (.int .i64 len1) (.int .i64 sz1) (.int .u64 lo1) (.int .u64 hi1) (.bool false)
                  have BB : Below g w x6 := b3.out.trans (b6.mono (by have := s3.out; omega))
                  have BF := put8_below BB (g := gr) (by have := hgo.out; have := hgr.out; omega) (.int .i64 log) (.slice ea el ec) (.slice a4 tm c4) (.int .i64 len1) (.int .i64 sz1) (.int .u64 lo1) (.int .u64 hi1) (.bool false)
                  have R6 : OwnT (put8 x6 gr (.int .i64 log) (.slice ea el ec) (.slice a4 tm c4) (.int .i64 len1) (.int .i64 sz1) (.int .u64 lo1) (.int .u64 hi1) (.bool false)) g (.slice a4 tm c4) (ts ++ [⟨k, v, q⟩]) := Mt.own_base (own_blocks (OwnT.later R5.out b6) (fun j hj => put8_ne _ _ _ (by have := (own_lt R5.out j hj).1; have := hgo.out; have := hgr.out; omega) _ _ _ _ _ _ _ _)) (by omega)
                  have f0 := fz_of zb 0
                  have f1 := fz_of zb 1
                  have f2 := fz_of zb 2
                  have f3 := fz_of zb 3
                  have f4 := fz_of zb 4
                  have f5 := fz_of zb 5
                  have f6 := fz_of zb 6
                  have f7 := fz_of zb 7
                  have z0 := cell_of zb 0 (.int .i64 0) rfl
                  have z1 := cell_of zb 1 (.slice none 0 0) rfl
                  have z2 := cell_of zb 2 (.slice none 0 0) rfl
                  have z3 := cell_of zb 3 (.int .i64 0) rfl
                  have z4 := cell_of zb 4 (.int .i64 0) rfl
                  have z5 := cell_of zb 5 (.int .u64 0) rfl
                  have z6 := cell_of zb 6 (.int .u64 0) rfl
                  have z7 := cell_of zb 7 (.bool false) rfl
                  replace BF := hid BF
                  replace R6 := hid R6
                  replace KF := hid KF
                  clear zb BB b6 HC y0 y1 y2 y3 y4 y5 y6 y7 y8 y9 y10 hb0 hb10 hS
                  go_wp2_with fail
                  have KG := KF.out
                  have BG := BF.out
                  have RG := R6.out
                  unfold put8 at KG BG RG
                  generalize hWG : ((((((((x6.setCell ⟨gr, 0, none⟩ (.int .i64 log)).setCell ⟨gr, 1, none⟩ (.slice ea el ec)).setCell ⟨gr, 2, none⟩ (.slice a4 tm c4)).setCell ⟨gr, 3, none⟩ (.int .i64 len1)).setCell ⟨gr, 4, none⟩ (.int .i64 sz1)).setCell ⟨gr, 5, none⟩ (.int .u64 lo1)).setCell ⟨gr, 6, none⟩ (.int .u64 hi1)).setCell ⟨gr, 7, none⟩ (.bool false)) = WG at *
                  have q0 := cell_of KG 0 (.int .i64 log) rfl
                  have q1 := cell_of KG 1 (.slice ea el ec) rfl
                  have q2 := cell_of KG 2 (.slice a4 tm c4) rfl
                  have q3 := cell_of KG 3 (.int .i64 len1) rfl
                  have q4 := cell_of KG 4 (.int .i64 sz1) rfl
                  have q5 := cell_of KG 5 (.int .u64 lo1) rfl
                  have q6 := cell_of KG 6 (.int .u64 hi1) rfl
                  have q7 := cell_of KG 7 (.bool false) rfl
                  refine bodyPost_ret (v := .tuple #[.agg #[.int .i64 log, .slice ea el ec, .slice a4 tm c4, .int .i64 len1, .int .i64 sz1, .int .u64 lo1, .int .u64 hi1, .bool false], .int .i64 0]) (by simp [results, Try.results14, go_sem, q0, q1, q2, q3, q4, q5, q6, q7]) rfl ⟨a4, c4, rfl, ?_⟩
                  rw [← hg.out]
                  exact ⟨RG, BG⟩
                exact AllReadyH.nil
              exact AllReadyH.nil
            exact AllReadyH.nil
          exact AllReadyH.nil
        exact AllReadyH.nil
      refine AllReadyH.cons rfl (fun K hK => ?_) ?_
      · go_simp
        refine hK.out _ _ (mj (hM.later (box_below _ _))) (fun hS => ?_)
        clear hK K
        replace hM := hM.later (box_below x0 (.cells #[.string k, .string v, .int .u64 q] 111))
        have k10 := new_at x0 (.cells #[.string k, .string v, .int .u64 q] 111)
        obtain ⟨b10, hb10⟩ : ∃ n, n = x0.heap.size := ⟨_, rfl⟩
        rw [← hb10] at k10 ⊢
        generalize x0.alloc (.cells #[.string k, .string v, .int .u64 q] 111) = x1 at *
        replace hs0 := hM.s
        refine wpAnyH_ready (rs := [0, 2]) (by kernel_rfl) (by simp) ?_
        refine AllReadyH.cons rfl (fun K hK => ?_) ?_
        · go_simp
          refine hK.out _ _ (mj (hM.later (box_below _ _))) (fun hS => ?_)
          clear hK K
          replace hM := hM.later (box_below x1 (.cells #[] 111))
          have R0 : OwnT (x1.alloc (.cells #[] 111)) (g + 3) (.slice (some ⟨x1.heap.size, 0, none⟩) 0 0) [] := World.ownsRow_made x1 #[] 0 hs0 (by unfold maxLen; omega) rfl
          obtain ⟨b0, hb0⟩ : ∃ n, n = x1.heap.size := ⟨_, rfl⟩
          rw [← hb0] at R0 ⊢
          have hne : b0 ≠ b10 := by have := blk_lt k10; omega
          replace k10 := ((box_below x1 (.cells #[] 111)).block b10 (blk_lt k10)).trans k10
          generalize x1.alloc (.cells #[] 111) = x2 at *
          replace hs0 := hM.s
          refine wpAnyH_ready (rs := [2]) (by kernel_rfl) (by simp) ?_
          refine AllReadyH.cons rfl (fun K hK => ?_) ?_
          · have c2 := cell_of hM.t 2 (.slice ta tl tc) rfl
            go_simp
            refine hK.out _ _ hS (fun hS => ?_)
            clear hK K c2
            refine wpAnyH_ready (rs := [3]) (by kernel_rfl) (by simp) ?_
            refine AllReadyH.cons rfl (fun K hK => ?_) ?_
            · obtain ⟨v3, x3, r3, R3, g3⟩ := app_tombs x2 (g + 3) _ [] R0 ta tl tc ts (TT.out x2 hM.b) (by simp; omega) hs0
              rw [List.nil_append] at R3
              obtain ⟨a3, c3, rfl⟩ := Sa.row_block R3
              rw [hxl.out] at r3 R3
              refine wp_append_run (.tmp 69) (.tmp 71) 26 26 rfl (.slice (some ⟨b0, 0, none⟩) 0 0) (.slice ta tl tc) (.slice a3 tl c3) (by go_simp) (by go_simp) r3 ?_
              go_simp
              refine hK.out _ _ (mj (hM.grown g3 (fun j hj => (own_lt R0 j hj).1))) (fun hS => ?_)
              clear hK K r3
              replace hM := hM.grown g3 (fun j hj => (own_lt R0 j hj).1)
              replace k10 := (g3.block b10 (blk_lt k10) (fun e => hne (by simpa [Value.ownBlock] using e.symm))).trans k10
              clear hne
              clear g3 R0
              replace hs0 := hM.s
              refine wpAnyH_ready (rs := [11]) (by kernel_rfl) (by simp) ?_
              refine AllReadyH.cons rfl (fun K hK => ?_) ?_
              · have T10 : Tbs x3 (some ⟨b10, 0, none⟩) 1 1 [⟨k, v, q⟩] := ⟨rfl, Nat.le_refl _, (fun e => by cases e), (fun x hx => by rw [List.mem_singleton.1 hx]; exact tok.out), fun b o p hp _ => by
                  cases hp
                  refine ⟨rfl, fun j hj => ?_⟩
                  have : j = 0 := by omega
                  subst this
                  exact ⟨cell_of k10 0 _ rfl, cell_of k10 1 _ rfl, cell_of k10 2 _ rfl⟩⟩
                obtain ⟨v4, x4, r4, R4, g4⟩ := app_tombs x3 (g + 3) _ ts R3 (some ⟨b10, 0, none⟩) 1 1 [⟨k, v, q⟩] T10 (by have := hxl.out; omega) hs0
                obtain ⟨a4, c4, rfl⟩ := Sa.row_block R4
                rw [show (ts ++ [(⟨k, v, q⟩ : T)]).length = tl + 1 by rw [List.length_append, hxl.out]; rfl] at r4 R4
                refine wp_append_run (.tmp 72) (.tmp 79) 26 26 rfl (.slice a3 tl c3) (.slice (some ⟨b10, 0, none⟩) 1 1) (.slice a4 (tl + 1) c4) (by go_simp) (by go_simp) r4 ?_
                go_simp
                refine hK.out _ _ (mj (hM.grown g4 (fun j hj => (own_lt R3 j hj).1))) (fun hS => ?_)
                replace hM := hM.grown g4 (fun j hj => (own_lt R3 j hj).1)
                clear hK K r4 T10 k10 R3 g4 hs0
                refine wpAnyH_take (i := 12) (v := ?v14) rfl (by kernel_rfl) (by kernel_rfl) (by kernel_rfl) (fun _ _ _ h => h) (Or.inl ⟨by rfl, ?h14⟩) hS ?_
                case h14 => (intro W hW; go_simp; try (with_reducible rfl))
                go_simp
                refine wpAnyH_ready (rs := [13]) (by kernel_rfl) (by simp) ?_
                refine AllReadyH.cons rfl (fun K hK => ?_) ?_
                · have hs4 := hM.s
                  obtain ⟨xz, hxz⟩ : ∃ W, W = x4.setCell ⟨g, 2, none⟩ (.slice a4 (tl + 1) c4) := ⟨_, rfl⟩
                  have b3 : Below g w xz := by rw [hxz]; exact hM.b.setCell (p := ⟨g, 2, none⟩) (Nat.le_refl _) _
                  have s3 : g + 3 ≤ xz.heap.size := by rw [hxz]; simp; exact hs4
                  have mo4 : xz.heap[g + 1]? = some (.cells #[.int .i64 2, .string k, .string v] 32) := by rw [hxz]; exact (set_ne _ _ _ _ _ (by omega)).trans hM.o
                  have c23 := cell_of hM.t 2 (.slice ta tl tc) rfl
                  have f23 := fz_of hM.t 2
                  have hz4 : Mj w (x4.setCell ⟨g, 2, none⟩ (.slice a4 (tl + 1) c4)) g #[.int .i64 2, .string k, .string v] := by rw [← hxz]; exact ⟨mo4, b3, s3⟩
                  go_simp
                  refine hK.out _ _ hz4 (fun hS => ?_)
                  rw [← hxz]
                  clear hK K c23 f23 hz4
                  refine wpAnyH_done (by kernel_rfl) ?_ _
                  have mt3 : xz.heap[g]? = some (.cells #[.int .i64 log, .slice ea el ec, .slice a4 (tl + 1) c4, .int .i64 len, .int .i64 sz, .int .u64 lo, .int .u64 hi, .bool false] 29) := by rw [hxz]; exact (set_of hM.t 2 _).trans rfl
                  have mo3 : xz.heap[go]? = some (.cells #[.int .i64 2, .string k, .string v] 32) := by rw [hxz]; exact (set_ne _ _ _ _ _ (by have := hgo.out; omega)).trans (by have := hM.o; rwa [hgo.out] at this)
                  have mz3 : xz.heap[gr]? = some (.cells #[.int .i64 0, .slice none 0 0, .slice none 0 0, .int .i64 0, .int .i64 0, .int .u64 0, .int .u64 0, .bool false] 29) := by rw [hxz]; exact (set_ne _ _ _ _ _ (by have := hgo.out; have := hgr.out; omega)).trans (by have := hM.z; rwa [show g + 2 = gr by have := hgo.out; have := hgr.out; omega] at this)
                  have R5 : OwnT xz (g + 3) (.slice a4 (tl + 1) c4) (ts ++ [⟨k, v, q⟩]) := own_blocks R4 (fun j hj => by rw [hxz]; exact set_ne _ _ _ _ _ (by have := (own_lt R4 j hj).1; omega))
                  have HC := rcount_any log ea a4 el ec (tl + 1) c4 len sz lo hi false q 2 k v xz hlen.out hsz.out hks.out.1 hks.out.2
                  rw [← hlen1.out, ← hsz1.out, ← hlo1.out, ← hhi1.out, ← htm.out] at HC
                  rw [← htm.out]
                  rw [← htm.out] at mt3 R5
                  replace HC := hid HC
                  have y0 := cell_of mt3 0 (.int .i64 log) rfl
                  have y1 := cell_of mt3 1 (.slice ea el ec) rfl
                  have y2 := cell_of mt3 2 (.slice a4 tm c4) rfl
                  have y3 := cell_of mt3 3 (.int .i64 len) rfl
                  have y4 := cell_of mt3 4 (.int .i64 sz) rfl
                  have y5 := cell_of mt3 5 (.int .u64 lo) rfl
                  have y6 := cell_of mt3 6 (.int .u64 hi) rfl
                  have y7 := cell_of mt3 7 (.bool false) rfl
                  have y8 := cell_of mo3 0 (.int .i64 2) rfl
                  have y9 := cell_of mo3 1 (.string k) rfl
                  have y10 := cell_of mo3 2 (.string v) rfl
                  replace mt3 := hid mt3
                  replace mo3 := hid mo3
                  replace mz3 := hid mz3
                  replace b3 := hid b3
                  replace s3 := hid s3
                  replace R5 := hid R5
                  clear R4 hs4 hS hM hxz mo4
                  go_wp2_with fail
                  refine HC.out.mono ?_
                  rintro e x6 ⟨rfl, b6⟩
                  have zb := (b6.block gr (blk_lt mz3.out)).trans mz3.out
                  have KF := put8_at zb (.int .i64 log) (.slice ea el ec) (.slice a4 tm c4) (.int .i64 len1) (.int .i64 sz1) (.int .u64 lo1) (.int .u64 hi1) (.bool false)
                  have BB : Below g w x6 := b3.out.trans (b6.mono (by have := s3.out; omega))
                  have BF := put8_below BB (g := gr) (by have := hgo.out; have := hgr.out; omega) (.int .i64 log) (.slice ea el ec) (.slice a4 tm c4) (.int .i64 len1) (.int .i64 sz1) (.int .u64 lo1) (.int .u64 hi1) (.bool false)
                  have R6 : OwnT (put8 x6 gr (.int .i64 log) (.slice ea el ec) (.slice a4 tm c4) (.int .i64 len1) (.int .i64 sz1) (.int .u64 lo1) (.int .u64 hi1) (.bool false)) g (.slice a4 tm c4) (ts ++ [⟨k, v, q⟩]) := Mt.own_base (own_blocks (OwnT.later R5.out b6) (fun j hj => put8_ne _ _ _ (by have := (own_lt R5.out j hj).1; have := hgo.out; have := hgr.out; omega) _ _ _ _ _ _ _ _)) (by omega)
                  have f0 := fz_of zb 0
                  have f1 := fz_of zb 1
                  have f2 := fz_of zb 2
                  have f3 := fz_of zb 3
                  have f4 := fz_of zb 4
                  have f5 := fz_of zb 5
                  have f6 := fz_of zb 6
                  have f7 := fz_of zb 7
                  have z0 := cell_of zb 0 (.int .i64 0) rfl
                  have z1 := cell_of zb 1 (.slice none 0 0) rfl
                  have z2 := cell_of zb 2 (.slice none 0 0) rfl
                  have z3 := cell_of zb 3 (.int .i64 0) rfl
                  have z4 := cell_of zb 4 (.int .i64 0) rfl
                  have z5 := cell_of zb 5 (.int .u64 0) rfl
                  have z6 := cell_of zb 6 (.int .u64 0) rfl
                  have z7 := cell_of zb 7 (.bool false) rfl
                  replace BF := hid BF
                  replace R6 := hid R6
                  replace KF := hid KF
                  clear zb BB b6 HC y0 y1 y2 y3 y4 y5 y6 y7 y8 y9 y10 hb0 hb10 hS
                  go_wp2_with fail
                  have KG := KF.out
                  have BG := BF.out
                  have RG := R6.out
                  unfold put8 at KG BG RG
                  generalize hWG : ((((((((x6.setCell ⟨gr, 0, none⟩ (.int .i64 log)).setCell ⟨gr, 1, none⟩ (.slice ea el ec)).setCell ⟨gr, 2, none⟩ (.slice a4 tm c4)).setCell ⟨gr, 3, none⟩ (.int .i64 len1)).setCell ⟨gr, 4, none⟩ (.int .i64 sz1)).setCell ⟨gr, 5, none⟩ (.int .u64 lo1)).setCell ⟨gr, 6, none⟩ (.int .u64 hi1)).setCell ⟨gr, 7, none⟩ (.bool false)) = WG at *
                  have q0 := cell_of KG 0 (.int .i64 log) rfl
                  have q1 := cell_of KG 1 (.slice ea el ec) rfl
                  have q2 := cell_of KG 2 (.slice a4 tm c4) rfl
                  have q3 := cell_of KG 3 (.int .i64 len1) rfl
                  have q4 := cell_of KG 4 (.int .i64 sz1) rfl
                  have q5 := cell_of KG 5 (.int .u64 lo1) rfl
                  have q6 := cell_of KG 6 (.int .u64 hi1) rfl
                  have q7 := cell_of KG 7 (.bool false) rfl
                  refine bodyPost_ret (v := .tuple #[.agg #[.int .i64 log, .slice ea el ec, .slice a4 tm c4, .int .i64 len1, .int .i64 sz1, .int .u64 lo1, .int .u64 hi1, .bool false], .int .i64 0]) (by simp [results, Try.results14, go_sem, q0, q1, q2, q3, q4, q5, q6, q7]) rfl ⟨a4, c4, rfl, ?_⟩
                  rw [← hg.out]
                  exact ⟨RG, BG⟩
                exact AllReadyH.nil
              exact AllReadyH.nil
            exact AllReadyH.nil
          exact AllReadyH.nil
        refine AllReadyH.cons rfl (fun K hK => ?_) ?_
        · have c2 := cell_of hM.t 2 (.slice ta tl tc) rfl
          go_simp
          refine hK.out _ _ hS (fun hS => ?_)
          clear hK K c2
          refine wpAnyH_ready (rs := [0]) (by kernel_rfl) (by simp) ?_
          refine AllReadyH.cons rfl (fun K hK => ?_) ?_
          · go_simp
            refine hK.out _ _ (mj (hM.later (box_below _ _))) (fun hS => ?_)
            clear hK K
            replace hM := hM.later (box_below x1 (.cells #[] 111))
            have R0 : OwnT (x1.alloc (.cells #[] 111)) (g + 3) (.slice (some ⟨x1.heap.size, 0, none⟩) 0 0) [] := World.ownsRow_made x1 #[] 0 hs0 (by unfold maxLen; omega) rfl
            obtain ⟨b0, hb0⟩ : ∃ n, n = x1.heap.size := ⟨_, rfl⟩
            rw [← hb0] at R0 ⊢
            have hne : b0 ≠ b10 := by have := blk_lt k10; omega
            replace k10 := ((box_below x1 (.cells #[] 111)).block b10 (blk_lt k10)).trans k10
            generalize x1.alloc (.cells #[] 111) = x2 at *
            replace hs0 := hM.s
            refine wpAnyH_ready (rs := [3]) (by kernel_rfl) (by simp) ?_
            refine AllReadyH.cons rfl (fun K hK => ?_) ?_
            · obtain ⟨v3, x3, r3, R3, g3⟩ := app_tombs x2 (g + 3) _ [] R0 ta tl tc ts (TT.out x2 hM.b) (by simp; omega) hs0
              rw [List.nil_append] at R3
              obtain ⟨a3, c3, rfl⟩ := Sa.row_block R3
              rw [hxl.out] at r3 R3
              refine wp_append_run (.tmp 69) (.tmp 71) 26 26 rfl (.slice (some ⟨b0, 0, none⟩) 0 0) (.slice ta tl tc) (.slice a3 tl c3) (by go_simp) (by go_simp) r3 ?_
              go_simp
              refine hK.out _ _ (mj (hM.grown g3 (fun j hj => (own_lt R0 j hj).1))) (fun hS => ?_)
              clear hK K r3
              replace hM := hM.grown g3 (fun j hj => (own_lt R0 j hj).1)
              replace k10 := (g3.block b10 (blk_lt k10) (fun e => hne (by simpa [Value.ownBlock] using e.symm))).trans k10
              clear hne
              clear g3 R0
              replace hs0 := hM.s
              refine wpAnyH_ready (rs := [11]) (by kernel_rfl) (by simp) ?_
              refine AllReadyH.cons rfl (fun K hK => ?_) ?_
              · have T10 : Tbs x3 (some ⟨b10, 0, none⟩) 1 1 [⟨k, v, q⟩] := ⟨rfl, Nat.le_refl _, (fun e => by cases e), (fun x hx => by rw [List.mem_singleton.1 hx]; exact tok.out), fun b o p hp _ => by
                  cases hp
                  refine ⟨rfl, fun j hj => ?_⟩
                  have : j = 0 := by omega
                  subst this
                  exact ⟨cell_of k10 0 _ rfl, cell_of k10 1 _ rfl, cell_of k10 2 _ rfl⟩⟩
                obtain ⟨v4, x4, r4, R4, g4⟩ := app_tombs x3 (g + 3) _ ts R3 (some ⟨b10, 0, none⟩) 1 1 [⟨k, v, q⟩] T10 (by have := hxl.out; omega) hs0
                obtain ⟨a4, c4, rfl⟩ := Sa.row_block R4
                rw [show (ts ++ [(⟨k, v, q⟩ : T)]).length = tl + 1 by rw [List.length_append, hxl.out]; rfl] at r4 R4
                refine wp_append_run (.tmp 72) (.tmp 79) 26 26 rfl (.slice a3 tl c3) (.slice (some ⟨b10, 0, none⟩) 1 1) (.slice a4 (tl + 1) c4) (by go_simp) (by go_simp) r4 ?_
                go_simp
                refine hK.out _ _ (mj (hM.grown g4 (fun j hj => (own_lt R3 j hj).1))) (fun hS => ?_)
                replace hM := hM.grown g4 (fun j hj => (own_lt R3 j hj).1)
                clear hK K r4 T10 k10 R3 g4 hs0
                refine wpAnyH_take (i := 12) (v := ?v15) rfl (by kernel_rfl) (by kernel_rfl) (by kernel_rfl) (fun _ _ _ h => h) (Or.inl ⟨by rfl, ?h15⟩) hS ?_
                case h15 => (intro W hW; go_simp; try (with_reducible rfl))
                go_simp
                refine wpAnyH_ready (rs := [13]) (by kernel_rfl) (by simp) ?_
                refine AllReadyH.cons rfl (fun K hK => ?_) ?_
                · have hs4 := hM.s
                  obtain ⟨xz, hxz⟩ : ∃ W, W = x4.setCell ⟨g, 2, none⟩ (.slice a4 (tl + 1) c4) := ⟨_, rfl⟩
                  have b3 : Below g w xz := by rw [hxz]; exact hM.b.setCell (p := ⟨g, 2, none⟩) (Nat.le_refl _) _
                  have s3 : g + 3 ≤ xz.heap.size := by rw [hxz]; simp; exact hs4
                  have mo4 : xz.heap[g + 1]? = some (.cells #[.int .i64 2, .string k, .string v] 32) := by rw [hxz]; exact (set_ne _ _ _ _ _ (by omega)).trans hM.o
                  have c23 := cell_of hM.t 2 (.slice ta tl tc) rfl
                  have f23 := fz_of hM.t 2
                  have hz4 : Mj w (x4.setCell ⟨g, 2, none⟩ (.slice a4 (tl + 1) c4)) g #[.int .i64 2, .string k, .string v] := by rw [← hxz]; exact ⟨mo4, b3, s3⟩
                  go_simp
                  refine hK.out _ _ hz4 (fun hS => ?_)
                  rw [← hxz]
                  clear hK K c23 f23 hz4
                  refine wpAnyH_done (by kernel_rfl) ?_ _
                  have mt3 : xz.heap[g]? = some (.cells #[.int .i64 log, .slice ea el ec, .slice a4 (tl + 1) c4, .int .i64 len, .int .i64 sz, .int .u64 lo, .int .u64 hi, .bool false] 29) := by rw [hxz]; exact (set_of hM.t 2 _).trans rfl
                  have mo3 : xz.heap[go]? = some (.cells #[.int .i64 2, .string k, .string v] 32) := by rw [hxz]; exact (set_ne _ _ _ _ _ (by have := hgo.out; omega)).trans (by have := hM.o; rwa [hgo.out] at this)
                  have mz3 : xz.heap[gr]? = some (.cells #[.int .i64 0, .slice none 0 0, .slice none 0 0, .int .i64 0, .int .i64 0, .int .u64 0, .int .u64 0, .bool false] 29) := by rw [hxz]; exact (set_ne _ _ _ _ _ (by have := hgo.out; have := hgr.out; omega)).trans (by have := hM.z; rwa [show g + 2 = gr by have := hgo.out; have := hgr.out; omega] at this)
                  have R5 : OwnT xz (g + 3) (.slice a4 (tl + 1) c4) (ts ++ [⟨k, v, q⟩]) := own_blocks R4 (fun j hj => by rw [hxz]; exact set_ne _ _ _ _ _ (by have := (own_lt R4 j hj).1; omega))
                  have HC := rcount_any log ea a4 el ec (tl + 1) c4 len sz lo hi false q 2 k v xz hlen.out hsz.out hks.out.1 hks.out.2
                  rw [← hlen1.out, ← hsz1.out, ← hlo1.out, ← hhi1.out, ← htm.out] at HC
                  rw [← htm.out]
                  rw [← htm.out] at mt3 R5
                  replace HC := hid HC
                  have y0 := cell_of mt3 0 (.int .i64 log) rfl
                  have y1 := cell_of mt3 1 (.slice ea el ec) rfl
                  have y2 := cell_of mt3 2 (.slice a4 tm c4) rfl
                  have y3 := cell_of mt3 3 (.int .i64 len) rfl
                  have y4 := cell_of mt3 4 (.int .i64 sz) rfl
                  have y5 := cell_of mt3 5 (.int .u64 lo) rfl
                  have y6 := cell_of mt3 6 (.int .u64 hi) rfl
                  have y7 := cell_of mt3 7 (.bool false) rfl
                  have y8 := cell_of mo3 0 (.int .i64 2) rfl
                  have y9 := cell_of mo3 1 (.string k) rfl
                  have y10 := cell_of mo3 2 (.string v) rfl
                  replace mt3 := hid mt3
                  replace mo3 := hid mo3
                  replace mz3 := hid mz3
                  replace b3 := hid b3
                  replace s3 := hid s3
                  replace R5 := hid R5
                  clear R4 hs4 hS hM hxz mo4
                  go_wp2_with fail
                  refine HC.out.mono ?_
                  rintro e x6 ⟨rfl, b6⟩
                  have zb := (b6.block gr (blk_lt mz3.out)).trans mz3.out
                  have KF := put8_at zb (.int .i64 log) (.slice ea el ec) (.slice a4 tm c4) (.int .i64 len1) (.int .i64 sz1) (.int .u64 lo1) (.int .u64 hi1) (.bool false)
                  have BB : Below g w x6 := b3.out.trans (b6.mono (by have := s3.out; omega))
                  have BF := put8_below BB (g := gr) (by have := hgo.out; have := hgr.out; omega) (.int .i64 log) (.slice ea el ec) (.slice a4 tm c4) (.int .i64 len1) (.int .i64 sz1) (.int .u64 lo1) (.int .u64 hi1) (.bool false)
                  have R6 : OwnT (put8 x6 gr (.int .i64 log) (.slice ea el ec) (.slice a4 tm c4) (.int .i64 len1) (.int .i64 sz1) (.int .u64 lo1) (.int .u64 hi1) (.bool false)) g (.slice a4 tm c4) (ts ++ [⟨k, v, q⟩]) := Mt.own_base (own_blocks (OwnT.later R5.out b6) (fun j hj => put8_ne _ _ _ (by have := (own_lt R5.out j hj).1; have := hgo.out; have := hgr.out; omega) _ _ _ _ _ _ _ _)) (by omega)
                  have f0 := fz_of zb 0
                  have f1 := fz_of zb 1
                  have f2 := fz_of zb 2
                  have f3 := fz_of zb 3
                  have f4 := fz_of zb 4
                  have f5 := fz_of zb 5
                  have f6 := fz_of zb 6
                  have f7 := fz_of zb 7
                  have z0 := cell_of zb 0 (.int .i64 0) rfl
                  have z1 := cell_of zb 1 (.slice none 0 0) rfl
                  have z2 := cell_of zb 2 (.slice none 0 0) rfl
                  have z3 := cell_of zb 3 (.int .i64 0) rfl
                  have z4 := cell_of zb 4 (.int .i64 0) rfl
                  have z5 := cell_of zb 5 (.int .u64 0) rfl
                  have z6 := cell_of zb 6 (.int .u64 0) rfl
                  have z7 := cell_of zb 7 (.bool false) rfl
                  replace BF := hid BF
                  replace R6 := hid R6
                  replace KF := hid KF
                  clear zb BB b6 HC y0 y1 y2 y3 y4 y5 y6 y7 y8 y9 y10 hb0 hb10 hS
                  go_wp2_with fail
                  have KG := KF.out
                  have BG := BF.out
                  have RG := R6.out
                  unfold put8 at KG BG RG
                  generalize hWG : ((((((((x6.setCell ⟨gr, 0, none⟩ (.int .i64 log)).setCell ⟨gr, 1, none⟩ (.slice ea el ec)).setCell ⟨gr, 2, none⟩ (.slice a4 tm c4)).setCell ⟨gr, 3, none⟩ (.int .i64 len1)).setCell ⟨gr, 4, none⟩ (.int .i64 sz1)).setCell ⟨gr, 5, none⟩ (.int .u64 lo1)).setCell ⟨gr, 6, none⟩ (.int .u64 hi1)).setCell ⟨gr, 7, none⟩ (.bool false)) = WG at *
                  have q0 := cell_of KG 0 (.int .i64 log) rfl
                  have q1 := cell_of KG 1 (.slice ea el ec) rfl
                  have q2 := cell_of KG 2 (.slice a4 tm c4) rfl
                  have q3 := cell_of KG 3 (.int .i64 len1) rfl
                  have q4 := cell_of KG 4 (.int .i64 sz1) rfl
                  have q5 := cell_of KG 5 (.int .u64 lo1) rfl
                  have q6 := cell_of KG 6 (.int .u64 hi1) rfl
                  have q7 := cell_of KG 7 (.bool false) rfl
                  refine bodyPost_ret (v := .tuple #[.agg #[.int .i64 log, .slice ea el ec, .slice a4 tm c4, .int .i64 len1, .int .i64 sz1, .int .u64 lo1, .int .u64 hi1, .bool false], .int .i64 0]) (by simp [results, Try.results14, go_sem, q0, q1, q2, q3, q4, q5, q6, q7]) rfl ⟨a4, c4, rfl, ?_⟩
                  rw [← hg.out]
                  exact ⟨RG, BG⟩
                exact AllReadyH.nil
              exact AllReadyH.nil
            exact AllReadyH.nil
          exact AllReadyH.nil
        exact AllReadyH.nil
      exact AllReadyH.nil
end Go.Proofs.Ytefihoohdaegeaa.Dc

/- The document's Table.Add beside the program's: what it answers and leaves. -/
import Derived.Test.YtefihoohdaegeaaDc
import Derived.Test.YtefihoohdaegeaaDe
import Derived.Test.YtefihoohdaegeaaDf
import Derived.Test.YtefihoohdaegeaaGu
namespace Go.Proofs.Ytefihoohdaegeaa.Dg
open Go.ChangeShapes Go.WideShapes Go.ChangeAt Go.RowKit Go.Shelf
open Go.Proofs.Ytefihoohdaegeaa.Lx (hid lt)
open Go.Proofs.Ytefihoohdaegeaa.Ik
open Go.Proofs.Ytefihoohdaegeaa.Cm
open Go.Proofs.Ytefihoohdaegeaa.Ck
open Go.Proofs.Ytefihoohdaegeaa.Ad
open Go.Proofs.Ytefihoohdaegeaa.Sg
open Go.Proofs.Ytefihoohdaegeaa.In
open Go.Proofs.Ytefihoohdaegeaa.Tb
open Go.Proofs.Ytefihoohdaegeaa.Pt (St.count)
open Go.Proofs.Ytefihoohdaegeaa.Ee (E ze Ents At4)
open Go.Proofs.Ytefihoohdaegeaa.Tm (T zt)
open Go.Proofs.Ytefihoohdaegeaa.Eo
open Go.Proofs.Ytefihoohdaegeaa.Et (ents)
open Go.Proofs.Ytefihoohdaegeaa.Rw
open Go.Proofs.Ytefihoohdaegeaa.Fm (has own_lt own_blocks)
open Go.Proofs.Ytefihoohdaegeaa.Gt (nd_mem)
open Go.Proofs.Ytefihoohdaegeaa.Da (plc)
open Go.Proofs.Ytefihoohdaegeaa.Vl (vld)
open Go.Proofs.Ytefihoohdaegeaa.Kd
open Go.Proofs.Ytefihoohdaegeaa.Pm (ents_rise ents_mem)
set_option linter.unusedVariables false
set_option linter.unusedSimpArgs false

theorem ents_ok {S : St} (W : Wf S) : ∀ x ∈ ents S S.ord, x.ok := fun x hx => by
  unfold ents at hx
  obtain ⟨n, hn, rfl⟩ := List.mem_map.1 hx
  exact (Gt.entN_ok W ((W.gd.mem n).1 hn).2).1
theorem thr_ents {S : St} (W : Wf S) (K : IK) : thr S.ns S.ord K = true ↔ ∃ x ∈ ents S S.ord, x.ik = K := by
  have G := W.gd
  constructor
  · intro h
    unfold thr at h
    simp only [decide_eq_true_eq] at h
    obtain ⟨h0, h1⟩ := h
    obtain ⟨fm, _⟩ := first_mem G K h0
    refine ⟨entN S.ns (firstN S.ns S.ord K), List.mem_map.2 ⟨_, fm, rfl⟩, ?_⟩
    unfold entN
    rw [if_neg h0]
    exact (cmp_zero _ _).1 h1
  · rintro ⟨x, hx, hk⟩
    obtain ⟨n, hn, rfl⟩ := List.mem_map.1 hx
    refine (Fi.first_eq G K n hn ?_).2
    rw [cmp_zero]
    unfold entN at hk
    rw [if_neg (G.ne0 hn)] at hk
    exact hk
theorem ents_len {S : St} : (ents S S.ord).length = S.ord.length := by unfold ents; rw [List.length_map]
theorem ents_ins {S : St} (W : Wf S) (k v : ByteArray) (q c : Int) (h : Nat) :
    (ordI S.ns S.ord (ik k q c) (S.ns.length + 1)).map (entN (S.ns ++ [⟨k, q, c, .string v, h⟩])) = (ents S S.ord).take (plc (ents S S.ord) (ik k q c)) ++ [⟨k, q, c, v⟩] ++ (ents S S.ord).drop (plc (ents S S.ord) (ik k q c)) := by
  have G := W.gd
  have old : ∀ l : List Nat, (∀ n ∈ l, n ∈ S.ord) → l.map (entN (S.ns ++ [(⟨k, q, c, .string v, h⟩ : N)])) = l.map (entN S.ns) := fun l hl => List.map_congr_left fun n hn => by
    have hm := (G.mem n).1 (hl n hn)
    unfold entN
    rw [nd_old hm.1 hm.2]
  have hnew : entN (S.ns ++ [(⟨k, q, c, .string v, h⟩ : N)]) (S.ns.length + 1) = ⟨k, q, c, v⟩ := by
    unfold entN
    rw [if_neg (by omega), nd_new]
    rfl
  have bel : ∀ n ∈ S.ord, decide (cmp (entN S.ns n).ik (ik k q c) < 0) = below S.ns (ik k q c) n := fun n hn => by
    unfold entN below
    rw [if_neg (G.ne0 hn)]
    rfl
  have e1 : (ents S S.ord).filter (fun x => decide (cmp x.ik (ik k q c) < 0)) = (S.ord.filter (below S.ns (ik k q c))).map (entN S.ns) := by
    unfold ents
    rw [List.filter_map]
    congr 1
    exact List.filter_congr fun n hn => bel n hn
  have hsp : ents S S.ord = (S.ord.filter (below S.ns (ik k q c))).map (entN S.ns) ++ (S.ord.filter (fun n => !below S.ns (ik k q c) n)).map (entN S.ns) := by
    rw [← List.map_append, ← ord_split G]; rfl
  have hpl : plc (ents S S.ord) (ik k q c) = ((S.ord.filter (below S.ns (ik k q c))).map (entN S.ns)).length := by unfold plc; rw [e1]
  rw [hpl]
  generalize hA : (S.ord.filter (below S.ns (ik k q c))).map (entN S.ns) = A at *
  generalize hB : (S.ord.filter (fun n => !below S.ns (ik k q c) n)).map (entN S.ns) = B at *
  rw [hsp, List.take_left, List.drop_left]
  unfold ordI
  rw [List.map_append, List.map_cons, hnew, old _ (fun n hn => (List.mem_filter.1 hn).1), old _ (fun n hn => (List.mem_filter.1 hn).1), hA, hB]
  simp
/-- The least number is nought just where nothing was taken. -/
def Lz (S : St) : Prop := ((S.ns.length : Int) + S.ts.length = 0 ↔ S.lo = 0)
theorem Lz.new (log : Int) : Lz (St.new log) := by unfold Lz; simp [St.new]
theorem vld_may {c q : Int} {k v : ByteArray} (hm : may c k v = true) (hq : q ≤ 72057594037927935) (hc : c ≠ 2) : vld k q c = true := by
  obtain ⟨m1, m2, m3, m4⟩ := may_sizes hm
  unfold vld
  simp only [Bool.and_eq_true]
  refine ⟨⟨?_, ?_⟩, ?_⟩
  · unfold sizeB; simp; omega
  · unfold seqB; simp; omega
  · unfold kindB; rcases m3 with h | h | h
    · simp [h]
    · simp [h]
    · exact absurd h hc
/-- A table of the document's that holds what the program's holds. -/
structure RT (w : World) (S : St) (ea : Option Addr) (el ec : Nat) (ta : Option Addr) (tl tc : Nat) : Prop where
  e : OwnE w 0 (.slice ea el ec) (ents S S.ord)
  el : (ents S S.ord).length = el
  t : OwnT w 0 (.slice ta tl tc) S.ts
  tl : S.ts.length = tl
theorem RT.later {w w' : World} {S : St} {ea ta : Option Addr} {el ec tl tc : Nat} (h : RT w S ea el ec ta tl tc) (b : Below w.heap.size w w') : RT w' S ea el ec ta tl tc := ⟨h.e.later b, h.el, Dc.OwnT.later h.t b, h.tl⟩
def tvl (S : St) (ea : Option Addr) (el ec : Nat) (ta : Option Addr) (tl tc : Nat) : Array Value := #[.int .i64 S.log, .slice ea el ec, .slice ta tl tc, .int .i64 ((S.ns.length : Int) + S.ts.length), .int .i64 S.sz, .int .u64 S.lo, .int .u64 S.hi, .bool S.dn]
theorem adS_lz {S : St} (hz : Lz S) (q c : Int) (k v : ByteArray) (h : Int) (hlo : 0 ≤ S.lo) : Lz (adS S q c k v h) := by
  unfold adS
  by_cases hE : adE S q c k v h = 0
  · rw [if_neg (by rw [hE]; simp)]
    have hch : chk S q c k v h = 0 := by
      by_cases hc : chk S q c k v h = 0
      · exact hc
      · unfold adE at hE; rw [if_pos hc] at hE; exact absurd hE hc
    obtain ⟨z1, z2, z3, z4⟩ := chk_zero hch
    have hne : ¬ (if S.lo = 0 ∨ q < S.lo then q else S.lo) = 0 := by split <;> omega
    by_cases hc : c = 2
    · rw [if_pos hc]
      refine ⟨fun h0 => ?_, fun h0 => absurd h0 hne⟩
      exfalso
      have h0' : (S.ns.length : Int) + ((S.ts ++ [(⟨k, v, q⟩ : T)]).length : Nat) = 0 := h0
      rw [List.length_append] at h0'
      simp at h0'
      omega
    · rw [if_neg hc]
      refine ⟨fun h0 => ?_, fun h0 => absurd h0 hne⟩
      exfalso
      have h0' : ((S.ns ++ [(⟨k, q, c, .string v, h.toNat⟩ : N)]).length : Int) + (S.ts.length : Nat) = 0 := h0
      rw [List.length_append] at h0'
      simp at h0'
      omega
  · rw [if_pos hE]; exact hz
theorem adS_lo {S : St} (hlo : 0 ≤ S.lo) (q c : Int) (k v : ByteArray) (h : Int) : 0 ≤ (adS S q c k v h).lo := by
  unfold adS
  by_cases hE : adE S q c k v h = 0
  · rw [if_neg (by rw [hE]; simp)]
    have hch : chk S q c k v h = 0 := by
      by_cases hc : chk S q c k v h = 0
      · exact hc
      · unfold adE at hE; rw [if_pos hc] at hE; exact absurd hE hc
    obtain ⟨z1, z2, z3, z4⟩ := chk_zero hch
    have : 0 ≤ (if S.lo = 0 ∨ q < S.lo then q else S.lo) := by split <;> omega
    by_cases hc : c = 2
    · rw [if_pos hc]; exact this
    · rw [if_neg hc]; exact this
  · rw [if_pos hE]; exact hlo
theorem radd_any (S : St) (W : Wf S) (hz : Lz S) (ea ta : Option Addr) (el ec tl tc : Nat) (q c : Int) (k v : ByteArray) (h : Int) (w : World) (H : RT w S ea el ec ta tl tc) (hk : k.size ≤ maxLen) (hv : v.size ≤ maxLen) (hts : (tl + 1) * 40 ≤ 140737488355328) :
    Calls Try.prog 14 #[.agg (tvl S ea el ec ta tl tc), .int .u64 q, .agg #[.int .i64 c, .string k, .string v], .int .i64 h] w fun e w' => ∃ ea' el' ec' ta' tl' tc', e = .returned (.tuple #[.agg (tvl (adS S q c k v h) ea' el' ec' ta' tl' tc'), .int .i64 (adE S q c k v h)]) ∧ RT w' (adS S q c k v h) ea' el' ec' ta' tl' tc' ∧ (∀ j, (Value.slice ea' el' ec').ownBlock = some j → (Value.slice ea el ec).ownBlock = some j ∨ w.heap.size ≤ j) ∧ (∀ j, (Value.slice ta' tl' tc').ownBlock = some j → (Value.slice ta tl tc).ownBlock = some j ∨ w.heap.size ≤ j) ∧ Below w.heap.size w w' := by
  -- a refusal leaves all as it was
  have no : ∀ E : Int, E ≠ 0 → adE S q c k v h = E → (Calls Try.prog 14 #[.agg (tvl S ea el ec ta tl tc), .int .u64 q, .agg #[.int .i64 c, .string k, .string v], .int .i64 h] w fun e w' => e = .returned (.tuple #[.agg (tvl S ea el ec ta tl tc), .int .i64 E]) ∧ Below w.heap.size w w') → Calls Try.prog 14 #[.agg (tvl S ea el ec ta tl tc), .int .u64 q, .agg #[.int .i64 c, .string k, .string v], .int .i64 h] w fun e w' => ∃ ea' el' ec' ta' tl' tc', e = .returned (.tuple #[.agg (tvl (adS S q c k v h) ea' el' ec' ta' tl' tc'), .int .i64 (adE S q c k v h)]) ∧ RT w' (adS S q c k v h) ea' el' ec' ta' tl' tc' ∧ (∀ j, (Value.slice ea' el' ec').ownBlock = some j → (Value.slice ea el ec).ownBlock = some j ∨ w.heap.size ≤ j) ∧ (∀ j, (Value.slice ta' tl' tc').ownBlock = some j → (Value.slice ta tl tc).ownBlock = some j ∨ w.heap.size ≤ j) ∧ Below w.heap.size w w' := fun E hE he hC => by
    have eS : adS S q c k v h = S := by unfold adS; rw [if_pos (by rw [he]; exact hE)]
    rw [eS, he]
    refine hC.mono ?_
    rintro e w' ⟨rfl, b⟩
    exact ⟨ea, el, ec, ta, tl, tc, rfl, H.later b, fun j hj => .inl hj, fun j hj => .inl hj, b⟩
  have AE : ∀ E : Int, E ≠ 0 → chk S q c k v h = E → adE S q c k v h = E := fun E hE he => by unfold adE; rw [if_pos (by rw [he]; exact hE), he]
  have hlen : (0 : Int) ≤ (S.ns.length : Int) + S.ts.length ∧ (S.ns.length : Int) + S.ts.length ≤ 4000000000000000000 := by
    have := W.cap
    have := H.tl
    omega
  have hsz : (0 : Int) ≤ S.sz ∧ S.sz ≤ 4000000000000000000 := by
    have := W.sz0
    have := W.sz1
    have := W.cap
    have := H.tl
    omega
  have G := W.gd
  have hell : el ≤ 1048576 := by have := H.el; rw [ents_len, G.len] at this; have := W.cap; omega
  have hok := ents_ok W
  have hsrt := ents_rise W
  have htb : Tm.Tbs w ta tl tc S.ts := by
    obtain ⟨a, c', hv', x⟩ := H.t.tbs (fun x hx => (W.tomb x hx).2.2)
    rw [H.tl] at hv' x
    cases hv'
    exact x.1
  by_cases hd : S.dn = true
  · refine no 230 (by simp) (AE _ (by simp) (by unfold chk; rw [if_pos hd])) ?_
    unfold tvl
    exact Db.radd_dn _ _ _ _ _ _ _ _ _ _ _ _ _ _ _ _ _ w hd
  · have hd' : S.dn = false := by simpa using hd
    by_cases hq1 : q < 1
    · refine no 2 (by simp) (AE _ (by simp) (by unfold chk; rw [if_neg hd, if_pos (.inl hq1)])) ?_
      unfold tvl
      exact Db.radd_q1 _ _ _ _ _ _ _ _ _ _ _ _ _ _ _ _ _ w hd' hq1
    · by_cases hq2 : 72057594037927935 < q
      · refine no 2 (by simp) (AE _ (by simp) (by unfold chk; rw [if_neg hd, if_pos (.inr hq2)])) ?_
        unfold tvl
        exact Db.radd_q2 _ _ _ _ _ _ _ _ _ _ _ _ _ _ _ _ _ w hd' hq1 hq2
      · cases hm : may c k v with
        | false =>
          refine no 40 (by simp) (AE _ (by simp) (by unfold chk; rw [if_neg hd, if_neg (by omega), if_pos hm])) ?_
          unfold tvl
          exact Db.radd_may _ _ _ _ _ _ _ _ _ _ _ _ _ _ _ _ _ w hk hv hd' hq1 hq2 hm
        | true =>
          by_cases hh1 : h < 1
          · refine no 2 (by simp) (AE _ (by simp) (by unfold chk; rw [if_neg hd, if_neg (by omega), if_neg (by rw [hm]; simp), if_pos (.inl hh1)])) ?_
            unfold tvl
            exact Db.radd_h1 _ _ _ _ _ _ _ _ _ _ _ _ _ _ _ _ _ w hk hv hd' hq1 hq2 hm hh1
          · by_cases hh2 : 12 < h
            · refine no 2 (by simp) (AE _ (by simp) (by unfold chk; rw [if_neg hd, if_neg (by omega), if_neg (by rw [hm]; simp), if_pos (.inr hh2)])) ?_
              unfold tvl
              exact Db.radd_h2 _ _ _ _ _ _ _ _ _ _ _ _ _ _ _ _ _ w hk hv hd' hq1 hq2 hm hh1 hh2
            · have hch : chk S q c k v h = 0 := by unfold chk; rw [if_neg hd, if_neg (by omega), if_neg (by rw [hm]; simp), if_neg (by omega)]
              have hlo : (if (S.ns.length : Int) + S.ts.length = 0 ∨ q < S.lo then q else S.lo) = (if S.lo = 0 ∨ q < S.lo then q else S.lo) := by
                by_cases h0 : S.lo = 0
                · rw [if_pos (.inl (hz.2 h0)), if_pos (.inl h0)]
                · by_cases hl : q < S.lo
                  · rw [if_pos (.inr hl), if_pos (.inr hl)]
                  · rw [if_neg (by rintro (h | h); exact h0 (hz.1 h); exact hl h), if_neg (by rintro (h | h); exact h0 h; exact hl h)]
              by_cases hc : c = 2
              · subst hc
                cases hhs : has S.ts k q with
                | true =>
                  refine no 81 (by simp) (by unfold adE; rw [if_neg (by rw [hch]; simp), if_pos rfl, if_pos hhs]) ?_
                  unfold tvl
                  rw [hd']
                  exact Dc.radd_there _ _ _ _ _ _ _ _ _ _ _ _ _ _ _ S.ts w hk hv hq1 hq2 hm hh1 hh2 htb hts hlen hsz hhs
                | false =>
                  have hE : adE S q 2 k v h = 0 := by unfold adE; rw [if_neg (by rw [hch]; simp), if_pos rfl, if_neg (by rw [hhs]; simp)]
                  have eS : adS S q 2 k v h = St.count { S with ts := S.ts ++ [⟨k, v, q⟩] } q k v := by unfold adS; rw [if_neg (by rw [hE]; simp), if_pos rfl]
                  rw [eS, hE]
                  have hT := Dc.radd_tomb S.log ea ta el ec tl tc ((S.ns.length : Int) + S.ts.length) S.sz S.lo S.hi q k v h S.ts w hk hv hq1 hq2 hm hh1 hh2 htb hts hlen hsz hhs _ _ _ _ _ rfl rfl rfl rfl rfl
                  unfold tvl
                  rw [hd']
                  refine hT.mono ?_
                  rintro e w' ⟨ta', tc', rfl, R, b⟩
                  refine ⟨ea, el, ec, ta', tl + 1, tc', ?_, ⟨H.e.later b, H.el, Mt.own_base R (Nat.zero_le _), by show (S.ts ++ [_]).length = _; rw [List.length_append, H.tl]; rfl⟩, fun j hj => .inl hj, fun j hj => .inr (own_lt R j hj).1, b⟩
                  show _ = Ending.returned (.tuple #[.agg #[.int .i64 S.log, .slice ea el ec, .slice ta' (tl + 1) tc', .int .i64 ((S.ns.length : Int) + (S.ts ++ [(⟨k, v, q⟩ : T)]).length), .int .i64 (S.sz + (16 + (k.size : Int) + v.size)), .int .u64 (if S.lo = 0 ∨ q < S.lo then q else S.lo), .int .u64 (max S.hi q), .bool false], .int .i64 0])
                  rw [← hlo, List.length_append]
                  congr 7
                  all_goals (first | omega | (simp; omega))
              · have hvl := vld_may (q := q) hm (Int.not_lt.1 hq2) hc
                have hIE : adE S q c k v h = insE 1048576 S.ns S.ord k q c h := by unfold adE; rw [if_neg (by rw [hch]; simp), if_neg hc]
                have hth := thr_ents W (ik k q c)
                cases htr : thr S.ns S.ord (ik k q c) with
                | true =>
                  refine no 81 (by simp) (by rw [hIE]; unfold insE; rw [if_neg (by rw [hvl]; simp), if_neg (by omega), if_pos htr]) ?_
                  unfold tvl
                  rw [hd']
                  exact De.radd_ethere _ _ _ _ _ _ _ _ _ _ _ _ _ _ _ _ 0 (ents S S.ord) w hk hv hq1 hq2 hc hm hh1 hh2 H.e H.el hell hok hsrt hlen hsz (hth.1 htr)
                | false =>
                  have hnt : ¬ ∃ x ∈ ents S S.ord, x.ik = ik k q c := fun hx => by rw [hth.2 hx] at htr; cases htr
                  have hel' : el = S.ns.length := by rw [← H.el, ents_len, G.len]
                  by_cases hf : S.ns.length = 1048576
                  · refine no 82 (by simp) (by rw [hIE]; unfold insE; rw [if_neg (by rw [hvl]; simp), if_neg (by omega), if_neg (by rw [htr]; simp), if_pos hf]) ?_
                    unfold tvl
                    rw [hd']
                    exact De.radd_full _ _ _ _ _ _ _ _ _ _ _ _ _ _ _ _ 0 (ents S S.ord) w hk hv hq1 hq2 hc hm hh1 hh2 H.e H.el hell hok hsrt hlen hsz hnt (by omega)
                  · have hE : adE S q c k v h = 0 := by rw [hIE]; unfold insE; rw [if_neg (by rw [hvl]; simp), if_neg (by omega), if_neg (by rw [htr]; simp), if_neg hf]
                    have eS : adS S q c k v h = St.count { S with ns := S.ns ++ [⟨k, q, c, .string v, h.toNat⟩], ord := ordI S.ns S.ord (ik k q c) (S.ns.length + 1) } q k v := by unfold adS; rw [if_neg (by rw [hE]; simp), if_neg hc]
                    rw [eS, hE]
                    have hT := Df.radd_ent S.log ea ta el ec tl tc ((S.ns.length : Int) + S.ts.length) S.sz S.lo S.hi q c k v h 0 (ents S S.ord) w hk hv hq1 hq2 hc hm hh1 hh2 H.e H.el hell hok hsrt hlen hsz hnt (by have := W.cap; omega) _ _ _ _ _ rfl rfl rfl rfl rfl
                    rw [← ents_ins W k v q c h.toNat] at hT
                    unfold tvl
                    rw [hd']
                    refine hT.mono ?_
                    rintro e w' ⟨ea', ec', rfl, R, b⟩
                    have hel2 : ((ordI S.ns S.ord (ik k q c) (S.ns.length + 1)).map (entN (S.ns ++ [(⟨k, q, c, .string v, h.toNat⟩ : N)]))).length = el + 1 := by
                      obtain ⟨a, c', hv'⟩ := Sa.row_block R
                      injection hv' with _ h2 _
                      exact h2.symm
                    refine ⟨ea', el + 1, ec', ta, tl, tc, ?_, ⟨Mt.own_base R (Nat.zero_le _), hel2, Dc.OwnT.later H.t b, H.tl⟩, fun j hj => .inr (own_lt R j hj).1, fun j hj => .inl hj, b⟩
                    show _ = Ending.returned (.tuple #[.agg #[.int .i64 S.log, .slice ea' (el + 1) ec', .slice ta tl tc, .int .i64 (((S.ns ++ [(⟨k, q, c, .string v, h.toNat⟩ : N)]).length : Int) + S.ts.length), .int .i64 (S.sz + (16 + (k.size : Int) + v.size)), .int .u64 (if S.lo = 0 ∨ q < S.lo then q else S.lo), .int .u64 (max S.hi q), .bool false], .int .i64 0])
                    rw [← hlo, List.length_append]
                    congr 7
                    all_goals (first | omega | (simp; omega))
end Go.Proofs.Ytefihoohdaegeaa.Dg

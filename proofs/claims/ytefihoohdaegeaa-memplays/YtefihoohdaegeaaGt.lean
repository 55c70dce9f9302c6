/- find and Get of memtables. -/
import Derived.Test.YtefihoohdaegeaaEo
namespace Go.Proofs.Ytefihoohdaegeaa.Gt
open Go.ChangeShapes Go.WideShapes Go.ChangeAt Go.RowKit Go.Shelf
open Go.Sort (grow)
open Go.Proofs.Ytefihoohdaegeaa.Lx (hid)
open Go.Proofs.Ytefihoohdaegeaa.Ee (E ze Ents At4)
open Go.Proofs.Ytefihoohdaegeaa.Nw (c4 newest newest_any)
open Go.Proofs.Ytefihoohdaegeaa.Cv (cov)
open Go.Proofs.Ytefihoohdaegeaa.Es
open Go.Proofs.Ytefihoohdaegeaa.Fm
open Go.Proofs.Ytefihoohdaegeaa.Sg
open Go.Proofs.Ytefihoohdaegeaa.In
open Go.Proofs.Ytefihoohdaegeaa.Tb
open Go.Proofs.Ytefihoohdaegeaa.Eo
open Go.Proofs.Ytefihoohdaegeaa.At (atS at_any)
open Go.Proofs.Ytefihoohdaegeaa.Cm (ik)
open Go.Proofs.Ytefihoohdaegeaa.Mm (box_below)
open Go.Proofs.Ytefihoohdaegeaa.Fi (seek_any)
open Go.Proofs.Ytefihoohdaegeaa.Tr (new_at cell_of Bx size_alloc blk_lt)
open Go.Proofs.Ytefihoohdaegeaa.Ob (wpList_append_run)
set_option linter.unusedVariables false
set_option linter.unusedSimpArgs false

/-- A slice of memtables. -/
def Tps (w : World) (a : Option Addr) (len cap : Nat) (gs : List Nat) : Prop :=
  gs.length = len ∧ len ≤ cap ∧ (a = none → len = 0 ∧ cap = 0) ∧ (∀ b o p, a = some ⟨b, o, p⟩ → 0 < len → p = none ∧ ∀ i, i < len → w.cell? ⟨b, o + i, none⟩ = some (.pointer (some ⟨gs.getD i 0, 0, none⟩)))
theorem Tps.later {w w' : World} {a : Option Addr} {len cap : Nat} {gs : List Nat} (h : Tps w a len cap gs) (b : Below w.heap.size w w') : Tps w' a len cap gs :=
  ⟨h.1, h.2.1, h.2.2.1, fun bb o p hp hl => ⟨(h.2.2.2 bb o p hp hl).1, fun i hi => by
    have := (h.2.2.2 bb o p hp hl).2 i hi
    exact (b.cell (block_lt_of_cell this)).trans this⟩⟩
/-- What of a memtable a key's entry may be. -/
def entS (S : St) (k : ByteArray) (q : Int) : List E := if firstN S.ns S.ord (ik k (atS q) 255) = 0 then [] else [entN S.ns (firstN S.ns S.ord (ik k (atS q) 255))]
def entL (L : List (Nat × St)) (k : ByteArray) (q : Int) : List E := L.flatMap fun x => entS x.2 k q
def cvr (L : List (Nat × St)) (k : ByteArray) (q : Int) : Int := L.foldl (fun m x => max m (cov x.2.ts k q).1) 0
/-- What find tells. -/
def fnd (L : List (Nat × St)) (k : ByteArray) (q : Int) : E × Bool := if ((newest k q (entL L k q)).getD ze).s < cvr L k q then (⟨k, cvr L k q, 2, ⟨#[]⟩⟩, true) else ((newest k q (entL L k q)).getD ze, (newest k q (entL L k q)).isSome)
theorem take_snoc {α : Type} {L : List α} {j : Nat} {x : α} (h : L[j]? = some x) : L.take (j + 1) = L.take j ++ [x] := by
  have hj := (List.getElem?_eq_some_iff.1 h).1
  rw [List.take_succ_eq_append_getElem hj]
  rw [List.getElem?_eq_getElem hj] at h
  rw [Option.some.inj h]
theorem firstN_le {S : St} (W : Wf S) (k : Ik.IK) : firstN S.ns S.ord k ≤ S.ns.length := by
  by_cases h : firstN S.ns S.ord k = 0
  · rw [h]; exact Nat.zero_le _
  · exact ((W.gd.mem _).1 (first_mem W.gd k h).1).2
theorem nd_mem {ns : List N} {n : Nat} (h1 : 1 ≤ n) (h2 : n ≤ ns.length) : nd ns n ∈ ns := by
  rw [nd_pos h1, List.getD_eq_getElem?_getD, List.getElem?_eq_getElem (by omega)]
  exact List.getElem_mem _
/-- The parts of an entry that is told. -/
theorem entN_ok {S : St} (W : Wf S) {n : Nat} (hn : n ≤ S.ns.length) : (entN S.ns n).ok ∧ ∃ x, ((nd S.ns n).v = .string x ∨ n = 0) := by
  unfold entN
  by_cases h : n = 0
  · rw [if_pos h]
    refine ⟨⟨by simp [ze, maxLen, ByteArray.size], by simp [ze], by simp [ze], by simp [ze, maxLen, ByteArray.size]⟩, ⟨#[]⟩, .inr h⟩
  · rw [if_neg h]
    obtain ⟨h1, h2, h3, x, h4, h5⟩ := W.node _ (nd_mem (by omega) hn)
    refine ⟨?_, x, .inl h4⟩
    unfold Vl.vld at h1
    simp only [Bool.and_eq_true] at h1
    have a1 := Kd.size_true h1.1.1
    have a2 := Kd.seq_true h1.1.2
    unfold nent
    rw [h4]
    refine ⟨?_, ⟨?_, ?_⟩, ⟨?_, ?_⟩, ?_⟩
    · show (nd S.ns n).k.size ≤ maxLen; unfold maxLen; omega
    · show 0 ≤ (nd S.ns n).s; omega
    · show (nd S.ns n).s ≤ _; omega
    · show _ ≤ (nd S.ns n).c; omega
    · show (nd S.ns n).c ≤ _; omega
    · show x.size ≤ maxLen; unfold maxLen; omega
theorem entL_ok {L : List (Nat × St)} {k : ByteArray} {q : Int} (h : ∀ x ∈ L, Wf x.2) : ∀ e ∈ entL L k q, e.ok := by
  intro e he
  unfold entL at he
  obtain ⟨x, hx, hxe⟩ := List.mem_flatMap.1 he
  unfold entS at hxe
  split at hxe
  · cases hxe
  · rw [List.mem_singleton.1 hxe]
    exact (entN_ok (h x hx) (firstN_le (h x hx) _)).1
theorem entL_len (L : List (Nat × St)) (k : ByteArray) (q : Int) : (entL L k q).length ≤ L.length := by
  induction L with
  | nil => simp [entL]
  | cons x l ih =>
    have : entL (x :: l) k q = entS x.2 k q ++ entL l k q := by simp [entL]
    rw [this, List.length_append, List.length_cons]
    have : (entS x.2 k q).length ≤ 1 := by unfold entS; split <;> simp
    omega
set_option maxHeartbeats 8000000 in
set_option maxRecDepth 100000 in
theorem find_any (a : Option Addr) (len cap : Nat) (L : List (Nat × St)) (k : ByteArray) (q : Int) (w : World) (H : Tps w a len cap (L.map (·.1))) (HT : ∀ x ∈ L, ∃ base P, Tb.Tb w base x.1 P x.2) (hlen : len ≤ 2900000000000) (hts : ∀ x ∈ L, x.2.ts.length ≤ 140737488355328) (hk : k.size ≤ maxLen) :
    Calls Try.prog 66 #[.string k, .int .u64 q, .slice a len cap] w fun e w' => e = .returned (.tuple #[.agg (c4 (fnd L k q).1), .bool (fnd L k q).2]) ∧ Below w.heap.size w w' := by
  obtain ⟨W0, hW0⟩ : ∃ W, W = w.alloc (.cells #[.string ⟨#[]⟩, .int .u64 0, .int .i64 0, .string ⟨#[]⟩] 56) := ⟨_, rfl⟩
  have B0 : Below w.heap.size w W0 := by rw [hW0]; exact box_below _ _
  obtain ⟨gr, hgr⟩ : ∃ n, n = w.heap.size := ⟨_, rfl⟩
  obtain ⟨n0, hn0⟩ : ∃ n, n = W0.heap.size := ⟨_, rfl⟩
  have hnr : n0 = gr + 1 := by rw [hn0, hW0, hgr]; simp
  have kR : W0.heap[gr]? = some (.cells #[.string ⟨#[]⟩, .int .u64 0, .int .i64 0, .string ⟨#[]⟩] 56) := by rw [hW0, hgr]; exact new_at _ _
  have HW : ∀ x ∈ L, Wf x.2 := fun x hx => by obtain ⟨_, _, h⟩ := HT x hx; exact h.wf
  have hlL : L.length = len := by have := H.1; rwa [List.length_map] at this
  have HP0 : Hid (∀ W, Below n0 W0 W → Tps W a len cap (L.map (·.1))) := fun W b => (H.later B0).later (by rw [← hn0]; exact b)
  have HT0 : Hid (∀ W, Below n0 W0 W → ∀ x ∈ L, ∃ base P, Tb.Tb W base x.1 P x.2) := fun W b x hx => by
    obtain ⟨base, P, h⟩ := HT x hx
    exact ⟨base, P, (h.later B0).later (by rw [← hn0]; exact b)⟩
  replace hW0 := hid hW0
  replace hn0 := hid hn0
  replace hgr := hid hgr
  replace hnr := hid hnr
  replace kR := hid kR
  replace B0 := hid B0
  replace HW := hid HW
  replace hts := hid hts
  have i64 : (len : Int) ≤ 2900000000000 := by omega
  clear H HT
  go_enter Try.func66, Try.ntmps66
  go_wp2_with fail
  rw [← hW0.out, ← hgr.out]
  go_loopw [8, 9, 20] (fun ev cv iv wr => ∃ (j : Nat) (e8 : Value), e8 = ev ∧ iv = .int .i64 (j : Int) ∧ j ≤ len ∧ cv = .int .u64 (cvr (L.take j) k q) ∧ Hid (OwnE wr n0 ev (entL (L.take j) k q)) ∧ Hid (Below n0 W0 wr))
    (fun _ _ iv _ => len - (intOf iv).toNat)
  case atStart => exact ⟨0, _, rfl, rfl, Nat.zero_le _, rfl, OwnE.nil _ _, Below.refl _ _⟩
  case round =>
    obtain ⟨j, ev, rfl, rfl, hj, rfl, HO, HB⟩ := hrel
    by_cases hjl : j = len
    · subst hjl
      have hLt : L.take j = L := by rw [← hlL]; exact List.take_length
      rw [hLt] at HO ⊢
      obtain ⟨ae, ce, rfl, HE⟩ := HO.out.ents (entL_ok HW.out)
      have HN := newest_any ae _ ce (entL L k q) k q wr HE (by have := entL_len L k q; omega) hk
      obtain ⟨⟨y1, y2, y3, y4⟩, hy⟩ : ∃ x : E, x = (newest k q (entL L k q)).getD ze := ⟨_, rfl⟩
      have hF : fnd L k q = if y2 < cvr L k q then (⟨k, cvr L k q, 2, ⟨#[]⟩⟩, true) else (⟨y1, y2, y3, y4⟩, (newest k q (entL L k q)).isSome) := by unfold fnd; rw [← hy]
      rw [← hy] at HN
      unfold c4 at HN
      dsimp only at HN
      generalize cvr L k q = C at *
      generalize (newest k q (entL L k q)).isSome = sm at *
      generalize (entL L k q).length = nl at *
      have hk' : Hid (wr.heap[gr]? = some (.cells #[.string ⟨#[]⟩, .int .u64 0, .int .i64 0, .string ⟨#[]⟩] 56)) := (HB.out.block gr (by have := hnr.out; omega)).trans kR.out
      have BW : Hid (Below w.heap.size w wr) := B0.out.trans (HB.out.mono (by have := B0.out.size; have := hn0.out; omega))
      replace HN := hid HN
      replace hF := hid hF
      clear HO HE hy HP0 HT0 HW hts hLt
      go_wp2_with fail
      refine HN.out.mono ?_
      rintro e w1 ⟨rfl, b1⟩
      have B1 := hid (BW.out.trans (b1.mono BW.out.size))
      have k1 := (b1.block gr (Array.getElem?_eq_some_iff.1 hk'.out).1).trans hk'.out
      have b2 := box_below w1 (.cells #[.string y1, .int .u64 y2, .int .i64 y3, .string y4] 56)
      have k2 := (b2.block gr (Array.getElem?_eq_some_iff.1 k1).1).trans k1
      have B2 := hid (B1.out.trans (b2.mono B1.out.size))
      have z0 := cell_of k2 0 (.string ⟨#[]⟩) rfl
      have z1 := cell_of k2 1 (.int .u64 0) rfl
      have z2 := cell_of k2 2 (.int .i64 0) rfl
      have z3 := cell_of k2 3 (.string ⟨#[]⟩) rfl
      have f0 := Tr.fz_of k2 0
      have f1 := Tr.fz_of k2 1
      have f2 := Tr.fz_of k2 2
      have f3 := Tr.fz_of k2 3
      have hBs : Hid (∀ W, Below w.heap.size w W → ∀ i v, Below w.heap.size w (W.setCell ⟨gr, i, none⟩ v)) := fun W hW i v => hW.setCell (by show w.heap.size ≤ gr; rw [hgr.out]; exact Nat.le_refl _) v
      by_cases hlt : y2 < C
      · have hF1 : Hid (fnd L k q = (⟨k, C, 2, ⟨#[]⟩⟩, true)) := by show _ = _; rw [hF.out, if_pos hlt]
        have k4 := Tr.set_of (Tr.set_of (Tr.set_of (Tr.set_of k2 0 (.string k)) 1 (.int .u64 C)) 2 (.int .i64 2)) 3 (.string ⟨#[]⟩)
        replace k4 := hid k4
        clear b1 b2 k1 k2 HN
        go_wp2_with fail
        generalize hWF : ((((w1.alloc (.cells #[.string y1, .int .u64 y2, .int .i64 y3, .string y4] 56)).setCell ⟨gr, 0, none⟩ (.string k)).setCell ⟨gr, 1, none⟩ (.int .u64 C)).setCell ⟨gr, 2, none⟩ (.int .i64 2)).setCell ⟨gr, 3, none⟩ (.string ⟨#[]⟩) = WF at *
        have q0 := cell_of k4.out 0 (.string k) rfl
        have q1 := cell_of k4.out 1 (.int .u64 C) rfl
        have q2 := cell_of k4.out 2 (.int .i64 2) rfl
        have q3 := cell_of k4.out 3 (.string ⟨#[]⟩) rfl
        have BF : Hid (Below w.heap.size w WF) := by rw [← hWF]; exact hBs.out _ (hBs.out _ (hBs.out _ (hBs.out _ B2.out _ _) _ _) _ _) _ _
        refine bodyPost_ret (v := .tuple #[.agg #[.string k, .int .u64 C, .int .i64 2, .string ⟨#[]⟩], .bool true]) (by simp [results, Try.results66, go_sem, q0, q1, q2, q3]) rfl ⟨by rw [hF1.out]; rfl, BF.out⟩
      · have hF1 : Hid (fnd L k q = (⟨y1, y2, y3, y4⟩, sm)) := by show _ = _; rw [hF.out, if_neg hlt]
        have k4 := Tr.set_of (Tr.set_of (Tr.set_of (Tr.set_of k2 0 (.string y1)) 1 (.int .u64 y2)) 2 (.int .i64 y3)) 3 (.string y4)
        replace k4 := hid k4
        clear b1 b2 k1 k2 HN
        go_wp2_with fail
        generalize hWF : ((((w1.alloc (.cells #[.string y1, .int .u64 y2, .int .i64 y3, .string y4] 56)).setCell ⟨gr, 0, none⟩ (.string y1)).setCell ⟨gr, 1, none⟩ (.int .u64 y2)).setCell ⟨gr, 2, none⟩ (.int .i64 y3)).setCell ⟨gr, 3, none⟩ (.string y4) = WF at *
        have q0 := cell_of k4.out 0 (.string y1) rfl
        have q1 := cell_of k4.out 1 (.int .u64 y2) rfl
        have q2 := cell_of k4.out 2 (.int .i64 y3) rfl
        have q3 := cell_of k4.out 3 (.string y4) rfl
        have BF : Hid (Below w.heap.size w WF) := by rw [← hWF]; exact hBs.out _ (hBs.out _ (hBs.out _ (hBs.out _ B2.out _ _) _ _) _ _) _ _
        refine bodyPost_ret (v := .tuple #[.agg #[.string y1, .int .u64 y2, .int .i64 y3, .string y4], .bool sm]) (by simp [results, Try.results66, go_sem, q0, q1, q2, q3]) rfl ⟨by rw [hF1.out]; rfl, BF.out⟩
    · have hjl' : j < len := by omega
      obtain ⟨x, hx⟩ : ∃ x, L[j]? = some x := ⟨_, List.getElem?_eq_getElem (by omega)⟩
      have hxm : x ∈ L := List.mem_of_getElem? hx
      obtain ⟨base, P, gl, bl, gs, bm, vt, TX⟩ := HT0.out W0 (Below.refl _ _) x hxm
      obtain ⟨g, S⟩ := x
      dsimp only at TX
      have hWf : Wf S := TX.wf
      have hTsl : S.ts.length ≤ 140737488355328 := hts.out _ hxm
      have TXW : ∀ W, Below n0 W0 W → Tx W base g gl bl gs bm vt P S := fun W b => TX.later (by rw [← hn0.out]; exact b)
      have BWr : ∀ W, Below wr.heap.size wr W → Below n0 W0 W := fun W b => HB.out.trans (b.mono (by have := HB.out.size; have := hn0.out; omega))
      have HPr := HP0.out wr HB.out
      have hgx : (L.map (·.1)).getD j 0 = g := by
        rw [List.getD_eq_getElem?_getD, List.getElem?_map, hx]; rfl
      cases a with
      | none => exact absurd (HPr.2.2.1 rfl).1 (by omega)
      | some ad =>
        obtain ⟨ab, ao, ap⟩ := ad
        obtain ⟨rfl, hcell⟩ := HPr.2.2.2 ab ao ap rfl (by omega)
        have cx := hcell j hjl'
        rw [hgx] at cx
        obtain ⟨m, hm⟩ : ∃ m, m = firstN S.ns S.ord (ik k (atS q) 255) := ⟨_, rfl⟩
        have hml : m ≤ S.ns.length := by rw [hm]; exact firstN_le hWf _
        obtain ⟨hyok, xx, hxx⟩ := entN_ok hWf hml
        obtain ⟨⟨y1, y2, y3, y4⟩, hy⟩ : ∃ x : E, x = entN S.ns m := ⟨_, rfl⟩
        have HAt : Hid (∀ W, Calls Try.prog 86 #[.string k, .int .u64 q] W fun e w' => e = .returned (.agg #[.string k, .int .u64 (atS q), .int .i64 255]) ∧ Below W.heap.size W w') := fun W => at_any k q W
        have HSk : Hid (∀ W, Below wr.heap.size wr W → Calls Try.prog 74 #[.pointer (some ⟨gl, 0, none⟩), .agg #[.string k, .int .u64 (atS q), .int .i64 255]] W fun e w' => e = .returned (.int .i64 (m : Int)) ∧ Below W.heap.size W w') := fun W b => by
          have := seek_any base gl bl 1048576 S.ns S.ord k (atS q) 255 W (TXW W (BWr W b)).l
          rwa [← hm] at this
        have HEn : Hid (∀ W, Below wr.heap.size wr W → Calls Try.prog 60 #[.pointer (some ⟨gl, 0, none⟩), .int .i64 (m : Int)] W fun e w' => e = .returned (.tuple #[.agg #[.string y1, .int .u64 y2, .int .i64 y3, .string y4], .bool (decide (m ≠ 0))]) ∧ Below W.heap.size W w') := fun W b => by
          have := entryof_any base gl bl S.ns S.ord (m : Int) m xx hxx (.inl ⟨rfl, hml⟩) W (TXW W (BWr W b)).l
          rw [← hy] at this
          exact this
        have HC2 : Hid (∀ W, Below wr.heap.size wr W → W.cell? ⟨g, 2, none⟩ = some (.pointer (some ⟨gl, 0, none⟩))) := fun W b => (TXW W (BWr W b)).c.cell 2
        have HC3 : Hid (∀ W, Below n0 W0 W → W.cell? ⟨g, 3, none⟩ = some (.pointer (some ⟨gs, 0, none⟩))) := fun W b => (TXW W b).c.cell 3
        have HIs := hid (isnone_any g gl gs bm S wr (TXW wr HB.out).c)
        obtain ⟨Gc, hGc⟩ : ∃ G, G = (cov S.ts k q).1 := ⟨_, rfl⟩
        have HCov : Hid (∀ W, Below n0 W0 W → Calls Try.prog 87 #[.pointer (some ⟨gs, 0, none⟩), .string k, .int .u64 q] W fun e w' => e = .returned (.tuple #[.int .u64 Gc, .bool (cov S.ts k q).2]) ∧ Below W.heap.size W w') := fun W b => by
          have hX := TXW W b
          obtain ⟨at', ct', hvt, hTb, _⟩ := hX.o.tbs (fun x hx => (hWf.tomb x hx).2.2)
          have hs := hX.s
          rw [hvt] at hs
          rw [hGc]
          exact setcover_any gs at' S.ts.length ct' S.ts k q W hs hTb hTsl
        have hCs : Hid (Value.int .u64 (max (cvr (L.take j) k q) Gc) = .int .u64 (cvr (L.take (j + 1)) k q)) := by
          show _ = _
          rw [take_snoc hx]
          unfold cvr
          rw [List.foldl_append, hGc]
          rfl
        have hEs0 : entL (L.take (j + 1)) k q = entL (L.take j) k q ++ entS S k q := by rw [take_snoc hx]; simp [entL]
        have hroom : Hid (((entL (L.take j) k q).length + 1) * 48 ≤ 140737488355328) := by
          show _ ≤ _
          have := entL_len (L.take j) k q
          rw [List.length_take] at this
          omega
        have hEN : m = 0 → entL (L.take (j + 1)) k q = entL (L.take j) k q := fun hm0 => by
          rw [hEs0]
          unfold entS
          rw [← hm, if_pos hm0, List.append_nil]
        have hEY : m ≠ 0 → entL (L.take (j + 1)) k q = entL (L.take j) k q ++ [⟨y1, y2, y3, y4⟩] := fun hm0 => by
          rw [hEs0, hy]
          unfold entS
          rw [← hm, if_neg hm0]
        generalize (cov S.ts k q).2 = Fc at *
        generalize atS q = aq at *
        have i1 : (j : Int) < (len : Int) := by omega
        obtain ⟨C0, hC0⟩ : ∃ C, C = cvr (L.take j) k q := ⟨_, rfl⟩
        rw [← hC0] at hCs ⊢
        replace hC0 := hid hC0
        replace hGc := hid hGc
        replace hyok := hid hyok
        by_cases hm0 : m = 0
        · have hEs : Hid (entL (L.take (j + 1)) k q = entL (L.take j) k q) := hEN hm0
          have hd : decide (m ≠ 0) = false := by simp [hm0]
          rw [hd] at HEn
          clear hEs0 hEN hEY hm hml hxx hy hm0 hd TX TXW BWr HPr hcell hgx hx hxm hWf hTsl HP0 HT0
          go_wp2_with fail
          refine HIs.out.mono ?_
          rintro e w1 ⟨rfl, rfl⟩
          go_wp2_with fail
          refine wp_region_held_drew (S := fun W => Below w1.heap.size w1 W) (by kernel_rfl) ((Below.refl _ _).drew) (fun hS => ?_)
          generalize World.drew w1 = D at *
          refine wpAnyH_take (i := 0) (v := ?v1) rfl (by kernel_rfl) (by kernel_rfl) (by kernel_rfl) (fun _ _ _ h => h) (Or.inl ⟨by rfl, ?h1⟩) hS ?_
          case h1 => (intro W hW; go_simp; try (with_reducible rfl))
          go_simp
          refine wpAnyH_take (i := 1) (v := ?v2) rfl (by kernel_rfl) (by kernel_rfl) (by kernel_rfl) (fun _ _ _ h => h) (Or.inl ⟨by rfl, ?h2⟩) hS ?_
          case h2 => (intro W hW; go_simp; try (with_reducible rfl))
          go_simp
          refine wpAnyH_take (i := 2) (v := ?v3) rfl (by kernel_rfl) (by kernel_rfl) (by kernel_rfl) (fun _ _ _ h => h) (Or.inl ⟨by rfl, ?h3⟩) hS ?_
          case h3 => (intro W hW; go_simp; try (with_reducible rfl))
          go_simp
          refine wpAnyH_take (i := 3) (v := ?v4) rfl (by kernel_rfl) (by kernel_rfl) (by kernel_rfl) (fun _ _ _ h => h) (Or.inl ⟨by rfl, ?h4⟩) hS ?_
          case h4 => (intro W hW; have c2 := HC2.out W hW; go_simp; try (with_reducible rfl))
          go_simp
          refine wpAnyH_take (i := 4) (v := ?v5) rfl (by kernel_rfl) (by kernel_rfl) (by kernel_rfl) (fun _ _ _ h => h) (Or.inl ⟨by rfl, ?h5⟩) hS ?_
          case h5 => (intro W hW; go_simp; try (with_reducible rfl))
          go_simp
          refine wpAnyH_take (i := 5) (v := ?v6) rfl (by kernel_rfl) (by kernel_rfl) (by kernel_rfl) (fun _ _ _ h => h) (Or.inl ⟨by rfl, ?h6⟩) hS ?_
          case h6 => (intro W hW; go_simp; try (with_reducible rfl))
          go_simp
          refine wpAnyH_take (i := 6) (v := ?v7) rfl (by kernel_rfl) (by kernel_rfl) (by kernel_rfl) (fun _ _ _ h => h) (Or.inl ⟨by rfl, ?h7⟩) hS ?_
          case h7 => (intro W hW; go_simp; try (with_reducible rfl))
          go_simp
          refine wpAnyH_take (i := 7) (v := ?v8) rfl (by kernel_rfl) (by kernel_rfl) (by kernel_rfl) (fun _ _ _ h => h) (Or.inl ⟨by rfl, ?h8⟩) hS ?_
          case h8 => (intro W hW; have c2 := HC2.out W hW; go_simp; try (with_reducible rfl))
          go_simp
          refine wpAnyH_take (i := 8) (v := ?v9) rfl (by kernel_rfl) (by kernel_rfl) (by kernel_rfl) (fun _ _ _ h => h) (Or.inl ⟨by rfl, ?h9⟩) hS ?_
          case h9 => (intro W hW; go_simp; try (with_reducible rfl))
          go_simp
          refine wpAnyH_take (i := 9) (v := ?v10) rfl (by kernel_rfl) (by kernel_rfl) (by kernel_rfl) (fun _ _ _ h => h) (Or.inl ⟨by rfl, ?h10⟩) hS ?_
          case h10 => (intro W hW; go_simp; try (with_reducible rfl))
          go_simp
          refine wpAnyH_ready (rs := [10, 16]) (by kernel_rfl) (by simp) ?_
          refine AllReadyH.cons rfl (fun K hK => ?_) ?_
          · go_simp
            go_wp2_with fail
            refine (HAt.out _).mono ?_
            rintro e y10 ⟨rfl, c10⟩
            refine hK.out _ _ (hS.trans (c10.mono hS.size)) (fun hS => ?_)
            clear hK K
            clear c10
            refine wpAnyH_ready (rs := [11, 16]) (by kernel_rfl) (by simp) ?_
            refine AllReadyH.cons rfl (fun K hK => ?_) ?_
            · go_simp
              go_wp2_with fail
              refine (HSk.out _ hS).mono ?_
              rintro e y11 ⟨rfl, c11⟩
              refine hK.out _ _ (hS.trans (c11.mono hS.size)) (fun hS => ?_)
              clear hK K
              clear c11
              refine wpAnyH_ready (rs := [12, 16]) (by kernel_rfl) (by simp) ?_
              refine AllReadyH.cons rfl (fun K hK => ?_) ?_
              · go_simp
                go_wp2_with fail
                refine (HEn.out _ hS).mono ?_
                rintro e y12 ⟨rfl, c12⟩
                refine hK.out _ _ (hS.trans (c12.mono hS.size)) (fun hS => ?_)
                clear hK K
                clear c12
                refine wpAnyH_take (i := 13) (v := ?v11) rfl (by kernel_rfl) (by kernel_rfl) (by kernel_rfl) (fun _ _ _ h => h) (Or.inl ⟨by rfl, ?h11⟩) hS ?_
                case h11 => (intro W hW; go_simp; try (with_reducible rfl))
                go_simp
                refine wpAnyH_take (i := 14) (v := ?v12) rfl (by kernel_rfl) (by kernel_rfl) (by kernel_rfl) (fun _ _ _ h => h) (Or.inl ⟨by rfl, ?h12⟩) hS ?_
                case h12 => (intro W hW; go_simp; try (with_reducible rfl))
                go_simp
                refine wpAnyH_take (i := 15) (v := ?v13) rfl (by kernel_rfl) (by kernel_rfl) (by kernel_rfl) (fun _ _ _ h => h) (Or.inl ⟨by rfl, ?h13⟩) hS ?_
                case h13 => (intro W hW; go_simp; try (with_reducible rfl))
                go_simp
                refine wpAnyH_ready (rs := [16]) (by kernel_rfl) (by simp) ?_
                refine AllReadyH.cons rfl (fun K hK => ?_) ?_
                · go_simp
                  have h12 : (y12.alloc (.cells #[.string ⟨#[]⟩, .int .u64 0, .int .i64 0, .string ⟨#[]⟩] 56)).heap[y12.heap.size]? = some (.cells #[.string ⟨#[]⟩, .int .u64 0, .int .i64 0, .string ⟨#[]⟩] 56) := new_at _ _
                  have hb12 : w1.heap.size ≤ y12.heap.size := hS.size
                  refine hK.out _ _ (hS.alloc hS.size _) (fun hS => ?_)
                  clear hK K
                  generalize y12.alloc (.cells #[.string ⟨#[]⟩, .int .u64 0, .int .i64 0, .string ⟨#[]⟩] 56) = z16 at *
                  generalize y12.heap.size = b12 at *
                  replace hb12 := hid hb12
                  refine wpAnyH_ready (rs := [17]) (by kernel_rfl) (by simp) ?_
                  refine AllReadyH.cons rfl (fun K hK => ?_) ?_
                  · have q0 := cell_of h12 0 (.string ⟨#[]⟩) rfl
                    have q1 := cell_of h12 1 (.int .u64 0) rfl
                    have q2 := cell_of h12 2 (.int .i64 0) rfl
                    have q3 := cell_of h12 3 (.string ⟨#[]⟩) rfl
                    have f0 := Tr.fz_of h12 0
                    have f1 := Tr.fz_of h12 1
                    have f2 := Tr.fz_of h12 2
                    have f3 := Tr.fz_of h12 3
                    have k12 := Tr.set_of (Tr.set_of (Tr.set_of (Tr.set_of h12 0 (.string y1)) 1 (.int .u64 y2)) 2 (.int .i64 y3)) 3 (.string y4)
                    have hSF : Below w1.heap.size w1 (((((z16).setCell ⟨b12, 0, none⟩ (.string y1)).setCell ⟨b12, 1, none⟩ (.int .u64 y2)).setCell ⟨b12, 2, none⟩ (.int .i64 y3)).setCell ⟨b12, 3, none⟩ (.string y4)) := (((hS.setCell (p := ⟨b12, 0, none⟩) hb12.out _).setCell (p := ⟨b12, 1, none⟩) hb12.out _).setCell (p := ⟨b12, 2, none⟩) hb12.out _).setCell (p := ⟨b12, 3, none⟩) hb12.out _
                    replace k12 := hid k12
                    go_simp
                    refine hK.out _ _ hSF (fun hS => ?_)
                    clear hK K
                    generalize (((z16.setCell ⟨b12, 0, none⟩ (.string y1)).setCell ⟨b12, 1, none⟩ (.int .u64 y2)).setCell ⟨b12, 2, none⟩ (.int .i64 y3)).setCell ⟨b12, 3, none⟩ (.string y4) = zf at *
                    clear h12 q0 q1 q2 q3 f0 f1 f2 f3 hSF
                    refine wpAnyH_take (i := 18) (v := ?v14) rfl (by kernel_rfl) (by kernel_rfl) (by kernel_rfl) (fun _ _ _ h => h) (Or.inl ⟨by rfl, ?h14⟩) hS ?_
                    case h14 => (intro W hW; go_simp; try (with_reducible rfl))
                    go_simp
                    refine wpAnyH_done (by kernel_rfl) ?_ _
                    have K12 : Hid (zf.heap[b12]? = some (.cells #[.string y1, .int .u64 y2, .int .i64 y3, .string y4] 56)) := k12
                    clear k12
                    replace hS := hid hS
                    have B9 : Hid (Below n0 W0 zf) := HB.out.trans (hS.out.mono (by have := HB.out.size; have := hn0.out; omega))
                    have O9 : Hid (OwnE zf n0 ev (entL (L.take (j + 1)) k q)) := by rw [show entL (L.take (j + 1)) k q = _ from hEs.out]; exact HO.out.later hS.out
                    have HCv := hid (HCov.out zf B9.out)
                    have c3 := HC3.out zf B9.out
                    go_wp2_with fail
                    refine HCv.out.mono ?_
                    rintro e wc ⟨rfl, bc⟩
                    have BF : Hid (Below n0 W0 wc) := B9.out.trans (bc.mono (by have := B9.out.size; have := hn0.out; omega))
                    have OF := hid (O9.out.later bc)
                    clear bc
                    go_wp2_with fail
                    refine ⟨⟨j + 1, _, rfl, by first | rfl | go_num, by omega, hCs.out, OF, BF⟩, ?_⟩
                    simp only [intOf]; omega
                  exact AllReadyH.nil
                exact AllReadyH.nil
              refine AllReadyH.cons rfl (fun K hK => ?_) ?_
              · go_simp
                have h12 : (y11.alloc (.cells #[.string ⟨#[]⟩, .int .u64 0, .int .i64 0, .string ⟨#[]⟩] 56)).heap[y11.heap.size]? = some (.cells #[.string ⟨#[]⟩, .int .u64 0, .int .i64 0, .string ⟨#[]⟩] 56) := new_at _ _
                have hb12 : w1.heap.size ≤ y11.heap.size := hS.size
                refine hK.out _ _ (hS.alloc hS.size _) (fun hS => ?_)
                clear hK K
                generalize y11.alloc (.cells #[.string ⟨#[]⟩, .int .u64 0, .int .i64 0, .string ⟨#[]⟩] 56) = z16 at *
                generalize y11.heap.size = b12 at *
                replace hb12 := hid hb12
                refine wpAnyH_ready (rs := [12]) (by kernel_rfl) (by simp) ?_
                refine AllReadyH.cons rfl (fun K hK => ?_) ?_
                · go_simp
                  go_wp2_with fail
                  refine (HEn.out _ hS).mono ?_
                  rintro e y12 ⟨rfl, c12⟩
                  refine hK.out _ _ (hS.trans (c12.mono hS.size)) (fun hS => ?_)
                  clear hK K
                  have h12 := (c12.block _ (blk_lt h12)).trans h12
                  clear c12
                  refine wpAnyH_take (i := 13) (v := ?v15) rfl (by kernel_rfl) (by kernel_rfl) (by kernel_rfl) (fun _ _ _ h => h) (Or.inl ⟨by rfl, ?h15⟩) hS ?_
                  case h15 => (intro W hW; go_simp; try (with_reducible rfl))
                  go_simp
                  refine wpAnyH_take (i := 14) (v := ?v16) rfl (by kernel_rfl) (by kernel_rfl) (by kernel_rfl) (fun _ _ _ h => h) (Or.inl ⟨by rfl, ?h16⟩) hS ?_
                  case h16 => (intro W hW; go_simp; try (with_reducible rfl))
                  go_simp
                  refine wpAnyH_take (i := 15) (v := ?v17) rfl (by kernel_rfl) (by kernel_rfl) (by kernel_rfl) (fun _ _ _ h => h) (Or.inl ⟨by rfl, ?h17⟩) hS ?_
                  case h17 => (intro W hW; go_simp; try (with_reducible rfl))
                  go_simp
                  refine wpAnyH_ready (rs := [17]) (by kernel_rfl) (by simp) ?_
                  refine AllReadyH.cons rfl (fun K hK => ?_) ?_
                  · have q0 := cell_of h12 0 (.string ⟨#[]⟩) rfl
                    have q1 := cell_of h12 1 (.int .u64 0) rfl
                    have q2 := cell_of h12 2 (.int .i64 0) rfl
                    have q3 := cell_of h12 3 (.string ⟨#[]⟩) rfl
                    have f0 := Tr.fz_of h12 0
                    have f1 := Tr.fz_of h12 1
                    have f2 := Tr.fz_of h12 2
                    have f3 := Tr.fz_of h12 3
                    have k12 := Tr.set_of (Tr.set_of (Tr.set_of (Tr.set_of h12 0 (.string y1)) 1 (.int .u64 y2)) 2 (.int .i64 y3)) 3 (.string y4)
                    have hSF : Below w1.heap.size w1 (((((y12).setCell ⟨b12, 0, none⟩ (.string y1)).setCell ⟨b12, 1, none⟩ (.int .u64 y2)).setCell ⟨b12, 2, none⟩ (.int .i64 y3)).setCell ⟨b12, 3, none⟩ (.string y4)) := (((hS.setCell (p := ⟨b12, 0, none⟩) hb12.out _).setCell (p := ⟨b12, 1, none⟩) hb12.out _).setCell (p := ⟨b12, 2, none⟩) hb12.out _).setCell (p := ⟨b12, 3, none⟩) hb12.out _
                    replace k12 := hid k12
                    go_simp
                    refine hK.out _ _ hSF (fun hS => ?_)
                    clear hK K
                    generalize (((y12.setCell ⟨b12, 0, none⟩ (.string y1)).setCell ⟨b12, 1, none⟩ (.int .u64 y2)).setCell ⟨b12, 2, none⟩ (.int .i64 y3)).setCell ⟨b12, 3, none⟩ (.string y4) = zf at *
                    clear h12 q0 q1 q2 q3 f0 f1 f2 f3 hSF
                    refine wpAnyH_take (i := 18) (v := ?v18) rfl (by kernel_rfl) (by kernel_rfl) (by kernel_rfl) (fun _ _ _ h => h) (Or.inl ⟨by rfl, ?h18⟩) hS ?_
                    case h18 => (intro W hW; go_simp; try (with_reducible rfl))
                    go_simp
                    refine wpAnyH_done (by kernel_rfl) ?_ _
                    have K12 : Hid (zf.heap[b12]? = some (.cells #[.string y1, .int .u64 y2, .int .i64 y3, .string y4] 56)) := k12
                    clear k12
                    replace hS := hid hS
                    have B9 : Hid (Below n0 W0 zf) := HB.out.trans (hS.out.mono (by have := HB.out.size; have := hn0.out; omega))
                    have O9 : Hid (OwnE zf n0 ev (entL (L.take (j + 1)) k q)) := by rw [show entL (L.take (j + 1)) k q = _ from hEs.out]; exact HO.out.later hS.out
                    have HCv := hid (HCov.out zf B9.out)
                    have c3 := HC3.out zf B9.out
                    go_wp2_with fail
                    refine HCv.out.mono ?_
                    rintro e wc ⟨rfl, bc⟩
                    have BF : Hid (Below n0 W0 wc) := B9.out.trans (bc.mono (by have := B9.out.size; have := hn0.out; omega))
                    have OF := hid (O9.out.later bc)
                    clear bc
                    go_wp2_with fail
                    refine ⟨⟨j + 1, _, rfl, by first | rfl | go_num, by omega, hCs.out, OF, BF⟩, ?_⟩
                    simp only [intOf]; omega
                  exact AllReadyH.nil
                exact AllReadyH.nil
              exact AllReadyH.nil
            refine AllReadyH.cons rfl (fun K hK => ?_) ?_
            · go_simp
              have h12 : (y10.alloc (.cells #[.string ⟨#[]⟩, .int .u64 0, .int .i64 0, .string ⟨#[]⟩] 56)).heap[y10.heap.size]? = some (.cells #[.string ⟨#[]⟩, .int .u64 0, .int .i64 0, .string ⟨#[]⟩] 56) := new_at _ _
              have hb12 : w1.heap.size ≤ y10.heap.size := hS.size
              refine hK.out _ _ (hS.alloc hS.size _) (fun hS => ?_)
              clear hK K
              generalize y10.alloc (.cells #[.string ⟨#[]⟩, .int .u64 0, .int .i64 0, .string ⟨#[]⟩] 56) = z16 at *
              generalize y10.heap.size = b12 at *
              replace hb12 := hid hb12
              refine wpAnyH_ready (rs := [11]) (by kernel_rfl) (by simp) ?_
              refine AllReadyH.cons rfl (fun K hK => ?_) ?_
              · go_simp
                go_wp2_with fail
                refine (HSk.out _ hS).mono ?_
                rintro e y11 ⟨rfl, c11⟩
                refine hK.out _ _ (hS.trans (c11.mono hS.size)) (fun hS => ?_)
                clear hK K
                have h12 := (c11.block _ (blk_lt h12)).trans h12
                clear c11
                refine wpAnyH_ready (rs := [12]) (by kernel_rfl) (by simp) ?_
                refine AllReadyH.cons rfl (fun K hK => ?_) ?_
                · go_simp
                  go_wp2_with fail
                  refine (HEn.out _ hS).mono ?_
                  rintro e y12 ⟨rfl, c12⟩
                  refine hK.out _ _ (hS.trans (c12.mono hS.size)) (fun hS => ?_)
                  clear hK K
                  have h12 := (c12.block _ (blk_lt h12)).trans h12
                  clear c12
                  refine wpAnyH_take (i := 13) (v := ?v19) rfl (by kernel_rfl) (by kernel_rfl) (by kernel_rfl) (fun _ _ _ h => h) (Or.inl ⟨by rfl, ?h19⟩) hS ?_
                  case h19 => (intro W hW; go_simp; try (with_reducible rfl))
                  go_simp
                  refine wpAnyH_take (i := 14) (v := ?v20) rfl (by kernel_rfl) (by kernel_rfl) (by kernel_rfl) (fun _ _ _ h => h) (Or.inl ⟨by rfl, ?h20⟩) hS ?_
                  case h20 => (intro W hW; go_simp; try (with_reducible rfl))
                  go_simp
                  refine wpAnyH_take (i := 15) (v := ?v21) rfl (by kernel_rfl) (by kernel_rfl) (by kernel_rfl) (fun _ _ _ h => h) (Or.inl ⟨by rfl, ?h21⟩) hS ?_
                  case h21 => (intro W hW; go_simp; try (with_reducible rfl))
                  go_simp
                  refine wpAnyH_ready (rs := [17]) (by kernel_rfl) (by simp) ?_
                  refine AllReadyH.cons rfl (fun K hK => ?_) ?_
                  · have q0 := cell_of h12 0 (.string ⟨#[]⟩) rfl
                    have q1 := cell_of h12 1 (.int .u64 0) rfl
                    have q2 := cell_of h12 2 (.int .i64 0) rfl
                    have q3 := cell_of h12 3 (.string ⟨#[]⟩) rfl
                    have f0 := Tr.fz_of h12 0
                    have f1 := Tr.fz_of h12 1
                    have f2 := Tr.fz_of h12 2
                    have f3 := Tr.fz_of h12 3
                    have k12 := Tr.set_of (Tr.set_of (Tr.set_of (Tr.set_of h12 0 (.string y1)) 1 (.int .u64 y2)) 2 (.int .i64 y3)) 3 (.string y4)
                    have hSF : Below w1.heap.size w1 (((((y12).setCell ⟨b12, 0, none⟩ (.string y1)).setCell ⟨b12, 1, none⟩ (.int .u64 y2)).setCell ⟨b12, 2, none⟩ (.int .i64 y3)).setCell ⟨b12, 3, none⟩ (.string y4)) := (((hS.setCell (p := ⟨b12, 0, none⟩) hb12.out _).setCell (p := ⟨b12, 1, none⟩) hb12.out _).setCell (p := ⟨b12, 2, none⟩) hb12.out _).setCell (p := ⟨b12, 3, none⟩) hb12.out _
                    replace k12 := hid k12
                    go_simp
                    refine hK.out _ _ hSF (fun hS => ?_)
                    clear hK K
                    generalize (((y12.setCell ⟨b12, 0, none⟩ (.string y1)).setCell ⟨b12, 1, none⟩ (.int .u64 y2)).setCell ⟨b12, 2, none⟩ (.int .i64 y3)).setCell ⟨b12, 3, none⟩ (.string y4) = zf at *
                    clear h12 q0 q1 q2 q3 f0 f1 f2 f3 hSF
                    refine wpAnyH_take (i := 18) (v := ?v22) rfl (by kernel_rfl) (by kernel_rfl) (by kernel_rfl) (fun _ _ _ h => h) (Or.inl ⟨by rfl, ?h22⟩) hS ?_
                    case h22 => (intro W hW; go_simp; try (with_reducible rfl))
                    go_simp
                    refine wpAnyH_done (by kernel_rfl) ?_ _
                    have K12 : Hid (zf.heap[b12]? = some (.cells #[.string y1, .int .u64 y2, .int .i64 y3, .string y4] 56)) := k12
                    clear k12
                    replace hS := hid hS
                    have B9 : Hid (Below n0 W0 zf) := HB.out.trans (hS.out.mono (by have := HB.out.size; have := hn0.out; omega))
                    have O9 : Hid (OwnE zf n0 ev (entL (L.take (j + 1)) k q)) := by rw [show entL (L.take (j + 1)) k q = _ from hEs.out]; exact HO.out.later hS.out
                    have HCv := hid (HCov.out zf B9.out)
                    have c3 := HC3.out zf B9.out
                    go_wp2_with fail
                    refine HCv.out.mono ?_
                    rintro e wc ⟨rfl, bc⟩
                    have BF : Hid (Below n0 W0 wc) := B9.out.trans (bc.mono (by have := B9.out.size; have := hn0.out; omega))
                    have OF := hid (O9.out.later bc)
                    clear bc
                    go_wp2_with fail
                    refine ⟨⟨j + 1, _, rfl, by first | rfl | go_num, by omega, hCs.out, OF, BF⟩, ?_⟩
                    simp only [intOf]; omega
                  exact AllReadyH.nil
                exact AllReadyH.nil
              exact AllReadyH.nil
            exact AllReadyH.nil
          refine AllReadyH.cons rfl (fun K hK => ?_) ?_
          · go_simp
            have h12 : (D.alloc (.cells #[.string ⟨#[]⟩, .int .u64 0, .int .i64 0, .string ⟨#[]⟩] 56)).heap[D.heap.size]? = some (.cells #[.string ⟨#[]⟩, .int .u64 0, .int .i64 0, .string ⟨#[]⟩] 56) := new_at _ _
            have hb12 : w1.heap.size ≤ D.heap.size := hS.size
            refine hK.out _ _ (hS.alloc hS.size _) (fun hS => ?_)
            clear hK K
            generalize D.alloc (.cells #[.string ⟨#[]⟩, .int .u64 0, .int .i64 0, .string ⟨#[]⟩] 56) = z16 at *
            generalize D.heap.size = b12 at *
            replace hb12 := hid hb12
            refine wpAnyH_ready (rs := [10]) (by kernel_rfl) (by simp) ?_
            refine AllReadyH.cons rfl (fun K hK => ?_) ?_
            · go_simp
              go_wp2_with fail
              refine (HAt.out _).mono ?_
              rintro e y10 ⟨rfl, c10⟩
              refine hK.out _ _ (hS.trans (c10.mono hS.size)) (fun hS => ?_)
              clear hK K
              have h12 := (c10.block _ (blk_lt h12)).trans h12
              clear c10
              refine wpAnyH_ready (rs := [11]) (by kernel_rfl) (by simp) ?_
              refine AllReadyH.cons rfl (fun K hK => ?_) ?_
              · go_simp
                go_wp2_with fail
                refine (HSk.out _ hS).mono ?_
                rintro e y11 ⟨rfl, c11⟩
                refine hK.out _ _ (hS.trans (c11.mono hS.size)) (fun hS => ?_)
                clear hK K
                have h12 := (c11.block _ (blk_lt h12)).trans h12
                clear c11
                refine wpAnyH_ready (rs := [12]) (by kernel_rfl) (by simp) ?_
                refine AllReadyH.cons rfl (fun K hK => ?_) ?_
                · go_simp
                  go_wp2_with fail
                  refine (HEn.out _ hS).mono ?_
                  rintro e y12 ⟨rfl, c12⟩
                  refine hK.out _ _ (hS.trans (c12.mono hS.size)) (fun hS => ?_)
                  clear hK K
                  have h12 := (c12.block _ (blk_lt h12)).trans h12
                  clear c12
                  refine wpAnyH_take (i := 13) (v := ?v23) rfl (by kernel_rfl) (by kernel_rfl) (by kernel_rfl) (fun _ _ _ h => h) (Or.inl ⟨by rfl, ?h23⟩) hS ?_
                  case h23 => (intro W hW; go_simp; try (with_reducible rfl))
                  go_simp
                  refine wpAnyH_take (i := 14) (v := ?v24) rfl (by kernel_rfl) (by kernel_rfl) (by kernel_rfl) (fun _ _ _ h => h) (Or.inl ⟨by rfl, ?h24⟩) hS ?_
                  case h24 => (intro W hW; go_simp; try (with_reducible rfl))
                  go_simp
                  refine wpAnyH_take (i := 15) (v := ?v25) rfl (by kernel_rfl) (by kernel_rfl) (by kernel_rfl) (fun _ _ _ h => h) (Or.inl ⟨by rfl, ?h25⟩) hS ?_
                  case h25 => (intro W hW; go_simp; try (with_reducible rfl))
                  go_simp
                  refine wpAnyH_ready (rs := [17]) (by kernel_rfl) (by simp) ?_
                  refine AllReadyH.cons rfl (fun K hK => ?_) ?_
                  · have q0 := cell_of h12 0 (.string ⟨#[]⟩) rfl
                    have q1 := cell_of h12 1 (.int .u64 0) rfl
                    have q2 := cell_of h12 2 (.int .i64 0) rfl
                    have q3 := cell_of h12 3 (.string ⟨#[]⟩) rfl
                    have f0 := Tr.fz_of h12 0
                    have f1 := Tr.fz_of h12 1
                    have f2 := Tr.fz_of h12 2
                    have f3 := Tr.fz_of h12 3
                    have k12 := Tr.set_of (Tr.set_of (Tr.set_of (Tr.set_of h12 0 (.string y1)) 1 (.int .u64 y2)) 2 (.int .i64 y3)) 3 (.string y4)
                    have hSF : Below w1.heap.size w1 (((((y12).setCell ⟨b12, 0, none⟩ (.string y1)).setCell ⟨b12, 1, none⟩ (.int .u64 y2)).setCell ⟨b12, 2, none⟩ (.int .i64 y3)).setCell ⟨b12, 3, none⟩ (.string y4)) := (((hS.setCell (p := ⟨b12, 0, none⟩) hb12.out _).setCell (p := ⟨b12, 1, none⟩) hb12.out _).setCell (p := ⟨b12, 2, none⟩) hb12.out _).setCell (p := ⟨b12, 3, none⟩) hb12.out _
                    replace k12 := hid k12
                    go_simp
                    refine hK.out _ _ hSF (fun hS => ?_)
                    clear hK K
                    generalize (((y12.setCell ⟨b12, 0, none⟩ (.string y1)).setCell ⟨b12, 1, none⟩ (.int .u64 y2)).setCell ⟨b12, 2, none⟩ (.int .i64 y3)).setCell ⟨b12, 3, none⟩ (.string y4) = zf at *
                    clear h12 q0 q1 q2 q3 f0 f1 f2 f3 hSF
                    refine wpAnyH_take (i := 18) (v := ?v26) rfl (by kernel_rfl) (by kernel_rfl) (by kernel_rfl) (fun _ _ _ h => h) (Or.inl ⟨by rfl, ?h26⟩) hS ?_
                    case h26 => (intro W hW; go_simp; try (with_reducible rfl))
                    go_simp
                    refine wpAnyH_done (by kernel_rfl) ?_ _
                    have K12 : Hid (zf.heap[b12]? = some (.cells #[.string y1, .int .u64 y2, .int .i64 y3, .string y4] 56)) := k12
                    clear k12
                    replace hS := hid hS
                    have B9 : Hid (Below n0 W0 zf) := HB.out.trans (hS.out.mono (by have := HB.out.size; have := hn0.out; omega))
                    have O9 : Hid (OwnE zf n0 ev (entL (L.take (j + 1)) k q)) := by rw [show entL (L.take (j + 1)) k q = _ from hEs.out]; exact HO.out.later hS.out
                    have HCv := hid (HCov.out zf B9.out)
                    have c3 := HC3.out zf B9.out
                    go_wp2_with fail
                    refine HCv.out.mono ?_
                    rintro e wc ⟨rfl, bc⟩
                    have BF : Hid (Below n0 W0 wc) := B9.out.trans (bc.mono (by have := B9.out.size; have := hn0.out; omega))
                    have OF := hid (O9.out.later bc)
                    clear bc
                    go_wp2_with fail
                    refine ⟨⟨j + 1, _, rfl, by first | rfl | go_num, by omega, hCs.out, OF, BF⟩, ?_⟩
                    simp only [intOf]; omega
                  exact AllReadyH.nil
                exact AllReadyH.nil
              exact AllReadyH.nil
            exact AllReadyH.nil
          exact AllReadyH.nil
        · have hEs : Hid (entL (L.take (j + 1)) k q = entL (L.take j) k q ++ [⟨y1, y2, y3, y4⟩]) := hEY hm0
          have hd : decide (m ≠ 0) = true := by simpa using hm0
          rw [hd] at HEn
          clear hEs0 hEN hEY hm hml hxx hy hm0 hd TX TXW BWr HPr hcell hgx hx hxm hWf hTsl HP0 HT0
          go_wp2_with fail
          refine HIs.out.mono ?_
          rintro e w1 ⟨rfl, rfl⟩
          go_wp2_with fail
          refine wp_region_held_drew (S := fun W => Below w1.heap.size w1 W) (by kernel_rfl) ((Below.refl _ _).drew) (fun hS => ?_)
          generalize World.drew w1 = D at *
          refine wpAnyH_take (i := 0) (v := ?v27) rfl (by kernel_rfl) (by kernel_rfl) (by kernel_rfl) (fun _ _ _ h => h) (Or.inl ⟨by rfl, ?h27⟩) hS ?_
          case h27 => (intro W hW; go_simp; try (with_reducible rfl))
          go_simp
          refine wpAnyH_take (i := 1) (v := ?v28) rfl (by kernel_rfl) (by kernel_rfl) (by kernel_rfl) (fun _ _ _ h => h) (Or.inl ⟨by rfl, ?h28⟩) hS ?_
          case h28 => (intro W hW; go_simp; try (with_reducible rfl))
          go_simp
          refine wpAnyH_take (i := 2) (v := ?v29) rfl (by kernel_rfl) (by kernel_rfl) (by kernel_rfl) (fun _ _ _ h => h) (Or.inl ⟨by rfl, ?h29⟩) hS ?_
          case h29 => (intro W hW; go_simp; try (with_reducible rfl))
          go_simp
          refine wpAnyH_take (i := 3) (v := ?v30) rfl (by kernel_rfl) (by kernel_rfl) (by kernel_rfl) (fun _ _ _ h => h) (Or.inl ⟨by rfl, ?h30⟩) hS ?_
          case h30 => (intro W hW; have c2 := HC2.out W hW; go_simp; try (with_reducible rfl))
          go_simp
          refine wpAnyH_take (i := 4) (v := ?v31) rfl (by kernel_rfl) (by kernel_rfl) (by kernel_rfl) (fun _ _ _ h => h) (Or.inl ⟨by rfl, ?h31⟩) hS ?_
          case h31 => (intro W hW; go_simp; try (with_reducible rfl))
          go_simp
          refine wpAnyH_take (i := 5) (v := ?v32) rfl (by kernel_rfl) (by kernel_rfl) (by kernel_rfl) (fun _ _ _ h => h) (Or.inl ⟨by rfl, ?h32⟩) hS ?_
          case h32 => (intro W hW; go_simp; try (with_reducible rfl))
          go_simp
          refine wpAnyH_take (i := 6) (v := ?v33) rfl (by kernel_rfl) (by kernel_rfl) (by kernel_rfl) (fun _ _ _ h => h) (Or.inl ⟨by rfl, ?h33⟩) hS ?_
          case h33 => (intro W hW; go_simp; try (with_reducible rfl))
          go_simp
          refine wpAnyH_take (i := 7) (v := ?v34) rfl (by kernel_rfl) (by kernel_rfl) (by kernel_rfl) (fun _ _ _ h => h) (Or.inl ⟨by rfl, ?h34⟩) hS ?_
          case h34 => (intro W hW; have c2 := HC2.out W hW; go_simp; try (with_reducible rfl))
          go_simp
          refine wpAnyH_take (i := 8) (v := ?v35) rfl (by kernel_rfl) (by kernel_rfl) (by kernel_rfl) (fun _ _ _ h => h) (Or.inl ⟨by rfl, ?h35⟩) hS ?_
          case h35 => (intro W hW; go_simp; try (with_reducible rfl))
          go_simp
          refine wpAnyH_take (i := 9) (v := ?v36) rfl (by kernel_rfl) (by kernel_rfl) (by kernel_rfl) (fun _ _ _ h => h) (Or.inl ⟨by rfl, ?h36⟩) hS ?_
          case h36 => (intro W hW; go_simp; try (with_reducible rfl))
          go_simp
          refine wpAnyH_ready (rs := [10, 16]) (by kernel_rfl) (by simp) ?_
          refine AllReadyH.cons rfl (fun K hK => ?_) ?_
          · go_simp
            go_wp2_with fail
            refine (HAt.out _).mono ?_
            rintro e y10 ⟨rfl, c10⟩
            refine hK.out _ _ (hS.trans (c10.mono hS.size)) (fun hS => ?_)
            clear hK K
            clear c10
            refine wpAnyH_ready (rs := [11, 16]) (by kernel_rfl) (by simp) ?_
            refine AllReadyH.cons rfl (fun K hK => ?_) ?_
            · go_simp
              go_wp2_with fail
              refine (HSk.out _ hS).mono ?_
              rintro e y11 ⟨rfl, c11⟩
              refine hK.out _ _ (hS.trans (c11.mono hS.size)) (fun hS => ?_)
              clear hK K
              clear c11
              refine wpAnyH_ready (rs := [12, 16]) (by kernel_rfl) (by simp) ?_
              refine AllReadyH.cons rfl (fun K hK => ?_) ?_
              · go_simp
                go_wp2_with fail
                refine (HEn.out _ hS).mono ?_
                rintro e y12 ⟨rfl, c12⟩
                refine hK.out _ _ (hS.trans (c12.mono hS.size)) (fun hS => ?_)
                clear hK K
                clear c12
                refine wpAnyH_take (i := 13) (v := ?v37) rfl (by kernel_rfl) (by kernel_rfl) (by kernel_rfl) (fun _ _ _ h => h) (Or.inl ⟨by rfl, ?h37⟩) hS ?_
                case h37 => (intro W hW; go_simp; try (with_reducible rfl))
                go_simp
                refine wpAnyH_take (i := 14) (v := ?v38) rfl (by kernel_rfl) (by kernel_rfl) (by kernel_rfl) (fun _ _ _ h => h) (Or.inl ⟨by rfl, ?h38⟩) hS ?_
                case h38 => (intro W hW; go_simp; try (with_reducible rfl))
                go_simp
                refine wpAnyH_take (i := 15) (v := ?v39) rfl (by kernel_rfl) (by kernel_rfl) (by kernel_rfl) (fun _ _ _ h => h) (Or.inl ⟨by rfl, ?h39⟩) hS ?_
                case h39 => (intro W hW; go_simp; try (with_reducible rfl))
                go_simp
                refine wpAnyH_ready (rs := [16]) (by kernel_rfl) (by simp) ?_
                refine AllReadyH.cons rfl (fun K hK => ?_) ?_
                · go_simp
                  have h12 : (y12.alloc (.cells #[.string ⟨#[]⟩, .int .u64 0, .int .i64 0, .string ⟨#[]⟩] 56)).heap[y12.heap.size]? = some (.cells #[.string ⟨#[]⟩, .int .u64 0, .int .i64 0, .string ⟨#[]⟩] 56) := new_at _ _
                  have hb12 : w1.heap.size ≤ y12.heap.size := hS.size
                  refine hK.out _ _ (hS.alloc hS.size _) (fun hS => ?_)
                  clear hK K
                  generalize y12.alloc (.cells #[.string ⟨#[]⟩, .int .u64 0, .int .i64 0, .string ⟨#[]⟩] 56) = z16 at *
                  generalize y12.heap.size = b12 at *
                  replace hb12 := hid hb12
                  refine wpAnyH_ready (rs := [17]) (by kernel_rfl) (by simp) ?_
                  refine AllReadyH.cons rfl (fun K hK => ?_) ?_
                  · have q0 := cell_of h12 0 (.string ⟨#[]⟩) rfl
                    have q1 := cell_of h12 1 (.int .u64 0) rfl
                    have q2 := cell_of h12 2 (.int .i64 0) rfl
                    have q3 := cell_of h12 3 (.string ⟨#[]⟩) rfl
                    have f0 := Tr.fz_of h12 0
                    have f1 := Tr.fz_of h12 1
                    have f2 := Tr.fz_of h12 2
                    have f3 := Tr.fz_of h12 3
                    have k12 := Tr.set_of (Tr.set_of (Tr.set_of (Tr.set_of h12 0 (.string y1)) 1 (.int .u64 y2)) 2 (.int .i64 y3)) 3 (.string y4)
                    have hSF : Below w1.heap.size w1 (((((z16).setCell ⟨b12, 0, none⟩ (.string y1)).setCell ⟨b12, 1, none⟩ (.int .u64 y2)).setCell ⟨b12, 2, none⟩ (.int .i64 y3)).setCell ⟨b12, 3, none⟩ (.string y4)) := (((hS.setCell (p := ⟨b12, 0, none⟩) hb12.out _).setCell (p := ⟨b12, 1, none⟩) hb12.out _).setCell (p := ⟨b12, 2, none⟩) hb12.out _).setCell (p := ⟨b12, 3, none⟩) hb12.out _
                    replace k12 := hid k12
                    go_simp
                    refine hK.out _ _ hSF (fun hS => ?_)
                    clear hK K
                    generalize (((z16.setCell ⟨b12, 0, none⟩ (.string y1)).setCell ⟨b12, 1, none⟩ (.int .u64 y2)).setCell ⟨b12, 2, none⟩ (.int .i64 y3)).setCell ⟨b12, 3, none⟩ (.string y4) = zf at *
                    clear h12 q0 q1 q2 q3 f0 f1 f2 f3 hSF
                    refine wpAnyH_take (i := 18) (v := ?v40) rfl (by kernel_rfl) (by kernel_rfl) (by kernel_rfl) (fun _ _ _ h => h) (Or.inl ⟨by rfl, ?h40⟩) hS ?_
                    case h40 => (intro W hW; go_simp; try (with_reducible rfl))
                    go_simp
                    refine wpAnyH_done (by kernel_rfl) ?_ _
                    have K12 : Hid (zf.heap[b12]? = some (.cells #[.string y1, .int .u64 y2, .int .i64 y3, .string y4] 56)) := k12
                    clear k12
                    replace hS := hid hS
                    obtain ⟨ea, ecp, rfl⟩ := Sa.row_block HO.out
                    obtain ⟨v9, W9, r9, o9, g9, _⟩ := app_entry zf n0 _ (entL (L.take j) k q) ⟨y1, y2, y3, y4⟩ (HO.out.later hS.out) hroom.out (by have := hS.out.size; have := HB.out.size; have := hn0.out; omega)
                    obtain ⟨a9, c9, rfl⟩ := Sa.row_block o9
                    dsimp only at r9
                    have q0 := cell_of K12.out 0 (.string y1) rfl
                    have q1 := cell_of K12.out 1 (.int .u64 y2) rfl
                    have q2 := cell_of K12.out 2 (.int .i64 y3) rfl
                    have q3 := cell_of K12.out 3 (.string y4) rfl
                    have B9 : Hid (Below n0 W0 W9) := (HB.out.trans (hS.out.mono (by have := HB.out.size; have := hn0.out; omega))).grown g9 (by have := hS.out.size; have := HB.out.size; have := hn0.out; omega) (fun jj hj => (own_lt HO.out jj hj).1)
                    have O9 : Hid (OwnE W9 n0 (.slice a9 (entL (L.take j) k q ++ [(⟨y1, y2, y3, y4⟩ : E)]).length c9) (entL (L.take (j + 1)) k q)) := by rw [show entL (L.take (j + 1)) k q = _ from hEs.out]; exact o9
                    clear o9 g9
                    generalize (entL (L.take j) k q ++ [(⟨y1, y2, y3, y4⟩ : E)]).length = l9 at *
                    have HCv := hid (HCov.out W9 B9.out)
                    have c3 := HC3.out W9 B9.out
                    replace r9 := hid r9
                    go_wp2_with (at_builtin; refine wpList_append_run rfl (.tmp 43) (.tmp 45) 25 25 rfl (.slice ea (entL (L.take j) k q).length ecp) (.slice (some ⟨zf.heap.size, 0, none⟩) 1 1) (.slice a9 l9 c9) rfl rfl r9.out ?_)
                    refine HCv.out.mono ?_
                    rintro e wc ⟨rfl, bc⟩
                    have BF : Hid (Below n0 W0 wc) := B9.out.trans (bc.mono (by have := B9.out.size; have := hn0.out; omega))
                    have OF := hid (O9.out.later bc)
                    clear bc
                    go_wp2_with fail
                    refine ⟨⟨j + 1, _, rfl, by first | rfl | go_num, by omega, hCs.out, OF, BF⟩, ?_⟩
                    simp only [intOf]; omega
                  exact AllReadyH.nil
                exact AllReadyH.nil
              refine AllReadyH.cons rfl (fun K hK => ?_) ?_
              · go_simp
                have h12 : (y11.alloc (.cells #[.string ⟨#[]⟩, .int .u64 0, .int .i64 0, .string ⟨#[]⟩] 56)).heap[y11.heap.size]? = some (.cells #[.string ⟨#[]⟩, .int .u64 0, .int .i64 0, .string ⟨#[]⟩] 56) := new_at _ _
                have hb12 : w1.heap.size ≤ y11.heap.size := hS.size
                refine hK.out _ _ (hS.alloc hS.size _) (fun hS => ?_)
                clear hK K
                generalize y11.alloc (.cells #[.string ⟨#[]⟩, .int .u64 0, .int .i64 0, .string ⟨#[]⟩] 56) = z16 at *
                generalize y11.heap.size = b12 at *
                replace hb12 := hid hb12
                refine wpAnyH_ready (rs := [12]) (by kernel_rfl) (by simp) ?_
                refine AllReadyH.cons rfl (fun K hK => ?_) ?_
                · go_simp
                  go_wp2_with fail
                  refine (HEn.out _ hS).mono ?_
                  rintro e y12 ⟨rfl, c12⟩
                  refine hK.out _ _ (hS.trans (c12.mono hS.size)) (fun hS => ?_)
                  clear hK K
                  have h12 := (c12.block _ (blk_lt h12)).trans h12
                  clear c12
                  refine wpAnyH_take (i := 13) (v := ?v41) rfl (by kernel_rfl) (by kernel_rfl) (by kernel_rfl) (fun _ _ _ h => h) (Or.inl ⟨by rfl, ?h41⟩) hS ?_
                  case h41 => (intro W hW; go_simp; try (with_reducible rfl))
                  go_simp
                  refine wpAnyH_take (i := 14) (v := ?v42) rfl (by kernel_rfl) (by kernel_rfl) (by kernel_rfl) (fun _ _ _ h => h) (Or.inl ⟨by rfl, ?h42⟩) hS ?_
                  case h42 => (intro W hW; go_simp; try (with_reducible rfl))
                  go_simp
                  refine wpAnyH_take (i := 15) (v := ?v43) rfl (by kernel_rfl) (by kernel_rfl) (by kernel_rfl) (fun _ _ _ h => h) (Or.inl ⟨by rfl, ?h43⟩) hS ?_
                  case h43 => (intro W hW; go_simp; try (with_reducible rfl))
                  go_simp
                  refine wpAnyH_ready (rs := [17]) (by kernel_rfl) (by simp) ?_
                  refine AllReadyH.cons rfl (fun K hK => ?_) ?_
                  · have q0 := cell_of h12 0 (.string ⟨#[]⟩) rfl
                    have q1 := cell_of h12 1 (.int .u64 0) rfl
                    have q2 := cell_of h12 2 (.int .i64 0) rfl
                    have q3 := cell_of h12 3 (.string ⟨#[]⟩) rfl
                    have f0 := Tr.fz_of h12 0
                    have f1 := Tr.fz_of h12 1
                    have f2 := Tr.fz_of h12 2
                    have f3 := Tr.fz_of h12 3
                    have k12 := Tr.set_of (Tr.set_of (Tr.set_of (Tr.set_of h12 0 (.string y1)) 1 (.int .u64 y2)) 2 (.int .i64 y3)) 3 (.string y4)
                    have hSF : Below w1.heap.size w1 (((((y12).setCell ⟨b12, 0, none⟩ (.string y1)).setCell ⟨b12, 1, none⟩ (.int .u64 y2)).setCell ⟨b12, 2, none⟩ (.int .i64 y3)).setCell ⟨b12, 3, none⟩ (.string y4)) := (((hS.setCell (p := ⟨b12, 0, none⟩) hb12.out _).setCell (p := ⟨b12, 1, none⟩) hb12.out _).setCell (p := ⟨b12, 2, none⟩) hb12.out _).setCell (p := ⟨b12, 3, none⟩) hb12.out _
                    replace k12 := hid k12
                    go_simp
                    refine hK.out _ _ hSF (fun hS => ?_)
                    clear hK K
                    generalize (((y12.setCell ⟨b12, 0, none⟩ (.string y1)).setCell ⟨b12, 1, none⟩ (.int .u64 y2)).setCell ⟨b12, 2, none⟩ (.int .i64 y3)).setCell ⟨b12, 3, none⟩ (.string y4) = zf at *
                    clear h12 q0 q1 q2 q3 f0 f1 f2 f3 hSF
                    refine wpAnyH_take (i := 18) (v := ?v44) rfl (by kernel_rfl) (by kernel_rfl) (by kernel_rfl) (fun _ _ _ h => h) (Or.inl ⟨by rfl, ?h44⟩) hS ?_
                    case h44 => (intro W hW; go_simp; try (with_reducible rfl))
                    go_simp
                    refine wpAnyH_done (by kernel_rfl) ?_ _
                    have K12 : Hid (zf.heap[b12]? = some (.cells #[.string y1, .int .u64 y2, .int .i64 y3, .string y4] 56)) := k12
                    clear k12
                    replace hS := hid hS
                    obtain ⟨ea, ecp, rfl⟩ := Sa.row_block HO.out
                    obtain ⟨v9, W9, r9, o9, g9, _⟩ := app_entry zf n0 _ (entL (L.take j) k q) ⟨y1, y2, y3, y4⟩ (HO.out.later hS.out) hroom.out (by have := hS.out.size; have := HB.out.size; have := hn0.out; omega)
                    obtain ⟨a9, c9, rfl⟩ := Sa.row_block o9
                    dsimp only at r9
                    have q0 := cell_of K12.out 0 (.string y1) rfl
                    have q1 := cell_of K12.out 1 (.int .u64 y2) rfl
                    have q2 := cell_of K12.out 2 (.int .i64 y3) rfl
                    have q3 := cell_of K12.out 3 (.string y4) rfl
                    have B9 : Hid (Below n0 W0 W9) := (HB.out.trans (hS.out.mono (by have := HB.out.size; have := hn0.out; omega))).grown g9 (by have := hS.out.size; have := HB.out.size; have := hn0.out; omega) (fun jj hj => (own_lt HO.out jj hj).1)
                    have O9 : Hid (OwnE W9 n0 (.slice a9 (entL (L.take j) k q ++ [(⟨y1, y2, y3, y4⟩ : E)]).length c9) (entL (L.take (j + 1)) k q)) := by rw [show entL (L.take (j + 1)) k q = _ from hEs.out]; exact o9
                    clear o9 g9
                    generalize (entL (L.take j) k q ++ [(⟨y1, y2, y3, y4⟩ : E)]).length = l9 at *
                    have HCv := hid (HCov.out W9 B9.out)
                    have c3 := HC3.out W9 B9.out
                    replace r9 := hid r9
                    go_wp2_with (at_builtin; refine wpList_append_run rfl (.tmp 43) (.tmp 45) 25 25 rfl (.slice ea (entL (L.take j) k q).length ecp) (.slice (some ⟨zf.heap.size, 0, none⟩) 1 1) (.slice a9 l9 c9) rfl rfl r9.out ?_)
                    refine HCv.out.mono ?_
                    rintro e wc ⟨rfl, bc⟩
                    have BF : Hid (Below n0 W0 wc) := B9.out.trans (bc.mono (by have := B9.out.size; have := hn0.out; omega))
                    have OF := hid (O9.out.later bc)
                    clear bc
                    go_wp2_with fail
                    refine ⟨⟨j + 1, _, rfl, by first | rfl | go_num, by omega, hCs.out, OF, BF⟩, ?_⟩
                    simp only [intOf]; omega
                  exact AllReadyH.nil
                exact AllReadyH.nil
              exact AllReadyH.nil
            refine AllReadyH.cons rfl (fun K hK => ?_) ?_
            · go_simp
              have h12 : (y10.alloc (.cells #[.string ⟨#[]⟩, .int .u64 0, .int .i64 0, .string ⟨#[]⟩] 56)).heap[y10.heap.size]? = some (.cells #[.string ⟨#[]⟩, .int .u64 0, .int .i64 0, .string ⟨#[]⟩] 56) := new_at _ _
              have hb12 : w1.heap.size ≤ y10.heap.size := hS.size
              refine hK.out _ _ (hS.alloc hS.size _) (fun hS => ?_)
              clear hK K
              generalize y10.alloc (.cells #[.string ⟨#[]⟩, .int .u64 0, .int .i64 0, .string ⟨#[]⟩] 56) = z16 at *
              generalize y10.heap.size = b12 at *
              replace hb12 := hid hb12
              refine wpAnyH_ready (rs := [11]) (by kernel_rfl) (by simp) ?_
              refine AllReadyH.cons rfl (fun K hK => ?_) ?_
              · go_simp
                go_wp2_with fail
                refine (HSk.out _ hS).mono ?_
                rintro e y11 ⟨rfl, c11⟩
                refine hK.out _ _ (hS.trans (c11.mono hS.size)) (fun hS => ?_)
                clear hK K
                have h12 := (c11.block _ (blk_lt h12)).trans h12
                clear c11
                refine wpAnyH_ready (rs := [12]) (by kernel_rfl) (by simp) ?_
                refine AllReadyH.cons rfl (fun K hK => ?_) ?_
                · go_simp
                  go_wp2_with fail
                  refine (HEn.out _ hS).mono ?_
                  rintro e y12 ⟨rfl, c12⟩
                  refine hK.out _ _ (hS.trans (c12.mono hS.size)) (fun hS => ?_)
                  clear hK K
                  have h12 := (c12.block _ (blk_lt h12)).trans h12
                  clear c12
                  refine wpAnyH_take (i := 13) (v := ?v45) rfl (by kernel_rfl) (by kernel_rfl) (by kernel_rfl) (fun _ _ _ h => h) (Or.inl ⟨by rfl, ?h45⟩) hS ?_
                  case h45 => (intro W hW; go_simp; try (with_reducible rfl))
                  go_simp
                  refine wpAnyH_take (i := 14) (v := ?v46) rfl (by kernel_rfl) (by kernel_rfl) (by kernel_rfl) (fun _ _ _ h => h) (Or.inl ⟨by rfl, ?h46⟩) hS ?_
                  case h46 => (intro W hW; go_simp; try (with_reducible rfl))
                  go_simp
                  refine wpAnyH_take (i := 15) (v := ?v47) rfl (by kernel_rfl) (by kernel_rfl) (by kernel_rfl) (fun _ _ _ h => h) (Or.inl ⟨by rfl, ?h47⟩) hS ?_
                  case h47 => (intro W hW; go_simp; try (with_reducible rfl))
                  go_simp
                  refine wpAnyH_ready (rs := [17]) (by kernel_rfl) (by simp) ?_
                  refine AllReadyH.cons rfl (fun K hK => ?_) ?_
                  · have q0 := cell_of h12 0 (.string ⟨#[]⟩) rfl
                    have q1 := cell_of h12 1 (.int .u64 0) rfl
                    have q2 := cell_of h12 2 (.int .i64 0) rfl
                    have q3 := cell_of h12 3 (.string ⟨#[]⟩) rfl
                    have f0 := Tr.fz_of h12 0
                    have f1 := Tr.fz_of h12 1
                    have f2 := Tr.fz_of h12 2
                    have f3 := Tr.fz_of h12 3
                    have k12 := Tr.set_of (Tr.set_of (Tr.set_of (Tr.set_of h12 0 (.string y1)) 1 (.int .u64 y2)) 2 (.int .i64 y3)) 3 (.string y4)
                    have hSF : Below w1.heap.size w1 (((((y12).setCell ⟨b12, 0, none⟩ (.string y1)).setCell ⟨b12, 1, none⟩ (.int .u64 y2)).setCell ⟨b12, 2, none⟩ (.int .i64 y3)).setCell ⟨b12, 3, none⟩ (.string y4)) := (((hS.setCell (p := ⟨b12, 0, none⟩) hb12.out _).setCell (p := ⟨b12, 1, none⟩) hb12.out _).setCell (p := ⟨b12, 2, none⟩) hb12.out _).setCell (p := ⟨b12, 3, none⟩) hb12.out _
                    replace k12 := hid k12
                    go_simp
                    refine hK.out _ _ hSF (fun hS => ?_)
                    clear hK K
                    generalize (((y12.setCell ⟨b12, 0, none⟩ (.string y1)).setCell ⟨b12, 1, none⟩ (.int .u64 y2)).setCell ⟨b12, 2, none⟩ (.int .i64 y3)).setCell ⟨b12, 3, none⟩ (.string y4) = zf at *
                    clear h12 q0 q1 q2 q3 f0 f1 f2 f3 hSF
                    refine wpAnyH_take (i := 18) (v := ?v48) rfl (by kernel_rfl) (by kernel_rfl) (by kernel_rfl) (fun _ _ _ h => h) (Or.inl ⟨by rfl, ?h48⟩) hS ?_
                    case h48 => (intro W hW; go_simp; try (with_reducible rfl))
                    go_simp
                    refine wpAnyH_done (by kernel_rfl) ?_ _
                    have K12 : Hid (zf.heap[b12]? = some (.cells #[.string y1, .int .u64 y2, .int .i64 y3, .string y4] 56)) := k12
                    clear k12
                    replace hS := hid hS
                    obtain ⟨ea, ecp, rfl⟩ := Sa.row_block HO.out
                    obtain ⟨v9, W9, r9, o9, g9, _⟩ := app_entry zf n0 _ (entL (L.take j) k q) ⟨y1, y2, y3, y4⟩ (HO.out.later hS.out) hroom.out (by have := hS.out.size; have := HB.out.size; have := hn0.out; omega)
                    obtain ⟨a9, c9, rfl⟩ := Sa.row_block o9
                    dsimp only at r9
                    have q0 := cell_of K12.out 0 (.string y1) rfl
                    have q1 := cell_of K12.out 1 (.int .u64 y2) rfl
                    have q2 := cell_of K12.out 2 (.int .i64 y3) rfl
                    have q3 := cell_of K12.out 3 (.string y4) rfl
                    have B9 : Hid (Below n0 W0 W9) := (HB.out.trans (hS.out.mono (by have := HB.out.size; have := hn0.out; omega))).grown g9 (by have := hS.out.size; have := HB.out.size; have := hn0.out; omega) (fun jj hj => (own_lt HO.out jj hj).1)
                    have O9 : Hid (OwnE W9 n0 (.slice a9 (entL (L.take j) k q ++ [(⟨y1, y2, y3, y4⟩ : E)]).length c9) (entL (L.take (j + 1)) k q)) := by rw [show entL (L.take (j + 1)) k q = _ from hEs.out]; exact o9
                    clear o9 g9
                    generalize (entL (L.take j) k q ++ [(⟨y1, y2, y3, y4⟩ : E)]).length = l9 at *
                    have HCv := hid (HCov.out W9 B9.out)
                    have c3 := HC3.out W9 B9.out
                    replace r9 := hid r9
                    go_wp2_with (at_builtin; refine wpList_append_run rfl (.tmp 43) (.tmp 45) 25 25 rfl (.slice ea (entL (L.take j) k q).length ecp) (.slice (some ⟨zf.heap.size, 0, none⟩) 1 1) (.slice a9 l9 c9) rfl rfl r9.out ?_)
                    refine HCv.out.mono ?_
                    rintro e wc ⟨rfl, bc⟩
                    have BF : Hid (Below n0 W0 wc) := B9.out.trans (bc.mono (by have := B9.out.size; have := hn0.out; omega))
                    have OF := hid (O9.out.later bc)
                    clear bc
                    go_wp2_with fail
                    refine ⟨⟨j + 1, _, rfl, by first | rfl | go_num, by omega, hCs.out, OF, BF⟩, ?_⟩
                    simp only [intOf]; omega
                  exact AllReadyH.nil
                exact AllReadyH.nil
              exact AllReadyH.nil
            exact AllReadyH.nil
          refine AllReadyH.cons rfl (fun K hK => ?_) ?_
          · go_simp
            have h12 : (D.alloc (.cells #[.string ⟨#[]⟩, .int .u64 0, .int .i64 0, .string ⟨#[]⟩] 56)).heap[D.heap.size]? = some (.cells #[.string ⟨#[]⟩, .int .u64 0, .int .i64 0, .string ⟨#[]⟩] 56) := new_at _ _
            have hb12 : w1.heap.size ≤ D.heap.size := hS.size
            refine hK.out _ _ (hS.alloc hS.size _) (fun hS => ?_)
            clear hK K
            generalize D.alloc (.cells #[.string ⟨#[]⟩, .int .u64 0, .int .i64 0, .string ⟨#[]⟩] 56) = z16 at *
            generalize D.heap.size = b12 at *
            replace hb12 := hid hb12
            refine wpAnyH_ready (rs := [10]) (by kernel_rfl) (by simp) ?_
            refine AllReadyH.cons rfl (fun K hK => ?_) ?_
            · go_simp
              go_wp2_with fail
              refine (HAt.out _).mono ?_
              rintro e y10 ⟨rfl, c10⟩
              refine hK.out _ _ (hS.trans (c10.mono hS.size)) (fun hS => ?_)
              clear hK K
              have h12 := (c10.block _ (blk_lt h12)).trans h12
              clear c10
              refine wpAnyH_ready (rs := [11]) (by kernel_rfl) (by simp) ?_
              refine AllReadyH.cons rfl (fun K hK => ?_) ?_
              · go_simp
                go_wp2_with fail
                refine (HSk.out _ hS).mono ?_
                rintro e y11 ⟨rfl, c11⟩
                refine hK.out _ _ (hS.trans (c11.mono hS.size)) (fun hS => ?_)
                clear hK K
                have h12 := (c11.block _ (blk_lt h12)).trans h12
                clear c11
                refine wpAnyH_ready (rs := [12]) (by kernel_rfl) (by simp) ?_
                refine AllReadyH.cons rfl (fun K hK => ?_) ?_
                · go_simp
                  go_wp2_with fail
                  refine (HEn.out _ hS).mono ?_
                  rintro e y12 ⟨rfl, c12⟩
                  refine hK.out _ _ (hS.trans (c12.mono hS.size)) (fun hS => ?_)
                  clear hK K
                  have h12 := (c12.block _ (blk_lt h12)).trans h12
                  clear c12
                  refine wpAnyH_take (i := 13) (v := ?v49) rfl (by kernel_rfl) (by kernel_rfl) (by kernel_rfl) (fun _ _ _ h => h) (Or.inl ⟨by rfl, ?h49⟩) hS ?_
                  case h49 => (intro W hW; go_simp; try (with_reducible rfl))
                  go_simp
                  refine wpAnyH_take (i := 14) (v := ?v50) rfl (by kernel_rfl) (by kernel_rfl) (by kernel_rfl) (fun _ _ _ h => h) (Or.inl ⟨by rfl, ?h50⟩) hS ?_
                  case h50 => (intro W hW; go_simp; try (with_reducible rfl))
                  go_simp
                  refine wpAnyH_take (i := 15) (v := ?v51) rfl (by kernel_rfl) (by kernel_rfl) (by kernel_rfl) (fun _ _ _ h => h) (Or.inl ⟨by rfl, ?h51⟩) hS ?_
                  case h51 => (intro W hW; go_simp; try (with_reducible rfl))
                  go_simp
                  refine wpAnyH_ready (rs := [17]) (by kernel_rfl) (by simp) ?_
                  refine AllReadyH.cons rfl (fun K hK => ?_) ?_
                  · have q0 := cell_of h12 0 (.string ⟨#[]⟩) rfl
                    have q1 := cell_of h12 1 (.int .u64 0) rfl
                    have q2 := cell_of h12 2 (.int .i64 0) rfl
                    have q3 := cell_of h12 3 (.string ⟨#[]⟩) rfl
                    have f0 := Tr.fz_of h12 0
                    have f1 := Tr.fz_of h12 1
                    have f2 := Tr.fz_of h12 2
                    have f3 := Tr.fz_of h12 3
                    have k12 := Tr.set_of (Tr.set_of (Tr.set_of (Tr.set_of h12 0 (.string y1)) 1 (.int .u64 y2)) 2 (.int .i64 y3)) 3 (.string y4)
                    have hSF : Below w1.heap.size w1 (((((y12).setCell ⟨b12, 0, none⟩ (.string y1)).setCell ⟨b12, 1, none⟩ (.int .u64 y2)).setCell ⟨b12, 2, none⟩ (.int .i64 y3)).setCell ⟨b12, 3, none⟩ (.string y4)) := (((hS.setCell (p := ⟨b12, 0, none⟩) hb12.out _).setCell (p := ⟨b12, 1, none⟩) hb12.out _).setCell (p := ⟨b12, 2, none⟩) hb12.out _).setCell (p := ⟨b12, 3, none⟩) hb12.out _
                    replace k12 := hid k12
                    go_simp
                    refine hK.out _ _ hSF (fun hS => ?_)
                    clear hK K
                    generalize (((y12.setCell ⟨b12, 0, none⟩ (.string y1)).setCell ⟨b12, 1, none⟩ (.int .u64 y2)).setCell ⟨b12, 2, none⟩ (.int .i64 y3)).setCell ⟨b12, 3, none⟩ (.string y4) = zf at *
                    clear h12 q0 q1 q2 q3 f0 f1 f2 f3 hSF
                    refine wpAnyH_take (i := 18) (v := ?v52) rfl (by kernel_rfl) (by kernel_rfl) (by kernel_rfl) (fun _ _ _ h => h) (Or.inl ⟨by rfl, ?h52⟩) hS ?_
                    case h52 => (intro W hW; go_simp; try (with_reducible rfl))
                    go_simp
                    refine wpAnyH_done (by kernel_rfl) ?_ _
                    have K12 : Hid (zf.heap[b12]? = some (.cells #[.string y1, .int .u64 y2, .int .i64 y3, .string y4] 56)) := k12
                    clear k12
                    replace hS := hid hS
                    obtain ⟨ea, ecp, rfl⟩ := Sa.row_block HO.out
                    obtain ⟨v9, W9, r9, o9, g9, _⟩ := app_entry zf n0 _ (entL (L.take j) k q) ⟨y1, y2, y3, y4⟩ (HO.out.later hS.out) hroom.out (by have := hS.out.size; have := HB.out.size; have := hn0.out; omega)
                    obtain ⟨a9, c9, rfl⟩ := Sa.row_block o9
                    dsimp only at r9
                    have q0 := cell_of K12.out 0 (.string y1) rfl
                    have q1 := cell_of K12.out 1 (.int .u64 y2) rfl
                    have q2 := cell_of K12.out 2 (.int .i64 y3) rfl
                    have q3 := cell_of K12.out 3 (.string y4) rfl
                    have B9 : Hid (Below n0 W0 W9) := (HB.out.trans (hS.out.mono (by have := HB.out.size; have := hn0.out; omega))).grown g9 (by have := hS.out.size; have := HB.out.size; have := hn0.out; omega) (fun jj hj => (own_lt HO.out jj hj).1)
                    have O9 : Hid (OwnE W9 n0 (.slice a9 (entL (L.take j) k q ++ [(⟨y1, y2, y3, y4⟩ : E)]).length c9) (entL (L.take (j + 1)) k q)) := by rw [show entL (L.take (j + 1)) k q = _ from hEs.out]; exact o9
                    clear o9 g9
                    generalize (entL (L.take j) k q ++ [(⟨y1, y2, y3, y4⟩ : E)]).length = l9 at *
                    have HCv := hid (HCov.out W9 B9.out)
                    have c3 := HC3.out W9 B9.out
                    replace r9 := hid r9
                    go_wp2_with (at_builtin; refine wpList_append_run rfl (.tmp 43) (.tmp 45) 25 25 rfl (.slice ea (entL (L.take j) k q).length ecp) (.slice (some ⟨zf.heap.size, 0, none⟩) 1 1) (.slice a9 l9 c9) rfl rfl r9.out ?_)
                    refine HCv.out.mono ?_
                    rintro e wc ⟨rfl, bc⟩
                    have BF : Hid (Below n0 W0 wc) := B9.out.trans (bc.mono (by have := B9.out.size; have := hn0.out; omega))
                    have OF := hid (O9.out.later bc)
                    clear bc
                    go_wp2_with fail
                    refine ⟨⟨j + 1, _, rfl, by first | rfl | go_num, by omega, hCs.out, OF, BF⟩, ?_⟩
                    simp only [intOf]; omega
                  exact AllReadyH.nil
                exact AllReadyH.nil
              exact AllReadyH.nil
            exact AllReadyH.nil
          exact AllReadyH.nil
end Go.Proofs.Ytefihoohdaegeaa.Gt

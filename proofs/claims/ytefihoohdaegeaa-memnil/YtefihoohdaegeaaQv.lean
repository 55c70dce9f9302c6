/- A queue's Tables and Get. -/
import Derived.Test.YtefihoohdaegeaaQu
namespace Go.Proofs.Ytefihoohdaegeaa.Qv
open Go.ChangeShapes Go.WideShapes Go.ChangeAt Go.RowKit Go.Shelf
open Go.Sort (grow)
open Go.Proofs.Ytefihoohdaegeaa.Lx (hid)
open Go.Proofs.Ytefihoohdaegeaa.Fm
open Go.Proofs.Ytefihoohdaegeaa.Tb
open Go.Proofs.Ytefihoohdaegeaa.Gt
open Go.Proofs.Ytefihoohdaegeaa.Qu
open Go.Proofs.Ytefihoohdaegeaa.Mm (box_below)
open Go.Proofs.Ytefihoohdaegeaa.Ob (wpList_append_run)
open Go.Proofs.Ytefihoohdaegeaa.Tr (new_at cell_of size_alloc blk_lt set_of fz_of set_ne)
set_option linter.unusedVariables false
set_option linter.unusedSimpArgs false

theorem own_tps {w : World} {base : Nat} {a : Option Addr} {len cap : Nat} {l : List Nat} (h : OwnP w base (.slice a len cap) l) : Tps w a len cap l := by
  rcases h.2 with ⟨e, e2⟩ | ⟨g, c, cur, e, _, hg, h1, _, h3, h4⟩
  · injection e with e3 e4 e5
    subst e3 e4 e5
    exact ⟨by omega, by omega, fun _ => ⟨rfl, rfl⟩, fun b o p hp _ => by cases hp⟩
  · injection e with e3 e4 e5
    subst e3 e4 e5
    refine ⟨rfl, h1, fun h => by (cases h), fun b o p hp hl => ?_⟩
    injection hp with hp
    injection hp with p1 p2 p3
    subst p1 p2 p3
    refine ⟨rfl, fun i hi => ?_⟩
    have := World.ownsRow.cells h (g := g) rfl i (.pointer (some ⟨l.getD i 0, 0, none⟩)) (by unfold pv; rw [List.getElem?_map, List.getD_eq_getElem?_getD, List.getElem?_eq_getElem hi]; rfl)
    rwa [Tm.addr_add] at this
/-- All of a queue's memtables, so far. -/
def tl (g : Nat) (l : List Nat) (k : Nat) : List Nat := g :: (l.drop k).reverse
theorem tl_end (g : Nat) (l : List Nat) : tl g l l.length = [g] := by simp [tl]
theorem tl_zero (g : Nat) (l : List Nat) : tl g l 0 = g :: l.reverse := by simp [tl]
theorem tl_step (g : Nat) (l : List Nat) (k : Nat) (h : k < l.length) : tl g l k = tl g l (k + 1) ++ [l.getD k 0] := by
  unfold tl
  rw [List.drop_eq_getElem_cons h, List.getD_eq_getElem?_getD, List.getElem?_eq_getElem h]
  simp
theorem tl_len (g : Nat) (l : List Nat) (k : Nat) : (tl g l k).length ≤ l.length + 1 := by
  simp [tl]
set_option maxHeartbeats 2000000 in
set_option maxRecDepth 100000 in
theorem tables_any (bq gq g gl gs bm : Nat) (v : Value) (l : List Nat) (S : St) (w : World) (Q : Qb w gq g v) (O : OwnP w bq v l) (H : Tc w g (S.cells gl gs bm)) (hn : (l.length + 2) * 8 ≤ 140737488355328) :
    Calls Try.prog 42 #[.pointer (some ⟨gq, 0, none⟩)] w fun e w' => ∃ v', e = .returned v' ∧ OwnP w' w.heap.size v' (g :: l.reverse) ∧ Below w.heap.size w w' := by
  obtain ⟨va, vc, rfl⟩ := Sa.row_block O
  have HN := hid (qisnone_any gq g gl gs bm _ S w Q H)
  have c0 := Q.c0
  have c1 := Q.c1
  obtain ⟨len, hlen⟩ : ∃ n, n = l.length := ⟨_, rfl⟩
  obtain ⟨n0, hn0⟩ : ∃ n, n = w.heap.size := ⟨_, rfl⟩
  obtain ⟨i0, hi, hz0, hz1, hz2⟩ := info_parts infoP
  have hT := own_tps O
  rw [← hlen] at c1 Q hn hT
  obtain ⟨W1, hrun1, r1, r2⟩ := run_make_own (P := Try.prog) w n0 69 23 i0 _ 1 Try.underlying69 hi hz0 hz1 .i64 .i64 (len + 1) (by rw [hz2]; omega) (by unfold maxLen; omega) (by omega)
  rw [← hn0] at hrun1 r1
  have b1 : Below n0 w W1 := by rw [hn0]; exact ⟨r2.os, r2.tape, r2.output, r2.size, fun k hk => r2.block k hk (by simp)⟩
  obtain ⟨v2, W2, hrun2, o2, g2, q2⟩ := app_ptr W1 n0 (.slice (some ⟨n0, 0, none⟩) 0 (len + 1)) [] g r1 (by simp) (by rw [hn0]; exact r2.size)
  have b2 : Below n0 w W2 := b1.grown g2 (by rw [hn0]; exact b1.size) (fun k e => (World.ownsRow.lt r1 k e).1)
  have QA : Hid (∀ W, Below n0 w W → Qb W gq g (.slice va len vc)) := fun W b => Q.later (by rw [← hn0]; exact b)
  have TA : Hid (∀ W, Below n0 w W → Tps W va len vc l) := fun W b => hT.later (by rw [← hn0]; exact b)
  have d0 := (QA.out W1 b1).c0
  have d1 := (QA.out W2 b2).c1
  obtain ⟨a2, c2, rfl⟩ := Sa.row_block o2
  have hrun1' : Hid ((Instr.makeSlice 69 (.int .i64 0) (.int .i64 (1 + (len : Int)))).run Try.prog w = .ok (.slice (some ⟨n0, 0, none⟩) 0 (len + 1)) W1) := by
    show _ = _
    rw [show (1 + (len : Int)) = ((len + 1 : Nat) : Int) by omega]
    exact hrun1
  have hrun1 := hrun1'.out
  have o2' : Hid (OwnP W2 n0 (.slice a2 1 c2) (tl g l len)) := by rw [hlen, tl_end]; exact o2
  have i64 : (len : Int) ≤ 140737488355328 := by omega
  rw [show ([] ++ [g] : List Nat).length = 1 from rfl] at hrun2
  replace hrun2 := hid hrun2
  replace b2 := hid b2
  replace hlen := hid hlen
  replace hn0 := hid hn0
  clear Q O H hT hi hz0 hz1 hz2 r1 r2 b1 o2 g2 q2
  go_enter Try.func42, Try.ntmps42
  go_wp2_with fail
  refine HN.out.mono ?_
  rintro e w1 ⟨rfl, rfl⟩
  go_wp2_with (at_builtin; refine wpList_append_run rfl (.tmp 14) (.tmp 19) 69 69 rfl (.slice (some ⟨n0, 0, none⟩) 0 (len + 1)) (.slice (some ⟨W1.heap.size, 0, none⟩) 1 1) (.slice a2 1 c2) rfl rfl hrun2.out ?_)
  go_loopw [3, 4] (fun ov iv wr => ∃ (k : Nat) (av : Option Addr) (nv cv : Nat), iv = .int .i64 ((k : Int) - 1) ∧ ov = .slice av nv cv ∧ k ≤ len ∧ Hid (OwnP wr n0 (.slice av nv cv) (tl g l k)) ∧ Hid (Below n0 w1 wr)) (fun _ iv _ => (intOf iv + 1).toNat)
  case atStart => exact ⟨len, a2, 1, c2, by first | rfl | go_num, rfl, Nat.le_refl _, o2', b2⟩
  case round =>
    obtain ⟨k, av, nv, cv, rfl, rfl, hk, HO, HB⟩ := hrel
    cases k with
    | zero =>
      go_wp2_with fail
      go_ret
      refine ⟨_, rfl, ?_, ?_⟩
      · rw [← hn0.out, ← tl_zero]; exact HO.out
      · rw [← hn0.out]; exact HB.out
    | succ k =>
      have hk1 : (((k + 1 : Nat) : Int)) - 1 = (k : Int) := by omega
      rw [hk1]
      clear hk1
      have hk2 : (0 : Int) ≤ (k : Int) := by omega
      have hk3 : (k : Int) < (len : Int) := by omega
      have e1 := (QA.out _ HB.out).c1
      have T3 := TA.out _ HB.out
      obtain ⟨b, o, rfl, hat⟩ : ∃ b o, va = some ⟨b, o, none⟩ ∧ wr.cell? ⟨b, o + k, none⟩ = some (.pointer (some ⟨l.getD k 0, 0, none⟩)) := by
        cases va with
        | none => have := (T3.2.2.1 rfl).1; omega
        | some ad =>
          obtain ⟨b, o, p⟩ := ad
          obtain ⟨rfl, h⟩ := T3.2.2.2 b o p rfl (by omega)
          exact ⟨b, o, rfl, h k (by omega)⟩
      obtain ⟨x, hx⟩ : ∃ x, x = l.getD k 0 := ⟨_, rfl⟩
      rw [← hx] at hat
      have hlc := T3.2.1
      have hlt := tl_len g l (k + 1)
      obtain ⟨v4, W4, hrun4, o4, g4, q4⟩ := app_ptr wr n0 (.slice av nv cv) (tl g l (k + 1)) x HO.out (by have := hlen.out; omega) (by have := HB.out.size; have := hn0.out; omega)
      have B4 : Hid (Below n0 w1 W4) := HB.out.grown g4 (by have := HB.out.size; have := hn0.out; omega) (fun k e => (World.ownsRow.lt HO.out k e).1)
      obtain ⟨a4, c4, rfl⟩ := Sa.row_block o4
      obtain ⟨n4, hn4⟩ : ∃ n, n = (tl g l (k + 1) ++ [x]).length := ⟨_, rfl⟩
      rw [← hn4] at hrun4 o4
      have o4' : Hid (OwnP W4 n0 (.slice a4 n4 c4) (tl g l k)) := by rw [tl_step g l k (by have := hlen.out; omega), ← hx]; exact o4
      replace hrun4 := hid hrun4
      clear o4 g4 q4 hn4 T3 hlt hx
      go_wp2_with (at_builtin; refine wpList_append_run rfl (.tmp 31) (.tmp 39) 69 69 rfl (.slice av nv cv) (.slice (some ⟨wr.heap.size, 0, none⟩) 1 1) (.slice a4 n4 c4) rfl rfl hrun4.out ?_)
      go_roundw
      case rel => exact ⟨k, a4, n4, c4, by first | rfl | go_num, rfl, by omega, o4', B4⟩
      case measure => (simp [intOf] <;> omega)
set_option maxHeartbeats 2000000 in
set_option maxRecDepth 100000 in
/-- Get of a queue. -/
theorem qget_any (bq gq g gl gs bm : Nat) (v : Value) (S : St) (L : List (Nat × St)) (k : ByteArray) (q : Int) (w : World) (Q : Qb w gq g v) (O : OwnP w bq v (L.map (·.1))) (H : Tc w g (S.cells gl gs bm)) (HT : ∀ x ∈ (g, S) :: L.reverse, ∃ base P, Tb.Tb w base x.1 P x.2) (hn : L.length ≤ 1000000) (hts : ∀ x ∈ (g, S) :: L.reverse, x.2.ts.length ≤ 140737488355328) (hk : k.size ≤ maxLen) :
    Calls Try.prog 37 #[.pointer (some ⟨gq, 0, none⟩), .string k, .int .u64 q] w fun e w' => e = .returned (.tuple #[.agg (Nw.c4 (fnd ((g, S) :: L.reverse) k q).1), .bool (fnd ((g, S) :: L.reverse) k q).2]) ∧ Below w.heap.size w w' := by
  obtain ⟨W0, hW0⟩ : ∃ W, W = w.alloc (.cells #[.string ⟨#[]⟩, .int .u64 0, .int .i64 0, .string ⟨#[]⟩] 56) := ⟨_, rfl⟩
  have B0 : Below w.heap.size w W0 := by rw [hW0]; exact box_below _ _
  obtain ⟨gr, hgr⟩ : ∃ n, n = w.heap.size := ⟨_, rfl⟩
  have kR : W0.heap[gr]? = some (.cells #[.string ⟨#[]⟩, .int .u64 0, .int .i64 0, .string ⟨#[]⟩] 56) := by rw [hW0, hgr]; exact new_at _ _
  have HTb := hid (tables_any bq gq g gl gs bm v (L.map (·.1)) S W0 (Q.later B0) (O.later B0) ((B0.block g (blk_lt H)).trans H) (by rw [List.length_map]; omega))
  obtain ⟨⟨⟨y1, y2, y3, y4⟩, yb⟩, hy⟩ : ∃ r, r = fnd ((g, S) :: L.reverse) k q := ⟨_, rfl⟩
  have HF : Hid (∀ v' W, OwnP W W0.heap.size v' (g :: (L.map (·.1)).reverse) → Below W0.heap.size W0 W → Calls Try.prog 66 #[.string k, .int .u64 q, v'] W fun e w' => e = .returned (.tuple #[.agg #[.string y1, .int .u64 y2, .int .i64 y3, .string y4], .bool yb]) ∧ Below W.heap.size W w') := by
    intro v' W o b
    obtain ⟨a', c', rfl⟩ := Sa.row_block o
    have := find_any a' (g :: (L.map (·.1)).reverse).length c' ((g, S) :: L.reverse) k q W (by
      have := own_tps o
      simpa using this) (fun x hx => by
        obtain ⟨base, P, h⟩ := HT x hx
        exact ⟨base, P, (h.later B0).later b⟩) (by simp; omega) hts hk
    rw [← hy] at this
    exact this
  rw [← hy]
  clear hy HT hts O Q H hn
  have B0' := hid B0
  replace kR := hid kR
  replace hW0 := hid hW0
  replace hgr := hid hgr
  clear B0
  unfold Nw.c4
  go_enter Try.func37, Try.ntmps37
  go_wp2_with fail
  rw [← hW0.out, ← hgr.out]
  refine HTb.out.mono ?_
  rintro e w1 ⟨v1, rfl, o1, b1⟩
  have HFF := hid (HF.out v1 w1 o1 b1)
  have B1 := hid b1
  clear o1 b1 HF HTb
  go_wp2_with fail
  refine HFF.out.mono ?_
  rintro e w2 ⟨rfl, b2⟩
  have k2 := (b2.block gr (Nat.lt_of_lt_of_le (blk_lt kR.out) B1.out.size)).trans ((B1.out.block gr (blk_lt kR.out)).trans kR.out)
  have B2 : Hid (Below gr w w2) := by
    rw [hgr.out]
    exact (B0'.out.trans (B1.out.mono B0'.out.size)).trans (b2.mono (Nat.le_trans B0'.out.size B1.out.size))
  have z0 := cell_of k2 0 (.string ⟨#[]⟩) rfl
  have z1 := cell_of k2 1 (.int .u64 0) rfl
  have z2 := cell_of k2 2 (.int .i64 0) rfl
  have z3 := cell_of k2 3 (.string ⟨#[]⟩) rfl
  have f0 := fz_of k2 0
  have f1 := fz_of k2 1
  have f2 := fz_of k2 2
  have f3 := fz_of k2 3
  have hBs : Hid (∀ W, Below gr w W → ∀ i v, Below gr w (W.setCell ⟨gr, i, none⟩ v)) := fun W hW i v => hW.setCell (by show gr ≤ gr; exact Nat.le_refl _) v
  have k4 := hid (Tr.set_of (Tr.set_of (Tr.set_of (Tr.set_of k2 0 (.string y1)) 1 (.int .u64 y2)) 2 (.int .i64 y3)) 3 (.string y4))
  clear b2 k2 HFF
  go_wp2_with fail
  generalize hWF : (((w2.setCell ⟨gr, 0, none⟩ (.string y1)).setCell ⟨gr, 1, none⟩ (.int .u64 y2)).setCell ⟨gr, 2, none⟩ (.int .i64 y3)).setCell ⟨gr, 3, none⟩ (.string y4) = WF at *
  have q0 := cell_of k4.out 0 (.string y1) rfl
  have q1 := cell_of k4.out 1 (.int .u64 y2) rfl
  have q2 := cell_of k4.out 2 (.int .i64 y3) rfl
  have q3 := cell_of k4.out 3 (.string y4) rfl
  have BF : Hid (Below gr w WF) := by rw [← hWF]; exact hBs.out _ (hBs.out _ (hBs.out _ (hBs.out _ B2.out _ _) _ _) _ _) _ _
  refine bodyPost_ret (v := .tuple #[.agg #[.string y1, .int .u64 y2, .int .i64 y3, .string y4], .bool yb]) (by simp [results, Try.results37, go_sem, q0, q1, q2, q3]) rfl ⟨rfl, ?_⟩
  first | exact BF.out | (rw [← hgr.out]; exact BF.out)
end Go.Proofs.Ytefihoohdaegeaa.Qv

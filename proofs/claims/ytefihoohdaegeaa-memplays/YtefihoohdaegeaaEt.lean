/- Entries of a memtable: all of them, in their order. -/
import Derived.Test.YtefihoohdaegeaaEo
import Derived.Test.YtefihoohdaegeaaAl
import Derived.Test.YtefihoohdaegeaaGt
namespace Go.Proofs.Ytefihoohdaegeaa.Et
open Go.ChangeShapes Go.WideShapes Go.ChangeAt Go.RowKit Go.Shelf
open Go.Sort (grow)
open Go.Proofs.Ytefihoohdaegeaa.Ee (E ze Ents)
open Go.Proofs.Ytefihoohdaegeaa.Nw (c4)
open Go.Proofs.Ytefihoohdaegeaa.Ik
open Go.Proofs.Ytefihoohdaegeaa.Sg
open Go.Proofs.Ytefihoohdaegeaa.Mm
open Go.Proofs.Ytefihoohdaegeaa.Tr
open Go.Proofs.Ytefihoohdaegeaa.Li
open Go.Proofs.Ytefihoohdaegeaa.In
open Go.Proofs.Ytefihoohdaegeaa.Ob
open Go.Proofs.Ytefihoohdaegeaa.Fi
open Go.Proofs.Ytefihoohdaegeaa.Gs
open Go.Proofs.Ytefihoohdaegeaa.Al (all_in encs)
open Go.Proofs.Ytefihoohdaegeaa.Vi (range_q)
open Go.Proofs.Ytefihoohdaegeaa.Mt (wpListIn_append_run own_base belowK_b' new_box)
open Go.Proofs.Ytefihoohdaegeaa.Fm
open Go.Proofs.Ytefihoohdaegeaa.Tb (Tx Tc St Wf)
open Go.Proofs.Ytefihoohdaegeaa.Eo
set_option linter.unusedVariables false
set_option linter.unusedSimpArgs false
attribute [local go_sem] Oper.semAt_some

set_option maxHeartbeats 1000000 in
theorem allof_any (base g b most : Nat) (ns : List N) (ord : List Nat) (w : World) (H : SL w base g b most ns ord) :
    Calls Try.prog 68 #[.pointer (some ⟨g, 0, none⟩)] w fun e w' => e = .returned (.func (.func 90) #[] #[.pointer (some ⟨w.heap.size, 0, none⟩), .pointer (some ⟨w.heap.size + 1, 0, none⟩)]) ∧ Boxed w' w.heap.size 76 (.pointer (some ⟨g, 0, none⟩)) ∧ Boxed w' (w.heap.size + 1) 3 (.int .i64 (ns.length : Int)) ∧ Below w.heap.size w w' ∧ w'.heap.size = w.heap.size + 2 := by
  have B0 := box_below w (.cells #[.pointer (some ⟨g, 0, none⟩)] 76)
  obtain ⟨cap, tw, HL, G, L⟩ := H.later B0
  have HLen := hid (len_any g most (top ns) b ns.length cap _ HL.hd HL.m1 (by have := HL.ln; have := HL.m2; omega))
  have hmf : ∀ (fn : Fn) (first cap : Array Value) (w : World), (Instr.makeFunc fn first cap).run Try.prog w = .ok (.func fn first cap) w := fun _ _ _ _ => rfl
  obtain ⟨W1, hW1⟩ : ∃ W1, W1 = w.alloc (.cells #[.pointer (some ⟨g, 0, none⟩)] 76) := ⟨_, rfl⟩
  have b1 : Boxed W1 w.heap.size 76 (.pointer (some ⟨g, 0, none⟩)) := by rw [hW1]; exact Boxed.new _ _ _
  have s1 : W1.heap.size = w.heap.size + 1 := by rw [hW1]; exact size_alloc _ _
  have FIN : Hid (Boxed (W1.alloc (.cells #[.int .i64 (ns.length : Int)] 3)) w.heap.size 76 (.pointer (some ⟨g, 0, none⟩)) ∧ Boxed (W1.alloc (.cells #[.int .i64 (ns.length : Int)] 3)) (w.heap.size + 1) 3 (.int .i64 (ns.length : Int)) ∧ Below w.heap.size w (W1.alloc (.cells #[.int .i64 (ns.length : Int)] 3)) ∧ (W1.alloc (.cells #[.int .i64 (ns.length : Int)] 3)).heap.size = w.heap.size + 2) := by
    refine ⟨b1.alloc _, ?_, ?_, ?_⟩
    · rw [← s1]; exact Boxed.new _ _ _
    · exact ((by rw [hW1]; exact B0 : Below w.heap.size w W1)).alloc (by omega) _
    · rw [size_alloc, s1]
  rw [hW1] at FIN
  clear HL G L B0 hW1 b1 s1
  go_enter Try.func68, Try.ntmps68
  go_wp2_with fail
  refine HLen.out.mono ?_
  rintro e w' ⟨rfl, rfl⟩
  go_wp2_with fail
  go_ret
  exact ⟨rfl, FIN.out⟩

/-- The entries, in their order. -/
def ents (S : St) (l : List Nat) : List E := l.map fun n => entN S.ns n
theorem ents_snoc (S : St) (l : List Nat) (n : Nat) : ents S (l ++ [n]) = ents S l ++ [entN S.ns n] := by simp [ents]
theorem make_ents (w : World) (n : Nat) (hn : n ≤ 1048576) : (Instr.makeSlice 25 (.int .i64 0) (.int .i64 (n : Int))).run Try.prog w = .ok (.slice (some ⟨w.heap.size, 0, none⟩) 0 n) (w.alloc (.cells (madeCells (Value.agg #[.string ⟨#[]⟩, .int .u64 0, .int .i64 0, .string ⟨#[]⟩]).cells (n * 4)) 56)) := by
  obtain ⟨i0, hi, hz0, hz1, hz2⟩ := info_parts infoE
  have hr := run_make (P := Try.prog) w 25 56 i0 _ Try.underlying25 hi hz0 .i64 .i64 0 (n : Int) (by omega) (by omega) (by rw [hz2]; omega) (by omega)
  rw [hz1] at hr
  simpa using hr
theorem own_made (w : World) (n base : Nat) (hn : n ≤ 1048576) (hb : base ≤ w.heap.size) : OwnE (w.alloc (.cells (madeCells (Value.agg #[.string ⟨#[]⟩, .int .u64 0, .int .i64 0, .string ⟨#[]⟩]).cells (n * 4)) 56)) base (.slice (some ⟨w.heap.size, 0, none⟩) 0 n) [] := by
  refine ⟨rfl, .inr ⟨w.heap.size, n, _, rfl, hb, new_at _ _, Nat.zero_le _, by unfold maxLen; omega, by rw [size_madeCells], ?_⟩⟩
  simp [ecs]
/-- What the walk has collected: n0: the box of the memtable, n0 + 2: the box of the row. -/
structure Col (n0 g : Nat) (S : St) (w : World) (ys : List Nat) (W : World) : Prop where
  a : ∃ v, Boxed W (n0 + 2) 25 v ∧ OwnE W (n0 + 1) v (ents S ys)
  t : Boxed W n0 23 (.pointer (some ⟨g, 0, none⟩))
  b : Below n0 w W
  z : n0 + 5 ≤ W.heap.size
theorem Col.kept {n0 g : Nat} {S : St} {w : World} {ys : List Nat} {W W' : World} {row : Option Nat} (h : Col n0 g S w ys W) (K : W.grownBy W' row) (hr : ∀ k, row = some k → n0 + 5 ≤ k ∧ ∀ c t f, W.heap[k]? ≠ some (.cells c t f)) : Col n0 g S w ys W' := by
  obtain ⟨⟨va, a1, a2⟩, t, b, z⟩ := h
  have ne : ∀ q, q < n0 + 5 → some q ≠ row := fun q hq e => by have := (hr q e.symm).1; omega
  refine ⟨⟨va, a1.kept K (ne _ (by omega)), own_blocks a2 (fun j hj => K.block j (own_lt a2 j hj).2 (fun e => ?_))⟩, t.kept K (ne _ (by omega)), b.grown K (by omega) (fun k e => by have := (hr k e).1; omega), Nat.le_trans z K.size⟩
  obtain ⟨c, hc⟩ := Ae.own_blk a2 j hj
  exact (hr j e.symm).2 _ _ _ hc
theorem Col.later {n0 g : Nat} {S : St} {w : World} {ys : List Nat} {W W' : World} (h : Col n0 g S w ys W) (K : Below W.heap.size W W') : Col n0 g S w ys W' := h.kept (row := none) (grown_of K) (fun _ e => by cases e)
theorem boxed_ne {W : World} {b j : Nat} {t : TypeId} {v : Value} {base e size n : Nat} {u : Value} {xs : List Value} (h : Boxed W b t v) (o : W.ownsRow base e size u n xs) (hne : t ≠ e) (hj : u.ownBlock = some j) : b ≠ j := by
  obtain ⟨c, hc⟩ := Ae.own_blk o j hj
  exact Ae.blk_ne h hc (by intro e'; injection e' with e1 e2; exact hne e2)
def LEFT : Nat := 0
set_option maxRecDepth 100000 in
set_option maxHeartbeats 4000000 in
theorem entries_in (base g gl bl gs bm : Nat) (vt : Value) (P : Nat → Prop) (S : St) (w : World) (H : Tx w base g gl bl gs bm vt P S) :
    CallsIn Fence.wide 8 Try.prog 27 #[.pointer (some ⟨g, 0, none⟩)] w fun e w' => ∃ v, e = .returned v ∧ OwnE w' w.heap.size v (ents S S.ord) ∧ Below w.heap.size w w' := by
  refine callsIn_of_wp_marks Try.func27 rfl trivial ?_ rfl
  simp only [Try.ntmps27, List.size_toArray, List.length_cons, List.length_nil, Nat.reduceAdd, Nat.reduceSub, Array.replicate_succ, Array.replicate_zero, List.push_toArray, List.append_toArray, List.nil_append, List.cons_append]
  obtain ⟨n0, hn0⟩ : ∃ n0, n0 = w.heap.size := ⟨_, rfl⟩
  obtain ⟨L, hL⟩ : ∃ L, L = S.ns.length := ⟨_, rfl⟩
  obtain ⟨W1, hW1⟩ : ∃ W, W = w.alloc (.cells #[.pointer (some ⟨g, 0, none⟩)] 23) := ⟨_, rfl⟩
  obtain ⟨W2, hW2⟩ : ∃ W, W = W1.alloc (.cells (madeCells (Value.agg #[.string ⟨#[]⟩, .int .u64 0, .int .i64 0, .string ⟨#[]⟩]).cells (L * 4)) 56) := ⟨_, rfl⟩
  obtain ⟨W3, hW3⟩ : ∃ W, W = W2.alloc (.cells #[.slice (some ⟨n0 + 1, 0, none⟩) 0 L] 25) := ⟨_, rfl⟩
  have s1 : W1.heap.size = n0 + 1 := by rw [hW1, hn0]; simp
  have s2 : W2.heap.size = n0 + 2 := by rw [hW2, size_alloc, s1]
  have s3 : W3.heap.size = n0 + 3 := by rw [hW3, size_alloc, s2]
  have b1 : Below n0 w W1 := by rw [hW1, hn0]; exact box_below _ _
  have b12 : Below W1.heap.size W1 W2 := by rw [hW2]; exact box_below _ _
  have b23 : Below W2.heap.size W2 W3 := by rw [hW3]; exact box_below _ _
  have B2 : Below n0 w W2 := b1.trans (b12.mono (by omega))
  have B3 : Below n0 w W3 := B2.trans (b23.mono (by omega))
  have x1 : Boxed W1 n0 23 (.pointer (some ⟨g, 0, none⟩)) := by rw [hW1, hn0]; exact Boxed.new w _ _
  have x3 : Boxed W3 n0 23 (.pointer (some ⟨g, 0, none⟩)) := (b23.block _ (by omega)).trans ((b12.block _ (by omega)).trans x1)
  have o3 : OwnE W3 (n0 + 1) (.slice (some ⟨n0 + 1, 0, none⟩) 0 L) [] := by
    have := own_made W1 L (n0 + 1) (by rw [hL]; exact H.wf.cap) (by omega)
    rw [← hW2, s1] at this
    exact this.later b23
  have y3 : Boxed W3 (n0 + 2) 25 (.slice (some ⟨n0 + 1, 0, none⟩) 0 L) := by rw [hW3, ← s2]; exact Boxed.new _ _ _
  have HX : Hid (∀ W, Below n0 w W → Tx W base g gl bl gs bm vt P S) := fun W b => H.later (by rw [← hn0]; exact b)
  have hmk : ∀ w : World, (Instr.makeSlice 25 (.int .i64 0) (.int .i64 (L : Int))).run Try.prog w = .ok (.slice (some ⟨w.heap.size, 0, none⟩) 0 L) (w.alloc (.cells (madeCells (Value.agg #[.string ⟨#[]⟩, .int .u64 0, .int .i64 0, .string ⟨#[]⟩]).cells (L * 4)) 56)) := fun w => make_ents w L (by rw [hL]; exact H.wf.cap)
  have HN := hid (Tb.isnone_any g gl gs bm S W1 (HX.out W1 b1).c)
  have HLn : Hid (Calls Try.prog 67 #[.pointer (some ⟨gl, 0, none⟩)] W1 fun e w' => e = .returned (.int .i64 (L : Int)) ∧ w' = W1) := by
    obtain ⟨cap, tw, hl, _, _⟩ := (HX.out W1 b1).l
    rw [hL]
    exact len_any gl 1048576 _ bl S.ns.length cap W1 hl.hd (by omega) H.wf.cap
  have HA := allof_any base gl bl 1048576 S.ns S.ord W3 (HX.out W3 B3).l
  rw [s3, ← hL] at HA
  have c12 : W1.cell? ⟨g, 2, none⟩ = some (.pointer (some ⟨gl, 0, none⟩)) := (HX.out W1 b1).c.cell 2
  have c32 : W3.cell? ⟨g, 2, none⟩ = some (.pointer (some ⟨gl, 0, none⟩)) := (HX.out W3 B3).c.cell 2
  have c11 := x1.cell
  have c31 := x3.cell
  have hwf := H.wf
  have hbase : base ≤ n0 := by have := H.low g H.pg; omega
  replace HA := hid HA
  replace hW1 := hid hW1
  replace hW2 := hid hW2
  replace hW3 := hid hW3
  replace hwf := hid hwf
  have hW23 : Hid ((W1.alloc (.cells (madeCells (Value.agg #[.string ⟨#[]⟩, .int .u64 0, .int .i64 0, .string ⟨#[]⟩]).cells (L * 4)) 56)).alloc (.cells #[.slice (some ⟨n0 + 1, 0, none⟩) 0 L] 25) = W3) := by show _ = _; rw [← hW2.out, ← hW3.out]
  replace s1 := hid s1
  replace s2 := hid s2
  replace s3 := hid s3
  replace hn0 := hid hn0
  replace hL := hid hL
  replace B3 := hid B3
  replace o3 := hid o3
  replace y3 := hid y3
  replace x3 := hid x3
  clear b1 b12 b23 B2 x1 H
  gi_wp2_with fail
  rw [← hW1.out, ← hn0.out]
  refine ⟨trivial, (callsIn_wide.2 HN.out).mono ?_⟩
  rintro e w1 ⟨rfl, rfl⟩
  gi_wp2_with fail
  refine ⟨trivial, (callsIn_wide.2 HLn.out).mono ?_⟩
  rintro e w2 ⟨rfl, rfl⟩
  have e3 : W3 = (w2.alloc (.cells (madeCells #[.string ⟨#[]⟩, .int .u64 0, .int .i64 0, .string ⟨#[]⟩] (L * 4)) 56)).alloc (.cells #[.slice (some ⟨w2.heap.size, 0, none⟩) 0 L] 25) := by
    rw [s1.out]; exact hW23.out.symm
  have c31' := c31
  have c32' := c32
  rw [e3] at c31' c32'
  replace e3 := hid e3
  have s1' := s1.out
  replace c31 := hid c31
  replace c32 := hid c32
  replace s1' := hid s1'
  gi_wp2_with fail
  rw [← e3.out, s1'.out]
  refine ⟨trivial, (callsIn_wide.2 HA.out).mono ?_⟩
  rintro e W4 ⟨rfl, l4, m4, b4, s4⟩
  have s5 : W4.heap.size = n0 + 5 := by omega
  have B4 : Below n0 w W4 := B3.out.trans (b4.mono (by omega))
  have hC0 : Col n0 g S w [] W4 := ⟨⟨_, (b4.block _ (by have := s3.out; omega)).trans y3.out, o3.out.later (by rw [s3.out]; exact b4)⟩, (b4.block _ (by omega)).trans x3.out, B4, by omega⟩
  have G := hwf.out.gd
  have hlen : S.ord.length ≤ 1048576 := by have := G.len; have := hwf.out.cap; omega
  replace hC0 := hid hC0
  replace l4 := hid l4
  replace m4 := hid m4
  clear b4 s4 HA c31' c32' e3 hmk HN HLn
  gi_wp2_with fail
  refine range_q (F := Fence.wide) (n := 8) (encs S.ns) rfl (by omega) (gf := 90) (lb := #[.pointer (some ⟨n0 + 3, 0, none⟩), .pointer (some ⟨n0 + 3 + 1, 0, none⟩)]) rfl trivial (enters_of Try.func90 (by kernel_rfl) rfl) (fun _ => rfl)
    (fun ys W => Col n0 g S w ys W ∧ Boxed W (n0 + 3) 76 (.pointer (some ⟨gl, 0, none⟩)) ∧ Boxed W (n0 + 3 + 1) 3 (.int .i64 (L : Int))) (fun _ _ _ => False) (fun pre x => pre ++ [x] <+: S.ord) (Al.Kp n0 (n0 + 3) (n0 + 3 + 1)) (fun ys _ _ => ys = S.ord) (fun _ => True)
    (fun s W o h => ⟨h.1.later (box_below W o), h.2.1.alloc _, h.2.2.alloc _⟩) (fun s W W' k h g hk hc => ⟨h.1.kept g (fun q e => by cases e; exact ⟨by omega, hc⟩), h.2.1.kept g (by simp; omega), h.2.2.kept g (by simp; omega)⟩) (fun _ _ _ _ _ h => h.elim)
    (fun A B hA hb => ⟨hb.mono (by omega), hb.block _ (by omega), hb.block _ (by omega)⟩) (fun h k => ⟨h.1.trans k.1, k.2.1.trans h.2.1, k.2.2.trans h.2.2⟩)
    (fun W l o o' hl ho hc => ⟨belowK_b' (w := W4) (by omega) W l o o' hl ho, World.putObj_heap_other (by omega), World.putObj_heap_other (by omega)⟩)
    ⟨hC0.out, l4.out, m4.out⟩ ?seq
    (fun Y x a' W => a' = { tmps := #[.pointer (some ⟨g, 0, none⟩), .pointer (some ⟨n0, 0, none⟩), .slice none 0 0, .pointer (some ⟨n0 + 2, 0, none⟩), .int .i64 (x : Int), undef, undef, .pointer (some ⟨g, 0, none⟩), .bool false, .pointer (some ⟨g, 0, none⟩), .pointer (some ⟨g, 0, none⟩), .pointer (some ⟨g, 2, none⟩), .pointer (some ⟨gl, 0, none⟩), .int .i64 (L : Int), .slice (some ⟨n0 + 1, 0, none⟩) 0 L, .pointer (some ⟨g, 0, none⟩), .pointer (some ⟨g, 0, none⟩), .pointer (some ⟨g, 2, none⟩), .pointer (some ⟨gl, 0, none⟩), .func (.func 90) #[] #[.pointer (some ⟨n0 + 3, 0, none⟩), .pointer (some ⟨n0 + 3 + 1, 0, none⟩)], .int .i64 (x : Int), .agg #[.string (nd S.ns x).k, .int .u64 (nd S.ns x).s, .int .i64 (nd S.ns x).c], undef, undef, undef, undef, undef, undef, undef, undef, undef, undef, undef, undef, undef, undef], defers := [] })
    ?hAx ?assign ?body ?done ?stop
  case seq =>
    intro l J Jx W1 hB1 hY h0
    have hB1' : Below n0 w W1 := hC0.out.b.trans (hB1.mono (by omega))
    have hbm : Boxed W1 (n0 + 3 + 1) 3 (.int .i64 (S.ns.length : Int)) := by rw [← hL.out]; exact (hB1.block _ m4.out.lt).trans m4.out
    refine (all_in 7 (by omega) l (n0 + 3) (n0 + 3 + 1) n0 base gl bl 1048576 S.ns S.ord J Jx hbase hY W1 (fun W' h' => (HX.out W' (hB1'.trans h')).l) ((hB1.block _ l4.out.lt).trans l4.out) hbm h0 (by have := hB1.size; omega)).mono ?_
    rintro e W' ⟨hv, (⟨W0, h1, h2⟩ | ⟨pre, h1, h2⟩)⟩
    · exact ⟨hv, .inl ⟨S.ord, W0, h1, h2, rfl⟩⟩
    · exact ⟨hv, .inr ⟨pre, trivial, h2⟩⟩
  case hAx =>
    rintro Y x a' W W' q h hg hc
    exact h
  case assign =>
    intro l x W K hK
    simp only [encs]
    gi_wp2
    exact hK _ _ (Below.refl _ _) rfl
  case body =>
    rintro l pre x a' W0 WY W1 W2 hI h0Y h01 hfr h12 hl hlo hnc rfl
    have hC1 : Col n0 g S w pre W1 := hI.1.later h01
    have l1 : Boxed W1 (n0 + 3) 76 (.pointer (some ⟨gl, 0, none⟩)) := (h01.block _ hI.2.1.lt).trans hI.2.1
    have m1 : Boxed W1 (n0 + 3 + 1) 3 (.int .i64 (L : Int)) := (h01.block _ hI.2.2.lt).trans hI.2.2
    have hC2 : Col n0 g S w pre W2 := hC1.kept h12 (fun q e => by cases e; exact ⟨by omega, hnc⟩)
    have l2 := l1.kept h12 (by simp; omega)
    have m2 := m1.kept h12 (by simp; omega)
    have hpl : pre.length ≤ 1048576 := by
      have := hfr.length_le
      simp at this; omega
    have hxo : x ∈ S.ord := hfr.subset (by simp)
    have hxm := (G.mem x).1 hxo
    obtain ⟨hyok, xx, hxx⟩ := Gt.entN_ok hwf.out hxm.2
    obtain ⟨⟨y1, y2, y3', y4⟩, hy⟩ : ∃ e : E, e = entN S.ns x := ⟨_, rfl⟩
    have HE := entryof_any base gl bl S.ns S.ord (x : Int) x xx hxx (.inl ⟨rfl, hxm.2⟩) W2 (HX.out W2 hC2.b).l
    rw [← hy, show decide (x ≠ 0) = true by simp; omega] at HE
    unfold c4 at HE
    dsimp only at HE
    have c0 := hC2.t.cell
    have c2 : W2.cell? ⟨g, 2, none⟩ = some (.pointer (some ⟨gl, 0, none⟩)) := (HX.out W2 hC2.b).c.cell 2
    replace HE := hid HE
    replace hI := hid hI
    replace hC1 := hid hC1
    replace hC2 := hid hC2
    replace l2 := hid l2
    replace m2 := hid m2
    clear l1 m1 h01 h0Y h12 hnc hyok hxx
    gi_wp2_with fail
    refine ⟨trivial, (callsIn_wide.2 HE.out).mono ?_⟩
    rintro e W3 ⟨rfl, b3⟩
    obtain ⟨Wb, hWb⟩ : ∃ W, W = W3.alloc (.cells #[.string y1, .int .u64 y2, .int .i64 y3', .string y4] 56) := ⟨_, rfl⟩
    have b3b : Below W3.heap.size W3 Wb := by rw [hWb]; exact box_below _ _
    have b2b : Below W2.heap.size W2 Wb := b3.trans (b3b.mono b3.size)
    have hCb := hC2.out.later b2b
    have lb : Boxed Wb (n0 + 3) 76 (.pointer (some ⟨gl, 0, none⟩)) := (b2b.block _ l2.out.lt).trans l2.out
    have mb : Boxed Wb (n0 + 3 + 1) 3 (.int .i64 (L : Int)) := (b2b.block _ m2.out.lt).trans m2.out
    obtain ⟨⟨v, v1, v2⟩, tb, bb, zb⟩ := hCb
    have hel : (ents S pre).length = pre.length := by simp [ents]
    obtain ⟨v9, W9, r9, o9, g9, _⟩ := app_entry Wb (n0 + 1) v (ents S pre) ⟨y1, y2, y3', y4⟩ v2 (by omega) (by omega)
    clear hel
    dsimp only at r9
    obtain ⟨va, vc, rfl⟩ := Sa.row_block v2
    obtain ⟨va9, vc9, rfl⟩ := Sa.row_block o9
    have n9 : ∀ q t u, Boxed Wb q t u → t ≠ 56 → some q ≠ (Value.slice va (ents S pre).length vc).ownBlock := fun q t u hq hne e => boxed_ne hq v2 hne e.symm rfl
    have v9' : Boxed W9 (n0 + 2) 25 (.slice va (ents S pre).length vc) := v1.kept g9 (n9 _ _ _ v1 (by decide))
    have t9 := tb.kept g9 (n9 _ _ _ tb (by decide))
    have l9 := lb.kept g9 (n9 _ _ _ lb (by decide))
    have m9 := mb.kept g9 (n9 _ _ _ mb (by decide))
    have z9 := g9.size
    obtain ⟨WF, hWF⟩ : ∃ W, W = W9.setCell ⟨n0 + 2, 0, none⟩ (.slice va9 (ents S pre ++ [(⟨y1, y2, y3', y4⟩ : E)]).length vc9) := ⟨_, rfl⟩
    have BF : Below n0 W2 WF := by
      rw [hWF]
      refine ((b2b.mono (by have := hC2.out.z; omega)).grown g9 (by omega) (fun j hj => by have := (own_lt v2 j hj).1; omega)).setCell (p := ⟨n0 + 2, 0, none⟩) (by simp) _
    have e9 : ents S (pre ++ [x]) = ents S pre ++ [(⟨y1, y2, y3', y4⟩ : E)] := by rw [ents_snoc, ← hy]
    have hCF : Col n0 g S w (pre ++ [x]) WF := by
      refine ⟨⟨_, by rw [hWF]; exact v9'.set _, ?_⟩, by rw [hWF]; exact (set_ne _ _ _ _ _ (by omega)).trans t9, hC2.out.b.trans BF, by rw [hWF]; simp; omega⟩
      rw [e9, hWF]
      refine own_blocks o9 (fun j hj => set_ne _ _ _ _ _ (fun e => ?_))
      exact boxed_ne v9' o9 (by decide) hj e.symm
    have lF : Boxed WF (n0 + 3) 76 (.pointer (some ⟨gl, 0, none⟩)) := by rw [hWF]; exact (set_ne _ _ _ _ _ (by omega)).trans l9
    have mF : Boxed WF (n0 + 3 + 1) 3 (.int .i64 (L : Int)) := by rw [hWF]; exact (set_ne _ _ _ _ _ (by omega)).trans m9
    have KF : Al.Kp n0 (n0 + 3) (n0 + 3 + 1) W2 WF := ⟨BF, lF.trans l2.out.symm, mF.trans m2.out.symm⟩
    have kk : KeepsOthers W2 WF := by
      rw [hWF]
      refine ((Mt.keeps_grown (row := none) (grown_of b2b) (fun _ e => by cases e)).trans (Mt.keeps_grown g9 (fun q e => ?_))).trans (Mt.keeps_set v9')
      obtain ⟨c, hc⟩ := Ae.own_blk v2 q e
      exact ⟨c, _, _, hc⟩
    have c1 := v1.cell
    have c9 := v9'.cell
    have f9 := v9'.frozen
    rw [hWb] at c1 r9
    rw [size_alloc] at r9
    rw [hWF] at hCF lF mF KF kk
    generalize (ents S pre ++ [(⟨y1, y2, y3', y4⟩ : E)]).length = l9' at *
    generalize (ents S pre).length = lp at *
    replace r9 := hid r9
    replace hCF := hid hCF
    replace lF := hid lF
    replace mF := hid mF
    replace KF := hid KF
    replace kk := hid kk
    clear b3 b3b b2b lb mb v1 v2 tb bb zb o9 g9 n9 v9' t9 l9 m9 z9 BF e9 HE hWF
    gi_wp2_with (first | (gi_at_builtin; refine wpListIn_append_run rfl (.tmp 31) (.tmp 33) 25 25 rfl (.slice va lp vc) (.slice (some ⟨W3.heap.size + 1, 0, none⟩) 1 1) (.slice va9 l9' vc9) rfl rfl r9.out ?_))
    exact ⟨kk.out.from _, KF.out, hCF.out, lF.out, mF.out⟩
  case done =>
    rintro D l ys W0 W W' hD hI h0W rfl hWW hl hnc hDd
    have hC : Col n0 g S w S.ord W' := (hI.1.later h0W).kept hWW (fun q e => by cases e; exact ⟨by omega, hnc⟩)
    obtain ⟨⟨va, a1, a2⟩, _, hb, hz⟩ := hC
    have c1 := a1.cell
    obtain ⟨an, cn, rfl⟩ := Sa.row_block a2
    generalize (ents S S.ord).length = N at *
    replace hb := hid hb
    replace hDd := hid hDd
    replace a2 := hid a2
    clear hI h0W hWW hnc
    gi_wp2_with fail
    refine ⟨by simp, .inl ⟨_, _, rfl, run_takeDeferred hDd.out, ?_⟩⟩
    refine ⟨.slice an N cn, ?_, ⟨_, rfl, ?_, ?_⟩⟩
    · simp [results, Try.results27, go_sem]
    · exact own_base (ownsRow_putObj a2.out _ hDd.out rfl) (by rw [← hn0.out]; omega)
    · rw [← hn0.out]; exact hb.out.trans (belowK_b' (w := W4) (by omega) _ D _ _ hD hDd.out)
  case stop =>
    rintro D c pre W hD _ hx hDd
    exact hx.elim
theorem entries_any (base g : Nat) (P : Nat → Prop) (S : St) (w : World) (H : Tb.Tb w base g P S) :
    Calls Try.prog 27 #[.pointer (some ⟨g, 0, none⟩)] w fun e w' => ∃ v, e = .returned v ∧ OwnE w' w.heap.size v (ents S S.ord) ∧ Below w.heap.size w w' := by
  obtain ⟨gl, bl, gs, bm, vt, h⟩ := H
  exact callsIn_wide.1 (entries_in base g gl bl gs bm vt P S w h)
end Go.Proofs.Ytefihoohdaegeaa.Et

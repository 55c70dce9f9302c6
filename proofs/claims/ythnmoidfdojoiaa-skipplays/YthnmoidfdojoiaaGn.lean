/- All; what the law's walk goes through. -/
import Derived.Test.YthnmoidfdojoiaaAl
namespace Go.Proofs.Ythnmoidfdojoiaa.Gn
open Go.ChangeShapes Go.WideShapes Go.ChangeAt Go.RowKit Go.Shelf
open Go.Sort (grow)
open Go.Proofs.Ythnmoidfdojoiaa.Ik
open Go.Proofs.Ythnmoidfdojoiaa.Sg
open Go.Proofs.Ythnmoidfdojoiaa.Cm (ik)
open Go.Proofs.Ythnmoidfdojoiaa.Vl
open Go.Proofs.Ythnmoidfdojoiaa.Mm
open Go.Proofs.Ythnmoidfdojoiaa.Tr
open Go.Proofs.Ythnmoidfdojoiaa.Li
open Go.Proofs.Ythnmoidfdojoiaa.In
open Go.Proofs.Ythnmoidfdojoiaa.Oi
set_option linter.unusedVariables false
set_option linter.unusedSimpArgs false

open Go.Proofs.Ythnmoidfdojoiaa.Tl
open Go.Proofs.Ythnmoidfdojoiaa.Fi

open Go.Proofs.Ythnmoidfdojoiaa.Pu

open Go.Proofs.Ythnmoidfdojoiaa.Ge
open Go.Proofs.Ythnmoidfdojoiaa.Al
attribute [local go_sem] Oper.semAt_some


set_option maxHeartbeats 1000000 in
theorem allof_any (base g b most : Nat) (ns : List N) (ord : List Nat) (w : World) (H : SL w base g b most ns ord) :
    Calls Try.prog 19 #[.pointer (some ⟨g, 0, none⟩)] w fun e w' => e = .returned (.func (.func 72) #[] #[.pointer (some ⟨w.heap.size, 0, none⟩), .pointer (some ⟨w.heap.size + 1, 0, none⟩)]) ∧ Boxed w' w.heap.size 46 (.pointer (some ⟨g, 0, none⟩)) ∧ Boxed w' (w.heap.size + 1) 3 (.int .i64 (ns.length : Int)) ∧ Below w.heap.size w w' ∧ w'.heap.size = w.heap.size + 2 := by
  have B0 := box_below w (.cells #[.pointer (some ⟨g, 0, none⟩)] 46)
  obtain ⟨cap, tw, HL, G, L⟩ := H.later B0
  have HLen := hid (len_any g most (top ns) b ns.length cap _ HL.hd HL.m1 (by have := HL.ln; have := HL.m2; omega))
  have hmf : ∀ (fn : Fn) (first cap : Array Value) (w : World), (Instr.makeFunc fn first cap).run Try.prog w = .ok (.func fn first cap) w := fun _ _ _ _ => rfl
  obtain ⟨W1, hW1⟩ : ∃ W1, W1 = w.alloc (.cells #[.pointer (some ⟨g, 0, none⟩)] 46) := ⟨_, rfl⟩
  have b1 : Boxed W1 w.heap.size 46 (.pointer (some ⟨g, 0, none⟩)) := by rw [hW1]; exact Boxed.new _ _ _
  have s1 : W1.heap.size = w.heap.size + 1 := by rw [hW1]; exact size_alloc _ _
  have FIN : Hid (Boxed (W1.alloc (.cells #[.int .i64 (ns.length : Int)] 3)) w.heap.size 46 (.pointer (some ⟨g, 0, none⟩)) ∧ Boxed (W1.alloc (.cells #[.int .i64 (ns.length : Int)] 3)) (w.heap.size + 1) 3 (.int .i64 (ns.length : Int)) ∧ Below w.heap.size w (W1.alloc (.cells #[.int .i64 (ns.length : Int)] 3)) ∧ (W1.alloc (.cells #[.int .i64 (ns.length : Int)] 3)).heap.size = w.heap.size + 2) := by
    refine ⟨b1.alloc _, ?_, ?_, ?_⟩
    · rw [← s1]; exact Boxed.new _ _ _
    · exact ((by rw [hW1]; exact B0 : Below w.heap.size w W1)).alloc (by omega) _
    · rw [size_alloc, s1]
  rw [hW1] at FIN
  clear HL G L B0 hW1 b1 s1
  go_enter Try.func19, Try.ntmps19
  go_wp2_with fail
  refine HLen.out.mono ?_
  rintro e w' ⟨rfl, rfl⟩
  go_wp2_with fail
  go_ret
  exact ⟨rfl, FIN.out⟩
set_option maxRecDepth 100000 in
theorem nil_no (fn : Fn) (u v : Array Value) (w : World) : Sem.run Try.prog (binOp .eql 53 (.func fn u v) .nilFunc) w = .ok (.bool false) w := by
  rfl
/-- A row of keys of the call's own. -/
def kcs (ns : List N) (l : List Nat) : List Value := l.flatMap fun n => [.string (nd ns n).k, .int .u64 (nd ns n).s, .int .i64 (nd ns n).c]
def OwnK (w : World) (base : Nat) (v : Value) (ns : List N) (l : List Nat) : Prop := w.ownsRow base 36 3 v l.length (kcs ns l)
theorem kcs_append (ns : List N) (l : List Nat) (n : Nat) : kcs ns (l ++ [n]) = kcs ns l ++ [.string (nd ns n).k, .int .u64 (nd ns n).s, .int .i64 (nd ns n).c] := by simp [kcs]
theorem infoK : (Try.prog.info? 36).map (fun i => (i.zero, i.size, i.bytes)) = some (some (.agg #[.string ⟨#[]⟩, .int .u64 0, .int .i64 0]), 3, 32) := by kernel_rfl
/-- One key put behind a row of them. -/
theorem app_key (w : World) (base : Nat) (v : Value) (ns : List N) (l : List Nat) (n : Nat) (H : OwnK w base v ns l) (hn : (l.length + 1) * 32 ≤ 140737488355328) (hbase : base ≤ w.heap.size) :
    ∃ v' w', (Builtin.append_ #[66, 66] 66 #[v, .slice (some ⟨w.heap.size, 0, none⟩) 1 1]).run Try.prog (w.alloc (.cells #[.string (nd ns n).k, .int .u64 (nd ns n).s, .int .i64 (nd ns n).c] 36)) = .ok v' w' ∧ OwnK w' base v' ns (l ++ [n]) ∧ w.grownBy w' v.ownBlock := by
  obtain ⟨i0, hi, hz0, hz1, hz2⟩ := info_parts infoK
  have b1 := box_below w (.cells #[.string (nd ns n).k, .int .u64 (nd ns n).s, .int .i64 (nd ns n).c] 36)
  have H2 := row_later H b1
  have n4 := new_at w (.cells #[.string (nd ns n).k, .int .u64 (nd ns n).s, .int .i64 (nd ns n).c] 36)
  obtain ⟨v5, W5, r5, o5, g5, _⟩ := run_append_own (P := Try.prog) (w.alloc (.cells #[.string (nd ns n).k, .int .u64 (nd ns n).s, .int .i64 (nd ns n).c] 36)) base 66 66 36 i0 _ 3 32 Try.underlying66 hi hz0 hz1 hz2 rfl (by decide) v l.length _ H2 ⟨w.heap.size, 0, none⟩ 1 1 [.string (nd ns n).k, .int .u64 (nd ns n).s, .int .i64 (nd ns n).c] rfl (by
    intro q u hq
    rw [show (⟨w.heap.size, 0, none⟩ : Addr).add q = ⟨w.heap.size, q, none⟩ by unfold Addr.add; split <;> simp_all]
    exact cell_of n4 q u (by simpa using hq)) (by intro u hu; simp at hu; rcases hu with rfl | rfl | rfl <;> rfl) (by unfold maxLen; omega) (by omega) (by rw [size_alloc]; omega)
  refine ⟨v5, W5, r5, ?_, ?_⟩
  · unfold OwnK
    rw [List.length_append, kcs_append]
    exact o5
  · exact ⟨g5.os.trans b1.os, g5.tape.trans b1.tape, g5.output.trans b1.output, Nat.le_trans b1.size g5.size, fun k hk hne => (g5.block k (Nat.lt_of_lt_of_le hk b1.size) hne).trans (b1.block k hk)⟩
/-- What the walk has collected. -/
structure Col (n0 g : Nat) (ns : List N) (w : World) (ys : List Nat) (W : World) : Prop where
  a : ∃ v, Boxed W (n0 + 1) 28 v ∧ OwnZ W (n0 + 5) v (zi ys)
  k : ∃ v, Boxed W (n0 + 1 + 1) 66 v ∧ OwnK W (n0 + 5) v ns ys
  m : Boxed W n0 3 (.int .i64 (-1))
  bl : Boxed W (n0 + 3) 46 (.pointer (some ⟨g, 0, none⟩))
  bm : Boxed W (n0 + 3 + 1) 3 (.int .i64 (ns.length : Int))
  b : Below n0 w W
  z : n0 + 5 ≤ W.heap.size
theorem row_grown {w w' : World} {base e size : Nat} {v : Value} {n : Nat} {xs : List Value} {row : Option Nat} (h : w.ownsRow base e size v n xs) (g : w.grownBy w' row) (hne : ∀ k, row = some k → ∀ c f, w.heap[k]? ≠ some (.cells c e f)) : w'.ownsRow base e size v n xs := by
  by_cases hv : v.ownBlock = none
  · exact World.ownsRow.kept h g (.inl hv)
  · refine World.ownsRow.kept h g (.inr ?_)
    intro hr
    cases hb : v.ownBlock with
    | none => exact hv hb
    | some k =>
      obtain ⟨c', f', h3⟩ := row_blk h k hb
      exact hne k (by rw [← hr, hb]) _ _ h3
theorem Col.kept {n0 g : Nat} {ns : List N} {w : World} {ys : List Nat} {W W' : World} {row : Option Nat} (h : Col n0 g ns w ys W) (K : W.grownBy W' row) (hr : ∀ k, row = some k → n0 + 5 ≤ k ∧ ∀ c t f, W.heap[k]? ≠ some (.cells c t f)) : Col n0 g ns w ys W' := by
  obtain ⟨⟨va, a1, a2⟩, ⟨vk, k1, k2⟩, m, bl, bm, b, z⟩ := h
  have ne : ∀ q, q < n0 + 5 → some q ≠ row := fun q hq e => by have := (hr q e.symm).1; omega
  exact ⟨⟨va, a1.kept K (ne _ (by omega)), row_grown a2 K (fun k e c f => (hr k e).2 c _ f)⟩, ⟨vk, k1.kept K (ne _ (by omega)), row_grown k2 K (fun k e c f => (hr k e).2 c _ f)⟩, m.kept K (ne _ (by omega)), bl.kept K (ne _ (by omega)), bm.kept K (ne _ (by omega)), b.grown K (by omega) (fun k e => by have := (hr k e).1; omega), Nat.le_trans z K.size⟩
theorem Col.later {n0 g : Nat} {ns : List N} {w : World} {ys : List Nat} {W W' : World} (h : Col n0 g ns w ys W) (K : Below W.heap.size W W') : Col n0 g ns w ys W' := h.kept (row := none) (grown_of K) (fun _ e => by cases e)
theorem keeps_grown {W W' : World} {row : Option Nat} (K : W.grownBy W' row) (hr : ∀ k, row = some k → ∃ c t f, W.heap[k]? = some (.cells c t f)) : KeepsOthers W W' :=
  ⟨K.size, fun k o hk ho => (K.block k (blk_lt hk) (fun e => by
    obtain ⟨c, t, f, h⟩ := hr k e.symm
    rw [hk] at h; cases h; cases ho)).trans hk⟩
theorem keeps_set {W : World} {q i : Nat} {u : Value} {c : Array Value} {t : TypeId} (h : W.heap[q]? = some (.cells c t)) : KeepsOthers W (W.setCell ⟨q, i, none⟩ u) :=
  ⟨by simp, fun k o hk ho => (set_ne W q k i u (by rintro rfl; rw [hk] at h; cases h; cases ho)).trans hk⟩
/-- A number and its key more. -/
theorem Col.more {n0 g : Nat} {ns : List N} {w : World} {ys : List Nat} {W : World} (h : Col n0 g ns w ys W) (x Bo : Nat) (hk : Bx W Bo (nd ns x).k (nd ns x).s (nd ns x).c) (hn : ys.length ≤ 1048576) :
    ∃ vn w1 av cv vk w2 v2, Boxed W (n0 + 1) 28 vn ∧ (Builtin.append_ #[28, 28] 28 #[vn, .slice (some ⟨W.heap.size, 0, none⟩) 1 1]).run Try.prog (W.alloc (.cells #[.int .i64 (x : Int)] 3)) = .ok (.slice av (ys.length + 1) cv) w1 ∧ Boxed w1 (n0 + 1) 28 vn ∧
      Boxed (w1.setCell ⟨n0 + 1, 0, none⟩ (.slice av (ys.length + 1) cv)) (n0 + 1 + 1) 66 vk ∧ Bx (w1.setCell ⟨n0 + 1, 0, none⟩ (.slice av (ys.length + 1) cv)) Bo (nd ns x).k (nd ns x).s (nd ns x).c ∧
      (Builtin.append_ #[66, 66] 66 #[vk, .slice (some ⟨w1.heap.size, 0, none⟩) 1 1]).run Try.prog ((w1.setCell ⟨n0 + 1, 0, none⟩ (.slice av (ys.length + 1) cv)).alloc (.cells #[.string (nd ns x).k, .int .u64 (nd ns x).s, .int .i64 (nd ns x).c] 36)) = .ok v2 w2 ∧ Boxed w2 (n0 + 1 + 1) 66 vk ∧
      Boxed (w2.setCell ⟨n0 + 1 + 1, 0, none⟩ v2) (n0 + 1) 28 (.slice av (ys.length + 1) cv) ∧ Boxed (w2.setCell ⟨n0 + 1 + 1, 0, none⟩ v2) n0 3 (.int .i64 (-1)) ∧ Col n0 g ns w (ys ++ [x]) (w2.setCell ⟨n0 + 1 + 1, 0, none⟩ v2) ∧ KeepsOthers W (w2.setCell ⟨n0 + 1 + 1, 0, none⟩ v2) ∧ Al.Kp n0 (n0 + 3) (n0 + 3 + 1) W (w2.setCell ⟨n0 + 1 + 1, 0, none⟩ v2) ∧ (∃ an cn, vn = .slice an ys.length cn) ∧ (∃ ak ck, vk = .slice ak ys.length ck) ∧ (∃ a2 c2, v2 = .slice a2 (ys.length + 1) c2) := by
  obtain ⟨⟨vn, a1, a2⟩, ⟨vk, k1, k2⟩, m, bl, bm, b, z⟩ := h
  obtain ⟨v1, w1, r1, o1, g1⟩ := app_int W (n0 + 5) vn (zi ys) (x : Int) a2 (by rw [zi_len]; omega) z
  obtain ⟨av, cv', hv1, _⟩ := o1.shape
  have hl1 : (zi ys ++ [(x : Int)]).length = ys.length + 1 := by simp [zi]
  rw [hl1] at hv1
  subst hv1
  have ne1 : ∀ q, q < n0 + 5 → some q ≠ vn.ownBlock := fun q hq e => by have := (World.ownsRow.lt a2 q e.symm).1; omega
  have a1' := a1.kept g1 (ne1 _ (by omega))
  have k1' := k1.kept g1 (ne1 _ (by omega))
  have m' := m.kept g1 (ne1 _ (by omega))
  have bl' := bl.kept g1 (ne1 _ (by omega))
  have bm' := bm.kept g1 (ne1 _ (by omega))
  have k2' : OwnK w1 (n0 + 5) vk ns ys := row_grown k2 g1 (fun q e c f hh => by obtain ⟨c', f', h3⟩ := row_blk a2 q e; rw [h3] at hh; simp at hh)
  have hk' : Bx w1 Bo (nd ns x).k (nd ns x).s (nd ns x).c := (g1.block Bo (blk_lt hk) (fun e => by obtain ⟨c', f', h3⟩ := row_blk a2 Bo e.symm; rw [show W.heap[Bo]? = _ from hk] at h3; simp at h3)).trans hk
  have hBo : Bo ≠ n0 + 1 := by rintro rfl; unfold Boxed at a1; rw [show W.heap[n0 + 1]? = _ from hk] at a1; simp at a1
  have z1 : n0 + 5 ≤ w1.heap.size := Nat.le_trans z g1.size
  obtain ⟨W10, hW10⟩ : ∃ W10, W10 = w1.setCell ⟨n0 + 1, 0, none⟩ (.slice av (ys.length + 1) cv') := ⟨_, rfl⟩
  have a10 : Boxed W10 (n0 + 1) 28 (.slice av (ys.length + 1) cv') := by rw [hW10]; unfold Boxed; rw [set_of a1']; rfl
  have k10 : Boxed W10 (n0 + 1 + 1) 66 vk := by rw [hW10]; exact (set_ne _ _ _ _ _ (by omega)).trans k1'
  have m10 : Boxed W10 n0 3 (.int .i64 (-1)) := by rw [hW10]; exact (set_ne _ _ _ _ _ (by omega)).trans m'
  have bl10 : Boxed W10 (n0 + 3) 46 (.pointer (some ⟨g, 0, none⟩)) := by rw [hW10]; exact (set_ne _ _ _ _ _ (by omega)).trans bl'
  have bm10 : Boxed W10 (n0 + 3 + 1) 3 (.int .i64 (ns.length : Int)) := by rw [hW10]; exact (set_ne _ _ _ _ _ (by omega)).trans bm'
  have gs : w1.grownBy W10 (some (n0 + 1)) := by rw [hW10]; exact ⟨rfl, rfl, rfl, by simp, fun q _ hne => set_ne _ _ _ _ _ (fun e => hne (by rw [e]))⟩
  have o10 : OwnZ W10 (n0 + 5) (.slice av (ys.length + 1) cv') (zi ys ++ [(x : Int)]) := by
    have : (some (n0 + 1) : Option Nat) ≠ (Value.slice av (ys.length + 1) cv').ownBlock := fun e => by have := (World.ownsRow.lt o1 _ e.symm).1; omega
    exact OwnZ.kept o1 gs (.inr this)
  have kk10 : OwnK W10 (n0 + 5) vk ns ys := row_grown k2' gs (fun q e c f hh => by cases e; rw [show w1.heap[n0 + 1]? = _ from a1'] at hh; simp at hh)
  have x10 : Bx W10 Bo (nd ns x).k (nd ns x).s (nd ns x).c := by rw [hW10]; exact Bx.apart hk' hBo
  have z10 : n0 + 5 ≤ W10.heap.size := Nat.le_trans z1 gs.size
  obtain ⟨v2, w2, r2, o2, g2⟩ := app_key W10 (n0 + 5) vk ns ys x kk10 (by omega) z10
  have ne2 : ∀ q, q < n0 + 5 → some q ≠ vk.ownBlock := fun q hq e => by have := (World.ownsRow.lt kk10 q e.symm).1; omega
  have a11 := a10.kept g2 (ne2 _ (by omega))
  have k11 := k10.kept g2 (ne2 _ (by omega))
  have m11 := m10.kept g2 (ne2 _ (by omega))
  have bl11 := bl10.kept g2 (ne2 _ (by omega))
  have bm11 := bm10.kept g2 (ne2 _ (by omega))
  have o11 : OwnZ w2 (n0 + 5) (.slice av (ys.length + 1) cv') (zi ys ++ [(x : Int)]) := row_grown o10 g2 (fun q e c f hh => by obtain ⟨c', f', h3⟩ := row_blk kk10 q e; rw [h3] at hh; simp at hh)
  obtain ⟨W12, hW12⟩ : ∃ W12, W12 = w2.setCell ⟨n0 + 1 + 1, 0, none⟩ v2 := ⟨_, rfl⟩
  have gs2 : w2.grownBy W12 (some (n0 + 1 + 1)) := by rw [hW12]; exact ⟨rfl, rfl, rfl, by simp, fun q _ hne => set_ne _ _ _ _ _ (fun e => hne (by rw [e]))⟩
  have a12 : Boxed W12 (n0 + 1) 28 (.slice av (ys.length + 1) cv') := by rw [hW12]; exact (set_ne _ _ _ _ _ (by omega)).trans a11
  have k12 : Boxed W12 (n0 + 1 + 1) 66 v2 := by rw [hW12]; unfold Boxed; rw [set_of k11]; rfl
  have m12 : Boxed W12 n0 3 (.int .i64 (-1)) := by rw [hW12]; exact (set_ne _ _ _ _ _ (by omega)).trans m11
  have bl12 : Boxed W12 (n0 + 3) 46 (.pointer (some ⟨g, 0, none⟩)) := by rw [hW12]; exact (set_ne _ _ _ _ _ (by omega)).trans bl11
  have bm12 : Boxed W12 (n0 + 3 + 1) 3 (.int .i64 (ns.length : Int)) := by rw [hW12]; exact (set_ne _ _ _ _ _ (by omega)).trans bm11
  have o12 : OwnZ W12 (n0 + 5) (.slice av (ys.length + 1) cv') (zi ys ++ [(x : Int)]) := row_grown o11 gs2 (fun q e c f hh => by cases e; rw [show w2.heap[n0 + 1 + 1]? = _ from k11] at hh; simp at hh)
  have kk12 : OwnK W12 (n0 + 5) v2 ns (ys ++ [x]) := row_grown o2 gs2 (fun q e c f hh => by cases e; rw [show w2.heap[n0 + 1 + 1]? = _ from k11] at hh; simp at hh)
  have B12 : Below n0 W W12 := (((Below.refl n0 W).grown g1 (by omega) (fun q e => by have := (World.ownsRow.lt a2 q e).1; omega)).grown gs (by omega) (fun q e => by cases e; omega)).grown g2 (by omega) (fun q e => by have := (World.ownsRow.lt kk10 q e).1; omega) |>.grown gs2 (by have := g2.size; omega) (fun q e => by cases e; omega)
  have kp : KeepsOthers W W12 := ((keeps_grown g1 (fun q e => by obtain ⟨c, f, h⟩ := row_blk a2 q e; exact ⟨c, _, f, h⟩)).trans (by rw [hW10]; exact keeps_set a1')).trans ((keeps_grown g2 (fun q e => by obtain ⟨c, f, h⟩ := row_blk kk10 q e; exact ⟨c, _, f, h⟩)).trans (by rw [hW12]; exact keeps_set k11))
  have z12 : n0 + 5 ≤ W12.heap.size := Nat.le_trans z10 (Nat.le_trans g2.size gs2.size)
  have o12' : OwnZ W12 (n0 + 5) (.slice av (ys.length + 1) cv') (zi (ys ++ [x])) := by rw [zi_append]; exact o12
  have sh1 : ∃ an cn, vn = .slice an ys.length cn := by
    obtain ⟨an, cn, h, _⟩ := a2.shape
    exact ⟨an, cn, by rw [h, zi_len]⟩
  have sh2 : ∃ ak ck, vk = .slice ak ys.length ck := by
    obtain ⟨ak, ck, h, _⟩ := row_shape k2
    exact ⟨ak, ck, h⟩
  have sh3 : ∃ a2 c2, v2 = .slice a2 (ys.length + 1) c2 := by
    obtain ⟨ak, ck, h, _⟩ := row_shape o2
    exact ⟨ak, ck, by rw [h]; simp⟩
  refine ⟨vn, w1, av, cv', vk, w2, v2, a1, r1, a1', ?_, ?_, ?_, k11, ?_, ?_, ?_, ?_, ?_, sh1, sh2, sh3⟩
  · rw [← hW10]; exact k10
  · rw [← hW10]; exact x10
  · rw [← hW10]
    have hs10 : W10.heap.size = w1.heap.size := by rw [hW10]; simp
    rw [hs10] at r2
    exact r2
  · rw [← hW12]; exact a12
  · rw [← hW12]; exact m12
  · rw [← hW12]; exact ⟨⟨_, a12, o12'⟩, ⟨_, k12, kk12⟩, m12, bl12, bm12, b.trans B12, z12⟩
  · rw [← hW12]; exact kp
  · rw [← hW12]; exact ⟨B12, by rw [show W.heap[n0 + 3]? = _ from bl]; exact bl12, by rw [show W.heap[n0 + 3 + 1]? = _ from bm]; exact bm12⟩
theorem wpListIn_append_run {F : Fence} {n : Nat} {P : Program} {w w' : World} {ops : Array Oper} {rest : List Oper} {o : Oper} {a : Act} {Q : Exit → Act → World → Prop} (hg : o.guard = none) (s x : Operand) (t tx : TypeId) (hop : o.op = Op.call { callee := Callee.builtin Builtin.append, args := #[s, x], argTypes := #[t, tx] })
    (u v v' : Value) (hs : a.eval s = u) (hx : a.eval x = v) (hrun : (Builtin.append_ #[t, tx] o.type #[u, v]).run P w = .ok v' w') (hK : wpListIn F n P ops Q rest (a.put o.dst v') w') : wpListIn F n P ops Q (o :: rest) a w := by
  refine wpListIn_plain hg fun K hK' => ?_
  unfold Oper.wpIn
  refine ⟨?_, ?_⟩
  · simp [Oper.about, hop, resolve, Target.leads, Sem.run_pure]
  · rw [Oper.semAt_plain F _ _ (by rw [hop]; intro c hc'; cases hc')]
    simp [execOp, hop, resolve, invoke, builtin, hs, hx, hrun, Result.andThen]
    exact hK' _ _ hK
theorem own_base {w : World} {base base' e size : Nat} {v : Value} {n : Nat} {xs : List Value} (h : w.ownsRow base e size v n xs) (hb : base' ≤ base) : w.ownsRow base' e size v n xs := by
  refine ⟨h.1, ?_⟩
  rcases h.2 with h | ⟨g, c, cur, h1, h2, h3⟩
  · exact .inl h
  · exact .inr ⟨g, c, cur, h1, Nat.le_trans hb h2, h3⟩
theorem belowK_b' {n₀ : Nat} {w : World} (hn : n₀ ≤ w.heap.size) (W : World) (l : Nat) (o o' : Obj) (hl : w.heap.size ≤ l) (h : W.heap[l]? = some o) : Below n₀ W (W.putObj l o') :=
  (Below.refl n₀ W).grown (grownBy_putObj' W l o') (by have := (Array.getElem?_eq_some_iff.1 h).1; omega) (fun k e => by cases e; omega)
set_option maxRecDepth 100000 in
set_option maxHeartbeats 4000000 in
theorem gone_in (base g b most : Nat) (ns : List N) (ord : List Nat) (w : World) (H : SL w base g b most ns ord) :
    CallsIn Fence.wide 8 Try.prog 22 #[.pointer (some ⟨g, 0, none⟩), .int .i64 (-1)] w fun e w' => ∃ vn vk, e = .returned (.tuple #[vn, vk]) ∧ OwnZ w' w.heap.size vn (zi ord) ∧ OwnK w' w.heap.size vk ns ord ∧ Below w.heap.size w w' := by
  refine callsIn_of_wp_marks Try.func22 rfl trivial ?_ rfl
  simp only [Try.ntmps22, List.size_toArray, List.length_cons, List.length_nil, Nat.reduceAdd, Nat.reduceSub, Array.replicate_succ, Array.replicate_zero, List.push_toArray, List.append_toArray, List.nil_append, List.cons_append]
  obtain ⟨W3, hW3⟩ : ∃ W, W = ((w.alloc (.cells #[.int .i64 (-1)] 3)).alloc (.cells #[.slice none 0 0] 28)).alloc (.cells #[.slice none 0 0] 66) := ⟨_, rfl⟩
  obtain ⟨n0, hn0⟩ : ∃ n0, n0 = w.heap.size := ⟨_, rfl⟩
  have s3 : W3.heap.size = n0 + 3 := by rw [hW3, hn0]; simp
  have B3 : Below w.heap.size w W3 := by rw [hW3]; exact ((box_below w _).alloc (by simp) _).alloc (by simp; omega) _
  have x0 : Boxed W3 n0 3 (.int .i64 (-1)) := by rw [hW3, hn0]; exact ((Boxed.new w _ _).alloc _).alloc _
  have x1 : Boxed W3 (n0 + 1) 28 (.slice none 0 0) := by
    rw [hW3, hn0]
    have := (Boxed.new (w.alloc (.cells #[.int .i64 (-1)] 3)) 28 (.slice none 0 0)).alloc (.cells #[.slice none 0 0] 66)
    simpa using this
  have x2 : Boxed W3 (n0 + 1 + 1) 66 (.slice none 0 0) := by
    rw [hW3, hn0]
    have := Boxed.new ((w.alloc (.cells #[.int .i64 (-1)] 3)).alloc (.cells #[.slice none 0 0] 28)) 66 (.slice none 0 0)
    simpa using this
  have HA := allof_any base g b most ns ord W3 (H.later B3)
  rw [s3] at HA
  replace HA := hid HA
  replace hW3 := hid hW3
  have G : Hid (Gd ns ord) := by obtain ⟨_, _, _, G, _⟩ := H; exact G
  have hlen : ord.length ≤ 1048576 := by obtain ⟨_, _, h, G, _⟩ := H; have := G.len; have := h.ln; have := h.m2; omega
  have hbase : base ≤ n0 := by obtain ⟨_, _, h, _, _⟩ := H; have := h.bg; have := h.hd.lt; omega
  replace H := hid H
  gi_wp2_with fail
  rw [← hW3.out]
  refine ⟨trivial, (callsIn_wide.2 HA.out).mono ?_⟩
  rintro e W4 ⟨rfl, l4, m4, b4, s4⟩
  have hnf : ∀ (fn : Fn) (u v : Array Value) (w : World), Sem.run Try.prog (binOp .eql 53 (.func fn u v) .nilFunc) w = .ok (.bool false) w := fun fn u v w => nil_no fn u v w
  have hC0 : Col n0 g ns w [] W4 := ⟨⟨_, (b4.block _ (by omega)).trans x1, OwnZ.nil _ _⟩, ⟨_, (b4.block _ (by omega)).trans x2, World.ownsRow_nil _ _ _ _⟩, (b4.block _ (by omega)).trans x0, l4, m4, by rw [hn0]; exact B3.trans (b4.mono (by rw [← hn0]; omega)), by omega⟩
  have hS : ∀ W', Below n0 w W' → SL W' base g b most ns ord := fun W' h' => H.out.later (by rw [← hn0]; exact h')
  have s5 : W4.heap.size = n0 + 5 := by omega
  replace hS := hid hS
  replace hC0 := hid hC0
  replace hn0 := hid hn0
  clear l4 m4 b4 s4 x0 x1 x2 s3 B3 HA
  gi_wp2_with fail
  rw [← hn0.out]
  refine range_q (F := Fence.wide) (n := 8) (encs ns) rfl (by omega) (gf := 72) (lb := #[.pointer (some ⟨n0 + 3, 0, none⟩), .pointer (some ⟨n0 + 3 + 1, 0, none⟩)]) rfl trivial (enters_of Try.func72 (by kernel_rfl) rfl) (fun _ => rfl)
    (fun ys W => Col n0 g ns w ys W) (fun _ _ _ => False) (fun pre x => pre ++ [x] <+: ord) (Al.Kp n0 (n0 + 3) (n0 + 3 + 1)) (fun ys _ _ => ys = ord) (fun _ => True)
    (fun s W o h => h.later (box_below W o)) (fun s W W' k h g hk hc => h.kept g (fun q e => by cases e; exact ⟨by omega, hc⟩)) (fun _ _ _ _ _ h => h.elim)
    (fun A B hA hb => ⟨hb.mono (by omega), hb.block _ (by omega), hb.block _ (by omega)⟩) (fun h k => ⟨h.1.trans k.1, k.2.1.trans h.2.1, k.2.2.trans h.2.2⟩)
    (fun W l o o' hl ho hc => ⟨belowK_b' (w := W4) (by omega) W l o o' hl ho, World.putObj_heap_other (by omega), World.putObj_heap_other (by omega)⟩)
    hC0.out ?seq
    (fun x a' W => ∃ Bo, Bx W Bo (nd ns x).k (nd ns x).s (nd ns x).c ∧ a' = { tmps := #[.pointer (some ⟨g, 0, none⟩), .int .i64 (-1), undef, .pointer (some ⟨n0, 0, none⟩), .slice none 0 0, .slice none 0 0, .pointer (some ⟨n0 + 1, 0, none⟩), .pointer (some ⟨n0 + 1 + 1, 0, none⟩), .func (.func 72) #[] #[.pointer (some ⟨n0 + 3, 0, none⟩), .pointer (some ⟨n0 + 3 + 1, 0, none⟩)], .int .i64 (x : Int), .pointer (some ⟨Bo, 0, none⟩), .pointer (some ⟨g, 0, none⟩), .func (.func 72) #[] #[.pointer (some ⟨n0 + 3, 0, none⟩), .pointer (some ⟨n0 + 3 + 1, 0, none⟩)], .func (.func 72) #[] #[.pointer (some ⟨n0 + 3, 0, none⟩), .pointer (some ⟨n0 + 3 + 1, 0, none⟩)], .bool false, undef, .func (.func 72) #[] #[.pointer (some ⟨n0 + 3, 0, none⟩), .pointer (some ⟨n0 + 3 + 1, 0, none⟩)], .int .i64 (x : Int), .agg #[.string (nd ns x).k, .int .u64 (nd ns x).s, .int .i64 (nd ns x).c], undef, undef, undef, undef, undef, undef, undef, undef, undef, undef, undef, undef, undef, undef], defers := [] })
    ?hAx ?assign ?body ?done ?stop
  case seq =>
    intro l J Jx W1 hB1 hY h0
    have hB1' : Below n0 w W1 := hC0.out.b.trans (hB1.mono (by omega))
    refine (all_in 7 (by omega) l (n0 + 3) (n0 + 3 + 1) n0 base g b most ns ord J Jx hbase hY W1 (fun W' h' => hS.out W' (hB1'.trans h')) ((hB1.block _ hC0.out.bl.lt).trans hC0.out.bl) ((hB1.block _ hC0.out.bm.lt).trans hC0.out.bm) h0 (by have := hB1.size; omega)).mono ?_
    rintro e W' ⟨hv, (⟨W0, h1, h2⟩ | ⟨pre, h1, h2⟩)⟩
    · exact ⟨hv, .inl ⟨ord, W0, h1, h2, rfl⟩⟩
    · exact ⟨hv, .inr ⟨pre, trivial, h2⟩⟩
  case hAx =>
    rintro x a' W W' q ⟨Bo, h1, h2⟩ hg hc
    refine ⟨Bo, (hg.block Bo (blk_lt h1) (fun e => ?_)).trans h1, h2⟩
    cases e
    exact hc _ _ _ h1
  case assign =>
    intro l x W K hK
    simp only [encs]
    gi_wp2
    exact hK _ _ (box_below _ _) ⟨W.heap.size, new_at _ _, rfl⟩
  case body =>
    rintro l pre x a' W0 W1 W2 hI h01 hfr h12 hl hlo hnc ⟨Bo, hBo, rfl⟩
    have hC2 : Col n0 g ns w pre W2 := (hI.later h01).kept h12 (fun q e => by cases e; exact ⟨by omega, hnc⟩)
    have hpl : pre.length ≤ 1048576 := by
      have := hfr.length_le
      simp at this; omega
    obtain ⟨vn, w1, av, cv, vk, w2, v2, e1, r1, e2, e3, e4, r2, e5, e6, e7, hC3, hk3, hK3, ⟨an, cn, hvn⟩, ⟨ak, ck, hvk⟩, ⟨a2, c2', hv2⟩⟩ := hC2.more x Bo hBo hpl
    subst hvn hvk hv2
    have c1 := e1.cell
    have c2 := e2.cell
    have f2 := e2.frozen
    have c3 := e3.cell
    have y0 := e4.c0
    have y1 := e4.c1
    have y2 := e4.c2
    have c5 := e5.cell
    have f5 := e5.frozen
    have c6 := e6.cell
    have c7 := e7.cell
    generalize (nd ns x).k = yk at *
    generalize (nd ns x).s = ys at *
    generalize (nd ns x).c = yc at *
    have hne : (((pre.length + 1 : Nat) : Int) == -1) = false := by simp; omega
    replace r1 := hid r1
    replace r2 := hid r2
    replace hC3 := hid hC3
    replace hk3 := hid hk3
    replace hK3 := hid hK3
    replace hI := hid hI
    replace hC2 := hid hC2
    gi_wp2_with (first | (gi_at_builtin; refine wpListIn_append_run rfl (.tmp 19) (.tmp 21) 28 28 rfl (.slice an pre.length cn) (.slice (some ⟨W2.heap.size, 0, none⟩) 1 1) (.slice av (pre.length + 1) cv) rfl rfl r1.out ?_) | (gi_at_builtin; refine wpListIn_append_run rfl (.tmp 23) (.tmp 25) 66 66 rfl (.slice ak pre.length ck) (.slice (some ⟨w1.heap.size, 0, none⟩) 1 1) (.slice a2 (pre.length + 1) c2') rfl rfl r2.out ?_))
    exact ⟨hk3.out.from _, hK3.out, hC3.out⟩
  case done =>
    rintro D l ys W0 W W' hD hI h0W rfl hWW hl hnc hDd
    have hC : Col n0 g ns w ys W' := (hI.later h0W).kept hWW (fun q e => by cases e; exact ⟨by omega, hnc⟩)
    obtain ⟨⟨va, a1, a2⟩, ⟨vk, k1, k2⟩, _, _, _, hb, hz⟩ := hC
    have c1 := a1.cell
    have c2 := k1.cell
    obtain ⟨an, cn, hva, _⟩ := row_shape a2
    obtain ⟨ak, ck, hvk, _⟩ := row_shape k2
    subst hva hvk
    have hDW : (W'.drew).heap[D]? = some (.deferred (some [])) := hDd
    have a3 : OwnZ W'.drew (n0 + 5) (.slice an (zi ys).length cn) (zi ys) := row_later a2 (Below.refl _ _).drew
    have k3 : OwnK W'.drew (n0 + 5) (.slice ak ys.length ck) ns ys := row_later k2 (Below.refl _ _).drew
    have hb3 : Below n0 w W'.drew := hb.drew
    generalize (zi ys).length = N at *
    generalize ys.length = M at *
    replace a3 := hid a3
    replace k3 := hid k3
    replace hb3 := hid hb3
    replace hDW := hid hDW
    clear a2 k2 hb hI h0W hWW hnc hDd
    gi_wp2_with fail
    gi_region
    gi_wp2_with fail
    refine ⟨by simp, .inl ⟨_, _, rfl, run_takeDeferred hDW.out, ?_⟩⟩
    refine ⟨.tuple #[.slice an N cn, .slice ak M ck], ?_, ⟨_, _, rfl, ?_, ?_, ?_⟩⟩
    · simp [results, Try.results22, go_sem]
    · exact own_base (ownsRow_putObj a3.out _ hDW.out rfl) (by rw [← hn0.out]; omega)
    · exact own_base (ownsRow_putObj k3.out _ hDW.out rfl) (by rw [← hn0.out]; omega)
    · rw [← hn0.out]; exact hb3.out.trans (belowK_b' (w := W4) (by omega) _ D _ _ hD hDW.out)
  case stop =>
    rintro D c pre W hD _ hx hDd
    exact hx.elim
theorem gone_any (base g b most : Nat) (ns : List N) (ord : List Nat) (w : World) (H : SL w base g b most ns ord) :
    Calls Try.prog 22 #[.pointer (some ⟨g, 0, none⟩), .int .i64 (-1)] w fun e w' => ∃ vn vk, e = .returned (.tuple #[vn, vk]) ∧ OwnZ w' w.heap.size vn (zi ord) ∧ OwnK w' w.heap.size vk ns ord ∧ Below w.heap.size w w' :=
  callsIn_wide.1 (gone_in base g b most ns ord w H)
end Go.Proofs.Ythnmoidfdojoiaa.Gn

/- The document's Table.Add: what it holds in memory; what it refuses. -/
import Derived.Test.YtefihoohdaegeaaDa
namespace Go.Proofs.Ytefihoohdaegeaa.Db
open Go.ChangeShapes Go.WideShapes Go.ChangeAt Go.RowKit Go.Shelf
open Go.Sort (grow)
open Go.Proofs.Ytefihoohdaegeaa.Lx (hid lt)
open Go.Proofs.Ytefihoohdaegeaa.Ik
open Go.Proofs.Ytefihoohdaegeaa.Ck
open Go.Proofs.Ytefihoohdaegeaa.Da
open Go.Proofs.Ytefihoohdaegeaa.Ee (E ze Ents)
open Go.Proofs.Ytefihoohdaegeaa.Mm (box_below)
open Go.Proofs.Ytefihoohdaegeaa.Tr (new_at cell_of size_alloc blk_lt fz_of set_of set_ne)
set_option linter.unusedVariables false
set_option linter.unusedSimpArgs false

/-- The boxes of Add: the table, the operation, what comes out. -/
structure Mi (w W : World) (g : Nat) (A O : Array Value) : Prop where
  t : W.heap[g]? = some (.cells A 29)
  o : W.heap[g + 1]? = some (.cells O 32)
  z : W.heap[g + 2]? = some (.cells #[.int .i64 0, .slice none 0 0, .slice none 0 0, .int .i64 0, .int .i64 0, .int .u64 0, .int .u64 0, .bool false] 29)
  b : Below g w W
  s : g + 3 ≤ W.heap.size
theorem Mi.start (w : World) (A O : Array Value) : Mi w (((w.alloc (.cells A 29)).alloc (.cells O 32)).alloc (.cells #[.int .i64 0, .slice none 0 0, .slice none 0 0, .int .i64 0, .int .i64 0, .int .u64 0, .int .u64 0, .bool false] 29)) w.heap.size A O := by
  have b1 := box_below w (.cells A 29)
  have k1 := new_at w (.cells A 29)
  have s1 := size_alloc w (.cells A 29)
  generalize w.alloc (.cells A 29) = W1 at *
  have b2 := box_below W1 (.cells O 32)
  have k2 := new_at W1 (.cells O 32)
  have s2 := size_alloc W1 (.cells O 32)
  generalize W1.alloc (.cells O 32) = W2 at *
  have b3 := box_below W2 (.cells #[.int .i64 0, .slice none 0 0, .slice none 0 0, .int .i64 0, .int .i64 0, .int .u64 0, .int .u64 0, .bool false] 29)
  have k3 := new_at W2 (.cells #[.int .i64 0, .slice none 0 0, .slice none 0 0, .int .i64 0, .int .i64 0, .int .u64 0, .int .u64 0, .bool false] 29)
  have s3 := size_alloc W2 (.cells #[.int .i64 0, .slice none 0 0, .slice none 0 0, .int .i64 0, .int .i64 0, .int .u64 0, .int .u64 0, .bool false] 29)
  generalize W2.alloc (.cells #[.int .i64 0, .slice none 0 0, .slice none 0 0, .int .i64 0, .int .i64 0, .int .u64 0, .int .u64 0, .bool false] 29) = W3 at *
  rw [s1] at k2
  rw [s2, s1] at k3
  have k1' := (b2.block _ (by omega)).trans k1
  refine ⟨(b3.block _ (by omega)).trans k1', (b3.block _ (by omega)).trans k2, k3, b1.trans ((b2.mono (by omega)).trans (b3.mono (by omega))), by omega⟩
theorem Mi.later {w W W' : World} {g : Nat} {A O : Array Value} (h : Mi w W g A O) (b : Below W.heap.size W W') : Mi w W' g A O :=
  ⟨(b.block _ (blk_lt h.t)).trans h.t, (b.block _ (blk_lt h.o)).trans h.o, (b.block _ (blk_lt h.z)).trans h.z, h.b.trans (b.mono (by have := h.s; omega)), Nat.le_trans h.s b.size⟩
theorem Mi.grown {w W W' : World} {g : Nat} {A O : Array Value} {row : Option Nat} (h : Mi w W g A O) (b : W.grownBy W' row) (hr : ∀ j, row = some j → g + 3 ≤ j) : Mi w W' g A O :=
  ⟨(b.block _ (blk_lt h.t) (fun e => by have := hr _ e.symm; omega)).trans h.t, (b.block _ (blk_lt h.o) (fun e => by have := hr _ e.symm; omega)).trans h.o, (b.block _ (blk_lt h.z) (fun e => by have := hr _ e.symm; omega)).trans h.z, h.b.grown b (by have := h.s; omega) (fun j e => by have := hr j e; omega), Nat.le_trans h.s b.size⟩
def put8 (w : World) (g : Nat) (a0 a1 a2 a3 a4 a5 a6 a7 : Value) : World := (((((((w.setCell ⟨g, 0, none⟩ a0).setCell ⟨g, 1, none⟩ a1).setCell ⟨g, 2, none⟩ a2).setCell ⟨g, 3, none⟩ a3).setCell ⟨g, 4, none⟩ a4).setCell ⟨g, 5, none⟩ a5).setCell ⟨g, 6, none⟩ a6).setCell ⟨g, 7, none⟩ a7
set_option maxHeartbeats 1000000 in
theorem put8_at {w : World} {g : Nat} {b0 b1 b2 b3 b4 b5 b6 b7 : Value} {t : TypeId} (h : w.heap[g]? = some (.cells #[b0, b1, b2, b3, b4, b5, b6, b7] t)) (a0 a1 a2 a3 a4 a5 a6 a7 : Value) : (put8 w g a0 a1 a2 a3 a4 a5 a6 a7).heap[g]? = some (.cells #[a0, a1, a2, a3, a4, a5, a6, a7] t) := by
  have h0 : (w.setCell ⟨g, 0, none⟩ a0).heap[g]? = some (.cells #[a0, b1, b2, b3, b4, b5, b6, b7] t) := (set_of h 0 a0).trans rfl
  have h1 : ((w.setCell ⟨g, 0, none⟩ a0).setCell ⟨g, 1, none⟩ a1).heap[g]? = some (.cells #[a0, a1, b2, b3, b4, b5, b6, b7] t) := (set_of h0 1 a1).trans rfl
  have h2 : (((w.setCell ⟨g, 0, none⟩ a0).setCell ⟨g, 1, none⟩ a1).setCell ⟨g, 2, none⟩ a2).heap[g]? = some (.cells #[a0, a1, a2, b3, b4, b5, b6, b7] t) := (set_of h1 2 a2).trans rfl
  have h3 : ((((w.setCell ⟨g, 0, none⟩ a0).setCell ⟨g, 1, none⟩ a1).setCell ⟨g, 2, none⟩ a2).setCell ⟨g, 3, none⟩ a3).heap[g]? = some (.cells #[a0, a1, a2, a3, b4, b5, b6, b7] t) := (set_of h2 3 a3).trans rfl
  have h4 : (((((w.setCell ⟨g, 0, none⟩ a0).setCell ⟨g, 1, none⟩ a1).setCell ⟨g, 2, none⟩ a2).setCell ⟨g, 3, none⟩ a3).setCell ⟨g, 4, none⟩ a4).heap[g]? = some (.cells #[a0, a1, a2, a3, a4, b5, b6, b7] t) := (set_of h3 4 a4).trans rfl
  have h5 : ((((((w.setCell ⟨g, 0, none⟩ a0).setCell ⟨g, 1, none⟩ a1).setCell ⟨g, 2, none⟩ a2).setCell ⟨g, 3, none⟩ a3).setCell ⟨g, 4, none⟩ a4).setCell ⟨g, 5, none⟩ a5).heap[g]? = some (.cells #[a0, a1, a2, a3, a4, a5, b6, b7] t) := (set_of h4 5 a5).trans rfl
  have h6 : (((((((w.setCell ⟨g, 0, none⟩ a0).setCell ⟨g, 1, none⟩ a1).setCell ⟨g, 2, none⟩ a2).setCell ⟨g, 3, none⟩ a3).setCell ⟨g, 4, none⟩ a4).setCell ⟨g, 5, none⟩ a5).setCell ⟨g, 6, none⟩ a6).heap[g]? = some (.cells #[a0, a1, a2, a3, a4, a5, a6, b7] t) := (set_of h5 6 a6).trans rfl
  have h7 : ((((((((w.setCell ⟨g, 0, none⟩ a0).setCell ⟨g, 1, none⟩ a1).setCell ⟨g, 2, none⟩ a2).setCell ⟨g, 3, none⟩ a3).setCell ⟨g, 4, none⟩ a4).setCell ⟨g, 5, none⟩ a5).setCell ⟨g, 6, none⟩ a6).setCell ⟨g, 7, none⟩ a7).heap[g]? = some (.cells #[a0, a1, a2, a3, a4, a5, a6, a7] t) := (set_of h6 7 a7).trans rfl
  exact h7
theorem put8_below {n : Nat} {w0 w : World} {g : Nat} (h : Below n w0 w) (hg : n ≤ g) (a0 a1 a2 a3 a4 a5 a6 a7 : Value) : Below n w0 (put8 w g a0 a1 a2 a3 a4 a5 a6 a7) :=
  (((((((h.setCell (p := ⟨g, 0, none⟩) hg a0).setCell (p := ⟨g, 1, none⟩) hg a1).setCell (p := ⟨g, 2, none⟩) hg a2).setCell (p := ⟨g, 3, none⟩) hg a3).setCell (p := ⟨g, 4, none⟩) hg a4).setCell (p := ⟨g, 5, none⟩) hg a5).setCell (p := ⟨g, 6, none⟩) hg a6).setCell (p := ⟨g, 7, none⟩) hg a7
theorem put8_size (w : World) (g : Nat) (a0 a1 a2 a3 a4 a5 a6 a7 : Value) : (put8 w g a0 a1 a2 a3 a4 a5 a6 a7).heap.size = w.heap.size := by unfold put8; simp
theorem put8_ne (w : World) (g j : Nat) (hj : j ≠ g) (a0 a1 a2 a3 a4 a5 a6 a7 : Value) : (put8 w g a0 a1 a2 a3 a4 a5 a6 a7).heap[j]? = w.heap[j]? := by
  unfold put8
  rw [set_ne _ _ _ _ _ hj, set_ne _ _ _ _ _ hj, set_ne _ _ _ _ _ hj, set_ne _ _ _ _ _ hj, set_ne _ _ _ _ _ hj, set_ne _ _ _ _ _ hj, set_ne _ _ _ _ _ hj, set_ne _ _ _ _ _ hj]
set_option maxHeartbeats 2000000 in
theorem radd_dn (log : Int) (ea ta : Option Addr) (el ec tl tc : Nat) (len sz lo hi : Int) (dn : Bool) (q c : Int) (k v : ByteArray) (h : Int) (w : World) (hd : dn = true) :
    Calls Try.prog 14 #[.agg #[.int .i64 log, .slice ea el ec, .slice ta tl tc, .int .i64 len, .int .i64 sz, .int .u64 lo, .int .u64 hi, .bool dn], .int .u64 q, .agg #[.int .i64 c, .string k, .string v], .int .i64 h] w fun e w' => e = .returned (.tuple #[.agg #[.int .i64 log, .slice ea el ec, .slice ta tl tc, .int .i64 len, .int .i64 sz, .int .u64 lo, .int .u64 hi, .bool dn], .int .i64 230]) ∧ Below w.heap.size w w' := by
  have B := hid (fun (a b c : Obj) => (((Below.refl w.heap.size w).alloc (Nat.le_refl _) a).alloc (by simp) b).alloc (by simp; omega) c)
  subst hd
  go_enter Try.func14, Try.ntmps14
  go_wp2
  exact bodyPost_ret (v := .tuple #[.agg #[.int .i64 log, .slice ea el ec, .slice ta tl tc, .int .i64 len, .int .i64 sz, .int .u64 lo, .int .u64 hi, .bool true], .int .i64 230]) (by simp [results, Try.results14, go_sem]) rfl ⟨rfl, B.out _ _ _⟩
set_option maxHeartbeats 2000000 in
theorem radd_q1 (log : Int) (ea ta : Option Addr) (el ec tl tc : Nat) (len sz lo hi : Int) (dn : Bool) (q c : Int) (k v : ByteArray) (h : Int) (w : World) (hd : dn = false) (hq : q < 1) :
    Calls Try.prog 14 #[.agg #[.int .i64 log, .slice ea el ec, .slice ta tl tc, .int .i64 len, .int .i64 sz, .int .u64 lo, .int .u64 hi, .bool dn], .int .u64 q, .agg #[.int .i64 c, .string k, .string v], .int .i64 h] w fun e w' => e = .returned (.tuple #[.agg #[.int .i64 log, .slice ea el ec, .slice ta tl tc, .int .i64 len, .int .i64 sz, .int .u64 lo, .int .u64 hi, .bool dn], .int .i64 2]) ∧ Below w.heap.size w w' := by
  have B := hid (fun (a b c : Obj) => (((Below.refl w.heap.size w).alloc (Nat.le_refl _) a).alloc (by simp) b).alloc (by simp; omega) c)
  subst hd
  go_enter Try.func14, Try.ntmps14
  go_wp2
  exact bodyPost_ret (v := .tuple #[.agg #[.int .i64 log, .slice ea el ec, .slice ta tl tc, .int .i64 len, .int .i64 sz, .int .u64 lo, .int .u64 hi, .bool false], .int .i64 2]) (by simp [results, Try.results14, go_sem]) rfl ⟨rfl, B.out _ _ _⟩
set_option maxHeartbeats 2000000 in
theorem radd_q2 (log : Int) (ea ta : Option Addr) (el ec tl tc : Nat) (len sz lo hi : Int) (dn : Bool) (q c : Int) (k v : ByteArray) (h : Int) (w : World) (hd : dn = false) (hq0 : ¬ q < 1) (hq : 72057594037927935 < q) :
    Calls Try.prog 14 #[.agg #[.int .i64 log, .slice ea el ec, .slice ta tl tc, .int .i64 len, .int .i64 sz, .int .u64 lo, .int .u64 hi, .bool dn], .int .u64 q, .agg #[.int .i64 c, .string k, .string v], .int .i64 h] w fun e w' => e = .returned (.tuple #[.agg #[.int .i64 log, .slice ea el ec, .slice ta tl tc, .int .i64 len, .int .i64 sz, .int .u64 lo, .int .u64 hi, .bool dn], .int .i64 2]) ∧ Below w.heap.size w w' := by
  have B := hid (fun (a b c : Obj) => (((Below.refl w.heap.size w).alloc (Nat.le_refl _) a).alloc (by simp) b).alloc (by simp; omega) c)
  subst hd
  go_enter Try.func14, Try.ntmps14
  go_wp2
  exact bodyPost_ret (v := .tuple #[.agg #[.int .i64 log, .slice ea el ec, .slice ta tl tc, .int .i64 len, .int .i64 sz, .int .u64 lo, .int .u64 hi, .bool false], .int .i64 2]) (by simp [results, Try.results14, go_sem]) rfl ⟨rfl, B.out _ _ _⟩
set_option maxHeartbeats 2000000 in
theorem radd_may (log : Int) (ea ta : Option Addr) (el ec tl tc : Nat) (len sz lo hi : Int) (dn : Bool) (q c : Int) (k v : ByteArray) (h : Int) (w : World) (hk : k.size ≤ maxLen) (hv : v.size ≤ maxLen) (hd : dn = false) (hq0 : ¬ q < 1) (hq : ¬ 72057594037927935 < q) (hm : may c k v = false)  :
    Calls Try.prog 14 #[.agg #[.int .i64 log, .slice ea el ec, .slice ta tl tc, .int .i64 len, .int .i64 sz, .int .u64 lo, .int .u64 hi, .bool dn], .int .u64 q, .agg #[.int .i64 c, .string k, .string v], .int .i64 h] w fun e w' => e = .returned (.tuple #[.agg #[.int .i64 log, .slice ea el ec, .slice ta tl tc, .int .i64 len, .int .i64 sz, .int .u64 lo, .int .u64 hi, .bool dn], .int .i64 40]) ∧ Below w.heap.size w w' := by
  subst hd
  obtain ⟨dn, hdn⟩ : ∃ b, b = false := ⟨_, rfl⟩
  have M0 := Mi.start w #[.int .i64 log, .slice ea el ec, .slice ta tl tc, .int .i64 len, .int .i64 sz, .int .u64 lo, .int .u64 hi, .bool false] #[.int .i64 c, .string k, .string v]
  obtain ⟨g, hg⟩ : ∃ n, n = w.heap.size := ⟨_, rfl⟩
  obtain ⟨W0, hW0⟩ : ∃ W, W = ((w.alloc (.cells #[.int .i64 log, .slice ea el ec, .slice ta tl tc, .int .i64 len, .int .i64 sz, .int .u64 lo, .int .u64 hi, .bool false] 29)).alloc (.cells #[.int .i64 c, .string k, .string v] 32)).alloc (.cells #[.int .i64 0, .slice none 0 0, .slice none 0 0, .int .i64 0, .int .i64 0, .int .u64 0, .int .u64 0, .bool false] 29) := ⟨_, rfl⟩
  rw [← hW0, ← hg] at M0
  have HM := hid (rmay_any c k v W0 hk hv)
  rw [hm] at HM
  obtain ⟨go, hgo⟩ : ∃ n, g + 1 = n := ⟨_, rfl⟩
  obtain ⟨gr, hgr⟩ : ∃ n, go + 1 = n := ⟨_, rfl⟩
  replace M0 := hid M0
  replace hW0 := hid hW0
  replace hg := hid hg
  replace hgo := hid hgo
  replace hgr := hid hgr
  clear hm hdn
  go_enter Try.func14, Try.ntmps14
  go_wp2_with fail
  rw [← hW0.out, ← hg.out, hgo.out, hgr.out]
  refine HM.out.mono ?_
  rintro e w1 ⟨rfl, b1⟩
  have M1 := M0.out.later b1
  obtain ⟨mt, mo, mz, mb, ms⟩ := M1
  rw [hgo.out] at mo
  rw [show g + 2 = gr by have := hgo.out; have := hgr.out; omega] at mz
  have KF := put8_at mz (.int .i64 log) (.slice ea el ec) (.slice ta tl tc) (.int .i64 len) (.int .i64 sz) (.int .u64 lo) (.int .u64 hi) (.bool false)
  have BF := put8_below mb (g := gr) (by have := hgo.out; have := hgr.out; omega) (.int .i64 log) (.slice ea el ec) (.slice ta tl tc) (.int .i64 len) (.int .i64 sz) (.int .u64 lo) (.int .u64 hi) (.bool false)
  have c0 := cell_of mt 0 (.int .i64 log) rfl
  have c1 := cell_of mt 1 (.slice ea el ec) rfl
  have c2 := cell_of mt 2 (.slice ta tl tc) rfl
  have c3 := cell_of mt 3 (.int .i64 len) rfl
  have c4 := cell_of mt 4 (.int .i64 sz) rfl
  have c5 := cell_of mt 5 (.int .u64 lo) rfl
  have c6 := cell_of mt 6 (.int .u64 hi) rfl
  have c7 := cell_of mt 7 (.bool false) rfl
  have f0 := fz_of mz 0
  have f1 := fz_of mz 1
  have f2 := fz_of mz 2
  have f3 := fz_of mz 3
  have f4 := fz_of mz 4
  have f5 := fz_of mz 5
  have f6 := fz_of mz 6
  have f7 := fz_of mz 7
  have z0 := cell_of mz 0 (.int .i64 0) rfl
  have z1 := cell_of mz 1 (.slice none 0 0) rfl
  have z2 := cell_of mz 2 (.slice none 0 0) rfl
  have z3 := cell_of mz 3 (.int .i64 0) rfl
  have z4 := cell_of mz 4 (.int .i64 0) rfl
  have z5 := cell_of mz 5 (.int .u64 0) rfl
  have z6 := cell_of mz 6 (.int .u64 0) rfl
  have z7 := cell_of mz 7 (.bool false) rfl
  have q0 := cell_of KF 0 (.int .i64 log) rfl
  have q1 := cell_of KF 1 (.slice ea el ec) rfl
  have q2 := cell_of KF 2 (.slice ta tl tc) rfl
  have q3 := cell_of KF 3 (.int .i64 len) rfl
  have q4 := cell_of KF 4 (.int .i64 sz) rfl
  have q5 := cell_of KF 5 (.int .u64 lo) rfl
  have q6 := cell_of KF 6 (.int .u64 hi) rfl
  have q7 := cell_of KF 7 (.bool false) rfl
  have o0 := cell_of mo 0 (.int .i64 c) rfl
  have o1 := cell_of mo 1 (.string k) rfl
  have o2 := cell_of mo 2 (.string v) rfl
  unfold put8 at BF q0 q1 q2 q3 q4 q5 q6 q7
  replace BF := hid BF
  replace q0 := hid q0
  replace q1 := hid q1
  replace q2 := hid q2
  replace q3 := hid q3
  replace q4 := hid q4
  replace q5 := hid q5
  replace q6 := hid q6
  replace q7 := hid q7
  clear mt mo mz mb KF b1 HM ms
  go_wp2_with fail
  refine bodyPost_ret (v := .tuple #[.agg #[.int .i64 log, .slice ea el ec, .slice ta tl tc, .int .i64 len, .int .i64 sz, .int .u64 lo, .int .u64 hi, .bool false], .int .i64 40]) (by simp [results, Try.results14, go_sem, q0.out, q1.out, q2.out, q3.out, q4.out, q5.out, q6.out, q7.out]) rfl ⟨rfl, ?_⟩
  rw [← hg.out]
  exact BF.out
set_option maxHeartbeats 2000000 in
theorem radd_h1 (log : Int) (ea ta : Option Addr) (el ec tl tc : Nat) (len sz lo hi : Int) (dn : Bool) (q c : Int) (k v : ByteArray) (h : Int) (w : World) (hk : k.size ≤ maxLen) (hv : v.size ≤ maxLen) (hd : dn = false) (hq0 : ¬ q < 1) (hq : ¬ 72057594037927935 < q) (hm : may c k v = true) (hh : h < 1) :
    Calls Try.prog 14 #[.agg #[.int .i64 log, .slice ea el ec, .slice ta tl tc, .int .i64 len, .int .i64 sz, .int .u64 lo, .int .u64 hi, .bool dn], .int .u64 q, .agg #[.int .i64 c, .string k, .string v], .int .i64 h] w fun e w' => e = .returned (.tuple #[.agg #[.int .i64 log, .slice ea el ec, .slice ta tl tc, .int .i64 len, .int .i64 sz, .int .u64 lo, .int .u64 hi, .bool dn], .int .i64 2]) ∧ Below w.heap.size w w' := by
  subst hd
  obtain ⟨dn, hdn⟩ : ∃ b, b = false := ⟨_, rfl⟩
  have M0 := Mi.start w #[.int .i64 log, .slice ea el ec, .slice ta tl tc, .int .i64 len, .int .i64 sz, .int .u64 lo, .int .u64 hi, .bool false] #[.int .i64 c, .string k, .string v]
  obtain ⟨g, hg⟩ : ∃ n, n = w.heap.size := ⟨_, rfl⟩
  obtain ⟨W0, hW0⟩ : ∃ W, W = ((w.alloc (.cells #[.int .i64 log, .slice ea el ec, .slice ta tl tc, .int .i64 len, .int .i64 sz, .int .u64 lo, .int .u64 hi, .bool false] 29)).alloc (.cells #[.int .i64 c, .string k, .string v] 32)).alloc (.cells #[.int .i64 0, .slice none 0 0, .slice none 0 0, .int .i64 0, .int .i64 0, .int .u64 0, .int .u64 0, .bool false] 29) := ⟨_, rfl⟩
  rw [← hW0, ← hg] at M0
  have HM := hid (rmay_any c k v W0 hk hv)
  rw [hm] at HM
  obtain ⟨go, hgo⟩ : ∃ n, g + 1 = n := ⟨_, rfl⟩
  obtain ⟨gr, hgr⟩ : ∃ n, go + 1 = n := ⟨_, rfl⟩
  replace M0 := hid M0
  replace hW0 := hid hW0
  replace hg := hid hg
  replace hgo := hid hgo
  replace hgr := hid hgr
  clear hm hdn
  go_enter Try.func14, Try.ntmps14
  go_wp2_with fail
  rw [← hW0.out, ← hg.out, hgo.out, hgr.out]
  refine HM.out.mono ?_
  rintro e w1 ⟨rfl, b1⟩
  have M1 := M0.out.later b1
  obtain ⟨mt, mo, mz, mb, ms⟩ := M1
  rw [hgo.out] at mo
  rw [show g + 2 = gr by have := hgo.out; have := hgr.out; omega] at mz
  have KF := put8_at mz (.int .i64 log) (.slice ea el ec) (.slice ta tl tc) (.int .i64 len) (.int .i64 sz) (.int .u64 lo) (.int .u64 hi) (.bool false)
  have BF := put8_below mb (g := gr) (by have := hgo.out; have := hgr.out; omega) (.int .i64 log) (.slice ea el ec) (.slice ta tl tc) (.int .i64 len) (.int .i64 sz) (.int .u64 lo) (.int .u64 hi) (.bool false)
  have c0 := cell_of mt 0 (.int .i64 log) rfl
  have c1 := cell_of mt 1 (.slice ea el ec) rfl
  have c2 := cell_of mt 2 (.slice ta tl tc) rfl
  have c3 := cell_of mt 3 (.int .i64 len) rfl
  have c4 := cell_of mt 4 (.int .i64 sz) rfl
  have c5 := cell_of mt 5 (.int .u64 lo) rfl
  have c6 := cell_of mt 6 (.int .u64 hi) rfl
  have c7 := cell_of mt 7 (.bool false) rfl
  have f0 := fz_of mz 0
  have f1 := fz_of mz 1
  have f2 := fz_of mz 2
  have f3 := fz_of mz 3
  have f4 := fz_of mz 4
  have f5 := fz_of mz 5
  have f6 := fz_of mz 6
  have f7 := fz_of mz 7
  have z0 := cell_of mz 0 (.int .i64 0) rfl
  have z1 := cell_of mz 1 (.slice none 0 0) rfl
  have z2 := cell_of mz 2 (.slice none 0 0) rfl
  have z3 := cell_of mz 3 (.int .i64 0) rfl
  have z4 := cell_of mz 4 (.int .i64 0) rfl
  have z5 := cell_of mz 5 (.int .u64 0) rfl
  have z6 := cell_of mz 6 (.int .u64 0) rfl
  have z7 := cell_of mz 7 (.bool false) rfl
  have q0 := cell_of KF 0 (.int .i64 log) rfl
  have q1 := cell_of KF 1 (.slice ea el ec) rfl
  have q2 := cell_of KF 2 (.slice ta tl tc) rfl
  have q3 := cell_of KF 3 (.int .i64 len) rfl
  have q4 := cell_of KF 4 (.int .i64 sz) rfl
  have q5 := cell_of KF 5 (.int .u64 lo) rfl
  have q6 := cell_of KF 6 (.int .u64 hi) rfl
  have q7 := cell_of KF 7 (.bool false) rfl
  have o0 := cell_of mo 0 (.int .i64 c) rfl
  have o1 := cell_of mo 1 (.string k) rfl
  have o2 := cell_of mo 2 (.string v) rfl
  unfold put8 at BF q0 q1 q2 q3 q4 q5 q6 q7
  replace BF := hid BF
  replace q0 := hid q0
  replace q1 := hid q1
  replace q2 := hid q2
  replace q3 := hid q3
  replace q4 := hid q4
  replace q5 := hid q5
  replace q6 := hid q6
  replace q7 := hid q7
  clear mt mo mz mb KF b1 HM ms
  go_wp2_with fail
  refine bodyPost_ret (v := .tuple #[.agg #[.int .i64 log, .slice ea el ec, .slice ta tl tc, .int .i64 len, .int .i64 sz, .int .u64 lo, .int .u64 hi, .bool false], .int .i64 2]) (by simp [results, Try.results14, go_sem, q0.out, q1.out, q2.out, q3.out, q4.out, q5.out, q6.out, q7.out]) rfl ⟨rfl, ?_⟩
  rw [← hg.out]
  exact BF.out
set_option maxHeartbeats 2000000 in
theorem radd_h2 (log : Int) (ea ta : Option Addr) (el ec tl tc : Nat) (len sz lo hi : Int) (dn : Bool) (q c : Int) (k v : ByteArray) (h : Int) (w : World) (hk : k.size ≤ maxLen) (hv : v.size ≤ maxLen) (hd : dn = false) (hq0 : ¬ q < 1) (hq : ¬ 72057594037927935 < q) (hm : may c k v = true) (hh0 : ¬ h < 1) (hh : 12 < h) :
    Calls Try.prog 14 #[.agg #[.int .i64 log, .slice ea el ec, .slice ta tl tc, .int .i64 len, .int .i64 sz, .int .u64 lo, .int .u64 hi, .bool dn], .int .u64 q, .agg #[.int .i64 c, .string k, .string v], .int .i64 h] w fun e w' => e = .returned (.tuple #[.agg #[.int .i64 log, .slice ea el ec, .slice ta tl tc, .int .i64 len, .int .i64 sz, .int .u64 lo, .int .u64 hi, .bool dn], .int .i64 2]) ∧ Below w.heap.size w w' := by
  subst hd
  obtain ⟨dn, hdn⟩ : ∃ b, b = false := ⟨_, rfl⟩
  have M0 := Mi.start w #[.int .i64 log, .slice ea el ec, .slice ta tl tc, .int .i64 len, .int .i64 sz, .int .u64 lo, .int .u64 hi, .bool false] #[.int .i64 c, .string k, .string v]
  obtain ⟨g, hg⟩ : ∃ n, n = w.heap.size := ⟨_, rfl⟩
  obtain ⟨W0, hW0⟩ : ∃ W, W = ((w.alloc (.cells #[.int .i64 log, .slice ea el ec, .slice ta tl tc, .int .i64 len, .int .i64 sz, .int .u64 lo, .int .u64 hi, .bool false] 29)).alloc (.cells #[.int .i64 c, .string k, .string v] 32)).alloc (.cells #[.int .i64 0, .slice none 0 0, .slice none 0 0, .int .i64 0, .int .i64 0, .int .u64 0, .int .u64 0, .bool false] 29) := ⟨_, rfl⟩
  rw [← hW0, ← hg] at M0
  have HM := hid (rmay_any c k v W0 hk hv)
  rw [hm] at HM
  obtain ⟨go, hgo⟩ : ∃ n, g + 1 = n := ⟨_, rfl⟩
  obtain ⟨gr, hgr⟩ : ∃ n, go + 1 = n := ⟨_, rfl⟩
  replace M0 := hid M0
  replace hW0 := hid hW0
  replace hg := hid hg
  replace hgo := hid hgo
  replace hgr := hid hgr
  clear hm hdn
  go_enter Try.func14, Try.ntmps14
  go_wp2_with fail
  rw [← hW0.out, ← hg.out, hgo.out, hgr.out]
  refine HM.out.mono ?_
  rintro e w1 ⟨rfl, b1⟩
  have M1 := M0.out.later b1
  obtain ⟨mt, mo, mz, mb, ms⟩ := M1
  rw [hgo.out] at mo
  rw [show g + 2 = gr by have := hgo.out; have := hgr.out; omega] at mz
  have KF := put8_at mz (.int .i64 log) (.slice ea el ec) (.slice ta tl tc) (.int .i64 len) (.int .i64 sz) (.int .u64 lo) (.int .u64 hi) (.bool false)
  have BF := put8_below mb (g := gr) (by have := hgo.out; have := hgr.out; omega) (.int .i64 log) (.slice ea el ec) (.slice ta tl tc) (.int .i64 len) (.int .i64 sz) (.int .u64 lo) (.int .u64 hi) (.bool false)
  have c0 := cell_of mt 0 (.int .i64 log) rfl
  have c1 := cell_of mt 1 (.slice ea el ec) rfl
  have c2 := cell_of mt 2 (.slice ta tl tc) rfl
  have c3 := cell_of mt 3 (.int .i64 len) rfl
  have c4 := cell_of mt 4 (.int .i64 sz) rfl
  have c5 := cell_of mt 5 (.int .u64 lo) rfl
  have c6 := cell_of mt 6 (.int .u64 hi) rfl
  have c7 := cell_of mt 7 (.bool false) rfl
  have f0 := fz_of mz 0
  have f1 := fz_of mz 1
  have f2 := fz_of mz 2
  have f3 := fz_of mz 3
  have f4 := fz_of mz 4
  have f5 := fz_of mz 5
  have f6 := fz_of mz 6
  have f7 := fz_of mz 7
  have z0 := cell_of mz 0 (.int .i64 0) rfl
  have z1 := cell_of mz 1 (.slice none 0 0) rfl
  have z2 := cell_of mz 2 (.slice none 0 0) rfl
  have z3 := cell_of mz 3 (.int .i64 0) rfl
  have z4 := cell_of mz 4 (.int .i64 0) rfl
  have z5 := cell_of mz 5 (.int .u64 0) rfl
  have z6 := cell_of mz 6 (.int .u64 0) rfl
  have z7 := cell_of mz 7 (.bool false) rfl
  have q0 := cell_of KF 0 (.int .i64 log) rfl
  have q1 := cell_of KF 1 (.slice ea el ec) rfl
  have q2 := cell_of KF 2 (.slice ta tl tc) rfl
  have q3 := cell_of KF 3 (.int .i64 len) rfl
  have q4 := cell_of KF 4 (.int .i64 sz) rfl
  have q5 := cell_of KF 5 (.int .u64 lo) rfl
  have q6 := cell_of KF 6 (.int .u64 hi) rfl
  have q7 := cell_of KF 7 (.bool false) rfl
  have o0 := cell_of mo 0 (.int .i64 c) rfl
  have o1 := cell_of mo 1 (.string k) rfl
  have o2 := cell_of mo 2 (.string v) rfl
  unfold put8 at BF q0 q1 q2 q3 q4 q5 q6 q7
  replace BF := hid BF
  replace q0 := hid q0
  replace q1 := hid q1
  replace q2 := hid q2
  replace q3 := hid q3
  replace q4 := hid q4
  replace q5 := hid q5
  replace q6 := hid q6
  replace q7 := hid q7
  clear mt mo mz mb KF b1 HM ms
  go_wp2_with fail
  refine bodyPost_ret (v := .tuple #[.agg #[.int .i64 log, .slice ea el ec, .slice ta tl tc, .int .i64 len, .int .i64 sz, .int .u64 lo, .int .u64 hi, .bool false], .int .i64 2]) (by simp [results, Try.results14, go_sem, q0.out, q1.out, q2.out, q3.out, q4.out, q5.out, q6.out, q7.out]) rfl ⟨rfl, ?_⟩
  rw [← hg.out]
  exact BF.out
end Go.Proofs.Ytefihoohdaegeaa.Db

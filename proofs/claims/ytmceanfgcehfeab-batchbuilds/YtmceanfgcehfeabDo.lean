/- The law's does: one step of a Builder, held against the document's. -/
import Derived.Test.YtmceanfgcehfeabBp
import Derived.Test.YtmceanfgcehfeabAm
namespace Go.Proofs.Ytmceanfgcehfeab.Do
open Go.ChangeShapes Go.WideShapes Go.ChangeAt Go.RowKit
open Go.Sort
open Go.Proofs.Ytmceanfgcehfeab.By
open Go.Proofs.Ytmceanfgcehfeab.Ob
open Go.Proofs.Ytmceanfgcehfeab.En
open Go.Proofs.Ytmceanfgcehfeab.Bu
open Go.Proofs.Ytmceanfgcehfeab.Bv
open Go.Proofs.Ytmceanfgcehfeab.Bp
open Go.Proofs.Ytmceanfgcehfeab.De (row_ops may_ok)
open Go.Proofs.Ytmceanfgcehfeab.Am
set_option linter.unusedVariables false

theorem among_fix (x : Int) (n : Nat) (hx : -9223372036854775808 ≤ x ∧ x ≤ 9223372036854775807) (hn : 1 ≤ n ∧ n ≤ 1048576) :
    ∃ k : Nat, k < n ∧ ∀ w, Calls Try.prog 23 #[.int .i64 x, .int .i64 n] w fun e w' => e = .returned (.int .i64 k) ∧ w' = w := by
  have n0 : ((n : Int) == 0) = false := by simp; omega
  obtain ⟨k, hk, he⟩ : (∃ k : Nat, k < n ∧ (wrap64 (x.tmod n + n)).tmod n = k) := by
    have h1 := Am.tmod_bd x n hn.1
    have e : wrap64 (x.tmod n + n) = x.tmod n + n := by unfold wrap64; omega
    rw [e]
    have h2 := Am.tmod_bd (x.tmod n + n) n hn.1
    rw [Int.tmod_eq_emod_of_nonneg (by omega)] at h2 ⊢
    have := Int.emod_nonneg (x.tmod n + n) (show (n : Int) ≠ 0 by omega)
    exact ⟨((x.tmod n + n) % n).toNat, by omega, by omega⟩
  refine ⟨k, hk, fun w => ?_⟩
  have HB := hid he
  clear he
  go_enter Try.func23, Try.ntmps23
  go_wp2
  go_ret
  exact ⟨ret_int HB.out, rfl⟩
/-- A step of the law, boxed. -/
def Ax (W : World) (g : Nat) (x m : Int) (k v : ByteArray) (s : Int) : Prop := W.heap[g]? = some (.cells #[.int .i64 x, .int .i64 m, .string k, .string v, .int .u64 s] 30 (0, 0))
theorem Ax.cell {W : World} {g : Nat} {x m : Int} {k v : ByteArray} {s : Int} (h : Ax W g x m k v s) (i : Nat) : W.cell? ⟨g, i, none⟩ = (#[.int .i64 x, .int .i64 m, .string k, .string v, .int .u64 s] : Array Value)[i]? := cell_of_row W g i _ 30 (0, 0) h
set_option maxRecDepth 100000 in
set_option maxHeartbeats 4000000 in
theorem does0 (g base : Nat) (v0 : Value) (xs : List O) (x m : Int) (k v : ByteArray) (s : Int) (w : World) (H : Two w base g v0 xs) (HA0 : ∀ w, Calls Try.prog 23 #[.int .i64 x, .int .i64 5] w fun e w' => e = .returned (.int .i64 0) ∧ w' = w) :
    Calls Try.prog 12 #[.pointer (some ⟨g, 0, none⟩), v0, .agg #[.int .i64 x, .int .i64 m, .string k, .string v, .int .u64 s]] w fun e w' => ∃ u xs', e = .returned (.tuple #[u, .bool true]) ∧ Two w' base g u xs' ∧ Below base w w' := by
  obtain ⟨a, cc, hv0, _⟩ := H.ops
  subst hv0
  obtain ⟨W0, hW0⟩ : ∃ W0, W0 = w.alloc (.cells #[.int .i64 x, .int .i64 m, .string k, .string v, .int .u64 s] 30) := ⟨_, rfl⟩
  obtain ⟨gx, hgx⟩ : ∃ gx, gx = w.heap.size := ⟨_, rfl⟩
  have bb : Below w.heap.size w W0 := by rw [hW0]; exact box_below _ _
  have AX : Hid (Ax W0 gx x m k v s) := by show W0.heap[gx]? = _; rw [hW0, hgx]; show (w.heap.push _)[w.heap.size]? = _; simp
  have T0 := hid (H.later bb)
  obtain ⟨P, hPd⟩ : ∃ P : Nat → Prop, P = fun j => Of (.slice a xs.length cc) j ∨ j = gx := ⟨_, rfl⟩
  have PX : Hid (P gx) := by rw [hPd]; exact .inr rfl
  have hP : Hid (∀ j, Of (.slice a xs.length cc) j → P j) := fun j hj => by rw [hPd]; exact .inl hj
  have hp : Hid (∀ j, P j → j < W0.heap.size) := fun j hj => by
    rw [hPd] at hj
    rcases hj with hj | hj
    · exact T0.out.hp j hj
    · have := bb.size; rw [hj]; exact (Array.getElem?_eq_some_iff.1 AX.out).1
  have hpg : Hid (¬ P g) := fun hj => by
    rw [hPd] at hj
    rcases hj with hj | hj
    · exact T0.out.hpg hj
    · have := Bp.Bs.lt H.1; omega
  have B0 : Hid (Bs W0 base g P xs) := by show Bs _ _ _ _ _; rw [hPd, hgx]; exact Bp.Bs.more H.1 bb
  have hf := hid H.2.2.1
  have hb0 := hid T0.out.2.2.2
  have BW0 : Hid (Below base w W0) := bb.mono H.2.2.2
  have HW0 := hid hW0
  have HGX := hid hgx
  have HA := hid HA0
  clear hW0 hgx bb hPd H HA0
  have FP := hid (put_any g k v xs base P W0 B0.out hb0.out hp.out hpg.out hf.out)
  have FR : Hid (∀ W, Ops W a xs.length cc xs → Calls Try.prog 30 #[.slice a xs.length cc, .agg #[.int .i64 1, .string k, .string v]] W fun e w' => ∃ u, e = .returned (.tuple #[u, .int .i64 (bput xs ⟨1, k, v⟩).1]) ∧ ((u = .slice a xs.length cc ∧ (bput xs ⟨1, k, v⟩).2 = xs) ∨ w'.ownsRow W.heap.size 60 3 u (bput xs ⟨1, k, v⟩).2.length (ocs (bput xs ⟨1, k, v⟩).2)) ∧ Below W.heap.size W w') := fun W h => rput_any a xs.length cc xs 1 k v W h hf.out
  have TP : Hid (∀ w1 w2 u, Bs w1 base g P (bput xs ⟨1, k, v⟩).2 → Below base W0 w1 → Kept W0 w1 P → ((u = .slice a xs.length cc ∧ (bput xs ⟨1, k, v⟩).2 = xs) ∨ w2.ownsRow w1.heap.size 60 3 u (bput xs ⟨1, k, v⟩).2.length (ocs (bput xs ⟨1, k, v⟩).2)) → Below w1.heap.size w1 w2 → Two w2 base g u (bput xs ⟨1, k, v⟩).2) := fun w1 w2 u q1 q2 q3 q4 q5 => Two.put T0.out hP.out q1 q2 q3 q4 q5
  generalize bput xs ⟨1, k, v⟩ = r at *
  obtain ⟨E, ys⟩ := r
  go_enter Try.func12, Try.ntmps12
  go_wp2_with fail
  rw [← HW0.out, ← HGX.out]
  refine (HA.out W0).mono ?_
  rintro e w0 ⟨rfl, rfl⟩
  have x1 : w0.cell? ⟨gx, 2, none⟩ = some (.string k) := AX.out.cell 2
  have x2 : w0.cell? ⟨gx, 3, none⟩ = some (.string v) := AX.out.cell 3
  have x3 : w0.cell? ⟨gx, 4, none⟩ = some (.int .u64 s) := AX.out.cell 4
  clear HA HW0
  go_wp2_with fail
  refine FP.out.mono ?_
  rintro e w1 ⟨rfl, B1, b1, k1⟩
  have y1 : w1.cell? ⟨gx, 2, none⟩ = some (.string k) := (World.cell?_of_block (a := ⟨gx, 2, none⟩) (k1.2 gx PX.out).2).trans x1
  have y2 : w1.cell? ⟨gx, 3, none⟩ = some (.string v) := (World.cell?_of_block (a := ⟨gx, 3, none⟩) (k1.2 gx PX.out).2).trans x2
  obtain ⟨a', c', hv', O1⟩ := row_ops (own_kept T0.out.2.1 k1 hP.out) (fun x hx => may_ok (hf.out.1 x hx))
  cases hv'
  have FR1 := hid (FR.out w1 O1)
  have B1 := hid B1
  have b1 := hid b1
  have k1 := hid k1
  have hb1 : Hid (base ≤ w1.heap.size) := Nat.le_trans hb0.out b1.out.size
  clear FR FP O1 x1 x2 x3
  go_wp2_with fail
  refine FR1.out.mono ?_
  rintro e w2 ⟨u, rfl, hu, b2⟩
  have T2 := hid (TP.out w1 w2 u B1.out b1.out k1.out hu b2)
  have BW2 : Hid (Below base w w2) := (BW0.out.trans b1.out).trans (b2.mono hb1.out)
  clear hu b2 TP FR1 y1 y2
  obtain ⟨a2, c2, hu2, O2⟩ := T2.out.ops
  subst hu2
  have O2 := hid O2
  have hl2 : Hid (ys.length ≤ 8192) := Nat.le_trans T2.out.2.2.1.2.1 (by omega)
  have hm2 := hid T2.out.2.2.1.1
  have HLn := hid (len_any g ys base _ w2 T2.out.1)
  have HSz := hid (size_any g ys base _ w2 T2.out.1)
  have HRb := hid (rbytes_any a2 ys.length c2 ys w2 O2.out hl2.out hm2.out)
  clear O2 hl2 hm2
  generalize hz : bsz ys = z at *
  have HZ := hid hz
  clear hz
  go_wp2_with fail
  refine HLn.out.mono ?_
  rintro e w3 ⟨rfl, rfl⟩
  go_wp2_with fail
  refine HSz.out.mono ?_
  rintro e w4 ⟨rfl, rfl⟩
  go_wp2_with fail
  refine HRb.out.mono ?_
  rintro e w5 ⟨rfl, b5⟩
  have T5 := hid (T2.out.later b5)
  have BW5 : Hid (Below base w w5) := BW2.out.trans (b5.mono T2.out.2.2.2)
  clear b5
  go_wp2_with fail
  go_ret2
  exact ⟨_, _, rfl, T5.out, BW5.out⟩
set_option maxRecDepth 100000 in
set_option maxHeartbeats 4000000 in
theorem does1 (g base : Nat) (v0 : Value) (xs : List O) (x m : Int) (k v : ByteArray) (s : Int) (w : World) (H : Two w base g v0 xs) (HA0 : ∀ w, Calls Try.prog 23 #[.int .i64 x, .int .i64 5] w fun e w' => e = .returned (.int .i64 1) ∧ w' = w) :
    Calls Try.prog 12 #[.pointer (some ⟨g, 0, none⟩), v0, .agg #[.int .i64 x, .int .i64 m, .string k, .string v, .int .u64 s]] w fun e w' => ∃ u xs', e = .returned (.tuple #[u, .bool true]) ∧ Two w' base g u xs' ∧ Below base w w' := by
  obtain ⟨a, cc, hv0, _⟩ := H.ops
  subst hv0
  obtain ⟨W0, hW0⟩ : ∃ W0, W0 = w.alloc (.cells #[.int .i64 x, .int .i64 m, .string k, .string v, .int .u64 s] 30) := ⟨_, rfl⟩
  obtain ⟨gx, hgx⟩ : ∃ gx, gx = w.heap.size := ⟨_, rfl⟩
  have bb : Below w.heap.size w W0 := by rw [hW0]; exact box_below _ _
  have AX : Hid (Ax W0 gx x m k v s) := by show W0.heap[gx]? = _; rw [hW0, hgx]; show (w.heap.push _)[w.heap.size]? = _; simp
  have T0 := hid (H.later bb)
  obtain ⟨P, hPd⟩ : ∃ P : Nat → Prop, P = fun j => Of (.slice a xs.length cc) j ∨ j = gx := ⟨_, rfl⟩
  have PX : Hid (P gx) := by rw [hPd]; exact .inr rfl
  have hP : Hid (∀ j, Of (.slice a xs.length cc) j → P j) := fun j hj => by rw [hPd]; exact .inl hj
  have hp : Hid (∀ j, P j → j < W0.heap.size) := fun j hj => by
    rw [hPd] at hj
    rcases hj with hj | hj
    · exact T0.out.hp j hj
    · have := bb.size; rw [hj]; exact (Array.getElem?_eq_some_iff.1 AX.out).1
  have hpg : Hid (¬ P g) := fun hj => by
    rw [hPd] at hj
    rcases hj with hj | hj
    · exact T0.out.hpg hj
    · have := Bp.Bs.lt H.1; omega
  have B0 : Hid (Bs W0 base g P xs) := by show Bs _ _ _ _ _; rw [hPd, hgx]; exact Bp.Bs.more H.1 bb
  have hf := hid H.2.2.1
  have hb0 := hid T0.out.2.2.2
  have BW0 : Hid (Below base w W0) := bb.mono H.2.2.2
  have HW0 := hid hW0
  have HGX := hid hgx
  have HA := hid HA0
  clear hW0 hgx bb hPd H HA0
  have FP := hid (delete_any g k xs base P W0 B0.out hb0.out hp.out hpg.out hf.out)
  have FR : Hid (∀ W, Ops W a xs.length cc xs → Calls Try.prog 30 #[.slice a xs.length cc, .agg #[.int .i64 0, .string k, .string ⟨#[]⟩]] W fun e w' => ∃ u, e = .returned (.tuple #[u, .int .i64 (bput xs ⟨0, k, ⟨#[]⟩⟩).1]) ∧ ((u = .slice a xs.length cc ∧ (bput xs ⟨0, k, ⟨#[]⟩⟩).2 = xs) ∨ w'.ownsRow W.heap.size 60 3 u (bput xs ⟨0, k, ⟨#[]⟩⟩).2.length (ocs (bput xs ⟨0, k, ⟨#[]⟩⟩).2)) ∧ Below W.heap.size W w') := fun W h => rput_any a xs.length cc xs 0 k ⟨#[]⟩ W h hf.out
  have TP : Hid (∀ w1 w2 u, Bs w1 base g P (bput xs ⟨0, k, ⟨#[]⟩⟩).2 → Below base W0 w1 → Kept W0 w1 P → ((u = .slice a xs.length cc ∧ (bput xs ⟨0, k, ⟨#[]⟩⟩).2 = xs) ∨ w2.ownsRow w1.heap.size 60 3 u (bput xs ⟨0, k, ⟨#[]⟩⟩).2.length (ocs (bput xs ⟨0, k, ⟨#[]⟩⟩).2)) → Below w1.heap.size w1 w2 → Two w2 base g u (bput xs ⟨0, k, ⟨#[]⟩⟩).2) := fun w1 w2 u q1 q2 q3 q4 q5 => Two.put T0.out hP.out q1 q2 q3 q4 q5
  generalize bput xs ⟨0, k, ⟨#[]⟩⟩ = r at *
  obtain ⟨E, ys⟩ := r
  go_enter Try.func12, Try.ntmps12
  go_wp2_with fail
  rw [← HW0.out, ← HGX.out]
  refine (HA.out W0).mono ?_
  rintro e w0 ⟨rfl, rfl⟩
  have x1 : w0.cell? ⟨gx, 2, none⟩ = some (.string k) := AX.out.cell 2
  have x2 : w0.cell? ⟨gx, 3, none⟩ = some (.string v) := AX.out.cell 3
  have x3 : w0.cell? ⟨gx, 4, none⟩ = some (.int .u64 s) := AX.out.cell 4
  clear HA HW0
  go_wp2_with fail
  refine FP.out.mono ?_
  rintro e w1 ⟨rfl, B1, b1, k1⟩
  have y1 : w1.cell? ⟨gx, 2, none⟩ = some (.string k) := (World.cell?_of_block (a := ⟨gx, 2, none⟩) (k1.2 gx PX.out).2).trans x1
  have y2 : w1.cell? ⟨gx, 3, none⟩ = some (.string v) := (World.cell?_of_block (a := ⟨gx, 3, none⟩) (k1.2 gx PX.out).2).trans x2
  obtain ⟨a', c', hv', O1⟩ := row_ops (own_kept T0.out.2.1 k1 hP.out) (fun x hx => may_ok (hf.out.1 x hx))
  cases hv'
  have FR1 := hid (FR.out w1 O1)
  have B1 := hid B1
  have b1 := hid b1
  have k1 := hid k1
  have hb1 : Hid (base ≤ w1.heap.size) := Nat.le_trans hb0.out b1.out.size
  clear FR FP O1 x1 x2 x3
  go_wp2_with fail
  refine FR1.out.mono ?_
  rintro e w2 ⟨u, rfl, hu, b2⟩
  have T2 := hid (TP.out w1 w2 u B1.out b1.out k1.out hu b2)
  have BW2 : Hid (Below base w w2) := (BW0.out.trans b1.out).trans (b2.mono hb1.out)
  clear hu b2 TP FR1 y1 y2
  obtain ⟨a2, c2, hu2, O2⟩ := T2.out.ops
  subst hu2
  have O2 := hid O2
  have hl2 : Hid (ys.length ≤ 8192) := Nat.le_trans T2.out.2.2.1.2.1 (by omega)
  have hm2 := hid T2.out.2.2.1.1
  have HLn := hid (len_any g ys base _ w2 T2.out.1)
  have HSz := hid (size_any g ys base _ w2 T2.out.1)
  have HRb := hid (rbytes_any a2 ys.length c2 ys w2 O2.out hl2.out hm2.out)
  clear O2 hl2 hm2
  generalize hz : bsz ys = z at *
  have HZ := hid hz
  clear hz
  go_wp2_with fail
  refine HLn.out.mono ?_
  rintro e w3 ⟨rfl, rfl⟩
  go_wp2_with fail
  refine HSz.out.mono ?_
  rintro e w4 ⟨rfl, rfl⟩
  go_wp2_with fail
  refine HRb.out.mono ?_
  rintro e w5 ⟨rfl, b5⟩
  have T5 := hid (T2.out.later b5)
  have BW5 : Hid (Below base w w5) := BW2.out.trans (b5.mono T2.out.2.2.2)
  clear b5
  go_wp2_with fail
  go_ret2
  exact ⟨_, _, rfl, T5.out, BW5.out⟩
set_option maxRecDepth 100000 in
set_option maxHeartbeats 4000000 in
theorem does2 (g base : Nat) (v0 : Value) (xs : List O) (x m : Int) (k v : ByteArray) (s : Int) (w : World) (H : Two w base g v0 xs) (HA0 : ∀ w, Calls Try.prog 23 #[.int .i64 x, .int .i64 5] w fun e w' => e = .returned (.int .i64 2) ∧ w' = w) :
    Calls Try.prog 12 #[.pointer (some ⟨g, 0, none⟩), v0, .agg #[.int .i64 x, .int .i64 m, .string k, .string v, .int .u64 s]] w fun e w' => ∃ u xs', e = .returned (.tuple #[u, .bool true]) ∧ Two w' base g u xs' ∧ Below base w w' := by
  obtain ⟨a, cc, hv0, _⟩ := H.ops
  subst hv0
  obtain ⟨W0, hW0⟩ : ∃ W0, W0 = w.alloc (.cells #[.int .i64 x, .int .i64 m, .string k, .string v, .int .u64 s] 30) := ⟨_, rfl⟩
  obtain ⟨gx, hgx⟩ : ∃ gx, gx = w.heap.size := ⟨_, rfl⟩
  have bb : Below w.heap.size w W0 := by rw [hW0]; exact box_below _ _
  have AX : Hid (Ax W0 gx x m k v s) := by show W0.heap[gx]? = _; rw [hW0, hgx]; show (w.heap.push _)[w.heap.size]? = _; simp
  have T0 := hid (H.later bb)
  obtain ⟨P, hPd⟩ : ∃ P : Nat → Prop, P = fun j => Of (.slice a xs.length cc) j ∨ j = gx := ⟨_, rfl⟩
  have PX : Hid (P gx) := by rw [hPd]; exact .inr rfl
  have hP : Hid (∀ j, Of (.slice a xs.length cc) j → P j) := fun j hj => by rw [hPd]; exact .inl hj
  have hp : Hid (∀ j, P j → j < W0.heap.size) := fun j hj => by
    rw [hPd] at hj
    rcases hj with hj | hj
    · exact T0.out.hp j hj
    · have := bb.size; rw [hj]; exact (Array.getElem?_eq_some_iff.1 AX.out).1
  have hpg : Hid (¬ P g) := fun hj => by
    rw [hPd] at hj
    rcases hj with hj | hj
    · exact T0.out.hpg hj
    · have := Bp.Bs.lt H.1; omega
  have B0 : Hid (Bs W0 base g P xs) := by show Bs _ _ _ _ _; rw [hPd, hgx]; exact Bp.Bs.more H.1 bb
  have hf := hid H.2.2.1
  have hb0 := hid T0.out.2.2.2
  have BW0 : Hid (Below base w W0) := bb.mono H.2.2.2
  have HW0 := hid hW0
  have HGX := hid hgx
  have HA := hid HA0
  clear hW0 hgx bb hPd H HA0
  have FP := hid (range_any g k v xs base P W0 B0.out hb0.out hp.out hpg.out hf.out)
  have FR : Hid (∀ W, Ops W a xs.length cc xs → Calls Try.prog 30 #[.slice a xs.length cc, .agg #[.int .i64 2, .string k, .string v]] W fun e w' => ∃ u, e = .returned (.tuple #[u, .int .i64 (bput xs ⟨2, k, v⟩).1]) ∧ ((u = .slice a xs.length cc ∧ (bput xs ⟨2, k, v⟩).2 = xs) ∨ w'.ownsRow W.heap.size 60 3 u (bput xs ⟨2, k, v⟩).2.length (ocs (bput xs ⟨2, k, v⟩).2)) ∧ Below W.heap.size W w') := fun W h => rput_any a xs.length cc xs 2 k v W h hf.out
  have TP : Hid (∀ w1 w2 u, Bs w1 base g P (bput xs ⟨2, k, v⟩).2 → Below base W0 w1 → Kept W0 w1 P → ((u = .slice a xs.length cc ∧ (bput xs ⟨2, k, v⟩).2 = xs) ∨ w2.ownsRow w1.heap.size 60 3 u (bput xs ⟨2, k, v⟩).2.length (ocs (bput xs ⟨2, k, v⟩).2)) → Below w1.heap.size w1 w2 → Two w2 base g u (bput xs ⟨2, k, v⟩).2) := fun w1 w2 u q1 q2 q3 q4 q5 => Two.put T0.out hP.out q1 q2 q3 q4 q5
  generalize bput xs ⟨2, k, v⟩ = r at *
  obtain ⟨E, ys⟩ := r
  go_enter Try.func12, Try.ntmps12
  go_wp2_with fail
  rw [← HW0.out, ← HGX.out]
  refine (HA.out W0).mono ?_
  rintro e w0 ⟨rfl, rfl⟩
  have x1 : w0.cell? ⟨gx, 2, none⟩ = some (.string k) := AX.out.cell 2
  have x2 : w0.cell? ⟨gx, 3, none⟩ = some (.string v) := AX.out.cell 3
  have x3 : w0.cell? ⟨gx, 4, none⟩ = some (.int .u64 s) := AX.out.cell 4
  clear HA HW0
  go_wp2_with fail
  refine FP.out.mono ?_
  rintro e w1 ⟨rfl, B1, b1, k1⟩
  have y1 : w1.cell? ⟨gx, 2, none⟩ = some (.string k) := (World.cell?_of_block (a := ⟨gx, 2, none⟩) (k1.2 gx PX.out).2).trans x1
  have y2 : w1.cell? ⟨gx, 3, none⟩ = some (.string v) := (World.cell?_of_block (a := ⟨gx, 3, none⟩) (k1.2 gx PX.out).2).trans x2
  obtain ⟨a', c', hv', O1⟩ := row_ops (own_kept T0.out.2.1 k1 hP.out) (fun x hx => may_ok (hf.out.1 x hx))
  cases hv'
  have FR1 := hid (FR.out w1 O1)
  have B1 := hid B1
  have b1 := hid b1
  have k1 := hid k1
  have hb1 : Hid (base ≤ w1.heap.size) := Nat.le_trans hb0.out b1.out.size
  clear FR FP O1 x1 x2 x3
  go_wp2_with fail
  refine FR1.out.mono ?_
  rintro e w2 ⟨u, rfl, hu, b2⟩
  have T2 := hid (TP.out w1 w2 u B1.out b1.out k1.out hu b2)
  have BW2 : Hid (Below base w w2) := (BW0.out.trans b1.out).trans (b2.mono hb1.out)
  clear hu b2 TP FR1 y1 y2
  obtain ⟨a2, c2, hu2, O2⟩ := T2.out.ops
  subst hu2
  have O2 := hid O2
  have hl2 : Hid (ys.length ≤ 8192) := Nat.le_trans T2.out.2.2.1.2.1 (by omega)
  have hm2 := hid T2.out.2.2.1.1
  have HLn := hid (len_any g ys base _ w2 T2.out.1)
  have HSz := hid (size_any g ys base _ w2 T2.out.1)
  have HRb := hid (rbytes_any a2 ys.length c2 ys w2 O2.out hl2.out hm2.out)
  clear O2 hl2 hm2
  generalize hz : bsz ys = z at *
  have HZ := hid hz
  clear hz
  go_wp2_with fail
  refine HLn.out.mono ?_
  rintro e w3 ⟨rfl, rfl⟩
  go_wp2_with fail
  refine HSz.out.mono ?_
  rintro e w4 ⟨rfl, rfl⟩
  go_wp2_with fail
  refine HRb.out.mono ?_
  rintro e w5 ⟨rfl, b5⟩
  have T5 := hid (T2.out.later b5)
  have BW5 : Hid (Below base w w5) := BW2.out.trans (b5.mono T2.out.2.2.2)
  clear b5
  go_wp2_with fail
  go_ret2
  exact ⟨_, _, rfl, T5.out, BW5.out⟩
set_option maxRecDepth 100000 in
set_option maxHeartbeats 4000000 in
theorem does3 (g base : Nat) (v0 : Value) (xs : List O) (x m : Int) (k v : ByteArray) (s : Int) (w : World) (H : Two w base g v0 xs) (HA0 : ∀ w, Calls Try.prog 23 #[.int .i64 x, .int .i64 5] w fun e w' => e = .returned (.int .i64 3) ∧ w' = w) :
    Calls Try.prog 12 #[.pointer (some ⟨g, 0, none⟩), v0, .agg #[.int .i64 x, .int .i64 m, .string k, .string v, .int .u64 s]] w fun e w' => ∃ u xs', e = .returned (.tuple #[u, .bool true]) ∧ Two w' base g u xs' ∧ Below base w w' := by
  obtain ⟨a, cc, hv0, _⟩ := H.ops
  subst hv0
  obtain ⟨W0, hW0⟩ : ∃ W0, W0 = w.alloc (.cells #[.int .i64 x, .int .i64 m, .string k, .string v, .int .u64 s] 30) := ⟨_, rfl⟩
  obtain ⟨gx, hgx⟩ : ∃ gx, gx = w.heap.size := ⟨_, rfl⟩
  have bb : Below w.heap.size w W0 := by rw [hW0]; exact box_below _ _
  have AX : Hid (Ax W0 gx x m k v s) := by show W0.heap[gx]? = _; rw [hW0, hgx]; show (w.heap.push _)[w.heap.size]? = _; simp
  have T0 := hid (H.later bb)
  obtain ⟨P, hPd⟩ : ∃ P : Nat → Prop, P = fun j => Of (.slice a xs.length cc) j ∨ j = gx := ⟨_, rfl⟩
  have PX : Hid (P gx) := by rw [hPd]; exact .inr rfl
  have hP : Hid (∀ j, Of (.slice a xs.length cc) j → P j) := fun j hj => by rw [hPd]; exact .inl hj
  have hp : Hid (∀ j, P j → j < W0.heap.size) := fun j hj => by
    rw [hPd] at hj
    rcases hj with hj | hj
    · exact T0.out.hp j hj
    · have := bb.size; rw [hj]; exact (Array.getElem?_eq_some_iff.1 AX.out).1
  have hpg : Hid (¬ P g) := fun hj => by
    rw [hPd] at hj
    rcases hj with hj | hj
    · exact T0.out.hpg hj
    · have := Bp.Bs.lt H.1; omega
  have B0 : Hid (Bs W0 base g P xs) := by show Bs _ _ _ _ _; rw [hPd, hgx]; exact Bp.Bs.more H.1 bb
  have hf := hid H.2.2.1
  have hb0 := hid T0.out.2.2.2
  have BW0 : Hid (Below base w W0) := bb.mono H.2.2.2
  have HW0 := hid hW0
  have HGX := hid hgx
  have HA := hid HA0
  clear hW0 hgx bb hPd H HA0
  have FC := hid (clear_any g xs base P W0 B0.out hp.out hpg.out)
  go_enter Try.func12, Try.ntmps12
  go_wp2_with fail
  rw [← HW0.out, ← HGX.out]
  refine (HA.out W0).mono ?_
  rintro e w0 ⟨rfl, rfl⟩
  have x1 : w0.cell? ⟨gx, 2, none⟩ = some (.string k) := AX.out.cell 2
  have x2 : w0.cell? ⟨gx, 3, none⟩ = some (.string v) := AX.out.cell 3
  have x3 : w0.cell? ⟨gx, 4, none⟩ = some (.int .u64 s) := AX.out.cell 4
  clear HA HW0
  go_wp2_with fail
  refine FC.out.mono ?_
  rintro e w2 ⟨rfl, B1, b1, k1⟩
  have T2 := hid (Two.new B1 (Nat.le_trans hb0.out b1.size))
  have BW2 : Hid (Below base w w2) := BW0.out.trans b1
  have O2 : Ops w2 none 0 0 [] := by
    obtain ⟨a2, c2, hu2, O2⟩ := T2.out.ops
    simp at hu2
    obtain ⟨rfl, rfl⟩ := hu2
    exact O2
  have HLn : Hid (Calls Try.prog 10 #[.pointer (some ⟨g, 0, none⟩)] w2 fun e w' => e = .returned (.int .i64 0) ∧ w' = w2) := by
    have := len_any g [] base _ w2 B1
    exact hid (by simpa using this)
  have HSz : Hid (Calls Try.prog 11 #[.pointer (some ⟨g, 0, none⟩)] w2 fun e w' => e = .returned (.int .i64 12) ∧ w' = w2) := by
    have := size_any g [] base _ w2 B1
    exact hid (by simpa [bsz, osum] using this)
  have HRb : Hid (Calls Try.prog 31 #[.slice none 0 0] w2 fun e w' => e = .returned (.int .i64 12) ∧ Below w2.heap.size w2 w') := by
    have := rbytes_any none 0 0 [] w2 O2 (by omega) (by simp)
    exact hid (by simpa [bsz, osum] using this)
  clear B1 b1 k1 FC x1 x2 x3 O2
  go_wp2_with fail
  refine HLn.out.mono ?_
  rintro e w3 ⟨rfl, rfl⟩
  go_wp2_with fail
  refine HSz.out.mono ?_
  rintro e w4 ⟨rfl, rfl⟩
  go_wp2_with fail
  refine HRb.out.mono ?_
  rintro e w5 ⟨rfl, b5⟩
  have T5 := hid (T2.out.later b5)
  have BW5 : Hid (Below base w w5) := BW2.out.trans (b5.mono T2.out.2.2.2)
  clear b5
  go_wp2_with fail
  go_ret2
  exact ⟨_, _, rfl, T5.out, BW5.out⟩
end Go.Proofs.Ytmceanfgcehfeab.Do

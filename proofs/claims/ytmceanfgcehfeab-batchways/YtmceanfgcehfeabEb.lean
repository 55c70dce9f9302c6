/- Encode: the operation behind bytes, the batch: by the program and by the document's definition. -/
import Derived.Test.YtmceanfgcehfeabEn
namespace Go.Proofs.Ytmceanfgcehfeab.En
open Go.ChangeShapes Go.WideShapes Go.ChangeAt Go.RowKit
open Go.Proofs.Ytmceanfgcehfeab.By
open Go.Proofs.Ytmceanfgcehfeab.Ob
set_option linter.unusedVariables false

/-! ### The operation's own block -/
def Blk (W : World) (g : Nat) (c : Array Value) : Prop := W.heap[g]? = some (.cells c 60 (0, 0))
theorem Blk.lt {W : World} {g : Nat} {c : Array Value} (h : Blk W g c) : g < W.heap.size := (Array.getElem?_eq_some_iff.1 h).1
theorem Blk.cell {W : World} {g : Nat} {c : Array Value} (h : Blk W g c) (i : Nat) : W.cell? ⟨g, i, none⟩ = c[i]? := cell_of_row W g i c 60 (0, 0) h
theorem Blk.new (W : World) (c : Array Value) : Blk (W.alloc (.cells c 60)) W.heap.size c := by
  show (W.heap.push _)[W.heap.size]? = _
  simp
theorem Blk.later {W W' : World} {g : Nat} {c : Array Value} (h : Blk W g c) (b : Below W.heap.size W W') : Blk W' g c := by
  unfold Blk
  rw [b.block g h.lt]
  exact h
theorem Blk.apart {W : World} {g : Nat} {c : Array Value} {base : Nat} {v : Value} {n : Nat} {xs : List Int} (h : Blk W g c) (o : Own W base v n xs) : v.ownBlock ≠ some g := by
  intro e
  rcases o.2 with ⟨rfl, _⟩ | ⟨g', cap', cur, rfl, hb, hg, hr⟩
  · simp [Value.ownBlock] at e
  · simp [Value.ownBlock] at e
    subst e
    unfold Blk at h
    rw [hg] at h
    simp at h
theorem Blk.grown {W W' : World} {g : Nat} {c : Array Value} {base : Nat} {v : Value} {n : Nat} {xs : List Int} (h : Blk W g c) (o : Own W base v n xs) (k : W.grownBy W' v.ownBlock) : Blk W' g c := by
  unfold Blk
  rw [k.block g h.lt (fun e => h.apart o e.symm)]
  exact h
theorem puttext_nil (s : ByteArray) (w : World) (hs : s.size ≤ 1000000) :
    Calls Try.prog 52 #[.slice none 0 0, .string s] w fun e w' => ∃ c : Nat, e = .returned (.slice (some ⟨w.heap.size, 0, none⟩) (tsz s.size) c) ∧ Row w' w.heap.size w.heap.size (tsz s.size) c (tb s) ∧ Below w.heap.size w w' := by
  refine (putt_any none 0 0 [] s w (nil_bytes w) (by omega) (by omega)).mono ?_
  rintro e w' ⟨c, rfl, R, b⟩
  have e1 : 0 + (Vb.vb s.size).length + s.size = tsz s.size := by unfold tsz; omega
  have e2 : [] ++ Vb.vb s.size ++ tx s = tb s := by unfold tb; simp
  rw [e1] at R ⊢
  rw [e2] at R
  exact ⟨c, rfl, R, b⟩
theorem own_alloc {w : World} {base : Nat} {v : Value} {n : Nat} {xs : List Int} (h : Own w base v n xs) (o : Obj) : Own (w.alloc o) base v n xs := World.ownsRow.alloc h o
set_option maxHeartbeats 4000000 in
theorem appendop_any (b : Value) (m : Nat) (xs : List Int) (c : Int) (k v : ByteArray) (base : Nat) (w : World) (H : Own w base b m xs) (hbase : base ≤ w.heap.size) (hmay : may ⟨c, k, v⟩ = true) (hm : m ≤ 1000000000) :
    Calls Try.prog 40 #[b, .agg #[.int .i64 c, .string k, .string v]] w fun e w' => ∃ v', e = .returned v' ∧ Own w' base v' (m + osz ⟨c, k, v⟩) (xs ++ ob ⟨c, k, v⟩) ∧ Below base w w' := by
  obtain ⟨i0, hi, hz0, hz1, hz2⟩ := info_parts info5
  obtain ⟨hk1, hk2, hv2, hc0, hc2⟩ := may_sizes hmay
  simp only at hk1 hk2 hv2 hc0 hc2
  have HC : Hid (c % 256 = c) := by show _ = _; omega
  have lk : tsz k.size ≤ 2000 := by have := Vb.vb_le k.size; unfold tsz; omega
  have lv : tsz v.size ≤ 70000 := by have := Vb.vb_le v.size; unfold tsz; omega
  have HO0 : Hid (((w.alloc (.cells #[.int .i64 c, .string k, .string v] 60)).alloc (.cells #[.int .u8 c] 5)).ownsRow base 5 1 b m (xs.map (Value.int .u8))) := World.ownsRow.alloc (World.ownsRow.alloc H _) _
  have HB0 : Hid (Below base w ((w.alloc (.cells #[.int .i64 c, .string k, .string v] 60)).alloc (.cells #[.int .u8 c] 5))) := ((Below.refl _ _).alloc hbase _).alloc (by simp; omega) _
  have HK0 : Hid (Blk ((w.alloc (.cells #[.int .i64 c, .string k, .string v] 60)).alloc (.cells #[.int .u8 c] 5)) w.heap.size #[.int .i64 c, .string k, .string v]) := (Blk.new w _).later (box_below _ _)
  clear H hmay
  by_cases c0 : c = 0
  · have HOB : Hid (ob ⟨c, k, v⟩ = [c] ++ tb k) := by show _ = _; unfold ob; rw [if_pos c0]; simp
    have HOZ : Hid (osz ⟨c, k, v⟩ = 1 + tsz k.size) := by show _ = _; unfold osz; rw [if_pos c0]; rfl
    have e0 : (!decide (c = 0)) = false := by simp [c0]
    clear c0
    go_enter Try.func40, Try.ntmps40
    go_wp2_with (at_builtin; refine wpList_append_own _ rfl _ _ 33 rfl base 5 i0 (.int .u8 0) 1 1 Try.underlying33 hi hz0 hz1 hz2 rfl (by decide) _ _ _ rfl HO0.out ⟨w.heap.size + 1, 0, none⟩ 1 1 [.int .u8 c] rfl rfl ?c1 ?c2 ?c3 ?c4 ?c5 ?_)
    case c1 => intro j u hj; match j, hj with
      | 0, hj => simp at hj; subst hj; simp [Addr.add, go_sem]
    case c2 => intro u hu; simp at hu; subst hu; rfl
    case c3 => unfold maxLen; omega
    case c4 => omega
    case c5 => simp; omega
    intro v1 w1 own1 g1 _
    have O1 : Own w1 base v1 (m + 1) (xs ++ [c]) := by unfold Own; simpa using own1
    have B1 : Below base w w1 := HB0.out.grown g1 (by have := HB0.out.size; omega) (fun k hk => (World.ownsRow.lt HO0.out k hk).1)
    have K1 : Blk w1 w.heap.size #[.int .i64 c, .string k, .string v] := HK0.out.grown HO0.out g1
    have hb1 : base ≤ w1.heap.size := by have := B1.size; omega
    have q0 : w1.cell? ⟨w.heap.size, 0, none⟩ = some (.int .i64 c) := K1.cell 0
    have q1 : w1.cell? ⟨w.heap.size, 1, none⟩ = some (.string k) := K1.cell 1
    have q2 : w1.cell? ⟨w.heap.size, 2, none⟩ = some (.string v) := K1.cell 2
    have HO1 := hid O1
    have HB1 := hid B1
    have HK1 := hid K1
    clear own1 g1 O1 B1 K1 HO0 HB0 HK0
    go_wp2_with fail
    refine (puttext_nil k w1 (by omega)).mono ?_
    rintro e w2 ⟨ck, rfl, Rk, b2⟩
    have O2 := HO1.out.later b2
    have B2 : Below base w w2 := HB1.out.trans (b2.mono hb1)
    have K2 := HK1.out.later b2
    have q0 : w2.cell? ⟨w.heap.size, 0, none⟩ = some (.int .i64 c) := K2.cell 0
    have q2 : w2.cell? ⟨w.heap.size, 2, none⟩ = some (.string v) := K2.cell 2
    have HO2 := hid O2
    have HB2 := hid B2
    have HK2 := hid K2
    have HRk := hid Rk
    have h12 := b2.size
    clear b2 O2 B2 K2 HO1 HB1 HK1 Rk q1
    go_wp2_with (at_builtin; refine wpList_append_own _ rfl _ _ 33 rfl base 5 i0 (.int .u8 0) 1 1 Try.underlying33 hi hz0 hz1 hz2 rfl (by decide) _ _ _ rfl HO2.out ⟨w1.heap.size, 0, none⟩ (tsz k.size) ck ((tb k).map (Value.int .u8)) rfl (by simp [tb_len]) (World.ownsRow.cells HRk.out (g := w1.heap.size) rfl) (one_cell _) ?d3 ?d4 ?d5 ?_)
    case d3 => unfold maxLen; omega
    case d4 => omega
    case d5 => omega
    intro v3 w3 own3 g3 _
    have O3 : Own w3 base v3 (m + 1 + tsz k.size) (xs ++ [c] ++ tb k) := by unfold Own; simpa using own3
    have B3 : Below base w w3 := HB2.out.grown g3 (by omega) (fun k hk => (World.ownsRow.lt HO2.out k hk).1)
    have K3 : Blk w3 w.heap.size #[.int .i64 c, .string k, .string v] := HK2.out.grown HO2.out g3
    have q0 : w3.cell? ⟨w.heap.size, 0, none⟩ = some (.int .i64 c) := K3.cell 0
    have q2 : w3.cell? ⟨w.heap.size, 2, none⟩ = some (.string v) := K3.cell 2
    have hb3 : base ≤ w3.heap.size := by have := B3.size; omega
    have HO3 := hid O3
    have HB3 := hid B3
    have HK3 := hid K3
    clear own3 g3 O3 B3 K3 HO2 HB2 HK2 HRk
    go_wp2_with fail
    refine (hasvalue_any c _).mono ?_
    rintro e w4 ⟨rfl, rfl⟩
    rw [e0]
    go_wp2_with fail
    go_ret
    exact ⟨_, rfl, by rw [HOB.out, HOZ.out, ← List.append_assoc, ← Nat.add_assoc]; exact HO3.out, HB3.out⟩
  · have HOB : Hid (ob ⟨c, k, v⟩ = [c] ++ tb k ++ tb v) := by show _ = _; unfold ob; rw [if_neg c0]; simp
    have HOZ : Hid (osz ⟨c, k, v⟩ = 1 + tsz k.size + tsz v.size) := by show _ = _; unfold osz; rw [if_neg c0]
    have e0 : (!decide (c = 0)) = true := by simp [c0]
    clear c0
    go_enter Try.func40, Try.ntmps40
    go_wp2_with (at_builtin; refine wpList_append_own _ rfl _ _ 33 rfl base 5 i0 (.int .u8 0) 1 1 Try.underlying33 hi hz0 hz1 hz2 rfl (by decide) _ _ _ rfl HO0.out ⟨w.heap.size + 1, 0, none⟩ 1 1 [.int .u8 c] rfl rfl ?c1 ?c2 ?c3 ?c4 ?c5 ?_)
    case c1 => intro j u hj; match j, hj with
      | 0, hj => simp at hj; subst hj; simp [Addr.add, go_sem]
    case c2 => intro u hu; simp at hu; subst hu; rfl
    case c3 => unfold maxLen; omega
    case c4 => omega
    case c5 => simp; omega
    intro v1 w1 own1 g1 _
    have O1 : Own w1 base v1 (m + 1) (xs ++ [c]) := by unfold Own; simpa using own1
    have B1 : Below base w w1 := HB0.out.grown g1 (by have := HB0.out.size; omega) (fun k hk => (World.ownsRow.lt HO0.out k hk).1)
    have K1 : Blk w1 w.heap.size #[.int .i64 c, .string k, .string v] := HK0.out.grown HO0.out g1
    have hb1 : base ≤ w1.heap.size := by have := B1.size; omega
    have q0 : w1.cell? ⟨w.heap.size, 0, none⟩ = some (.int .i64 c) := K1.cell 0
    have q1 : w1.cell? ⟨w.heap.size, 1, none⟩ = some (.string k) := K1.cell 1
    have q2 : w1.cell? ⟨w.heap.size, 2, none⟩ = some (.string v) := K1.cell 2
    have HO1 := hid O1
    have HB1 := hid B1
    have HK1 := hid K1
    clear own1 g1 O1 B1 K1 HO0 HB0 HK0
    go_wp2_with fail
    refine (puttext_nil k w1 (by omega)).mono ?_
    rintro e w2 ⟨ck, rfl, Rk, b2⟩
    have O2 := HO1.out.later b2
    have B2 : Below base w w2 := HB1.out.trans (b2.mono hb1)
    have K2 := HK1.out.later b2
    have q0 : w2.cell? ⟨w.heap.size, 0, none⟩ = some (.int .i64 c) := K2.cell 0
    have q2 : w2.cell? ⟨w.heap.size, 2, none⟩ = some (.string v) := K2.cell 2
    have HO2 := hid O2
    have HB2 := hid B2
    have HK2 := hid K2
    have HRk := hid Rk
    have h12 := b2.size
    clear b2 O2 B2 K2 HO1 HB1 HK1 Rk q1
    go_wp2_with (at_builtin; refine wpList_append_own _ rfl _ _ 33 rfl base 5 i0 (.int .u8 0) 1 1 Try.underlying33 hi hz0 hz1 hz2 rfl (by decide) _ _ _ rfl HO2.out ⟨w1.heap.size, 0, none⟩ (tsz k.size) ck ((tb k).map (Value.int .u8)) rfl (by simp [tb_len]) (World.ownsRow.cells HRk.out (g := w1.heap.size) rfl) (one_cell _) ?d3 ?d4 ?d5 ?_)
    case d3 => unfold maxLen; omega
    case d4 => omega
    case d5 => omega
    intro v3 w3 own3 g3 _
    have O3 : Own w3 base v3 (m + 1 + tsz k.size) (xs ++ [c] ++ tb k) := by unfold Own; simpa using own3
    have B3 : Below base w w3 := HB2.out.grown g3 (by omega) (fun k hk => (World.ownsRow.lt HO2.out k hk).1)
    have K3 : Blk w3 w.heap.size #[.int .i64 c, .string k, .string v] := HK2.out.grown HO2.out g3
    have q0 : w3.cell? ⟨w.heap.size, 0, none⟩ = some (.int .i64 c) := K3.cell 0
    have q2 : w3.cell? ⟨w.heap.size, 2, none⟩ = some (.string v) := K3.cell 2
    have hb3 : base ≤ w3.heap.size := by have := B3.size; omega
    have HO3 := hid O3
    have HB3 := hid B3
    have HK3 := hid K3
    clear own3 g3 O3 B3 K3 HO2 HB2 HK2 HRk
    go_wp2_with fail
    refine (hasvalue_any c _).mono ?_
    rintro e w4 ⟨rfl, rfl⟩
    rw [e0]
    go_wp2_with fail
    refine (puttext_nil v w4 (by omega)).mono ?_
    rintro e w5 ⟨cv, rfl, Rv, b5⟩
    have O5 := HO3.out.later b5
    have B5 : Below base w w5 := HB3.out.trans (b5.mono hb3)
    have HO5 := hid O5
    have HB5 := hid B5
    have HRv := hid Rv
    have h45 := b5.size
    clear b5 O5 B5 HO3 HB3 HK3 Rv q0 q2
    go_wp2_with (at_builtin; refine wpList_append_own _ rfl _ _ 33 rfl base 5 i0 (.int .u8 0) 1 1 Try.underlying33 hi hz0 hz1 hz2 rfl (by decide) _ _ _ rfl HO5.out ⟨w4.heap.size, 0, none⟩ (tsz v.size) cv ((tb v).map (Value.int .u8)) rfl (by simp [tb_len]) (World.ownsRow.cells HRv.out (g := w4.heap.size) rfl) (one_cell _) ?f3 ?f4 ?f5 ?_)
    case f3 => unfold maxLen; omega
    case f4 => omega
    case f5 => omega
    intro v6 w6 own6 g6 _
    have HO6 : Hid (Own w6 base v6 (m + 1 + tsz k.size + tsz v.size) (xs ++ [c] ++ tb k ++ tb v)) := by
      show Own _ _ _ _ _
      unfold Own
      simpa using own6
    have HB6 : Hid (Below base w w6) := HB5.out.grown g6 (by omega) (fun k hk => (World.ownsRow.lt HO5.out k hk).1)
    clear own6 g6 HO5 HB5 HRv
    go_wp2_with fail
    go_ret
    exact ⟨_, rfl, by rw [HOB.out, HOZ.out]; have := HO6.out; simp only [← List.append_assoc, ← Nat.add_assoc]; exact this, HB6.out⟩
end Go.Proofs.Ytmceanfgcehfeab.En

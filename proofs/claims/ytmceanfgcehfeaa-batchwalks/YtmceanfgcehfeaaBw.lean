/- BatchWalks, walked. -/
import Derived.Test.YtmceanfgcehfeaaIv
import Derived.Test.YtmceanfgcehfeaaQi
import Derived.Test.YtmceanfgcehfeaaRw
import Derived.Test.YtmceanfgcehfeaaLk
import Derived.Test.YtmceanfgcehfeaaWk
import Derived.Laws.StructEq
import Derived.BigFrameIn
namespace Go.Proofs.Ytmceanfgcehfeaa.Bw
open Go.ChangeShapes Go.WideShapes Go.ChangeAt Go.RowKit Go.Shelf
open Go.Proofs.Ytmceanfgcehfeaa.By
open Go.Proofs.Ytmceanfgcehfeaa.Ob
open Go.Proofs.Ytmceanfgcehfeaa.Hd
open Go.Proofs.Ytmceanfgcehfeaa.Rp
open Go.Proofs.Ytmceanfgcehfeaa.It
open Go.Proofs.Ytmceanfgcehfeaa.Rt (walked_short walked_any)
open Go.Proofs.Ytmceanfgcehfeaa.De (row_ops may_ok wlk_may wlk_len)
open Go.Proofs.Ytmceanfgcehfeaa.Iv
set_option linter.unusedVariables false
set_option linter.unusedSimpArgs false
attribute [local go_sem] Oper.semAt_some

theorem blk_lt {w : World} {g : Nat} {o : Obj} (h : w.heap[g]? = some o) : g < w.heap.size := (Array.getElem?_eq_some_iff.1 h).1
theorem new_at (w : World) (o : Obj) : (w.alloc o).heap[w.heap.size]? = some o := by show (w.heap.push o)[w.heap.size]? = _; simp
theorem new_box {W : World} {n : Nat} (h : n = W.heap.size) (t : TypeId) (v : Value) : Boxed (W.alloc (.cells #[v] t)) n t v := by rw [h]; exact Boxed.new W t v
theorem cell_of {w : World} {g : Nat} {c : Array Value} {t : TypeId} (h : w.heap[g]? = some (.cells c t)) (i : Nat) (v : Value) (hi : c[i]? = some v) : w.cell? ⟨g, i, none⟩ = some v := by
  unfold World.cell?; rw [h]; exact hi
theorem fz_of {w : World} {g : Nat} {c : Array Value} {t : TypeId} (h : w.heap[g]? = some (.cells c t)) (i : Nat) : w.frozen? ⟨g, i, none⟩ = false := by
  simp [World.frozen?, h]
theorem set_of {w : World} {g : Nat} {c : Array Value} {t : TypeId} (h : w.heap[g]? = some (.cells c t)) (i : Nat) (v : Value) : (w.setCell ⟨g, i, none⟩ v).heap[g]? = some (.cells (c.setIfInBounds i v) t) := by
  simp [World.setCell, Array.getElem?_modify, h]
theorem set_ne (w : World) (g k i : Nat) (v : Value) (h : k ≠ g) : (w.setCell ⟨g, i, none⟩ v).heap[k]? = w.heap[k]? := Below.heap_setCell w _ _ k (by simpa using h)
theorem grown_of {w w' : World} {row : Option Nat} (b : Below w.heap.size w w') : w.grownBy w' row := ⟨b.os, b.tape, b.output, b.size, fun k hk _ => b.block k hk⟩
theorem belowK_b' {n₀ : Nat} {w : World} (hn : n₀ ≤ w.heap.size) (W : World) (l : Nat) (o o' : Obj) (hl : w.heap.size ≤ l) (h : W.heap[l]? = some o) : Below n₀ W (W.putObj l o') :=
  (Below.refl n₀ W).grown (grownBy_putObj' W l o') (by have := (Array.getElem?_eq_some_iff.1 h).1; omega) (fun k e => by cases e; omega)
theorem belowN {B : Nat} {a w : World} (h : Below B a w) (n : Nat) : Below B a (w.drewN n) := ⟨h.os, h.tape, h.output, h.size, h.block⟩
/-- Nothing below a size has turned but one block. -/
structure Keep (M g : Nat) (A B : World) : Prop where
  os : B.os = A.os
  tape : B.tape = A.tape
  output : B.output = A.output
  size : A.heap.size ≤ B.heap.size
  block : ∀ q, q < M → q ≠ g → B.heap[q]? = A.heap[q]?
theorem Keep.refl (M g : Nat) (A : World) : Keep M g A A := ⟨rfl, rfl, rfl, Nat.le_refl _, fun _ _ _ => rfl⟩
theorem Keep.trans {M g : Nat} {A B C : World} (h : Keep M g A B) (k : Keep M g B C) : Keep M g A C := ⟨k.os.trans h.os, k.tape.trans h.tape, k.output.trans h.output, Nat.le_trans h.size k.size, fun q h1 h2 => (k.block q h1 h2).trans (h.block q h1 h2)⟩
theorem Keep.below {M g : Nat} {A B : World} (h : Below M A B) : Keep M g A B := ⟨h.os, h.tape, h.output, h.size, fun q h1 _ => h.block q h1⟩
theorem Keep.grown {M g : Nat} {A B C : World} {row : Option Nat} (h : Keep M g A B) (k : B.grownBy C row) (hs : M ≤ B.heap.size) (hr : ∀ q, row = some q → M ≤ q ∨ q = g) : Keep M g A C :=
  ⟨k.os.trans h.os, k.tape.trans h.tape, k.output.trans h.output, Nat.le_trans h.size k.size, fun q h1 h2 => (k.block q (by omega) (fun e => by rcases hr q e.symm with h | h <;> omega)).trans (h.block q h1 h2)⟩
theorem num_get (s : Int) : ∀ (xs : List O) (k : Nat), k < xs.length → (num s xs)[k]? = some (IntKind.u64.wrap (s + k), xs.getD k zo)
  | [], k, h => by simp at h
  | x :: r, 0, h => by simp [num]
  | x :: r, k + 1, h => by
    have := num_get (s + 1) r k (by simpa using h)
    simp only [num, List.getElem?_cons_succ]
    rw [this, show s + 1 + (k : Int) = s + ((k + 1 : Nat) : Int) from by omega]
    simp [List.getD_eq_getElem?_getD]
/-- What the items are, and what the document has found. -/
theorem pre_item {S : Int} {xs : List O} {pre : List (Int × O)} {x : Int × O} (h : pre ++ [x] <+: num S xs) : pre.length < xs.length ∧ x = (IntKind.u64.wrap (S + pre.length), xs.getD pre.length zo) := by
  have hl := h.length_le
  rw [num_len, List.length_append] at hl
  simp at hl
  refine ⟨by omega, ?_⟩
  have h1 := num_get S xs pre.length (by omega)
  obtain ⟨t, ht⟩ := h
  rw [← ht] at h1
  simp at h1
  exact h1
/-- What stays, all the time. -/
structure Fx (n0 sq ob bx : Nat) (early S : Int) (av : Option Addr) (nv cv : Nat) (xs : List O) (a' : Option Addr) (len c' : Nat) (zs : List Int) (W : World) : Prop where
  e : Boxed W n0 3 (.int .i64 early)
  r : Boxed W (n0 + 1) 4 (.bool false)
  s : Boxed W sq 32 (.int .u64 S)
  o : Boxed W ob 22 (.slice av nv cv)
  os : Ops W av nv cv xs
  b : Boxed W bx 33 (.slice a' len c')
  bs : Bytes W a' len c' zs
theorem cell_same {w w' : World} {b : Nat} (e : w'.heap[b]? = w.heap[b]?) (o : Nat) : w'.cell? ⟨b, o, none⟩ = w.cell? ⟨b, o, none⟩ := by
  unfold World.cell?; rw [e]
theorem ops_other {w w' : World} {a : Option Addr} {len cap : Nat} {xs : List O} (h : Ops w a len cap xs) (e : ∀ b o p, a = some ⟨b, o, p⟩ → 0 < len → w'.heap[b]? = w.heap[b]?) : Ops w' a len cap xs :=
  ⟨h.1, h.2.1, h.2.2.1, h.2.2.2.1, fun b o p hp hl => ⟨(h.2.2.2.2 b o p hp hl).1, fun i hi => by
    obtain ⟨c0, c1, c2⟩ := (h.2.2.2.2 b o p hp hl).2 i hi
    have q := e b o p hp hl
    exact ⟨(cell_same q _).trans c0, (cell_same q _).trans c1, (cell_same q _).trans c2⟩⟩⟩
theorem bytes_other {w w' : World} {a : Option Addr} {len cap : Nat} {zs : List Int} (h : Bytes w a len cap zs) (e : ∀ x, a = some x → 0 < len → w'.heap[x.block]? = w.heap[x.block]?) : Bytes w' a len cap zs :=
  ⟨h.1, h.2.1, h.2.2.1, h.2.2.2.1, fun x hx j hj => by
    have := h.2.2.2.2 x hx j hj
    rw [← this]
    unfold World.cell?
    rw [show (x.add j).block = x.block from by unfold Addr.add; split <;> rfl, e x hx (by omega)]⟩
/-- The bytes that are written over. -/
def In (g len : Nat) (W : World) : Prop := ∃ cur : Array Value, W.heap[g]? = some (.cells cur 5) ∧ len ≤ cur.size ∧ ∀ i, i < len → ∃ y, cur[i]? = some (.int .u8 y)
theorem In.same {g len : Nat} {W W' : World} (h : In g len W) (e : W'.heap[g]? = W.heap[g]?) : In g len W' := by
  obtain ⟨cur, h1, h2, h3⟩ := h
  exact ⟨cur, e.trans h1, h2, h3⟩
/-- What the loop over the operations holds. -/
structure Ii (M g ib rb : Nat) (rd : Int) (w8 X : World) (ys : List (Int × O)) (W : World) : Prop where
  k : Keep M g w8 W
  r : Boxed W rb 3 (.int .i64 rd)
  i : Boxed W ib 3 (.int .i64 ((ys.length : Nat) : Int))
  gg : ∀ q, q < rb → M ≤ q ∨ q = g → W.heap[q]? = X.heap[q]?
  z1 : M ≤ rb
  z2 : rb < ib
  z3 : g < M
theorem Ii.grown {M g ib rb : Nat} {rd : Int} {w8 X : World} {ys : List (Int × O)} {W W' : World} {row : Option Nat} (h : Ii M g ib rb rd w8 X ys W) (k : W.grownBy W' row) (hr : ∀ q, row = some q → ib < q) : Ii M g ib rb rd w8 X ys W' := by
  have z1 := h.z1
  have z2 := h.z2
  have z3 := h.z3
  have lt := h.i.lt
  have ne : ∀ q, q ≤ ib → some q ≠ row := fun q hq e => by have := hr q e.symm; omega
  exact ⟨h.k.grown k (by omega) (fun q e => .inl (by have := hr q e; omega)), h.r.kept k (ne _ (by omega)), h.i.kept k (ne _ (by omega)), fun q h1 h2 => (k.block q (by omega) (ne _ (by omega))).trans (h.gg q h1 h2), z1, z2, z3⟩
theorem Ii.later {M g ib rb : Nat} {rd : Int} {w8 X : World} {ys : List (Int × O)} {W W' : World} (h : Ii M g ib rb rd w8 X ys W) (k : Below W.heap.size W W') : Ii M g ib rb rd w8 X ys W' := h.grown (row := none) (grown_of k) (fun q e => by cases e)
theorem Ii.drew {M g ib rb : Nat} {rd : Int} {w8 X : World} {ys : List (Int × O)} {W : World} (h : Ii M g ib rb rd w8 X ys W) (n : Nat) : Ii M g ib rb rd w8 X ys (W.drewN n) := ⟨⟨h.k.os, h.k.tape, h.k.output, h.k.size, h.k.block⟩, h.r, h.i, h.gg, h.z1, h.z2, h.z3⟩
/-- One more. -/
theorem Ii.up {M g ib rb : Nat} {rd : Int} {w8 X : World} {ys : List (Int × O)} {W : World} (h : Ii M g ib rb rd w8 X ys W) (x : Int × O) (n : Nat) : Ii M g ib rb rd w8 X (ys ++ [x]) ((W.drewN n).setCell ⟨ib, 0, none⟩ (.int .i64 (((ys.length : Nat) : Int) + 1))) := by
  have z1 := h.z1
  have z2 := h.z2
  have z3 := h.z3
  have h' := h.drew n
  refine ⟨⟨h'.k.os, h'.k.tape, h'.k.output, by simpa using h'.k.size, fun q h1 h2 => (set_ne _ _ _ _ _ (by omega)).trans (h'.k.block q h1 h2)⟩, (set_ne _ _ _ _ _ (by omega)).trans h'.r, ?_, fun q h1 h2 => (set_ne _ _ _ _ _ (by omega)).trans (h'.gg q h1 h2), z1, z2, z3⟩
  have := Boxed.set (.int .i64 (((ys.length : Nat) : Int) + 1)) h'.i
  rw [List.length_append]
  simpa using this
theorem keeps_drew (W : World) (n : Nat) : KeepsOthers W (W.drewN n) := ⟨Nat.le_refl _, fun k o hk ho => hk⟩
theorem heap_drewN (W : World) (n q : Nat) : (W.drewN n).heap[q]? = W.heap[q]? := rfl
/-- What a round of the body shows. -/
theorem body_post {M g ib rb bx n0 : Nat} {rd early : Int} {w8 X : World} {ys : List (Int × O)} {W : World} (h : Ii M g ib rb rd w8 X ys W) (n N0 : Nat) (v : Value) (hbx : bx < M) (hn : n0 < M) (ce : W.cell? ⟨n0, 0, none⟩ = some (.int .i64 early)) :
    KeepsFrom N0 W ((W.drewN n).setCell ⟨ib, 0, none⟩ v) ∧ Kp M bx W ((W.drewN n).setCell ⟨ib, 0, none⟩ v) ∧ ((W.drewN n).setCell ⟨ib, 0, none⟩ v).cell? ⟨n0, 0, none⟩ = some (.int .i64 early) ∧ ((W.drewN n).setCell ⟨ib, 0, none⟩ v).cell? ⟨rb, 0, none⟩ = some (.int .i64 rd) := by
  have z1 := h.z1
  have z2 := h.z2
  refine ⟨((keeps_drew W n).trans (KeepsOthers.setCell _ _ _)).from _, ⟨(belowN (Below.refl M W) n).setCell (p := ⟨ib, 0, none⟩) (show M ≤ ib by omega) _, (set_ne _ _ _ _ _ (by omega)).trans (heap_drewN _ _ _)⟩, ?_, ?_⟩
  · exact (cell_same ((set_ne _ _ _ _ _ (by omega)).trans (heap_drewN _ _ _)) _).trans ce
  · exact (cell_same ((set_ne _ _ _ _ _ (by omega)).trans (heap_drewN _ _ _)) _).trans h.r.cell
theorem In.set {g len : Nat} {W : World} (h : In g len W) (k : Nat) (v : Int) : In g len (W.setCell ⟨g, k, none⟩ (.int .u8 v)) := by
  obtain ⟨cur, h1, h2, h3⟩ := h
  refine ⟨_, set_of h1 k _, by simpa using h2, fun i hi => ?_⟩
  by_cases e : k = i
  · subst e
    exact ⟨v, by rw [Array.getElem?_setIfInBounds_self_of_lt (by omega)]⟩
  · obtain ⟨y, hy⟩ := h3 i hi
    exact ⟨y, by rw [Array.getElem?_setIfInBounds_ne e]; exact hy⟩
theorem In.cell {g len : Nat} {W : World} (h : In g len W) (k : Nat) (hk : k < len) : ∃ y, W.cell? ⟨g, k, none⟩ = some (.int .u8 y) ∧ W.frozen? ⟨g, k, none⟩ = false := by
  obtain ⟨cur, h1, h2, h3⟩ := h
  obtain ⟨y, hy⟩ := h3 k hk
  exact ⟨y, cell_of h1 k _ hy, fz_of h1 k⟩
theorem grown_set {A W : World} {g : Nat} (h : A.grownBy W (some g)) (k : Nat) (v : Value) : A.grownBy (W.setCell ⟨g, k, none⟩ v) (some g) :=
  ⟨h.os, h.tape, h.output, by simpa using h.size, fun q h1 h2 => (set_ne _ _ _ _ _ (fun e => h2 (by rw [e]))).trans (h.block q h1 h2)⟩
theorem Keep.toBelow {M g n : Nat} {A B : World} (h : Keep M g A B) (h1 : n ≤ g) (h2 : n ≤ M) : Below n A B := ⟨h.os, h.tape, h.output, h.size, fun q hq => h.block q (by omega) (by omega)⟩
theorem two_take {W : World} {D0 D1 : Nat} {o o' : Obj} (h : W.heap[D0]? = some o) (hne : D1 ≠ D0) : (W.putObj D1 o').heap[D0]? = some o := (World.putObj_heap_other (fun e => hne (by omega))).trans h
set_option maxRecDepth 100000 in
set_option maxHeartbeats 4000000 in
theorem walks_in (a : Option Addr) (len cap : Nat) (zs : List Int) (early : Int) (w : World) (H : Bytes w a len cap zs) (hcap : len ≤ 140737488351232) (S : Int) (xs : List O)
    (hit : items zs = num S xs) (hS : 0 ≤ S ∧ S ≤ 18446744073709551615) (hxl : xs.length ≤ 4294967296)
    (HWk : ∀ W, Bytes W a len cap zs → Calls Try.prog 29 #[.slice a len cap] W fun e w' => ∃ av cv en, e = .returned (.tuple #[.int .u64 S, .slice av xs.length cv, .int .i64 en]) ∧ Ops w' av xs.length cv xs ∧ (∀ b, (Value.slice av xs.length cv).ownBlock = some b → W.heap.size ≤ b ∧ b < w'.heap.size) ∧ Below W.heap.size W w') :
    CallsIn Fence.wide 8 Try.prog 8 #[.slice a len cap, .int .i64 early] w fun r w' => r = .returned (.bool true) ∧ Below w.heap.size w w' := by
  refine callsIn_of_wp_marks Try.func8 rfl trivial ?_ rfl
  simp only [Try.ntmps8, List.size_toArray, List.length_cons, List.length_nil, Nat.reduceAdd, Nat.reduceSub, Array.replicate_succ, Array.replicate_zero, List.push_toArray, List.append_toArray, List.nil_append, List.cons_append]
  obtain ⟨n0, hn0⟩ : ∃ n0, n0 = w.heap.size := ⟨_, rfl⟩
  obtain ⟨W2, hW2⟩ : ∃ W, W = (w.alloc (.cells #[.int .i64 early] 3)).alloc (.cells #[.bool false] 4) := ⟨_, rfl⟩
  have s2 : W2.heap.size = n0 + 2 := by rw [hW2, hn0]; simp
  have B2 : Below n0 w W2 := by rw [hW2, hn0]; exact (box_below w _).alloc (by simp) _
  have k0 : Boxed W2 n0 3 (.int .i64 early) := by rw [hW2]; exact (new_box hn0 _ _).alloc _
  have k1 : Boxed W2 (n0 + 1) 4 (.bool false) := by rw [hW2]; exact new_box (by simp; omega) _ _
  have H2 := bytes_kept H (by rw [hn0] at B2; exact B2)
  have HL := hid (By.lent_any a len cap zs W2 H2 (by omega))
  have hnf : ∀ (fn : Fn) (u v : Array Value) (w : World), Sem.run Try.prog (binOp .eql 58 (.func fn u v) .nilFunc) w = .ok (.bool false) w := fun fn u v w => rfl
  replace H := hid H
  replace H2 := hid H2
  replace hit := hid hit
  replace HWk := hid HWk
  replace k0 := hid k0
  replace k1 := hid k1
  replace B2 := hid B2
  replace hW2 := hid hW2
  replace hn0 := hid hn0
  gi_wp2_with fail
  rw [← hn0.out, ← hW2.out]
  refine ⟨trivial, (callsIn_wide.2 HL.out).mono ?_⟩
  rintro r w3 ⟨g, c, rfl, R3, b3⟩
  have H3 := bytes_kept H2.out b3
  have HI3 := By.lent_bytes R3 H.out.2.2.2.1
  have hg := R3.lt
  have z3 := b3.size
  replace R3 := hid R3
  replace HI3 := hid HI3
  replace H3 := hid H3
  replace b3 := hid b3
  gi_wp2_with fail
  refine ⟨trivial, (callsIn_wide.2 (HWk.out _ H3.out)).mono ?_⟩
  rintro r w4 ⟨av, cv, en, rfl, O4, hlO, b4⟩
  have z4 := b4.size
  obtain ⟨N, hN⟩ : ∃ N, N = xs.length := ⟨_, rfl⟩
  rw [← hN] at O4 hlO ⊢
  obtain ⟨W6, hW6⟩ : ∃ W, W = (w4.alloc (.cells #[.int .u64 S] 32)).alloc (.cells #[.slice av N cv] 22) := ⟨_, rfl⟩
  obtain ⟨sq, hsq⟩ : ∃ sq, sq = w4.heap.size := ⟨_, rfl⟩
  have s6 : W6.heap.size = sq + 2 := by rw [hW6, hsq]; simp
  have b46 : Below w4.heap.size w4 W6 := by rw [hW6]; exact (box_below w4 _).alloc (by simp) _
  have k6 : Boxed W6 sq 32 (.int .u64 S) := by rw [hW6]; exact (new_box hsq _ _).alloc _
  have k7 : Boxed W6 (sq + 1) 22 (.slice av N cv) := by rw [hW6]; exact new_box (by simp; omega) _ _
  have O6 := O4.later b46
  have HI6 := bytes_kept (bytes_kept HI3.out b4) b46
  replace O4 := hid O4
  replace hlO := hid hlO
  replace b4 := hid b4
  replace b46 := hid b46
  replace hN := hid hN
  replace hW6 := hid hW6
  replace hsq := hid hsq
  replace k6 := hid k6
  replace k7 := hid k7
  replace O6 := hid O6
  replace HI6 := hid HI6
  gi_wp2_with fail
  rw [← hsq.out, ← hW6.out]
  refine ⟨trivial, (callsIn_wide.2 (walk_any _ _ _ zs _ HI6.out (by omega))).mono ?_⟩
  rintro r w7 ⟨a', c', bx, rfl, hbx, hbx1, HB7, b7, hlt7⟩
  have z7 := b7.size
  replace hbx := hid hbx
  replace HB7 := hid HB7
  replace b7 := hid b7
  replace hlt7 := hid hlt7
  gi_wp2_with fail
  refine ⟨trivial, (callsIn_wide.2 (Wk.works_any _)).mono ?_⟩
  rintro r w8 ⟨rfl, b8⟩
  have z8 := b8.size
  -- what stays
  have F8 : Fx n0 sq (sq + 1) bx early S av N cv xs a' len c' zs w8 := by
    have esq : w4.heap.size = sq := hsq.out.symm
    have c37 : Below w3.heap.size w3 w8 := ((b4.out.trans (b46.out.mono b4.out.size)).trans (b7.out.mono (by omega))).trans (b8.mono (by omega))
    have c68 : Below W6.heap.size W6 w8 := b7.out.trans (b8.mono b7.out.size)
    have c28 : Below W2.heap.size W2 w8 := b3.out.trans (c37.mono b3.out.size)
    exact ⟨(c28.block _ k0.out.lt).trans k0.out, (c28.block _ k1.out.lt).trans k1.out, (c68.block _ k6.out.lt).trans k6.out, (c68.block _ k7.out.lt).trans k7.out, O6.out.later c68, (b8.block _ hbx.out.lt).trans hbx.out, bytes_kept HB7.out b8⟩
  have esq : w4.heap.size = sq := hsq.out.symm
  obtain ⟨M, hM⟩ : ∃ M, M = w8.heap.size := ⟨_, rfl⟩
  have hgM : g < M ∧ n0 + 2 ≤ g ∧ g < w3.heap.size := by omega
  have hbM : bx < M := by rw [hM]; have := hbx.out.lt; omega
  have FK : Hid (∀ X, Keep M g w8 X → Fx n0 sq (sq + 1) bx early S av N cv xs a' len c' zs X) := fun X hk => by
    have hk' := hk.block
    refine ⟨(hk' _ (by omega) (by omega)).trans F8.e, (hk' _ (by omega) (by omega)).trans F8.r, (hk' _ (by omega) (by omega)).trans F8.s, (hk' _ (by omega) (by omega)).trans F8.o, ops_other F8.os (fun b o p e h => ?_), (hk' _ hbM (by omega)).trans F8.b, bytes_other F8.bs (fun x e h => ?_)⟩
    · have := hlO.out b (by rw [e]; rfl)
      exact hk' b (by omega) (by omega)
    · have := hlt7.out x.block (by rw [e]; rfl)
      exact hk' _ (by omega) (by omega)
  have I8 : In g len w8 := by
    obtain ⟨cur, h1⟩ : ∃ cur, w3.heap[g]? = some (.cells cur 5) ∧ len ≤ cur.size ∧ ∀ i, i < len → ∃ y, cur[i]? = some (.int .u8 y) := by
      rcases R3.out.2 with ⟨h, _⟩ | ⟨g', c'', cur, h, _, hg', hn, _, hsz, htk⟩
      · simp at h
      · simp at h
        obtain ⟨rfl, rfl⟩ := h
        refine ⟨cur, hg', by omega, fun i hi => ?_⟩
        have hl := H.out.1
        have e1 : (cur.toList.take ((len + 1) * 1))[i]? = some (.int .u8 ((zs ++ [90]).getD i 0)) := by
          rw [htk]
          simp [List.getD_eq_getElem?_getD, List.getElem?_append_left (show i < zs.length by omega), List.getElem?_eq_getElem (show i < zs.length by omega)]
          rw [List.getElem?_append_left (by simp; omega)]
          simp
        rw [List.getElem?_take, if_pos (by omega)] at e1
        exact ⟨_, by simpa using e1⟩
    have c38 : Below w3.heap.size w3 w8 := ((b4.out.trans (b46.out.mono b4.out.size)).trans (b7.out.mono (by omega))).trans (b8.mono (by omega))
    exact ⟨cur, (c38.block g (by omega)).trans h1.1, h1.2.1, h1.2.2⟩
  have BW8 : Below n0 w w8 := by
    have c38 : Below w3.heap.size w3 w8 := ((b4.out.trans (b46.out.mono b4.out.size)).trans (b7.out.mono (by omega))).trans (b8.mono (by omega))
    exact (B2.out.trans (b3.out.mono (by omega))).trans (c38.mono (by omega))
  replace F8 := hid F8
  replace I8 := hid I8
  replace BW8 := hid BW8
  replace hM := hid hM
  replace b8 := hid b8
  clear HL HI3 H3 O4 b4 b46 hW6 k6 k7 O6 HI6 hbx HB7 b7 hlt7 b8 k0 k1 R3 b3 hlO F8 hW2 H2
  gi_wp2_with fail
  rw [← hM.out]
  refine wpIn_loop_rounds 3 ?_
  obtain ⟨X, hX⟩ : ∃ X, X = w8.alloc (.cells #[.int .i64 0] 3) := ⟨_, rfl⟩
  have KX : Keep M g w8 X := by rw [hX]; exact Keep.below ((Below.refl M w8).alloc (by rw [hM.out]; exact Nat.le_refl _) _)
  have zX : M + 1 ≤ X.heap.size := by rw [hX]; simp; rw [← hM.out]; omega
  have rX : Boxed X M 3 (.int .i64 0) := by rw [hX]; exact new_box hM.out _ _
  have IX : In g len X := I8.out.same (by rw [hX]; exact Below.heap_alloc _ _ _ (by rw [← hM.out]; omega))
  rw [← hX]
  replace KX := hid KX
  replace rX := hid rX
  replace IX := hid IX
  clear hX
  rw [roundsIn_succ]
  have cr := rX.out.cell
  gi_wp2_with fail
  obtain ⟨ib, hib⟩ : ∃ ib, ib = X.heap.size := ⟨_, rfl⟩
  obtain ⟨WR, hWR⟩ : ∃ WR, WR = X.alloc (.cells #[.int .i64 0] 3) := ⟨_, rfl⟩
  have sR : WR.heap.size = ib + 1 := by rw [hWR, hib]; simp
  have KR : Keep M g w8 WR := by rw [hWR]; exact KX.out.trans (Keep.below ((Below.refl M X).alloc (by omega) _))
  have rR : Boxed WR M 3 (.int .i64 0) := by rw [hWR]; exact rX.out.alloc _
  have iR : Boxed WR ib 3 (.int .i64 0) := by rw [hWR]; exact new_box hib _ _
  have gR : ∀ q, q < M → M ≤ q ∨ q = g → WR.heap[q]? = X.heap[q]? := fun q hq _ => by rw [hWR]; have := rX.out.lt; exact Below.heap_alloc _ _ _ (by omega)
  rw [← hib, ← hWR]
  have FR := FK.out WR KR
  have zi : M < ib := by rw [hib]; exact rX.out.lt
  have zm : M ≤ M := by omega
  replace hib := hid hib
  replace hWR := hid hWR
  replace KR := hid KR
  replace rR := hid rR
  replace iR := hid iR
  replace gR := hid gR
  replace FR := hid FR
  rename_i Kq hKq
  have key : ∀ (D : Nat) (W' : World) (ys : List (Int × O)) (u14 u33 u34 u67 u68 u69 u70 u71 u72 u73 u74 u75 u76 u77 u78 u79 u80 u81 u82 u83 u84 u85 u86 u87 u88 u89 u90 u91 u92 u93 u94 u95 : Value), Ii M g ib M 0 w8 X ys W' → (ys.length = N ∨ ((ys.length : Nat) : Int) = early ∧ (0 : Int) = 0) → WR.heap.size ≤ D → W'.heap[D]? = some (.deferred (some [])) → Kq { tmps := #[.slice a len cap, .int .i64 early, undef, .pointer (some ⟨n0, 0, none⟩), .pointer (some ⟨n0 + 1, 0, none⟩), .slice (some ⟨g, 0, none⟩) len c, .pointer (some ⟨sq, 0, none⟩), .pointer (some ⟨sq + 1, 0, none⟩), .int .i64 en, .func (.func 56) #[] #[.pointer (some ⟨bx, 0, none⟩)], .pointer (some ⟨M, 0, none⟩), .pointer (some ⟨ib, 0, none⟩), undef, undef, u14, .slice a len cap, .slice (some ⟨g, 0, none⟩) len c, .tuple #[.int .u64 S, .slice av N cv, .int .i64 en], .slice a len cap, .tuple #[.int .u64 S, .slice av N cv, .int .i64 en], .int .u64 S, .slice av N cv, .int .i64 en, .slice (some ⟨g, 0, none⟩) len c, .func (.func 56) #[] #[.pointer (some ⟨bx, 0, none⟩)], .func (.func 56) #[] #[.pointer (some ⟨bx, 0, none⟩)], .bool false, .bool false, .bool true, .bool false, .bool false, .int .i64 0, .bool true, u33, u34, .func (.func 56) #[] #[.pointer (some ⟨bx, 0, none⟩)], undef, undef, undef, undef, undef, undef, undef, undef, undef, undef, undef, undef, undef, undef, undef, undef, undef, undef, undef, undef, undef, undef, undef, undef, undef, undef, undef, undef, undef, undef, undef, u67, u68, u69, u70, u71, u72, u73, u74, u75, u76, u77, u78, u79, u80, u81, u82, u83, u84, u85, u86, u87, u88, u89, u90, u91, u92, u93, u94, u95], defers := { target := .collected D, args := #[] } :: [] } W' := by
    intro D0 W' ys u14 u33 u34 u67 u68 u69 u70 u71 u72 u73 u74 u75 u76 u77 u78 u79 u80 u81 u82 u83 u84 u85 u86 u87 u88 u89 u90 u91 u92 u93 u94 u95 hI hc hDs hD0
    replace hD0 := hid hD0
    have F := FK.out W' hI.k
    have ci := hI.i.cell
    have crr := hI.r.cell
    have ce := F.e.cell
    have co := F.o.cell
    have HIn : Hid (In g len W') := IX.out.same (hI.gg g (by omega) (.inr rfl))
    have hKD := hid hDs
    replace hI := hid hI
    replace F := hid F
    clear s2 hg z3 z4 s6 hbx1 z7 z8 hDs
    replace hxl := hid hxl
    replace hgM := hid hgM
    replace hbM := hid hbM
    replace zX := hid zX
    replace zi := hid zi
    replace zm := hid zm
    replace sR := hid sR
    replace hS := hid hS
    refine hKq _ _ ?_
    replace esq := hid esq
    by_cases hcN : ys.length = N
    · rw [hcN] at ci
      have nn : ((N : Int) != (N : Int)) = false := bne_self_eq_false _
      replace hc := hid hc
      replace hcN := hid hcN
      gi_wp2_with fail
      gi_loopw [14] (fun iv wr => ∃ k : Nat, iv = .int .i64 (k : Int) ∧ k ≤ len ∧ Hid (W'.grownBy wr (some g)) ∧ Hid (In g len wr)) (fun iv _ => len - (intOf iv).toNat)
      case atStart => exact ⟨0, rfl, Nat.zero_le _, World.grownBy.refl _ _, HIn⟩
      case round =>
        obtain ⟨k, rfl, hk, hG, hIn⟩ := hrel
        by_cases hlt : k < len
        · obtain ⟨y, c2, f2⟩ := hIn.out.cell k hlt
          have ik : (k : Int) < (len : Int) := by omega
          gi_wp2_with fail
          exact ⟨⟨k + 1, by simp, by omega, grown_set hG.out _ _, hIn.out.set _ _⟩, by simp [intOf]; omega⟩
        · have ik : ¬ (k : Int) < (len : Int) := by omega
          have rW : Boxed wr M 3 (.int .i64 0) := (hI.out.r).kept hG.out (fun e => by cases e; have := hgM.out; have := hI.out.z1; omega)
          have crw := rW.cell
          replace rW := hid rW
          gi_wp2_with fail
          obtain ⟨rb, hrb⟩ : ∃ rb, rb = wr.heap.size := ⟨_, rfl⟩
          rw [← hrb]
          obtain ⟨X, hX2⟩ : ∃ X, X = wr.alloc (.cells #[.int .i64 1] 3) := ⟨_, rfl⟩
          rw [← hX2]
          have v1 := hI.out.r.lt
          have v2 := hI.out.z1
          have v3 := hG.out.size
          have v4 := blk_lt hD0.out
          have v5 := hgM.out
          have v6 := hKD.out
          have v7 := sR.out
          have v8 := zi.out
          have zr : M + 1 ≤ rb ∧ D0 < rb ∧ M < D0 := by omega
          have KX2 : Keep M g w8 X := by rw [hX2]; exact (hI.out.k.grown hG.out (by omega) (fun q e => .inr (by cases e; rfl))).trans (Keep.below ((Below.refl M wr).alloc (by omega) _))
          have zX2 : M + 1 ≤ X.heap.size := by rw [hX2]; simp; omega
          have rX2 : Boxed X rb 3 (.int .i64 1) := by rw [hX2]; exact new_box hrb _ _
          have IX2 : In g len X := hIn.out.same (by rw [hX2]; exact Below.heap_alloc _ _ _ (by omega))
          have hD2 : X.heap[D0]? = some (.deferred (some [])) := by rw [hX2]; exact (Below.heap_alloc _ _ _ (by omega)).trans ((hG.out.block D0 (by omega) (fun e => by cases e; omega)).trans hD0.out)
          clear v1 v2 v3 v4 v5 v6 v7 v8
          clear hI hD0 hG hIn rW crw KX rX IX KR rR iR gR FR hib hWR zX zi zm sR hKD HIn F ci crr ce co cr hc hX2 hrb
          have hxl := hxl.out
          have hgM := hgM.out
          have hbM := hbM.out
          have hS := hS.out
          have KX := hid KX2
          have rX := hid rX2
          have IX := hid IX2
          have hD0 := hid hD2
          have zX := zX2
          clear KX2 rX2 IX2 hD2 zX2
          rw [roundsIn_succ]
          have cr := rX.out.cell
          gi_wp2_with fail
          obtain ⟨ib, hib⟩ : ∃ ib, ib = X.heap.size := ⟨_, rfl⟩
          obtain ⟨WR, hWR⟩ : ∃ WR, WR = X.alloc (.cells #[.int .i64 0] 3) := ⟨_, rfl⟩
          have sR : WR.heap.size = ib + 1 := by rw [hWR, hib]; simp
          have KR : Keep M g w8 WR := by rw [hWR]; exact KX.out.trans (Keep.below ((Below.refl M X).alloc (by omega) _))
          have rR : Boxed WR rb 3 (.int .i64 1) := by rw [hWR]; exact rX.out.alloc _
          have iR : Boxed WR ib 3 (.int .i64 0) := by rw [hWR]; exact new_box hib _ _
          have gR : ∀ q, q < rb → M ≤ q ∨ q = g → WR.heap[q]? = X.heap[q]? := fun q hq _ => by rw [hWR]; have := rX.out.lt; exact Below.heap_alloc _ _ _ (by omega)
          rw [← hib, ← hWR]
          have FR := FK.out WR KR
          have zi : rb < ib := by rw [hib]; exact rX.out.lt
          have zm : M ≤ rb := by omega
          replace hib := hid hib
          replace hWR := hid hWR
          replace KR := hid KR
          replace rR := hid rR
          replace iR := hid iR
          replace gR := hid gR
          replace FR := hid FR
          rename_i Kq hKq
          have key : ∀ (D : Nat) (W' : World) (ys : List (Int × O)) (u14 u33 u34 u67 u68 u69 u70 u71 u72 u73 u74 u75 u76 u77 u78 u79 u80 u81 u82 u83 u84 u85 u86 u87 u88 u89 u90 u91 u92 u93 u94 u95 : Value), Ii M g ib rb 1 w8 X ys W' → (ys.length = N ∨ ((ys.length : Nat) : Int) = early ∧ (1 : Int) = 0) → WR.heap.size ≤ D → W'.heap[D]? = some (.deferred (some [])) → Kq { tmps := #[.slice a len cap, .int .i64 early, undef, .pointer (some ⟨n0, 0, none⟩), .pointer (some ⟨n0 + 1, 0, none⟩), .slice (some ⟨g, 0, none⟩) len c, .pointer (some ⟨sq, 0, none⟩), .pointer (some ⟨sq + 1, 0, none⟩), .int .i64 en, .func (.func 56) #[] #[.pointer (some ⟨bx, 0, none⟩)], .pointer (some ⟨rb, 0, none⟩), .pointer (some ⟨ib, 0, none⟩), undef, undef, u14, .slice a len cap, .slice (some ⟨g, 0, none⟩) len c, .tuple #[.int .u64 S, .slice av N cv, .int .i64 en], .slice a len cap, .tuple #[.int .u64 S, .slice av N cv, .int .i64 en], .int .u64 S, .slice av N cv, .int .i64 en, .slice (some ⟨g, 0, none⟩) len c, .func (.func 56) #[] #[.pointer (some ⟨bx, 0, none⟩)], .func (.func 56) #[] #[.pointer (some ⟨bx, 0, none⟩)], .bool false, .bool false, .bool true, .bool false, .bool false, .int .i64 1, .bool true, u33, u34, .func (.func 56) #[] #[.pointer (some ⟨bx, 0, none⟩)], undef, undef, undef, undef, undef, undef, undef, undef, undef, undef, undef, undef, undef, undef, undef, undef, undef, undef, undef, undef, undef, undef, undef, undef, undef, undef, undef, undef, undef, undef, undef, u67, u68, u69, u70, u71, u72, u73, u74, u75, u76, u77, u78, u79, u80, u81, u82, u83, u84, u85, u86, u87, u88, u89, u90, u91, u92, u93, u94, u95], defers := { target := .collected D, args := #[] } :: [{ target := .collected D0, args := #[] }] } W' := by
            intro D1 W' ys u14 u33 u34 u67 u68 u69 u70 u71 u72 u73 u74 u75 u76 u77 u78 u79 u80 u81 u82 u83 u84 u85 u86 u87 u88 u89 u90 u91 u92 u93 u94 u95 hI hc hDs hD1
            replace hD1 := hid hD1
            have F := FK.out W' hI.k
            have ci := hI.i.cell
            have crr := hI.r.cell
            have ce := F.e.cell
            have co := F.o.cell
            have HIn : Hid (In g len W') := IX.out.same (hI.gg g (by omega) (.inr rfl))
            have hKD := hid hDs
            replace hI := hid hI
            replace F := hid F
            clear hDs
            replace hxl := hid hxl
            replace hgM := hid hgM
            replace hbM := hid hbM
            replace zX := hid zX
            replace zi := hid zi
            replace zm := hid zm
            replace sR := hid sR
            replace zr := hid zr
            replace hS := hid hS
            refine hKq _ _ ?_
            have hcN : ys.length = N := hc.elim id (fun h => absurd h.2 (by decide))
            · rw [hcN] at ci
              have nn : ((N : Int) != (N : Int)) = false := bne_self_eq_false _
              replace hc := hid hc
              replace hcN := hid hcN
              gi_wp2_with fail
              gi_loopw [14] (fun iv wr => ∃ k : Nat, iv = .int .i64 (k : Int) ∧ k ≤ len ∧ Hid (W'.grownBy wr (some g)) ∧ Hid (In g len wr)) (fun iv _ => len - (intOf iv).toNat)
              case atStart => exact ⟨0, rfl, Nat.zero_le _, World.grownBy.refl _ _, HIn⟩
              case round =>
                obtain ⟨k, rfl, hk, hG, hIn⟩ := hrel
                by_cases hlt : k < len
                · obtain ⟨y, c2, f2⟩ := hIn.out.cell k hlt
                  have ik : (k : Int) < (len : Int) := by omega
                  gi_wp2_with fail
                  exact ⟨⟨k + 1, by simp, by omega, grown_set hG.out _ _, hIn.out.set _ _⟩, by simp [intOf]; omega⟩
                · have ik : ¬ (k : Int) < (len : Int) := by omega
                  have rW : Boxed wr rb 3 (.int .i64 1) := (hI.out.r).kept hG.out (fun e => by cases e; have := hgM.out; have := hI.out.z1; omega)
                  have crw := rW.cell
                  replace rW := hid rW
                  gi_wp2_with fail
                  obtain ⟨rc, hrc⟩ : ∃ rc, rc = wr.heap.size := ⟨_, rfl⟩
                  rw [← hrc]
                  obtain ⟨Z, hZ⟩ : ∃ Z, Z = wr.alloc (.cells #[.int .i64 2] 3) := ⟨_, rfl⟩
                  rw [← hZ]
                  have v1 := hI.out.r.lt
                  have v2 := hI.out.z1
                  have v3 := hG.out.size
                  have v4 := blk_lt hD1.out
                  have v5 := hgM.out
                  have v6 := hKD.out
                  have v7 := sR.out
                  have v8 := zi.out
                  have v9 := zr.out
                  have d0 : W'.heap[D0]? = some (.deferred (some [])) := (hI.out.gg D0 (by omega) (.inl (by omega))).trans hD0.out
                  have KZ : Keep M g w8 Z := by rw [hZ]; exact (hI.out.k.grown hG.out (by omega) (fun q e => .inr (by cases e; rfl))).trans (Keep.below ((Below.refl M wr).alloc (by omega) _))
                  have kq := (FK.out Z KZ).r
                  have cq := kq.cell
                  have fq := kq.frozen
                  have cc : Z.cell? ⟨rc, 0, none⟩ = some (.int .i64 2) := by rw [hZ]; exact (new_box hrc _ _).cell
                  have o5 : ∀ D, g < D → D < wr.heap.size → W'.heap[D]? = some (.deferred (some [])) → D < W'.heap.size → (Z.setCell ⟨n0 + 1, 0, none⟩ (.bool true)).heap[D]? = some (.deferred (some [])) := fun D e1 e2 e3 e4 =>
                    (set_ne _ _ _ _ _ (by omega)).trans (by rw [hZ]; exact (Below.heap_alloc _ _ _ e2).trans ((hG.out.block D e4 (fun e => by cases e; omega)).trans e3))
                  have h5 := hid (o5 D1 (by omega) (by omega) hD1.out v4)
                  have h6 := hid (o5 D0 (by omega) (by omega) d0 (by omega))
                  have hne : D1 ≠ D0 ∧ M ≤ D0 ∧ M ≤ D1 ∧ n0 + 1 < M := by omega
                  have k5 := hid (Boxed.set (.bool true) kq)
                  have B5 := hid ((BW8.out.trans (KZ.toBelow (by omega) (by omega))).setCell (p := ⟨n0 + 1, 0, none⟩) (show n0 ≤ n0 + 1 by omega) (.bool true))
                  clear v1 v2 v3 v4 v5 v6 v7 v8 v9 d0 o5
                  replace hne := hid hne
                  replace KZ := hid KZ
                  replace kq := hid kq
                  clear ci crr ce co crw cr hZ hrc
                  rw [roundsIn_succ]
                  gi_wp2_with fail
                  generalize Z.setCell ⟨n0 + 1, 0, none⟩ (.bool true) = Y at k5 h5 h6 B5 ⊢
                  obtain ⟨q1, q2, q3, q4⟩ := hne.out
                  have h7 := hid (two_take (o' := .deferred none) h6.out q1)
                  have hMz := hM.out
                  refine ⟨by simp, .inl ⟨_, _, rfl, run_takeDeferred h5.out, by simp, .inl ⟨_, _, rfl, run_takeDeferred h7.out, ?_⟩⟩⟩
                  have e1 : ((Y.putObj D1 (.deferred none)).putObj D0 (.deferred none)).cell? ⟨n0 + 1, 0, none⟩ = some (.bool true) := (cell_same ((World.putObj_heap_other (by omega)).trans (World.putObj_heap_other (by omega))) _).trans k5.out.cell
                  refine ⟨.bool true, ?_, rfl, ?_⟩
                  · simp [results, Try.results8, go_sem, e1]
                  · rw [← hn0.out]
                    exact (B5.out.trans (belowK_b' (w := w8) (by omega) _ D1 _ _ (by omega) h5.out)).trans (belowK_b' (w := w8) (by omega) _ D0 _ _ (by omega) h7.out)
          clear hKq
          replace key := hid key
          refine range_q (F := Fence.wide) (n := 8) encs rfl (by omega) (gf := 56) (lb := #[.pointer (some ⟨bx, 0, none⟩)]) rfl trivial (enters_of Try.func56 (by kernel_rfl) rfl) (fun _ => rfl)
            (fun ys W => Ii M g ib rb 1 w8 X ys W) (fun cc ys W => False) (fun pre x => pre ++ [x] <+: items zs) (Kp M bx) (fun ys _ _ => ys = items zs) (fun _ => True)
            (fun s W o h => h.later (box_below W o)) (fun s W W' k h gr hk hc => h.grown gr (fun q e => by cases e; omega)) (fun cc s W W' k h gr hk hc => h.elim)
            (fun A B hA hb => ⟨hb.mono (by omega), hb.block _ (by omega)⟩) (fun h k => ⟨h.1.trans k.1, k.2.trans h.2⟩)
            (fun W l o o' hl ho hc => ⟨belowK_b' (w := WR) (by omega) W l o o' hl ho, World.putObj_heap_other (by omega)⟩)
            ⟨KR.out, rR.out, iR.out, gR.out, by omega, by omega, by omega⟩ ?seq
            (fun Y x a' W => ∃ (Bo : Nat) (u14 u33 u34 u67 u68 u69 u70 u71 u72 u73 u74 u75 u76 u77 u78 u79 u80 u81 u82 u83 u84 u85 u86 u87 u88 u89 u90 u91 u92 u93 u94 u95 : Value), W.heap[Bo]? = some (.cells #[.int .i64 x.2.c, .string x.2.k, .string x.2.v] 50) ∧ a' = { tmps := #[.slice a len cap, .int .i64 early, undef, .pointer (some ⟨n0, 0, none⟩), .pointer (some ⟨n0 + 1, 0, none⟩), .slice (some ⟨g, 0, none⟩) len c, .pointer (some ⟨sq, 0, none⟩), .pointer (some ⟨sq + 1, 0, none⟩), .int .i64 en, .func (.func 56) #[] #[.pointer (some ⟨bx, 0, none⟩)], .pointer (some ⟨rb, 0, none⟩), .pointer (some ⟨ib, 0, none⟩), .int .u64 x.1, .pointer (some ⟨Bo, 0, none⟩), u14, .slice a len cap, .slice (some ⟨g, 0, none⟩) len c, .tuple #[.int .u64 S, .slice av N cv, .int .i64 en], .slice a len cap, .tuple #[.int .u64 S, .slice av N cv, .int .i64 en], .int .u64 S, .slice av N cv, .int .i64 en, .slice (some ⟨g, 0, none⟩) len c, .func (.func 56) #[] #[.pointer (some ⟨bx, 0, none⟩)], .func (.func 56) #[] #[.pointer (some ⟨bx, 0, none⟩)], .bool false, .bool false, .bool true, .bool false, .bool false, .int .i64 1, .bool true, u33, u34, .func (.func 56) #[] #[.pointer (some ⟨bx, 0, none⟩)], .int .u64 x.1, .agg #[.int .i64 x.2.c, .string x.2.k, .string x.2.v], undef, undef, undef, undef, undef, undef, undef, undef, undef, undef, undef, undef, undef, undef, undef, undef, undef, undef, undef, undef, undef, undef, undef, undef, undef, undef, undef, undef, undef, u67, u68, u69, u70, u71, u72, u73, u74, u75, u76, u77, u78, u79, u80, u81, u82, u83, u84, u85, u86, u87, u88, u89, u90, u91, u92, u93, u94, u95], defers := [] })
            ?hAx ?assign ?body ?done ?stop
          case seq =>
            intro l J Jx W1 hB1 hY h0
            refine (each_q 7 (by omega) l bx M a' len c' zs J Jx (by omega) hY W1 ((hB1.block _ FR.out.b.lt).trans FR.out.b) (fun W' h' => (FK.out W' (KR.out.trans ((Keep.below (hB1.mono (by omega))).trans (Keep.below h')))).bs) (by have := hB1.size; omega) h0).mono ?_
            rintro r W' ⟨hv, (⟨W0, h1, h2⟩ | ⟨pre, h1, h2⟩)⟩
            · exact ⟨hv, .inl ⟨_, W0, h1, h2, rfl⟩⟩
            · exact ⟨hv, .inr ⟨pre, trivial, h2⟩⟩
          case hAx =>
            rintro Y x a' W W' j ⟨Bo, u14, u33, u34, u67, u68, u69, u70, u71, u72, u73, u74, u75, u76, u77, u78, u79, u80, u81, u82, u83, u84, u85, u86, u87, u88, u89, u90, u91, u92, u93, u94, u95, h1, h2⟩ hg' hc
            refine ⟨Bo, u14, u33, u34, u67, u68, u69, u70, u71, u72, u73, u74, u75, u76, u77, u78, u79, u80, u81, u82, u83, u84, u85, u86, u87, u88, u89, u90, u91, u92, u93, u94, u95, (hg'.block Bo (blk_lt h1) (fun e => ?_)).trans h1, h2⟩
            cases e
            exact hc _ _ _ h1
          case assign =>
            intro l x W K hK
            simp only [encs]
            gi_wp2
            exact hK _ _ (box_below _ _) ⟨W.heap.size, _, _, _, _, _, _, _, _, _, _, _, _, _, _, _, _, _, _, _, _, _, _, _, _, _, _, _, _, _, _, _, _, new_at _ _, rfl⟩
          case body =>
            rintro l pre x a' W0 WY W1 W2 hI h0Y h01 hfr h12 hl hlo hnc ⟨Bo, u14, u33, u34, u67, u68, u69, u70, u71, u72, u73, u74, u75, u76, u77, u78, u79, u80, u81, u82, u83, u84, u85, u86, u87, u88, u89, u90, u91, u92, u93, u94, u95, hBo, rfl⟩
            clear key hlo hnc h0Y
            have hC2 : Ii M g ib rb 1 w8 X pre W2 := (hI.later h01).grown h12 (fun j e => by cases e; omega)
            rw [hit.out] at hfr
            obtain ⟨hk, rfl⟩ := pre_item hfr
            have F2 := FK.out W2 hC2.k
            have hkN : pre.length < N := by rw [hN.out]; exact hk
            obtain ⟨b, o, p, rfl, rfl, hat⟩ : ∃ b o p, av = some ⟨b, o, p⟩ ∧ p = none ∧ At3 W2 b (o + pre.length * 3) (xs.getD pre.length zo) := by
              cases av with
              | none => have := F2.os.2.2.1 rfl; omega
              | some ad =>
                obtain ⟨b, o, p⟩ := ad
                obtain ⟨rfl, h⟩ := F2.os.2.2.2.2 b o p rfl (by omega)
                exact ⟨b, o, none, rfl, rfl, h _ hkN⟩
            have hcv := F2.os.2.1
            have ce := F2.e.cell
            have cr4 := F2.r.cell
            have cs := F2.s.cell
            have co := F2.o.cell
            have ci := hC2.i.cell
            have fi := hC2.i.frozen
            have crr := hC2.r.cell
            revert hat hBo
            generalize xs.getD pre.length zo = x
            obtain ⟨xc, xk, xv⟩ := x
            intro hBo hat
            obtain ⟨q0, q1, q2⟩ := hat
            dsimp only at q0 q1 q2 hBo
            have y0 := cell_of hBo 0 _ rfl
            have y1 := cell_of hBo 1 _ rfl
            have y2 := cell_of hBo 2 _ rfl
            have hU := hid (hC2.up (IntKind.u64.wrap (S + pre.length), ⟨xc, xk, xv⟩))
            obtain ⟨k, hk'⟩ : ∃ k, k = pre.length := ⟨_, rfl⟩
            have hkk : k < N := by rw [hk']; exact hkN
            have hNx : N ≤ 4294967296 := by rw [hN.out]; exact hxl
            rw [← hk'] at ci q0 q1 q2 hU ⊢
            replace hk' := hid hk'
            clear hk hkN hfr
            have g1 : decide ((N : Int) ≤ (k : Int)) = false := decide_eq_false (by omega)
            have g2 : decide (N ≤ k) = false := decide_eq_false (by omega)
            have ik : (k : Int) < (N : Int) := by omega
            have kw : IntKind.u64.wrap (k : Int) = (k : Int) := by simp [IntKind.wrap, IntKind.bits, IntKind.signed]; omega
            have nn : (IntKind.u64.wrap (S + (k : Int)) != IntKind.u64.wrap (S + (k : Int))) = false := bne_self_eq_false _
            replace hI := hid hI
            replace hC2 := hid hC2
            replace F2 := hid F2
            replace hBo := hid hBo
            gi_wp2_with fail
            refine Qi.region_round (by kernel_rfl) (by kernel_rfl) (by kernel_rfl) ?_
            repeat (quiet_step_in (fail))
            refine wpQuietIn_nil ?_
            intro _ hw'
            obtain ⟨nq, hw''⟩ := hw'
            subst hw''
            obtain ⟨kN, kP, ce2, crr2⟩ := body_post hC2.out nq (ib + 1) (.int .i64 ((k : Int) + 1)) hbM (by omega : n0 < M) ce
            have hU2 := hid (hU.out nq)
            have kw2 : wrap64 ((k : Int) + 1) = (k : Int) + 1 := IntWalk.wrap64_in _ ⟨by omega, by omega⟩
            replace kN := hid kN
            replace kP := hid kP
            have ci3 : (W2.drewN nq).cell? ⟨ib, 0, none⟩ = some (.int .i64 (k : Int)) := ci
            have fi3 : (W2.drewN nq).frozen? ⟨ib, 0, none⟩ = false := fi
            have ci4 : ((W2.drewN nq).setCell ⟨ib, 0, none⟩ (.int .i64 ((k : Int) + 1))).cell? ⟨ib, 0, none⟩ = some (.int .i64 ((k : Int) + 1)) := (Boxed.set (.int .i64 ((k : Int) + 1)) (hC2.out.drew nq).i).cell
            clear q0 q1 q2 y0 y1 y2 ce cr4 cs co ci fi crr g1 g2 ik kw nn hcv h01 h12 hU hBo F2 hI hit
            replace sR := hid sR
            generalize W2.drewN nq = WD at *
            clear zr hgM hbM zX zi zm hl hcap hS hxl cr
            gi_wp2_with fail
            exact ⟨sR.out ▸ kN.out, kP.out, hU2.out⟩
          case done =>
            intro D l ys W0 W W' hD hI hB hF hgr hl hnc hd
            exact key.out D W' ys _ _ _ _ _ _ _ _ _ _ _ _ _ _ _ _ _ _ _ _ _ _ _ _ _ _ _ _ _ _ _ _ ((hI.later hB).grown hgr (fun q e => by cases e; omega)) (.inl (by rw [hF, hit.out, num_len, hN.out])) hD hd
          case stop =>
            intro D cc pre W hD _ hx
            exact hx.elim
    · have hce : ((ys.length : Nat) : Int) = early := hc.elim (fun h => absurd h hcN) (fun h => h.1)
      rw [hce] at ci
      have nn : (early != (N : Int)) = true := by rw [← hce]; simpa using fun h => hcN (by exact_mod_cast h)
      have n2 : (early == early) = true := beq_self_eq_true _
      replace hc := hid hc
      replace hcN := hid hcN
      replace hce := hid hce
      gi_wp2_with fail
      gi_loopw [14] (fun iv wr => ∃ k : Nat, iv = .int .i64 (k : Int) ∧ k ≤ len ∧ Hid (W'.grownBy wr (some g)) ∧ Hid (In g len wr)) (fun iv _ => len - (intOf iv).toNat)
      case atStart => exact ⟨0, rfl, Nat.zero_le _, World.grownBy.refl _ _, HIn⟩
      case round =>
        obtain ⟨k, rfl, hk, hG, hIn⟩ := hrel
        by_cases hlt : k < len
        · obtain ⟨y, c2, f2⟩ := hIn.out.cell k hlt
          have ik : (k : Int) < (len : Int) := by omega
          gi_wp2_with fail
          exact ⟨⟨k + 1, by simp, by omega, grown_set hG.out _ _, hIn.out.set _ _⟩, by simp [intOf]; omega⟩
        · have ik : ¬ (k : Int) < (len : Int) := by omega
          have rW : Boxed wr M 3 (.int .i64 0) := (hI.out.r).kept hG.out (fun e => by cases e; have := hgM.out; have := hI.out.z1; omega)
          have crw := rW.cell
          replace rW := hid rW
          gi_wp2_with fail
          obtain ⟨rb, hrb⟩ : ∃ rb, rb = wr.heap.size := ⟨_, rfl⟩
          rw [← hrb]
          obtain ⟨X, hX2⟩ : ∃ X, X = wr.alloc (.cells #[.int .i64 1] 3) := ⟨_, rfl⟩
          rw [← hX2]
          have v1 := hI.out.r.lt
          have v2 := hI.out.z1
          have v3 := hG.out.size
          have v4 := blk_lt hD0.out
          have v5 := hgM.out
          have v6 := hKD.out
          have v7 := sR.out
          have v8 := zi.out
          have zr : M + 1 ≤ rb ∧ D0 < rb ∧ M < D0 := by omega
          have KX2 : Keep M g w8 X := by rw [hX2]; exact (hI.out.k.grown hG.out (by omega) (fun q e => .inr (by cases e; rfl))).trans (Keep.below ((Below.refl M wr).alloc (by omega) _))
          have zX2 : M + 1 ≤ X.heap.size := by rw [hX2]; simp; omega
          have rX2 : Boxed X rb 3 (.int .i64 1) := by rw [hX2]; exact new_box hrb _ _
          have IX2 : In g len X := hIn.out.same (by rw [hX2]; exact Below.heap_alloc _ _ _ (by omega))
          have hD2 : X.heap[D0]? = some (.deferred (some [])) := by rw [hX2]; exact (Below.heap_alloc _ _ _ (by omega)).trans ((hG.out.block D0 (by omega) (fun e => by cases e; omega)).trans hD0.out)
          clear v1 v2 v3 v4 v5 v6 v7 v8
          clear hI hD0 hG hIn rW crw KX rX IX KR rR iR gR FR hib hWR zX zi zm sR hKD HIn F ci crr ce co cr hc hX2 hrb
          have hxl := hxl.out
          have hgM := hgM.out
          have hbM := hbM.out
          have hS := hS.out
          have KX := hid KX2
          have rX := hid rX2
          have IX := hid IX2
          have hD0 := hid hD2
          have zX := zX2
          clear KX2 rX2 IX2 hD2 zX2
          rw [roundsIn_succ]
          have cr := rX.out.cell
          gi_wp2_with fail
          obtain ⟨ib, hib⟩ : ∃ ib, ib = X.heap.size := ⟨_, rfl⟩
          obtain ⟨WR, hWR⟩ : ∃ WR, WR = X.alloc (.cells #[.int .i64 0] 3) := ⟨_, rfl⟩
          have sR : WR.heap.size = ib + 1 := by rw [hWR, hib]; simp
          have KR : Keep M g w8 WR := by rw [hWR]; exact KX.out.trans (Keep.below ((Below.refl M X).alloc (by omega) _))
          have rR : Boxed WR rb 3 (.int .i64 1) := by rw [hWR]; exact rX.out.alloc _
          have iR : Boxed WR ib 3 (.int .i64 0) := by rw [hWR]; exact new_box hib _ _
          have gR : ∀ q, q < rb → M ≤ q ∨ q = g → WR.heap[q]? = X.heap[q]? := fun q hq _ => by rw [hWR]; have := rX.out.lt; exact Below.heap_alloc _ _ _ (by omega)
          rw [← hib, ← hWR]
          have FR := FK.out WR KR
          have zi : rb < ib := by rw [hib]; exact rX.out.lt
          have zm : M ≤ rb := by omega
          replace hib := hid hib
          replace hWR := hid hWR
          replace KR := hid KR
          replace rR := hid rR
          replace iR := hid iR
          replace gR := hid gR
          replace FR := hid FR
          rename_i Kq hKq
          have key : ∀ (D : Nat) (W' : World) (ys : List (Int × O)) (u14 u33 u34 u67 u68 u69 u70 u71 u72 u73 u74 u75 u76 u77 u78 u79 u80 u81 u82 u83 u84 u85 u86 u87 u88 u89 u90 u91 u92 u93 u94 u95 : Value), Ii M g ib rb 1 w8 X ys W' → (ys.length = N ∨ ((ys.length : Nat) : Int) = early ∧ (1 : Int) = 0) → WR.heap.size ≤ D → W'.heap[D]? = some (.deferred (some [])) → Kq { tmps := #[.slice a len cap, .int .i64 early, undef, .pointer (some ⟨n0, 0, none⟩), .pointer (some ⟨n0 + 1, 0, none⟩), .slice (some ⟨g, 0, none⟩) len c, .pointer (some ⟨sq, 0, none⟩), .pointer (some ⟨sq + 1, 0, none⟩), .int .i64 en, .func (.func 56) #[] #[.pointer (some ⟨bx, 0, none⟩)], .pointer (some ⟨rb, 0, none⟩), .pointer (some ⟨ib, 0, none⟩), undef, undef, u14, .slice a len cap, .slice (some ⟨g, 0, none⟩) len c, .tuple #[.int .u64 S, .slice av N cv, .int .i64 en], .slice a len cap, .tuple #[.int .u64 S, .slice av N cv, .int .i64 en], .int .u64 S, .slice av N cv, .int .i64 en, .slice (some ⟨g, 0, none⟩) len c, .func (.func 56) #[] #[.pointer (some ⟨bx, 0, none⟩)], .func (.func 56) #[] #[.pointer (some ⟨bx, 0, none⟩)], .bool false, .bool false, .bool true, .bool false, .bool false, .int .i64 1, .bool true, u33, u34, .func (.func 56) #[] #[.pointer (some ⟨bx, 0, none⟩)], undef, undef, undef, undef, undef, undef, undef, undef, undef, undef, undef, undef, undef, undef, undef, undef, undef, undef, undef, undef, undef, undef, undef, undef, undef, undef, undef, undef, undef, undef, undef, u67, u68, u69, u70, u71, u72, u73, u74, u75, u76, u77, u78, u79, u80, u81, u82, u83, u84, u85, u86, u87, u88, u89, u90, u91, u92, u93, u94, u95], defers := { target := .collected D, args := #[] } :: [{ target := .collected D0, args := #[] }] } W' := by
            intro D1 W' ys u14 u33 u34 u67 u68 u69 u70 u71 u72 u73 u74 u75 u76 u77 u78 u79 u80 u81 u82 u83 u84 u85 u86 u87 u88 u89 u90 u91 u92 u93 u94 u95 hI hc hDs hD1
            replace hD1 := hid hD1
            have F := FK.out W' hI.k
            have ci := hI.i.cell
            have crr := hI.r.cell
            have ce := F.e.cell
            have co := F.o.cell
            have HIn : Hid (In g len W') := IX.out.same (hI.gg g (by omega) (.inr rfl))
            have hKD := hid hDs
            replace hI := hid hI
            replace F := hid F
            clear hDs
            replace hxl := hid hxl
            replace hgM := hid hgM
            replace hbM := hid hbM
            replace zX := hid zX
            replace zi := hid zi
            replace zm := hid zm
            replace sR := hid sR
            replace zr := hid zr
            replace hS := hid hS
            refine hKq _ _ ?_
            have hcN : ys.length = N := hc.elim id (fun h => absurd h.2 (by decide))
            · rw [hcN] at ci
              have nn : ((N : Int) != (N : Int)) = false := bne_self_eq_false _
              replace hc := hid hc
              replace hcN := hid hcN
              gi_wp2_with fail
              gi_loopw [14] (fun iv wr => ∃ k : Nat, iv = .int .i64 (k : Int) ∧ k ≤ len ∧ Hid (W'.grownBy wr (some g)) ∧ Hid (In g len wr)) (fun iv _ => len - (intOf iv).toNat)
              case atStart => exact ⟨0, rfl, Nat.zero_le _, World.grownBy.refl _ _, HIn⟩
              case round =>
                obtain ⟨k, rfl, hk, hG, hIn⟩ := hrel
                by_cases hlt : k < len
                · obtain ⟨y, c2, f2⟩ := hIn.out.cell k hlt
                  have ik : (k : Int) < (len : Int) := by omega
                  gi_wp2_with fail
                  exact ⟨⟨k + 1, by simp, by omega, grown_set hG.out _ _, hIn.out.set _ _⟩, by simp [intOf]; omega⟩
                · have ik : ¬ (k : Int) < (len : Int) := by omega
                  have rW : Boxed wr rb 3 (.int .i64 1) := (hI.out.r).kept hG.out (fun e => by cases e; have := hgM.out; have := hI.out.z1; omega)
                  have crw := rW.cell
                  replace rW := hid rW
                  gi_wp2_with fail
                  obtain ⟨rc, hrc⟩ : ∃ rc, rc = wr.heap.size := ⟨_, rfl⟩
                  rw [← hrc]
                  obtain ⟨Z, hZ⟩ : ∃ Z, Z = wr.alloc (.cells #[.int .i64 2] 3) := ⟨_, rfl⟩
                  rw [← hZ]
                  have v1 := hI.out.r.lt
                  have v2 := hI.out.z1
                  have v3 := hG.out.size
                  have v4 := blk_lt hD1.out
                  have v5 := hgM.out
                  have v6 := hKD.out
                  have v7 := sR.out
                  have v8 := zi.out
                  have v9 := zr.out
                  have d0 : W'.heap[D0]? = some (.deferred (some [])) := (hI.out.gg D0 (by omega) (.inl (by omega))).trans hD0.out
                  have KZ : Keep M g w8 Z := by rw [hZ]; exact (hI.out.k.grown hG.out (by omega) (fun q e => .inr (by cases e; rfl))).trans (Keep.below ((Below.refl M wr).alloc (by omega) _))
                  have kq := (FK.out Z KZ).r
                  have cq := kq.cell
                  have fq := kq.frozen
                  have cc : Z.cell? ⟨rc, 0, none⟩ = some (.int .i64 2) := by rw [hZ]; exact (new_box hrc _ _).cell
                  have o5 : ∀ D, g < D → D < wr.heap.size → W'.heap[D]? = some (.deferred (some [])) → D < W'.heap.size → (Z.setCell ⟨n0 + 1, 0, none⟩ (.bool true)).heap[D]? = some (.deferred (some [])) := fun D e1 e2 e3 e4 =>
                    (set_ne _ _ _ _ _ (by omega)).trans (by rw [hZ]; exact (Below.heap_alloc _ _ _ e2).trans ((hG.out.block D e4 (fun e => by cases e; omega)).trans e3))
                  have h5 := hid (o5 D1 (by omega) (by omega) hD1.out v4)
                  have h6 := hid (o5 D0 (by omega) (by omega) d0 (by omega))
                  have hne : D1 ≠ D0 ∧ M ≤ D0 ∧ M ≤ D1 ∧ n0 + 1 < M := by omega
                  have k5 := hid (Boxed.set (.bool true) kq)
                  have B5 := hid ((BW8.out.trans (KZ.toBelow (by omega) (by omega))).setCell (p := ⟨n0 + 1, 0, none⟩) (show n0 ≤ n0 + 1 by omega) (.bool true))
                  clear v1 v2 v3 v4 v5 v6 v7 v8 v9 d0 o5
                  replace hne := hid hne
                  replace KZ := hid KZ
                  replace kq := hid kq
                  clear ci crr ce co crw cr hZ hrc
                  rw [roundsIn_succ]
                  gi_wp2_with fail
                  generalize Z.setCell ⟨n0 + 1, 0, none⟩ (.bool true) = Y at k5 h5 h6 B5 ⊢
                  obtain ⟨q1, q2, q3, q4⟩ := hne.out
                  have h7 := hid (two_take (o' := .deferred none) h6.out q1)
                  have hMz := hM.out
                  refine ⟨by simp, .inl ⟨_, _, rfl, run_takeDeferred h5.out, by simp, .inl ⟨_, _, rfl, run_takeDeferred h7.out, ?_⟩⟩⟩
                  have e1 : ((Y.putObj D1 (.deferred none)).putObj D0 (.deferred none)).cell? ⟨n0 + 1, 0, none⟩ = some (.bool true) := (cell_same ((World.putObj_heap_other (by omega)).trans (World.putObj_heap_other (by omega))) _).trans k5.out.cell
                  refine ⟨.bool true, ?_, rfl, ?_⟩
                  · simp [results, Try.results8, go_sem, e1]
                  · rw [← hn0.out]
                    exact (B5.out.trans (belowK_b' (w := w8) (by omega) _ D1 _ _ (by omega) h5.out)).trans (belowK_b' (w := w8) (by omega) _ D0 _ _ (by omega) h7.out)
          clear hKq
          replace key := hid key
          refine range_q (F := Fence.wide) (n := 8) encs rfl (by omega) (gf := 56) (lb := #[.pointer (some ⟨bx, 0, none⟩)]) rfl trivial (enters_of Try.func56 (by kernel_rfl) rfl) (fun _ => rfl)
            (fun ys W => Ii M g ib rb 1 w8 X ys W) (fun cc ys W => False) (fun pre x => pre ++ [x] <+: items zs) (Kp M bx) (fun ys _ _ => ys = items zs) (fun _ => True)
            (fun s W o h => h.later (box_below W o)) (fun s W W' k h gr hk hc => h.grown gr (fun q e => by cases e; omega)) (fun cc s W W' k h gr hk hc => h.elim)
            (fun A B hA hb => ⟨hb.mono (by omega), hb.block _ (by omega)⟩) (fun h k => ⟨h.1.trans k.1, k.2.trans h.2⟩)
            (fun W l o o' hl ho hc => ⟨belowK_b' (w := WR) (by omega) W l o o' hl ho, World.putObj_heap_other (by omega)⟩)
            ⟨KR.out, rR.out, iR.out, gR.out, by omega, by omega, by omega⟩ ?seq
            (fun Y x a' W => ∃ (Bo : Nat) (u14 u33 u34 u67 u68 u69 u70 u71 u72 u73 u74 u75 u76 u77 u78 u79 u80 u81 u82 u83 u84 u85 u86 u87 u88 u89 u90 u91 u92 u93 u94 u95 : Value), W.heap[Bo]? = some (.cells #[.int .i64 x.2.c, .string x.2.k, .string x.2.v] 50) ∧ a' = { tmps := #[.slice a len cap, .int .i64 early, undef, .pointer (some ⟨n0, 0, none⟩), .pointer (some ⟨n0 + 1, 0, none⟩), .slice (some ⟨g, 0, none⟩) len c, .pointer (some ⟨sq, 0, none⟩), .pointer (some ⟨sq + 1, 0, none⟩), .int .i64 en, .func (.func 56) #[] #[.pointer (some ⟨bx, 0, none⟩)], .pointer (some ⟨rb, 0, none⟩), .pointer (some ⟨ib, 0, none⟩), .int .u64 x.1, .pointer (some ⟨Bo, 0, none⟩), u14, .slice a len cap, .slice (some ⟨g, 0, none⟩) len c, .tuple #[.int .u64 S, .slice av N cv, .int .i64 en], .slice a len cap, .tuple #[.int .u64 S, .slice av N cv, .int .i64 en], .int .u64 S, .slice av N cv, .int .i64 en, .slice (some ⟨g, 0, none⟩) len c, .func (.func 56) #[] #[.pointer (some ⟨bx, 0, none⟩)], .func (.func 56) #[] #[.pointer (some ⟨bx, 0, none⟩)], .bool false, .bool false, .bool true, .bool false, .bool false, .int .i64 1, .bool true, u33, u34, .func (.func 56) #[] #[.pointer (some ⟨bx, 0, none⟩)], .int .u64 x.1, .agg #[.int .i64 x.2.c, .string x.2.k, .string x.2.v], undef, undef, undef, undef, undef, undef, undef, undef, undef, undef, undef, undef, undef, undef, undef, undef, undef, undef, undef, undef, undef, undef, undef, undef, undef, undef, undef, undef, undef, u67, u68, u69, u70, u71, u72, u73, u74, u75, u76, u77, u78, u79, u80, u81, u82, u83, u84, u85, u86, u87, u88, u89, u90, u91, u92, u93, u94, u95], defers := [] })
            ?hAx ?assign ?body ?done ?stop
          case seq =>
            intro l J Jx W1 hB1 hY h0
            refine (each_q 7 (by omega) l bx M a' len c' zs J Jx (by omega) hY W1 ((hB1.block _ FR.out.b.lt).trans FR.out.b) (fun W' h' => (FK.out W' (KR.out.trans ((Keep.below (hB1.mono (by omega))).trans (Keep.below h')))).bs) (by have := hB1.size; omega) h0).mono ?_
            rintro r W' ⟨hv, (⟨W0, h1, h2⟩ | ⟨pre, h1, h2⟩)⟩
            · exact ⟨hv, .inl ⟨_, W0, h1, h2, rfl⟩⟩
            · exact ⟨hv, .inr ⟨pre, trivial, h2⟩⟩
          case hAx =>
            rintro Y x a' W W' j ⟨Bo, u14, u33, u34, u67, u68, u69, u70, u71, u72, u73, u74, u75, u76, u77, u78, u79, u80, u81, u82, u83, u84, u85, u86, u87, u88, u89, u90, u91, u92, u93, u94, u95, h1, h2⟩ hg' hc
            refine ⟨Bo, u14, u33, u34, u67, u68, u69, u70, u71, u72, u73, u74, u75, u76, u77, u78, u79, u80, u81, u82, u83, u84, u85, u86, u87, u88, u89, u90, u91, u92, u93, u94, u95, (hg'.block Bo (blk_lt h1) (fun e => ?_)).trans h1, h2⟩
            cases e
            exact hc _ _ _ h1
          case assign =>
            intro l x W K hK
            simp only [encs]
            gi_wp2
            exact hK _ _ (box_below _ _) ⟨W.heap.size, _, _, _, _, _, _, _, _, _, _, _, _, _, _, _, _, _, _, _, _, _, _, _, _, _, _, _, _, _, _, _, _, new_at _ _, rfl⟩
          case body =>
            rintro l pre x a' W0 WY W1 W2 hI h0Y h01 hfr h12 hl hlo hnc ⟨Bo, u14, u33, u34, u67, u68, u69, u70, u71, u72, u73, u74, u75, u76, u77, u78, u79, u80, u81, u82, u83, u84, u85, u86, u87, u88, u89, u90, u91, u92, u93, u94, u95, hBo, rfl⟩
            clear key hlo hnc h0Y
            have hC2 : Ii M g ib rb 1 w8 X pre W2 := (hI.later h01).grown h12 (fun j e => by cases e; omega)
            rw [hit.out] at hfr
            obtain ⟨hk, rfl⟩ := pre_item hfr
            have F2 := FK.out W2 hC2.k
            have hkN : pre.length < N := by rw [hN.out]; exact hk
            obtain ⟨b, o, p, rfl, rfl, hat⟩ : ∃ b o p, av = some ⟨b, o, p⟩ ∧ p = none ∧ At3 W2 b (o + pre.length * 3) (xs.getD pre.length zo) := by
              cases av with
              | none => have := F2.os.2.2.1 rfl; omega
              | some ad =>
                obtain ⟨b, o, p⟩ := ad
                obtain ⟨rfl, h⟩ := F2.os.2.2.2.2 b o p rfl (by omega)
                exact ⟨b, o, none, rfl, rfl, h _ hkN⟩
            have hcv := F2.os.2.1
            have ce := F2.e.cell
            have cr4 := F2.r.cell
            have cs := F2.s.cell
            have co := F2.o.cell
            have ci := hC2.i.cell
            have fi := hC2.i.frozen
            have crr := hC2.r.cell
            revert hat hBo
            generalize xs.getD pre.length zo = x
            obtain ⟨xc, xk, xv⟩ := x
            intro hBo hat
            obtain ⟨q0, q1, q2⟩ := hat
            dsimp only at q0 q1 q2 hBo
            have y0 := cell_of hBo 0 _ rfl
            have y1 := cell_of hBo 1 _ rfl
            have y2 := cell_of hBo 2 _ rfl
            have hU := hid (hC2.up (IntKind.u64.wrap (S + pre.length), ⟨xc, xk, xv⟩))
            obtain ⟨k, hk'⟩ : ∃ k, k = pre.length := ⟨_, rfl⟩
            have hkk : k < N := by rw [hk']; exact hkN
            have hNx : N ≤ 4294967296 := by rw [hN.out]; exact hxl
            rw [← hk'] at ci q0 q1 q2 hU ⊢
            replace hk' := hid hk'
            clear hk hkN hfr
            have g1 : decide ((N : Int) ≤ (k : Int)) = false := decide_eq_false (by omega)
            have g2 : decide (N ≤ k) = false := decide_eq_false (by omega)
            have ik : (k : Int) < (N : Int) := by omega
            have kw : IntKind.u64.wrap (k : Int) = (k : Int) := by simp [IntKind.wrap, IntKind.bits, IntKind.signed]; omega
            have nn : (IntKind.u64.wrap (S + (k : Int)) != IntKind.u64.wrap (S + (k : Int))) = false := bne_self_eq_false _
            replace hI := hid hI
            replace hC2 := hid hC2
            replace F2 := hid F2
            replace hBo := hid hBo
            gi_wp2_with fail
            refine Qi.region_round (by kernel_rfl) (by kernel_rfl) (by kernel_rfl) ?_
            repeat (quiet_step_in (fail))
            refine wpQuietIn_nil ?_
            intro _ hw'
            obtain ⟨nq, hw''⟩ := hw'
            subst hw''
            obtain ⟨kN, kP, ce2, crr2⟩ := body_post hC2.out nq (ib + 1) (.int .i64 ((k : Int) + 1)) hbM (by omega : n0 < M) ce
            have hU2 := hid (hU.out nq)
            have kw2 : wrap64 ((k : Int) + 1) = (k : Int) + 1 := IntWalk.wrap64_in _ ⟨by omega, by omega⟩
            replace kN := hid kN
            replace kP := hid kP
            have ci3 : (W2.drewN nq).cell? ⟨ib, 0, none⟩ = some (.int .i64 (k : Int)) := ci
            have fi3 : (W2.drewN nq).frozen? ⟨ib, 0, none⟩ = false := fi
            have ci4 : ((W2.drewN nq).setCell ⟨ib, 0, none⟩ (.int .i64 ((k : Int) + 1))).cell? ⟨ib, 0, none⟩ = some (.int .i64 ((k : Int) + 1)) := (Boxed.set (.int .i64 ((k : Int) + 1)) (hC2.out.drew nq).i).cell
            clear q0 q1 q2 y0 y1 y2 ce cr4 cs co ci fi crr g1 g2 ik kw nn hcv h01 h12 hU hBo F2 hI hit
            replace sR := hid sR
            generalize W2.drewN nq = WD at *
            clear zr hgM hbM zX zi zm hl hcap hS hxl cr
            gi_wp2_with fail
            exact ⟨sR.out ▸ kN.out, kP.out, hU2.out⟩
          case done =>
            intro D l ys W0 W W' hD hI hB hF hgr hl hnc hd
            exact key.out D W' ys _ _ _ _ _ _ _ _ _ _ _ _ _ _ _ _ _ _ _ _ _ _ _ _ _ _ _ _ _ _ _ _ ((hI.later hB).grown hgr (fun q e => by cases e; omega)) (.inl (by rw [hF, hit.out, num_len, hN.out])) hD hd
          case stop =>
            intro D cc pre W hD _ hx
            exact hx.elim
  clear hKq
  replace key := hid key
  refine range_q (F := Fence.wide) (n := 8) encs rfl (by omega) (gf := 56) (lb := #[.pointer (some ⟨bx, 0, none⟩)]) rfl trivial (enters_of Try.func56 (by kernel_rfl) rfl) (fun _ => rfl)
    (fun ys W => Ii M g ib M 0 w8 X ys W) (fun cc ys W => cc = Code.exit 2 ∧ Ii M g ib M 0 w8 X ys W ∧ ((ys.length : Nat) : Int) = early) (fun pre x => pre ++ [x] <+: items zs) (Kp M bx) (fun ys _ _ => ys = items zs) (fun _ => True)
    (fun s W o h => h.later (box_below W o)) (fun s W W' k h gr hk hc => h.grown gr (fun q e => by cases e; omega)) (fun cc s W W' k h gr hk hc => ⟨h.1, h.2.1.grown gr (fun q e => by cases e; omega), h.2.2⟩)
    (fun A B hA hb => ⟨hb.mono (by omega), hb.block _ (by omega)⟩) (fun h k => ⟨h.1.trans k.1, k.2.trans h.2⟩)
    (fun W l o o' hl ho hc => ⟨belowK_b' (w := WR) (by omega) W l o o' hl ho, World.putObj_heap_other (by omega)⟩)
    ⟨KR.out, rR.out, iR.out, gR.out, by omega, by omega, by omega⟩ ?seq
    (fun Y x a' W => ∃ (Bo : Nat) (u14 u33 u34 u67 u68 u69 u70 u71 u72 u73 u74 u75 u76 u77 u78 u79 u80 u81 u82 u83 u84 u85 u86 u87 u88 u89 u90 u91 u92 u93 u94 u95 : Value), W.heap[Bo]? = some (.cells #[.int .i64 x.2.c, .string x.2.k, .string x.2.v] 50) ∧ a' = { tmps := #[.slice a len cap, .int .i64 early, undef, .pointer (some ⟨n0, 0, none⟩), .pointer (some ⟨n0 + 1, 0, none⟩), .slice (some ⟨g, 0, none⟩) len c, .pointer (some ⟨sq, 0, none⟩), .pointer (some ⟨sq + 1, 0, none⟩), .int .i64 en, .func (.func 56) #[] #[.pointer (some ⟨bx, 0, none⟩)], .pointer (some ⟨M, 0, none⟩), .pointer (some ⟨ib, 0, none⟩), .int .u64 x.1, .pointer (some ⟨Bo, 0, none⟩), u14, .slice a len cap, .slice (some ⟨g, 0, none⟩) len c, .tuple #[.int .u64 S, .slice av N cv, .int .i64 en], .slice a len cap, .tuple #[.int .u64 S, .slice av N cv, .int .i64 en], .int .u64 S, .slice av N cv, .int .i64 en, .slice (some ⟨g, 0, none⟩) len c, .func (.func 56) #[] #[.pointer (some ⟨bx, 0, none⟩)], .func (.func 56) #[] #[.pointer (some ⟨bx, 0, none⟩)], .bool false, .bool false, .bool true, .bool false, .bool false, .int .i64 0, .bool true, u33, u34, .func (.func 56) #[] #[.pointer (some ⟨bx, 0, none⟩)], .int .u64 x.1, .agg #[.int .i64 x.2.c, .string x.2.k, .string x.2.v], undef, undef, undef, undef, undef, undef, undef, undef, undef, undef, undef, undef, undef, undef, undef, undef, undef, undef, undef, undef, undef, undef, undef, undef, undef, undef, undef, undef, undef, u67, u68, u69, u70, u71, u72, u73, u74, u75, u76, u77, u78, u79, u80, u81, u82, u83, u84, u85, u86, u87, u88, u89, u90, u91, u92, u93, u94, u95], defers := [] })
    ?hAx ?assign ?body ?done ?stop
  case seq =>
    intro l J Jx W1 hB1 hY h0
    refine (each_q 7 (by omega) l bx M a' len c' zs J Jx (by omega) hY W1 ((hB1.block _ FR.out.b.lt).trans FR.out.b) (fun W' h' => (FK.out W' (KR.out.trans ((Keep.below (hB1.mono (by omega))).trans (Keep.below h')))).bs) (by have := hB1.size; omega) h0).mono ?_
    rintro r W' ⟨hv, (⟨W0, h1, h2⟩ | ⟨pre, h1, h2⟩)⟩
    · exact ⟨hv, .inl ⟨_, W0, h1, h2, rfl⟩⟩
    · exact ⟨hv, .inr ⟨pre, trivial, h2⟩⟩
  case hAx =>
    rintro Y x a' W W' j ⟨Bo, u14, u33, u34, u67, u68, u69, u70, u71, u72, u73, u74, u75, u76, u77, u78, u79, u80, u81, u82, u83, u84, u85, u86, u87, u88, u89, u90, u91, u92, u93, u94, u95, h1, h2⟩ hg' hc
    refine ⟨Bo, u14, u33, u34, u67, u68, u69, u70, u71, u72, u73, u74, u75, u76, u77, u78, u79, u80, u81, u82, u83, u84, u85, u86, u87, u88, u89, u90, u91, u92, u93, u94, u95, (hg'.block Bo (blk_lt h1) (fun e => ?_)).trans h1, h2⟩
    cases e
    exact hc _ _ _ h1
  case assign =>
    intro l x W K hK
    simp only [encs]
    gi_wp2
    exact hK _ _ (box_below _ _) ⟨W.heap.size, _, _, _, _, _, _, _, _, _, _, _, _, _, _, _, _, _, _, _, _, _, _, _, _, _, _, _, _, _, _, _, _, new_at _ _, rfl⟩
  case body =>
    rintro l pre x a' W0 WY W1 W2 hI h0Y h01 hfr h12 hl hlo hnc ⟨Bo, u14, u33, u34, u67, u68, u69, u70, u71, u72, u73, u74, u75, u76, u77, u78, u79, u80, u81, u82, u83, u84, u85, u86, u87, u88, u89, u90, u91, u92, u93, u94, u95, hBo, rfl⟩
    clear key hlo hnc h0Y
    have hC2 : Ii M g ib M 0 w8 X pre W2 := (hI.later h01).grown h12 (fun j e => by cases e; omega)
    rw [hit.out] at hfr
    obtain ⟨hk, rfl⟩ := pre_item hfr
    have F2 := FK.out W2 hC2.k
    have hkN : pre.length < N := by rw [hN.out]; exact hk
    obtain ⟨b, o, p, rfl, rfl, hat⟩ : ∃ b o p, av = some ⟨b, o, p⟩ ∧ p = none ∧ At3 W2 b (o + pre.length * 3) (xs.getD pre.length zo) := by
      cases av with
      | none => have := F2.os.2.2.1 rfl; omega
      | some ad =>
        obtain ⟨b, o, p⟩ := ad
        obtain ⟨rfl, h⟩ := F2.os.2.2.2.2 b o p rfl (by omega)
        exact ⟨b, o, none, rfl, rfl, h _ hkN⟩
    have hcv := F2.os.2.1
    have ce := F2.e.cell
    have cr4 := F2.r.cell
    have cs := F2.s.cell
    have co := F2.o.cell
    have ci := hC2.i.cell
    have fi := hC2.i.frozen
    have crr := hC2.r.cell
    revert hat hBo
    generalize xs.getD pre.length zo = x
    obtain ⟨xc, xk, xv⟩ := x
    intro hBo hat
    obtain ⟨q0, q1, q2⟩ := hat
    dsimp only at q0 q1 q2 hBo
    have y0 := cell_of hBo 0 _ rfl
    have y1 := cell_of hBo 1 _ rfl
    have y2 := cell_of hBo 2 _ rfl
    have hU := hid (hC2.up (IntKind.u64.wrap (S + pre.length), ⟨xc, xk, xv⟩))
    obtain ⟨k, hk'⟩ : ∃ k, k = pre.length := ⟨_, rfl⟩
    have hkk : k < N := by rw [hk']; exact hkN
    have hNx : N ≤ 4294967296 := by rw [hN.out]; exact hxl
    rw [← hk'] at ci q0 q1 q2 hU ⊢
    replace hk' := hid hk'
    clear hk hkN hfr
    have g1 : decide ((N : Int) ≤ (k : Int)) = false := decide_eq_false (by omega)
    have g2 : decide (N ≤ k) = false := decide_eq_false (by omega)
    have ik : (k : Int) < (N : Int) := by omega
    have kw : IntKind.u64.wrap (k : Int) = (k : Int) := by simp [IntKind.wrap, IntKind.bits, IntKind.signed]; omega
    have nn : (IntKind.u64.wrap (S + (k : Int)) != IntKind.u64.wrap (S + (k : Int))) = false := bne_self_eq_false _
    replace hI := hid hI
    replace hC2 := hid hC2
    replace F2 := hid F2
    replace hBo := hid hBo
    gi_wp2_with fail
    refine Qi.region_round (by kernel_rfl) (by kernel_rfl) (by kernel_rfl) ?_
    repeat (quiet_step_in (fail))
    refine wpQuietIn_nil ?_
    intro _ hw'
    obtain ⟨nq, hw''⟩ := hw'
    subst hw''
    obtain ⟨kN, kP, ce2, crr2⟩ := body_post hC2.out nq (ib + 1) (.int .i64 ((k : Int) + 1)) hbM (by omega : n0 < M) ce
    have hU2 := hid (hU.out nq)
    have kw2 : wrap64 ((k : Int) + 1) = (k : Int) + 1 := IntWalk.wrap64_in _ ⟨by omega, by omega⟩
    replace kN := hid kN
    replace kP := hid kP
    have ci3 : (W2.drewN nq).cell? ⟨ib, 0, none⟩ = some (.int .i64 (k : Int)) := ci
    have fi3 : (W2.drewN nq).frozen? ⟨ib, 0, none⟩ = false := fi
    have ci4 : ((W2.drewN nq).setCell ⟨ib, 0, none⟩ (.int .i64 ((k : Int) + 1))).cell? ⟨ib, 0, none⟩ = some (.int .i64 ((k : Int) + 1)) := (Boxed.set (.int .i64 ((k : Int) + 1)) (hC2.out.drew nq).i).cell
    clear q0 q1 q2 y0 y1 y2 ce cr4 cs co ci fi crr g1 g2 ik kw nn hcv h01 h12 hU hBo F2 hI hit
    replace sR := hid sR
    generalize W2.drewN nq = WD at *
    clear s2 hg z3 z4 s6 hbx1 z7 z8 esq hgM hbM zX zi zm hl hcap hS hxl cr
    by_cases hek : (k : Int) + 1 = early
    · have hek' : (((k : Int) + 1) == early) = true := by simpa using hek
      replace hek := hid hek
      gi_wp2_with fail
      exact ⟨sR.out ▸ kN.out, rfl, hU2.out, by rw [List.length_append, ← hk'.out]; simpa using hek.out⟩
    · have hek' : (((k : Int) + 1) == early) = false := by simpa using hek
      replace hek := hid hek
      gi_wp2_with fail
      exact ⟨sR.out ▸ kN.out, kP.out, hU2.out⟩
  case done =>
    intro D l ys W0 W W' hD hI hB hF hgr hl hnc hd
    exact key.out D W' ys _ _ _ _ _ _ _ _ _ _ _ _ _ _ _ _ _ _ _ _ _ _ _ _ _ _ _ _ _ _ _ _ ((hI.later hB).grown hgr (fun q e => by cases e; omega)) (.inl (by rw [hF, hit.out, num_len, hN.out])) hD hd
  case stop =>
    rintro D cc pre W hD _ ⟨rfl, hI, hl⟩ hd
    gi_wp2_with fail
    exact key.out D W pre _ _ _ _ _ _ _ _ _ _ _ _ _ _ _ _ _ _ _ _ _ _ _ _ _ _ _ _ _ _ _ _ hI (.inr ⟨hl, by trivial⟩) hD hd
end Go.Proofs.Ytmceanfgcehfeaa.Bw

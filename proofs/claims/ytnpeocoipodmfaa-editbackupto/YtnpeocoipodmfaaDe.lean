/- edit.Decode by its contract. -/
import Derived.Test.YtnpeocoipodmfaaDp
import Derived.ScopeJumps
import Derived.WalkMore
namespace Go.Proofs.Ytnpeocoipodmfaa.De
open Go.ChangeShapes Go.WideShapes Go.ChangeAt Go.RowKit
open Go.Proofs.Ytnpeocoipodmfaa.Gr
open Go.Proofs.Ytnpeocoipodmfaa.Ev
open Go.Proofs.Ytnpeocoipodmfaa.Nu (nread)
open Go.Proofs.Ytnpeocoipodmfaa.Ri
open Go.Proofs.Ytnpeocoipodmfaa.Ra (added_any afail put7 seven_put)
open Go.Proofs.Ytnpeocoipodmfaa.Mg (below_grown)
open Go.Proofs.Ytnpeocoipodmfaa.Le (below_blk)
open Go.Proofs.Ytnpeocoipodmfaa.Dp
open Go.Proofs.Ytnpeocoipodmfaa.En (encode_yes)
open Go.Proofs.Ytnpeocoipodmfaa.Eo (encode_no)
open Go.Proofs.Ytnpeocoipodmfaa.Eq (equal_same equal_no)
open Go.Proofs.Ytnpeocoipodmfaa.Va (vE)
open Go.Proofs.Ytnpeocoipodmfaa.Be (enc)
open Go.Proofs.Ytnpeocoipodmfaa.Bu (eB own_of)
open Go.Proofs.Ytnpeocoipodmfaa.Le (wpList_append_run put5)
open Go.Proofs.Ytnpeocoipodmfaa.By (Row Bytes tx str tread)
set_option linter.unusedVariables false
set_option linter.unusedSimpArgs false

theorem dstep_1 {zs : List Int} {d : Ed} {p : Int} (h : zs.getD p.toNat 0 = 1) : dstep zs d p = (if (nread zs (p + 1)).2.2 = 0 then some (⟨(nread zs (p + 1)).1, d.nx, d.sq, d.go, d.co⟩, (nread zs (p + 1)).2.1) else none) := by
  unfold dstep; rw [if_pos h]
theorem dstep_2 {zs : List Int} {d : Ed} {p : Int} (h : zs.getD p.toNat 0 = 2) : dstep zs d p = (if (nread zs (p + 1)).2.2 = 0 then some (⟨d.log, (nread zs (p + 1)).1, d.sq, d.go, d.co⟩, (nread zs (p + 1)).2.1) else none) := by
  unfold dstep; rw [if_neg (by rw [h]; decide), if_pos h]
theorem dstep_3 {zs : List Int} {d : Ed} {p : Int} (h : zs.getD p.toNat 0 = 3) : dstep zs d p = (if (Vb.vread zs (p + 1)).2.2 = 0 then some (⟨d.log, d.nx, (Vb.vread zs (p + 1)).1, d.go, d.co⟩, (Vb.vread zs (p + 1)).2.1) else none) := by
  unfold dstep; rw [if_neg (by rw [h]; decide), if_neg (by rw [h]; decide), if_pos h]
theorem dstep_4 {zs : List Int} {d : Ed} {p : Int} (h : zs.getD p.toNat 0 = 4) : dstep zs d p = (if (rdk (nread zs) 2 (p + 1)).2.2 = 0 then some (⟨d.log, d.nx, d.sq, d.go ++ [⟨(rdk (nread zs) 2 (p + 1)).1.getD 0 0, (rdk (nread zs) 2 (p + 1)).1.getD 1 0⟩], d.co⟩, (rdk (nread zs) 2 (p + 1)).2.1) else none) := by
  unfold dstep; rw [if_neg (by rw [h]; decide), if_neg (by rw [h]; decide), if_neg (by rw [h]; decide), if_pos h]
theorem dstep_5 {zs : List Int} {d : Ed} {p : Int} (h : zs.getD p.toNat 0 = 5) : dstep zs d p = (match dst5 zs (p + 1) with | some (x, q) => some (⟨d.log, d.nx, d.sq, d.go, d.co ++ [x]⟩, q) | none => none) := by
  unfold dstep; rw [if_neg (by rw [h]; decide), if_neg (by rw [h]; decide), if_neg (by rw [h]; decide), if_neg (by rw [h]; decide), if_pos h]; rfl
theorem dstep_no {zs : List Int} {d : Ed} {p : Int} (h1 : zs.getD p.toNat 0 ≠ 1) (h2 : zs.getD p.toNat 0 ≠ 2) (h3 : zs.getD p.toNat 0 ≠ 3) (h4 : zs.getD p.toNat 0 ≠ 4) (h5 : zs.getD p.toNat 0 ≠ 5) : dstep zs d p = none := by
  unfold dstep; rw [if_neg h1, if_neg h2, if_neg h3, if_neg h4, if_neg h5]
theorem drun_next {zs : List Int} {k : Nat} {d : Ed} {p : Int} (h : drun zs k = some (d, p)) (hp : p < zs.length) : drun zs (k + 1) = dstep zs d p := by
  show (match drun zs k with | some (d, p) => if p < zs.length then dstep zs d p else none | none => none) = _
  rw [h]
  exact if_pos hp
theorem nread_bd (zs : List Int) (p : Int) (hb : ∀ y ∈ zs, 0 ≤ y ∧ y ≤ 255) (h : (nread zs p).2.2 = 0) : bd (nread zs p).1 := by
  have h2 : (Vb.vread zs p).2.2 = 0 := h
  obtain ⟨_, _, _, _, _, e, f⟩ := By.vread_ok zs p hb h2
  unfold nread bd wrap64
  dsimp only
  omega
theorem vread_bu (zs : List Int) (p : Int) (hb : ∀ y ∈ zs, 0 ≤ y ∧ y ≤ 255) (h : (Vb.vread zs p).2.2 = 0) : bu (Vb.vread zs p).1 := by
  obtain ⟨_, _, _, _, _, e, f⟩ := By.vread_ok zs p hb h
  exact ⟨e, f⟩
theorem rdk_all {α : Type} (R : Int → α × Int × Int) (P : α → Prop) (hR : ∀ p, (R p).2.2 = 0 → P (R p).1) (p : Int) : ∀ k, (rdk R k p).2.2 = 0 → ∀ x ∈ (rdk R k p).1, P x
  | 0, _, x, hx => by cases hx
  | k + 1, h, x, hx => by
    rw [rdk_succ] at h hx
    by_cases h1 : (rdk R k p).2.2 = 0
    · rw [if_neg (by simpa using h1)] at h hx
      by_cases h2 : (R (rdk R k p).2.1).2.2 = 0
      · rw [if_neg (by simpa using h2)] at hx
        rcases List.mem_append.1 hx with hx | hx
        · exact rdk_all R P hR p k h1 x hx
        · rw [List.mem_singleton] at hx; subst hx; exact hR _ h2
      · rw [if_pos h2] at h; exact absurd h h2
    · rw [if_pos h1] at h; exact absurd h h1
theorem tread_sz (zs : List Int) (p : Int) : (tread zs p).1.length ≤ zs.length := by
  unfold By.tread
  split
  · exact Nat.zero_le _
  · split
    · exact Nat.zero_le _
    · rw [List.length_take, List.length_drop]; omega
theorem puts2 : ∀ (xs : List Int), xs.length ≤ 2 → puts #[.int .i64 0, .int .i64 0] 0 (xs.map (fun v => Value.int .i64 v)) = #[.int .i64 (xs.getD 0 0), .int .i64 (xs.getD 1 0)]
  | [], _ => rfl
  | [x], _ => rfl
  | [x, y], _ => rfl
  | x :: y :: z :: r, h => by simp at h
theorem puts1 (f : Int → Value) (cs : Array Value) (o : Nat) (x : Int) : puts cs o ([x].map f) = cs.setIfInBounds o (f x) := by
  have h := puts_snoc (f x) [] cs o
  exact h
theorem two_bd {zs : List Int} (hb : ∀ y ∈ zs, 0 ≤ y ∧ y ≤ 255) (p : Int) (h : (rdk (nread zs) 2 p).2.2 = 0) : Pl.ok ⟨(rdk (nread zs) 2 p).1.getD 0 0, (rdk (nread zs) 2 p).1.getD 1 0⟩ := by
  have ha := rdk_all (nread zs) bd (fun p h => nread_bd zs p hb h) p 2 h
  have hl := rdk_len (nread zs) p 2 h
  generalize (rdk (nread zs) 2 p).1 = l at *
  match l, hl with
  | [x, y], _ => exact ⟨ha x (by simp), ha y (by simp)⟩
theorem dst5_yes {zs : List Int} (hb : ∀ y ∈ zs, 0 ≤ y ∧ y ≤ 255) (hl : zs.length ≤ 4294967296) {p l n z lo hi q1 q2 q3 : Int} {s1 s2 : List Int} (h1 : rdk (nread zs) 3 p = ([l, n, z], q1, 0)) (h2 : rdk (By.tread zs) 2 q1 = ([s1, s2], q2, 0)) (h3 : rdk (Vb.vread zs) 2 q2 = ([lo, hi], q3, 0)) :
    dst5 zs p = some (⟨l, ⟨n, z, str s1, str s2, lo, hi⟩⟩, q3) ∧ (∃ q : Nat, q3 = q ∧ p < q ∧ q ≤ zs.length) ∧ Ad.ok ⟨l, ⟨n, z, str s1, str s2, lo, hi⟩⟩ := by
  have e1 : (rdk (nread zs) 3 p).2.2 = 0 := by rw [h1]
  have e2 : (rdk (By.tread zs) 2 q1).2.2 = 0 := by rw [h2]
  have e3 : (rdk (Vb.vread zs) 2 q2).2.2 = 0 := by rw [h3]
  refine ⟨?_, ?_, ?_⟩
  · unfold dst5
    rw [h1]
    dsimp only
    rw [h2]
    dsimp only
    rw [h3]
    rfl
  · obtain ⟨a1, b1, c1, d1⟩ := rdk_fwd (nread_fwd hb) p 2 e1
    obtain ⟨a2, b2, c2, d2⟩ := rdk_fwd (tread_fwd hb) q1 1 e2
    obtain ⟨a3, b3, c3, d3⟩ := rdk_fwd (vread_fwd hb) q2 1 e3
    rw [h1] at b1
    rw [h2] at b2
    rw [h3] at b3
    exact ⟨a3, b3, by dsimp only at b1 b2; omega, d3⟩
  · have f1 := rdk_all (nread zs) bd (fun p h => nread_bd zs p hb h) p 3 e1
    have f2 := rdk_all (By.tread zs) (fun s => s.length ≤ zs.length) (fun p _ => tread_sz zs p) q1 2 e2
    have f3 := rdk_all (Vb.vread zs) bu (fun p h => vread_bu zs p hb h) q2 2 e3
    rw [h1] at f1
    rw [h2] at f2
    rw [h3] at f3
    have g1 := f2 s1 (by simp)
    have g2 := f2 s2 (by simp)
    exact ⟨f1 l (by simp), f1 n (by simp), f1 z (by simp), by rw [By.str_size]; unfold maxLen; omega, by rw [By.str_size]; unfold maxLen; omega, f3 lo (by simp), f3 hi (by simp)⟩
theorem dst5_no {zs : List Int} {p : Int} (h : afail zs p) : dst5 zs p = none := by
  unfold dst5
  rcases h with h | h | h
  · rw [if_pos h]
  · by_cases h0 : (rdk (nread zs) 3 p).2.2 ≠ 0
    · rw [if_pos h0]
    · rw [if_neg h0, if_pos h]
  · by_cases h0 : (rdk (nread zs) 3 p).2.2 ≠ 0
    · rw [if_pos h0]
    · rw [if_neg h0]
      by_cases h1 : (rdk (By.tread zs) 2 (rdk (nread zs) 3 p).2.1).2.2 ≠ 0
      · rw [if_pos h1]
      · rw [if_neg h1, if_pos h]
theorem five_cells {W : World} {g : Nat} {cs : Array Value} {t : TypeId} (h : W.heap[g]? = some (.cells cs t)) (hs : cs.size = 5) : ∃ a0 a1 a2 a3 a4, cs = #[a0, a1, a2, a3, a4] := by
  obtain ⟨l⟩ := cs
  match l, hs with
  | [a0, a1, a2, a3, a4], _ => exact ⟨a0, a1, a2, a3, a4, rfl⟩
theorem mem_vbs {vs : List Int} (h : ∀ v ∈ vs, 0 ≤ v ∧ v ≤ 18446744073709551615) : ∀ y ∈ Bv.vbs vs, 0 ≤ y ∧ y ≤ 255 := by
  intro y hy
  obtain ⟨v, hv, hy⟩ := List.mem_flatMap.1 hy
  exact Vb.vb_bytes v (h v hv) y hy
theorem mem_sd {t x : Int} (ht : 0 ≤ t ∧ t ≤ 255) (h : 0 ≤ x ∧ x ≤ 18446744073709551615) : ∀ y ∈ Bs.sd t x, 0 ≤ y ∧ y ≤ 255 := by
  intro y hy
  unfold Bs.sd at hy
  split at hy
  · cases hy
  · rcases List.mem_cons.1 hy with rfl | hy
    · exact ht
    · exact Vb.vb_bytes x h y hy
theorem enc_ok {d : Ed} (hV : vE d = true) (hs : bu d.sq) : ∀ y ∈ enc d, 0 ≤ y ∧ y ≤ 255 := by
  obtain ⟨lg, nx, sq, ps, co⟩ := d
  obtain ⟨h1, h2, h3, h4, h5⟩ := En.vE_of hV
  intro y hy
  unfold enc at hy
  rcases List.mem_append.1 hy with hy | hy
  · rcases List.mem_append.1 hy with hy | hy
    · unfold Be.sdL at hy
      rcases List.mem_append.1 hy with hy | hy
      · rcases List.mem_append.1 hy with hy | hy
        · exact mem_sd (by decide) ⟨h1.1, by have := h1.2; dsimp only at *; omega⟩ y hy
        · exact mem_sd (by decide) ⟨h2.1, by have := h2.2; dsimp only at *; omega⟩ y hy
      · exact mem_sd (by decide) hs y hy
    · obtain ⟨p, hp, hy⟩ := List.mem_flatMap.1 hy
      obtain ⟨k1, k2⟩ := En.plc_of (h4 p hp)
      rcases List.mem_cons.1 hy with rfl | hy
      · decide
      · refine mem_vbs ?_ y hy
        intro v hv
        simp at hv
        rcases hv with rfl | rfl <;> omega
  · obtain ⟨x, hx, hy⟩ := List.mem_flatMap.1 hy
    obtain ⟨k1, k2⟩ := h5 x hx
    obtain ⟨k3, k4⟩ := En.plc_of k1
    obtain ⟨f1, f2, f3, f4, f5, f6⟩ := En.fil_of k2
    have k3' : 0 ≤ x.l ∧ x.l ≤ 6 := k3
    have k4' : 1 ≤ x.f.n ∧ x.f.n ≤ 2147483647 := k4
    rcases List.mem_append.1 hy with hy | hy
    · rcases List.mem_append.1 hy with hy | hy
      · rcases List.mem_append.1 hy with hy | hy
        · rcases List.mem_cons.1 hy with rfl | hy
          · decide
          · refine mem_vbs ?_ y hy
            intro v hv
            simp at hv
            rcases hv with rfl | rfl | rfl <;> omega
        · exact Be.txB_ok _ (by omega) y hy
      · exact Be.txB_ok _ (by omega) y hy
    · refine mem_vbs ?_ y hy
      intro v hv
      simp at hv
      rcases hv with rfl | rfl <;> omega
theorem bytes_own {W : World} {base : Nat} {v : Value} {zs : List Int} (h : eB.Own W base v zs) (hb : ∀ y ∈ zs, 0 ≤ y ∧ y ≤ 255) : ∃ a n c, v = .slice a n c ∧ Bytes W a n c zs := by
  obtain ⟨a, c, h1, h2, h3⟩ := h.sl hb
  refine ⟨a, _, c, h1, rfl, h2.c, h2.nil, hb, ?_⟩
  intro x hx i hi
  obtain ⟨b, o, p⟩ := x
  obtain ⟨hp, hc⟩ := h2.cells b o p hx (by omega)
  subst hp
  have h4 := hc i hi 0 _ rfl
  have e : o + i * eB.k + 0 = o + i := by show o + i * 1 + 0 = _; omega
  rw [e] at h4
  rw [addr_add]
  exact h4
/-- Why it is refused. -/
def dbad (zs : List Int) (len : Nat) : Prop := ∃ k d q, drun zs k = some (d, q) ∧ ((q < (len : Int) ∧ dstep zs d q = none) ∨ ((len : Int) ≤ q ∧ (vE d = false ∨ enc d ≠ zs)))
/-- What was read can be. -/
structure Dk (d : Ed) (q : Nat) : Prop where
  l : bd d.log
  n : bd d.nx
  s : bu d.sq
  g : ∀ x ∈ d.go, x.ok
  c : ∀ x ∈ d.co, x.ok
  z : d.go.length + d.co.length ≤ q
theorem Dk.start : Dk zed 0 := ⟨⟨by decide, by decide⟩, ⟨by decide, by decide⟩, ⟨by decide, by decide⟩, (fun x h => by cases h), (fun x h => by cases h), Nat.le_refl _⟩
theorem Dk.set1 {d : Ed} {q q' : Nat} (h : Dk d q) (hq : q ≤ q') {x : Int} (hx : bd x) : Dk ⟨x, d.nx, d.sq, d.go, d.co⟩ q' := ⟨hx, h.n, h.s, h.g, h.c, Nat.le_trans h.z hq⟩
theorem Dk.set2 {d : Ed} {q q' : Nat} (h : Dk d q) (hq : q ≤ q') {x : Int} (hx : bd x) : Dk ⟨d.log, x, d.sq, d.go, d.co⟩ q' := ⟨h.l, hx, h.s, h.g, h.c, Nat.le_trans h.z hq⟩
theorem Dk.set3 {d : Ed} {q q' : Nat} (h : Dk d q) (hq : q ≤ q') {x : Int} (hx : bu x) : Dk ⟨d.log, d.nx, x, d.go, d.co⟩ q' := ⟨h.l, h.n, hx, h.g, h.c, Nat.le_trans h.z hq⟩
theorem Dk.go {d : Ed} {q q' : Nat} (h : Dk d q) (hq : q + 1 ≤ q') {x : Pl} (hx : x.ok) : Dk ⟨d.log, d.nx, d.sq, d.go ++ [x], d.co⟩ q' := ⟨h.l, h.n, h.s, (fun y hy => by
  rcases List.mem_append.1 hy with hy | hy
  · exact h.g y hy
  · rw [List.mem_singleton] at hy; subst hy; exact hx), h.c, by have := h.z; show (d.go ++ [x]).length + d.co.length ≤ q'; rw [List.length_append, List.length_singleton]; omega⟩
theorem Dk.co {d : Ed} {q q' : Nat} (h : Dk d q) (hq : q + 1 ≤ q') {x : Ad} (hx : x.ok) : Dk ⟨d.log, d.nx, d.sq, d.go, d.co ++ [x]⟩ q' := ⟨h.l, h.n, h.s, h.g, (fun y hy => by
  rcases List.mem_append.1 hy with hy | hy
  · exact h.c y hy
  · rw [List.mem_singleton] at hy; subst hy; exact hx), by have := h.z; show d.go.length + (d.co ++ [x]).length ≤ q'; rw [List.length_append, List.length_singleton]; omega⟩
set_option maxRecDepth 100000 in
set_option maxHeartbeats 8000000 in
theorem decode_any (a : Option Addr) (len cap : Nat) (zs : List Int) (w : World) (H : Bytes w a len cap zs) (hlen : len ≤ 4294967296) :
    Calls Try.prog 14 #[.slice a len cap] w fun e w' => ((∃ k d q v, drun zs k = some (d, q) ∧ (len : Int) ≤ q ∧ vE d = true ∧ enc d = zs ∧ e = .returned (.tuple #[v, .int .i64 0]) ∧ EO w' w.heap.size v d) ∨ (e = .returned (.tuple #[.agg #[.int .i64 0, .int .i64 0, .int .u64 0, .slice none 0 0, .slice none 0 0], .int .i64 150]) ∧ dbad zs len)) ∧ Below w.heap.size w w' := by
  obtain ⟨gr, hgr⟩ : ∃ g, g = w.heap.size := ⟨_, rfl⟩
  obtain ⟨W1, hW1⟩ : ∃ W, W = w.alloc (.cells #[.int .i64 0, .int .i64 0, .int .u64 0, .slice none 0 0, .slice none 0 0] 26) := ⟨_, rfl⟩
  obtain ⟨go, hgo⟩ : ∃ g, g = W1.heap.size := ⟨_, rfl⟩
  obtain ⟨W2, hW2⟩ : ∃ W, W = W1.alloc (.cells #[.int .i64 0, .int .i64 0, .int .u64 0, .slice none 0 0, .slice none 0 0] 26) := ⟨_, rfl⟩
  have k1 : W1.heap[gr]? = some (.cells #[.int .i64 0, .int .i64 0, .int .u64 0, .slice none 0 0, .slice none 0 0] 26) := by rw [hW1, hgr]; exact new_at _ _
  have b1 : Below w.heap.size w W1 := by rw [hW1]; exact box_below _ _
  have b2 : Below W1.heap.size W1 W2 := by rw [hW2]; exact box_below _ _
  have z1 : W1.heap.size = w.heap.size + 1 := by rw [hW1]; exact size_alloc _ _
  have z2 : W2.heap.size = W1.heap.size + 1 := by rw [hW2]; exact size_alloc _ _
  have k2 : W2.heap[go]? = some (.cells #[.int .i64 0, .int .i64 0, .int .u64 0, .slice none 0 0, .slice none 0 0] 26) := by rw [hW2, hgo]; exact new_at _ _
  obtain ⟨base, hbase⟩ : ∃ b, b = W2.heap.size := ⟨_, rfl⟩
  have D0 : Hid (Ds w gr go base W2 zed (.slice none 0 0) (.slice none 0 0)) := ⟨⟨_, rfl, (b2.block _ (blk_lt k1)).trans k1⟩, k2, El.Own.nil _ _ _, El.Own.nil _ _ _, Below.up b1 b2, by omega⟩
  have HH : Hid (∀ W, Below w.heap.size w W → Bytes W a len cap zs) := fun W b => ⟨H.1, H.2.1, H.2.2.1, H.2.2.2.1, fun x hx i hi => (b.cell (block_lt_of_cell (H.2.2.2.2 x hx i hi))).trans (H.2.2.2.2 x hx i hi)⟩
  have hzl : Hid (zs.length = len) := H.1
  have hbz : Hid (∀ y ∈ zs, 0 ≤ y ∧ y ≤ 255) := H.2.2.2.1
  have hcap := H.2.1
  have hgr2 : Hid (w.heap.size ≤ gr) := by show _ ≤ _; omega
  replace hgr := hid hgr
  replace hW1 := hid hW1
  replace hW2 := hid hW2
  replace hgo := hid hgo
  clear k1 b1 b2 z1 z2 k2 H hbase
  go_enter Try.func14, Try.ntmps14
  go_wp2_with fail
  rw [← hW1.out, ← hgr.out]
  refine wp_scope_jumps 0 (fun a' w' => dbad zs len ∧ Below w.heap.size w w' ∧ (∃ cs, cs.size = 5 ∧ w'.heap[gr]? = some (.cells cs 26)) ∧ ∃ u : Nat → Value, a' = { tmps := #[u 0, u 1, .pointer (some ⟨gr, 0, none⟩), u 3, u 4, u 5, u 6, u 7, u 8, u 9, u 10, u 11, u 12, u 13, u 14, u 15, u 16, u 17, u 18, u 19, u 20, u 21, u 22, u 23, u 24, u 25, u 26, u 27, u 28, u 29, u 30, u 31, u 32, u 33, u 34, u 35, u 36, u 37, u 38, u 39, u 40, u 41, u 42, u 43, u 44, u 45, u 46, u 47, u 48, u 49, u 50, u 51, u 52, u 53, u 54, u 55, u 56, u 57, u 58, u 59, u 60, u 61, u 62, u 63, u 64, u 65, u 66, u 67, u 68, u 69, u 70, u 71, u 72, u 73, u 74, u 75, u 76, u 77, u 78, u 79, u 80, u 81, u 82, u 83, u 84, u 85, u 86, u 87, u 88, u 89, u 90, u 91, u 92, u 93, u 94, u 95, u 96, u 97, u 98, u 99, u 100], defers := [] }) (fun _ _ => 0) rfl ?_ ?_
  · go_wp2_with fail
    rw [← hW2.out, ← hgo.out]
    clear hW1 hW2 hgo
    go_loopw [6, 7] (fun ve vp wr => ∃ (k : Nat) (d : Ed) (q : Nat) (v4 v5 : Value), ve = .int .i64 0 ∧ vp = .int .i64 (q : Int) ∧ q ≤ len ∧ Hid (drun zs k = some (d, (q : Int))) ∧ Hid (Ds w gr go base wr d v4 v5) ∧ Hid (Dk d q)) (fun _ vp _ => len - (intOf vp).toNat)
    case atStart => exact ⟨0, zed, 0, _, _, rfl, rfl, Nat.zero_le _, rfl, D0.out, Dk.start⟩
    case round =>
      clear D0
      obtain ⟨k, d, q, p4, p5, rfl, rfl, hq, hrun, hD, hok⟩ := hrel
      by_cases hlt : q < len
      · have j1 : (q : Int) < (len : Int) := by omega
        have j2 : (0 : Int) ≤ (q : Int) := by omega
        obtain ⟨x, hax⟩ : ∃ x, a = some x := by
          cases a with
          | none => exact absurd (HH.out _ hD.out.lo).2.2.1 (fun h => by have := (h rfl).1; omega)
          | some x => exact ⟨x, rfl⟩
        subst hax
        have z1 := (HH.out _ hD.out.lo).2.2.2.2 x rfl q hlt
        have htag : Hid (zs.getD ((q : Nat) : Int).toNat 0 = zs.getD q 0) := by show _ = _; simp
        generalize hTG : zs.getD q 0 = tg at *
        go_wp2_with fail
        · have ht : tg = 1 := by
            have h : (tg == 1) = true := by assumption
            simpa using h
          subst ht
          clear z1
          obtain ⟨V, hV⟩ : ∃ V, V = wr.alloc (.cells #[.pointer (some ⟨go, 0, none⟩)] 72) := ⟨_, rfl⟩
          obtain ⟨gs, hgs⟩ : ∃ g, g = wr.heap.size := ⟨_, rfl⟩
          rw [← hV, ← hgs]
          have bV : Below wr.heap.size wr V := by rw [hV]; exact box_below _ _
          have KP : V.heap[gs]? = some (.cells (ptrs go 0 1) 72) := by rw [hV, hgs]; exact new_at _ _
          have DV := hD.out.later bV
          have hgb := hD.out.d
          have hne : gs ≠ go := by omega
          have c := into_int (some x) len cap zs ((q : Int) + 1) V go 0 1 gs #[.int .i64 d.log, .int .i64 d.nx, .int .u64 d.sq, p4, p5] 26 (fun W f => HH.out W (DV.lo.trans (Fp.base f DV.lo.size (fun j e => by subst e; omega)))) (by omega) DV.o (by show _ ≤ 5; decide) KP hne (by decide)
          have h1 := rdk_one (nread zs) ((q : Int) + 1)
          have hfw := rdk_fwd (nread_fwd hbz.out) ((q : Int) + 1) 0
          have hst := dstep_1 (d := d) htag.out
          have hnx := drun_next hrun.out (show (q : Int) < zs.length by rw [hzl.out]; omega)
          have hbx := nread_bd zs ((q : Int) + 1) hbz.out
          clear hV hgs
          refine c.mono ?_
          rintro en Y ⟨rfl, KK, F⟩
          clear c KP hD bV
          generalize hA : rdk (nread zs) 1 ((q : Int) + 1) = A at *
          obtain ⟨xs, q1, E⟩ := A
          obtain ⟨hx1, hx2, hx3⟩ := h1
          dsimp only at hx1 hx2 hx3 hfw KK ⊢
          subst hx1
          rw [puts1 (fun v => Value.int .i64 v)] at KK
          have DY := DV.set F KK
          clear DV KK F
          by_cases hE : E = 0
          · subst hE
            obtain ⟨q', hq1, hq2, hq3⟩ := hfw rfl
            have hg : (nread zs ((q : Int) + 1)).2.2 = 0 := hx2.1 rfl
            have hq4 := hx3 hg
            have hrun' : Hid (drun zs (k + 1) = some (⟨(nread zs ((q : Int) + 1)).1, d.nx, d.sq, d.go, d.co⟩, (q' : Int))) := by
              show _ = _
              rw [hnx, hst, if_pos hg, ← hq4, hq1]
            have hok' := hid (hok.out.set1 (q' := q') (by omega) (hbx hg))
            subst hq1
            have hq5 : q' ≤ len := by rw [← hzl.out]; exact hq3
            replace DY := hid DY
            clear hst hnx hbx hfw hx2 hx3 hok hrun hq4 hA hg
            go_wp2_with fail
            go_roundw
            case rel => exact ⟨k + 1, ⟨(nread zs ((q : Int) + 1)).1, d.nx, d.sq, d.go, d.co⟩, q', _, _, rfl, rfl, hq5, hrun', DY, hok'⟩
            case measure => simp [intOf]; omega
          · have hB : (E != 0) = true := by simp [hE]
            have hbad : Hid (dbad zs len) := ⟨k, d, q, hrun.out, .inl ⟨by omega, by rw [hst, if_neg (fun h => hE (hx2.2 h))]⟩⟩
            have hJl : Hid (Below w.heap.size w Y) := DY.lo
            have hJr : Hid (∃ cs, cs.size = 5 ∧ Y.heap[gr]? = some (.cells cs 26)) := DY.r
            clear hst hnx hbx hfw hx2 hx3 hok hE hrun DY hA
            go_wp2_with fail
            go_step3
            exact ⟨rfl, hbad.out, hJl.out, hJr.out, fun i => [_, _, .bool false, _, _, _, _, _, _, _, _, _, _, _, _, _, _, _, _, _, _, _, _, _, _, _, _, _, _, _, _, _, _, _, _, _, _, _, _, _, _, _, _, _, _, _, _, _, _, _, _, _, _, _, _, _, _, _, _, _, _, _, _, _, _, _, _, _, _, _, _, _, _, _, _, _, _, _, _, _, _, _, _, _, _, _, _, _, _, _, _, _, _, _, _, _, _, _, _, _, _].getD i (.bool false), rfl⟩
        · have ht : tg = 2 := by
            have h : (tg == 2) = true := by assumption
            simpa using h
          subst ht
          clear z1
          obtain ⟨V, hV⟩ : ∃ V, V = wr.alloc (.cells #[.pointer (some ⟨go, 1, none⟩)] 72) := ⟨_, rfl⟩
          obtain ⟨gs, hgs⟩ : ∃ g, g = wr.heap.size := ⟨_, rfl⟩
          rw [← hV, ← hgs]
          have bV : Below wr.heap.size wr V := by rw [hV]; exact box_below _ _
          have KP : V.heap[gs]? = some (.cells (ptrs go 1 1) 72) := by rw [hV, hgs]; exact new_at _ _
          have DV := hD.out.later bV
          have hgb := hD.out.d
          have hne : gs ≠ go := by omega
          have c := into_int (some x) len cap zs ((q : Int) + 1) V go 1 1 gs #[.int .i64 d.log, .int .i64 d.nx, .int .u64 d.sq, p4, p5] 26 (fun W f => HH.out W (DV.lo.trans (Fp.base f DV.lo.size (fun j e => by subst e; omega)))) (by omega) DV.o (by show _ ≤ 5; decide) KP hne (by decide)
          have h1 := rdk_one (nread zs) ((q : Int) + 1)
          have hfw := rdk_fwd (nread_fwd hbz.out) ((q : Int) + 1) 0
          have hst := dstep_2 (d := d) htag.out
          have hnx := drun_next hrun.out (show (q : Int) < zs.length by rw [hzl.out]; omega)
          have hbx := nread_bd zs ((q : Int) + 1) hbz.out
          clear hV hgs
          refine c.mono ?_
          rintro en Y ⟨rfl, KK, F⟩
          clear c KP hD bV
          generalize hA : rdk (nread zs) 1 ((q : Int) + 1) = A at *
          obtain ⟨xs, q1, E⟩ := A
          obtain ⟨hx1, hx2, hx3⟩ := h1
          dsimp only at hx1 hx2 hx3 hfw KK ⊢
          subst hx1
          rw [puts1 (fun v => Value.int .i64 v)] at KK
          have DY := DV.set F KK
          clear DV KK F
          by_cases hE : E = 0
          · subst hE
            obtain ⟨q', hq1, hq2, hq3⟩ := hfw rfl
            have hg : (nread zs ((q : Int) + 1)).2.2 = 0 := hx2.1 rfl
            have hq4 := hx3 hg
            have hrun' : Hid (drun zs (k + 1) = some (⟨d.log, (nread zs ((q : Int) + 1)).1, d.sq, d.go, d.co⟩, (q' : Int))) := by
              show _ = _
              rw [hnx, hst, if_pos hg, ← hq4, hq1]
            have hok' := hid (hok.out.set2 (q' := q') (by omega) (hbx hg))
            subst hq1
            have hq5 : q' ≤ len := by rw [← hzl.out]; exact hq3
            replace DY := hid DY
            clear hst hnx hbx hfw hx2 hx3 hok hrun hq4 hA hg
            go_wp2_with fail
            go_roundw
            case rel => exact ⟨k + 1, ⟨d.log, (nread zs ((q : Int) + 1)).1, d.sq, d.go, d.co⟩, q', _, _, rfl, rfl, hq5, hrun', DY, hok'⟩
            case measure => simp [intOf]; omega
          · have hB : (E != 0) = true := by simp [hE]
            have hbad : Hid (dbad zs len) := ⟨k, d, q, hrun.out, .inl ⟨by omega, by rw [hst, if_neg (fun h => hE (hx2.2 h))]⟩⟩
            have hJl : Hid (Below w.heap.size w Y) := DY.lo
            have hJr : Hid (∃ cs, cs.size = 5 ∧ Y.heap[gr]? = some (.cells cs 26)) := DY.r
            clear hst hnx hbx hfw hx2 hx3 hok hE hrun DY hA
            go_wp2_with fail
            go_step3
            exact ⟨rfl, hbad.out, hJl.out, hJr.out, fun i => [_, _, .bool false, _, _, _, _, _, _, _, _, _, _, _, _, _, _, _, _, _, _, _, _, _, _, _, _, _, _, _, _, _, _, _, _, _, _, _, _, _, _, _, _, _, _, _, _, _, _, _, _, _, _, _, _, _, _, _, _, _, _, _, _, _, _, _, _, _, _, _, _, _, _, _, _, _, _, _, _, _, _, _, _, _, _, _, _, _, _, _, _, _, _, _, _, _, _, _, _, _, _].getD i (.bool false), rfl⟩
        · have ht : tg = 3 := by
            have h : (tg == 3) = true := by assumption
            simpa using h
          subst ht
          clear z1
          obtain ⟨V, hV⟩ : ∃ V, V = wr.alloc (.cells #[.pointer (some ⟨go, 2, none⟩)] 75) := ⟨_, rfl⟩
          obtain ⟨gs, hgs⟩ : ∃ g, g = wr.heap.size := ⟨_, rfl⟩
          rw [← hV, ← hgs]
          have bV : Below wr.heap.size wr V := by rw [hV]; exact box_below _ _
          have KP : V.heap[gs]? = some (.cells (ptrs go 2 1) 75) := by rw [hV, hgs]; exact new_at _ _
          have DV := hD.out.later bV
          have hgb := hD.out.d
          have hne : gs ≠ go := by omega
          have c := into_u64 (some x) len cap zs ((q : Int) + 1) V go 2 1 gs #[.int .i64 d.log, .int .i64 d.nx, .int .u64 d.sq, p4, p5] 26 (fun W f => HH.out W (DV.lo.trans (Fp.base f DV.lo.size (fun j e => by subst e; omega)))) (by omega) DV.o (by show _ ≤ 5; decide) KP hne (by decide)
          have h1 := rdk_one (Vb.vread zs) ((q : Int) + 1)
          have hfw := rdk_fwd (vread_fwd hbz.out) ((q : Int) + 1) 0
          have hst := dstep_3 (d := d) htag.out
          have hnx := drun_next hrun.out (show (q : Int) < zs.length by rw [hzl.out]; omega)
          have hbx := vread_bu zs ((q : Int) + 1) hbz.out
          clear hV hgs
          refine c.mono ?_
          rintro en Y ⟨rfl, KK, F⟩
          clear c KP hD bV
          generalize hA : rdk (Vb.vread zs) 1 ((q : Int) + 1) = A at *
          obtain ⟨xs, q1, E⟩ := A
          obtain ⟨hx1, hx2, hx3⟩ := h1
          dsimp only at hx1 hx2 hx3 hfw KK ⊢
          subst hx1
          rw [puts1 (fun v => Value.int .u64 v)] at KK
          have DY := DV.set F KK
          clear DV KK F
          by_cases hE : E = 0
          · subst hE
            obtain ⟨q', hq1, hq2, hq3⟩ := hfw rfl
            have hg : (Vb.vread zs ((q : Int) + 1)).2.2 = 0 := hx2.1 rfl
            have hq4 := hx3 hg
            have hrun' : Hid (drun zs (k + 1) = some (⟨d.log, d.nx, (Vb.vread zs ((q : Int) + 1)).1, d.go, d.co⟩, (q' : Int))) := by
              show _ = _
              rw [hnx, hst, if_pos hg, ← hq4, hq1]
            have hok' := hid (hok.out.set3 (q' := q') (by omega) (hbx hg))
            subst hq1
            have hq5 : q' ≤ len := by rw [← hzl.out]; exact hq3
            replace DY := hid DY
            clear hst hnx hbx hfw hx2 hx3 hok hrun hq4 hA hg
            go_wp2_with fail
            go_roundw
            case rel => exact ⟨k + 1, ⟨d.log, d.nx, (Vb.vread zs ((q : Int) + 1)).1, d.go, d.co⟩, q', _, _, rfl, rfl, hq5, hrun', DY, hok'⟩
            case measure => simp [intOf]; omega
          · have hB : (E != 0) = true := by simp [hE]
            have hbad : Hid (dbad zs len) := ⟨k, d, q, hrun.out, .inl ⟨by omega, by rw [hst, if_neg (fun h => hE (hx2.2 h))]⟩⟩
            have hJl : Hid (Below w.heap.size w Y) := DY.lo
            have hJr : Hid (∃ cs, cs.size = 5 ∧ Y.heap[gr]? = some (.cells cs 26)) := DY.r
            clear hst hnx hbx hfw hx2 hx3 hok hE hrun DY hA
            go_wp2_with fail
            go_step3
            exact ⟨rfl, hbad.out, hJl.out, hJr.out, fun i => [_, _, .bool false, _, _, _, _, _, _, _, _, _, _, _, _, _, _, _, _, _, _, _, _, _, _, _, _, _, _, _, _, _, _, _, _, _, _, _, _, _, _, _, _, _, _, _, _, _, _, _, _, _, _, _, _, _, _, _, _, _, _, _, _, _, _, _, _, _, _, _, _, _, _, _, _, _, _, _, _, _, _, _, _, _, _, _, _, _, _, _, _, _, _, _, _, _, _, _, _, _, _].getD i (.bool false), rfl⟩
        · have ht : tg = 4 := by
            have h : (tg == 4) = true := by assumption
            simpa using h
          subst ht
          clear z1
          obtain ⟨U, hU⟩ : ∃ V, V = wr.alloc (.cells #[.int .i64 0, .int .i64 0] 57) := ⟨_, rfl⟩
          obtain ⟨gp, hgp⟩ : ∃ g, g = wr.heap.size := ⟨_, rfl⟩
          rw [← hU, ← hgp]
          obtain ⟨V, hV⟩ : ∃ V, V = U.alloc (.cells #[.pointer (some ⟨gp, 0, none⟩), .pointer (some ⟨gp, 1, none⟩)] 72) := ⟨_, rfl⟩
          obtain ⟨gs, hgs1⟩ : ∃ g, g = gp + 1 := ⟨_, rfl⟩
          rw [← hV, ← hgs1]
          have bU : Below wr.heap.size wr U := by rw [hU]; exact box_below _ _
          have bV : Below U.heap.size U V := by rw [hV]; exact box_below _ _
          have KU : U.heap[gp]? = some (.cells #[.int .i64 0, .int .i64 0] 57) := by rw [hU, hgp]; exact new_at _ _
          have KB := below_blk KU bV
          have zU : U.heap.size = wr.heap.size + 1 := by rw [hU]; exact size_alloc _ _
          have hgs : gs = U.heap.size := by omega
          have KP : V.heap[gs]? = some (.cells (ptrs gp 0 2) 72) := by rw [hV, hgs]; exact new_at _ _
          have DV := (hD.out.later bU).later bV
          have bb : Below wr.heap.size wr V := Below.up bU bV
          have hgb := hD.out.d
          have hne : gs ≠ gp := by omega
          have c := into_int (some x) len cap zs ((q : Int) + 1) V gp 0 2 gs #[.int .i64 0, .int .i64 0] 57 (fun W f => HH.out W (DV.lo.trans (Fp.base f DV.lo.size (fun j e => by subst e; omega)))) (by omega) KB (by show _ ≤ 2; decide) KP hne (by decide)
          have hll := rdk_len_le (nread zs) ((q : Int) + 1) 2
          have hfw := rdk_fwd (nread_fwd hbz.out) ((q : Int) + 1) 1
          have hst := dstep_4 (d := d) htag.out
          have hnx := drun_next hrun.out (show (q : Int) < zs.length by rw [hzl.out]; omega)
          have hbx := two_bd hbz.out ((q : Int) + 1)
          clear hV hgs hgs1 hU KU KB KP
          refine c.mono ?_
          rintro en Y ⟨rfl, KK, F⟩
          clear c
          have DY := hD.out.later (W' := Y) (bb.trans (Fp.base F bb.size (fun j e => by subst e; omega)))
          clear hD bV bU DV bb F
          generalize rdk (nread zs) 2 ((q : Int) + 1) = A at *
          obtain ⟨xs, q1, E⟩ := A
          dsimp only at hll hfw hst hbx KK ⊢
          rw [puts2 xs hll] at KK
          have hzz := hok.out.z
          obtain ⟨v', W', r, ko, D2⟩ := DY.app4 ⟨xs.getD 0 0, xs.getD 1 0⟩ (by omega)
          obtain ⟨aa, cc, hv'⟩ := row_block D2.x
          subst hv'
          generalize hmm : (d.go ++ [(⟨xs.getD 0 0, xs.getD 1 0⟩ : Pl)]).length = mm at *
          have g3 : W'.cell? ⟨go, 3, none⟩ = some p4 := cell_of ko 3 _ rfl
          have f3 := fz_of ko 3
          have c3 : Y.cell? ⟨go, 3, none⟩ = some p4 := cell_of DY.o 3 _ rfl
          have cgp0 : Y.cell? ⟨gp, 0, none⟩ = some (.int .i64 (xs.getD 0 0)) := cell_of KK 0 _ rfl
          have cgp1 : Y.cell? ⟨gp, 1, none⟩ = some (.int .i64 (xs.getD 1 0)) := cell_of KK 1 _ rfl
          replace r := hid r
          replace D2 := hid D2
          clear DY ko KK hzz
          dsimp only at r
          replace hgp := hid hgp
          by_cases hE : E = 0
          · subst hE
            obtain ⟨q', hq1, hq2, hq3⟩ := hfw rfl
            have hrun' : Hid (drun zs (k + 1) = some (⟨d.log, d.nx, d.sq, d.go ++ [⟨xs.getD 0 0, xs.getD 1 0⟩], d.co⟩, (q' : Int))) := by
              show _ = _
              rw [hnx, hst, if_pos rfl, hq1]
            have hok' := hid (hok.out.go (q' := q') (by omega) (hbx rfl))
            subst hq1
            have hq5 : q' ≤ len := by rw [← hzl.out]; exact hq3
            clear hst hnx hbx hfw hok hrun hll
            go_wp2_with (at_builtin; refine wpList_append_run rfl (.tmp 64) (.tmp 66) 23 23 rfl p4 (.slice (some ⟨Y.heap.size, 0, none⟩) 1 1) (.slice aa mm cc) rfl rfl r.out ?_)
            go_roundw
            case rel => exact ⟨k + 1, ⟨d.log, d.nx, d.sq, d.go ++ [⟨xs.getD 0 0, xs.getD 1 0⟩], d.co⟩, q', _, _, rfl, rfl, hq5, hrun', D2, hok'⟩
            case measure => simp [intOf]; omega
          · have hB : (E != 0) = true := by simp [hE]
            have hbad : Hid (dbad zs len) := ⟨k, d, q, hrun.out, .inl ⟨by omega, by rw [hst, if_neg hE]⟩⟩
            have hJl : Hid (Below w.heap.size w (W'.setCell ⟨go, 3, none⟩ (.slice aa mm cc))) := D2.out.lo
            have hJr : Hid (∃ cs, cs.size = 5 ∧ (W'.setCell ⟨go, 3, none⟩ (.slice aa mm cc)).heap[gr]? = some (.cells cs 26)) := D2.out.r
            clear hst hnx hbx hfw hok hE hrun D2 hll
            go_wp2_with (at_builtin; refine wpList_append_run rfl (.tmp 64) (.tmp 66) 23 23 rfl p4 (.slice (some ⟨Y.heap.size, 0, none⟩) 1 1) (.slice aa mm cc) rfl rfl r.out ?_)
            go_step3
            exact ⟨rfl, hbad.out, hJl.out, hJr.out, fun i => [_, _, .bool false, _, _, _, _, _, _, _, _, _, _, _, _, _, _, _, _, _, _, _, _, _, _, _, _, _, _, _, _, _, _, _, _, _, _, _, _, _, _, _, _, _, _, _, _, _, _, _, _, _, _, _, _, _, _, _, _, _, _, _, _, _, _, _, _, _, _, _, _, _, _, _, _, _, _, _, _, _, _, _, _, _, _, _, _, _, _, _, _, _, _, _, _, _, _, _, _, _, _].getD i (.bool false), rfl⟩
        · have ht : tg = 5 := by
            have h : (tg == 5) = true := by assumption
            simpa using h
          subst ht
          rename_i K22 a22 K21 a21 hx1 hx2 hx3 hx4 hx5
          replace a22 := hid a22
          clear z1 hx1 hx2 hx3 hx4 hx5
          obtain ⟨U, hU⟩ : ∃ V, V = wr.alloc (.cells #[.int .i64 0, .int .i64 0, .int .i64 0, .string { data := #[] }, .string { data := #[] }, .int .u64 0, .int .u64 0] 60) := ⟨_, rfl⟩
          obtain ⟨gp, hgp⟩ : ∃ g, g = wr.heap.size := ⟨_, rfl⟩
          rw [← hU, ← hgp]
          have bU : Below wr.heap.size wr U := by rw [hU]; exact box_below _ _
          have KU : U.heap[gp]? = some (.cells #[.int .i64 0, .int .i64 0, .int .i64 0, .string { data := #[] }, .string { data := #[] }, .int .u64 0, .int .u64 0] 60) := by rw [hU, hgp]; exact new_at _ _
          have zU : U.heap.size = wr.heap.size + 1 := by rw [hU]; exact size_alloc _ _
          have DU := hD.out.later bU
          have hgb := hD.out.d
          have hzz0 := hok.out.z
          have c := added_any (some x) len cap zs ((q : Int) + 1) U (HH.out U DU.lo) (by omega)
          have hst := dstep_5 (d := d) htag.out
          have hnx := drun_next hrun.out (show (q : Int) < zs.length by rw [hzl.out]; omega)
          clear hU
          refine c.mono ?_
          rintro en Y0 ⟨hen, bY⟩
          clear c
          have KY := below_blk KU bY
          have DY0 := DU.later bY
          have bb0 : Below wr.heap.size wr Y0 := Below.up bU bY
          have hD0 := hD
          clear hD bU bY KU DU
          rcases hen with ⟨E, hE, hf, rfl⟩ | ⟨l, n, z, s1, s2, lo, hi, q1, q2, q3, r1, r2, r3, rfl⟩
          · obtain ⟨KK, F⟩ := seven_put KY rfl (.int .i64 0) (.int .i64 0) (.int .i64 0) (.string { data := #[] }) (.string { data := #[] }) (.int .u64 0) (.int .u64 0)
            obtain ⟨Y, hY⟩ : ∃ Y, Y = put7 Y0 gp (.int .i64 0) (.int .i64 0) (.int .i64 0) (.string { data := #[] }) (.string { data := #[] }) (.int .u64 0) (.int .u64 0) := ⟨_, rfl⟩
            rw [← hY] at KK F
            have hY2 := hid hY
            unfold put7 at hY2
            have DY := (DY0.later (Below.refl _ _)).later (W' := Y0) (Below.refl _ _)
            have DY := hD0.out.later (W' := Y) (bb0.trans (Fp.base F bb0.size (fun j e => by subst e; omega)))
            have y0 := cell_of KY 0 _ rfl
            have w0 := fz_of KY 0
            have y1 := cell_of KY 1 _ rfl
            have w1 := fz_of KY 1
            have y2 := cell_of KY 2 _ rfl
            have w2 := fz_of KY 2
            have y3 := cell_of KY 3 _ rfl
            have w3 := fz_of KY 3
            have y4 := cell_of KY 4 _ rfl
            have w4 := fz_of KY 4
            have y5 := cell_of KY 5 _ rfl
            have w5 := fz_of KY 5
            have y6 := cell_of KY 6 _ rfl
            have w6 := fz_of KY 6
            clear KY F hY DY0 bb0 hD0
            have hzz := hok.out.z
            obtain ⟨v', W', r, ko, D2⟩ := DY.app5 ⟨0, ⟨0, 0, { data := #[] }, { data := #[] }, 0, 0⟩⟩ (by omega)
            obtain ⟨aa, cc, hv'⟩ := row_block D2.y
            subst hv'
            generalize hmm : (d.co ++ [(⟨0, ⟨0, 0, { data := #[] }, { data := #[] }, 0, 0⟩⟩ : Ad)]).length = mm at *
            have g3 : W'.cell? ⟨go, 4, none⟩ = some p5 := cell_of ko 4 _ rfl
            have f3 := fz_of ko 4
            have c3 : Y.cell? ⟨go, 4, none⟩ = some p5 := cell_of DY.o 4 _ rfl
            have cgp0 : Y.cell? ⟨gp, 0, none⟩ = some (.int .i64 0) := cell_of KK 0 _ rfl
            have cgp1 : Y.cell? ⟨gp, 1, none⟩ = some (.int .i64 0) := cell_of KK 1 _ rfl
            have cgp2 : Y.cell? ⟨gp, 2, none⟩ = some (.int .i64 0) := cell_of KK 2 _ rfl
            have cgp3 : Y.cell? ⟨gp, 3, none⟩ = some (.string { data := #[] }) := cell_of KK 3 _ rfl
            have cgp4 : Y.cell? ⟨gp, 4, none⟩ = some (.string { data := #[] }) := cell_of KK 4 _ rfl
            have cgp5 : Y.cell? ⟨gp, 5, none⟩ = some (.int .u64 0) := cell_of KK 5 _ rfl
            have cgp6 : Y.cell? ⟨gp, 6, none⟩ = some (.int .u64 0) := cell_of KK 6 _ rfl
            replace r := hid r
            replace D2 := hid D2
            clear DY ko KK hzz
            dsimp only at r
            replace hgp := hid hgp
            have hB : (E != 0) = true := by simp [hE]
            have hbad : Hid (dbad zs len) := ⟨k, d, q, hrun.out, .inl ⟨by omega, by rw [hst, dst5_no hf]⟩⟩
            have hJl : Hid (Below w.heap.size w (W'.setCell ⟨go, 4, none⟩ (.slice aa mm cc))) := D2.out.lo
            have hJr : Hid (∃ cs, cs.size = 5 ∧ (W'.setCell ⟨go, 4, none⟩ (.slice aa mm cc)).heap[gr]? = some (.cells cs 26)) := D2.out.r
            clear hst hnx hok hE hrun D2 hf
            go_wp2_with fail
            rw [← hY2.out]
            refine a22.out _ _ ?_
            clear hY2 a22
            go_wp2_with (at_builtin; refine wpList_append_run rfl (.tmp 79) (.tmp 81) 24 24 rfl p5 (.slice (some ⟨Y.heap.size, 0, none⟩) 1 1) (.slice aa mm cc) rfl rfl r.out ?_)
            go_step3
            exact ⟨rfl, hbad.out, hJl.out, hJr.out, fun i => [_, _, .bool false, _, _, _, _, _, _, _, _, _, _, _, _, _, _, _, _, _, _, _, _, _, _, _, _, _, _, _, _, _, _, _, _, _, _, _, _, _, _, _, _, _, _, _, _, _, _, _, _, _, _, _, _, _, _, _, _, _, _, _, _, _, _, _, _, _, _, _, _, _, _, _, _, _, _, _, _, _, _, _, _, _, _, _, _, _, _, _, _, _, _, _, _, _, _, _, _, _, _].getD i (.bool false), rfl⟩
          · obtain ⟨KK, F⟩ := seven_put KY rfl (.int .i64 l) (.int .i64 n) (.int .i64 z) (.string (By.str s1)) (.string (By.str s2)) (.int .u64 lo) (.int .u64 hi)
            obtain ⟨Y, hY⟩ : ∃ Y, Y = put7 Y0 gp (.int .i64 l) (.int .i64 n) (.int .i64 z) (.string (By.str s1)) (.string (By.str s2)) (.int .u64 lo) (.int .u64 hi) := ⟨_, rfl⟩
            rw [← hY] at KK F
            have hY2 := hid hY
            unfold put7 at hY2
            have DY := (DY0.later (Below.refl _ _)).later (W' := Y0) (Below.refl _ _)
            have DY := hD0.out.later (W' := Y) (bb0.trans (Fp.base F bb0.size (fun j e => by subst e; omega)))
            have y0 := cell_of KY 0 _ rfl
            have w0 := fz_of KY 0
            have y1 := cell_of KY 1 _ rfl
            have w1 := fz_of KY 1
            have y2 := cell_of KY 2 _ rfl
            have w2 := fz_of KY 2
            have y3 := cell_of KY 3 _ rfl
            have w3 := fz_of KY 3
            have y4 := cell_of KY 4 _ rfl
            have w4 := fz_of KY 4
            have y5 := cell_of KY 5 _ rfl
            have w5 := fz_of KY 5
            have y6 := cell_of KY 6 _ rfl
            have w6 := fz_of KY 6
            clear KY F hY DY0 bb0 hD0
            have hzz := hok.out.z
            obtain ⟨v', W', r, ko, D2⟩ := DY.app5 ⟨l, ⟨n, z, By.str s1, By.str s2, lo, hi⟩⟩ (by omega)
            obtain ⟨aa, cc, hv'⟩ := row_block D2.y
            subst hv'
            generalize hmm : (d.co ++ [(⟨l, ⟨n, z, By.str s1, By.str s2, lo, hi⟩⟩ : Ad)]).length = mm at *
            have g3 : W'.cell? ⟨go, 4, none⟩ = some p5 := cell_of ko 4 _ rfl
            have f3 := fz_of ko 4
            have c3 : Y.cell? ⟨go, 4, none⟩ = some p5 := cell_of DY.o 4 _ rfl
            have cgp0 : Y.cell? ⟨gp, 0, none⟩ = some (.int .i64 l) := cell_of KK 0 _ rfl
            have cgp1 : Y.cell? ⟨gp, 1, none⟩ = some (.int .i64 n) := cell_of KK 1 _ rfl
            have cgp2 : Y.cell? ⟨gp, 2, none⟩ = some (.int .i64 z) := cell_of KK 2 _ rfl
            have cgp3 : Y.cell? ⟨gp, 3, none⟩ = some (.string (By.str s1)) := cell_of KK 3 _ rfl
            have cgp4 : Y.cell? ⟨gp, 4, none⟩ = some (.string (By.str s2)) := cell_of KK 4 _ rfl
            have cgp5 : Y.cell? ⟨gp, 5, none⟩ = some (.int .u64 lo) := cell_of KK 5 _ rfl
            have cgp6 : Y.cell? ⟨gp, 6, none⟩ = some (.int .u64 hi) := cell_of KK 6 _ rfl
            replace r := hid r
            replace D2 := hid D2
            clear DY ko KK hzz
            dsimp only at r
            replace hgp := hid hgp
            obtain ⟨hd5, ⟨q', hq1, hq2, hq3⟩, hx5⟩ := dst5_yes hbz.out (by rw [hzl.out]; exact hlen) r1 r2 r3
            have hrun' : Hid (drun zs (k + 1) = some (⟨d.log, d.nx, d.sq, d.go, d.co ++ [⟨l, ⟨n, z, By.str s1, By.str s2, lo, hi⟩⟩]⟩, (q' : Int))) := by
              show _ = _
              rw [hnx, hst, hd5, hq1]
            have hok' := hid (hok.out.co (q' := q') (by omega) hx5)
            subst hq1
            have hq5 : q' ≤ len := by rw [← hzl.out]; exact hq3
            clear hst hnx hok hrun r1 r2 r3 hd5 hx5
            go_wp2_with fail
            rw [← hY2.out]
            refine a22.out _ _ ?_
            clear hY2 a22
            go_wp2_with (at_builtin; refine wpList_append_run rfl (.tmp 79) (.tmp 81) 24 24 rfl p5 (.slice (some ⟨Y.heap.size, 0, none⟩) 1 1) (.slice aa mm cc) rfl rfl r.out ?_)
            go_roundw
            case rel => exact ⟨k + 1, ⟨d.log, d.nx, d.sq, d.go, d.co ++ [⟨l, ⟨n, z, By.str s1, By.str s2, lo, hi⟩⟩]⟩, q', _, _, rfl, rfl, hq5, hrun', D2, hok'⟩
            case measure => simp [intOf]; omega
        · have t1 : (tg == 1) = false := by assumption
          have t2 : (tg == 2) = false := by assumption
          have t3 : (tg == 3) = false := by assumption
          have t4 : (tg == 4) = false := by assumption
          have t5 : (tg == 5) = false := by assumption
          have hbad : Hid (dbad zs len) := ⟨k, d, q, hrun.out, .inl ⟨by omega, dstep_no (by rw [htag.out]; simpa using t1) (by rw [htag.out]; simpa using t2) (by rw [htag.out]; simpa using t3) (by rw [htag.out]; simpa using t4) (by rw [htag.out]; simpa using t5)⟩⟩
          have hJl : Hid (Below w.heap.size w wr) := hD.out.lo
          have hJr : Hid (∃ cs, cs.size = 5 ∧ wr.heap[gr]? = some (.cells cs 26)) := hD.out.r
          clear hD hok hrun z1 t1 t2 t3 t4 t5
          go_step3
          exact ⟨rfl, hbad.out, hJl.out, hJr.out, fun i => [_, _, .bool false, _, _, _, _, _, _, _, _, _, _, _, _, _, _, _, _, _, _, _, _, _, _, _, _, _, _, _, _, _, _, _, _, _, _, _, _, _, _, _, _, _, _, _, _, _, _, _, _, _, _, _, _, _, _, _, _, _, _, _, _, _, _, _, _, _, _, _, _, _, _, _, _, _, _, _, _, _, _, _, _, _, _, _, _, _, _, _, _, _, _, _, _, _, _, _, _, _, _].getD i (.bool false), rfl⟩
      · have j1 : ¬ (q : Int) < (len : Int) := by omega
        have hzz := hok.out.z
        obtain ⟨a4, c4, e4⟩ := row_block hD.out.x
        obtain ⟨a5, c5, e5⟩ := row_block hD.out.y
        subst e4 e5
        have hEO : EO wr w.heap.size (.agg #[.int .i64 d.log, .int .i64 d.nx, .int .u64 d.sq, .slice a4 d.go.length c4, .slice a5 d.co.length c5]) d := ⟨⟨hok.out.l, hok.out.n, hok.out.s, by omega, by omega⟩, hok.out.g, hok.out.c, a4, c4, a5, c5, rfl, own_base hD.out.x (fun j hj => by have := own_lt hD.out.x j hj; have := hD.out.d; omega), own_base hD.out.y (fun j hj => by have := own_lt hD.out.y j hj; have := hD.out.d; omega)⟩
        have d0 : wr.cell? ⟨go, 0, none⟩ = some (.int .i64 d.log) := cell_of hD.out.o 0 _ rfl
        have d1 : wr.cell? ⟨go, 1, none⟩ = some (.int .i64 d.nx) := cell_of hD.out.o 1 _ rfl
        have d2 : wr.cell? ⟨go, 2, none⟩ = some (.int .u64 d.sq) := cell_of hD.out.o 2 _ rfl
        have d3 : wr.cell? ⟨go, 3, none⟩ = some (.slice a4 d.go.length c4) := cell_of hD.out.o 3 _ rfl
        have d4 : wr.cell? ⟨go, 4, none⟩ = some (.slice a5 d.co.length c5) := cell_of hD.out.o 4 _ rfl
        by_cases hV : vE d = true
        · have cE := hid (encode_yes _ d wr hEO.ev hV (by omega) (by omega))
          have hEB := hid (enc_ok hV hok.out.s)
          replace hEO := hid hEO
          go_wp2_with fail
          refine cE.out.mono ?_
          rintro en Y ⟨v', rfl, O3, b3⟩
          obtain ⟨a3, n3, c3, hv3, HB⟩ := bytes_own O3 hEB.out
          subst hv3
          have DY := hD.out.later b3
          have bb3 := hid b3
          clear cE O3 b3 d0 d1 d2 d3 d4
          by_cases hz : enc d = zs
          · have cQ := hid (equal_same (by rw [← hz]; exact HB) (HH.out Y DY.lo))
            replace DY := hid DY
            replace HB := hid HB
            replace hz := hid hz
            go_wp2_with fail
            refine cQ.out.mono ?_
            rintro en Y4 ⟨rfl, b4⟩
            have D4 := DY.out.later b4
            obtain ⟨cs, hcs, KX⟩ := D4.r
            obtain ⟨x0, x1, x2, x3, x4, rfl⟩ := five_cells KX hcs
            have d0 : Y4.cell? ⟨go, 0, none⟩ = some (.int .i64 d.log) := cell_of D4.o 0 _ rfl
            have d1 : Y4.cell? ⟨go, 1, none⟩ = some (.int .i64 d.nx) := cell_of D4.o 1 _ rfl
            have d2 : Y4.cell? ⟨go, 2, none⟩ = some (.int .u64 d.sq) := cell_of D4.o 2 _ rfl
            have d3 : Y4.cell? ⟨go, 3, none⟩ = some (.slice a4 d.go.length c4) := cell_of D4.o 3 _ rfl
            have d4 : Y4.cell? ⟨go, 4, none⟩ = some (.slice a5 d.co.length c5) := cell_of D4.o 4 _ rfl
            have y0 : Y4.cell? ⟨gr, 0, none⟩ = some x0 := cell_of KX 0 _ rfl
            have w0 := fz_of KX 0
            have y1 : Y4.cell? ⟨gr, 1, none⟩ = some x1 := cell_of KX 1 _ rfl
            have w1 := fz_of KX 1
            have y2 : Y4.cell? ⟨gr, 2, none⟩ = some x2 := cell_of KX 2 _ rfl
            have w2 := fz_of KX 2
            have y3 : Y4.cell? ⟨gr, 3, none⟩ = some x3 := cell_of KX 3 _ rfl
            have w3 := fz_of KX 3
            have y4 : Y4.cell? ⟨gr, 4, none⟩ = some x4 := cell_of KX 4 _ rfl
            have w4 := fz_of KX 4
            obtain ⟨K5, F5⟩ := put5 KX (.int .i64 d.log) (.int .i64 d.nx) (.int .u64 d.sq) (.slice a4 d.go.length c4) (.slice a5 d.co.length c5)
            have hgb := D4.d
            have hfin : Hid (EO _ w.heap.size (.agg #[.int .i64 d.log, .int .i64 d.nx, .int .u64 d.sq, .slice a4 d.go.length c4, .slice a5 d.co.length c5]) d) := ⟨hEO.out.1, hEO.out.2.1, hEO.out.2.2.1, a4, c4, a5, c5, rfl, own_base (own_blocks D4.x (fun j hj => F5.block j (own_lt D4.x j hj).2 (by have := (own_lt D4.x j hj).1; omega))) (fun j hj => by have := own_lt D4.x j hj; omega), own_base (own_blocks D4.y (fun j hj => F5.block j (own_lt D4.y j hj).2 (by have := (own_lt D4.y j hj).1; omega))) (fun j hj => by have := own_lt D4.y j hj; omega)⟩
            have hlo := hid (D4.lo.trans (Fp.base F5 D4.lo.size (fun j e => by rw [e]; exact hgr2.out)))
            replace K5 := hid K5
            clear D4 DY KX F5 b4 cQ
            go_wp2_with fail
            simp only [Exit.jump]
            have v0 := cell_of K5.out 0 _ rfl
            have v1 := cell_of K5.out 1 _ rfl
            have v2 := cell_of K5.out 2 _ rfl
            have v3 := cell_of K5.out 3 _ rfl
            have v4 := cell_of K5.out 4 _ rfl
            exact bodyPost_ret (v := .tuple #[(.agg #[.int .i64 d.log, .int .i64 d.nx, .int .u64 d.sq, .slice a4 d.go.length c4, .slice a5 d.co.length c5]), .int .i64 0]) (by simp [results, Try.results14, go_sem, v0, v1, v2, v3, v4]) rfl ⟨.inl ⟨k, d, (q : Int), _, hrun.out, by omega, hV, hz.out, rfl, hfin.out⟩, hlo.out⟩
          · have cQ := hid (equal_no HB (HH.out Y DY.lo) hz)
            have hbad : Hid (dbad zs len) := ⟨k, d, q, hrun.out, .inr ⟨by omega, .inr hz⟩⟩
            replace DY := hid DY
            clear HB hz
            go_wp2_with fail
            refine cQ.out.mono ?_
            rintro en Y4 ⟨rfl, b4⟩
            have D4 := DY.out.later b4
            have hJl : Hid (Below w.heap.size w Y4) := D4.lo
            have hJr : Hid (∃ cs, cs.size = 5 ∧ Y4.heap[gr]? = some (.cells cs 26)) := D4.r
            clear D4 DY b4 cQ
            go_wp2_with fail
            go_step3
            exact ⟨rfl, hbad.out, hJl.out, hJr.out, fun i => [_, _, .bool false, _, _, _, _, _, _, _, _, _, _, _, _, _, _, _, _, _, _, _, _, _, _, _, _, _, _, _, _, _, _, _, _, _, _, _, _, _, _, _, _, _, _, _, _, _, _, _, _, _, _, _, _, _, _, _, _, _, _, _, _, _, _, _, _, _, _, _, _, _, _, _, _, _, _, _, _, _, _, _, _, _, _, _, _, _, _, _, _, _, _, _, _, _, _, _, _, _, _].getD i (.bool false), rfl⟩
        · have hV0 : vE d = false := by simpa using hV
          have cE := hid (encode_no _ d wr hEO.ev hV0)
          have hbad : Hid (dbad zs len) := ⟨k, d, q, hrun.out, .inr ⟨by omega, .inl hV0⟩⟩
          clear hEO hV hV0
          go_wp2_with fail
          refine cE.out.mono ?_
          rintro en Y ⟨rfl, b3⟩
          have D3 := hD.out.later b3
          have hJl : Hid (Below w.heap.size w Y) := D3.lo
          have hJr : Hid (∃ cs, cs.size = 5 ∧ Y.heap[gr]? = some (.cells cs 26)) := D3.r
          clear D3 cE b3 d0 d1 d2 d3 d4
          go_wp2_with fail
          go_step3
          exact ⟨rfl, hbad.out, hJl.out, hJr.out, fun i => [_, _, .bool false, _, _, _, _, _, _, _, _, _, _, _, _, _, _, _, _, _, _, _, _, _, _, _, _, _, _, _, _, _, _, _, _, _, _, _, _, _, _, _, _, _, _, _, _, _, _, _, _, _, _, _, _, _, _, _, _, _, _, _, _, _, _, _, _, _, _, _, _, _, _, _, _, _, _, _, _, _, _, _, _, _, _, _, _, _, _, _, _, _, _, _, _, _, _, _, _, _, _].getD i (.bool false), rfl⟩
  · rintro a' w' ⟨hbad, hlo, ⟨cs, hcs, KX⟩, u, rfl⟩
    
    obtain ⟨x0, x1, x2, x3, x4, rfl⟩ := five_cells KX hcs
    have y0 : w'.cell? ⟨gr, 0, none⟩ = some x0 := cell_of KX 0 _ rfl
    have w0 := fz_of KX 0
    have y1 : w'.cell? ⟨gr, 1, none⟩ = some x1 := cell_of KX 1 _ rfl
    have w1 := fz_of KX 1
    have y2 : w'.cell? ⟨gr, 2, none⟩ = some x2 := cell_of KX 2 _ rfl
    have w2 := fz_of KX 2
    have y3 : w'.cell? ⟨gr, 3, none⟩ = some x3 := cell_of KX 3 _ rfl
    have w3 := fz_of KX 3
    have y4 : w'.cell? ⟨gr, 4, none⟩ = some x4 := cell_of KX 4 _ rfl
    have w4 := fz_of KX 4
    obtain ⟨K5, F5⟩ := put5 KX (.int .i64 0) (.int .i64 0) (.int .u64 0) (.slice none 0 0) (.slice none 0 0)
    have Lo := hid (hlo.trans (Fp.base F5 hlo.size (fun j e => by rw [e]; exact hgr2.out)))
    replace K5 := hid K5
    clear F5
    
    go_wp2_with fail
    
    simp only [Exit.jump]
    have v0 := cell_of K5.out 0 _ rfl
    have v1 := cell_of K5.out 1 _ rfl
    have v2 := cell_of K5.out 2 _ rfl
    have v3 := cell_of K5.out 3 _ rfl
    have v4 := cell_of K5.out 4 _ rfl
    exact bodyPost_ret (v := .tuple #[.agg #[.int .i64 0, .int .i64 0, .int .u64 0, .slice none 0 0, .slice none 0 0], .int .i64 150]) (by simp [results, Try.results14, go_sem, v0, v1, v2, v3, v4]) rfl ⟨.inr ⟨rfl, hbad⟩, Lo.out⟩
end Go.Proofs.Ytnpeocoipodmfaa.De

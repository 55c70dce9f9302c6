/- Decode's plain steps; what its rounds keep. -/
import Derived.Test.YtnpeocoipodmfaaRa
import Derived.Test.YtnpeocoipodmfaaPt
import Derived.Test.YtnpeocoipodmfaaEo
import Derived.Test.YtnpeocoipodmfaaMg
namespace Go.Proofs.Ytnpeocoipodmfaa.Dp
open Go.ChangeShapes Go.WideShapes Go.ChangeAt Go.RowKit
open Go.Proofs.Ytnpeocoipodmfaa.Gr
open Go.Proofs.Ytnpeocoipodmfaa.Ev
open Go.Proofs.Ytnpeocoipodmfaa.Nu (nread)
open Go.Proofs.Ytnpeocoipodmfaa.Ri
open Go.Proofs.Ytnpeocoipodmfaa.Ra (afail)
open Go.Proofs.Ytnpeocoipodmfaa.Mg (own_grown below_grown apart_rows)
open Go.Proofs.Ytnpeocoipodmfaa.Le (grown_blk below_blk)
open Go.Proofs.Ytnpeocoipodmfaa.By (Row Bytes tx str tread)
set_option linter.unusedVariables false
set_option linter.unusedSimpArgs false

/-! ### Plain -/
theorem rdk_one {α : Type} (R : Int → α × Int × Int) (p : Int) : (rdk R 1 p).1 = [(R p).1] ∧ ((rdk R 1 p).2.2 = 0 ↔ (R p).2.2 = 0) ∧ ((R p).2.2 = 0 → (rdk R 1 p).2.1 = (R p).2.1) := by
  rw [rdk_succ]
  show (if (0 : Int) ≠ 0 then _ else if (R p).2.2 ≠ 0 then (([] : List α) ++ [(R p).1], (0 : Int), (R p).2.2) else (([] : List α) ++ [(R p).1], (R p).2.1, (0 : Int))).1 = _ ∧ ((if (0 : Int) ≠ 0 then _ else if (R p).2.2 ≠ 0 then (([] : List α) ++ [(R p).1], (0 : Int), (R p).2.2) else (([] : List α) ++ [(R p).1], (R p).2.1, (0 : Int))).2.2 = 0 ↔ _) ∧ (_ → (if (0 : Int) ≠ 0 then _ else if (R p).2.2 ≠ 0 then (([] : List α) ++ [(R p).1], (0 : Int), (R p).2.2) else (([] : List α) ++ [(R p).1], (R p).2.1, (0 : Int))).2.1 = _)
  by_cases h : (R p).2.2 = 0
  · simp [h]
  · simp [h]
theorem rdk_len_le {α : Type} (R : Int → α × Int × Int) (p : Int) : ∀ k, (rdk R k p).1.length ≤ k
  | 0 => Nat.le_refl _
  | k + 1 => by
    have ih := rdk_len_le R p k
    rw [rdk_succ]
    split
    · omega
    · split
      · simp; omega
      · simp; omega
/-- What is read well lies further on. -/
def Fwd {α : Type} (L : Nat) (R : Int → α × Int × Int) : Prop := ∀ p, (R p).2.2 = 0 → ∃ q : Nat, (R p).2.1 = q ∧ 0 ≤ p ∧ p < q ∧ q ≤ L
theorem rdk_fwd {α : Type} {L : Nat} {R : Int → α × Int × Int} (h : Fwd L R) (p : Int) : ∀ k, (rdk R (k + 1) p).2.2 = 0 → ∃ q : Nat, (rdk R (k + 1) p).2.1 = q ∧ p < q ∧ q ≤ L
  | 0, e => by
    obtain ⟨h1, h2, h3⟩ := rdk_one R p
    obtain ⟨q, a, b, c, d⟩ := h p (h2.1 e)
    exact ⟨q, (h3 (h2.1 e)).trans a, c, d⟩
  | k + 1, e => by
    rw [rdk_succ] at e ⊢
    by_cases h1 : (rdk R (k + 1) p).2.2 = 0
    · obtain ⟨q, a, b, c⟩ := rdk_fwd h p k h1
      rw [if_neg (by simpa using h1)] at e ⊢
      by_cases h2 : (R (rdk R (k + 1) p).2.1).2.2 = 0
      · rw [if_neg (by simpa using h2)]
        obtain ⟨q', a', _, c', d'⟩ := h _ h2
        exact ⟨q', a', by omega, d'⟩
      · rw [if_pos h2] at e
        exact absurd e h2
    · rw [if_pos h1] at e
      exact absurd e h1
theorem vread_fwd {zs : List Int} (hb : ∀ y ∈ zs, 0 ≤ y ∧ y ≤ 255) : Fwd zs.length (Vb.vread zs) := fun p h => by
  obtain ⟨q, a, b, c, d, _⟩ := By.vread_ok zs p hb h
  exact ⟨q, a, b, c, d⟩
theorem nread_fwd {zs : List Int} (hb : ∀ y ∈ zs, 0 ≤ y ∧ y ≤ 255) : Fwd zs.length (nread zs) := fun p h => vread_fwd hb p h
theorem tread_fwd {zs : List Int} (hb : ∀ y ∈ zs, 0 ≤ y ∧ y ≤ 255) : Fwd zs.length (tread zs) := fun p h => by
  unfold tread at h ⊢
  by_cases h1 : (Vb.vread zs p).2.2 = 0
  · rw [if_neg (by simpa using h1)] at h ⊢
    obtain ⟨q, a, b, c, d, e, f⟩ := By.vread_ok zs p hb h1
    by_cases h2 : (zs.length : Int) - (Vb.vread zs p).2.1 < (Vb.vread zs p).1
    · rw [if_pos h2] at h; exact absurd h (by decide)
    · rw [if_neg h2]
      rw [a] at h2 ⊢
      exact ⟨q + (Vb.vread zs p).1.toNat, by show (q : Int) + _ = _; omega, b, by omega, by omega⟩
  · rw [if_pos h1] at h; exact absurd h h1
/-- A file that comes, read. -/
def dst5 (zs : List Int) (p : Int) : Option (Ad × Int) :=
  if (rdk (nread zs) 3 p).2.2 ≠ 0 then none
  else if (rdk (tread zs) 2 (rdk (nread zs) 3 p).2.1).2.2 ≠ 0 then none
  else if (rdk (Vb.vread zs) 2 (rdk (tread zs) 2 (rdk (nread zs) 3 p).2.1).2.1).2.2 ≠ 0 then none
  else some (⟨(rdk (nread zs) 3 p).1.getD 0 0, ⟨(rdk (nread zs) 3 p).1.getD 1 0, (rdk (nread zs) 3 p).1.getD 2 0, str ((rdk (tread zs) 2 (rdk (nread zs) 3 p).2.1).1.getD 0 []), str ((rdk (tread zs) 2 (rdk (nread zs) 3 p).2.1).1.getD 1 []), (rdk (Vb.vread zs) 2 (rdk (tread zs) 2 (rdk (nread zs) 3 p).2.1).2.1).1.getD 0 0, (rdk (Vb.vread zs) 2 (rdk (tread zs) 2 (rdk (nread zs) 3 p).2.1).2.1).1.getD 1 0⟩⟩, (rdk (Vb.vread zs) 2 (rdk (tread zs) 2 (rdk (nread zs) 3 p).2.1).2.1).2.1)
/-- A step, by the tag. -/
def dstep (zs : List Int) (d : Ed) (p : Int) : Option (Ed × Int) :=
  if zs.getD p.toNat 0 = 1 then (if (nread zs (p + 1)).2.2 = 0 then some (⟨(nread zs (p + 1)).1, d.nx, d.sq, d.go, d.co⟩, (nread zs (p + 1)).2.1) else none)
  else if zs.getD p.toNat 0 = 2 then (if (nread zs (p + 1)).2.2 = 0 then some (⟨d.log, (nread zs (p + 1)).1, d.sq, d.go, d.co⟩, (nread zs (p + 1)).2.1) else none)
  else if zs.getD p.toNat 0 = 3 then (if (Vb.vread zs (p + 1)).2.2 = 0 then some (⟨d.log, d.nx, (Vb.vread zs (p + 1)).1, d.go, d.co⟩, (Vb.vread zs (p + 1)).2.1) else none)
  else if zs.getD p.toNat 0 = 4 then (if (rdk (nread zs) 2 (p + 1)).2.2 = 0 then some (⟨d.log, d.nx, d.sq, d.go ++ [⟨(rdk (nread zs) 2 (p + 1)).1.getD 0 0, (rdk (nread zs) 2 (p + 1)).1.getD 1 0⟩], d.co⟩, (rdk (nread zs) 2 (p + 1)).2.1) else none)
  else if zs.getD p.toNat 0 = 5 then (match dst5 zs (p + 1) with | some (x, q) => some (⟨d.log, d.nx, d.sq, d.go, d.co ++ [x]⟩, q) | none => none)
  else none
/-- Steps, one behind the other. -/
def drun (zs : List Int) : Nat → Option (Ed × Int)
  | 0 => some (zed, 0)
  | k + 1 => match drun zs k with
    | some (d, p) => if p < zs.length then dstep zs d p else none
    | none => none
/-! ### Memory -/
structure Ds (w : World) (gr go base : Nat) (W : World) (d : Ed) (v4 v5 : Value) : Prop where
  r : ∃ cs, cs.size = 5 ∧ W.heap[gr]? = some (.cells cs 26)
  o : W.heap[go]? = some (.cells #[.int .i64 d.log, .int .i64 d.nx, .int .u64 d.sq, v4, v5] 26)
  x : ePl.Own W base v4 d.go
  y : eAd.Own W base v5 d.co
  lo : Below w.heap.size w W
  d : w.heap.size ≤ gr ∧ gr < go ∧ go < base ∧ base ≤ W.heap.size
variable {w W : World} {gr go base : Nat} {d : Ed} {v4 v5 : Value}
theorem Ds.later (h : Ds w gr go base W d v4 v5) {W' : World} (b : Below W.heap.size W W') : Ds w gr go base W' d v4 v5 := by
  obtain ⟨cs, h1, h2⟩ := h.r
  exact ⟨⟨cs, h1, below_blk h2 b⟩, below_blk h.o b, h.x.later b, h.y.later b, Below.up h.lo b, by have := h.d; have := b.size; omega⟩
/-- The box is written. -/
theorem Ds.set (h : Ds w gr go base W d v4 v5) {W' : World} (F : Fp (fun j => j = go) W W') {a b c : Int} (k : W'.heap[go]? = some (.cells #[.int .i64 a, .int .i64 b, .int .u64 c, v4, v5] 26)) : Ds w gr go base W' ⟨a, b, c, d.go, d.co⟩ v4 v5 := by
  obtain ⟨cs, h1, h2⟩ := h.r
  have hd := h.d
  refine ⟨⟨cs, h1, (F.block gr (by omega) (by omega)).trans h2⟩, k, own_blocks h.x (fun j hj => F.block j (own_lt h.x j hj).2 (by have := (own_lt h.x j hj).1; omega)), own_blocks h.y (fun j hj => F.block j (own_lt h.y j hj).2 (by have := (own_lt h.y j hj).1; omega)), Below.trans h.lo (F.base h.lo.size (fun j e => by omega)), by have := F.size; omega⟩
theorem Ds.app4 (h : Ds w gr go base W d v4 v5) (x : Pl) (hn : d.go.length + 1 ≤ 1099511627776) :
    ∃ v' W', (Builtin.append_ #[23, 23] 23 #[v4, .slice (some ⟨W.heap.size, 0, none⟩) 1 1]).run Try.prog (W.alloc (.cells #[.int .i64 x.l, .int .i64 x.n] 57)) = .ok v' W' ∧ W'.heap[go]? = some (.cells #[.int .i64 d.log, .int .i64 d.nx, .int .u64 d.sq, v4, v5] 26) ∧ Ds w gr go base (W'.setCell ⟨go, 3, none⟩ v') ⟨d.log, d.nx, d.sq, d.go ++ [x], d.co⟩ v' v5 := by
  obtain ⟨v', W', r, o, hg, q⟩ := El.app1 ePl W base v4 d.go x #[.int .i64 x.l, .int .i64 x.n] rfl h.x (by show (_ + 1) * 16 ≤ _; omega) (by omega) h.d.2.2.2
  have hd := h.d
  have hne : ∀ j, v4.ownBlock = some j → base ≤ j := fun j hj => (own_lt h.x j hj).1
  have ko := grown_blk h.o hg (by intro j hj e; have := hne j hj; omega)
  obtain ⟨cs, h1, h2⟩ := h.r
  have kr := grown_blk h2 hg (by intro j hj e; have := hne j hj; omega)
  have G : W'.grownBy (W'.setCell ⟨go, 3, none⟩ v') (some go) := ⟨rfl, rfl, rfl, by simp, fun k _ hk => set_ne _ _ _ _ _ (fun e => hk (by rw [e]))⟩
  have hy := own_grown h.y hg (by intro j hj k; exact apart_rows h.x h.y (by decide) j hj k)
  refine ⟨v', W', r, ko, ⟨cs, h1, grown_blk kr G (by rintro j e; cases e; omega)⟩, (set_of ko 3 v').trans rfl, own_grown o G (by rintro j e k; cases e; have := (own_lt o _ k).1; omega), own_grown hy G (by rintro j e k; cases e; have := (own_lt hy _ k).1; omega), ?_, by have := hg.size; simp; omega⟩
  exact below_grown (below_grown h.lo hg (by intro j hj; have := hne j hj; omega)) G (by rintro j e; cases e; omega)
theorem Ds.app5 (h : Ds w gr go base W d v4 v5) (x : Ad) (hn : d.co.length + 1 ≤ 1099511627776) :
    ∃ v' W', (Builtin.append_ #[24, 24] 24 #[v5, .slice (some ⟨W.heap.size, 0, none⟩) 1 1]).run Try.prog (W.alloc (.cells #[.int .i64 x.l, .int .i64 x.f.n, .int .i64 x.f.z, .string x.f.a, .string x.f.b, .int .u64 x.f.lo, .int .u64 x.f.hi] 60)) = .ok v' W' ∧ W'.heap[go]? = some (.cells #[.int .i64 d.log, .int .i64 d.nx, .int .u64 d.sq, v4, v5] 26) ∧ Ds w gr go base (W'.setCell ⟨go, 4, none⟩ v') ⟨d.log, d.nx, d.sq, d.go, d.co ++ [x]⟩ v4 v' := by
  obtain ⟨v', W', r, o, hg, q⟩ := El.app1 eAd W base v5 d.co x #[.int .i64 x.l, .int .i64 x.f.n, .int .i64 x.f.z, .string x.f.a, .string x.f.b, .int .u64 x.f.lo, .int .u64 x.f.hi] rfl h.y (by show (_ + 1) * 72 ≤ _; omega) (by omega) h.d.2.2.2
  have hd := h.d
  have hne : ∀ j, v5.ownBlock = some j → base ≤ j := fun j hj => (own_lt h.y j hj).1
  have ko := grown_blk h.o hg (by intro j hj e; have := hne j hj; omega)
  obtain ⟨cs, h1, h2⟩ := h.r
  have kr := grown_blk h2 hg (by intro j hj e; have := hne j hj; omega)
  have G : W'.grownBy (W'.setCell ⟨go, 4, none⟩ v') (some go) := ⟨rfl, rfl, rfl, by simp, fun k _ hk => set_ne _ _ _ _ _ (fun e => hk (by rw [e]))⟩
  have hx := own_grown h.x hg (by intro j hj k; exact apart_rows h.y h.x (by decide) j hj k)
  refine ⟨v', W', r, ko, ⟨cs, h1, grown_blk kr G (by rintro j e; cases e; omega)⟩, (set_of ko 4 v').trans rfl, own_grown hx G (by rintro j e k; cases e; have := (own_lt hx _ k).1; omega), own_grown o G (by rintro j e k; cases e; have := (own_lt o _ k).1; omega), ?_, by have := hg.size; simp; omega⟩
  exact below_grown (below_grown h.lo hg (by intro j hj; have := hne j hj; omega)) G (by rintro j e; cases e; omega)
end Go.Proofs.Ytnpeocoipodmfaa.Dp

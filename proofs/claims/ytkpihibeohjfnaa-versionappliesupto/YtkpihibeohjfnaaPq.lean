/- A file put into a level in order: plain words; rows of files set. -/
import Derived.Test.YtkpihibeohjfnaaSq
import Derived.Test.YtkpihibeohjfnaaDo
import Derived.Test.YtkpihibeohjfnaaWi
namespace Go.Proofs.Ytkpihibeohjfnaa.Pq
open Go.ChangeShapes Go.WideShapes Go.ChangeAt Go.RowKit
open Go.Proofs.Ytkpihibeohjfnaa.Gr
open Go.Proofs.Ytkpihibeohjfnaa.Ev
open Go.Proofs.Ytkpihibeohjfnaa.Oe
open Go.Proofs.Ytkpihibeohjfnaa.Vp
open Go.Proofs.Ytkpihibeohjfnaa.Vr
open Go.Proofs.Ytkpihibeohjfnaa.Cq (lF)
open Go.Proofs.Ytkpihibeohjfnaa.Wi (six)
open Go.Proofs.Ytkpihibeohjfnaa.Sq
set_option linter.unusedVariables false
set_option linter.unusedSimpArgs false

/-- The row while x is on its way down: in front of it P, behind it R. -/
structure Dw (k : Nat) (s : List Fi) (x : Fi) (P R ys : List Fi) : Prop where
  row : ys = P ++ x :: R
  all : P ++ R = s
  up : ∀ r ∈ R, lF k x r = true
variable {k : Nat} {s P R ys : List Fi} {x p : Fi}
theorem Dw.len (h : Dw k s x P R ys) : ys.length = s.length + 1 := by
  rw [h.row, ← h.all]; simp; omega
theorem Dw.at (h : Dw k s x P R ys) : ys.getD P.length zf = x := by
  rw [h.row]; simp
theorem le_of {a b : Fi} (h : lF k b a = false) : le k a b = true := by unfold le; rw [h]; rfl
theorem of_le {a b : Fi} (h : le k a b = true) : lF k b a = false := by unfold le at h; simpa using h
theorem Dw.done (h : Dw k s x P R ys) (hs : Srt k s) (he : P = [] ∨ ∃ P' p, P = P' ++ [p] ∧ lF k x p = false) : Srt k ys ∧ ys.Perm (s ++ [x]) := by
  constructor
  · rw [h.row]
    unfold Srt at hs ⊢
    rw [← h.all, List.pairwise_append] at hs
    obtain ⟨h1, h2, h3⟩ := hs
    have hp : ∀ q ∈ P, lF k x q = false := by
      rcases he with rfl | ⟨P', p, rfl, hpx⟩
      · intro q hq; cases hq
      · intro q hq
        rw [List.mem_append] at hq
        rcases hq with hq | hq
        · rw [List.pairwise_append] at h1
          have hqp := h1.2.2 q hq p (by simp)
          exact of_le (le_tr k q p x (le_of hqp) (le_of hpx))
        · simp at hq; subst hq; exact hpx
    rw [List.pairwise_append]
    refine ⟨h1, List.pairwise_cons.2 ⟨fun r hr => asy (h.up r hr), h2⟩, ?_⟩
    intro q hq r hr
    rcases List.mem_cons.1 hr with rfl | hr
    · exact hp q hq
    · exact h3 q hq r hr
  · rw [h.row, ← h.all]
    have e : (P ++ x :: R).Perm (x :: (P ++ R)) := List.perm_middle
    exact e.trans (List.perm_append_comm (l₁ := [x]) (l₂ := P ++ R))
theorem Dw.step {P : List Fi} (h : Dw k s x (P ++ [p]) R ys) (hp : lF k x p = true) : Dw k s x P (p :: R) ((ys.set (P.length + 1) p).set P.length x) ∧ ys.getD P.length zf = p := by
  have hr := h.row
  have e : ys = P ++ (p :: x :: R) := by rw [hr]; simp
  constructor
  · refine ⟨?_, by rw [← h.all]; simp, ?_⟩
    · rw [e]
      rw [List.set_append_right _ _ (by omega), show P.length + 1 - P.length = 1 by omega, List.set_append_right _ _ (Nat.le_refl _), Nat.sub_self]
      rfl
    · intro r hr'
      rcases List.mem_cons.1 hr' with rfl | h'
      · exact hp
      · exact h.up r h'
  · rw [e]; simp
theorem snoc_ex {P : List Fi} (h : 0 < P.length) : ∃ P' p, P = P' ++ [p] := by
  have hne : P ≠ [] := by intro e; rw [e] at h; cases h
  exact ⟨P.dropLast, P.getLast hne, (List.dropLast_concat_getLast hne).symm⟩
theorem cl_set : ∀ (xs : List Fi) (k : Nat) (y : Fi), ((((((eFi.cl xs).set (k * 6) (.int .i64 y.n)).set (k * 6 + 1) (.int .i64 y.z)).set (k * 6 + 2) (.string y.a)).set (k * 6 + 3) (.string y.b)).set (k * 6 + 4) (.int .u64 y.lo)).set (k * 6 + 5) (.int .u64 y.hi) = eFi.cl (xs.set k y)
  | [], _, _ => rfl
  | x :: r, 0, y => rfl
  | x :: r, k + 1, y => by
    have h := cl_set r k y
    rw [Nat.succ_mul]
    show ((((((Value.int .i64 x.n :: Value.int .i64 x.z :: Value.string x.a :: Value.string x.b :: Value.int .u64 x.lo :: Value.int .u64 x.hi :: eFi.cl r).set (k * 6 + 6) _).set (k * 6 + 1 + 6) _).set (k * 6 + 2 + 6) _).set (k * 6 + 3 + 6) _).set (k * 6 + 4 + 6) _).set (k * 6 + 5 + 6) _ = Value.int .i64 x.n :: Value.int .i64 x.z :: Value.string x.a :: Value.string x.b :: Value.int .u64 x.lo :: Value.int .u64 x.hi :: eFi.cl (r.set k y)
    simp only [List.set_cons_succ]
    rw [h]
theorem Acc.set {w W : World} {g n c : Nat} {xs : List Fi} (h : Acc eFi w W (.slice (some ⟨g, 0, none⟩) n c) xs) (k : Nat) (y : Fi) : Acc eFi w (six W g (k * 6) (.int .i64 y.n) (.int .i64 y.z) (.string y.a) (.string y.b) (.int .u64 y.lo) (.int .u64 y.hi)) (.slice (some ⟨g, 0, none⟩) n c) (xs.set k y) := by
  obtain ⟨a', c', e⟩ := h.shape
  cases e
  have h0 := h.o
  have hg : w.heap.size ≤ g := (own_lt h.o g rfl).1
  unfold El.Own at h0
  have h1 := (World.ownsRow.stored h0 (k * 6) (.int .i64 y.n)).1
  have h2 := (World.ownsRow.stored h1 (k * 6 + 1) (.int .i64 y.z)).1
  have h3 := (World.ownsRow.stored h2 (k * 6 + 2) (.string y.a)).1
  have h4 := (World.ownsRow.stored h3 (k * 6 + 3) (.string y.b)).1
  have h5 := (World.ownsRow.stored h4 (k * 6 + 4) (.int .u64 y.lo)).1
  have h6 := (World.ownsRow.stored h5 (k * 6 + 5) (.int .u64 y.hi)).1
  refine ⟨?_, Wi.six_below h.lo hg _ _ _ _ _ _ _⟩
  unfold El.Own
  rw [List.length_set, ← cl_set]
  exact h6
theorem Acc.fz {w W : World} {g n c : Nat} {xs : List Fi} (h : Acc eFi w W (.slice (some ⟨g, 0, none⟩) n c) xs) (k : Nat) : W.frozen? ⟨g, k, none⟩ = false := by
  obtain ⟨a', c', e⟩ := h.shape
  cases e
  have h0 := h.o
  unfold El.Own at h0
  exact World.ownsRow.frozenAt h0 k
theorem Acc.get {w W : World} {g n c : Nat} {xs : List Fi} (h : Acc eFi w W (.slice (some ⟨g, 0, none⟩) n c) xs) (k : Nat) (hk : k < xs.length) : eFi.At W g (k * 6) (xs.getD k zf) := by
  obtain ⟨a', c', e⟩ := h.shape
  cases e
  exact h.o.at k hk
theorem Acc.made2 {w W : World} (b : Below w.heap.size w W) : Acc eFi w (W.alloc (.cells #[] 43)) (.slice (some ⟨W.heap.size, 0, none⟩) 0 0) [] :=
  ⟨own_base (El.Own.made eFi W) (fun j hj => Nat.le_trans b.size (own_lt (El.Own.made eFi W) j hj).1), b.alloc b.size _⟩
theorem Acc.from_ {α : Type} {E : El α} {w W1 W : World} {v : Value} {xs : List α} (h : Acc E W1 W v xs) (b : Below w.heap.size w W1) : Acc E w W v xs :=
  ⟨own_base h.o (fun j hj => Nat.le_trans b.size (own_lt h.o j hj).1), Below.up b h.lo⟩
/-- One file as a slice. -/
theorem one_sl {W : World} {g : Nat} {x : Fi} (h : W.heap[g]? = some (.cells (eFi.cs x).toArray 43)) (hx : x.ok) : eFi.Sl W (some ⟨g, 0, none⟩) 1 1 [x] := by
  refine ⟨rfl, Nat.le_refl _, (fun e => by cases e), ?_, ?_⟩
  · intro y hy
    rw [List.mem_singleton] at hy
    subst hy
    exact hx
  · intro b o p e hl
    cases e
    refine ⟨rfl, fun i hi q u hq => ?_⟩
    have h0 : i = 0 := by omega
    subst h0
    have := cell_of h q u (by rw [List.getElem?_toArray]; exact hq)
    simpa using this
end Go.Proofs.Ytkpihibeohjfnaa.Pq

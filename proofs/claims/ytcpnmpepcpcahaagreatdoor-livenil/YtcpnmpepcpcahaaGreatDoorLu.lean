/- Levels that a call makes: a row of headers, each level a row, all of the call's own. -/
import Derived.Test.YtcpnmpepcpcahaaGreatDoorVt
namespace Go.Proofs.YtcpnmpepcpcahaaGreatDoor.Lu
open Go.ChangeShapes Go.WideShapes Go.ChangeAt Go.RowKit
open Go.Proofs.YtcpnmpepcpcahaaGreatDoor.Gr
open Go.Proofs.YtcpnmpepcpcahaaGreatDoor.Ev
open Go.Proofs.YtcpnmpepcpcahaaGreatDoor.Oe
open Go.Proofs.YtcpnmpepcpcahaaGreatDoor.Lv
open Go.Proofs.YtcpnmpepcpcahaaGreatDoor.Vp
open Go.Proofs.YtcpnmpepcpcahaaGreatDoor.Vr
open Go.Proofs.YtcpnmpepcpcahaaGreatDoor.Vt
set_option linter.unusedVariables false
set_option linter.unusedSimpArgs false

theorem own_ty {W : World} {base e size n : Nat} {v : Value} {ys : List Value} (h : W.ownsRow base e size v n ys) : ∀ j, v.ownBlock = some j → ∃ c, W.heap[j]? = some (.cells c e) := by
  intro j hj
  rcases h.2 with ⟨h1, _⟩ | ⟨g, c, cur, h1, h2, h3, h4⟩
  · rw [h1] at hj; simp [Value.ownBlock] at hj
  · rw [h1] at hj; simp [Value.ownBlock] at hj; subst hj
    exact ⟨cur, h3⟩
def hd (x : Lf) : Value := .slice x.a x.n x.c
structure Ou (w W : World) (g : Nat) (xs : List Lf) : Prop where
  blk : W.heap[g]? = some (.cells (xs.map hd).toArray 73)
  hg : w.heap.size ≤ g
  r : ∀ k, k < xs.length → (xs.getD k zl).n = (xs.getD k zl).fs.length ∧ eFi.Own W w.heap.size (hd (xs.getD k zl)) (xs.getD k zl).fs ∧ ∀ f ∈ (xs.getD k zl).fs, f.ok
  dis : ∀ k k' j, k < xs.length → k' < xs.length → k ≠ k' → (hd (xs.getD k zl)).ownBlock = some j → (hd (xs.getD k' zl)).ownBlock ≠ some j
  lo : Below w.heap.size w W
variable {w W : World} {g : Nat} {xs : List Lf}
theorem Ou.later (h : Ou w W g xs) {W' : World} (b : Below W.heap.size W W') : Ou w W' g xs :=
  ⟨(b.block g (blk_lt h.blk)).trans h.blk, h.hg, fun k hk => ⟨(h.r k hk).1, (h.r k hk).2.1.later b, (h.r k hk).2.2⟩, h.dis, Below.up h.lo b⟩
theorem map_get {k : Nat} (hk : k < xs.length) : ((xs.map hd).toArray)[k]? = some (hd (xs.getD k zl)) := by
  rw [List.getElem?_toArray, List.getElem?_map, List.getD_eq_getElem?_getD, List.getElem?_eq_getElem hk]; rfl
theorem Ou.cell (h : Ou w W g xs) {k : Nat} (hk : k < xs.length) : W.cell? ⟨g, k, none⟩ = some (hd (xs.getD k zl)) := cell_of h.blk k _ (map_get hk)
theorem Ou.fz (h : Ou w W g xs) (k : Nat) : W.frozen? ⟨g, k, none⟩ = false := fz_of h.blk k
theorem Ou.neg (h : Ou w W g xs) {k j : Nat} (hk : k < xs.length) (e : (hd (xs.getD k zl)).ownBlock = some j) : j ≠ g := by
  intro e'
  subst e'
  obtain ⟨c1, e1⟩ := own_ty (h.r k hk).2.1 j e
  rw [h.blk] at e1
  injection e1 with e3
  injection e3 with _ e4
  revert e4
  show ¬ ((73 : Nat) = 67)
  decide
theorem getD_set_ne {k k' : Nat} (h : k ≠ k') (y : Lf) : (xs.set k y).getD k' zl = xs.getD k' zl := by
  rw [List.getD_eq_getElem?_getD, List.getD_eq_getElem?_getD, List.getElem?_set_ne h]
theorem getD_set_eq {k : Nat} (h : k < xs.length) (y : Lf) : (xs.set k y).getD k zl = y := by
  rw [List.getD_eq_getElem?_getD, List.getElem?_set_self h]; rfl
/-- New levels, all without files. -/
theorem Ou.made {n : Nat} (b : Below w.heap.size w W) (h : W.ownsRow w.heap.size 73 1 (.slice (some ⟨g, 0, none⟩) n n) n (List.replicate n (.slice none 0 0))) : Ou w W g (List.replicate n zl) := by
  have hz : ∀ k, (List.replicate n zl).getD k zl = zl := by
    intro k
    rw [List.getD_eq_getElem?_getD, List.getElem?_replicate]
    split <;> rfl
  rcases h.2 with ⟨h1, _⟩ | ⟨g', cap, cur, h1, hb, hg, hn, hm, hs, ht⟩
  · cases h1
  · injection h1 with h2 _ h4
    injection h2 with h5
    injection h5 with h6
    subst h6 h4
    refine ⟨?_, hb, ?_, ?_, b⟩
    · rw [hg]
      congr 2
      rw [List.map_replicate, ← show List.replicate n (Value.slice none 0 0) = List.replicate n (hd zl) from rfl]
      apply Array.toList_inj.1
      rw [List.take_of_length_le (by rw [Array.length_toList, hs]; omega)] at ht
      rw [ht]
    · intro k hk
      rw [hz]
      exact ⟨rfl, El.Own.nil _ _ _, fun f hf => by cases hf⟩
    · intro k k' j _ _ _ hj
      rw [hz] at hj
      cases hj
/-- Read as levels. -/
theorem Ou.lvs (h : Ou w W g xs) : Lvs W (some ⟨g, 0, none⟩) xs.length xs.length (xs.map Lf.fs) := by
  refine ⟨xs, ⟨rfl, Nat.le_refl _, (fun e => by cases e), ?_, ?_⟩, rfl⟩
  · intro x hx
    obtain ⟨k, hk, e⟩ := List.getElem_of_mem hx
    have hx' : xs.getD k zl = x := by rw [List.getD_eq_getElem?_getD, List.getElem?_eq_getElem hk]; exact e
    obtain ⟨h1, h2, h3⟩ := h.r k hk
    rw [hx'] at h1 h2 h3
    obtain ⟨a', c', e2, s, _⟩ := h2.sl h3
    injection e2 with e3 _ e5
    show eFi.Sl W x.a x.n x.c x.fs
    rw [e3, e5, h1]
    exact s
  · intro b o p e hl
    cases e
    refine ⟨rfl, fun i hi q u hq => ?_⟩
    have := h.cell hi
    match q, hq with
    | 0, hq =>
      simp [eLv] at hq ⊢
      subst hq
      exact this
/-- Levels whose rows lie at a base or above it. -/
structure Ot (base : Nat) (W : World) (g : Nat) (xs : List Lf) : Prop where
  blk : W.heap[g]? = some (.cells (xs.map hd).toArray 73)
  hg : base ≤ g
  r : ∀ k, k < xs.length → (xs.getD k zl).n = (xs.getD k zl).fs.length ∧ eFi.Own W base (hd (xs.getD k zl)) (xs.getD k zl).fs ∧ ∀ f ∈ (xs.getD k zl).fs, f.ok
  dis : ∀ k k' j, k < xs.length → k' < xs.length → k ≠ k' → (hd (xs.getD k zl)).ownBlock = some j → (hd (xs.getD k' zl)).ownBlock ≠ some j
theorem Ou.ot (h : Ou w W g xs) : Ot w.heap.size W g xs := ⟨h.blk, h.hg, h.r, h.dis⟩
theorem Ot.kept {base : Nat} (h : Ot base W g xs) {W' : World} (b : ∀ j, base ≤ j → j < W.heap.size → W'.heap[j]? = W.heap[j]?) : Ot base W' g xs :=
  ⟨(b g h.hg (blk_lt h.blk)).trans h.blk, h.hg, fun k hk => ⟨(h.r k hk).1, own_blocks (h.r k hk).2.1 (fun j hj => b j (own_lt (h.r k hk).2.1 j hj).1 (own_lt (h.r k hk).2.1 j hj).2), (h.r k hk).2.2⟩, h.dis⟩
theorem Ot.down {base base' : Nat} (h : Ot base W g xs) (hb : base' ≤ base) : Ot base' W g xs := ⟨h.blk, Nat.le_trans hb h.hg, fun k hk => ⟨(h.r k hk).1, own_base (h.r k hk).2.1 (fun j hj => Nat.le_trans hb (own_lt (h.r k hk).2.1 j hj).1), (h.r k hk).2.2⟩, h.dis⟩
theorem Ot.later {base : Nat} (h : Ot base W g xs) {W' : World} (b : Below W.heap.size W W') : Ot base W' g xs := h.kept (fun j _ hj => b.block j hj)
theorem Ot.cell {base : Nat} (h : Ot base W g xs) {k : Nat} (hk : k < xs.length) : W.cell? ⟨g, k, none⟩ = some (hd (xs.getD k zl)) := cell_of h.blk k _ (map_get hk)
theorem Ot.lvs {base : Nat} (h : Ot base W g xs) : Lvs W (some ⟨g, 0, none⟩) xs.length xs.length (xs.map Lf.fs) := by
  refine ⟨xs, ⟨rfl, Nat.le_refl _, (fun e => by cases e), ?_, ?_⟩, rfl⟩
  · intro x hx
    obtain ⟨k, hk, e⟩ := List.getElem_of_mem hx
    have hx' : xs.getD k zl = x := by rw [List.getD_eq_getElem?_getD, List.getElem?_eq_getElem hk]; exact e
    obtain ⟨h1, h2, h3⟩ := h.r k hk
    rw [hx'] at h1 h2 h3
    obtain ⟨a', c', e2, s, _⟩ := h2.sl h3
    injection e2 with e3 _ e5
    show eFi.Sl W x.a x.n x.c x.fs
    rw [e3, e5, h1]
    exact s
  · intro b o p e hl
    cases e
    refine ⟨rfl, fun i hi q u hq => ?_⟩
    have := h.cell hi
    match q, hq with
    | 0, hq =>
      simp [eLv] at hq ⊢
      subst hq
      exact this
theorem row_ou {w W W' : World} {g : Nat} {xs : List Lf} (h : Ou w W g xs) {k : Nat} (hk : k < xs.length) (b : Below W.heap.size W W') {a : Option Addr} {n c : Nat} {ys : List Fi} (o : eFi.Own W' W.heap.size (.slice a n c) ys) (hn : n = ys.length) (hy : ∀ f ∈ ys, f.ok) :
    W'.heap[g]? = some (.cells (xs.map hd).toArray 73) ∧ Ou w (W'.setCell ⟨g, k, none⟩ (.slice a n c)) g (xs.set k ⟨a, n, c, ys⟩) := by
  have h' := h.later b
  have hgW : g < W.heap.size := blk_lt h.blk
  have ht : (xs.set k ⟨a, n, c, ys⟩).map hd = (xs.map hd).set k (.slice a n c) := by rw [List.map_set]; rfl
  have hne : ∀ {v : Value} {zs : List Fi} {base : Nat}, eFi.Own W' base v zs → ∀ j, v.ownBlock = some j → j ≠ g := by
    intro v zs base hz j hj e
    subst e
    obtain ⟨c1, e1⟩ := own_ty hz j hj
    rw [h'.blk] at e1
    injection e1 with e3
    injection e3 with _ e4
    revert e4
    show ¬ ((73 : Nat) = 67)
    decide
  have away : ∀ {v : Value} {zs : List Fi} {base : Nat}, eFi.Own W' base v zs → eFi.Own (W'.setCell ⟨g, k, none⟩ (.slice a n c)) base v zs := fun hz => own_blocks hz (fun j hj => set_ne _ _ _ _ _ (hne hz j hj))
  have ob : eFi.Own W' w.heap.size (.slice a n c) ys := own_base o (fun j hj => Nat.le_trans h.lo.size (own_lt o j hj).1)
  refine ⟨h'.blk, ?_, h.hg, ?_, ?_, h'.lo.setCell h.hg _⟩
  · rw [ht, set_of h'.blk k _]
    simp
  · intro i hi
    rw [List.length_set] at hi
    by_cases e : k = i
    · subst e
      rw [getD_set_eq hk]
      exact ⟨hn, away ob, hy⟩
    · rw [getD_set_ne e]
      exact ⟨(h'.r i hi).1, away (h'.r i hi).2.1, (h'.r i hi).2.2⟩
  · intro i i' j hi hi' hii hj
    rw [List.length_set] at hi hi'
    by_cases e : k = i
    · subst e
      rw [getD_set_eq hk] at hj
      rw [getD_set_ne hii]
      intro hj'
      have h1 := (own_lt o j hj).1
      have h2 := (own_lt (h.r i' hi').2.1 j hj').2
      omega
    · rw [getD_set_ne e] at hj
      by_cases e' : k = i'
      · subst e'
        rw [getD_set_eq hk]
        intro hj'
        have h1 := (own_lt o j hj').1
        have h2 := (own_lt (h.r i hi).2.1 j hj).2
        omega
      · rw [getD_set_ne e']
        exact h.dis i i' j hi hi' hii hj
end Go.Proofs.YtcpnmpepcpcahaaGreatDoor.Lu

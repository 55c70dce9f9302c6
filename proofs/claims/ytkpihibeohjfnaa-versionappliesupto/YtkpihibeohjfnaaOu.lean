/- Levels that a call makes: a row of headers, each level a row, all of the call's own; a file put behind a level's. -/
import Derived.Test.YtkpihibeohjfnaaCp
import Derived.Test.YtkpihibeohjfnaaKm
namespace Go.Proofs.Ytkpihibeohjfnaa.Ou
open Go.ChangeShapes Go.WideShapes Go.ChangeAt Go.RowKit
open Go.Proofs.Ytkpihibeohjfnaa.Gr
open Go.Proofs.Ytkpihibeohjfnaa.Ev
open Go.Proofs.Ytkpihibeohjfnaa.Oe
open Go.Proofs.Ytkpihibeohjfnaa.Lv
open Go.Proofs.Ytkpihibeohjfnaa.Vp
open Go.Proofs.Ytkpihibeohjfnaa.Vr
open Go.Proofs.Ytkpihibeohjfnaa.Vt
open Go.Proofs.Ytkpihibeohjfnaa.Aq (own_ty)
set_option linter.unusedVariables false
set_option linter.unusedSimpArgs false

def hd (x : Lf) : Value := .slice x.a x.n x.c
structure Ou (w W : World) (g : Nat) (xs : List Lf) : Prop where
  blk : W.heap[g]? = some (.cells (xs.map hd).toArray 39)
  hg : w.heap.size ≤ g
  r : ∀ k, k < xs.length → (xs.getD k zl).n = (xs.getD k zl).fs.length ∧ eFi.Own W w.heap.size (hd (xs.getD k zl)) (xs.getD k zl).fs ∧ ∀ f ∈ (xs.getD k zl).fs, f.ok
  dis : ∀ k k' j, k < xs.length → k' < xs.length → k ≠ k' → (hd (xs.getD k zl)).ownBlock = some j → (hd (xs.getD k' zl)).ownBlock ≠ some j
  lo : Below w.heap.size w W
variable {w W : World} {g : Nat} {xs : List Lf}
theorem Ou.later (h : Ou w W g xs) {W' : World} (b : Below W.heap.size W W') : Ou w W' g xs :=
  ⟨(b.block g (blk_lt h.blk)).trans h.blk, h.hg, fun k hk => ⟨(h.r k hk).1, (h.r k hk).2.1.later b, (h.r k hk).2.2⟩, h.dis, Below.up h.lo b⟩
theorem map_get {k : Nat} (hk : k < xs.length) : ((xs.map hd).toArray)[k]? = some (hd (xs.getD k zl)) := by
  rw [List.getElem?_toArray, List.getElem?_map, List.getD_eq_getElem?_getD, List.getElem?_eq_getElem hk]; rfl
theorem Ou.cell (h : Ou w W g xs) {k : Nat} (hk : k < xs.length) : W.cell? ⟨g, k, none⟩ = some (hd (xs.getD k zl)) := cell_of h.blk k _ (map_get hk)
theorem Ou.fz (h : Ou w W g xs) (k : Nat) : W.frozen? ⟨g, k, none⟩ = false := fz_of h.blk k
theorem Ou.neg (h : Ou w W g xs) {k j : Nat} (hk : k < xs.length) (e : (hd (xs.getD k zl)).ownBlock = some j) : j ≠ g := by
  intro e'
  subst e'
  obtain ⟨c1, e1⟩ := own_ty (h.r k hk).2.1 j e
  rw [h.blk] at e1
  injection e1 with e3
  injection e3 with _ e4
  revert e4
  show ¬ ((39 : Nat) = 43)
  decide
theorem getD_set_ne {k k' : Nat} (h : k ≠ k') (y : Lf) : (xs.set k y).getD k' zl = xs.getD k' zl := by
  rw [List.getD_eq_getElem?_getD, List.getD_eq_getElem?_getD, List.getElem?_set_ne h]
theorem getD_set_eq {k : Nat} (h : k < xs.length) (y : Lf) : (xs.set k y).getD k zl = y := by
  rw [List.getD_eq_getElem?_getD, List.getElem?_set_self h]; rfl
/-- A file more in a level. -/
theorem Ou.put (h : Ou w W g xs) {k : Nat} (hk : k < xs.length) (f : Fi) (hf : f.ok) (cs : Array Value) (hcs : cs = (eFi.cs f).toArray) (hn : (xs.getD k zl).fs.length + 1 ≤ 2199023255552) :
    ∃ a' n' c' W', (Builtin.append_ #[39, 39] 39 #[hd (xs.getD k zl), .slice (some ⟨W.heap.size, 0, none⟩) 1 1]).run Try.prog (W.alloc (.cells cs 43)) = .ok (.slice a' n' c') W' ∧
      W'.heap[g]? = some (.cells (xs.map hd).toArray 39) ∧ (∀ j, j < W.heap.size → (∀ c t f, W.heap[j]? ≠ some (.cells c t f)) → (W'.setCell ⟨g, k, none⟩ (.slice a' n' c')).heap[j]? = W.heap[j]?) ∧ Ou w (W'.setCell ⟨g, k, none⟩ (.slice a' n' c')) g (xs.set k ⟨a', n', c', (xs.getD k zl).fs ++ [f]⟩) := by
  obtain ⟨hkn, hko, hkf⟩ := h.r k hk
  obtain ⟨v', W', r1, o1, g1, q1⟩ := El.app1 eFi W w.heap.size (hd (xs.getD k zl)) (xs.getD k zl).fs f cs hcs hko (by show (_ + 1) * 64 ≤ _; omega) (by omega) h.lo.size
  obtain ⟨a', c', hv'⟩ := row_block o1
  subst hv'
  have hb' : W'.heap[g]? = some (.cells (xs.map hd).toArray 39) := (g1.block g (blk_lt h.blk) (fun e => h.neg hk e.symm rfl)).trans h.blk
  have ht : (xs.set k ⟨a', ((xs.getD k zl).fs ++ [f]).length, c', (xs.getD k zl).fs ++ [f]⟩).map hd = (xs.map hd).set k (.slice a' ((xs.getD k zl).fs ++ [f]).length c') := by rw [List.map_set]; rfl
  have away : ∀ {v : Value} {ys : List Fi}, eFi.Own W' w.heap.size v ys → eFi.Own (W'.setCell ⟨g, k, none⟩ (.slice a' ((xs.getD k zl).fs ++ [f]).length c')) w.heap.size v ys := by
    intro v ys hy
    refine own_blocks hy (fun j hj => set_ne _ _ _ _ _ (fun e => ?_))
    subst e
    obtain ⟨c1, e1⟩ := own_ty hy j hj
    rw [hb'] at e1
    injection e1 with e3
    injection e3 with _ e4
    revert e4
    show ¬ ((39 : Nat) = 43)
    decide
  have keep : ∀ {k' : Nat}, k' < xs.length → k ≠ k' → eFi.Own W' w.heap.size (hd (xs.getD k' zl)) (xs.getD k' zl).fs := by
    intro k' hk' hne
    have hy := (h.r k' hk').2.1
    exact own_blocks hy (fun j hj => g1.block j (own_lt hy j hj).2 (fun e => h.dis k k' j hk hk' hne e.symm hj))
  have hstay : ∀ j, j < W.heap.size → (∀ c t f, W.heap[j]? ≠ some (.cells c t f)) → (W'.setCell ⟨g, k, none⟩ (.slice a' ((xs.getD k zl).fs ++ [f]).length c')).heap[j]? = W.heap[j]? := by
    intro j hj hc
    rw [set_ne _ _ _ _ _ (fun e => hc _ _ _ (by rw [e]; exact h.blk))]
    refine g1.block j hj (fun e => ?_)
    obtain ⟨c1, e1⟩ := own_ty hko j e.symm
    exact hc _ _ _ e1
  refine ⟨a', _, c', W', r1, hb', hstay, ?_, h.hg, ?_, ?_, ?_⟩
  · rw [ht, set_of hb' k _]
    simp
  · intro k' hk'
    rw [List.length_set] at hk'
    by_cases e : k = k'
    · subst e
      rw [getD_set_eq hk]
      exact ⟨rfl, away o1, fun x hx => by
        rcases List.mem_append.1 hx with hx | hx
        · exact hkf x hx
        · rw [List.mem_singleton] at hx; subst hx; exact hf⟩
    · rw [getD_set_ne e]
      exact ⟨(h.r k' hk').1, away (keep hk' e), (h.r k' hk').2.2⟩
  · intro i i' j hi hi' hne hj
    rw [List.length_set] at hi hi'
    by_cases e : k = i
    · subst e
      rw [getD_set_eq hk] at hj
      rw [getD_set_ne hne]
      intro hj'
      rcases q1 j hj with h1 | h1
      · exact h.dis k i' j hk hi' hne h1 hj'
      · have := (own_lt (h.r i' hi').2.1 j hj').2
        omega
    · rw [getD_set_ne e] at hj
      by_cases e' : k = i'
      · subst e'
        rw [getD_set_eq hk]
        intro hj'
        rcases q1 j hj' with h1 | h1
        · exact h.dis i k j hi hk hne hj h1
        · have := (own_lt (h.r i hi).2.1 j hj).2
          omega
      · rw [getD_set_ne e']
        exact h.dis i i' j hi hi' hne hj
  · exact (below_grown h.lo h.lo.size g1 (fun j hj => (own_lt hko j hj).1)).setCell h.hg _
/-- New levels, all without files. -/
theorem Ou.made {n : Nat} (b : Below w.heap.size w W) (h : W.ownsRow w.heap.size 39 1 (.slice (some ⟨g, 0, none⟩) n n) n (List.replicate n (.slice none 0 0))) : Ou w W g (List.replicate n zl) := by
  have hz : ∀ k, (List.replicate n zl).getD k zl = zl := by
    intro k
    rw [List.getD_eq_getElem?_getD, List.getElem?_replicate]
    split <;> rfl
  rcases h.2 with ⟨h1, _⟩ | ⟨g', cap, cur, h1, hb, hg, hn, hm, hs, ht⟩
  · cases h1
  · injection h1 with h2 _ h4
    injection h2 with h5
    injection h5 with h6
    subst h6 h4
    refine ⟨?_, hb, ?_, ?_, b⟩
    · rw [hg]
      congr 2
      rw [List.map_replicate, ← show List.replicate n (Value.slice none 0 0) = List.replicate n (hd zl) from rfl]
      apply Array.toList_inj.1
      rw [List.take_of_length_le (by rw [Array.length_toList, hs]; omega)] at ht
      rw [ht]
    · intro k hk
      rw [hz]
      exact ⟨rfl, El.Own.nil _ _ _, fun f hf => by cases hf⟩
    · intro k k' j _ _ _ hj
      rw [hz] at hj
      cases hj
/-- Read as levels. -/
theorem Ou.lvs (h : Ou w W g xs) : Lvs W (some ⟨g, 0, none⟩) xs.length xs.length (xs.map Lf.fs) := by
  refine ⟨xs, ⟨rfl, Nat.le_refl _, (fun e => by cases e), ?_, ?_⟩, rfl⟩
  · intro x hx
    obtain ⟨k, hk, e⟩ := List.getElem_of_mem hx
    have hx' : xs.getD k zl = x := by rw [List.getD_eq_getElem?_getD, List.getElem?_eq_getElem hk]; exact e
    obtain ⟨h1, h2, h3⟩ := h.r k hk
    rw [hx'] at h1 h2 h3
    obtain ⟨a', c', e2, s, _⟩ := h2.sl h3
    injection e2 with e3 _ e5
    show eFi.Sl W x.a x.n x.c x.fs
    rw [e3, e5, h1]
    exact s
  · intro b o p e hl
    cases e
    refine ⟨rfl, fun i hi q u hq => ?_⟩
    have := h.cell hi
    match q, hq with
    | 0, hq =>
      simp [eLv] at hq ⊢
      subst hq
      exact this
end Go.Proofs.Ytkpihibeohjfnaa.Ou

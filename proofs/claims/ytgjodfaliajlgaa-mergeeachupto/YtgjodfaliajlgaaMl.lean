/- Lists of entries in a row: headers, what can be read through them. -/
import Derived.Test.YtgjodfaliajlgaaSd
import Derived.Test.YtgjodfaliajlgaaAc
import Derived.Test.YtgjodfaliajlgaaRsd
namespace Go.Proofs.Ytgjodfaliajlgaa.Ml
open Go.ChangeShapes Go.WideShapes Go.ChangeAt Go.RowKit
open Go.Proofs.Ytgjodfaliajlgaa.Gr hiding hid addr_add
open Go.Proofs.Ytgjodfaliajlgaa.Ac
open Go.Proofs.Ytgjodfaliajlgaa.Ik
open Go.Proofs.Ytgjodfaliajlgaa.Ee
open Go.Proofs.Ytgjodfaliajlgaa.Sb
open Go.Proofs.Ytgjodfaliajlgaa.Ew
open Go.Proofs.Ytgjodfaliajlgaa.Sd hiding below_grown
open Go.Proofs.Ytgjodfaliajlgaa.Rsd
set_option linter.unusedVariables false
set_option linter.unusedSimpArgs false

/-- A list's header and what it holds. -/
structure Lf where
  a : Option Addr
  n : Nat
  c : Nat
  xs : List E
def zl : Lf := ⟨none, 0, 0, []⟩
def Lf.v (f : Lf) : Value := .slice f.a f.n f.c
def Lf.blk (f : Lf) : Option Nat := f.a.map Addr.block
def eL : El Lf where
  st := 22
  et := 39
  k := 1
  by_ := 24
  cs := fun f => [.slice f.a f.n f.c]
  z := zl
  zv := .slice none 0 0
  len := fun _ => rfl
  one := by intro x u h; simp at h; rcases h with rfl; rfl
  und := Try.underlying22
  info := by kernel_rfl
  zc := rfl
  pos := by decide
  ok := fun _ => True
/-- A slice of lists that can be read. -/
structure Lsts (w : World) (a : Option Addr) (n c : Nat) (fs : List Lf) : Prop where
  s : eL.Sl w a n c fs
  e : ∀ f ∈ fs, Ents w f.a f.n f.c f.xs
theorem Lsts.later {w w' : World} {a : Option Addr} {n c : Nat} {fs : List Lf} (h : Lsts w a n c fs) (b : Below w.heap.size w w') : Lsts w' a n c fs := ⟨h.s.later b, fun f hf => (h.e f hf).later b⟩
theorem Lsts.at_ {w : World} {a : Option Addr} {n c : Nat} {fs : List Lf} (h : Lsts w a n c fs) (i : Nat) (hi : i < n) : ∃ b o, a = some ⟨b, o, none⟩ ∧ w.cell? ⟨b, o + i, none⟩ = some (.slice (fs.getD i zl).a (fs.getD i zl).n (fs.getD i zl).c) ∧ Ents w (fs.getD i zl).a (fs.getD i zl).n (fs.getD i zl).c (fs.getD i zl).xs := by
  cases a with
  | none => have := (h.s.nil rfl).1; omega
  | some ad =>
    obtain ⟨b, o, p⟩ := ad
    obtain ⟨rfl, hc⟩ := h.s.cells b o p rfl (by omega)
    have h1 := hc i hi 0 _ rfl
    rw [show eL.k = 1 from rfl, Nat.mul_one, Nat.add_zero] at h1
    exact ⟨b, o, rfl, h1, h.e _ (eL.get_mem (by rw [h.s.n]; exact hi))⟩
/-- All that lists hold. -/
def all (fs : List Lf) : List E := fs.flatMap Lf.xs
def tot (fs : List Lf) : Nat := (all fs).length
theorem tot_snoc {fs : List Lf} {i : Nat} (h : i < fs.length) : all (fs.take (i + 1)) = all (fs.take i) ++ (fs.getD i zl).xs := by
  have := eL.take_snoc (xs := fs) h
  unfold all
  rw [show fs.take (i + 1) = fs.take i ++ [fs.getD i zl] from this]
  simp
theorem tot_take (fs : List Lf) (i : Nat) : (all (fs.take i)).length ≤ tot fs := by
  have e : all fs = all (fs.take i) ++ all (fs.drop i) := by unfold all; rw [← List.flatMap_append, List.take_append_drop]
  unfold tot
  rw [e, List.length_append]; omega
/-- Lists of a call's own, none of which shares memory with another one. -/
structure Lsw (w W : World) (v : Value) (fs : List Lf) : Prop where
  o : eL.Own W w.heap.size v fs
  lo : Below w.heap.size w W
  e : ∀ f ∈ fs, eE.Own W w.heap.size f.v f.xs
  ok : ∀ f ∈ fs, f.n = f.xs.length ∧ ∀ x ∈ f.xs, x.ok
  ne : ∀ f ∈ fs, ∀ j, f.v.ownBlock = some j → v.ownBlock ≠ some j
  un : fs.Pairwise (fun f g => ∀ j, f.v.ownBlock = some j → g.v.ownBlock ≠ some j)
theorem Lsw.nil (w : World) : Lsw w w (.slice none 0 0) [] := ⟨El.Own.nil eL w _, Below.refl _ _, fun f h => (by cases h), fun f h => (by cases h), fun f h => (by cases h), List.Pairwise.nil⟩
theorem Lsw.later {w W W' : World} {v : Value} {fs : List Lf} (h : Lsw w W v fs) (b : Below W.heap.size W W') : Lsw w W' v fs :=
  ⟨h.o.later b, Below.up h.lo b, fun f hf => (h.e f hf).later b, h.ok, h.ne, h.un⟩
theorem Lsw.lsts {w W : World} {v : Value} {fs : List Lf} (h : Lsw w W v fs) : ∃ a c, v = .slice a fs.length c ∧ Lsts W a fs.length c fs := by
  obtain ⟨a, c, e, s, _⟩ := h.o.sl (fun _ _ => trivial)
  refine ⟨a, c, e, s, fun f hf => ?_⟩
  obtain ⟨h1, h2⟩ := h.ok f hf
  obtain ⟨a', c', e', s'⟩ := own_ents (h.e f hf) h2
  unfold Lf.v at e'
  injection e' with e1 e2 e3
  rw [e1, e2, e3]
  exact s'
/-- A list more: x laid in a row of its own, its header behind the others. -/
theorem Lsw.push {w W : World} {v : Value} {fs : List Lf} (h : Lsw w W v fs) {W1 W2 : World} {a : Option Addr} {c : Nat} {xs : List E} (b1 : Below W.heap.size W W1) (hA : eE.Own W1 W.heap.size (.slice a xs.length c) xs) (hok : ∀ x ∈ xs, x.ok) (hW2 : W2 = W1.alloc (.cells #[.slice a xs.length c] 39)) (hn : (fs.length + 1) * 24 ≤ 140737488355328) :
    ∃ v' W3, (Builtin.append_ #[22, 22] 22 #[v, .slice (some ⟨W1.heap.size, 0, none⟩) 1 1]).run Try.prog W2 = .ok v' W3 ∧ Lsw w W3 v' (fs ++ [⟨a, xs.length, c, xs⟩]) := by
  have h1 := h.later b1
  obtain ⟨v', W3, r, o, g, q⟩ := El.app1 eL W1 w.heap.size v fs (⟨a, xs.length, c, xs⟩ : Lf) #[.slice a xs.length c] rfl h1.o hn (by omega) h1.lo.size
  have hA0 : eE.Own W1 w.heap.size (.slice a xs.length c) xs := own_base hA (fun j hj => Nat.le_trans h.lo.size (own_lt hA j hj).1)
  have hnew : ∀ j, (Value.slice a xs.length c).ownBlock = some j → v.ownBlock ≠ some j := by
    intro j hj e
    have k1 := (own_lt hA j hj).1
    have k2 := (own_lt h.o j e).2
    omega
  have hblk : ∀ (f : Lf), (∀ j, f.v.ownBlock = some j → v.ownBlock ≠ some j) → (∀ j, f.v.ownBlock = some j → j < W1.heap.size) → ∀ j, f.v.ownBlock = some j → W3.heap[j]? = W1.heap[j]? := fun f hne hlt j hj => g.block j (hlt j hj) (fun e => hne j hj e.symm)
  refine ⟨v', W3, by rw [hW2]; exact r, o, below_grown h1.lo h1.lo.size g (fun j hj => (own_lt h1.o j hj).1), ?_, ?_, ?_, ?_⟩
  · intro f hf
    rcases List.mem_append.1 hf with hf | hf
    · exact own_blocks (h1.e f hf) (hblk f (h1.ne f hf) (fun j hj => (own_lt (h1.e f hf) j hj).2))
    · rw [List.mem_singleton] at hf
      subst hf
      exact own_blocks hA0 (hblk ⟨a, xs.length, c, xs⟩ hnew (fun j hj => (own_lt hA0 j hj).2))
  · intro f hf
    rcases List.mem_append.1 hf with hf | hf
    · exact h1.ok f hf
    · rw [List.mem_singleton] at hf; subst hf; exact ⟨rfl, hok⟩
  · intro f hf j hj e
    rcases List.mem_append.1 hf with hf | hf
    · rcases q j e with e' | e'
      · exact h1.ne f hf j hj e'
      · have := (own_lt (h1.e f hf) j hj).2; omega
    · rw [List.mem_singleton] at hf; subst hf
      rcases q j e with e' | e'
      · exact hnew j hj e'
      · have := (own_lt hA0 j hj).2; omega
  · rw [List.pairwise_append]
    refine ⟨h1.un, List.pairwise_singleton _ _, ?_⟩
    intro f hf g' hg j hj e
    rw [List.mem_singleton] at hg; subst hg
    have k1 := (own_lt hA j e).1
    have k2 := (own_lt (h.e f hf) j hj).2
    omega
end Go.Proofs.Ytgjodfaliajlgaa.Ml

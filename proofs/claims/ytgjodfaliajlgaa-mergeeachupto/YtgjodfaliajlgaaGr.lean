/- Rows of structs of any kind: what lies where, slices that can be read, rows of the call's own, and append onto them. -/
import Derived.Test.YtgjodfaliajlgaaRows
import Derived.WalkKit
import Derived.ProofKit
import Derived.OpenShut
import Derived.Below
import Derived.BigQuiet
import Derived.Deep.QuietTactic
import Derived.Deep.Slices
import Derived.Lib.QuietBelow
import Derived.Lib.SmallJoins
import Derived.Laws.Rows
import Derived.Laws.Tables
import Derived.Laws.ResultCell
import Derived.Laws.StructEq
import Derived.Laws.OwnMore
import Derived.Maps.AppendAt
import Derived.StillTailTactics
import Derived.Deep.RegionHeld
import Derived.OrdersHeld
import Derived.OwnWalk
namespace Go.Proofs.Ytgjodfaliajlgaa.Gr
open Go.ChangeShapes Go.WideShapes Go.ChangeAt Go.RowKit
set_option linter.unusedVariables false
set_option linter.unusedSimpArgs false

theorem hid {p : Prop} (h : p) : Hid p := h
theorem addr_add (b off n : Nat) : (⟨b, off, none⟩ : Addr).add n = ⟨b, off + n, none⟩ := by
  unfold Addr.add; split <;> simp_all
theorem box_below (w : World) (o : Obj) : Below w.heap.size w (w.alloc o) := (Below.refl _ _).alloc (Nat.le_refl _) o
theorem blk_lt {w : World} {g : Nat} {o : Obj} (h : w.heap[g]? = some o) : g < w.heap.size := (Array.getElem?_eq_some_iff.1 h).1
theorem new_at (w : World) (o : Obj) : (w.alloc o).heap[w.heap.size]? = some o := by show (w.heap.push o)[w.heap.size]? = _; simp
theorem size_alloc (w : World) (o : Obj) : (w.alloc o).heap.size = w.heap.size + 1 := by show (w.heap.push o).size = _; simp
theorem cell_of {w : World} {g : Nat} {c : Array Value} {t : TypeId} (h : w.heap[g]? = some (.cells c t)) (i : Nat) (v : Value) (hi : c[i]? = some v) : w.cell? ⟨g, i, none⟩ = some v := by
  unfold World.cell?; rw [h]; exact hi
theorem fz_of {w : World} {g : Nat} {c : Array Value} {t : TypeId} (h : w.heap[g]? = some (.cells c t)) (i : Nat) : w.frozen? ⟨g, i, none⟩ = false := by
  simp [World.frozen?, h]
theorem set_of {w : World} {g : Nat} {c : Array Value} {t : TypeId} (h : w.heap[g]? = some (.cells c t)) (i : Nat) (v : Value) : (w.setCell ⟨g, i, none⟩ v).heap[g]? = some (.cells (c.setIfInBounds i v) t) := by
  simp [World.setCell, Array.getElem?_modify, h]
theorem set_ne (w : World) (g k i : Nat) (v : Value) (h : k ≠ g) : (w.setCell ⟨g, i, none⟩ v).heap[k]? = w.heap[k]? := Below.heap_setCell w _ _ k (by simpa using h)
theorem region_tail {P : Program} {id : Nat} {Q : Exit → Act → World → Prop} {a : Act} {w : World} {l : List Oper} (n : Nat) (hm : P.follows .mixedOrders = true) (hB : Region.lexTailB .any l.toArray n = true)
    (h : wpStill P l.toArray w.drew (fun a' => wpList P l.toArray Q (l.drop n) a' w.drew) (l.take n) a) : (Code.region id l.toArray true).wp P Q a w := wp_region_still_tail n hm hB h
theorem drewN_below (w : World) (q : Nat) : Below w.heap.size w (w.drewN q) := by
  induction q with
  | zero => exact Below.refl _ _
  | succ q ih => rw [show w.drewN (q + 1) = (w.drewN q).drew from rfl]; exact ih.drew
theorem drew_below (w : World) : Below w.heap.size w w.drew := ⟨rfl, rfl, rfl, Nat.le_refl _, fun _ _ => rfl⟩
theorem Below.tr {n m : Nat} {w w1 w2 : World} (h : Below n w w1) (k : Below m w1 w2) (hm : n ≤ m) : Below n w w2 :=
  ⟨k.os.trans h.os, k.tape.trans h.tape, k.output.trans h.output, Nat.le_trans h.size k.size, fun j hj => (k.block j (by omega)).trans (h.block j hj)⟩
theorem Below.up {w w1 w2 : World} (h : Below w.heap.size w w1) (k : Below w1.heap.size w1 w2) : Below w.heap.size w w2 := Below.tr h k h.size
theorem ret_bool {a b : Bool} (h : a = b) : Ending.returned (.bool a) = .returned (.bool b) := by rw [h]
theorem ret_int {k : IntKind} {a b : Int} (h : a = b) : Ending.returned (.int k a) = .returned (.int k b) := by rw [h]

/-- Nothing of what was there has turned but blocks of P. -/
structure Fp (P : Nat → Prop) (w w' : World) : Prop where
  os : w'.os = w.os
  tape : w'.tape = w.tape
  output : w'.output = w.output
  size : w.heap.size ≤ w'.heap.size
  block : ∀ j, j < w.heap.size → ¬ P j → w'.heap[j]? = w.heap[j]?
theorem Fp.refl (P : Nat → Prop) (w : World) : Fp P w w := ⟨rfl, rfl, rfl, Nat.le_refl _, fun _ _ _ => rfl⟩
theorem Fp.of {P : Nat → Prop} {w w1 : World} (b : Below w.heap.size w w1) : Fp P w w1 := ⟨b.os, b.tape, b.output, b.size, fun j hj _ => b.block j hj⟩
theorem Fp.below {P : Nat → Prop} {w w1 w2 : World} (h : Fp P w w1) (b : Below w1.heap.size w1 w2) : Fp P w w2 :=
  ⟨b.os.trans h.os, b.tape.trans h.tape, b.output.trans h.output, Nat.le_trans h.size b.size, fun j hj hp => (b.block j (Nat.lt_of_lt_of_le hj h.size)).trans (h.block j hj hp)⟩
theorem Fp.grown {P : Nat → Prop} {w w1 w2 : World} {row : Option Nat} (h : Fp P w w1) (b : w1.grownBy w2 row) (hr : ∀ j, row = some j → P j ∨ w.heap.size ≤ j) : Fp P w w2 :=
  ⟨b.os.trans h.os, b.tape.trans h.tape, b.output.trans h.output, Nat.le_trans h.size b.size, fun j hj hp => (b.block j (Nat.lt_of_lt_of_le hj h.size) (fun e => by rcases hr j e.symm with h1 | h1; exact hp h1; omega)).trans (h.block j hj hp)⟩
theorem Fp.set {P : Nat → Prop} {w w1 : World} (h : Fp P w w1) {g : Nat} (hr : P g ∨ w.heap.size ≤ g) (i : Nat) (v : Value) : Fp P w (w1.setCell ⟨g, i, none⟩ v) :=
  ⟨h.os, h.tape, h.output, by simpa using h.size, fun j hj hp => (Below.heap_setCell w1 _ _ j (fun e => by rcases hr with h1 | h1; exact hp (by rw [show j = g from e]; exact h1); have : j = g := e; omega)).trans (h.block j hj hp)⟩
theorem Fp.wide {P Q : Nat → Prop} {w w1 : World} (h : Fp P w w1) (hpq : ∀ j, j < w.heap.size → P j → Q j) : Fp Q w w1 := ⟨h.os, h.tape, h.output, h.size, fun j hj hq => h.block j hj (fun hp => hq (hpq j hj hp))⟩
theorem Fp.tr {P : Nat → Prop} {w w1 w2 : World} (h : Fp P w w1) (k : Fp (fun j => P j ∨ w.heap.size ≤ j) w1 w2) : Fp P w w2 :=
  ⟨k.os.trans h.os, k.tape.trans h.tape, k.output.trans h.output, Nat.le_trans h.size k.size, fun j hj hp => (k.block j (Nat.lt_of_lt_of_le hj h.size) (fun e => by rcases e with e | e; exact hp e; omega)).trans (h.block j hj hp)⟩
theorem Fp.base {P : Nat → Prop} {w w1 : World} {base : Nat} (h : Fp P w w1) (hb : base ≤ w.heap.size) (hp : ∀ j, P j → base ≤ j) : Below base w w1 :=
  ⟨h.os, h.tape, h.output, h.size, fun j hj => h.block j (by omega) (fun e => by have := hp j e; omega)⟩
theorem own_blocks {w w' : World} {base e size n : Nat} {v : Value} {xs : List Value} (h : w.ownsRow base e size v n xs) (hb : ∀ j, v.ownBlock = some j → w'.heap[j]? = w.heap[j]?) : w'.ownsRow base e size v n xs := by
  refine ⟨h.1, ?_⟩
  rcases h.2 with h1 | ⟨g, c, cur, h1, h2, h3, h4⟩
  · exact .inl h1
  · refine .inr ⟨g, c, cur, h1, h2, ?_, h4⟩
    rw [hb g (by rw [h1]; rfl)]; exact h3
theorem own_lt {w : World} {base e size n : Nat} {v : Value} {xs : List Value} (h : w.ownsRow base e size v n xs) : ∀ j, v.ownBlock = some j → base ≤ j ∧ j < w.heap.size := by
  intro j hj
  rcases h.2 with ⟨h1, _⟩ | ⟨g, c, cur, h1, h2, h3, h4⟩
  · rw [h1] at hj; simp [Value.ownBlock] at hj
  · rw [h1] at hj; simp [Value.ownBlock] at hj; subst hj
    exact ⟨h2, (Array.getElem?_eq_some_iff.1 h3).1⟩
theorem row_block {w : World} {base e size n : Nat} {v : Value} {xs : List Value} (h : w.ownsRow base e size v n xs) : ∃ a c, v = .slice a n c := by
  rcases h.2 with ⟨h1, h2⟩ | ⟨g, c, cur, h1, _⟩
  · exact ⟨none, 0, by rw [h1, h2]⟩
  · exact ⟨_, _, h1⟩
theorem own_base {w : World} {base base' e size n : Nat} {v : Value} {xs : List Value} (h : w.ownsRow base e size v n xs) (hb : ∀ j, v.ownBlock = some j → base' ≤ j) : w.ownsRow base' e size v n xs := by
  refine ⟨h.1, ?_⟩
  rcases h.2 with h1 | ⟨g, c, cur, h1, h2, h3, h4⟩
  · exact .inl h1
  · exact .inr ⟨g, c, cur, h1, hb g (by rw [h1]; rfl), h3, h4⟩

/-- A kind of element: its slice's and its own type, how many cells and bytes it has, what its cells are. -/
structure El (α : Type) where
  st : TypeId
  et : TypeId
  k : Nat
  by_ : Nat
  cs : α → List Value
  z : α
  zv : Value
  len : ∀ x, (cs x).length = k
  one : ∀ x, ∀ u ∈ cs x, u.oneCell' = true
  und : Try.prog.underlying st = some (.slice et)
  info : (Try.prog.info? et).map (fun i => (i.zero, i.size, i.bytes)) = some (some zv, k, by_)
  zc : zv.cells.size = k
  pos : 0 < k
  ok : α → Prop
variable {α : Type}
/-- The cells of elements, one behind the other. -/
def El.cl (E : El α) : List α → List Value
  | [] => []
  | x :: r => E.cs x ++ E.cl r
theorem El.cl_len (E : El α) : ∀ xs, (E.cl xs).length = xs.length * E.k
  | [] => by simp [El.cl]
  | x :: r => by simp [El.cl, El.cl_len E r, E.len, Nat.add_mul]; omega
theorem El.cl_append (E : El α) : ∀ xs ys, E.cl (xs ++ ys) = E.cl xs ++ E.cl ys
  | [], ys => rfl
  | x :: r, ys => by simp [El.cl, El.cl_append E r ys]
theorem El.cl_one (E : El α) : ∀ xs, ∀ u ∈ E.cl xs, u.oneCell' = true
  | [], u, h => by simp [El.cl] at h
  | x :: r, u, h => by
    rcases List.mem_append.1 (show u ∈ E.cs x ++ E.cl r from h) with h | h
    · exact E.one x u h
    · exact El.cl_one E r u h
theorem El.cl_get (E : El α) : ∀ (xs : List α) (i : Nat), i < xs.length → ∀ j, j < E.k → (E.cl xs)[i * E.k + j]? = (E.cs (xs.getD i E.z))[j]?
  | [], i, h => by simp at h
  | x :: l, 0, _ => by
    intro j hj
    show (E.cs x ++ E.cl l)[0 * E.k + j]? = (E.cs x)[j]?
    rw [Nat.zero_mul, Nat.zero_add, List.getElem?_append_left (by rw [E.len]; exact hj)]
  | x :: l, i + 1, h => by
    intro j hj
    have ih := El.cl_get E l i (by simpa using h) j hj
    show (E.cs x ++ E.cl l)[(i + 1) * E.k + j]? = (E.cs (l.getD i E.z))[j]?
    rw [Nat.add_mul, List.getElem?_append_right (by rw [E.len]; omega), ← ih, E.len]
    congr 1
    omega
/-- An element lies at a place. -/
def El.At (E : El α) (w : World) (b o : Nat) (x : α) : Prop := ∀ j u, (E.cs x)[j]? = some u → w.cell? ⟨b, o + j, none⟩ = some u
theorem El.At.later {E : El α} {w w' : World} {b o : Nat} {x : α} (h : E.At w b o x) (hb : Below w.heap.size w w') : E.At w' b o x :=
  fun j u hu => (hb.cell (block_lt_of_cell (h j u hu))).trans (h j u hu)
/-- A slice of them that can be read. -/
structure El.Sl (E : El α) (w : World) (a : Option Addr) (len cap : Nat) (xs : List α) : Prop where
  n : xs.length = len
  c : len ≤ cap
  nil : a = none → len = 0 ∧ cap = 0
  ok : ∀ x ∈ xs, E.ok x
  cells : ∀ b o p, a = some ⟨b, o, p⟩ → 0 < len → p = none ∧ ∀ i, i < len → E.At w b (o + i * E.k) (xs.getD i E.z)
theorem El.Sl.later {E : El α} {w w' : World} {a : Option Addr} {len cap : Nat} {xs : List α} (h : E.Sl w a len cap xs) (hb : Below w.heap.size w w') : E.Sl w' a len cap xs :=
  ⟨h.n, h.c, h.nil, h.ok, fun b o p hp hl => ⟨(h.cells b o p hp hl).1, fun i hi => ((h.cells b o p hp hl).2 i hi).later hb⟩⟩
/-- What a slice hangs on is its own block alone. -/
theorem El.Sl.block {E : El α} {w w' : World} {a : Option Addr} {len cap : Nat} {xs : List α} (h : E.Sl w a len cap xs) (hb : ∀ ad, a = some ad → w'.heap[ad.block]? = w.heap[ad.block]?) : E.Sl w' a len cap xs :=
  ⟨h.n, h.c, h.nil, h.ok, fun b o p hp hl => ⟨(h.cells b o p hp hl).1, fun i hi j u hu => (World.cell?_of_block (a := ⟨b, o + i * E.k + j, none⟩) (hb ⟨b, o, p⟩ hp)).trans ((h.cells b o p hp hl).2 i hi j u hu)⟩⟩
theorem El.Sl.none (E : El α) (w : World) : E.Sl w none 0 0 [] := ⟨rfl, Nat.le_refl _, fun _ => ⟨rfl, rfl⟩, fun _ h => (by simp at h), fun _ _ _ h => by simp at h⟩
theorem El.Sl.flat {E : El α} {w : World} {ad : Addr} {n c : Nat} {xs : List α} (H : E.Sl w (some ad) n c xs) : ∀ (q : Nat) (u : Value), (E.cl xs)[q]? = some u → w.cell? (ad.add q) = some u := by
  intro q u hq
  have hql : q < (E.cl xs).length := by
    rcases Nat.lt_or_ge q (E.cl xs).length with h | h
    · exact h
    · rw [List.getElem?_eq_none h] at hq; cases hq
  rw [El.cl_len] at hql
  obtain ⟨b, o, p⟩ := ad
  have hl := H.n
  have hp := E.pos
  have hx0 : 0 < xs.length := by
    rcases Nat.eq_zero_or_pos xs.length with h | h
    · rw [h, Nat.zero_mul] at hql; omega
    · exact h
  obtain ⟨rfl, hat⟩ := H.cells b o p rfl (by omega)
  have hd : q / E.k < xs.length := (Nat.div_lt_iff_lt_mul hp).2 hql
  have hm : q % E.k < E.k := Nat.mod_lt _ hp
  have he : q = q / E.k * E.k + q % E.k := by rw [Nat.mul_comm]; exact (Nat.div_add_mod q E.k).symm
  rw [he, El.cl_get E xs _ hd _ hm] at hq
  have h3 := hat (q / E.k) (by omega) _ _ hq
  rw [addr_add, he, ← Nat.add_assoc]
  exact h3
theorem El.get_mem {E : El α} {xs : List α} {k : Nat} (h : k < xs.length) : xs.getD k E.z ∈ xs := by
  rw [List.getD_eq_getElem?_getD, List.getElem?_eq_getElem h]
  exact List.getElem_mem h
theorem El.take_snoc {E : El α} {xs : List α} {k : Nat} (h : k < xs.length) : xs.take (k + 1) = xs.take k ++ [xs.getD k E.z] := by
  rw [List.take_succ_eq_append_getElem h, List.getD_eq_getElem?_getD, List.getElem?_eq_getElem h]
  rfl
/-- A row of them of the call's own. -/
def El.Own (E : El α) (w : World) (base : Nat) (v : Value) (xs : List α) : Prop := w.ownsRow base E.et E.k v xs.length (E.cl xs)
theorem El.Own.later {E : El α} {w w' : World} {base : Nat} {v : Value} {xs : List α} (h : E.Own w base v xs) (b : Below w.heap.size w w') : E.Own w' base v xs := own_blocks h (fun j hj => b.block j (own_lt h j hj).2)
theorem El.Own.nil (E : El α) (w : World) (base : Nat) : E.Own w base (.slice none 0 0) [] := World.ownsRow_nil _ _ _ _
theorem El.Own.at {E : El α} {w : World} {base g n c : Nat} {xs : List α} (h : E.Own w base (.slice (some ⟨g, 0, none⟩) n c) xs) (i : Nat) (hi : i < xs.length) : E.At w g (i * E.k) (xs.getD i E.z) := by
  intro j u hu
  have hj : j < E.k := by rw [← E.len (xs.getD i E.z)]; exact (List.getElem?_eq_some_iff.1 hu).1
  have hc := World.ownsRow.cells h (g := g) rfl _ _ ((El.cl_get E xs i hi j hj).trans hu)
  rwa [addr_add, Nat.zero_add] at hc
theorem El.Own.sl {E : El α} {w : World} {base : Nat} {v : Value} {xs : List α} (h : E.Own w base v xs) (hok : ∀ x ∈ xs, E.ok x) : ∃ a c, v = .slice a xs.length c ∧ E.Sl w a xs.length c xs ∧ (∀ ad, a = some ad → ad.off = 0 ∧ ad.spot = none) := by
  have h' := h
  rcases h.2 with ⟨e, h0⟩ | ⟨g, c, cur, e, hb, hg, hn, hm, hs, ht⟩
  · have hx : xs = [] := List.eq_nil_of_length_eq_zero h0
    subst hx
    exact ⟨none, 0, e, El.Sl.none E w, fun _ h => by cases h⟩
  · subst e
    refine ⟨_, c, rfl, ⟨rfl, hn, fun e => by simp at e, hok, fun b o p hp _ => ?_⟩, fun ad h => by cases h; exact ⟨rfl, rfl⟩⟩
    simp at hp; obtain ⟨rfl, rfl, rfl⟩ := hp
    exact ⟨rfl, fun i hi => by rw [Nat.zero_add]; exact h'.at i hi⟩
theorem El.Own.made (E : El α) (w : World) : E.Own (w.alloc (.cells #[] E.et)) w.heap.size (.slice (some ⟨w.heap.size, 0, none⟩) 0 0) [] := World.ownsRow_made w #[] 0 (Nat.le_refl _) (by unfold maxLen; omega) (by simp)
/-- append of any such slice onto a row of the call's own. -/
theorem El.app (E : El α) (w : World) (base : Nat) (v : Value) (l : List α) (H : E.Own w base v l) (a : Option Addr) (m c : Nat) (ys : List α) (HB : E.Sl w a m c ys) (hn : (l.length + m) * E.by_ ≤ 140737488355328) (hn2 : l.length + m ≤ 140737488355328) (hbase : base ≤ w.heap.size) :
    ∃ v' w', (Builtin.append_ #[E.st, E.st] E.st #[v, .slice a m c]).run Try.prog w = .ok v' w' ∧ E.Own w' base v' (l ++ ys) ∧ w.grownBy w' v.ownBlock ∧ (∀ j, v'.ownBlock = some j → v.ownBlock = some j ∨ w.heap.size ≤ j) := by
  obtain ⟨i0, hi, hz0, hz1, hz2⟩ := info_parts E.info
  cases a with
  | none =>
    obtain ⟨rfl, rfl⟩ := HB.nil rfl
    have hy : ys = [] := List.eq_nil_of_length_eq_zero HB.n
    subst hy
    exact ⟨v, w, run_append_owned_none (P := Try.prog) (w := w) base E.st E.st E.et i0 E.k E.und hi v l.length _ H, by rw [List.append_nil]; exact H, World.grownBy.refl _ _, fun j hj => .inl hj⟩
  | some ad =>
    obtain ⟨v5, W5, r5, o5, g5, _, q5⟩ := run_append_own_at (P := Try.prog) w base E.st E.st E.et i0 _ E.k E.by_ E.und hi hz0 hz1 hz2 E.zc E.pos v l.length _ H ad m c (E.cl ys) (by rw [El.cl_len, HB.n]) HB.flat (E.cl_one ys) (by unfold maxLen; omega) hn hbase
    refine ⟨v5, W5, r5, ?_, g5, ?_⟩
    · unfold El.Own
      rw [List.length_append, El.cl_append, HB.n]
      exact o5
    · intro j hj
      rcases q5 with h | h
      · exact .inl (h ▸ hj)
      · rw [h] at hj
        have := Option.some.inj hj
        exact .inr (by omega)
/-- append of one that was laid just now. -/
theorem El.app1 (E : El α) (w : World) (base : Nat) (v : Value) (l : List α) (x : α) (cs : Array Value) (hcs : cs = (E.cs x).toArray) (H : E.Own w base v l) (hn : (l.length + 1) * E.by_ ≤ 140737488355328) (hn2 : l.length + 1 ≤ 140737488355328) (hbase : base ≤ w.heap.size) :
    ∃ v' w', (Builtin.append_ #[E.st, E.st] E.st #[v, .slice (some ⟨w.heap.size, 0, none⟩) 1 1]).run Try.prog (w.alloc (.cells cs E.et)) = .ok v' w' ∧ E.Own w' base v' (l ++ [x]) ∧ w.grownBy w' v.ownBlock ∧ (∀ j, v'.ownBlock = some j → v.ownBlock = some j ∨ w.heap.size ≤ j) := by
  obtain ⟨i0, hi, hz0, hz1, hz2⟩ := info_parts E.info
  have b1 := box_below w (.cells cs E.et)
  have H2 := El.Own.later H b1
  have n4 := new_at w (.cells cs E.et)
  obtain ⟨v5, W5, r5, o5, g5, _, q5⟩ := run_append_own_at (P := Try.prog) (w.alloc (.cells cs E.et)) base E.st E.st E.et i0 _ E.k E.by_ E.und hi hz0 hz1 hz2 E.zc E.pos v l.length _ H2 ⟨w.heap.size, 0, none⟩ 1 1 (E.cs x) (by rw [E.len, Nat.one_mul]) (by
    intro q u hq
    rw [addr_add, Nat.zero_add]
    exact cell_of n4 q u (by rw [hcs]; simpa using hq)) (E.one x) (by unfold maxLen; omega) hn (by rw [size_alloc]; omega)
  refine ⟨v5, W5, r5, ?_, ?_, ?_⟩
  · unfold El.Own
    rw [List.length_append, El.cl_append, show E.cl [x] = E.cs x by simp [El.cl]]
    exact o5
  · exact ⟨g5.os.trans b1.os, g5.tape.trans b1.tape, g5.output.trans b1.output, Nat.le_trans b1.size g5.size, fun k hk hne => (g5.block k (Nat.lt_of_lt_of_le hk b1.size) hne).trans (b1.block k hk)⟩
  · intro j hj
    rcases q5 with h | h
    · exact .inl (h ▸ hj)
    · rw [h] at hj
      have := Option.some.inj hj
      rw [size_alloc] at this
      exact .inr (by omega)
/-- A block of a row that may be written. -/
def Pad (w : World) (b t m : Nat) : Prop := ∃ cs, w.heap[b]? = some (.cells cs t) ∧ m ≤ cs.size
theorem Pad.set {w : World} {b t m : Nat} (h : Pad w b t m) (i : Nat) (v : Value) : Pad (w.setCell ⟨b, i, none⟩ v) b t m := by
  obtain ⟨cs, h1, h2⟩ := h
  exact ⟨_, set_of h1 i v, by simpa using h2⟩
theorem Pad.cell {w : World} {b t m : Nat} (h : Pad w b t m) (i : Nat) (hi : i < m) : ∃ v, w.cell? ⟨b, i, none⟩ = some v := by
  obtain ⟨cs, h1, h2⟩ := h
  exact ⟨cs[i], cell_of h1 i _ (Array.getElem?_eq_getElem (by omega))⟩
theorem Pad.fz {w : World} {b t m : Nat} (h : Pad w b t m) (i : Nat) : w.frozen? ⟨b, i, none⟩ = false := by
  obtain ⟨cs, h1, h2⟩ := h
  exact fz_of h1 i
theorem own_pad {w : World} {base e size n c : Nat} {a : Option Addr} {xs : List Value} (h : w.ownsRow base e size (.slice a n c) n xs) (hn : 0 < n) : ∃ b, a = some ⟨b, 0, none⟩ ∧ n ≤ c ∧ base ≤ b ∧ Pad w b e (n * size) := by
  rcases h.2 with ⟨e1, h0⟩ | ⟨g, cap, cur, e1, hb, hg, hn', hm, hs, ht⟩
  · omega
  · injection e1 with e2 _ e3
    subst e2 e3
    refine ⟨g, rfl, hn', hb, cur, hg, ?_⟩
    rw [hs]
    exact Nat.mul_le_mul_right _ hn'
end Go.Proofs.Ytgjodfaliajlgaa.Gr

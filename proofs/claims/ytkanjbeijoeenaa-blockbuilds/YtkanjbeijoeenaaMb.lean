/- Common means: blocks, frames, entries of four cells, rows of them. -/
import Derived.Test.YtkanjbeijoeenaaCm
import Derived.Test.YtkanjbeijoeenaaEb
import Derived.Test.YtkanjbeijoeenaaCp
import Derived.Test.YtkanjbeijoeenaaCt
import Derived.Deep.Slices
import Derived.Lib.SmallJoins
import Derived.Laws.Rows
import Derived.Laws.Tables
import Derived.Laws.ResultCell
import Derived.Laws.StructEq
import Derived.BigQuiet
import Derived.Deep.QuietTactic
import Derived.Maps.AppendAt
import Derived.StillTailTactics
import Derived.Deep.RegionHeld
import Derived.OrdersHeld
namespace Go.Proofs.Ytkanjbeijoeenaa.Mb
open Go.ChangeShapes Go.WideShapes Go.ChangeAt Go.RowKit
open Go.Sort
open Go.Proofs.Ytkanjbeijoeenaa.Ik
open Go.Proofs.Ytkanjbeijoeenaa.Kd
open Go.Proofs.Ytkanjbeijoeenaa.Cm
set_option linter.unusedVariables false
set_option linter.unusedSimpArgs false

theorem hid {p : Prop} (h : p) : Hid p := h
theorem addr_add (b off n : Nat) : (⟨b, off, none⟩ : Addr).add n = ⟨b, off + n, none⟩ := by
  unfold Addr.add; split <;> simp_all
theorem box_below (w : World) (o : Obj) : Below w.heap.size w (w.alloc o) := (Below.refl _ _).alloc (Nat.le_refl _) o
theorem blk_lt {w : World} {g : Nat} {o : Obj} (h : w.heap[g]? = some o) : g < w.heap.size := (Array.getElem?_eq_some_iff.1 h).1
theorem new_at (w : World) (o : Obj) : (w.alloc o).heap[w.heap.size]? = some o := by show (w.heap.push o)[w.heap.size]? = _; simp
theorem size_alloc (w : World) (o : Obj) : (w.alloc o).heap.size = w.heap.size + 1 := by show (w.heap.push o).size = _; simp
theorem cell_of {w : World} {g : Nat} {c : Array Value} {t : TypeId} (h : w.heap[g]? = some (.cells c t)) (i : Nat) (v : Value) (hi : c[i]? = some v) : w.cell? ⟨g, i, none⟩ = some v := by
  unfold World.cell?; rw [h]; exact hi
theorem fz_of {w : World} {g : Nat} {c : Array Value} {t : TypeId} (h : w.heap[g]? = some (.cells c t)) (i : Nat) : w.frozen? ⟨g, i, none⟩ = false := by
  simp [World.frozen?, h]
theorem set_of {w : World} {g : Nat} {c : Array Value} {t : TypeId} (h : w.heap[g]? = some (.cells c t)) (i : Nat) (v : Value) : (w.setCell ⟨g, i, none⟩ v).heap[g]? = some (.cells (c.setIfInBounds i v) t) := by
  simp [World.setCell, Array.getElem?_modify, h]
theorem set_ne (w : World) (g k i : Nat) (v : Value) (h : k ≠ g) : (w.setCell ⟨g, i, none⟩ v).heap[k]? = w.heap[k]? := Below.heap_setCell w _ _ k (by simpa using h)
theorem region_tail {P : Program} {id : Nat} {Q : Exit → Act → World → Prop} {a : Act} {w : World} {l : List Oper} (n : Nat) (hm : P.follows .mixedOrders = true) (hB : Region.lexTailB .any l.toArray n = true)
    (h : wpStill P l.toArray w.drew (fun a' => wpList P l.toArray Q (l.drop n) a' w.drew) (l.take n) a) : (Code.region id l.toArray true).wp P Q a w := wp_region_still_tail n hm hB h
theorem drewN_below (w : World) (q : Nat) : Below w.heap.size w (w.drewN q) := by
  induction q with
  | zero => exact Below.refl _ _
  | succ q ih => rw [show w.drewN (q + 1) = (w.drewN q).drew from rfl]; exact ih.drew
theorem drew_below (w : World) : Below w.heap.size w w.drew := ⟨rfl, rfl, rfl, Nat.le_refl _, fun _ _ => rfl⟩

/-- Nothing of what was there has turned but blocks of P. -/
structure Fp (P : Nat → Prop) (w w' : World) : Prop where
  os : w'.os = w.os
  tape : w'.tape = w.tape
  output : w'.output = w.output
  size : w.heap.size ≤ w'.heap.size
  block : ∀ j, j < w.heap.size → ¬ P j → w'.heap[j]? = w.heap[j]?
def gw (P : Nat → Prop) (w w' : World) : Nat → Prop := fun j => P j ∨ (w.heap.size ≤ j ∧ j < w'.heap.size)
theorem Fp.refl (P : Nat → Prop) (w : World) : Fp P w w := ⟨rfl, rfl, rfl, Nat.le_refl _, fun _ _ _ => rfl⟩
theorem Fp.of {P : Nat → Prop} {w w1 : World} (b : Below w.heap.size w w1) : Fp P w w1 := ⟨b.os, b.tape, b.output, b.size, fun j hj _ => b.block j hj⟩
theorem Fp.below {P : Nat → Prop} {w w1 w2 : World} (h : Fp P w w1) (b : Below w1.heap.size w1 w2) : Fp P w w2 :=
  ⟨b.os.trans h.os, b.tape.trans h.tape, b.output.trans h.output, Nat.le_trans h.size b.size, fun j hj hp => (b.block j (Nat.lt_of_lt_of_le hj h.size)).trans (h.block j hj hp)⟩
theorem Fp.grown {P : Nat → Prop} {w w1 w2 : World} {row : Option Nat} (h : Fp P w w1) (b : w1.grownBy w2 row) (hr : ∀ j, row = some j → P j ∨ w.heap.size ≤ j) : Fp P w w2 :=
  ⟨b.os.trans h.os, b.tape.trans h.tape, b.output.trans h.output, Nat.le_trans h.size b.size, fun j hj hp => (b.block j (Nat.lt_of_lt_of_le hj h.size) (fun e => by rcases hr j e.symm with h1 | h1; exact hp h1; omega)).trans (h.block j hj hp)⟩
theorem Fp.set {P : Nat → Prop} {w w1 : World} (h : Fp P w w1) {g : Nat} (hr : P g ∨ w.heap.size ≤ g) (i : Nat) (v : Value) : Fp P w (w1.setCell ⟨g, i, none⟩ v) :=
  ⟨h.os, h.tape, h.output, by simpa using h.size, fun j hj hp => (Below.heap_setCell w1 _ _ j (fun e => by rcases hr with h1 | h1; exact hp (by rw [show j = g from e]; exact h1); have : j = g := e; omega)).trans (h.block j hj hp)⟩
theorem Fp.trans {P : Nat → Prop} {w w1 w2 : World} (h : Fp P w w1) (k : Fp (gw P w w1) w1 w2) : Fp P w w2 :=
  ⟨k.os.trans h.os, k.tape.trans h.tape, k.output.trans h.output, Nat.le_trans h.size k.size, fun j hj hp => (k.block j (Nat.lt_of_lt_of_le hj h.size) (fun e => by rcases e with e | e; exact hp e; omega)).trans (h.block j hj hp)⟩
theorem Fp.wide {P Q : Nat → Prop} {w w1 : World} (h : Fp P w w1) (hpq : ∀ j, j < w.heap.size → P j → Q j) : Fp Q w w1 := ⟨h.os, h.tape, h.output, h.size, fun j hj hq => h.block j hj (fun hp => hq (hpq j hj hp))⟩
theorem Fp.drew {P : Nat → Prop} {w w1 : World} (h : Fp P w w1) : Fp P w w1.drew := h.below ⟨rfl, rfl, rfl, Nat.le_refl _, fun _ _ => rfl⟩
theorem Fp.base {P : Nat → Prop} {w w1 : World} {base : Nat} (h : Fp P w w1) (hb : base ≤ w.heap.size) (hp : ∀ j, P j → base ≤ j) : Below base w w1 :=
  ⟨h.os, h.tape, h.output, h.size, fun j hj => h.block j (by omega) (fun e => by have := hp j e; omega)⟩
theorem gw_sub {P : Nat → Prop} {w w1 w2 : World} (h : w.heap.size ≤ w1.heap.size) (k : w1.heap.size ≤ w2.heap.size) : ∀ j, gw (gw P w w1) w1 w2 j → gw P w w2 j := by
  rintro j ((h1 | h1) | h1)
  · exact .inl h1
  · exact .inr ⟨h1.1, by omega⟩
  · exact .inr ⟨by omega, h1.2⟩
theorem gw_self {P : Nat → Prop} {w w1 : World} : ∀ j, P j → gw P w w1 j := fun j h => .inl h
theorem gw_low {P : Nat → Prop} {w w1 : World} {base : Nat} (hb : base ≤ w.heap.size) (hs : w.heap.size ≤ w1.heap.size) (h : ∀ j, P j → base ≤ j ∧ j < w.heap.size) : ∀ j, gw P w w1 j → base ≤ j ∧ j < w1.heap.size := by
  rintro j (h1 | h1)
  · exact ⟨(h j h1).1, by have := (h j h1).2; omega⟩
  · exact ⟨by omega, h1.2⟩
theorem own_blocks {w w' : World} {base e size n : Nat} {v : Value} {xs : List Value} (h : w.ownsRow base e size v n xs) (hb : ∀ j, v.ownBlock = some j → w'.heap[j]? = w.heap[j]?) : w'.ownsRow base e size v n xs := by
  refine ⟨h.1, ?_⟩
  rcases h.2 with h1 | ⟨g, c, cur, h1, h2, h3, h4⟩
  · exact .inl h1
  · refine .inr ⟨g, c, cur, h1, h2, ?_, h4⟩
    rw [hb g (by rw [h1]; rfl)]; exact h3
theorem own_lt {w : World} {base e size n : Nat} {v : Value} {xs : List Value} (h : w.ownsRow base e size v n xs) : ∀ j, v.ownBlock = some j → base ≤ j ∧ j < w.heap.size := by
  intro j hj
  rcases h.2 with ⟨h1, _⟩ | ⟨g, c, cur, h1, h2, h3, h4⟩
  · rw [h1] at hj; simp [Value.ownBlock] at hj
  · rw [h1] at hj; simp [Value.ownBlock] at hj; subst hj
    exact ⟨h2, (Array.getElem?_eq_some_iff.1 h3).1⟩


/-- An entry: key, number, kind, value. -/
structure E where
  k : ByteArray
  s : Int
  c : Int
  v : ByteArray
/-- The entry of no call. -/
def ze : E := ⟨⟨#[]⟩, 0, 0, ⟨#[]⟩⟩
def E.ik (x : E) : IK := Cm.ik x.k x.s x.c
/-- What an entry's parts are bounded by. -/
def E.ok (x : E) : Prop := x.k.size ≤ maxLen ∧ (0 ≤ x.s ∧ x.s ≤ 18446744073709551615) ∧ (-9223372036854775808 ≤ x.c ∧ x.c ≤ 9223372036854775807) ∧ x.v.size ≤ maxLen
/-- An entry lies at a place. -/
def At4 (w : World) (b o : Nat) (x : E) : Prop := w.cell? ⟨b, o, none⟩ = some (.string x.k) ∧ w.cell? ⟨b, o + 1, none⟩ = some (.int .u64 x.s) ∧ w.cell? ⟨b, o + 2, none⟩ = some (.int .i64 x.c) ∧ w.cell? ⟨b, o + 3, none⟩ = some (.string x.v)
theorem At4.later {w w' : World} {b o : Nat} {x : E} (h : At4 w b o x) (hb : Below w.heap.size w w') : At4 w' b o x :=
  ⟨(hb.cell (block_lt_of_cell h.1)).trans h.1, (hb.cell (block_lt_of_cell h.2.1)).trans h.2.1, (hb.cell (block_lt_of_cell h.2.2.1)).trans h.2.2.1, (hb.cell (block_lt_of_cell h.2.2.2)).trans h.2.2.2⟩
/-- A slice of entries that can be read. -/
def Ents (w : World) (a : Option Addr) (len cap : Nat) (xs : List E) : Prop :=
  xs.length = len ∧ len ≤ cap ∧ (a = none → len = 0 ∧ cap = 0) ∧ (∀ x ∈ xs, x.ok) ∧ (∀ b o p, a = some ⟨b, o, p⟩ → 0 < len → p = none ∧ ∀ i, i < len → At4 w b (o + i * 4) (xs.getD i ze))
theorem Ents.later {w w' : World} {a : Option Addr} {len cap : Nat} {xs : List E} (h : Ents w a len cap xs) (hb : Below w.heap.size w w') : Ents w' a len cap xs :=
  ⟨h.1, h.2.1, h.2.2.1, h.2.2.2.1, fun b o p hp hl => ⟨(h.2.2.2.2 b o p hp hl).1, fun i hi => ((h.2.2.2.2 b o p hp hl).2 i hi).later hb⟩⟩


theorem compare_below (a : ByteArray) (s k : Int) (b : ByteArray) (t m : Int) (w : World) :
    Calls Try.prog 29 #[.agg #[.string a, .int .u64 s, .int .i64 k], .agg #[.string b, .int .u64 t, .int .i64 m]] w fun e w' => e = .returned (.int .i64 (cmp (Cm.ik a s k) (Cm.ik b t m))) ∧ Below w.heap.size w w' :=
  (compare_any a s k b t m w).mono fun e w' ⟨he, hw⟩ => ⟨he, hw ▸ two_below ..⟩

def ec (x : E) : List Value := [.string x.k, .int .u64 x.s, .int .i64 x.c, .string x.v]
def ecs : List E → List Value
  | [] => []
  | x :: l => ec x ++ ecs l
theorem ecs_append : ∀ xs ys, ecs (xs ++ ys) = ecs xs ++ ecs ys
  | [], ys => rfl
  | x :: l, ys => by simp [ecs, ecs_append l ys]
theorem ecs_len : ∀ xs, (ecs xs).length = xs.length * 4
  | [] => rfl
  | x :: l => by simp [ecs, ec, ecs_len l]; omega
theorem ecs_get : ∀ (xs : List E) (i : Nat), i < xs.length → (ecs xs)[i * 4]? = some (.string (xs.getD i ze).k) ∧ (ecs xs)[i * 4 + 1]? = some (.int .u64 (xs.getD i ze).s) ∧ (ecs xs)[i * 4 + 2]? = some (.int .i64 (xs.getD i ze).c) ∧ (ecs xs)[i * 4 + 3]? = some (.string (xs.getD i ze).v)
  | [], i, h => by simp at h
  | x :: l, 0, h => by simp [ecs, ec]
  | x :: l, i + 1, h => by
    have := ecs_get l i (by simpa using h)
    have e : ecs (x :: l) = ec x ++ ecs l := rfl
    have hl : (ec x).length = 4 := rfl
    rw [e]
    refine ⟨?_, ?_, ?_, ?_⟩ <;> rw [List.getElem?_append_right (by rw [hl]; omega), hl]
    · rw [show (i + 1) * 4 - 4 = i * 4 by omega]; simpa using this.1
    · rw [show (i + 1) * 4 + 1 - 4 = i * 4 + 1 by omega]; simpa using this.2.1
    · rw [show (i + 1) * 4 + 2 - 4 = i * 4 + 2 by omega]; simpa using this.2.2.1
    · rw [show (i + 1) * 4 + 3 - 4 = i * 4 + 3 by omega]; simpa using this.2.2.2

/-- A row of entries of the call's own; t is its elements' type. -/
def OwnE (t : TypeId) (w : World) (base : Nat) (v : Value) (xs : List E) : Prop := w.ownsRow base t 4 v xs.length (ecs xs)
theorem OwnE.later {t : TypeId} {w w' : World} {base : Nat} {v : Value} {xs : List E} (h : OwnE t w base v xs) (b : Below w.heap.size w w') : OwnE t w' base v xs := own_blocks h (fun j hj => b.block j (own_lt h j hj).2)
theorem OwnE.nil (t : TypeId) (w : World) (base : Nat) : OwnE t w base (.slice none 0 0) [] := World.ownsRow_nil _ _ _ _
theorem OwnE.ents {t : TypeId} {w : World} {base : Nat} {v : Value} {xs : List E} (h : OwnE t w base v xs) (hok : ∀ x ∈ xs, x.ok) : ∃ a c, v = .slice a xs.length c ∧ Ents w a xs.length c xs := by
  have h' := h
  rcases h.2 with ⟨e, h0⟩ | ⟨g, c, cur, e, hb, hg, hn, hm, hs, ht⟩
  · have hx : xs = [] := List.eq_nil_of_length_eq_zero h0
    subst hx
    exact ⟨none, 0, e, ⟨rfl, Nat.le_refl _, fun _ => ⟨rfl, rfl⟩, hok, fun _ _ _ h => by simp at h⟩⟩
  · subst e
    refine ⟨_, c, rfl, ⟨rfl, hn, fun e => by simp at e, hok, fun b o p hp _ => ?_⟩⟩
    simp at hp; obtain ⟨rfl, rfl, rfl⟩ := hp
    refine ⟨rfl, fun i hi => ?_⟩
    obtain ⟨g0, g1, g2, g3⟩ := ecs_get xs i hi
    have hc := World.ownsRow.cells h' (g := g) rfl
    have e0 := hc _ _ g0
    have e1 := hc _ _ g1
    have e2 := hc _ _ g2
    have e3 := hc _ _ g3
    rw [addr_add, Nat.zero_add] at e0 e1 e2 e3
    rw [Nat.zero_add]
    exact ⟨e0, e1, e2, e3⟩

theorem info_entry : (Try.prog.info? 85).map (fun i => (i.zero, i.size, i.bytes)) = some (some (.agg #[.string ⟨#[]⟩, .int .u64 0, .int .i64 0, .string ⟨#[]⟩]), 4, 48) := by kernel_rfl
theorem info_item : (Try.prog.info? 38).map (fun i => (i.zero, i.size, i.bytes)) = some (some (.agg #[.string ⟨#[]⟩, .int .u64 0, .int .i64 0, .string ⟨#[]⟩]), 4, 48) := by kernel_rfl
theorem app_entry (w : World) (base : Nat) (v : Value) (l : List E) (x : E) (H : OwnE 85 w base v l) (hn : (l.length + 1) * 48 ≤ 140737488355328) (hbase : base ≤ w.heap.size) :
    ∃ v' w', (Builtin.append_ #[53, 53] 53 #[v, .slice (some ⟨w.heap.size, 0, none⟩) 1 1]).run Try.prog (w.alloc (.cells #[.string x.k, .int .u64 x.s, .int .i64 x.c, .string x.v] 85)) = .ok v' w' ∧ OwnE 85 w' base v' (l ++ [x]) ∧ w.grownBy w' v.ownBlock ∧ (∀ j, v'.ownBlock = some j → v.ownBlock = some j ∨ w.heap.size ≤ j) := by
  obtain ⟨i0, hi, hz0, hz1, hz2⟩ := info_parts info_entry
  have b1 := box_below w (.cells #[.string x.k, .int .u64 x.s, .int .i64 x.c, .string x.v] 85)
  have H2 := OwnE.later H b1
  have n4 := new_at w (.cells #[.string x.k, .int .u64 x.s, .int .i64 x.c, .string x.v] 85)
  obtain ⟨v5, W5, r5, o5, g5, _, q5⟩ := run_append_own_at (P := Try.prog) (w.alloc (.cells #[.string x.k, .int .u64 x.s, .int .i64 x.c, .string x.v] 85)) base 53 53 85 i0 _ 4 48 Try.underlying53 hi hz0 hz1 hz2 rfl (by decide) v l.length _ H2 ⟨w.heap.size, 0, none⟩ 1 1 [.string x.k, .int .u64 x.s, .int .i64 x.c, .string x.v] rfl (by
    intro q u hq
    rw [addr_add, Nat.zero_add]
    exact cell_of n4 q u (by simpa using hq)) (by intro u hu; simp at hu; rcases hu with rfl | rfl | rfl | rfl <;> rfl) (by unfold maxLen; omega) (by omega) (by rw [size_alloc]; omega)
  refine ⟨v5, W5, r5, ?_, ?_, ?_⟩
  · unfold OwnE
    rw [List.length_append, ecs_append]
    exact o5
  · exact ⟨g5.os.trans b1.os, g5.tape.trans b1.tape, g5.output.trans b1.output, Nat.le_trans b1.size g5.size, fun k hk hne => (g5.block k (Nat.lt_of_lt_of_le hk b1.size) hne).trans (b1.block k hk)⟩
  · intro j hj
    rcases q5 with h | h
    · exact .inl (h ▸ hj)
    · rw [h] at hj
      have := Option.some.inj hj
      rw [size_alloc] at this
      exact .inr (by omega)
theorem app_item (w : World) (base : Nat) (v : Value) (l : List E) (x : E) (H : OwnE 38 w base v l) (hn : (l.length + 1) * 48 ≤ 140737488355328) (hbase : base ≤ w.heap.size) :
    ∃ v' w', (Builtin.append_ #[22, 22] 22 #[v, .slice (some ⟨w.heap.size, 0, none⟩) 1 1]).run Try.prog (w.alloc (.cells #[.string x.k, .int .u64 x.s, .int .i64 x.c, .string x.v] 38)) = .ok v' w' ∧ OwnE 38 w' base v' (l ++ [x]) ∧ w.grownBy w' v.ownBlock ∧ (∀ j, v'.ownBlock = some j → v.ownBlock = some j ∨ w.heap.size ≤ j) := by
  obtain ⟨i0, hi, hz0, hz1, hz2⟩ := info_parts info_item
  have b1 := box_below w (.cells #[.string x.k, .int .u64 x.s, .int .i64 x.c, .string x.v] 38)
  have H2 := OwnE.later H b1
  have n4 := new_at w (.cells #[.string x.k, .int .u64 x.s, .int .i64 x.c, .string x.v] 38)
  obtain ⟨v5, W5, r5, o5, g5, _, q5⟩ := run_append_own_at (P := Try.prog) (w.alloc (.cells #[.string x.k, .int .u64 x.s, .int .i64 x.c, .string x.v] 38)) base 22 22 38 i0 _ 4 48 Try.underlying22 hi hz0 hz1 hz2 rfl (by decide) v l.length _ H2 ⟨w.heap.size, 0, none⟩ 1 1 [.string x.k, .int .u64 x.s, .int .i64 x.c, .string x.v] rfl (by
    intro q u hq
    rw [addr_add, Nat.zero_add]
    exact cell_of n4 q u (by simpa using hq)) (by intro u hu; simp at hu; rcases hu with rfl | rfl | rfl | rfl <;> rfl) (by unfold maxLen; omega) (by omega) (by rw [size_alloc]; omega)
  refine ⟨v5, W5, r5, ?_, ?_, ?_⟩
  · unfold OwnE
    rw [List.length_append, ecs_append]
    exact o5
  · exact ⟨g5.os.trans b1.os, g5.tape.trans b1.tape, g5.output.trans b1.output, Nat.le_trans b1.size g5.size, fun k hk hne => (g5.block k (Nat.lt_of_lt_of_le hk b1.size) hne).trans (b1.block k hk)⟩
  · intro j hj
    rcases q5 with h | h
    · exact .inl (h ▸ hj)
    · rw [h] at hj
      have := Option.some.inj hj
      rw [size_alloc] at this
      exact .inr (by omega)
end Go.Proofs.Ytkanjbeijoeenaa.Mb

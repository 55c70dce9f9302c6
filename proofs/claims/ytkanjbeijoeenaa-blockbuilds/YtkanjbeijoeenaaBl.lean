/- How a block is laid, and the memory of a builder. -/
import Derived.Test.YtkanjbeijoeenaaMb
import Derived.Laws.IdiomCopy
namespace Go.Proofs.Ytkanjbeijoeenaa.Bl
open Go.ChangeShapes Go.WideShapes Go.ChangeAt Go.RowKit
open Go.Sort (grow)
open Go.Proofs.Ytkanjbeijoeenaa.By
open Go.Proofs.Ytkanjbeijoeenaa.Mb (hid box_below blk_lt new_at size_alloc cell_of fz_of set_of set_ne Fp gw own_blocks own_lt E ze At4 Ents OwnE drew_below drewN_below gw_low region_tail)
set_option linter.unusedVariables false
set_option linter.unusedSimpArgs false

/-- How many first bytes are alike. -/
def shr : List Int → List Int → Nat
  | x :: l, y :: r => if x = y then shr l r + 1 else 0
  | _, _ => 0
theorem shr_le : ∀ a b : List Int, shr a b ≤ a.length ∧ shr a b ≤ b.length
  | [], b => by simp [shr]
  | _ :: _, [] => by simp [shr]
  | x :: l, y :: r => by
    have := shr_le l r
    simp only [shr]; split <;> simp <;> omega
theorem shr_take : ∀ a b : List Int, a.take (shr a b) = b.take (shr a b)
  | [], b => by simp [shr]
  | _ :: _, [] => by simp [shr]
  | x :: l, y :: r => by
    have := shr_take l r
    simp only [shr]
    split
    · rename_i h; subst h; simp [this]
    · simp
theorem shr_is : ∀ (a b : List Int) (n : Nat), n ≤ a.length → n ≤ b.length → (∀ i, i < n → a.getD i 0 = b.getD i 0) → (n < a.length → n < b.length → a.getD n 0 ≠ b.getD n 0) → shr a b = n
  | [], b, n, h1, _, _, _ => by simp at h1; subst h1; simp [shr]
  | x :: l, [], n, _, h2, _, _ => by simp at h2; subst h2; simp [shr]
  | x :: l, y :: r, 0, _, _, _, h4 => by
    have := h4 (by simp) (by simp)
    simp at this
    simp [shr, this]
  | x :: l, y :: r, n + 1, h1, h2, h3, h4 => by
    have e := h3 0 (by omega)
    simp at e
    have := shr_is l r n (by simpa using h1) (by simpa using h2) (fun i hi => by have := h3 (i + 1) (by omega); simpa using this) (fun a b => by have := h4 (by simpa using a) (by simpa using b); simpa using this)
    simp [shr, e, this]
/-- What a builder holds: restart, entries' bytes, the restarts' places, how many, the last key's bytes. -/
structure BS where
  r : Nat
  ent : List Int
  pl : List Nat
  cnt : Nat
  last : List Int
def shd (S : BS) (kz : List Int) : Nat := if S.cnt % S.r = 0 then 0 else shr S.last kz
/-- An entry's bytes. -/
def eb (sh : Nat) (kz : List Int) (v : ByteArray) : List Int := Vb.vb (sh : Int) ++ Vb.vb ((kz.length - sh : Nat) : Int) ++ Vb.vb (v.size : Int) ++ kz.drop sh ++ tx v
def plS (S : BS) : List Nat := if S.cnt % S.r = 0 then S.pl ++ [S.ent.length] else S.pl
/-- One entry more. -/
def stp (S : BS) (kz : List Int) (v : ByteArray) : BS := ⟨S.r, S.ent ++ eb (shd S kz) kz v, plS S, S.cnt + 1, kz⟩

/-- Rows of bytes and of ints of the call's own, nil ones among them. -/
def OwnB (w : World) (base : Nat) (v : Value) (xs : List Int) : Prop := w.ownsRow base 5 1 v xs.length (xs.map (Value.int .u8))
def OwnN (w : World) (base : Nat) (v : Value) (xs : List Nat) : Prop := w.ownsRow base 3 1 v xs.length (xs.map fun n : Nat => Value.int .i64 (n : Int))
theorem OwnB.later {w w' : World} {base : Nat} {v : Value} {xs : List Int} (h : OwnB w base v xs) (b : Below w.heap.size w w') : OwnB w' base v xs := own_blocks h (fun j hj => b.block j (own_lt h j hj).2)
theorem OwnN.later {w w' : World} {base : Nat} {v : Value} {xs : List Nat} (h : OwnN w base v xs) (b : Below w.heap.size w w') : OwnN w' base v xs := own_blocks h (fun j hj => b.block j (own_lt h j hj).2)
theorem OwnB.shape {w : World} {base : Nat} {v : Value} {xs : List Int} (h : OwnB w base v xs) : ∃ a c, v = .slice a xs.length c ∧ (a = none → xs.length = 0 ∧ c = 0) ∧ (∀ x, a = some x → x = ⟨x.block, 0, none⟩ ∧ v.ownBlock = some x.block) ∧ xs.length ≤ c := by
  rcases h.2 with ⟨e, h0⟩ | ⟨g, c, cur, e, hb, hg, hn, hm, hs, ht⟩
  · exact ⟨none, 0, by rw [e, h0], fun _ => ⟨h0, rfl⟩, fun x hx => (by cases hx), by omega⟩
  · exact ⟨some ⟨g, 0, none⟩, c, e, fun e => (by cases e), fun x hx => by cases hx; exact ⟨rfl, by rw [e]; rfl⟩, hn⟩
theorem OwnB.bytes {w : World} {base : Nat} {a : Option Addr} {n c : Nat} {xs : List Int} (h : OwnB w base (.slice a n c) xs) (hb : ∀ y ∈ xs, 0 ≤ y ∧ y ≤ 255) : Bytes w a n c xs := by
  rcases h.2 with ⟨e, h0⟩ | ⟨g, c', cur, e, _⟩
  · cases e
    have : xs = [] := List.eq_nil_of_length_eq_zero h0
    subst this
    exact nil_bytes w
  · cases e
    exact Row.bytes h hb
theorem info_int : (Try.prog.info? 3).map (fun i => (i.zero, i.size, i.bytes)) = some (some (.int .i64 0), 1, 8) := by kernel_rfl
/-- append of bytes onto a row of the call's own. -/
theorem app_bytes (w : World) (base : Nat) (v : Value) (xs : List Int) (H : OwnB w base v xs) (a : Addr) (m c : Nat) (ys : List Int) (hy : ys.length = m) (hc : ∀ i, i < m → w.cell? (a.add i) = some (.int .u8 (ys.getD i 0))) (hn : xs.length + m ≤ 70368744177664) (hbase : base ≤ w.heap.size) :
    ∃ v' w', (Builtin.append_ #[28, 28] 28 #[v, .slice (some a) m c]).run Try.prog w = .ok v' w' ∧ OwnB w' base v' (xs ++ ys) ∧ w.grownBy w' v.ownBlock ∧ (v'.ownBlock = v.ownBlock ∨ v'.ownBlock = some w.heap.size) := by
  obtain ⟨i0, hi, hz0, hz1, hz2⟩ := info_parts info5
  obtain ⟨v5, W5, r5, o5, g5, _, q5⟩ := run_append_own_at (P := Try.prog) w base 28 28 5 i0 (.int .u8 0) 1 1 Try.underlying28 hi hz0 hz1 hz2 rfl (by decide) v xs.length _ H a m c (ys.map (Value.int .u8)) (by simp [hy]) (by
    intro q u hq
    rw [List.getElem?_map] at hq
    cases hj : ys[q]? with
    | none => rw [hj] at hq; simp at hq
    | some y =>
      rw [hj] at hq
      simp at hq
      have hlt : q < ys.length := (List.getElem?_eq_some_iff.1 hj).1
      have := hc q (by omega)
      rw [List.getD_eq_getElem?_getD, hj] at this
      rw [← hq]; exact this) (one_cell ys) (by unfold maxLen; omega) (by omega) hbase
  refine ⟨v5, W5, r5, ?_, g5, q5⟩
  unfold OwnB
  rw [List.length_append, List.map_append, hy]
  exact o5
/-- append of a text onto a row of the call's own that is not nil. -/
theorem app_text (w : World) (base g n cap : Nat) (xs : List Int) (R : Row w base g n cap xs) (s : ByteArray) (hn : n + s.size ≤ 70368744177664) (hbase : base ≤ w.heap.size) :
    ∃ v' w', (Builtin.append_ #[28, 9] 28 #[.slice (some ⟨g, 0, none⟩) n cap, .string s]).run Try.prog w = .ok v' w' ∧ OwnB w' base v' (xs ++ tx s) ∧ w.grownBy w' (some g) ∧ (v'.ownBlock = some g ∨ v'.ownBlock = some w.heap.size) := by
  have hl : (xs ++ tx s).length = n + s.size := by rw [List.length_append, tx_len, R.len]
  by_cases h : n + s.size ≤ cap
  · obtain ⟨W', r, R', g'⟩ := app_fits R s h
    exact ⟨_, W', r, by unfold OwnB; rw [hl]; exact R', g', .inl rfl⟩
  · obtain ⟨c', W', r, R', g'⟩ := app_grows R s h (by omega) hbase
    exact ⟨_, W', r, by unfold OwnB; rw [hl]; exact R', grown_none g', .inr rfl⟩
/-- append of one int. -/
theorem app_nat (w : World) (base : Nat) (v : Value) (xs : List Nat) (x : Nat) (H : OwnN w base v xs) (hn : xs.length + 1 ≤ 1000000000000) (hbase : base ≤ w.heap.size) :
    ∃ v' w', (Builtin.append_ #[49, 49] 49 #[v, .slice (some ⟨w.heap.size, 0, none⟩) 1 1]).run Try.prog (w.alloc (.cells #[.int .i64 (x : Int)] 3)) = .ok v' w' ∧ OwnN w' base v' (xs ++ [x]) ∧ w.grownBy w' v.ownBlock ∧ (v'.ownBlock = v.ownBlock ∨ v'.ownBlock = some (w.heap.size + 1)) := by
  obtain ⟨i0, hi, hz0, hz1, hz2⟩ := info_parts info_int
  have b1 := box_below w (.cells #[.int .i64 (x : Int)] 3)
  have n4 := new_at w (.cells #[.int .i64 (x : Int)] 3)
  obtain ⟨v5, W5, r5, o5, g5, _, q5⟩ := run_append_own_at (P := Try.prog) (w.alloc (.cells #[.int .i64 (x : Int)] 3)) base 49 49 3 i0 (.int .i64 0) 1 8 Try.underlying49 hi hz0 hz1 hz2 rfl (by decide) v xs.length _ (H.later b1) ⟨w.heap.size, 0, none⟩ 1 1 [.int .i64 (x : Int)] rfl (by
    intro q u hq
    rw [addr_add, Nat.zero_add]
    exact cell_of n4 q u (by simpa using hq)) (by intro u hu; simp at hu; subst hu; rfl) (by unfold maxLen; omega) (by omega) (by rw [size_alloc]; omega)
  refine ⟨v5, W5, r5, ?_, ?_, by rw [size_alloc] at q5; exact q5⟩
  · unfold OwnN
    rw [List.length_append, List.map_append]
    exact o5
  · exact ⟨g5.os.trans b1.os, g5.tape.trans b1.tape, g5.output.trans b1.output, Nat.le_trans b1.size g5.size, fun k hk hne => (g5.block k (Nat.lt_of_lt_of_le hk b1.size) hne).trans (b1.block k hk)⟩

/-- A builder's five cells. -/
def bc (S : BS) (ve vp : Value) (gl : Nat) : Array Value := #[.int .i64 (S.r : Int), ve, vp, .int .i64 (S.cnt : Int), .slice (some ⟨gl, 0, none⟩) S.last.length 1032]
/-- A builder: its block, its rows; all of its memory is in P. -/
structure Bt (w : World) (base g gl : Nat) (ve vp : Value) (P : Nat → Prop) (S : BS) : Prop where
  blk : w.heap[g]? = some (.cells (bc S ve vp gl) 51)
  oe : OwnB w base ve S.ent
  op : OwnN w base vp S.pl
  ol : Row w base gl S.last.length 1032 S.last
  pg : P g
  pl : P gl
  pe : ∀ j, ve.ownBlock = some j → P j ∧ j ≠ g ∧ j ≠ gl
  pp : ∀ j, vp.ownBlock = some j → P j ∧ j ≠ g ∧ j ≠ gl ∧ ve.ownBlock ≠ some j
  low : ∀ j, P j → base ≤ j ∧ j < w.heap.size
  ne : g ≠ gl
  r : 1 ≤ S.r ∧ S.r ≤ 64
  bt : ∀ y ∈ S.last, 0 ≤ y ∧ y ≤ 255
theorem Bt.later {w w' : World} {base g gl : Nat} {ve vp : Value} {P : Nat → Prop} {S : BS} (h : Bt w base g gl ve vp P S) (b : Below w.heap.size w w') : Bt w' base g gl ve vp P S :=
  ⟨(b.block g (blk_lt h.blk)).trans h.blk, h.oe.later b, h.op.later b, row_below h.ol b, h.pg, h.pl, h.pe, h.pp, fun j hj => ⟨(h.low j hj).1, Nat.lt_of_lt_of_le (h.low j hj).2 b.size⟩, h.ne, h.r, h.bt⟩
theorem Bt.wide {w : World} {base g gl : Nat} {ve vp : Value} {P Q : Nat → Prop} {S : BS} (h : Bt w base g gl ve vp P S) (hpq : ∀ j, P j → Q j) (hq : ∀ j, Q j → base ≤ j ∧ j < w.heap.size) : Bt w base g gl ve vp Q S :=
  ⟨h.blk, h.oe, h.op, h.ol, hpq _ h.pg, hpq _ h.pl, fun j hj => ⟨hpq _ (h.pe j hj).1, (h.pe j hj).2⟩, fun j hj => ⟨hpq _ (h.pp j hj).1, (h.pp j hj).2⟩, hq, h.ne, h.r, h.bt⟩
/-- Blocks of another, outside P, turn: the builder stays. -/
theorem Bt.fp {w w' : World} {base g gl : Nat} {ve vp : Value} {P Q : Nat → Prop} {S : BS} (h : Bt w base g gl ve vp P S) (f : Fp Q w w') (hq : ∀ j, P j → ¬ Q j) : Bt w' base g gl ve vp P S := by
  have e : ∀ j, P j → w'.heap[j]? = w.heap[j]? := fun j hj => f.block j (h.low j hj).2 (hq j hj)
  refine ⟨(e g h.pg).trans h.blk, own_blocks h.oe (fun j hj => e j (h.pe j hj).1), own_blocks h.op (fun j hj => e j (h.pp j hj).1), own_blocks h.ol (fun j hj => ?_), h.pg, h.pl, h.pe, h.pp, fun j hj => ⟨(h.low j hj).1, Nat.lt_of_lt_of_le (h.low j hj).2 f.size⟩, h.ne, h.r, h.bt⟩
  have : j = gl := by simpa [Value.ownBlock] using hj.symm
  rw [this]; exact e gl h.pl
theorem gw_lows {w w' : World} {base : Nat} {P : Nat → Prop} (hs : w.heap.size ≤ w'.heap.size) (hb : base ≤ w.heap.size) (h : ∀ j, P j → base ≤ j ∧ j < w.heap.size) : ∀ j, gw P w w' j → base ≤ j ∧ j < w'.heap.size := gw_low hb hs h
/-- Its entries' row grew, and the cell was set. -/
theorem Bt.ents {w w' : World} {base g gl : Nat} {ve vp v' : Value} {P : Nat → Prop} {S : BS} {xs : List Int} (h : Bt w base g gl ve vp P S) (hb : base ≤ w.heap.size) (k : w.grownBy w' ve.ownBlock) (ho : OwnB w' base v' xs) (hv : v'.ownBlock = ve.ownBlock ∨ ∃ j, v'.ownBlock = some j ∧ w.heap.size ≤ j) :
    Bt (w'.setCell ⟨g, 1, none⟩ v') base g gl v' vp (gw P w w') { S with ent := xs } ∧ Fp P w (w'.setCell ⟨g, 1, none⟩ v') := by
  have hgb : w'.heap[g]? = w.heap[g]? := k.block g (blk_lt h.blk) (fun e => by have := h.pe g e.symm; omega)
  have hlb : w'.heap[gl]? = w.heap[gl]? := k.block gl (h.ol.lt).2 (fun e => by have := h.pe gl e.symm; omega)
  have hpb : ∀ j, vp.ownBlock = some j → w'.heap[j]? = w.heap[j]? := fun j hj => k.block j (own_lt h.op j hj).2 (fun e => (h.pp j hj).2.2.2 e.symm)
  have hve : ∀ j, v'.ownBlock = some j → j ≠ g ∧ j ≠ gl ∧ gw P w w' j ∧ vp.ownBlock ≠ some j := by
    intro j hj
    rcases hv with e | ⟨j', e, hge⟩
    · rw [e] at hj
      exact ⟨(h.pe j hj).2.1, (h.pe j hj).2.2, .inl (h.pe j hj).1, fun hp => (h.pp j hp).2.2.2 hj⟩
    · rw [e] at hj
      cases hj
      have h1 := blk_lt h.blk
      have h2 := h.ol.lt.2
      refine ⟨by omega, by omega, .inr ⟨hge, (own_lt ho j e).2⟩, fun hp => ?_⟩
      have := (own_lt h.op j hp).2
      omega
  refine ⟨⟨?_, ?_, ?_, ?_, .inl h.pg, .inl h.pl, ?_, ?_, ?_, h.ne, h.r, h.bt⟩, ?_⟩
  · exact set_of (hgb.trans h.blk) 1 v'
  · exact own_blocks ho (fun j hj => set_ne _ _ _ _ _ (hve j hj).1)
  · exact own_blocks h.op (fun j hj => (set_ne _ _ _ _ _ (h.pp j hj).2.1).trans (hpb j hj))
  · exact own_blocks h.ol (fun j hj => by
      have : j = gl := by simpa [Value.ownBlock] using hj.symm
      rw [this]; exact (set_ne _ _ _ _ _ (Ne.symm h.ne)).trans hlb)
  · intro j hj; exact ⟨(hve j hj).2.2.1, (hve j hj).1, (hve j hj).2.1⟩
  · intro j hj; exact ⟨.inl (h.pp j hj).1, (h.pp j hj).2.1, (h.pp j hj).2.2.1, fun e => (hve j e).2.2.2 hj⟩
  · intro j hj; simpa using gw_lows k.size hb h.low j hj
  · exact ((Fp.refl P w).grown k (fun j hj => .inl (h.pe j hj).1)).set (.inl h.pg) 1 v'
/-- Its places' row grew, and the cell was set. -/
theorem Bt.plcs {w w' : World} {base g gl : Nat} {ve vp v' : Value} {P : Nat → Prop} {S : BS} {xs : List Nat} (h : Bt w base g gl ve vp P S) (hb : base ≤ w.heap.size) (k : w.grownBy w' vp.ownBlock) (ho : OwnN w' base v' xs) (hv : v'.ownBlock = vp.ownBlock ∨ ∃ j, v'.ownBlock = some j ∧ w.heap.size ≤ j) :
    Bt (w'.setCell ⟨g, 2, none⟩ v') base g gl ve v' (gw P w w') { S with pl := xs } ∧ Fp P w (w'.setCell ⟨g, 2, none⟩ v') := by
  have hgb : w'.heap[g]? = w.heap[g]? := k.block g (blk_lt h.blk) (fun e => by have := h.pp g e.symm; omega)
  have hlb : w'.heap[gl]? = w.heap[gl]? := k.block gl (h.ol.lt).2 (fun e => by have := h.pp gl e.symm; omega)
  have heb : ∀ j, ve.ownBlock = some j → w'.heap[j]? = w.heap[j]? := fun j hj => k.block j (own_lt h.oe j hj).2 (fun e => (h.pp j e.symm).2.2.2 hj)
  have hve : ∀ j, v'.ownBlock = some j → j ≠ g ∧ j ≠ gl ∧ gw P w w' j ∧ ve.ownBlock ≠ some j := by
    intro j hj
    rcases hv with e | ⟨j', e, hge⟩
    · rw [e] at hj
      exact ⟨(h.pp j hj).2.1, (h.pp j hj).2.2.1, .inl (h.pp j hj).1, (h.pp j hj).2.2.2⟩
    · rw [e] at hj
      cases hj
      have h1 := blk_lt h.blk
      have h2 := h.ol.lt.2
      refine ⟨by omega, by omega, .inr ⟨hge, (own_lt ho j e).2⟩, fun hp => ?_⟩
      have := (own_lt h.oe j hp).2
      omega
  refine ⟨⟨?_, ?_, ?_, ?_, .inl h.pg, .inl h.pl, ?_, ?_, ?_, h.ne, h.r, h.bt⟩, ?_⟩
  · exact set_of (hgb.trans h.blk) 2 v'
  · exact own_blocks h.oe (fun j hj => (set_ne _ _ _ _ _ (h.pe j hj).2.1).trans (heb j hj))
  · exact own_blocks ho (fun j hj => set_ne _ _ _ _ _ (hve j hj).1)
  · exact own_blocks h.ol (fun j hj => by
      have : j = gl := by simpa [Value.ownBlock] using hj.symm
      rw [this]; exact (set_ne _ _ _ _ _ (Ne.symm h.ne)).trans hlb)
  · intro j hj; exact ⟨.inl (h.pe j hj).1, (h.pe j hj).2⟩
  · intro j hj; exact ⟨(hve j hj).2.2.1, (hve j hj).1, (hve j hj).2.1, (hve j hj).2.2.2⟩
  · intro j hj; simpa using gw_lows k.size hb h.low j hj
  · exact ((Fp.refl P w).grown k (fun j hj => .inl (h.pp j hj).1)).set (.inl h.pg) 2 v'
/-- The count's cell was set. -/
theorem Bt.count {w : World} {base g gl : Nat} {ve vp : Value} {P : Nat → Prop} {S : BS} (h : Bt w base g gl ve vp P S) (n : Nat) :
    Bt (w.setCell ⟨g, 3, none⟩ (.int .i64 (n : Int))) base g gl ve vp P { S with cnt := n } ∧ Fp P w (w.setCell ⟨g, 3, none⟩ (.int .i64 (n : Int))) := by
  refine ⟨⟨set_of h.blk 3 _, own_blocks h.oe (fun j hj => set_ne _ _ _ _ _ (h.pe j hj).2.1), own_blocks h.op (fun j hj => set_ne _ _ _ _ _ (h.pp j hj).2.1), own_blocks h.ol (fun j hj => ?_), h.pg, h.pl, h.pe, h.pp, fun j hj => by simpa using h.low j hj, h.ne, h.r, h.bt⟩, (Fp.refl P w).set (.inl h.pg) 3 _⟩
  have : j = gl := by simpa [Value.ownBlock] using hj.symm
  rw [this]; exact set_ne _ _ _ _ _ (Ne.symm h.ne)
theorem setCells_ne (g : Nat) : ∀ (vs : List Value) (o : Nat) (w : World) (j : Nat), j ≠ g → (w.setCells g o vs).heap[j]? = w.heap[j]?
  | [], _, _, _, _ => rfl
  | v :: r, o, w, j, h => by rw [World.setCells, setCells_ne g r _ _ j h]; exact set_ne _ _ _ _ _ h
theorem setCells_size (g : Nat) : ∀ (vs : List Value) (o : Nat) (w : World), (w.setCells g o vs).heap.size = w.heap.size
  | [], _, _ => rfl
  | v :: r, o, w => by rw [World.setCells, setCells_size g r]; simp
/-- The last key was written over. -/
theorem Bt.keep {w : World} {base g gl : Nat} {ve vp : Value} {P : Nat → Prop} {S : BS} (h : Bt w base g gl ve vp P S) (kz : List Int) (hk : kz.length ≤ 1032) (hb : ∀ y ∈ kz, 0 ≤ y ∧ y ≤ 255) (a : Addr) (n c : Nat) (hn : kz.length = n) (hne : a.block ≠ g ∧ a.block ≠ gl) (hs : ∀ i, i < n → w.cell? (a.add i) = some (.int .u8 (kz.getD i 0))) :
    ∃ w1, (Builtin.copy_ #[28, 28] 3 #[.slice (some ⟨gl, 0, none⟩) n 1032, .slice (some a) n c]).run Try.prog (w.setCell ⟨g, 4, none⟩ (.slice (some ⟨gl, 0, none⟩) n 1032)) = .ok (goInt n) w1 ∧
      Bt w1 base g gl ve vp P { S with last := kz } ∧ Fp P w w1 := by
  obtain ⟨i0, hi, hz0, hz1, hz2⟩ := info_parts info5
  obtain ⟨W, hW⟩ : ∃ W, W = w.setCell ⟨g, 4, none⟩ (.slice (some ⟨gl, 0, none⟩) n 1032) := ⟨_, rfl⟩
  have eW : ∀ j, j ≠ g → W.heap[j]? = w.heap[j]? := fun j hj => by rw [hW]; exact set_ne _ _ _ _ _ hj
  have olW : Row W base gl S.last.length 1032 S.last := own_blocks h.ol (fun j hj => by
      have : j = gl := by simpa [Value.ownBlock] using hj.symm
      rw [this]; exact eW gl (Ne.symm h.ne))
  obtain ⟨ys, hfull, hyt, hle⟩ := full olW
  have hl : ys.length = 1032 := by have := hfull.1; omega
  have st := stored_many (kz.map (Value.int .u8)) 0 ys W hfull (by simp; omega)
  have hcell : ∀ i, i < n → W.cell? (a.add i) = some (.int .u8 (kz.getD i 0)) := by
    intro i hi'
    have h1 := hs i hi'
    have hbk : (a.add i).block = a.block := by unfold Addr.add; split <;> rfl
    unfold World.cell? at h1 ⊢
    rw [hbk, eW _ hne.1]
    rw [hbk] at h1
    exact h1
  have run := run_copy_cells (P := Try.prog) W 28 28 3 5 gl 0 n 1032 a n c (kz.map (Value.int .u8)) Try.underlying28 (by rw [hi]; simp [hz1]) (by simp [hn]) (by
      intro q u hq
      rw [List.getElem?_map] at hq
      cases hj : kz[q]? with
      | none => rw [hj] at hq; simp at hq
      | some y =>
        rw [hj] at hq
        simp at hq
        have hlt : q < kz.length := (List.getElem?_eq_some_iff.1 hj).1
        have := hcell q (by omega)
        rw [List.getD_eq_getElem?_getD, hj] at this
        rw [← hq]; exact this)
    (by intro j hj; simp at hj; rw [Nat.zero_add, World.ownsRow.cellAt hfull _ (by omega), List.getElem?_eq_getElem (by omega)]; rfl)
    (by intro j hj; exact World.ownsRow.frozenAt hfull _) (one_cell kz)
  rw [List.length_map, hn] at run
  refine ⟨_, by rw [← hW]; exact run, ?_, ?_⟩
  · have hgn : ∀ j, j ≠ gl → (W.setCells gl 0 (kz.map (Value.int .u8))).heap[j]? = W.heap[j]? := fun j hj => setCells_ne gl _ _ _ _ hj
    refine ⟨?_, own_blocks h.oe (fun j hj => (hgn j (h.pe j hj).2.2).trans (eW j (h.pe j hj).2.1)), own_blocks h.op (fun j hj => (hgn j (h.pp j hj).2.2.1).trans (eW j (h.pp j hj).2.1)), ?_, h.pg, h.pl, h.pe, h.pp, ?_, h.ne, h.r, hb⟩
    · rw [hgn g h.ne, hW]
      have := set_of h.blk 4 (.slice (some ⟨gl, 0, none⟩) n 1032)
      rw [this]
      simp [bc, hn]
    · have c := cut st.1 (n := kz.length) (by omega)
      have e : ((ys.take 0 ++ (kz.map (Value.int .u8) ++ ys.drop (0 + (kz.map (Value.int .u8)).length))).take kz.length) = kz.map (Value.int .u8) := by
        rw [List.take_zero, List.nil_append]
        exact List.take_left' (by simp)
      rw [e] at c
      exact c
    · intro j hj
      rw [setCells_size, hW]
      simpa using h.low j hj
  · have f1 : Fp P w W := by rw [hW]; exact (Fp.refl P w).set (.inl h.pg) 4 _
    exact f1.grown st.2 (fun j hj => .inl (by cases hj; exact h.pl))
end Go.Proofs.Ytkanjbeijoeenaa.Bl

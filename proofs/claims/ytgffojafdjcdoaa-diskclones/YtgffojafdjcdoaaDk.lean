/- A disk that New or Clone gave, in memory. -/
import Derived.Test.YtgffojafdjcdoaaMp
namespace Go.Proofs.Ytgffojafdjcdoaa.Dk
open Go.ChangeShapes Go.WideShapes Go.ChangeAt Go.RowKit Go.Maps
open Go.Proofs.Ytgffojafdjcdoaa.By
open Go.Proofs.Ytgffojafdjcdoaa.Ln
open Go.Proofs.Ytgffojafdjcdoaa.Mp
set_option linter.unusedVariables false

/-- What a disk has. -/
structure St where
  fs : Fs
  q : Int
  af : Int
  ct : Int
  rf : Int
structure St.ok (S : St) : Prop where
  q : 0 ≤ S.q ∧ S.q ≤ 268435456
  af : 0 ≤ S.af ∧ S.af ≤ 9223372036854775807
  ct : 0 ≤ S.ct ∧ S.ct ≤ 9223372036854775807
  rf : 0 ≤ S.rf ∧ S.rf ≤ 4611686018427387904
  len : S.fs.length ≤ 4096
  used : used S.fs ≤ 268435456
  name : ∀ p ∈ S.fs, 1 ≤ p.1.length ∧ p.1.length ≤ 64
def St.cells (S : St) (b : Nat) : Array Value := #[.map (some b), .int .i64 S.q, .int .i64 S.af, .int .i64 S.ct, .int .i64 S.rf]
def ownB (w : World) (base : Nat) (f : Fl) : Prop := w.ownsRow base 5 1 f.sl f.zs.length (f.zs.map (Value.int .u8))
/-- The files' bytes. -/
structure Mem (w : World) (base : Nat) (P : Nat → Prop) (fs : Fs) : Prop where
  row : ∀ p ∈ fs, ownB w base p.2
  bytes : ∀ p ∈ fs, ∀ y ∈ p.2.zs, 0 ≤ y ∧ y ≤ 255
  lasts : ∀ p ∈ fs, p.2.k ≤ p.2.zs.length
  apart : ∀ p ∈ fs, ∀ r ∈ fs, ∀ j, p.2.sl.ownBlock = some j → r.2.sl.ownBlock = some j → p.1 = r.1
  mem : ∀ p ∈ fs, ∀ j, p.2.sl.ownBlock = some j → P j
/-- A disk at block g, its map at block b, all of its memory in P. -/
structure Disk (w : World) (base g b : Nat) (P : Nat → Prop) (S : St) : Prop where
  cells : w.heap[g]? = some (.cells (S.cells b) 50 (0, 0))
  map : ∃ D, w.ownsMap Try.prog 9 heldR b S.fs.length D ∧ Rep D S.fs
  mem : Mem w base P S.fs
  ok : S.ok
  pg : P g
  pb : P b
  low : ∀ j, P j → base ≤ j ∧ j < w.heap.size
/-- Nothing of what was there has turned but blocks of P. -/
structure Fr (P : Nat → Prop) (w w' : World) : Prop where
  os : w'.os = w.os
  tape : w'.tape = w.tape
  output : w'.output = w.output
  size : w.heap.size ≤ w'.heap.size
  block : ∀ j, j < w.heap.size → ¬ P j → w'.heap[j]? = w.heap[j]?
def grow (P : Nat → Prop) (w w' : World) : Nat → Prop := fun j => P j ∨ (w.heap.size ≤ j ∧ j < w'.heap.size)
theorem Fr.refl (P : Nat → Prop) (w : World) : Fr P w w := ⟨rfl, rfl, rfl, Nat.le_refl _, fun _ _ _ => rfl⟩
theorem Fr.below {P : Nat → Prop} {w w1 w2 : World} (h : Fr P w w1) (b : Below w1.heap.size w1 w2) : Fr P w w2 :=
  ⟨b.os.trans h.os, b.tape.trans h.tape, b.output.trans h.output, Nat.le_trans h.size b.size, fun j hj hp => (b.block j (Nat.lt_of_lt_of_le hj h.size)).trans (h.block j hj hp)⟩
theorem Fr.grown {P : Nat → Prop} {w w1 w2 : World} {row : Option Nat} (h : Fr P w w1) (b : w1.grownBy w2 row) (hr : ∀ j, row = some j → P j ∨ w.heap.size ≤ j) : Fr P w w2 :=
  ⟨b.os.trans h.os, b.tape.trans h.tape, b.output.trans h.output, Nat.le_trans h.size b.size, fun j hj hp => (b.block j (Nat.lt_of_lt_of_le hj h.size) (fun e => by rcases hr j e.symm with h1 | h1; exact hp h1; omega)).trans (h.block j hj hp)⟩
theorem Fr.set {P : Nat → Prop} {w w1 : World} (h : Fr P w w1) {g : Nat} (hr : P g ∨ w.heap.size ≤ g) (i : Nat) (v : Value) : Fr P w (w1.setCell ⟨g, i, none⟩ v) :=
  ⟨h.os, h.tape, h.output, by simpa using h.size, fun j hj hp => (Below.heap_setCell w1 _ _ j (fun e => by rcases hr with h1 | h1; exact hp (by rw [show j = g from e]; exact h1); have : j = g := e; omega)).trans (h.block j hj hp)⟩
theorem Fr.trans {P : Nat → Prop} {w w1 w2 : World} (h : Fr P w w1) (k : Fr (grow P w w1) w1 w2) : Fr P w w2 :=
  ⟨k.os.trans h.os, k.tape.trans h.tape, k.output.trans h.output, Nat.le_trans h.size k.size, fun j hj hp => (k.block j (Nat.lt_of_lt_of_le hj h.size) (fun e => by rcases e with e | e; exact hp e; omega)).trans (h.block j hj hp)⟩
theorem Fr.drew {P : Nat → Prop} {w w1 : World} (h : Fr P w w1) (n : Nat) : Fr P w (w1.drewN n) := h.below ⟨rfl, rfl, rfl, Nat.le_refl _, fun _ _ => rfl⟩
theorem grow_grow {P : Nat → Prop} {w w1 w2 : World} (h : w.heap.size ≤ w1.heap.size) (k : w1.heap.size ≤ w2.heap.size) : grow (grow P w w1) w1 w2 = grow P w w2 := by
  funext j
  unfold grow
  apply propext
  constructor
  · rintro ((h1 | h1) | h1)
    · exact .inl h1
    · exact .inr ⟨h1.1, by omega⟩
    · exact .inr ⟨by omega, h1.2⟩
  · rintro (h1 | h1)
    · exact .inl (.inl h1)
    · by_cases e : j < w1.heap.size
      · exact .inl (.inr ⟨h1.1, e⟩)
      · exact .inr ⟨by omega, h1.2⟩
/-- Blocks of P are as they were but for one. -/
structure Kp (P : Nat → Prop) (row : Option Nat) (w w' : World) : Prop where
  size : w.heap.size ≤ w'.heap.size
  block : ∀ j, P j → some j ≠ row → w'.heap[j]? = w.heap[j]?
theorem Kp.refl (P : Nat → Prop) (w : World) (row : Option Nat) : Kp P row w w := ⟨Nat.le_refl _, fun _ _ _ => rfl⟩
theorem Kp.below {P : Nat → Prop} {row : Option Nat} {w w1 w2 : World} (h : Kp P row w w1) (hp : ∀ j, P j → j < w.heap.size) (b : Below w1.heap.size w1 w2) : Kp P row w w2 :=
  ⟨Nat.le_trans h.size b.size, fun j hj hr => (b.block j (Nat.lt_of_lt_of_le (hp j hj) h.size)).trans (h.block j hj hr)⟩
theorem Kp.grown {P : Nat → Prop} {row : Option Nat} {w w1 w2 : World} (h : Kp P row w w1) (hp : ∀ j, P j → j < w.heap.size) (b : w1.grownBy w2 row) : Kp P row w w2 :=
  ⟨Nat.le_trans h.size b.size, fun j hj hr => (b.block j (Nat.lt_of_lt_of_le (hp j hj) h.size) hr).trans (h.block j hj hr)⟩
theorem Kp.set {P : Nat → Prop} {row : Option Nat} {w w1 : World} (h : Kp P row w w1) {g : Nat} (hr : ¬ P g ∨ some g = row) (i : Nat) (v : Value) : Kp P row w (w1.setCell ⟨g, i, none⟩ v) :=
  ⟨by simpa using h.size, fun j hj hn => (Below.heap_setCell w1 _ _ j (fun e => by have e2 : j = g := e; subst e2; rcases hr with h1 | h1; exact h1 hj; exact hn h1)).trans (h.block j hj hn)⟩
theorem own_of_block {w w' : World} {base : Nat} {f : Fl} (h : ownB w base f) (hb : ∀ j, f.sl.ownBlock = some j → w'.heap[j]? = w.heap[j]?) : ownB w' base f := by
  refine ⟨h.1, ?_⟩
  rcases h.2 with h | ⟨g', cap', cur, e, hb', hg, hr⟩
  · exact .inl h
  · exact .inr ⟨g', cap', cur, e, hb', (hb g' (by rw [e]; rfl)).trans hg, hr⟩
theorem map_of_block {w w' : World} {b n : Nat} {D : DataW Value} (h : w.ownsMap Try.prog 9 heldR b n D) (hb : w'.heap[b]? = w.heap[b]?) : w'.ownsMap Try.prog 9 heldR b n D := by
  obtain ⟨es, clock, h1, h2⟩ := h
  exact ⟨es, clock, hb.trans h1, h2⟩
theorem Disk.gb {w : World} {base g b : Nat} {P : Nat → Prop} {S : St} (h : Disk w base g b P S) : g ≠ b := by
  intro e
  obtain ⟨D, ⟨es, clock, hb, _⟩, _⟩ := h.map
  have := h.cells
  rw [e, hb] at this
  simp at this
theorem Disk.kept {w w' : World} {base g b : Nat} {P P' : Nat → Prop} {S : St} (h : Disk w base g b P S) (k : Kp P none w w') (hP : ∀ j, P j → P' j) (hl : ∀ j, P' j → base ≤ j ∧ j < w'.heap.size) : Disk w' base g b P' S := by
  obtain ⟨D, hD, hR⟩ := h.map
  exact ⟨(k.block g h.pg (by simp)).trans h.cells, ⟨D, map_of_block hD (k.block b h.pb (by simp)), hR⟩,
    ⟨fun p hp => own_of_block (h.mem.row p hp) (fun j hj => k.block j (h.mem.mem p hp j hj) (by simp)), h.mem.bytes, h.mem.lasts, h.mem.apart, fun p hp j hj => hP j (h.mem.mem p hp j hj)⟩, h.ok, hP g h.pg, hP b h.pb, hl⟩
theorem Disk.plow {w : World} {base g b : Nat} {P : Nat → Prop} {S : St} (h : Disk w base g b P S) : ∀ j, P j → j < w.heap.size := fun j hj => (h.low j hj).2
theorem Disk.later {w w' : World} {base g b : Nat} {P : Nat → Prop} {S : St} (h : Disk w base g b P S) (k : Below w.heap.size w w') : Disk w' base g b P S :=
  h.kept ((Kp.refl P w none).below h.plow k) (fun _ hj => hj) (fun j hj => ⟨(h.low j hj).1, Nat.lt_of_lt_of_le (h.low j hj).2 k.size⟩)
theorem Disk.wide {w : World} {base g b : Nat} {P P' : Nat → Prop} {S : St} (h : Disk w base g b P S) (hP : ∀ j, P j → P' j) (hl : ∀ j, P' j → base ≤ j ∧ j < w.heap.size) : Disk w base g b P' S := h.kept (Kp.refl P w none) hP hl
theorem Disk.cell {w : World} {base g b : Nat} {P : Nat → Prop} {S : St} (h : Disk w base g b P S) (i : Nat) : w.cell? ⟨g, i, none⟩ = (S.cells b)[i]? := cell_of_row w g i _ 50 (0, 0) h.cells
theorem Disk.fz {w : World} {base g b : Nat} {P : Nat → Prop} {S : St} (h : Disk w base g b P S) (i : Nat) : w.frozen? ⟨g, i, none⟩ = false := by
  simp [World.frozen?, h.cells]
/-- A world in which the disk's own block holds other numbers. -/
theorem Disk.nums {w w' : World} {base g b : Nat} {P : Nat → Prop} {S : St} (h : Disk w base g b P S) (k : Kp P (some g) w w') (S' : St) (hfs : S'.fs = S.fs) (hc : w'.heap[g]? = some (.cells (S'.cells b) 50 (0, 0))) (hok : S'.ok) : Disk w' base g b P S' := by
  obtain ⟨D, hD, hR⟩ := h.map
  refine ⟨hc, ⟨D, ?_, by rw [hfs]; exact hR⟩, ?_, hok, h.pg, h.pb, fun j hj => ⟨(h.low j hj).1, Nat.lt_of_lt_of_le (h.low j hj).2 k.size⟩⟩
  · rw [hfs]
    exact map_of_block hD (k.block b h.pb (fun e => h.gb (by simpa using e.symm)))
  · rw [hfs]
    refine ⟨fun p hp => ?_, h.mem.bytes, h.mem.lasts, h.mem.apart, h.mem.mem⟩
    refine own_of_block (h.mem.row p hp) (fun j hj => k.block j (h.mem.mem p hp j hj) (fun e => ?_))
    have e2 : j = g := by simpa using e
    subst e2
    rcases (h.mem.row p hp).2 with ⟨e3, _⟩ | ⟨g', cap', cur, e3, _, hg, _⟩
    · rw [e3] at hj; cases hj
    · rw [e3] at hj
      have e4 : g' = j := by simpa [Value.ownBlock] using hj
      subst e4
      rw [h.cells] at hg
      simp at hg
theorem law : Keyed Try.prog 9 := string_keyed Try.underlying9
theorem key_mk (s : ByteArray) (h : s.size ≤ 64) : keyOf Try.prog 9 (.string s) = some (.string s.data.toList) := WideMaps.keyOf_string_mk Try.underlying9 (by unfold maxLen; omega)
theorem zeroF (w : World) : (zeroValue 83).run Try.prog w = .ok (.agg #[.slice none 0 0, .int .i64 0]) w := by kernel_rfl
/-- The look-up. -/
theorem Disk.run_look {w : World} {base g b : Nat} {P : Nat → Prop} {S : St} (h : Disk w base g b P S) (s : ByteArray) (hs : s.size ≤ 64) (c : Bool) :
    (Instr.lookup 46 (.map (some b)) (.string s) c).run Try.prog w = .ok (if c then .tuple #[((seek S.fs s.data.toList).map Fl.val).getD (.agg #[.slice none 0 0, .int .i64 0]), .bool (seek S.fs s.data.toList).isSome] else ((seek S.fs s.data.toList).map Fl.val).getD (.agg #[.slice none 0 0, .int .i64 0])) w := by
  obtain ⟨D, hD, hR⟩ := h.map
  have hv : ∀ v ps, heldR v = some (D.atKey (.string s.data.toList) (.held (.agg #[.slice none 0 0, .int .i64 0])), ps) → v = ((seek S.fs s.data.toList).map Fl.val).getD (.agg #[.slice none 0 0, .int .i64 0]) := by
    intro v ps hv
    have e : DataW.held v = D.atKey (.string s.data.toList) (.held (.agg #[.slice none 0 0, .int .i64 0])) := by
      have := Option.some.inj hv
      exact congrArg Prod.fst this
    cases hl : seek S.fs s.data.toList with
    | none => rw [hR.at_none hl] at e; simpa using e
    | some f => rw [hR.at hl] at e; simpa using e
  cases c with
  | false =>
    obtain ⟨v, ps, h1, h2⟩ := hD.lookup law Try.underlying46 (zeroF w) (zd := .held (.agg #[.slice none 0 0, .int .i64 0])) rfl (key_mk s hs)
    rw [h1, hv v ps h2]
    simp
  | true =>
    obtain ⟨v, ps, h1, h2⟩ := hD.look_ok law Try.underlying46 (zeroF w) (zd := .held (.agg #[.slice none 0 0, .int .i64 0])) rfl (key_mk s hs)
    rw [h1, hv v ps h2, hR.has]
    simp
theorem Disk.run_len {w : World} {base g b : Nat} {P : Nat → Prop} {S : St} (h : Disk w base g b P S) (ty : TypeId) : (Builtin.len_ #[46] ty #[.map (some b)]).run Try.prog w = .ok (.int .i64 (S.fs.length : Nat)) w := by
  obtain ⟨D, hD, hR⟩ := h.map
  rw [hD.len Try.underlying46, hR.size]
/-- A file taken away. -/
theorem Disk.run_drop {w : World} {base g b : Nat} {P : Nat → Prop} {S : St} (h : Disk w base g b P S) (s : ByteArray) (hs : s.size ≤ 64) {f : Fl} (hl : seek S.fs s.data.toList = some f) (ty : TypeId) :
    ∃ w', (Builtin.delete_ #[46, 9] ty #[.map (some b), .string s]).run Try.prog w = .ok (.tuple #[]) w' ∧ Disk w' base g b P { S with fs := del S.fs s.data.toList } ∧ w.grownBy w' (some b) ∧ (∀ j, j ≠ b → w'.heap[j]? = w.heap[j]?) := by
  obtain ⟨D, hD, hR⟩ := h.map
  obtain ⟨w', hr, hD', ht⟩ := hD.drop law Try.underlying46 (key_mk s hs) ty
  have hbl : ∀ j, j ≠ b → w'.heap[j]? = w.heap[j]? := by
    obtain ⟨es, clock, es', clock', hb, rfl⟩ := ht
    intro j hj
    exact ChangeMaps.heap_setBlock_other hb _ hj
  have hu := used_del hR.nodup hl
  have hle := len_del hR.nodup hl
  have hR' := hR.del s.data.toList
  refine ⟨w', hr, ⟨(hbl g h.gb).trans h.cells, ⟨_, ?_, hR'⟩, ⟨fun p hp => ?_, fun p hp => h.mem.bytes p (mem_del.1 hp).1, fun p hp => h.mem.lasts p (mem_del.1 hp).1, fun p hp r hr => h.mem.apart p (mem_del.1 hp).1 r (mem_del.1 hr).1, fun p hp => h.mem.mem p (mem_del.1 hp).1⟩,
    ⟨h.ok.q, h.ok.af, h.ok.ct, h.ok.rf, by have := h.ok.len; show (del S.fs _).length ≤ _; omega, by have := h.ok.used; show Mp.used (del S.fs _) ≤ _; omega, fun p hp => h.ok.name p (mem_del.1 hp).1⟩, h.pg, h.pb, fun j hj => ⟨(h.low j hj).1, Nat.lt_of_lt_of_le (h.low j hj).2 ht.grown.size⟩⟩, ht.grown, hbl⟩
  · have := Mp.tight hD'
    rw [hR'.size] at this
    exact this
  · refine own_of_block (h.mem.row p (mem_del.1 hp).1) (fun j hj => hbl j (fun e => ?_))
    subst e
    rcases (h.mem.row p (mem_del.1 hp).1).2 with ⟨e3, _⟩ | ⟨g', cap', cur, e3, _, hg, _⟩
    · rw [e3] at hj; cases hj
    · rw [e3] at hj
      have e4 : g' = j := by simpa [Value.ownBlock] using hj
      subst e4
      obtain ⟨es, clock, hb, _⟩ := hD
      rw [hb] at hg
      simp at hg
/-- A file laid at a name. -/
theorem Disk.run_store {w w1 : World} {base g b : Nat} {P P' : Nat → Prop} {S : St} {row : Option Nat} (h : Disk w base g b P S) (k : Kp P row w w1) (hrg : row ≠ some g) (hrb : row ≠ some b) (s : ByteArray) (hs : 1 ≤ s.size ∧ s.size ≤ 64) (f : Fl)
    (hro : ∀ p ∈ S.fs, p.1 ≠ s.data.toList → ∀ j, p.2.sl.ownBlock = some j → row ≠ some j ∧ f.sl.ownBlock ≠ some j) (ho : ownB w1 base f) (hby : ∀ y ∈ f.zs, 0 ≤ y ∧ y ≤ 255) (hk : f.k ≤ f.zs.length)
    (hlen : (put S.fs s.data.toList f).length ≤ 4096) (hu : used (put S.fs s.data.toList f) ≤ 268435456) (hP : ∀ j, P j → P' j) (hPf : ∀ j, f.sl.ownBlock = some j → P' j) (hl : ∀ j, P' j → base ≤ j ∧ j < w1.heap.size) :
    ∃ w', (Instr.mapUpdate 46 (.map (some b)) (.string s) f.val).run Try.prog w1 = .ok () w' ∧ Disk w' base g b P' { S with fs := put S.fs s.data.toList f } ∧ w1.grownBy w' (some b) ∧ (∀ j, j ≠ b → w'.heap[j]? = w1.heap[j]?) := by
  obtain ⟨D, hD, hR⟩ := h.map
  have hD1 := map_of_block hD (k.block b h.pb (fun e => hrb e.symm))
  have hlen0 := h.ok.len
  obtain ⟨w', hr, hD', ht⟩ := hD1.store law Try.underlying46 (by unfold maxLen; omega) (key_mk s hs.2) (show heldR f.val = some (.held f.val, []) from rfl)
  have hbl : ∀ j, j ≠ b → w'.heap[j]? = w1.heap[j]? := by
    obtain ⟨es, clock, es', clock', hb, rfl⟩ := ht
    intro j hj
    exact ChangeMaps.heap_setBlock_other hb _ hj
  have hnb : ∀ (f : Fl) j, ownB w1 base f → f.sl.ownBlock = some j → j ≠ b := by
    intro f j ho hj e
    subst e
    rcases ho.2 with ⟨e3, _⟩ | ⟨g', cap', cur, e3, _, hg, _⟩
    · rw [e3] at hj; cases hj
    · rw [e3] at hj
      have e4 : g' = j := by simpa [Value.ownBlock] using hj
      subst e4
      obtain ⟨es, clock, hb, _⟩ := hD1
      rw [hb] at hg
      simp at hg
  have hold : ∀ p ∈ S.fs, p.1 ≠ s.data.toList → ownB w1 base p.2 := fun p hp hne => own_of_block (h.mem.row p hp) (fun j hj => k.block j (h.mem.mem p hp j hj) (fun e => (hro p hp hne j hj).1 e.symm))
  have hR' := hR.put s.data.toList f
  have hsz : s.data.toList.length = s.size := by rw [Array.length_toList]; rfl
  refine ⟨w', hr, ⟨(hbl g h.gb).trans ((k.block g h.pg (fun e => hrg e.symm)).trans h.cells), ⟨_, ?_, hR'⟩, ⟨?_, ?_, ?_, ?_, ?_⟩, ⟨h.ok.q, h.ok.af, h.ok.ct, h.ok.rf, hlen, hu, ?_⟩, hP g h.pg, hP b h.pb, fun j hj => ⟨(hl j hj).1, Nat.lt_of_lt_of_le (hl j hj).2 ht.grown.size⟩⟩, ht.grown, hbl⟩
  · have := Mp.tight hD'
    rw [hR'.size] at this
    exact this
  · intro p hp
    rcases List.mem_cons.1 hp with rfl | hp
    · exact own_of_block ho (fun j hj => hbl j (hnb _ j ho hj))
    · have hp := mem_del.1 hp
      have ho' := hold p hp.1 hp.2
      exact own_of_block ho' (fun j hj => hbl j (hnb _ j ho' hj))
  · intro p hp
    rcases List.mem_cons.1 hp with rfl | hp
    · exact hby
    · exact h.mem.bytes p (mem_del.1 hp).1
  · intro p hp
    rcases List.mem_cons.1 hp with rfl | hp
    · exact hk
    · exact h.mem.lasts p (mem_del.1 hp).1
  · intro p hp r hr j hpj hrj
    rcases List.mem_cons.1 hp with rfl | hp <;> rcases List.mem_cons.1 hr with rfl | hr
    · rfl
    · exact absurd hpj (hro r (mem_del.1 hr).1 (mem_del.1 hr).2 j hrj).2
    · exact absurd hrj (hro p (mem_del.1 hp).1 (mem_del.1 hp).2 j hpj).2
    · exact h.mem.apart p (mem_del.1 hp).1 r (mem_del.1 hr).1 j hpj hrj
  · intro p hp j hj
    rcases List.mem_cons.1 hp with rfl | hp
    · exact hPf j hj
    · exact hP j (h.mem.mem p (mem_del.1 hp).1 j hj)
  · intro p hp
    rcases List.mem_cons.1 hp with rfl | hp
    · simp only; rw [hsz]; exact hs
    · exact h.ok.name p (mem_del.1 hp).1
end Go.Proofs.Ytgffojafdjcdoaa.Dk

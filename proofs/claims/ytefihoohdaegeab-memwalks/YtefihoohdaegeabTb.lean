/- A memtable in memory: its block, its list, its set of tombs, its map; New and the small calls. -/
import Derived.Test.YtefihoohdaegeabSa
import Derived.Test.YtefihoohdaegeabAt
import Derived.Test.YtefihoohdaegeabNw
namespace Go.Proofs.Ytefihoohdaegeab.Tb
open Go.ChangeShapes Go.WideShapes Go.ChangeAt Go.RowKit Go.Shelf
open Go.Proofs.Ytefihoohdaegeab.Lx
open Go.Proofs.Ytefihoohdaegeab.Tm
open Go.Proofs.Ytefihoohdaegeab.Rw
open Go.Proofs.Ytefihoohdaegeab.Es
open Go.Proofs.Ytefihoohdaegeab.Fm
open Go.Proofs.Ytefihoohdaegeab.Sa
open Go.Proofs.Ytefihoohdaegeab.Sg
open Go.Proofs.Ytefihoohdaegeab.In
open Go.Proofs.Ytefihoohdaegeab.Mm (Lst Hd)
open Go.Sort (grow)
open Go.Proofs.Ytefihoohdaegeab.Fi
open Go.Proofs.Ytefihoohdaegeab.Vl (vld)
set_option linter.unusedVariables false
set_option linter.unusedSimpArgs false

/-- A memtable: its nodes and their order, its tombs, its bytes, its least and greatest number, its log, whether it is frozen. -/
structure St where
  ns : List N
  ord : List Nat
  ts : List T
  sz : Int
  lo : Int
  hi : Int
  log : Int
  dn : Bool
def St.new (log : Int) : St := ⟨[], [], [], 0, 0, 0, log, false⟩
/-- What holds of it. -/
structure Wf (S : St) : Prop where
  node : ∀ n ∈ S.ns, vld n.k n.s n.c = true ∧ 1 ≤ n.s ∧ (n.c = 0 ∨ n.c = 1) ∧ ∃ x : ByteArray, n.v = .string x ∧ x.size ≤ 65536
  tomb : ∀ t ∈ S.ts, vd t = true ∧ 1 ≤ t.s ∧ t.ok
  sz0 : 0 ≤ S.sz
  sz1 : S.sz ≤ 100000 * ((S.ns.length : Int) + S.ts.length)
  gd : Gd S.ns S.ord
  cap : S.ns.length ≤ 1048576
theorem Wf.new (log : Int) : Wf (St.new log) := ⟨fun _ h => by simp [St.new] at h, fun _ h => by simp [St.new] at h, by simp [St.new], by simp [St.new], Gd.empty, by simp [St.new]⟩
def St.cells (S : St) (gl gs bm : Nat) : Array Value := #[.int .i64 S.log, .bool S.dn, .pointer (some ⟨gl, 0, none⟩), .pointer (some ⟨gs, 0, none⟩), .map (some bm), .int .i64 S.sz, .int .u64 S.lo, .int .u64 S.hi]
def Tc (w : World) (g : Nat) (c : Array Value) : Prop := w.heap[g]? = some (.cells c 53)
structure Tx (w : World) (base g gl bl gs bm : Nat) (vt : Value) (P : Nat → Prop) (S : St) : Prop where
  c : Tc w g (S.cells gl gs bm)
  l : SL w base gl bl 1048576 S.ns S.ord
  s : Sb w gs vt
  o : OwnT w base vt S.ts
  m : Bg w bm S.ts
  wf : Wf S
  pg : P g
  pl : P gl
  pb : P bl
  ps : P gs
  pm : P bm
  pv : ∀ j, vt.ownBlock = some j → P j
  low : ∀ j, P j → base ≤ j ∧ j < w.heap.size
/-- A memtable at a block, all of whose memory is in P. -/
def Tb (w : World) (base g : Nat) (P : Nat → Prop) (S : St) : Prop := ∃ gl bl gs bm vt, Tx w base g gl bl gs bm vt P S
theorem Tx.blocks {w w' : World} {base g gl bl gs bm : Nat} {vt : Value} {P : Nat → Prop} {S : St} (h : Tx w base g gl bl gs bm vt P S) (hb : ∀ j, P j → w'.heap[j]? = w.heap[j]?) (hs : w.heap.size ≤ w'.heap.size) : Tx w' base g gl bl gs bm vt P S :=
  ⟨(hb _ h.pg).trans h.c, sl_blocks h.l (hb _ h.pl) (hb _ h.pb), (hb _ h.ps).trans h.s, own_blocks h.o (fun j hj => hb j (h.pv j hj)), h.m.blk (hb _ h.pm), h.wf, h.pg, h.pl, h.pb, h.ps, h.pm, h.pv, fun j hj => ⟨(h.low j hj).1, by have := (h.low j hj).2; omega⟩⟩
theorem Tb.blocks {w w' : World} {base g : Nat} {P : Nat → Prop} {S : St} (h : Tb w base g P S) (hb : ∀ j, P j → w'.heap[j]? = w.heap[j]?) (hs : w.heap.size ≤ w'.heap.size) : Tb w' base g P S := by
  obtain ⟨gl, bl, gs, bm, vt, h⟩ := h
  exact ⟨gl, bl, gs, bm, vt, h.blocks hb hs⟩
theorem Tx.later {w w' : World} {base g gl bl gs bm : Nat} {vt : Value} {P : Nat → Prop} {S : St} (h : Tx w base g gl bl gs bm vt P S) (b : Below w.heap.size w w') : Tx w' base g gl bl gs bm vt P S := h.blocks (fun j hj => b.block j (h.low j hj).2) b.size
theorem Tb.later {w w' : World} {base g : Nat} {P : Nat → Prop} {S : St} (h : Tb w base g P S) (b : Below w.heap.size w w') : Tb w' base g P S := by
  obtain ⟨gl, bl, gs, bm, vt, h⟩ := h
  exact ⟨gl, bl, gs, bm, vt, h.later b⟩
theorem Tb.low {w : World} {base g : Nat} {P : Nat → Prop} {S : St} (h : Tb w base g P S) : ∀ j, P j → base ≤ j ∧ j < w.heap.size := by
  obtain ⟨gl, bl, gs, bm, vt, h⟩ := h; exact h.low
theorem Tb.pg {w : World} {base g : Nat} {P : Nat → Prop} {S : St} (h : Tb w base g P S) : P g := by
  obtain ⟨gl, bl, gs, bm, vt, h⟩ := h; exact h.pg
theorem Tb.wf {w : World} {base g : Nat} {P : Nat → Prop} {S : St} (h : Tb w base g P S) : Wf S := by
  obtain ⟨gl, bl, gs, bm, vt, h⟩ := h; exact h.wf
/-- Another's work leaves it as it was. -/
theorem Tb.apart {w w' : World} {base g : Nat} {P Q : Nat → Prop} {S : St} (h : Tb w base g P S) (f : Fp Q w w') (hd : ∀ j, P j → ¬ Q j) : Tb w' base g P S := h.blocks (fun j hj => f.block j (h.low j hj).2 (hd j hj)) f.size
theorem Tc.cell {w : World} {g : Nat} {c : Array Value} (h : Tc w g c) (i : Nat) : w.cell? ⟨g, i, none⟩ = c[i]? := cell_of_row w g i c 53 (0, 0) h
theorem Tc.fz {w : World} {g : Nat} {c : Array Value} (h : Tc w g c) (i : Nat) : w.frozen? ⟨g, i, none⟩ = false := by
  simp [World.frozen?, show w.heap[g]? = _ from h]
theorem Tc.lt {w : World} {g : Nat} {c : Array Value} (h : Tc w g c) : g < w.heap.size := (Array.getElem?_eq_some_iff.1 h).1
theorem isnone_any (g gl gs bm : Nat) (S : St) (w : World) (H : Tc w g (S.cells gl gs bm)) : Calls Try.prog 17 #[.pointer (some ⟨g, 0, none⟩)] w fun e w' => e = .returned (.bool false) ∧ w' = w := by
  have c2 : w.cell? ⟨g, 2, none⟩ = some (.pointer (some ⟨gl, 0, none⟩)) := H.cell 2
  clear H
  go_enter Try.func17, Try.ntmps17
  go_wp2
  go_ret
  exact ⟨rfl, rfl⟩
--[mb
theorem size_any (g gl gs bm : Nat) (S : St) (w : World) (H : Tc w g (S.cells gl gs bm)) : Calls Try.prog 16 #[.pointer (some ⟨g, 0, none⟩)] w fun e w' => e = .returned (.int .i64 S.sz) ∧ w' = w := by
  have HN := hid (isnone_any g gl gs bm S w H)
  have c2 : w.cell? ⟨g, 5, none⟩ = some (.int .i64 S.sz) := H.cell 5
  clear H
  go_enter Try.func16, Try.ntmps16
  go_wp2_with fail
  refine HN.out.mono ?_
  rintro e w1 ⟨rfl, rfl⟩
  go_wp2_with fail
  go_ret
  exact ⟨rfl, rfl⟩
--]mb
set_option maxHeartbeats 1000000 in
theorem new_any (log : Int) (w : World) : Calls Try.prog 14 #[.int .i64 log] w fun e w' => ∃ g P, e = .returned (.pointer (some ⟨g, 0, none⟩)) ∧ Tb w' w.heap.size g P (St.new log) ∧ Below w.heap.size w w' := by
  have hmm : ∀ w : World, (Instr.makeMap 51 none).run Try.prog w = .ok (.map (some w.heap.size)) (w.alloc (.map #[] 0)) := fun _ => rfl
  have HN := hid (new_ok 1048576 w (by omega) (by omega))
  obtain ⟨n0, hn0⟩ : ∃ n, n = w.heap.size := ⟨_, rfl⟩
  go_enter Try.func14, Try.ntmps14
  go_wp2_with fail
  refine HN.out.mono ?_
  rintro e w1 ⟨rfl, hs1, b1⟩
  have hl1 := sl_lt hs1
  rw [← hn0] at hs1 b1 hl1 ⊢
  have HS := hid (newset_0 w1)
  replace hs1 := hid hs1
  replace b1 := hid b1
  go_wp2_with fail
  refine HS.out.mono ?_
  rintro e w2 ⟨gs, rfl, hg2, hs2, b2⟩
  obtain ⟨W3, hW3⟩ : ∃ W, W = w2.alloc (.map #[] 0) := ⟨_, rfl⟩
  obtain ⟨W4, hW4⟩ : ∃ W, W = W3.alloc (.cells #[.int .i64 log, .bool false, .pointer (some ⟨n0 + 1, 0, none⟩), .pointer (some ⟨gs, 0, none⟩), .map (some w2.heap.size), .int .i64 0, .int .u64 0, .int .u64 0] 53) := ⟨_, rfl⟩
  have FIN : Hid (∃ g P, Ending.returned (.pointer (some ⟨w2.heap.size + 1, 0, none⟩)) = .returned (.pointer (some ⟨g, 0, none⟩)) ∧ Tb W4 n0 g P (St.new log) ∧ Below n0 w W4) := by
    have s3 : W3.heap.size = w2.heap.size + 1 := by rw [hW3]; simp
    have s4 : W4.heap.size = w2.heap.size + 2 := by rw [hW4]; simp [s3]
    have b23 : Below w2.heap.size w2 W3 := by rw [hW3]; exact Mm.box_below _ _
    have b34 : Below W3.heap.size W3 W4 := by rw [hW4]; exact Mm.box_below _ _
    have b24 : Below w2.heap.size w2 W4 := b23.trans (b34.mono (by omega))
    have b14 : Below w1.heap.size w1 W4 := b2.trans (b24.mono b2.size)
    have hb1 := b1.out.size
    have hb2 := b2.size
    refine ⟨w2.heap.size + 1, fun j => n0 ≤ j ∧ j < W4.heap.size, rfl, ⟨n0 + 1, n0, gs, w2.heap.size, .slice none 0 0, ?_⟩, b1.out.trans (b14.mono (by omega))⟩
    have hgs := hs2.lt
    refine ⟨?_, hs1.out.later b14, (b24.block gs hgs).trans hs2, OwnT.nil _ _, ⟨#[], 0, (b34.block _ (by omega)).trans (by rw [hW3]; exact Tr.new_at _ _), by simp [St.new], by simp⟩, Wf.new log, ⟨by omega, by omega⟩, ⟨by omega, by omega⟩, ⟨by omega, by omega⟩, ⟨by omega, by omega⟩, ⟨by omega, by omega⟩, fun j hj => by simp [Value.ownBlock] at hj, fun j hj => hj⟩
    rw [hW4, ← s3]
    exact Tr.new_at _ _
  rw [hW4, hW3] at FIN
  replace hn0 := hid hn0
  clear hW3 hW4 hs2 b2 hl1
  go_wp2_with fail
  go_ret
  have F := FIN.out
  rw [hn0.out] at F
  obtain ⟨g, P, h1, h2, h3⟩ := F
  exact ⟨g, P, h1, h2, h3⟩
end Go.Proofs.Ytefihoohdaegeab.Tb

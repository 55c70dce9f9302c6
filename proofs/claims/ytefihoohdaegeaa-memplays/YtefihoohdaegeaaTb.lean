/- A memtable in memory: its block, its list, its set of tombs, its map; New and the small calls. -/
import Derived.Test.YtefihoohdaegeaaSa
import Derived.Test.YtefihoohdaegeaaAt
import Derived.Test.YtefihoohdaegeaaNw
namespace Go.Proofs.Ytefihoohdaegeaa.Tb
open Go.ChangeShapes Go.WideShapes Go.ChangeAt Go.RowKit Go.Shelf
open Go.Proofs.Ytefihoohdaegeaa.Lx
open Go.Proofs.Ytefihoohdaegeaa.Tm
open Go.Proofs.Ytefihoohdaegeaa.Rw
open Go.Proofs.Ytefihoohdaegeaa.Es
open Go.Proofs.Ytefihoohdaegeaa.Fm
open Go.Proofs.Ytefihoohdaegeaa.Sa
open Go.Proofs.Ytefihoohdaegeaa.Sg
open Go.Proofs.Ytefihoohdaegeaa.In
open Go.Proofs.Ytefihoohdaegeaa.Mm (Lst Hd)
open Go.Sort (grow)
open Go.Proofs.Ytefihoohdaegeaa.Fi
open Go.Proofs.Ytefihoohdaegeaa.Vl (vld)
set_option linter.unusedVariables false
set_option linter.unusedSimpArgs false

/-- A memtable: its nodes and their order, its tombs, its bytes, its least and greatest number, its log, whether it is frozen. -/
structure St where
  ns : List N
  ord : List Nat
  ts : List T
  sz : Int
  lo : Int
  hi : Int
  log : Int
  dn : Bool
def St.new (log : Int) : St := ⟨[], [], [], 0, 0, 0, log, false⟩
/-- What holds of it. -/
structure Wf (S : St) : Prop where
  node : ∀ n ∈ S.ns, vld n.k n.s n.c = true ∧ 1 ≤ n.s ∧ (n.c = 0 ∨ n.c = 1) ∧ ∃ x : ByteArray, n.v = .string x ∧ x.size ≤ 65536
  tomb : ∀ t ∈ S.ts, vd t = true ∧ 1 ≤ t.s ∧ t.ok
  sz0 : 0 ≤ S.sz
  sz1 : S.sz ≤ 100000 * ((S.ns.length : Int) + S.ts.length)
  gd : Gd S.ns S.ord
  cap : S.ns.length ≤ 1048576
theorem Wf.new (log : Int) : Wf (St.new log) := ⟨fun _ h => by simp [St.new] at h, fun _ h => by simp [St.new] at h, by simp [St.new], by simp [St.new], Gd.empty, by simp [St.new]⟩
def St.cells (S : St) (gl gs bm : Nat) : Array Value := #[.int .i64 S.log, .bool S.dn, .pointer (some ⟨gl, 0, none⟩), .pointer (some ⟨gs, 0, none⟩), .map (some bm), .int .i64 S.sz, .int .u64 S.lo, .int .u64 S.hi]
def Tc (w : World) (g : Nat) (c : Array Value) : Prop := w.heap[g]? = some (.cells c 80)
structure Tx (w : World) (base g gl bl gs bm : Nat) (vt : Value) (P : Nat → Prop) (S : St) : Prop where
  c : Tc w g (S.cells gl gs bm)
  l : SL w base gl bl 1048576 S.ns S.ord
  s : Sb w gs vt
  o : OwnT w base vt S.ts
  m : Bg w bm S.ts
  wf : Wf S
  pg : P g
  pl : P gl
  pb : P bl
  ps : P gs
  pm : P bm
  pv : ∀ j, vt.ownBlock = some j → P j
  low : ∀ j, P j → base ≤ j ∧ j < w.heap.size
/-- A memtable at a block, all of whose memory is in P. -/
def Tb (w : World) (base g : Nat) (P : Nat → Prop) (S : St) : Prop := ∃ gl bl gs bm vt, Tx w base g gl bl gs bm vt P S
theorem Tx.blocks {w w' : World} {base g gl bl gs bm : Nat} {vt : Value} {P : Nat → Prop} {S : St} (h : Tx w base g gl bl gs bm vt P S) (hb : ∀ j, P j → w'.heap[j]? = w.heap[j]?) (hs : w.heap.size ≤ w'.heap.size) : Tx w' base g gl bl gs bm vt P S :=
  ⟨(hb _ h.pg).trans h.c, sl_blocks h.l (hb _ h.pl) (hb _ h.pb), (hb _ h.ps).trans h.s, own_blocks h.o (fun j hj => hb j (h.pv j hj)), h.m.blk (hb _ h.pm), h.wf, h.pg, h.pl, h.pb, h.ps, h.pm, h.pv, fun j hj => ⟨(h.low j hj).1, by have := (h.low j hj).2; omega⟩⟩
theorem Tb.blocks {w w' : World} {base g : Nat} {P : Nat → Prop} {S : St} (h : Tb w base g P S) (hb : ∀ j, P j → w'.heap[j]? = w.heap[j]?) (hs : w.heap.size ≤ w'.heap.size) : Tb w' base g P S := by
  obtain ⟨gl, bl, gs, bm, vt, h⟩ := h
  exact ⟨gl, bl, gs, bm, vt, h.blocks hb hs⟩
theorem Tx.later {w w' : World} {base g gl bl gs bm : Nat} {vt : Value} {P : Nat → Prop} {S : St} (h : Tx w base g gl bl gs bm vt P S) (b : Below w.heap.size w w') : Tx w' base g gl bl gs bm vt P S := h.blocks (fun j hj => b.block j (h.low j hj).2) b.size
theorem Tb.later {w w' : World} {base g : Nat} {P : Nat → Prop} {S : St} (h : Tb w base g P S) (b : Below w.heap.size w w') : Tb w' base g P S := by
  obtain ⟨gl, bl, gs, bm, vt, h⟩ := h
  exact ⟨gl, bl, gs, bm, vt, h.later b⟩
theorem Tb.low {w : World} {base g : Nat} {P : Nat → Prop} {S : St} (h : Tb w base g P S) : ∀ j, P j → base ≤ j ∧ j < w.heap.size := by
  obtain ⟨gl, bl, gs, bm, vt, h⟩ := h; exact h.low
theorem Tb.pg {w : World} {base g : Nat} {P : Nat → Prop} {S : St} (h : Tb w base g P S) : P g := by
  obtain ⟨gl, bl, gs, bm, vt, h⟩ := h; exact h.pg
theorem Tb.wf {w : World} {base g : Nat} {P : Nat → Prop} {S : St} (h : Tb w base g P S) : Wf S := by
  obtain ⟨gl, bl, gs, bm, vt, h⟩ := h; exact h.wf
/-- Another's work leaves it as it was. -/
theorem Tb.apart {w w' : World} {base g : Nat} {P Q : Nat → Prop} {S : St} (h : Tb w base g P S) (f : Fp Q w w') (hd : ∀ j, P j → ¬ Q j) : Tb w' base g P S := h.blocks (fun j hj => f.block j (h.low j hj).2 (hd j hj)) f.size
theorem Tc.cell {w : World} {g : Nat} {c : Array Value} (h : Tc w g c) (i : Nat) : w.cell? ⟨g, i, none⟩ = c[i]? := cell_of_row w g i c 80 (0, 0) h
theorem Tc.fz {w : World} {g : Nat} {c : Array Value} (h : Tc w g c) (i : Nat) : w.frozen? ⟨g, i, none⟩ = false := by
  simp [World.frozen?, show w.heap[g]? = _ from h]
theorem Tc.lt {w : World} {g : Nat} {c : Array Value} (h : Tc w g c) : g < w.heap.size := (Array.getElem?_eq_some_iff.1 h).1
theorem isnone_any (g gl gs bm : Nat) (S : St) (w : World) (H : Tc w g (S.cells gl gs bm)) : Calls Try.prog 57 #[.pointer (some ⟨g, 0, none⟩)] w fun e w' => e = .returned (.bool false) ∧ w' = w := by
  have c2 : w.cell? ⟨g, 2, none⟩ = some (.pointer (some ⟨gl, 0, none⟩)) := H.cell 2
  clear H
  go_enter Try.func57, Try.ntmps57
  go_wp2
  go_ret
  exact ⟨rfl, rfl⟩
--[ma
theorem log_any (g gl gs bm : Nat) (S : St) (w : World) (H : Tc w g (S.cells gl gs bm)) : Calls Try.prog 29 #[.pointer (some ⟨g, 0, none⟩)] w fun e w' => e = .returned (.int .i64 S.log) ∧ w' = w := by
  have HN := hid (isnone_any g gl gs bm S w H)
  have c2 : w.cell? ⟨g, 0, none⟩ = some (.int .i64 S.log) := H.cell 0
  clear H
  go_enter Try.func29, Try.ntmps29
  go_wp2_with fail
  refine HN.out.mono ?_
  rintro e w1 ⟨rfl, rfl⟩
  go_wp2_with fail
  go_ret
  exact ⟨rfl, rfl⟩
--]ma
--[ma
theorem size_any (g gl gs bm : Nat) (S : St) (w : World) (H : Tc w g (S.cells gl gs bm)) : Calls Try.prog 31 #[.pointer (some ⟨g, 0, none⟩)] w fun e w' => e = .returned (.int .i64 S.sz) ∧ w' = w := by
  have HN := hid (isnone_any g gl gs bm S w H)
  have c2 : w.cell? ⟨g, 5, none⟩ = some (.int .i64 S.sz) := H.cell 5
  clear H
  go_enter Try.func31, Try.ntmps31
  go_wp2_with fail
  refine HN.out.mono ?_
  rintro e w1 ⟨rfl, rfl⟩
  go_wp2_with fail
  go_ret
  exact ⟨rfl, rfl⟩
--]ma
--[ma
theorem span_any (g gl gs bm : Nat) (S : St) (w : World) (H : Tc w g (S.cells gl gs bm)) : Calls Try.prog 26 #[.pointer (some ⟨g, 0, none⟩)] w fun e w' => e = .returned (.tuple #[.int .u64 S.lo, .int .u64 S.hi]) ∧ Below w.heap.size w w' := by
  have HN := hid (isnone_any g gl gs bm S w H)
  have c6 : w.cell? ⟨g, 6, none⟩ = some (.int .u64 S.lo) := H.cell 6
  have c7 : w.cell? ⟨g, 7, none⟩ = some (.int .u64 S.hi) := H.cell 7
  clear H
  go_enter Try.func26, Try.ntmps26
  go_wp2_with fail
  refine HN.out.mono ?_
  rintro e w1 ⟨rfl, rfl⟩
  go_wp2_with fail
  go_quiet (fail)
  go_wp2_with fail
  go_ret2
  exact ⟨rfl, Li.drewN_below _ _⟩
set_option maxHeartbeats 1000000 in
theorem len_any (base g : Nat) (P : Nat → Prop) (S : St) (w : World) (H : Tb w base g P S) (hr : S.ts.length ≤ 140737488355328) : Calls Try.prog 30 #[.pointer (some ⟨g, 0, none⟩)] w fun e w' => e = .returned (.int .i64 ((S.ns.length : Int) + S.ts.length)) ∧ Below w.heap.size w w' := by
  obtain ⟨gl, bl, gs, bm, vt, H⟩ := H
  have HN := hid (isnone_any g gl gs bm S w H.c)
  have c2 : w.cell? ⟨g, 2, none⟩ = some (.pointer (some ⟨gl, 0, none⟩)) := H.c.cell 2
  have c3 : w.cell? ⟨g, 3, none⟩ = some (.pointer (some ⟨gs, 0, none⟩)) := H.c.cell 3
  have hcap := H.wf.cap
  obtain ⟨a, c, rfl, _, _⟩ := H.o.tbs (fun x hx => (H.wf.tomb x hx).2.2)
  obtain ⟨cap, tw, HL, G, L⟩ := H.l
  have HL1 : Hid (∀ d os, Calls Try.prog 67 #[.pointer (some ⟨gl, 0, none⟩)] (grow (redrawn w d) os) fun e w' => e = .returned (.int .i64 (S.ns.length : Int)) ∧ Below (grow (redrawn w d) os).heap.size (grow (redrawn w d) os) w') := fun d os => (Go.Proofs.Ytefihoohdaegeaa.Mm.len_any gl 1048576 (top S.ns) bl S.ns.length cap _ (HL.hd.later (below_regrown w d os)) (by omega) (by omega)).mono fun _ _ h => ⟨h.1, by rw [h.2]; exact Below.refl _ _⟩
  have HL2 : Hid (∀ d os, Calls Try.prog 70 #[.pointer (some ⟨gs, 0, none⟩)] (grow (redrawn w d) os) fun e w' => e = .returned (.int .i64 (S.ts.length : Int)) ∧ Below (grow (redrawn w d) os).heap.size (grow (redrawn w d) os) w') := fun d os => (setlen_any gs a S.ts.length c _ (((below_regrown w d os).block gs H.s.lt).trans H.s)).mono fun _ _ h => ⟨h.1, by rw [h.2]; exact Below.refl _ _⟩
  have d2 := fun d os => cell_regrown c2 d os
  have d3 := fun d os => cell_regrown c3 d os
  clear c2 c3
  generalize S.ns.length = n1 at *
  generalize S.ts.length = n2 at *
  clear H HL G L
  go_enter Try.func30, Try.ntmps30
  go_wp2_with fail
  refine HN.out.mono ?_
  rintro e w1 ⟨rfl, rfl⟩
  go_wp2_with fail
  refine wp_region_quiet_below (by kernel_rfl) (by kernel_rfl) ?_
  repeat (first | go_big_quiet_step (first | (go_at_call 67; exact Calls.regrown_of (HL1.out _ _)) | (go_at_call 70; exact Calls.regrown_of (HL2.out _ _))) | quiet_step (first | (go_at_call 67; exact Calls.regrown_of (HL1.out _ _)) | (go_at_call 70; exact Calls.regrown_of (HL2.out _ _))))
  refine wpQuiet_nil ?_
  intro w8 hw8
  have b8 : Below w1.heap.size w1 w8 := by
    obtain ⟨⟨dq, osq⟩, hw''⟩ := hw8
    rw [hw'']
    exact below_regrown _ dq osq
  clear hw8
  replace b8 := hid b8
  go_wp2_with fail
  go_ret
  exact ⟨by go_num, b8.out⟩
--]ma
set_option maxHeartbeats 1000000 in
theorem new_any (log : Int) (w : World) : Calls Try.prog 9 #[.int .i64 log] w fun e w' => ∃ g P, e = .returned (.pointer (some ⟨g, 0, none⟩)) ∧ Tb w' w.heap.size g P (St.new log) ∧ Below w.heap.size w w' := by
  have hmm : ∀ w : World, (Instr.makeMap 78 none).run Try.prog w = .ok (.map (some w.heap.size)) (w.alloc (.map #[] 0)) := fun _ => rfl
  have HN := hid (new_ok 1048576 w (by omega) (by omega))
  obtain ⟨n0, hn0⟩ : ∃ n, n = w.heap.size := ⟨_, rfl⟩
  go_enter Try.func9, Try.ntmps9
  go_wp2_with fail
  refine HN.out.mono ?_
  rintro e w1 ⟨rfl, hs1, b1⟩
  have hl1 := sl_lt hs1
  rw [← hn0] at hs1 b1 hl1 ⊢
  have HS := hid (newset_0 w1)
  replace hs1 := hid hs1
  replace b1 := hid b1
  go_wp2_with fail
  refine HS.out.mono ?_
  rintro e w2 ⟨gs, rfl, hg2, hs2, b2⟩
  obtain ⟨W3, hW3⟩ : ∃ W, W = w2.alloc (.map #[] 0) := ⟨_, rfl⟩
  obtain ⟨W4, hW4⟩ : ∃ W, W = W3.alloc (.cells #[.int .i64 log, .bool false, .pointer (some ⟨n0 + 1, 0, none⟩), .pointer (some ⟨gs, 0, none⟩), .map (some w2.heap.size), .int .i64 0, .int .u64 0, .int .u64 0] 80) := ⟨_, rfl⟩
  have FIN : Hid (∃ g P, Ending.returned (.pointer (some ⟨w2.heap.size + 1, 0, none⟩)) = .returned (.pointer (some ⟨g, 0, none⟩)) ∧ Tb W4 n0 g P (St.new log) ∧ Below n0 w W4) := by
    have s3 : W3.heap.size = w2.heap.size + 1 := by rw [hW3]; simp
    have s4 : W4.heap.size = w2.heap.size + 2 := by rw [hW4]; simp [s3]
    have b23 : Below w2.heap.size w2 W3 := by rw [hW3]; exact Mm.box_below _ _
    have b34 : Below W3.heap.size W3 W4 := by rw [hW4]; exact Mm.box_below _ _
    have b24 : Below w2.heap.size w2 W4 := b23.trans (b34.mono (by omega))
    have b14 : Below w1.heap.size w1 W4 := b2.trans (b24.mono b2.size)
    have hb1 := b1.out.size
    have hb2 := b2.size
    refine ⟨w2.heap.size + 1, fun j => n0 ≤ j ∧ j < W4.heap.size, rfl, ⟨n0 + 1, n0, gs, w2.heap.size, .slice none 0 0, ?_⟩, b1.out.trans (b14.mono (by omega))⟩
    have hgs := hs2.lt
    refine ⟨?_, hs1.out.later b14, (b24.block gs hgs).trans hs2, OwnT.nil _ _, ⟨#[], 0, (b34.block _ (by omega)).trans (by rw [hW3]; exact Tr.new_at _ _), by simp [St.new], by simp⟩, Wf.new log, ⟨by omega, by omega⟩, ⟨by omega, by omega⟩, ⟨by omega, by omega⟩, ⟨by omega, by omega⟩, ⟨by omega, by omega⟩, fun j hj => by simp [Value.ownBlock] at hj, fun j hj => hj⟩
    rw [hW4, ← s3]
    exact Tr.new_at _ _
  rw [hW4, hW3] at FIN
  replace hn0 := hid hn0
  clear hW3 hW4 hs2 b2 hl1
  go_wp2_with fail
  go_ret
  have F := FIN.out
  rw [hn0.out] at F
  obtain ⟨g, P, h1, h2, h3⟩ := F
  exact ⟨g, P, h1, h2, h3⟩
end Go.Proofs.Ytefihoohdaegeaa.Tb

/- A list's cursor: its block, and its calls by contract. -/
import Derived.Test.YtgjodfaliajlgaaMr9
namespace Go.Proofs.Ytgjodfaliajlgaa.Ls9
open Go.ChangeShapes Go.WideShapes Go.ChangeAt Go.RowKit
open Go.Sort (grow)
open Go.Proofs.Ytgjodfaliajlgaa.Gr hiding hid addr_add
open Go.Proofs.Ytgjodfaliajlgaa.Ac
open Go.Proofs.Ytgjodfaliajlgaa.Ik
open Go.Proofs.Ytgjodfaliajlgaa.Ee
open Go.Proofs.Ytgjodfaliajlgaa.Sb
open Go.Proofs.Ytgjodfaliajlgaa.Ew
open Go.Proofs.Ytgjodfaliajlgaa.Sd hiding below_grown
set_option linter.unusedVariables false
set_option linter.unusedSimpArgs false

/-- A list at block g: its entries' slice, and where it stands. -/
def Lb (w : World) (g : Nat) (a : Option Addr) (n c : Nat) (i : Int) : Prop := w.heap[g]? = some (.cells #[.slice a n c, .int .i64 i] 65)
theorem Lb.c0 {w : World} {g : Nat} {a : Option Addr} {n c : Nat} {i : Int} (h : Lb w g a n c i) : w.cell? ⟨g, 0, none⟩ = some (.slice a n c) := cell_of h 0 _ rfl
theorem Lb.c1 {w : World} {g : Nat} {a : Option Addr} {n c : Nat} {i : Int} (h : Lb w g a n c i) : w.cell? ⟨g, 1, none⟩ = some (.int .i64 i) := cell_of h 1 _ rfl
theorem Lb.lt {w : World} {g : Nat} {a : Option Addr} {n c : Nat} {i : Int} (h : Lb w g a n c i) : g < w.heap.size := blk_lt h
theorem Lb.later {w w' : World} {g : Nat} {a : Option Addr} {n c : Nat} {i : Int} (h : Lb w g a n c i) (b : Below w.heap.size w w') : Lb w' g a n c i := (b.block g h.lt).trans h
theorem Lb.set {w : World} {g : Nat} {a : Option Addr} {n c : Nat} {i : Int} (h : Lb w g a n c i) (j : Int) : Lb (w.setCell ⟨g, 1, none⟩ (.int .i64 j)) g a n c j := by
  have := set_of h 1 (.int .i64 j)
  exact this
def c4 (x : E) : Array Value := #[.string x.k, .int .u64 x.s, .int .i64 x.c, .string x.v]
/-- Where it stands: the entry, or none. -/
def hr (ys : List E) (i : Int) : Option E := if 0 ≤ i ∧ i < (ys.length : Int) then some (ys.getD i.toNat ze) else none
set_option maxHeartbeats 1000000 in
set_option maxRecDepth 20000 in
theorem here_in (g : Nat) (a : Option Addr) (n c i : Nat) (ys : List E) (w : World) (H : Lb w g a n c (i : Int)) (HE : Ents w a n c ys) (hi : i < n) :
    Calls Try.prog 16 #[.pointer (some ⟨g, 0, none⟩)] w fun e w' => e = .returned (.tuple #[.agg (c4 (ys.getD i ze)), .bool true]) ∧ Below w.heap.size w w' := by
  obtain ⟨W0, hW0⟩ : ∃ W, W = w.alloc (.cells #[.string ⟨#[]⟩, .int .u64 0, .int .i64 0, .string ⟨#[]⟩] 43) := ⟨_, rfl⟩
  have B0 : Below w.heap.size w W0 := by rw [hW0]; exact box_below _ _
  obtain ⟨gr, hgr⟩ : ∃ n, n = w.heap.size := ⟨_, rfl⟩
  have kR : W0.heap[gr]? = some (.cells #[.string ⟨#[]⟩, .int .u64 0, .int .i64 0, .string ⟨#[]⟩] 43) := by rw [hW0, hgr]; exact new_at _ _
  obtain ⟨b, o, ha, hx⟩ := Mi.sl_at (sl_of (HE.later B0)) i hi
  subst ha
  have hx := at4_of hx
  rw [show eE.k = 4 from rfl, show eE.z = ze from rfl] at hx
  obtain ⟨⟨y1, y2, y3, y4⟩, hy⟩ : ∃ e : E, e = ys.getD i ze := ⟨_, rfl⟩
  rw [← hy] at hx ⊢
  replace hy := hid hy
  obtain ⟨x0, x1, x2, x3⟩ := hx
  dsimp only at x0 x1 x2 x3
  have c0 := (H.later B0).c0
  have c1 := (H.later B0).c1
  have z0 := cell_of kR 0 (.string ⟨#[]⟩) rfl
  have z1 := cell_of kR 1 (.int .u64 0) rfl
  have z2 := cell_of kR 2 (.int .i64 0) rfl
  have z3 := cell_of kR 3 (.string ⟨#[]⟩) rfl
  have f0 := fz_of kR 0
  have f1 := fz_of kR 1
  have f2 := fz_of kR 2
  have f3 := fz_of kR 3
  have i1 : (i : Int) < (n : Int) := by omega
  have i2 : (0 : Int) ≤ (i : Int) := by omega
  have i3 : ¬ (i : Int) < 0 := by omega
  have i4 : ¬ (n : Int) ≤ (i : Int) := by omega
  replace hW0 := hid hW0
  replace hgr := hid hgr
  replace B0 := hid B0
  replace kR := hid kR
  clear H HE
  unfold c4
  dsimp only
  go_enter Try.func16, Try.ntmps16
  go_wp2_with fail
  rw [← hW0.out, ← hgr.out]
  go_quiet (fail)
  go_wp2_with fail
  go_region
  go_wp2_with fail
  have bD : Below W0.heap.size W0 (W0.drewN (nq + 1)) := drewN_below _ _
  generalize W0.drewN (nq + 1) = D at *
  have kD := (bD.block gr (blk_lt kR.out)).trans kR.out
  have k4 := set_of (set_of (set_of (set_of kD 0 (.string y1)) 1 (.int .u64 y2)) 2 (.int .i64 y3)) 3 (.string y4)
  have BF : Below w.heap.size w ((((D.setCell ⟨gr, 0, none⟩ (.string y1)).setCell ⟨gr, 1, none⟩ (.int .u64 y2)).setCell ⟨gr, 2, none⟩ (.int .i64 y3)).setCell ⟨gr, 3, none⟩ (.string y4)) := by
    have h0 := Below.up B0.out bD
    have hg : w.heap.size ≤ gr := by rw [hgr.out]; exact Nat.le_refl _
    exact (((h0.setCell hg _).setCell hg _).setCell hg _).setCell hg _
  generalize hWF : (((D.setCell ⟨gr, 0, none⟩ (.string y1)).setCell ⟨gr, 1, none⟩ (.int .u64 y2)).setCell ⟨gr, 2, none⟩ (.int .i64 y3)).setCell ⟨gr, 3, none⟩ (.string y4) = WF at *
  have q0 := cell_of k4 0 (.string y1) rfl
  have q1 := cell_of k4 1 (.int .u64 y2) rfl
  have q2 := cell_of k4 2 (.int .i64 y3) rfl
  have q3 := cell_of k4 3 (.string y4) rfl
  exact bodyPost_ret (v := .tuple #[.agg #[.string y1, .int .u64 y2, .int .i64 y3, .string y4], .bool true]) (by simp [results, Try.results16, go_sem, q0, q1, q2, q3]) rfl ⟨rfl, BF⟩
set_option maxHeartbeats 1000000 in
set_option maxRecDepth 20000 in
theorem here_out (g : Nat) (a : Option Addr) (n c : Nat) (i : Int) (w : World) (H : Lb w g a n c i) (hi : i < 0 ∨ (n : Int) ≤ i) :
    Calls Try.prog 16 #[.pointer (some ⟨g, 0, none⟩)] w fun e w' => e = .returned (.tuple #[.agg (c4 ze), .bool false]) ∧ Below w.heap.size w w' := by
  obtain ⟨W0, hW0⟩ : ∃ W, W = w.alloc (.cells #[.string ⟨#[]⟩, .int .u64 0, .int .i64 0, .string ⟨#[]⟩] 43) := ⟨_, rfl⟩
  have B0 : Below w.heap.size w W0 := by rw [hW0]; exact box_below _ _
  obtain ⟨gr, hgr⟩ : ∃ n, n = w.heap.size := ⟨_, rfl⟩
  have kR : W0.heap[gr]? = some (.cells #[.string ⟨#[]⟩, .int .u64 0, .int .i64 0, .string ⟨#[]⟩] 43) := by rw [hW0, hgr]; exact new_at _ _
  have c0 := (H.later B0).c0
  have c1 := (H.later B0).c1
  have z0 := cell_of kR 0 (.string ⟨#[]⟩) rfl
  have z1 := cell_of kR 1 (.int .u64 0) rfl
  have z2 := cell_of kR 2 (.int .i64 0) rfl
  have z3 := cell_of kR 3 (.string ⟨#[]⟩) rfl
  have f0 := fz_of kR 0
  have f1 := fz_of kR 1
  have f2 := fz_of kR 2
  have f3 := fz_of kR 3
  replace hW0 := hid hW0
  replace hgr := hid hgr
  replace B0 := hid B0
  replace kR := hid kR
  clear H
  have hfin : Hid (∀ q, Below W0.heap.size W0 (W0.drewN q)) := fun q => drewN_below _ _
  unfold c4 ze
  dsimp only
  by_cases hneg : i < 0
  · clear hi
    go_enter Try.func16, Try.ntmps16
    go_wp2_with fail
    rw [← hW0.out, ← hgr.out]
    go_quiet (fail)
    go_wp2_with fail
    have bD := hfin.out nq
    generalize W0.drewN nq = D at *
    have kD := (bD.block gr (blk_lt kR.out)).trans kR.out
    have k4 := set_of (set_of (set_of (set_of kD 0 (.string ⟨#[]⟩)) 1 (.int .u64 0)) 2 (.int .i64 0)) 3 (.string ⟨#[]⟩)
    have BF : Below w.heap.size w ((((D.setCell ⟨gr, 0, none⟩ (.string ⟨#[]⟩)).setCell ⟨gr, 1, none⟩ (.int .u64 0)).setCell ⟨gr, 2, none⟩ (.int .i64 0)).setCell ⟨gr, 3, none⟩ (.string ⟨#[]⟩)) := by
      have h0 := Below.up B0.out bD
      have hg : w.heap.size ≤ gr := by rw [hgr.out]; exact Nat.le_refl _
      exact (((h0.setCell hg _).setCell hg _).setCell hg _).setCell hg _
    generalize hWF : (((D.setCell ⟨gr, 0, none⟩ (.string ⟨#[]⟩)).setCell ⟨gr, 1, none⟩ (.int .u64 0)).setCell ⟨gr, 2, none⟩ (.int .i64 0)).setCell ⟨gr, 3, none⟩ (.string ⟨#[]⟩) = WF at *
    have q0 := cell_of k4 0 (.string ⟨#[]⟩) rfl
    have q1 := cell_of k4 1 (.int .u64 0) rfl
    have q2 := cell_of k4 2 (.int .i64 0) rfl
    have q3 := cell_of k4 3 (.string ⟨#[]⟩) rfl
    exact bodyPost_ret (v := .tuple #[.agg #[.string ⟨#[]⟩, .int .u64 0, .int .i64 0, .string ⟨#[]⟩], .bool false]) (by simp [results, Try.results16, go_sem, q0, q1, q2, q3]) rfl ⟨rfl, BF⟩
  · have hi2 : (n : Int) ≤ i := by omega
    clear hi
    go_enter Try.func16, Try.ntmps16
    go_wp2_with fail
    rw [← hW0.out, ← hgr.out]
    go_quiet (fail)
    go_wp2_with fail
    have bD := hfin.out nq
    generalize W0.drewN nq = D at *
    have kD := (bD.block gr (blk_lt kR.out)).trans kR.out
    have k4 := set_of (set_of (set_of (set_of kD 0 (.string ⟨#[]⟩)) 1 (.int .u64 0)) 2 (.int .i64 0)) 3 (.string ⟨#[]⟩)
    have BF : Below w.heap.size w ((((D.setCell ⟨gr, 0, none⟩ (.string ⟨#[]⟩)).setCell ⟨gr, 1, none⟩ (.int .u64 0)).setCell ⟨gr, 2, none⟩ (.int .i64 0)).setCell ⟨gr, 3, none⟩ (.string ⟨#[]⟩)) := by
      have h0 := Below.up B0.out bD
      have hg : w.heap.size ≤ gr := by rw [hgr.out]; exact Nat.le_refl _
      exact (((h0.setCell hg _).setCell hg _).setCell hg _).setCell hg _
    generalize hWF : (((D.setCell ⟨gr, 0, none⟩ (.string ⟨#[]⟩)).setCell ⟨gr, 1, none⟩ (.int .u64 0)).setCell ⟨gr, 2, none⟩ (.int .i64 0)).setCell ⟨gr, 3, none⟩ (.string ⟨#[]⟩) = WF at *
    have q0 := cell_of k4 0 (.string ⟨#[]⟩) rfl
    have q1 := cell_of k4 1 (.int .u64 0) rfl
    have q2 := cell_of k4 2 (.int .i64 0) rfl
    have q3 := cell_of k4 3 (.string ⟨#[]⟩) rfl
    exact bodyPost_ret (v := .tuple #[.agg #[.string ⟨#[]⟩, .int .u64 0, .int .i64 0, .string ⟨#[]⟩], .bool false]) (by simp [results, Try.results16, go_sem, q0, q1, q2, q3]) rfl ⟨rfl, BF⟩
/-- The four cells of where it stands, and whether it stands at one. -/
def hv (ys : List E) (i : Int) : Array Value := c4 ((hr ys i).getD ze)
def hb (n : Nat) (i : Int) : Bool := decide (0 ≤ i) && decide (i < (n : Int))
theorem here_any (g : Nat) (a : Option Addr) (n c : Nat) (i : Int) (ys : List E) (w : World) (H : Lb w g a n c i) (HE : Ents w a n c ys) :
    Calls Try.prog 16 #[.pointer (some ⟨g, 0, none⟩)] w fun e w' => e = .returned (.tuple #[.agg (hv ys i), .bool (hb n i)]) ∧ Below w.heap.size w w' := by
  by_cases h : 0 ≤ i ∧ i < (n : Int)
  · obtain ⟨k, rfl⟩ : ∃ k : Nat, i = (k : Int) := ⟨i.toNat, by omega⟩
    have h1 : hv ys (k : Int) = c4 (ys.getD k ze) := by unfold hv hr; rw [if_pos ⟨h.1, by rw [HE.1]; exact h.2⟩]; rfl
    have h2 : hb n (k : Int) = true := by unfold hb; simp; omega
    rw [h1, h2]
    exact here_in g a n c k ys w H HE (by omega)
  · have h1 : hv ys i = c4 ze := by unfold hv hr; rw [if_neg (by rw [HE.1]; exact h)]; rfl
    have h2 : hb n i = false := by unfold hb; by_cases h0 : 0 ≤ i <;> simp [h0] <;> omega
    rw [h1, h2]
    exact here_out g a n c i w H (by omega)
set_option maxHeartbeats 1000000 in
theorem stand_any (g : Nat) (a : Option Addr) (n c : Nat) (i j : Int) (ys : List E) (w : World) (H : Lb w g a n c i) (HE : Ents w a n c ys) (hga : ∀ ad, a = some ad → 0 < n → ad.block ≠ g) :
    Calls Try.prog 41 #[.pointer (some ⟨g, 0, none⟩), .int .i64 j] w fun e w' => e = .returned (.bool (hb n j)) ∧ Lb w' g a n c j ∧ Fp (· = g) w w' := by
  obtain ⟨W1, hW1⟩ : ∃ W, W = w.setCell ⟨g, 1, none⟩ (.int .i64 j) := ⟨_, rfl⟩
  have H1 : Lb W1 g a n c j := by rw [hW1]; exact H.set j
  have F1 : Fp (· = g) w W1 := by rw [hW1]; exact Fp.set (P := (· = g)) (Fp.refl _ w) (g := g) (.inl rfl) 1 _
  have HE1 : Ents W1 a n c ys := by
    refine ⟨HE.1, HE.2.1, HE.2.2.1, HE.2.2.2.1, fun b o p hp hl => ⟨(HE.2.2.2.2 b o p hp hl).1, fun k hk => ?_⟩⟩
    have hne : b ≠ g := hga ⟨b, o, p⟩ hp hl
    obtain ⟨q0, q1, q2, q3⟩ := (HE.2.2.2.2 b o p hp hl).2 k hk
    have hblk : W1.heap[b]? = w.heap[b]? := F1.block b (block_lt_of_cell q0) hne
    exact ⟨(World.cell?_of_block (a := ⟨b, _, none⟩) hblk).trans q0, (World.cell?_of_block (a := ⟨b, _, none⟩) hblk).trans q1, (World.cell?_of_block (a := ⟨b, _, none⟩) hblk).trans q2, (World.cell?_of_block (a := ⟨b, _, none⟩) hblk).trans q3⟩
  have HH := hid (here_any g a n c j ys W1 H1 HE1)
  have c1 := H.c1
  have f1 := fz_of (show w.heap[g]? = _ from H) 1
  obtain ⟨hvv, hhv⟩ : ∃ v, v = hv ys j := ⟨_, rfl⟩
  obtain ⟨bb, hbb⟩ : ∃ v, v = hb n j := ⟨_, rfl⟩
  rw [← hhv, ← hbb] at HH
  rw [← hbb]
  have hs : ∃ k s c' v, hvv = #[.string k, .int .u64 s, .int .i64 c', .string v] := ⟨_, _, _, _, hhv⟩
  obtain ⟨k, s, c', v, rfl⟩ := hs
  replace hhv := hid hhv
  replace hbb := hid hbb
  replace H1 := hid H1
  replace F1 := hid F1
  replace hW1 := hid hW1
  clear H HE HE1 hga
  go_enter Try.func41, Try.ntmps41
  go_wp2_with fail
  rw [← hW1.out]
  refine HH.out.mono ?_
  rintro e w2 ⟨rfl, b2⟩
  have b3 : Hid (∀ o : Obj, Below W1.heap.size W1 (w2.alloc o)) := fun o => b2.alloc b2.size o
  clear b2 HH
  go_wp2_with fail
  go_ret
  exact ⟨rfl, H1.out.later (b3.out _), F1.out.below (b3.out _)⟩
end Go.Proofs.Ytgjodfaliajlgaa.Ls9

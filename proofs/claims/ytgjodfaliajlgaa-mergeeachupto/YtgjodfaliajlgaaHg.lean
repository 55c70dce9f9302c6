/- A heap's replace, by contract. -/
import Derived.Test.YtgjodfaliajlgaaHf
namespace Go.Proofs.Ytgjodfaliajlgaa.Hg
open Go.ChangeShapes Go.WideShapes Go.ChangeAt Go.RowKit
open Go.Sort (grow)
open Go.Proofs.Ytgjodfaliajlgaa.Gr hiding hid addr_add
open Go.Proofs.Ytgjodfaliajlgaa.Ik
open Go.Proofs.Ytgjodfaliajlgaa.Ee
open Go.Proofs.Ytgjodfaliajlgaa.Hp
open Go.Proofs.Ytgjodfaliajlgaa.Hm
open Go.Proofs.Ytgjodfaliajlgaa.Hs
set_option linter.unusedVariables false
set_option linter.unusedSimpArgs false

/-- The first head's entry turned. -/
def put0 (W : World) (g : Nat) (x : E) : World := (((W.setCell ⟨g, 1, none⟩ (.string x.k)).setCell ⟨g, 2, none⟩ (.int .u64 x.s)).setCell ⟨g, 3, none⟩ (.int .i64 x.c)).setCell ⟨g, 4, none⟩ (.string x.v)
theorem HRow.put0 {w : World} {g cap : Nat} {H : List Hd} (h : HRow w g cap H) (x : E) (hi : 0 < H.length) : HRow (put0 w g x) g cap (H.set 0 ⟨(H.getD 0 zh).f, x⟩) := by
  obtain ⟨cur, h1, h2, h3, h4⟩ := h
  have h0 := h4 0 hi 0 (by omega)
  refine ⟨_, set_block (set_block (set_block (set_block h1 _ _) _ _) _ _) _ _, by simpa using h2, by simpa using h3, ?_⟩
  intro j hj q hq
  rw [List.length_set] at hj
  by_cases e : 0 = j
  · subst e
    have hx : (H.set 0 ⟨(H.getD 0 zh).f, x⟩).getD 0 zh = ⟨(H.getD 0 zh).f, x⟩ := by simp [List.getD_eq_getElem?_getD, hi]
    rw [hx]
    have q0 : 0 < cur.size := by omega
    have q1 : 1 < cur.size := by omega
    have q2 : 2 < cur.size := by omega
    have q3 : 3 < cur.size := by omega
    have q4 : 4 < cur.size := by omega
    have hj5 : q = 0 ∨ q = 1 ∨ q = 2 ∨ q = 3 ∨ q = 4 := by omega
    rcases hj5 with rfl | rfl | rfl | rfl | rfl
    · simpa [hc, q0, q1, q2, q3, q4] using h0
    all_goals simp [hc, q0, q1, q2, q3, q4]
  · have hx : (H.set 0 ⟨(H.getD 0 zh).f, x⟩).getD j zh = H.getD j zh := by simp [List.getD_eq_getElem?_getD, List.getElem?_set_ne e]
    rw [hx, ← h4 j hj q hq]
    simp only [Array.getElem?_setIfInBounds]
    repeat' split
    all_goals first | rfl | omega
theorem put0_fp {g : Nat} {V W : World} (x : E) (h : Fp (· = g) V W) : Fp (· = g) V (put0 W g x) :=
  (((h.set (.inl rfl) 1 (.string x.k)).set (.inl rfl) 2 (.int .u64 x.s)).set (.inl rfl) 3 (.int .i64 x.c)).set (.inl rfl) 4 (.string x.v)
set_option maxHeartbeats 1000000 in
set_option maxRecDepth 20000 in
theorem replace_any (gm gl n cap : Nat) (sv : Value) (b : Bool) (H : List Hd) (x : E) (w : World) (h : HM w gm gl sv n cap b H) (hx : HP b 0 H) (hn : 0 < n) (hn8 : n ≤ 1048576) :
    Calls Try.prog 76 #[.pointer (some ⟨gm, 1, none⟩), .agg #[.string x.k, .int .u64 x.s, .int .i64 x.c, .string x.v]] w fun e w' => e = .returned (.tuple #[]) ∧ ∃ H', HM w' gm gl sv n cap b H' ∧ HP b 0 H' ∧ H'.Perm (H.set 0 ⟨(H.getD 0 zh).f, x⟩) ∧ Fp (· = gl) w w' := by
  obtain ⟨W0, hW0⟩ : ∃ W, W = w.alloc (.cells #[.string x.k, .int .u64 x.s, .int .i64 x.c, .string x.v] 43) := ⟨_, rfl⟩
  obtain ⟨g0, hg0⟩ : ∃ n, n = w.heap.size := ⟨_, rfl⟩
  have B0 : Below w.heap.size w W0 := by rw [hW0]; exact box_below _ _
  have hp : Hid (∃ WF, WF = put0 W0 gl x ∧ HM WF.drew gm gl sv n cap b (H.set 0 ⟨(H.getD 0 zh).f, x⟩) ∧ Fp (· = gl) w WF.drew) := by
    have hq := h.later B0
    have f := put0_fp x (Fp.refl (· = gl) W0)
    refine ⟨_, rfl, HM.later ?_ (drew_below _), (put0_fp x (Fp.of B0)).below (drew_below _)⟩
    exact ⟨(f.block gm (blk_lt hq.m) hq.ne.symm).trans hq.m, HRow.put0 hq.r x (by rw [hq.n]; exact hn), by rw [List.length_set]; exact hq.n, hq.ne⟩
  have hxr : Hid (HX b 0 0 (H.set 0 ⟨(H.getD 0 zh).f, x⟩)) := hx.root _
  have h0 := h.later B0
  have s1 := h0.s1
  obtain ⟨-, x1, x2, x3, x4⟩ := h0.r.cell 0 (by rw [h0.n]; exact hn)
  rw [Nat.zero_mul, Nat.zero_add] at x1 x2 x3 x4
  have k0 : W0.heap[g0]? = some (.cells #[.string x.k, .int .u64 x.s, .int .i64 x.c, .string x.v] 43) := by rw [hW0, hg0]; exact new_at _ _
  have z0 := cell_of k0 0 (.string x.k) rfl
  have z1 := cell_of k0 1 (.int .u64 x.s) rfl
  have z2 := cell_of k0 2 (.int .i64 x.c) rfl
  have z3 := cell_of k0 3 (.string x.v) rfl
  have f1 := h0.r.fz 1
  have f2 := h0.r.fz 2
  have f3 := h0.r.fz 3
  have f4 := h0.r.fz 4
  have i1 : (0 : Int) < (n : Int) := by omega
  unfold put0 at hp
  generalize H.set 0 ⟨(H.getD 0 zh).f, x⟩ = H2 at *
  obtain ⟨xk, xs, xc, xv⟩ := x
  dsimp only at hp hW0 z0 z1 z2 z3 ⊢
  replace hW0 := hid hW0
  replace hg0 := hid hg0
  clear h h0 k0 B0 hx
  go_enter Try.func76, Try.ntmps76
  go_wp2_with fail
  rw [← hW0.out, ← hg0.out]
  go_region
  go_wp2_with fail
  obtain ⟨WF, hWF, MF, FF⟩ := hp.out
  rw [← hWF]
  have hS := hid (sink_any gm gl n cap 0 0 sv b H2 WF.drew MF hxr.out (.inl hn) hn8)
  replace FF := hid FF
  clear MF hp hxr
  refine hS.out.mono ?_
  rintro e w2 ⟨rfl, H3, M3, P3, Q3, F3⟩
  have hfin : Hid (HM w2 gm gl sv n cap b H3 ∧ HP b 0 H3 ∧ H3.Perm H2 ∧ Fp (· = gl) w w2) := ⟨M3, P3, Q3, FF.out.tr (F3.wide (fun j _ h => .inl h))⟩
  clear M3 P3 Q3 F3 hS
  go_wp2_with fail
  exact bodyPost_end (results_none rfl _ _ _) rfl ⟨rfl, H3, hfin.out⟩
end Go.Proofs.Ytgjodfaliajlgaa.Hg

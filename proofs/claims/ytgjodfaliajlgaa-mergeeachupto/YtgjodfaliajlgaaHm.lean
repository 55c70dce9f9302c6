/- Heads in memory: their row, a merged cursor's block; compare, isAbove, isEmpty, top by contract. -/
import Derived.Test.YtgjodfaliajlgaaHp
import Derived.Test.YtgjodfaliajlgaaSk9
namespace Go.Proofs.Ytgjodfaliajlgaa.Hm
open Go.ChangeShapes Go.WideShapes Go.ChangeAt Go.RowKit
open Go.Sort (grow)
open Go.Proofs.Ytgjodfaliajlgaa.Gr hiding hid addr_add
open Go.Proofs.Ytgjodfaliajlgaa.Ik
open Go.Proofs.Ytgjodfaliajlgaa.Ee
open Go.Proofs.Ytgjodfaliajlgaa.Cm (ik)
open Go.Proofs.Ytgjodfaliajlgaa.Hp
open Go.Proofs.Ytgjodfaliajlgaa.Sk9 (mkeyOf_any)
set_option linter.unusedVariables false
set_option linter.unusedSimpArgs false

def hc (x : Hd) : List Value := [.int .i64 x.f, .string x.e.k, .int .u64 x.e.s, .int .i64 x.e.c, .string x.e.v]
/-- Block g, room for cap heads; its first ones are H. -/
def HRow (w : World) (g cap : Nat) (H : List Hd) : Prop :=
  ∃ cur : Array Value, w.heap[g]? = some (.cells cur 79 (0, 0)) ∧ cur.size = cap * 5 ∧ H.length ≤ cap ∧ ∀ i, i < H.length → ∀ j, j < 5 → cur[i * 5 + j]? = (hc (H.getD i zh))[j]?
theorem HRow.lt {w : World} {g cap : Nat} {H : List Hd} (h : HRow w g cap H) : g < w.heap.size := by
  obtain ⟨cur, h1, _⟩ := h
  exact (Array.getElem?_eq_some_iff.1 h1).1
theorem HRow.le {w : World} {g cap : Nat} {H : List Hd} (h : HRow w g cap H) : H.length ≤ cap := by
  obtain ⟨cur, h1, h2, h3, h4⟩ := h; exact h3
theorem HRow.fz {w : World} {g cap : Nat} {H : List Hd} (h : HRow w g cap H) (o : Nat) : w.frozen? ⟨g, o, none⟩ = false := by
  obtain ⟨cur, h1, _⟩ := h
  simp [World.frozen?, h1]
theorem HRow.block {w w' : World} {g cap : Nat} {H : List Hd} (h : HRow w g cap H) (hb : w'.heap[g]? = w.heap[g]?) : HRow w' g cap H := by
  obtain ⟨cur, h1, h2⟩ := h
  exact ⟨cur, hb.trans h1, h2⟩
theorem HRow.later {w w' : World} {g cap : Nat} {H : List Hd} (h : HRow w g cap H) (b : Below w.heap.size w w') : HRow w' g cap H := h.block (b.block g h.lt)
/-- A head lies at a place. -/
structure At5 (w : World) (g o : Nat) (x : Hd) : Prop where
  c0 : w.cell? ⟨g, o, none⟩ = some (.int .i64 x.f)
  c1 : w.cell? ⟨g, o + 1, none⟩ = some (.string x.e.k)
  c2 : w.cell? ⟨g, o + 2, none⟩ = some (.int .u64 x.e.s)
  c3 : w.cell? ⟨g, o + 3, none⟩ = some (.int .i64 x.e.c)
  c4 : w.cell? ⟨g, o + 4, none⟩ = some (.string x.e.v)
theorem HRow.cell {w : World} {g cap : Nat} {H : List Hd} (h : HRow w g cap H) (i : Nat) (hi : i < H.length) : At5 w g (i * 5) (H.getD i zh) := by
  obtain ⟨cur, h1, h2, h3, h4⟩ := h
  have hq := h4 i hi
  have hw : ∀ j, j < 5 → w.cell? ⟨g, i * 5 + j, none⟩ = (hc (H.getD i zh))[j]? := fun j hj => by
    rw [← hq j hj]
    simp [World.cell?, h1]
  exact ⟨hw 0 (by omega), hw 1 (by omega), hw 2 (by omega), hw 3 (by omega), hw 4 (by omega)⟩
/-- A head stored at a place. -/
def st5 (W : World) (g o : Nat) (x : Hd) : World := ((((W.setCell ⟨g, o, none⟩ (.int .i64 x.f)).setCell ⟨g, o + 1, none⟩ (.string x.e.k)).setCell ⟨g, o + 2, none⟩ (.int .u64 x.e.s)).setCell ⟨g, o + 3, none⟩ (.int .i64 x.e.c)).setCell ⟨g, o + 4, none⟩ (.string x.e.v)
theorem set_block {w : World} {g : Nat} {c : Array Value} (h : w.heap[g]? = some (.cells c 79 (0, 0))) (o : Nat) (v : Value) : (w.setCell ⟨g, o, none⟩ v).heap[g]? = some (.cells (c.setIfInBounds o v) 79 (0, 0)) := by
  simp [World.setCell, Array.getElem?_modify, h]
theorem HRow.set {w : World} {g cap : Nat} {H : List Hd} (h : HRow w g cap H) (i : Nat) (x : Hd) (hi : i < H.length) : HRow (st5 w g (i * 5) x) g cap (H.set i x) := by
  obtain ⟨cur, h1, h2, h3, h4⟩ := h
  refine ⟨_, set_block (set_block (set_block (set_block (set_block h1 _ _) _ _) _ _) _ _) _ _, by simpa using h2, by simpa using h3, ?_⟩
  intro j hj q hq
  rw [List.length_set] at hj
  by_cases e : i = j
  · subst e
    have hx : (H.set i x).getD i zh = x := by simp [List.getD_eq_getElem?_getD, hi]
    rw [hx]
    have q0 : i * 5 < cur.size := by omega
    have q1 : i * 5 + 1 < cur.size := by omega
    have q2 : i * 5 + 2 < cur.size := by omega
    have q3 : i * 5 + 3 < cur.size := by omega
    have q4 : i * 5 + 4 < cur.size := by omega
    have hj5 : q = 0 ∨ q = 1 ∨ q = 2 ∨ q = 3 ∨ q = 4 := by omega
    rcases hj5 with rfl | rfl | rfl | rfl | rfl <;> simp [hc, q0, q1, q2, q3, q4]
  · have hx : (H.set i x).getD j zh = H.getD j zh := by simp [List.getD_eq_getElem?_getD, List.getElem?_set_ne e]
    rw [hx, ← h4 j hj q hq]
    simp only [Array.getElem?_setIfInBounds]
    repeat' split
    all_goals first | rfl | omega
theorem st5_fp {g : Nat} {V W : World} (o : Nat) (x : Hd) (h : Fp (· = g) V W) : Fp (· = g) V (st5 W g o x) :=
  ((((h.set (.inl rfl) o (.int .i64 x.f)).set (.inl rfl) (o + 1) (.string x.e.k)).set (.inl rfl) (o + 2) (.int .u64 x.e.s)).set (.inl rfl) (o + 3) (.int .i64 x.e.c)).set (.inl rfl) (o + 4) (.string x.e.v)
/-- A merged cursor's block, and its heads. -/
structure HM (w : World) (gm gl : Nat) (sv : Value) (n cap : Nat) (b : Bool) (H : List Hd) : Prop where
  m : w.heap[gm]? = some (.cells #[sv, .slice (some ⟨gl, 0, none⟩) n cap, .bool b] 61)
  r : HRow w gl cap H
  n : H.length = n
  ne : gl ≠ gm
theorem HM.later {w w' : World} {gm gl : Nat} {sv : Value} {n cap : Nat} {b : Bool} {H : List Hd} (h : HM w gm gl sv n cap b H) (bl : Below w.heap.size w w') : HM w' gm gl sv n cap b H :=
  ⟨(bl.block gm (blk_lt h.m)).trans h.m, h.r.later bl, h.n, h.ne⟩
theorem HM.s1 {w : World} {gm gl : Nat} {sv : Value} {n cap : Nat} {b : Bool} {H : List Hd} (h : HM w gm gl sv n cap b H) : w.cell? ⟨gm, 1, none⟩ = some (.slice (some ⟨gl, 0, none⟩) n cap) := cell_of h.m 1 _ rfl
theorem HM.s2 {w : World} {gm gl : Nat} {sv : Value} {n cap : Nat} {b : Bool} {H : List Hd} (h : HM w gm gl sv n cap b H) : w.cell? ⟨gm, 2, none⟩ = some (.bool b) := cell_of h.m 2 _ rfl
def hv (x : Hd) : Value := .agg #[.int .i64 x.f, .string x.e.k, .int .u64 x.e.s, .int .i64 x.e.c, .string x.e.v]
theorem ccomp_any (a b : Nat) (w : World) : Calls Try.prog 51 #[.int .i64 a, .int .i64 b] w fun e w' => e = .returned (.int .i64 (cI a b)) ∧ w' = w := by
  unfold cI
  by_cases h1 : a < b
  · rw [if_pos h1]
    have k1 : (a : Int) < (b : Int) := by omega
    go_enter Try.func51, Try.ntmps51
    go_wp2
    go_ret
    exact ⟨rfl, rfl⟩
  · rw [if_neg h1]
    have k1 : ¬ (a : Int) < (b : Int) := by omega
    by_cases h2 : b < a
    · rw [if_pos h2]
      have k2 : (b : Int) < (a : Int) := by omega
      go_enter Try.func51, Try.ntmps51
      go_wp2
      go_ret
      exact ⟨rfl, rfl⟩
    · rw [if_neg h2]
      have k2 : ¬ (b : Int) < (a : Int) := by omega
      go_enter Try.func51, Try.ntmps51
      go_wp2
      go_ret
      exact ⟨rfl, rfl⟩
set_option maxHeartbeats 1000000 in
theorem hcompare_any (x y : Hd) (w : World) :
    Calls Try.prog 86 #[hv x, hv y] w fun e w' => e = .returned (.int .i64 (cH x y)) ∧ Below w.heap.size w w' := by
  obtain ⟨f, k, s, c, v⟩ := x
  obtain ⟨f', k', s', c', v'⟩ := y
  unfold hv
  dsimp only
  obtain ⟨W, hW⟩ : ∃ W, W = (w.alloc (.cells #[.int .i64 f, .string k, .int .u64 s, .int .i64 c, .string v] 79)).alloc (.cells #[.int .i64 f', .string k', .int .u64 s', .int .i64 c', .string v'] 79) := ⟨_, rfl⟩
  have HB : Hid (Below w.heap.size w W) := by
    rw [hW]; exact ((Below.refl _ _).alloc (Nat.le_refl _) _).alloc (by simp) _
  obtain ⟨g, hg⟩ : ∃ g, g = w.heap.size := ⟨_, rfl⟩
  have c0 : W.cell? ⟨g, 0, none⟩ = some (.int .i64 f) := by rw [hW, hg]; go_simp
  have c1 : W.cell? ⟨g, 1, none⟩ = some (.string k) := by rw [hW, hg]; go_simp
  have c2 : W.cell? ⟨g, 2, none⟩ = some (.int .u64 s) := by rw [hW, hg]; go_simp
  have c3 : W.cell? ⟨g, 3, none⟩ = some (.int .i64 c) := by rw [hW, hg]; go_simp
  have c4 : W.cell? ⟨g, 4, none⟩ = some (.string v) := by rw [hW, hg]; go_simp
  have k0 : W.cell? ⟨g + 1, 0, none⟩ = some (.int .i64 f') := by rw [hW, hg]; go_simp
  have k1 : W.cell? ⟨g + 1, 1, none⟩ = some (.string k') := by rw [hW, hg]; go_simp
  have k2 : W.cell? ⟨g + 1, 2, none⟩ = some (.int .u64 s') := by rw [hW, hg]; go_simp
  have k3 : W.cell? ⟨g + 1, 3, none⟩ = some (.int .i64 c') := by rw [hW, hg]; go_simp
  have k4 : W.cell? ⟨g + 1, 4, none⟩ = some (.string v') := by rw [hW, hg]; go_simp
  have d1 := fun d os => cell_regrown c1 d os
  have d2 := fun d os => cell_regrown c2 d os
  have d3 := fun d os => cell_regrown c3 d os
  have d4 := fun d os => cell_regrown c4 d os
  have d5 := fun d os => cell_regrown k1 d os
  have d6 := fun d os => cell_regrown k2 d os
  have d7 := fun d os => cell_regrown k3 d os
  have d8 := fun d os => cell_regrown k4 d os
  have HW : Hid (W = (w.alloc (.cells #[.int .i64 f, .string k, .int .u64 s, .int .i64 c, .string v] 79)).alloc (.cells #[.int .i64 f', .string k', .int .u64 s', .int .i64 c', .string v'] 79)) := hW
  have HG : Hid (g = w.heap.size) := hg
  have hcH : Hid (cH ⟨f, ⟨k, s, c, v⟩⟩ ⟨f', ⟨k', s', c', v'⟩⟩ = if cmp (ik k s c) (ik k' s' c') ≠ 0 then cmp (ik k s c) (ik k' s' c') else cI f f') := rfl
  clear hW hg
  have HC : Hid (∀ W, Calls Try.prog 32 #[.agg #[.string k, .int .u64 s, .int .i64 c], .agg #[.string k', .int .u64 s', .int .i64 c']] W fun e w' => e = .returned (.int .i64 (cmp (ik k s c) (ik k' s' c'))) ∧ Below W.heap.size W w') := fun W => compare_below _ _ _ _ _ _ W
  generalize cmp (ik k s c) (ik k' s' c') = C at *
  obtain ⟨R, hR⟩ : ∃ R, R = cH ⟨f, ⟨k, s, c, v⟩⟩ ⟨f', ⟨k', s', c', v'⟩⟩ := ⟨_, rfl⟩
  rw [← hR] at hcH ⊢
  replace hR := hid hR
  go_enter Try.func86, Try.ntmps86
  go_wp2_with fail
  rw [← HW.out, ← HG.out]
  refine wp_region_quiet_below (by kernel_rfl) (by kernel_rfl) ?_
  repeat (quiet_step (first | (go_at_call 58; exact Calls.regrown_of (mkeyOf_any _ _ _ _ _)) | (go_at_call 32; exact Calls.regrown_of (HC.out _))))
  refine wpQuiet_nil ?_
  intro w3 hw3
  have b3 : Below W.heap.size W w3 := by
    obtain ⟨⟨dq, osq⟩, hw''⟩ := hw3
    rw [hw'']
    exact below_regrown _ dq osq
  have HB1 : Hid (Below w.heap.size w w3) := Below.up HB.out b3
  have z0 := (b3.cell (block_lt_of_cell c0)).trans c0
  have z1 := (b3.cell (block_lt_of_cell k0)).trans k0
  clear hw3 b3 c0 c1 c2 c3 c4 k0 k1 k2 k3 k4 d1 d2 d3 d4 d5 d6 d7 d8 HC
  by_cases hC : C = 0
  · have hR0 : R = cI f f' := by rw [hcH.out, if_neg (by simpa using hC)]
    replace hR0 := hid hR0
    have hC2 : (C != 0) = false := by simpa using hC
    have HI := hid (ccomp_any f f' w3)
    clear hC hcH hR
    go_wp2_with fail
    refine HI.out.mono ?_
    rintro e w4 ⟨rfl, rfl⟩
    go_wp2_with fail
    go_ret
    exact ⟨by rw [hR0.out]; rfl, HB1.out⟩
  · have hR0 : R = C := by rw [hcH.out, if_pos hC]
    have hC2 : (C != 0) = true := by simpa using hC
    replace hR0 := hid hR0
    clear hC hcH hR
    go_wp2_with fail
    go_ret
    exact ⟨by rw [hR0.out]; rfl, HB1.out⟩
set_option maxHeartbeats 1000000 in
theorem isabove_any (gm gl i j : Nat) (sv : Value) (n cap : Nat) (b : Bool) (H : List Hd) (w : World) (h : HM w gm gl sv n cap b H) (hi : i < n) (hj : j < n) :
    Calls Try.prog 84 #[.pointer (some ⟨gm, 1, none⟩), .int .i64 i, .int .i64 j] w fun e w' => e = .returned (.bool (ab b (H.getD i zh) (H.getD j zh))) ∧ Below w.heap.size w w' := by
  have s1 := cell_regrown h.s1
  have s2 := h.s2
  have x := h.r.cell i (by rw [h.n]; exact hi)
  have y := h.r.cell j (by rw [h.n]; exact hj)
  generalize H.getD i zh = u at *
  generalize H.getD j zh = v at *
  have HC := hid (fun W => hcompare_any u v W)
  have hR : Hid (ab b u v = if b then decide (0 < cH u v) else decide (cH u v < 0)) := rfl
  generalize ab b u v = R at *
  generalize cH u v = C at *
  unfold hv at HC
  obtain ⟨uf, uk, us, uc, uv⟩ := u
  obtain ⟨vf, vk, vs, vc, vv⟩ := v
  obtain ⟨x0, x1, x2, x3, x4⟩ := x
  obtain ⟨y0, y1, y2, y3, y4⟩ := y
  dsimp only at x0 x1 x2 x3 x4 y0 y1 y2 y3 y4 HC
  replace x0 := cell_regrown x0
  replace x1 := cell_regrown x1
  replace x2 := cell_regrown x2
  replace x3 := cell_regrown x3
  replace x4 := cell_regrown x4
  replace y0 := cell_regrown y0
  replace y1 := cell_regrown y1
  replace y2 := cell_regrown y2
  replace y3 := cell_regrown y3
  replace y4 := cell_regrown y4
  have i1 : (i : Int) < (n : Int) := by omega
  have i2 : (0 : Int) ≤ (i : Int) := by omega
  have j1 : (j : Int) < (n : Int) := by omega
  have j2 : (0 : Int) ≤ (j : Int) := by omega
  clear h
  go_enter Try.func84, Try.ntmps84
  go_wp2_with fail
  refine wp_region_quiet_below (by kernel_rfl) (by kernel_rfl) ?_
  repeat (first | go_big_quiet_step (first | (go_at_call 86; exact Calls.regrown_of (HC.out _))) | quiet_step (first | (go_at_call 86; exact Calls.regrown_of (HC.out _))))
  refine wpQuiet_nil ?_
  intro w3 hw3
  have b3 : Below w.heap.size w w3 := by
    obtain ⟨⟨dq, osq⟩, hw''⟩ := hw3
    rw [hw'']
    exact below_regrown _ dq osq
  have z2 := (b3.cell (block_lt_of_cell s2)).trans s2
  replace b3 := hid b3
  clear hw3 s1 s2 x0 x1 x2 x3 x4 y0 y1 y2 y3 y4 HC
  cases b with
  | true =>
    have hR2 : Hid (R = decide (0 < C)) := hid hR.out
    clear hR
    go_wp2_with fail
    go_ret
    exact ⟨Gr.ret_bool hR2.out.symm, b3.out⟩
  | false =>
    have hR2 : Hid (R = decide (C < 0)) := hid hR.out
    clear hR
    go_wp2_with fail
    go_ret
    exact ⟨Gr.ret_bool hR2.out.symm, b3.out⟩
theorem isempty_any (gm : Nat) (a : Option Addr) (n cap : Nat) (w : World) (h : w.cell? ⟨gm, 1, none⟩ = some (.slice a n cap)) :
    Calls Try.prog 45 #[.pointer (some ⟨gm, 1, none⟩)] w fun e w' => e = .returned (.bool (decide (n = 0))) ∧ w' = w := by
  cases n with
  | zero =>
    go_enter Try.func45, Try.ntmps45
    go_wp2
    go_ret
    exact ⟨rfl, rfl⟩
  | succ n =>
    have k1 : (((n + 1 : Nat) : Int) == 0) = false := by rw [beq_eq_false_iff_ne]; omega
    go_enter Try.func45, Try.ntmps45
    go_wp2
    go_ret
    exact ⟨rfl, rfl⟩
end Go.Proofs.Ytgjodfaliajlgaa.Hm

/- A merged cursor's First, its Here and From. -/
import Derived.Test.YtgjodfaliajlgaaGb9
namespace Go.Proofs.Ytgjodfaliajlgaa.Gd9
open Go.ChangeShapes Go.WideShapes Go.ChangeAt Go.RowKit
open Go.Sort (grow)
open Go.Proofs.Ytgjodfaliajlgaa.Gr hiding hid addr_add
open Go.Proofs.Ytgjodfaliajlgaa.Ac
open Go.Proofs.Ytgjodfaliajlgaa.Ik
open Go.Proofs.Ytgjodfaliajlgaa.Ee
open Go.Proofs.Ytgjodfaliajlgaa.Hp
open Go.Proofs.Ytgjodfaliajlgaa.Hm hiding hv
open Go.Proofs.Ytgjodfaliajlgaa.Ls9 (Lb c4 hr hv hb)
open Go.Proofs.Ytgjodfaliajlgaa.Lm9
open Go.Proofs.Ytgjodfaliajlgaa.Gc9
open Go.Proofs.Ytgjodfaliajlgaa.Ga9
open Go.Proofs.Ytgjodfaliajlgaa.Gb9
set_option linter.unusedVariables false
set_option linter.unusedSimpArgs false

/-- What a move leaves: the sources stand at q, the heap holds their heads. -/
structure Stands (w w' : World) (gm gs N cs : Nat) (bk : Bool) (S : List Src) (q : Nat → Int) (H' : List Hd) : Prop where
  ex : ∃ gl c, HM w' gm gl (.slice (some ⟨gs, 0, none⟩) N cs) (hds S q N).length c bk H'
  o : Own w' S q
  p : HP bk 0 H'
  q : H'.Perm (hds S q N)
  f : Fp (fun j => Mine S j ∨ j = gm) w w'
def Fills (gm gs N cs : Nat) (bk b0 : Bool) (hv0 : Value) (H : List Hd) : Prop := ∀ W gl c, HRow W gl c H → W.heap[gm]? = some (.cells #[.slice (some ⟨gs, 0, none⟩) N cs, hv0, .bool b0] 61) → gl ≠ gm → Calls Try.prog 68 #[.pointer (some ⟨gm, 1, none⟩), .slice (some ⟨gl, 0, none⟩) H.length c, .bool bk] W fun e W' => e = .returned (.tuple #[]) ∧ ∃ H', HM W' gm gl (.slice (some ⟨gs, 0, none⟩) N cs) H.length c bk H' ∧ HP bk 0 H' ∧ H'.Perm H ∧ Fp (fun j => j = gm ∨ j = gl) W W'
theorem fills_small (gm gs N cs : Nat) (bk b0 : Bool) (hv0 : Value) (H : List Hd) (h : H.length ≤ 1) : Fills gm gs N cs bk b0 hv0 H :=
  fun W gl c hr hm hne => fill_small gm gl H.length c bk b0 _ hv0 H W hr rfl h hm hne
set_option maxHeartbeats 1000000 in
set_option maxRecDepth 20000 in
theorem start_any (gm gs N cs : Nat) (bk b0 : Bool) (hv0 : Value) (S : List Src) (p q : Nat → Int) (w : World) (HM0 : Mg w gm gs N cs hv0 b0 S) (hN8 : N ≤ 1048576) (hO : Own w S p) (hms : ¬ Mine S gs) (hmm : ¬ Mine S gm) (hq : ∀ f, q f = to bk (S.getD f zs).n) (hga : ∀ f, f < S.length → (S.getD f zs).nil = false → (S.getD f zs).ga ≠ gm) (HF : Fills gm gs N cs bk b0 hv0 (hds S q N)) :
    Calls Try.prog 47 #[.pointer (some ⟨gm, 0, none⟩), .bool bk] w fun e w' => ∃ H', e = .returned (.bool (!decide ((hds S q N).length = 0))) ∧ Stands w w' gm gs N cs bk S q H' := by
  have hmf : ∀ (fn : Fn) (first cap : Array Value) (w : World), (Instr.makeFunc fn first cap).run Try.prog w = .ok (.func fn first cap) w := fun _ _ _ _ => rfl
  obtain ⟨W0, hW0⟩ : ∃ W, W = w.alloc (.cells #[.bool bk] 4) := ⟨_, rfl⟩
  obtain ⟨gk, hgk⟩ : ∃ g, g = w.heap.size := ⟨_, rfl⟩
  have B0 : Below w.heap.size w W0 := by rw [hW0]; exact box_below _ _
  have kk : W0.cell? ⟨gk, 0, none⟩ = some (.bool bk) := by rw [hW0, hgk]; exact cell_of (new_at _ _) 0 _ rfl
  have HG := gather_any gm gs N cs gk bk b0 hv0 S p q W0 ((B0.block gm (blk_lt HM0.m)).trans HM0.m) HM0.n hN8 (fun f hf => (B0.cell (block_lt_of_cell (HM0.s f hf))).trans (HM0.s f hf)) (hO.later B0) hms hmm (fun h => by have := hO.mine h; omega) kk hq hga HF
  replace HG := hid HG
  replace hW0 := hid hW0
  replace hgk := hid hgk
  have hF0 : Hid (∀ w', Fp (fun j => Mine S j ∨ j = gm) W0 w' → Fp (fun j => Mine S j ∨ j = gm) w w') := fun w' h => (Fp.of B0).tr (h.wide (fun j _ h => .inl h))
  clear HM0 hO hms hmm hga HF B0 kk
  generalize hdd : (!decide ((hds S q N).length = 0)) = dd at *
  replace hdd := hid hdd
  go_enter Try.func47, Try.ntmps47
  go_wp2_with fail
  rw [← hW0.out, ← hgk.out]
  refine HG.out.mono ?_
  rintro e w1 ⟨gl, c, H', rfl, o1, m1, p1, q1, f1⟩
  have hfin : Hid (Stands w w1 gm gs N cs bk S q H') := ⟨⟨gl, c, m1⟩, o1, p1, q1, hF0.out _ f1⟩
  clear o1 m1 p1 q1 f1 HG
  go_wp2_with fail
  go_ret
  exact ⟨H', rfl, hfin.out⟩
set_option maxHeartbeats 1000000 in
set_option maxRecDepth 20000 in
theorem mfirst_any (gm gs N cs : Nat) (b0 : Bool) (hv0 : Value) (S : List Src) (p q : Nat → Int) (w : World) (HM0 : Mg w gm gs N cs hv0 b0 S) (hN8 : N ≤ 1048576) (hO : Own w S p) (hms : ¬ Mine S gs) (hmm : ¬ Mine S gm) (hq : ∀ f, q f = 0) (hga : ∀ f, f < S.length → (S.getD f zs).nil = false → (S.getD f zs).ga ≠ gm) (HF : Fills gm gs N cs false b0 hv0 (hds S q N)) :
    Calls Try.prog 29 #[.pointer (some ⟨gm, 0, none⟩)] w fun e w' => ∃ H', e = .returned (.bool (!decide ((hds S q N).length = 0))) ∧ Stands w w' gm gs N cs false S q H' := by
  have HS := hid (start_any gm gs N cs false b0 hv0 S p q w HM0 hN8 hO hms hmm hq hga HF)
  have HI := hid (isnone_some gm N cs ⟨gs, 0, none⟩ w (cell_of HM0.m 0 _ rfl))
  clear HM0 hO hms hmm hga HF
  generalize (!decide ((hds S q N).length = 0)) = dd at *
  go_enter Try.func29, Try.ntmps29
  go_wp2_with fail
  refine HI.out.mono ?_
  rintro e w1 ⟨rfl, rfl⟩
  go_wp2_with fail
  refine HS.out.mono ?_
  rintro e w2 ⟨H', rfl, hfin⟩
  replace hfin := hid hfin
  clear HS HI
  go_wp2_with fail
  go_ret
  exact ⟨H', rfl, hfin.out⟩
set_option maxHeartbeats 1000000 in
set_option maxRecDepth 20000 in
theorem top_any (gm gl n cap : Nat) (sv : Value) (b : Bool) (H : List Hd) (w : World) (h : HM w gm gl sv n cap b H) (hn : 0 < n) :
    Calls Try.prog 46 #[.pointer (some ⟨gm, 1, none⟩)] w fun e w' => e = .returned (Hm.hv (H.getD 0 zh)) ∧ Below w.heap.size w w' := by
  obtain ⟨W0, hW0⟩ : ∃ W, W = w.alloc (.cells #[.int .i64 0, .string ⟨#[]⟩, .int .u64 0, .int .i64 0, .string ⟨#[]⟩] 79) := ⟨_, rfl⟩
  have B0 : Below w.heap.size w W0 := by rw [hW0]; exact box_below _ _
  have h0 := h.later B0
  have s1 := h0.s1
  obtain ⟨x0, x1, x2, x3, x4⟩ := h0.r.cell 0 (by rw [h0.n]; exact hn)
  generalize H.getD 0 zh = u at *
  obtain ⟨uf, ⟨uk, us, uc, uv⟩⟩ := u
  dsimp only at x0 x1 x2 x3 x4
  have i1 : (0 : Int) < (n : Int) := by omega
  rw [hW0] at s1 x0 x1 x2 x3 x4
  replace hW0 := hid hW0
  clear h h0 B0
  unfold Hm.hv
  go_enter Try.func46, Try.ntmps46
  go_wp2_with fail
  exact bodyPost_ret (v := .agg #[.int .i64 uf, .string uk, .int .u64 us, .int .i64 uc, .string uv]) (by simp [results, Try.results46, go_sem]) rfl ⟨rfl, box_below _ _⟩
/-- A merged cursor that is none: nil, or as it is declared. -/
def None (w : World) (v : Value) : Prop := v = .pointer none ∨ ∃ gm, v = .pointer (some ⟨gm, 0, none⟩) ∧ w.cell? ⟨gm, 0, none⟩ = some (.slice none 0 0)
theorem None.later {w w' : World} {v : Value} (h : None w v) (b : Below w.heap.size w w') : None w' v := by
  rcases h with h | ⟨gm, h1, h2⟩
  · exact .inl h
  · exact .inr ⟨gm, h1, (b.cell (block_lt_of_cell h2)).trans h2⟩
theorem isnone_any (v : Value) (w : World) (h : None w v) : Calls Try.prog 44 #[v] w fun e w' => e = .returned (.bool true) ∧ w' = w := by
  rcases h with rfl | ⟨gm, rfl, h2⟩
  · exact isnone_nil w
  · exact isnone_plain gm 0 0 w h2
set_option maxHeartbeats 1000000 in
set_option maxRecDepth 20000 in
theorem here_none (v : Value) (w : World) (h : None w v) : Calls Try.prog 26 #[v] w fun e w' => e = .returned (.tuple #[.agg (c4 ze), .bool false]) ∧ Below w.heap.size w w' := by
  have HI := hid (isnone_any v (w.alloc (.cells #[.string ⟨#[]⟩, .int .u64 0, .int .i64 0, .string ⟨#[]⟩] 43)) (h.later (box_below _ _)))
  have BF : Hid (Below w.heap.size w (w.alloc (.cells #[.string ⟨#[]⟩, .int .u64 0, .int .i64 0, .string ⟨#[]⟩] 43))) := box_below _ _
  unfold c4 ze
  dsimp only
  go_enter Try.func26, Try.ntmps26
  go_wp2_with fail
  refine HI.out.mono ?_
  rintro e w1 ⟨rfl, rfl⟩
  go_wp2_with fail
  exact bodyPost_ret (v := .tuple #[.agg #[.string ⟨#[]⟩, .int .u64 0, .int .i64 0, .string ⟨#[]⟩], .bool false]) (by simp [results, Try.results26, go_sem]) rfl ⟨rfl, BF.out⟩
theorem field_e (f uk us uc uv) (w : World) : (Instr.field 79 (.agg #[.int .i64 f, .string uk, .int .u64 us, .int .i64 uc, .string uv]) 1).run Try.prog w = .ok (.agg #[.string uk, .int .u64 us, .int .i64 uc, .string uv]) w := by kernel_rfl
theorem field_f (f uk us uc uv) (w : World) : (Instr.field 79 (.agg #[.int .i64 f, .string uk, .int .u64 us, .int .i64 uc, .string uv]) 0).run Try.prog w = .ok (.int .i64 f) w := by kernel_rfl
set_option maxHeartbeats 1000000 in
theorem from_none (v : Value) (w : World) (h : None w v) : Calls Try.prog 27 #[v] w fun e w' => e = .returned (.int .i64 0) ∧ w' = w := by
  have HI := hid (isnone_any v w h)
  go_enter Try.func27, Try.ntmps27
  go_wp2_with fail
  refine HI.out.mono ?_
  rintro e w1 ⟨rfl, rfl⟩
  go_wp2_with fail
  go_ret
  exact ⟨rfl, rfl⟩
set_option maxHeartbeats 1000000 in
set_option maxRecDepth 20000 in
theorem here_at (gm gs N cs gl n cap : Nat) (b : Bool) (H : List Hd) (w : World) (h : HM w gm gl (.slice (some ⟨gs, 0, none⟩) N cs) n cap b H) (hn : 0 < n) :
    Calls Try.prog 26 #[.pointer (some ⟨gm, 0, none⟩)] w fun e w' => e = .returned (.tuple #[.agg (c4 (H.getD 0 zh).e), .bool true]) ∧ Below w.heap.size w w' := by
  obtain ⟨W0, hW0⟩ : ∃ W, W = w.alloc (.cells #[.string ⟨#[]⟩, .int .u64 0, .int .i64 0, .string ⟨#[]⟩] 43) := ⟨_, rfl⟩
  obtain ⟨gr, hgr⟩ : ∃ n, n = w.heap.size := ⟨_, rfl⟩
  have B0 : Below w.heap.size w W0 := by rw [hW0]; exact box_below _ _
  have kR : W0.heap[gr]? = some (.cells #[.string ⟨#[]⟩, .int .u64 0, .int .i64 0, .string ⟨#[]⟩] 43) := by rw [hW0, hgr]; exact new_at _ _
  have h0 := h.later B0
  have HI := hid (isnone_some gm N cs ⟨gs, 0, none⟩ W0 (cell_of h0.m 0 _ rfl))
  have HJ := hid (isempty_any gm _ _ _ W0 h0.s1)
  have HT := hid (top_any gm gl n cap _ b H W0 h0 hn)
  have hn0 : decide (n = 0) = false := by simp; omega
  have hfd := field_e
  rw [hn0] at HJ
  generalize H.getD 0 zh = u at *
  obtain ⟨uf, ⟨uk, us, uc, uv⟩⟩ := u
  unfold Hm.hv at HT
  unfold c4
  dsimp only at HT ⊢
  replace hW0 := hid hW0
  replace hgr := hid hgr
  have kR0 := hid kR
  replace B0 := hid B0
  clear h h0 kR
  go_enter Try.func26, Try.ntmps26
  go_wp2_with fail
  rw [← hW0.out, ← hgr.out]
  refine HI.out.mono ?_
  rintro e w1 ⟨rfl, rfl⟩
  go_wp2_with fail
  refine HJ.out.mono ?_
  rintro e w1 ⟨rfl, rfl⟩
  go_wp2_with fail
  refine HT.out.mono ?_
  rintro e w1 ⟨rfl, b1⟩
  have kD := (b1.block gr (blk_lt kR0.out)).trans kR0.out
  have z0 := cell_of kD 0 (.string ⟨#[]⟩) rfl
  have z1 := cell_of kD 1 (.int .u64 0) rfl
  have z2 := cell_of kD 2 (.int .i64 0) rfl
  have z3 := cell_of kD 3 (.string ⟨#[]⟩) rfl
  have f0 := fz_of kD 0
  have f1 := fz_of kD 1
  have f2 := fz_of kD 2
  have f3 := fz_of kD 3
  have BF : Hid (Below w.heap.size w ((((w1.setCell ⟨gr, 0, none⟩ (.string uk)).setCell ⟨gr, 1, none⟩ (.int .u64 us)).setCell ⟨gr, 2, none⟩ (.int .i64 uc)).setCell ⟨gr, 3, none⟩ (.string uv))) := by
    have h0 := Below.up B0.out b1
    have hg : w.heap.size ≤ gr := by rw [hgr.out]; exact Nat.le_refl _
    exact (((h0.setCell hg _).setCell hg _).setCell hg _).setCell hg _
  have k4 := hid (set_of (set_of (set_of (set_of kD 0 (.string uk)) 1 (.int .u64 us)) 2 (.int .i64 uc)) 3 (.string uv))
  clear HI HJ HT b1 B0 kD kR0
  go_wp2_with fail
  have q0 := cell_of k4.out 0 (.string uk) rfl
  have q1 := cell_of k4.out 1 (.int .u64 us) rfl
  have q2 := cell_of k4.out 2 (.int .i64 uc) rfl
  have q3 := cell_of k4.out 3 (.string uv) rfl
  exact bodyPost_ret (v := .tuple #[.agg #[.string uk, .int .u64 us, .int .i64 uc, .string uv], .bool true]) (by simp [results, Try.results26, go_sem, q0, q1, q2, q3]) rfl ⟨rfl, BF.out⟩
set_option maxHeartbeats 1000000 in
set_option maxRecDepth 20000 in
theorem here_empty (gm gs N cs gl cap : Nat) (b : Bool) (H : List Hd) (w : World) (h : HM w gm gl (.slice (some ⟨gs, 0, none⟩) N cs) 0 cap b H) :
    Calls Try.prog 26 #[.pointer (some ⟨gm, 0, none⟩)] w fun e w' => e = .returned (.tuple #[.agg (c4 ze), .bool false]) ∧ Below w.heap.size w w' := by
  obtain ⟨W0, hW0⟩ : ∃ W, W = w.alloc (.cells #[.string ⟨#[]⟩, .int .u64 0, .int .i64 0, .string ⟨#[]⟩] 43) := ⟨_, rfl⟩
  have B0 : Below w.heap.size w W0 := by rw [hW0]; exact box_below _ _
  have h0 := h.later B0
  have HI := isnone_some gm N cs ⟨gs, 0, none⟩ W0 (cell_of h0.m 0 _ rfl)
  have HJ := isempty_any gm _ _ _ W0 h0.s1
  rw [hW0] at HI HJ B0
  replace HI := hid HI
  replace HJ := hid HJ
  replace B0 := hid B0
  unfold c4 ze
  dsimp only
  clear h h0 hW0
  go_enter Try.func26, Try.ntmps26
  go_wp2_with fail
  refine HI.out.mono ?_
  rintro e w1 ⟨rfl, rfl⟩
  go_wp2_with fail
  refine HJ.out.mono ?_
  rintro e w1 ⟨rfl, rfl⟩
  go_wp2_with fail
  exact bodyPost_ret (v := .tuple #[.agg #[.string ⟨#[]⟩, .int .u64 0, .int .i64 0, .string ⟨#[]⟩], .bool false]) (by simp [results, Try.results26, go_sem]) rfl ⟨rfl, B0.out⟩
set_option maxHeartbeats 1000000 in
set_option maxRecDepth 20000 in
theorem from_at (gm gs N cs gl n cap : Nat) (b : Bool) (H : List Hd) (w : World) (h : HM w gm gl (.slice (some ⟨gs, 0, none⟩) N cs) n cap b H) (hn : 0 < n) :
    Calls Try.prog 27 #[.pointer (some ⟨gm, 0, none⟩)] w fun e w' => e = .returned (.int .i64 (H.getD 0 zh).f) ∧ Below w.heap.size w w' := by
  have HI := hid (isnone_some gm N cs ⟨gs, 0, none⟩ w (cell_of h.m 0 _ rfl))
  have HJ := hid (isempty_any gm _ _ _ w h.s1)
  have HT := hid (top_any gm gl n cap _ b H w h hn)
  have hn0 : decide (n = 0) = false := by simp; omega
  have hfd := field_f
  rw [hn0] at HJ
  generalize H.getD 0 zh = u at *
  obtain ⟨uf, ⟨uk, us, uc, uv⟩⟩ := u
  unfold Hm.hv at HT
  dsimp only at HT ⊢
  clear h
  go_enter Try.func27, Try.ntmps27
  go_wp2_with fail
  refine HI.out.mono ?_
  rintro e w1 ⟨rfl, rfl⟩
  go_wp2_with fail
  refine HJ.out.mono ?_
  rintro e w1 ⟨rfl, rfl⟩
  go_wp2_with fail
  refine HT.out.mono ?_
  rintro e w2 ⟨rfl, b1⟩
  replace b1 := hid b1
  go_wp2_with fail
  go_ret
  exact ⟨rfl, b1.out⟩
end Go.Proofs.Ytgjodfaliajlgaa.Gd9

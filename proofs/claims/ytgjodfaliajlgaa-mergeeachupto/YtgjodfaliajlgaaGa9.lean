/- Merged.gather, moving each source as start moves it. -/
import Derived.Test.YtgjodfaliajlgaaGc9
namespace Go.Proofs.Ytgjodfaliajlgaa.Ga9
open Go.ChangeShapes Go.WideShapes Go.ChangeAt Go.RowKit
open Go.Sort (grow)
open Go.Proofs.Ytgjodfaliajlgaa.Gr hiding hid addr_add
open Go.Proofs.Ytgjodfaliajlgaa.Ac
open Go.Proofs.Ytgjodfaliajlgaa.Ik
open Go.Proofs.Ytgjodfaliajlgaa.Ee
open Go.Proofs.Ytgjodfaliajlgaa.Hp
open Go.Proofs.Ytgjodfaliajlgaa.Hm hiding hv
open Go.Proofs.Ytgjodfaliajlgaa.Ls9 (Lb c4 hr hv hb)
open Go.Proofs.Ytgjodfaliajlgaa.Lm9
open Go.Proofs.Ytgjodfaliajlgaa.Gc9
open Go.Proofs.Ytgjodfaliajlgaa.En9 (enter_nil enter_list)
set_option linter.unusedVariables false
set_option linter.unusedSimpArgs false

def zH : Value := .agg #[.int .i64 0, .string ⟨#[]⟩, .int .u64 0, .int .i64 0, .string ⟨#[]⟩]
theorem make_heads (w : World) (n : Nat) (hn : n ≤ 1048576) : (Instr.makeSlice 57 (.int .i64 0) (.int .i64 (n : Int))).run Try.prog w = .ok (.slice (some ⟨w.heap.size, 0, none⟩) 0 n) (w.alloc (.cells (madeCells zH.cells (n * 5)) 79)) := by
  obtain ⟨i0, hi, hz0, hz1, hz2⟩ := info_parts eH.info
  have hr := run_make (P := Try.prog) w 57 79 i0 _ Try.underlying57 hi hz0 .i64 .i64 0 (n : Int) (by omega) (by omega) (by rw [hz2]; show ((56 : Nat) : Int) * (n : Int) ≤ _; omega) (by omega)
  rw [hz1] at hr
  rw [show eH.zv.cells = zH.cells from rfl, show eH.k = 5 from rfl] at hr
  simpa using hr
theorem own_made (w : World) (n base : Nat) (hn : n ≤ 1048576) (hb : base ≤ w.heap.size) : eH.Own (w.alloc (.cells (madeCells zH.cells (n * 5)) 79)) base (.slice (some ⟨w.heap.size, 0, none⟩) 0 n) [] := by
  refine ⟨rfl, .inr ⟨w.heap.size, n, _, rfl, hb, new_at _ _, Nat.zero_le _, by unfold maxLen; omega, by rw [size_madeCells]; rfl, ?_⟩⟩
  simp [El.cl]
/-- After the first i have been moved. -/
def mid (p q : Nat → Int) (i : Nat) : Nat → Int := fun f => if f < i then q f else p f
theorem mid_at (p q : Nat → Int) (i : Nat) : mid p q i i = p i := by unfold mid; rw [if_neg (by omega)]
theorem mid_next (p q : Nat → Int) (i : Nat) : mid p q (i + 1) i = q i := by unfold mid; rw [if_pos (by omega)]
theorem mid_other (p q : Nat → Int) (i f : Nat) (h : f ≠ i) : mid p q (i + 1) f = mid p q i f := by
  unfold mid
  by_cases h1 : f < i
  · rw [if_pos h1, if_pos (by omega)]
  · rw [if_neg h1, if_neg (by omega)]
theorem own_skip {w : World} {S : List Src} {p q : Nat → Int} (h : Own w S p) (i : Nat) (hn : (S.getD i zs).nil = true) (hq : ∀ f, f ≠ i → q f = p f) : Own w S q := by
  refine ⟨fun f h1 h2 => ?_, h.sep, fun f h1 h2 => ?_⟩
  · have e : f ≠ i := by intro e; subst e; rw [hn] at h2; cases h2
    rw [hq f e]; exact h.l f h1 h2
  · have e : f ≠ i := by intro e; subst e; rw [hn] at h2; cases h2
    rw [hq f e]; exact h.lo f h1 h2
theorem hd_nil {k : Nat} {s : Src} {i : Int} (h : s.nil = true) : hd k s i = [] := by unfold hd; rw [if_neg (by rw [h]; simp)]
theorem hd_out {k : Nat} {s : Src} {i : Int} (h : hb s.n i = false) : hd k s i = [] := by unfold hd; rw [if_neg (by rw [h]; simp)]
theorem hd_in {k : Nat} {s : Src} {i : Int} (h0 : s.nil = false) (h : hb s.n i = true) : hd k s i = [⟨k, (hr s.ys i).getD ze⟩] := by unfold hd; rw [if_pos ⟨h0, h⟩]
theorem own_base {w w' W0 : World} {S : List Src} {p q : Nat → Int} (h : Own w S q) (h0 : Own W0 S p) (hb : ∀ j, j < W0.heap.size → w'.heap[j]? = w.heap[j]?) : Own w' S q := by
  refine ⟨fun f h1 h2 => ?_, h.sep, h.lo⟩
  have k := h.l f h1 h2
  have k0 := h0.l f h1 h2
  exact ⟨(hb _ k0.b.lt).trans k.b, k.r.block (hb _ k0.r.lt), k.ne, k.n, k.ok⟩
/-- Ahead of round i. -/
structure Gat (S : List Src) (p q : Nat → Int) (W0 wr : World) (lv : Value) (i : Nat) : Prop where
  o : eH.Own wr W0.heap.size lv (hds S q i)
  sh : ∃ g c, lv = .slice (some ⟨g, 0, none⟩) (hds S q i).length c
  l : Own wr S (mid p q i)
  f : Fp (Mine S) W0 wr
theorem Gat.step {S : List Src} {p q : Nat → Int} {W0 wr w' : World} {lv : Value} {i : Nat} (h : Gat S p q W0 wr lv i) (h0 : Own W0 S p) (hf : Fp (Mine S) wr w') (hO : Own w' S (mid p q (i + 1))) (hh : hd i (S.getD i zs) (q i) = []) : Gat S p q W0 w' lv (i + 1) := by
  have e : hds S q (i + 1) = hds S q i := by show _ ++ _ = _; rw [hh, List.append_nil]
  refine ⟨?_, by rw [e]; exact h.sh, hO, h.f.tr (hf.wide (fun j _ h => .inl h))⟩
  rw [e]
  exact own_blocks h.o (fun j hj => hf.block j (own_lt h.o j hj).2 (fun hm => by have := h0.mine hm; have := (own_lt h.o j hj).1; omega))
theorem Gat.push {S : List Src} {p q : Nat → Int} {W0 wr w' : World} {lv : Value} {i : Nat} (h : Gat S p q W0 wr lv i) (h0 : Own W0 S p) (hf : Fp (Mine S) wr w') (hO : Own w' S (mid p q (i + 1))) (x : Hd) (hh : hd i (S.getD i zs) (q i) = [x]) (hi : i ≤ 1048576) :
    ∃ lv' W', (Builtin.append_ #[57, 57] 57 #[lv, .slice (some ⟨w'.heap.size, 0, none⟩) 1 1]).run Try.prog (w'.alloc (.cells (hc x).toArray 79)) = .ok lv' W' ∧ Gat S p q W0 W' lv' (i + 1) := by
  have e : hds S q (i + 1) = hds S q i ++ [x] := by show _ ++ _ = _; rw [hh]
  have hlen := hds_len S q i
  have ho : eH.Own w' W0.heap.size lv (hds S q i) := own_blocks h.o (fun j hj => hf.block j (own_lt h.o j hj).2 (fun hm => by have := h0.mine hm; have := (own_lt h.o j hj).1; omega))
  have hsz : W0.heap.size ≤ w'.heap.size := Nat.le_trans h.f.size hf.size
  obtain ⟨v', W', h1, h2, h3, h4⟩ := El.app1 eH w' W0.heap.size lv (hds S q i) x (hc x).toArray rfl ho (by show _ * 56 ≤ _; omega) (by omega) hsz
  refine ⟨v', W', h1, ?_⟩
  have hg : Fp (fun _ => False) W0 W0 := Fp.refl _ _
  refine ⟨by rw [e]; exact h2, ?_, ?_, ?_⟩
  · rw [e]
    rcases h2.2 with ⟨k1, k2⟩ | ⟨g, c, cur, k1, _⟩
    · simp at k2
    · exact ⟨g, c, k1⟩
  · have hb : ∀ j, j < W0.heap.size → W'.heap[j]? = w'.heap[j]? := fun j hj => h3.block j (by omega) (fun e2 => by have := (own_lt ho j e2.symm).1; omega)
    have hB : Below W0.heap.size w' W' := ⟨h3.os, h3.tape, h3.output, h3.size, hb⟩
    exact own_base hO h0 hb
  · exact (h.f.tr (hf.wide (fun j _ h => .inl h))).grown h3 (fun j hj => .inr (own_lt ho j hj).1)
set_option maxHeartbeats 1000000 in
set_option maxRecDepth 20000 in
theorem gather_any (gm gs N cs gk : Nat) (bk b0 : Bool) (hv0 : Value) (S : List Src) (p q : Nat → Int) (w : World)
    (HM0 : w.heap[gm]? = some (.cells #[.slice (some ⟨gs, 0, none⟩) N cs, hv0, .bool b0] 61)) (hN : S.length = N) (hN8 : N ≤ 1048576)
    (hS : ∀ f, f < N → w.cell? ⟨gs, f, none⟩ = some (S.getD f zs).val) (hO : Own w S p) (hms : ¬ Mine S gs) (hmm : ¬ Mine S gm) (hmk : ¬ Mine S gk) (hk : w.cell? ⟨gk, 0, none⟩ = some (.bool bk)) (hq : ∀ f, q f = to bk (S.getD f zs).n) (hga : ∀ f, f < S.length → (S.getD f zs).nil = false → (S.getD f zs).ga ≠ gm)
    (HF : ∀ W gl c, HRow W gl c (hds S q N) → W.heap[gm]? = some (.cells #[.slice (some ⟨gs, 0, none⟩) N cs, hv0, .bool b0] 61) → gl ≠ gm → Calls Try.prog 68 #[.pointer (some ⟨gm, 1, none⟩), .slice (some ⟨gl, 0, none⟩) (hds S q N).length c, .bool bk] W fun e W' => e = .returned (.tuple #[]) ∧ ∃ H', HM W' gm gl (.slice (some ⟨gs, 0, none⟩) N cs) (hds S q N).length c bk H' ∧ HP bk 0 H' ∧ H'.Perm (hds S q N) ∧ Fp (fun j => j = gm ∨ j = gl) W W') :
    Calls Try.prog 52 #[.pointer (some ⟨gm, 0, none⟩), .bool bk, .func (Fn.func 60) #[] #[.pointer (some ⟨gk, 0, none⟩)]] w fun e w' => ∃ gl c H', e = .returned (.bool (!decide ((hds S q N).length = 0))) ∧ Own w' S q ∧ HM w' gm gl (.slice (some ⟨gs, 0, none⟩) N cs) (hds S q N).length c bk H' ∧ HP bk 0 H' ∧ H'.Perm (hds S q N) ∧ Fp (fun j => Mine S j ∨ j = gm) w w' := by
  have hmf : ∀ (fn : Fn) (first cap : Array Value) (w : World), (Instr.makeFunc fn first cap).run Try.prog w = .ok (.func fn first cap) w := fun _ _ _ _ => rfl
  obtain ⟨zz, hzz⟩ : ∃ z, z = madeCells zH.cells (N * 5) := ⟨_, rfl⟩
  have hmk2 : ∀ w : World, (Instr.makeSlice 57 (.int .i64 0) (.int .i64 (N : Int))).run Try.prog w = .ok (.slice (some ⟨w.heap.size, 0, none⟩) 0 N) (w.alloc (.cells zz 79)) := fun w => by rw [hzz]; exact make_heads w N hN8
  obtain ⟨W0, hW0⟩ : ∃ W, W = w.alloc (.cells #[.func (Fn.func 60) #[] #[.pointer (some ⟨gk, 0, none⟩)]] 86) := ⟨_, rfl⟩
  obtain ⟨x0, hx0⟩ : ∃ n, n = w.heap.size := ⟨_, rfl⟩
  obtain ⟨W1, hW1⟩ : ∃ W, W = W0.alloc (.cells zz 79) := ⟨_, rfl⟩
  obtain ⟨g0, hg0⟩ : ∃ n, n = x0 + 1 := ⟨_, rfl⟩
  have hs0 : W0.heap.size = x0 + 1 := by rw [hW0, hx0]; simp
  have B0 : Below w.heap.size w W0 := by rw [hW0]; exact box_below _ _
  have B1 : Below W0.heap.size W0 W1 := by rw [hW1]; exact box_below _ _
  have c0 : W0.cell? ⟨gm, 0, none⟩ = some (.slice (some ⟨gs, 0, none⟩) N cs) := cell_of ((B0.block gm (blk_lt HM0)).trans HM0) 0 _ rfl
  have c1 : W1.cell? ⟨gm, 0, none⟩ = some (.slice (some ⟨gs, 0, none⟩) N cs) := (B1.cell (block_lt_of_cell c0)).trans c0
  have kx : W0.cell? ⟨x0, 0, none⟩ = some (.func (Fn.func 60) #[] #[.pointer (some ⟨gk, 0, none⟩)]) := by rw [hW0, hx0]; exact cell_of (new_at _ _) 0 _ rfl
  have hO0 : Own W0 S p := hO.later B0
  have hG0 : Gat S p q W0 W1 (.slice (some ⟨g0, 0, none⟩) 0 N) 0 := by
    refine ⟨?_, ⟨g0, N, rfl⟩, ?_, Fp.of B1⟩
    · rw [hW1, hg0, hzz, ← hs0]; exact own_made W0 N _ hN8 (Nat.le_refl _)
    · have e : mid p q 0 = p := by funext f; unfold mid; rw [if_neg (by omega)]
      rw [e]; exact hO0.later B1
  replace hzz := hid hzz
  replace hW0 := hid hW0
  replace hx0 := hid hx0
  replace hW1 := hid hW1
  replace hg0 := hid hg0
  replace B0 := hid B0
  replace kx := hid kx
  replace hO0 := hid hO0
  replace hG0 := hid hG0
  replace HM0 := hid HM0
  replace hS := hid hS
  replace hms := hid hms
  replace hmm := hid hmm
  replace hmk := hid hmk
  replace hk := hid hk
  replace hq := hid hq
  replace HF := hid HF
  replace hN := hid hN
  have hmg : Hid (∀ f, f < S.length → (S.getD f zs).nil = false → (S.getD f zs).ga < w.heap.size ∧ (S.getD f zs).ga ≠ gm) := fun f h1 h2 => ⟨(hO.l f h1 h2).r.lt, hga f h1 h2⟩
  clear hga
  have HGw : Hid (∀ f, f < S.length → (S.getD f zs).nil = false → (S.getD f zs).g < w.heap.size) := fun f h1 h2 => (hO.l f h1 h2).b.lt
  clear B1 hO
  rw [hW1.out, hW0.out] at c1
  rw [hW0.out] at c0
  go_enter Try.func52, Try.ntmps52
  go_wp2_with fail
  rw [← hx0.out, ← hW0.out, ← hW1.out, ← hg0.out]
  go_loopw [7, 23] (fun lv iv wr => ∃ (i kk lg lc : Nat), iv = .int .i64 (i : Int) ∧ i ≤ N ∧ lv = .slice (some ⟨lg, 0, none⟩) kk lc ∧ Hid (kk = (hds S q i).length) ∧ Hid (Gat S p q W0 wr (.slice (some ⟨lg, 0, none⟩) kk lc) i)) (fun _ iv _ => N - (intOf iv).toNat)
  case atStart => exact ⟨0, 0, g0, N, rfl, Nat.zero_le _, rfl, rfl, hG0⟩
  case round =>
    obtain ⟨i, kk, lg, lc, rfl, hi, rfl, hkk, HG⟩ := hrel
    obtain ⟨lv, hlv⟩ : ∃ v, v = Value.slice (some ⟨lg, 0, none⟩) kk lc := ⟨_, rfl⟩
    rw [← hlv] at HG
    by_cases hlt : i < N
    · have m0 : (i : Int) < (N : Int) := by omega
      have m1 : (0 : Int) ≤ (i : Int) := by omega
      have hcs : wr.cell? ⟨gs, i, none⟩ = some (S.getD i zs).val := by
        have h0 := hS.out i hlt
        have h1 : gs < w.heap.size := block_lt_of_cell h0
        have h2 := B0.out.block gs h1
        have h3 := HG.out.f.block gs (by have := B0.out.size; omega) hms.out
        exact (World.cell?_of_block (a := ⟨gs, i, none⟩) (h3.trans h2)).trans h0
      obtain ⟨Wa, hWa⟩ : ∃ W, W = wr.alloc (.cells #[.int .i64 (i : Int)] 3) := ⟨_, rfl⟩
      obtain ⟨ga, hga⟩ : ∃ n, n = wr.heap.size := ⟨_, rfl⟩
      have Ba : Below wr.heap.size wr Wa := by rw [hWa]; exact box_below _ _
      have ka : Wa.cell? ⟨ga, 0, none⟩ = some (.int .i64 (i : Int)) := by rw [hWa, hga]; exact cell_of (new_at _ _) 0 _ rfl
      have La := HG.out.l.later Ba
      have hS1 : i < S.length := by rw [hN.out]; exact hlt
      cases hnil : (S.getD i zs).nil with
      | true =>
        have hv1 : (S.getD i zs).val = .nilIface := by unfold Src.val; rw [hnil]; rfl
        rw [hv1] at hcs
        have HE := hid (fun fv => enter_nil fv Wa)
        unfold c4 ze at HE
        dsimp only at HE
        have hst : Hid (∀ W', Below Wa.heap.size Wa W' → Gat S p q W0 W' lv (i + 1)) := by
          intro W' b
          have bb := Below.up Ba b
          refine HG.out.step hO0.out (Fp.of bb) ?_ (hd_nil hnil)
          exact own_skip (HG.out.l.later bb) i hnil (fun f hf => mid_other p q i f hf)
        have hkk2 : Hid (kk = (hds S q (i + 1)).length) := by show _ = _; rw [hkk.out]; show _ = (hds S q i ++ hd i (S.getD i zs) (q i)).length; rw [hd_nil hnil, List.append_nil]
        replace hlv := hid hlv
        replace hWa := hid hWa
        replace hga := hid hga
        clear HG La ka Ba hnil hS1 hv1 hkk
        go_wp2_with fail
        rw [← hWa.out, ← hga.out]
        refine (HE.out _).mono ?_
        rintro e W2 ⟨rfl, b2⟩
        have hst2 : Hid (∀ o, Gat S p q W0 (W2.alloc o) lv (i + 1)) := fun o => hst.out _ (b2.alloc b2.size o)
        clear hst b2 HE
        go_wp2_with fail
        go_roundw
        case rel => exact ⟨i + 1, kk, lg, lc, by first | rfl | go_num, by omega, rfl, hkk2.out, hlv.out ▸ hst2.out _⟩
        case measure => simp [intOf]; omega
      | false =>
        have hv1 : (S.getD i zs).val = .iface 40 (.pointer (some ⟨(S.getD i zs).g, 0, none⟩)) := by unfold Src.val; rw [hnil]; rfl
        rw [hv1] at hcs
        have hL := La.l i hS1 hnil
        rw [mid_at] at hL
        have hlo := La.lo i hS1 hnil
        rw [mid_at] at hlo
        have hqi := hq.out i
        have hgw : (S.getD i zs).g < w.heap.size := HGw.out i hS1 hnil
        have hfW : Fp (Mine S) W0 Wa := HG.out.f.below Ba
        have kxa : Wa.cell? ⟨x0, 0, none⟩ = some (.func (Fn.func 60) #[] #[.pointer (some ⟨gk, 0, none⟩)]) := by
          have hx1 : ¬ Mine S x0 := by
            rintro ⟨f, f1, f2, f3⟩
            have := HGw.out f f1 f2
            rw [← f3, hx0.out] at this; omega
          exact (World.cell?_of_block (a := ⟨x0, 0, none⟩) (hfW.block x0 (by omega) hx1)).trans kx.out
        have kka : Wa.cell? ⟨gk, 0, none⟩ = some (.bool bk) := by
          have h1 : gk < w.heap.size := block_lt_of_cell hk.out
          exact (World.cell?_of_block (a := ⟨gk, 0, none⟩) ((hfW.block gk (by have := B0.out.size; omega) hmk.out).trans (B0.out.block gk h1))).trans hk.out
        have HE := enter_list (S.getD i zs).g (S.getD i zs).ga (S.getD i zs).n (q i) (p i) (S.getD i zs).ys (.pointer (some ⟨x0, 0, none⟩)) (.pointer (some ⟨ga, 0, none⟩)) Wa hL (fun W1 b => by
          rw [hqi]
          exact gstart_any x0 ga gk _ _ _ bk _ i _ W1 (hL.later b) ⟨hlo.1, hlo.2.1⟩ hlo.2.2 ((b.cell (block_lt_of_cell kka)).trans kka) ((b.cell (block_lt_of_cell kxa)).trans kxa) ((b.cell (block_lt_of_cell ka)).trans ka))
        have hgne : ga ≠ (S.getD i zs).g := by have := HG.out.f.size; have := B0.out.size; omega
        have hq1 : -1 ≤ q i ∧ q i ≤ ((S.getD i zs).n : Int) := by
          rw [hqi]; unfold to
          cases bk <;> simp <;> omega
        have hmv : Hid (∀ W' W'', Lc W' (S.getD i zs).g (S.getD i zs).ga (S.getD i zs).n (q i) (S.getD i zs).ys → Fp (· = (S.getD i zs).g) Wa W' → Below W'.heap.size W' W'' → Own W'' S (mid p q (i + 1)) ∧ Fp (Mine S) wr W'' ∧ W''.cell? ⟨ga, 0, none⟩ = some (.int .i64 (i : Int))) := by
          intro W' W'' l f b
          have o1 : Own W' S (mid p q (i + 1)) := La.move i hS1 hnil (by rw [mid_next]; exact l) f (fun f hf => mid_other p q i f hf) (by rw [mid_next]; exact hq1)
          have f1 : Fp (Mine S) Wa W' := f.wide (fun j _ h => by rw [h]; exact ⟨i, hS1, hnil, rfl⟩)
          have f2 : Fp (Mine S) wr W'' := ((Fp.of Ba).tr (f1.wide (fun j _ h => .inl h))).below b
          have k1 : W'.cell? ⟨ga, 0, none⟩ = some (.int .i64 (i : Int)) := (World.cell?_of_block (a := ⟨ga, 0, none⟩) (f.block ga (block_lt_of_cell ka) hgne)).trans ka
          exact ⟨o1.later b, f2, (b.cell (block_lt_of_cell k1)).trans k1⟩
        have hvs : ∃ k s c' v, hv (S.getD i zs).ys (q i) = #[.string k, .int .u64 s, .int .i64 c', .string v] ∧ (hr (S.getD i zs).ys (q i)).getD ze = ⟨k, s, c', v⟩ := ⟨_, _, _, _, rfl, rfl⟩
        obtain ⟨k, s, c', v, hvs1, hvs2⟩ := hvs
        rw [hvs1] at HE
        have hrs : Hid (∀ W', Own W' S (mid p q (i + 1)) → Fp (Mine S) wr W' → (hb (S.getD i zs).n (q i) = false → Gat S p q W0 W' lv (i + 1)) ∧ (hb (S.getD i zs).n (q i) = true → ∃ lv' W'', (Builtin.append_ #[57, 57] 57 #[lv, .slice (some ⟨W'.heap.size, 0, none⟩) 1 1]).run Try.prog (W'.alloc (.cells #[.int .i64 i, .string k, .int .u64 s, .int .i64 c', .string v] 79)) = .ok lv' W'' ∧ Gat S p q W0 W'' lv' (i + 1))) := by
          intro W' o f
          refine ⟨fun h => HG.out.step hO0.out f o (hd_out h), fun h => ?_⟩
          have hx := hd_in (k := i) hnil h
          rw [hvs2] at hx
          exact HG.out.push hO0.out f o _ hx (by omega)
        have hkk2 : Hid (hb (S.getD i zs).n (q i) = false → kk = (hds S q (i + 1)).length) := by intro h; rw [hkk.out]; show _ = (hds S q i ++ hd i (S.getD i zs) (q i)).length; rw [hd_out h, List.append_nil]
        obtain ⟨bb, hbb⟩ : ∃ b, b = hb (S.getD i zs).n (q i) := ⟨_, rfl⟩
        rw [← hbb] at HE hrs hkk2
        generalize (S.getD i zs).g = gg at *
        have HE := hid HE
        replace hlv := hid hlv
        replace hWa := hid hWa
        replace hga := hid hga
        replace hbb := hid hbb
        clear HG La ka Ba hnil hS1 hv1 hkk hL hlo hqi hgw hfW kxa kka hgne hq1 hvs1 hvs2
        go_wp2_with fail
        rw [← hWa.out, ← hga.out]
        refine HE.out.mono ?_
        rintro e W2 ⟨rfl, l2, f2⟩
        have hm2 := hid (hmv.out W2 (W2.alloc (.cells #[.string k, .int .u64 s, .int .i64 c', .string v] 43)) l2 f2 (box_below _ _))
        clear l2 f2 hmv HE
        obtain ⟨W3, hW3⟩ : ∃ W, W = W2.alloc (.cells #[.string k, .int .u64 s, .int .i64 c', .string v] 43) := ⟨_, rfl⟩
        have cg := hm2.out.2.2
        rw [← hW3] at hm2
        have hs3 : W3.heap.size = W2.heap.size + 1 := by rw [hW3]; simp
        cases bb with
        | false =>
          have G5 := hid ((hrs.out W3 hm2.out.1 hm2.out.2.1).1 rfl)
          have hk5 := hid (hkk2.out rfl)
          replace hW3 := hid hW3
          clear hrs hm2 hkk2
          go_wp2_with fail
          rw [← hW3.out]
          go_roundw
          case rel => exact ⟨i + 1, kk, lg, lc, by first | rfl | go_num, by omega, rfl, hk5.out, hlv.out ▸ G5.out⟩
          case measure => simp [intOf]; omega
        | true =>
          obtain ⟨lv', W4, hrun, G5⟩ := (hrs.out W3 hm2.out.1 hm2.out.2.1).2 rfl
          obtain ⟨lg2, lc2, hlv2⟩ := G5.sh
          obtain ⟨k2, hk5⟩ : ∃ n, n = (hds S q (i + 1)).length := ⟨_, rfl⟩
          rw [← hk5] at hlv2
          subst hlv2
          obtain ⟨Wb, hWb⟩ : ∃ W, W = W3.alloc (.cells #[.int .i64 (i : Int), .string k, .int .u64 s, .int .i64 c', .string v] 79) := ⟨_, rfl⟩
          rw [← hWb] at hrun
          replace hWb := hid hWb
          replace hW3 := hid hW3
          rw [hs3, hlv.out] at hrun
          have hrun2 := hid hrun
          replace hk5 := hid hk5
          replace G5 := hid G5
          clear hrs hm2 hkk2 hrun
          go_wp2_with (first | (at_builtin; rw [← hW3.out, ← hWb.out]; refine wpList_append_run rfl (.tmp 35) (.tmp 39) 57 57 rfl (.slice (some ⟨lg, 0, none⟩) kk lc) (.slice (some ⟨W2.heap.size + 1, 0, none⟩) 1 1) (.slice (some ⟨lg2, 0, none⟩) k2 lc2) rfl rfl hrun2.out ?_) | fail)
          go_roundw
          case rel => exact ⟨i + 1, k2, lg2, lc2, by first | rfl | go_num, by omega, rfl, hk5.out, G5.out⟩
          case measure => simp [intOf]; omega
    · have hie : i = N := by omega
      subst hie
      have hie2 : Hid (i = (i : Nat)) := rfl
      rw [hlv] at HG
      have hown := own_row HG.out.o
      have hOq : Hid (Own wr S q) := by
        have o := HG.out.l
        refine ⟨fun f h1 h2 => ?_, o.sep, fun f h1 h2 => ?_⟩
        · have e : mid p q i f = q f := by unfold mid; rw [if_pos (by rw [← hN.out]; exact h1)]
          rw [← e]; exact o.l f h1 h2
        · have e : mid p q i f = q f := by unfold mid; rw [if_pos (by rw [← hN.out]; exact h1)]
          rw [← e]; exact o.lo f h1 h2
      have hmw : wr.heap[gm]? = some (.cells #[.slice (some ⟨gs, 0, none⟩) i cs, hv0, .bool b0] 61) := by
        have h1 := blk_lt HM0.out
        exact ((HG.out.f.block gm (by have := B0.out.size; omega) hmm.out).trans (B0.out.block gm h1)).trans HM0.out
      have hlm : lg ≠ gm := by have := blk_lt HM0.out; have := hown.2.1; have := B0.out.size; omega
      have HFF := HF.out wr lg lc hown.1 hmw hlm
      have hfw : Hid (Fp (Mine S) w wr) := (Fp.of B0.out).tr (HG.out.f.wide (fun j _ h => .inl h))
      have hlo : Hid (w.heap.size ≤ lg) := by show _ ≤ _; have := hown.2.1; have := B0.out.size; omega
      have hkx : Hid (kk = (hds S q i).length) := hkk
      rw [← hkk.out] at HFF
      replace HFF := hid HFF
      have hmine : Hid (∀ b, Mine S b → b < w.heap.size) := by
        rintro b ⟨f, f1, f2, f3⟩
        rw [f3]; exact HGw.out f f1 f2
      clear HG hown hmw HF hkk hlv hS hk hO0 kx hG0
      replace hlm := hid hlm
      go_wp2_with fail
      refine HFF.out.mono ?_
      rintro e W5 ⟨rfl, H', M5, P5, Q5, F5⟩
      have HI := hid (isempty_any gm _ _ _ W5 M5.s1)
      have hl : H'.length = kk := M5.n
      replace M5 := hid M5
      replace P5 := hid P5
      replace Q5 := hid Q5
      replace F5 := hid F5
      replace hl := hid hl
      clear HFF
      generalize hdd : decide (kk = 0) = dd at HI
      replace hdd := hid hdd
      go_wp2_with fail
      refine HI.out.mono ?_
      rintro e W6 ⟨rfl, rfl⟩
      clear HI
      go_wp2_with fail
      go_ret
      refine ⟨lg, lc, H', ?_, ?_, ?_, P5.out, Q5.out, ?_⟩
      · have e : (!dd) = !decide ((hds S q i).length = 0) := by rw [← hkx.out, hdd.out]
        rw [← e]; rfl
      · refine ⟨fun f f1 f2 => ?_, hOq.out.sep, hOq.out.lo⟩
        have h1 := HGw.out f f1 f2
        have h2 := hlo.out
        refine (hOq.out.l f f1 f2).fp F5.out ?_ ?_
        · rintro (e | e)
          · exact hmm.out ⟨f, f1, f2, e.symm⟩
          · omega
        · rintro (e | e)
          · exact (hmg.out f f1 f2).2 e
          · have := (hmg.out f f1 f2).1; omega
      · rw [← hkx.out]; exact M5.out
      · exact (hfw.out.wide (fun j _ h => .inl h)).tr (F5.out.wide (fun j _ h => by
          rcases h with h | h
          · exact .inl (.inr h)
          · right; have := hlo.out; omega))
end Go.Proofs.Ytgjodfaliajlgaa.Ga9

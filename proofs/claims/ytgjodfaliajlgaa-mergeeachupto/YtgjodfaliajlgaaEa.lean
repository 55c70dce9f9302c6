/- enter over advance's closure; the closure itself. -/
import Derived.Test.YtgjodfaliajlgaaGk
namespace Go.Proofs.Ytgjodfaliajlgaa.Ea
open Go.ChangeShapes Go.WideShapes Go.ChangeAt Go.RowKit
open Go.Sort (grow)
open Go.Proofs.Ytgjodfaliajlgaa.Gr hiding hid addr_add
open Go.Proofs.Ytgjodfaliajlgaa.Ik
open Go.Proofs.Ytgjodfaliajlgaa.Ee
open Go.Proofs.Ytgjodfaliajlgaa.Ls9 (Lb c4 hr hv hb)
open Go.Proofs.Ytgjodfaliajlgaa.Lm9
open Go.Proofs.Ytgjodfaliajlgaa.En9 hiding enter_list
open Go.Proofs.Ytgjodfaliajlgaa.Gk
set_option linter.unusedVariables false
set_option linter.unusedSimpArgs false

set_option maxHeartbeats 1000000 in
theorem enter_adv (g ga n : Nat) (i j : Int) (ys : List E) (p1 : Value) (w : World) (H : Lc w g ga n j ys)
    (hm : ∀ W1, Below w.heap.size w W1 → Calls Try.prog 75 #[.iface 40 (.pointer (some ⟨g, 0, none⟩)), p1] W1 fun e W' => e = .returned (.bool (hb n i)) ∧ Lc W' g ga n i ys ∧ Fp (· = g) W1 W') :
    Calls Try.prog 66 #[.iface 40 (.pointer (some ⟨g, 0, none⟩)), .func (Fn.func 75) #[] #[p1]] w fun e w' => e = .returned (.tuple #[.agg (hv ys i), .bool (hb n i)]) ∧ Lc w' g ga n i ys ∧ Fp (· = g) w w' := by
  have hmf : ∀ (fn : Fn) (first cap : Array Value) (w : World), (Instr.makeFunc fn first cap).run Try.prog w = .ok (.func fn first cap) w := fun _ _ _ _ => rfl
  obtain ⟨W1, hW1⟩ : ∃ W, W = w.alloc C0 := ⟨_, rfl⟩
  obtain ⟨W0, hW0⟩ : ∃ W, W = W1.alloc (.cells #[.bool false] 4) := ⟨_, rfl⟩
  obtain ⟨gr, hgr⟩ : ∃ n, n = w.heap.size := ⟨_, rfl⟩
  have B1 : Below w.heap.size w W1 := by rw [hW1]; exact box_below _ _
  have B2 : Below W1.heap.size W1 W0 := by rw [hW0]; exact box_below _ _
  have hs1 : W1.heap.size = gr + 1 := by rw [hW1, hgr]; simp
  have B0 : Below w.heap.size w W0 := Below.up B1 B2
  have k1 : W1.heap[gr]? = some C0 := by rw [hW1, hgr]; exact new_at _ _
  have kR : W0.heap[gr]? = some C0 := (B2.block gr (blk_lt k1)).trans k1
  have kB : W0.heap[gr + 1]? = some (.cells #[.bool false] 4) := by rw [← hs1, hW0]; exact new_at _ _
  have hne : gr ≠ g := by have := H.b.lt; omega
  have hne2 : gr + 1 ≠ g := by have := H.b.lt; omega
  have hgg : w.heap.size ≤ gr := by omega
  have hgl : Hid (ga < gr) := by show _ < _; have := H.r.lt; omega
  unfold C0 at kR
  have hW : Hid (W0 = (w.alloc (.cells #[.string ⟨#[]⟩, .int .u64 0, .int .i64 0, .string ⟨#[]⟩] 43)).alloc (.cells #[.bool false] 4)) := by show _ = _; rw [hW0, hW1]; rfl
  have HC := hid (hm W0 B0)
  replace hgr := hid hgr
  have kR0 := hid kR
  have kB0 := hid kB
  replace B0 := hid B0
  have HN : Hid (ys.length = n) := H.n
  clear B1 B2 k1 hs1 hW0 hW1 hm H kR kB
  obtain ⟨bb, hbb⟩ : ∃ v, v = hb n i := ⟨_, rfl⟩
  rw [← hbb] at HC ⊢
  have hbb0 := hid hbb
  have hrr : Hid (bb = false → hv ys i = c4 ze) := by
    intro h0
    have : hr ys i = none := by
      unfold hr
      rw [if_neg]
      rw [hbb] at h0
      unfold hb at h0
      simp at h0
      intro hh
      have := h0 hh.1
      have := hh.2
      rw [HN.out] at this
      omega
    show c4 ((hr ys i).getD ze) = _
    rw [this]; rfl
  clear hbb
  have HH := hid (fun W (L : Lc W g ga n i ys) => lhere_any g ga n i ys W L)
  rw [← hbb0.out] at HH
  obtain ⟨hvv, hhv⟩ : ∃ v, v = hv ys i := ⟨_, rfl⟩
  rw [← hhv] at HH hrr ⊢
  have hs : ∃ k s c' v, hvv = #[.string k, .int .u64 s, .int .i64 c', .string v] := ⟨_, _, _, _, hhv⟩
  obtain ⟨k, s, c', v, rfl⟩ := hs
  replace hhv := hid hhv
  replace hne := hid hne
  replace hne2 := hid hne2
  replace hgg := hid hgg
  go_enter_defers Try.func66, Try.ntmps66
  go_wp2_with fail
  rw [← hW.out, ← hgr.out]
  refine HC.out.mono ?_
  rintro e W2 ⟨rfl, L2, F2⟩
  have kR2 : W2.heap[gr]? = _ := (F2.block gr (blk_lt kR0.out) hne.out).trans kR0.out
  have kB2 : W2.heap[gr + 1]? = _ := (F2.block (gr + 1) (blk_lt kB0.out) hne2.out).trans kB0.out
  have FF : Fp (· = g) w W2 := (Fp.of B0.out).tr (F2.wide (fun j _ h => .inl h))
  clear kR0 kB0 F2
  replace L2 := hid L2
  replace FF := hid FF
  cases bb with
  | false =>
    have hz := hid (hrr.out rfl)
    have f0 := fz_of kR2 0
    have f1 := fz_of kR2 1
    have f2 := fz_of kR2 2
    have f3 := fz_of kR2 3
    have f4 := fz_of kB2 0
    have z0 := cell_of kR2 0 (.string ⟨#[]⟩) rfl
    have z1 := cell_of kR2 1 (.int .u64 0) rfl
    have z2 := cell_of kR2 2 (.int .i64 0) rfl
    have z3 := cell_of kR2 3 (.string ⟨#[]⟩) rfl
    have z4 := cell_of kB2 0 (.bool false) rfl
    have FE := store_end gr kR2 kB2 L2.out FF.out hne.out hne2.out hgg.out hgl.out ⟨#[]⟩ 0 0 ⟨#[]⟩ false
    generalize hWE : (((((W2.setCell ⟨gr, 0, none⟩ (.string ⟨#[]⟩)).setCell ⟨gr, 1, none⟩ (.int .u64 0)).setCell ⟨gr, 2, none⟩ (.int .i64 0)).setCell ⟨gr, 3, none⟩ (.string ⟨#[]⟩)).setCell ⟨gr + 1, 0, none⟩ (.bool false)) = WE at FE
    replace hWE := hid hWE
    replace FE := hid FE
    replace kR2 := hid kR2
    replace kB2 := hid kB2
    go_wp2_with fail
    rw [hWE.out]
    obtain ⟨⟨r0, r1, r2, r3⟩, r4, L3, F3⟩ := FE.out
    unfold bodyPostD
    refine leaves_cons (f := 79) (args := #[.pointer (some ⟨gr, 0, none⟩), .pointer (some ⟨gr + 1, 0, none⟩)]) (by simp) (by simp [go_sem]) ?_
    refine (idle _ _ _).mono ?_
    rintro e u' w'' ⟨rfl, rfl, rfl⟩
    simp [Leaves, settle, results, Try.results66, go_sem, r0, r1, r2, r3, r4]
    exact ⟨by have h := hz.out; unfold c4 ze at h; simp at h; obtain ⟨h1, h2, h3, h4⟩ := h; exact ⟨h1.symm, h2.symm, h3.symm, h4.symm⟩, L3, F3⟩
  | true =>
    have BF := hid (fun W B => store_end (w := w) (W2 := W) gr ((Below.block B gr (blk_lt kR2)).trans kR2) ((Below.block B (gr + 1) (blk_lt kB2)).trans kB2) (L2.out.later B) (FF.out.below B) hne.out hne2.out hgg.out hgl.out k s c' v true)
    have kR3 := hid (fun (W : World) (B : Below W2.heap.size W2 W) => (Below.block B gr (blk_lt kR2)).trans kR2)
    have kB3 := hid (fun (W : World) (B : Below W2.heap.size W2 W) => (Below.block B (gr + 1) (blk_lt kB2)).trans kB2)
    clear kR2 kB2
    have HH2 := hid (HH.out W2 L2.out)
    clear HH
    go_wp2_with fail
    refine HH2.out.mono ?_
    rintro e W3 ⟨rfl, b3⟩
    have kR2 := kR3.out W3 b3
    have kB2 := kB3.out W3 b3
    have f0 := fz_of kR2 0
    have f1 := fz_of kR2 1
    have f2 := fz_of kR2 2
    have f3 := fz_of kR2 3
    have f4 := fz_of kB2 0
    have z0 := cell_of kR2 0 (.string ⟨#[]⟩) rfl
    have z1 := cell_of kR2 1 (.int .u64 0) rfl
    have z2 := cell_of kR2 2 (.int .i64 0) rfl
    have z3 := cell_of kR2 3 (.string ⟨#[]⟩) rfl
    have z4 := cell_of kB2 0 (.bool false) rfl
    have FE := BF.out W3 b3
    generalize hWE : (((((W3.setCell ⟨gr, 0, none⟩ (.string k)).setCell ⟨gr, 1, none⟩ (.int .u64 s)).setCell ⟨gr, 2, none⟩ (.int .i64 c')).setCell ⟨gr, 3, none⟩ (.string v)).setCell ⟨gr + 1, 0, none⟩ (.bool true)) = WE at FE
    replace hWE := hid hWE
    replace FE := hid FE
    clear BF kR3 kB3 kR2 kB2 b3 HH2
    go_wp2_with fail
    rw [hWE.out]
    obtain ⟨⟨r0, r1, r2, r3⟩, r4, L3, F3⟩ := FE.out
    unfold bodyPostD
    refine leaves_cons (f := 79) (args := #[.pointer (some ⟨gr, 0, none⟩), .pointer (some ⟨gr + 1, 0, none⟩)]) (by simp) (by simp [go_sem]) ?_
    refine (idle _ _ _).mono ?_
    rintro e u' w'' ⟨rfl, rfl, rfl⟩
    simp [Leaves, settle, results, Try.results66, go_sem, r0, r1, r2, r3, r4]
    exact ⟨L3, F3⟩

set_option maxHeartbeats 1000000 in
theorem adv1_any (px gm g ga n : Nat) (bk : Bool) (j : Int) (ys : List E) (w : World) (H : Lc w g ga n j ys) (hj : -1 ≤ j ∧ j ≤ (n : Int)) (hn : n ≤ 4000000000000)
    (hx : w.cell? ⟨px, 0, none⟩ = some (.pointer (some ⟨gm, 0, none⟩))) (hb2 : w.cell? ⟨gm, 2, none⟩ = some (.bool bk)) :
    Calls Try.prog 75 #[.iface 40 (.pointer (some ⟨g, 0, none⟩)), .pointer (some ⟨px, 0, none⟩)] w fun e w' => e = .returned (.bool (hb n (st bk n j))) ∧ Lc w' g ga n (st bk n j) ys ∧ Fp (· = g) w w' := by
  have HC := hid (step_any g ga n bk j ys w H hj hn)
  generalize st bk n j = t at *
  generalize hb n t = bb at *
  clear H
  go_enter Try.func75, Try.ntmps75
  go_wp2_with fail
  refine HC.out.mono ?_
  rintro e w1 ⟨rfl, m1⟩
  replace m1 := hid m1
  clear hx hb2 HC
  go_wp2_with fail
  go_ret
  exact ⟨rfl, m1.out⟩
end Go.Proofs.Ytgjodfaliajlgaa.Ea

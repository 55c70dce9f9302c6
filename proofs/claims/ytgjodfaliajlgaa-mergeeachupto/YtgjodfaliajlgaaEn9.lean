/- merge.enter: a source is moved and then asked; one that is nil has nothing. -/
import Derived.Test.YtgjodfaliajlgaaHm
import Derived.Test.YtgjodfaliajlgaaLm9
import Derived.Recover
import Derived.Handy
namespace Go.Proofs.Ytgjodfaliajlgaa.En9
open Go.ChangeShapes Go.WideShapes Go.ChangeAt Go.RowKit
open Go.Sort (grow)
open Go.Proofs.Ytgjodfaliajlgaa.Gr hiding hid addr_add
open Go.Proofs.Ytgjodfaliajlgaa.Ik
open Go.Proofs.Ytgjodfaliajlgaa.Ee
open Go.Proofs.Ytgjodfaliajlgaa.Ls9 (Lb c4 hr hv hb)
open Go.Proofs.Ytgjodfaliajlgaa.Lm9
set_option linter.unusedVariables false
set_option linter.unusedSimpArgs false

theorem idle (pb pr : Value) (w : World) :
    CallsD Try.prog 79 #[pb, pr] .returning w fun e u' w' => e = .returned (.tuple #[]) ∧ u' = .returning ∧ w' = w := by
  refine callsD_of_wpS Try.func79 rfl fun c₀ cs hu => ?_
  apply wpS_seq
  apply wpS_region
  simp [wpOpsS, go_sem, recoverD, hu, Try.ntmps79, Exit.thenS]
  refine wpS_cond (t := false) (by simp [Act.eval]) ?_
  simp only [Bool.false_eq_true, if_false]
  refine wpS_of_wp (wp_skip ?_)
  cases c₀
  simp_all [bodyPostS, results, Try.results79]
def C0 : Obj := .cells #[.string ⟨#[]⟩, .int .u64 0, .int .i64 0, .string ⟨#[]⟩] 43
set_option maxHeartbeats 1000000 in
theorem enter_nil (fv : Value) (w : World) :
    Calls Try.prog 66 #[.nilIface, fv] w fun e w' => e = .returned (.tuple #[.agg (c4 ze), .bool false]) ∧ Below w.heap.size w w' := by
  have hmf : ∀ (fn : Fn) (first cap : Array Value) (w : World), (Instr.makeFunc fn first cap).run Try.prog w = .ok (.func fn first cap) w := fun _ _ _ _ => rfl
  have B0 : Hid (Below w.heap.size w ((w.alloc (.cells #[.string ⟨#[]⟩, .int .u64 0, .int .i64 0, .string ⟨#[]⟩] 43)).alloc (.cells #[.bool false] 4))) := ((Below.refl _ _).alloc (Nat.le_refl _) _).alloc (by simp) _
  go_enter_defers Try.func66, Try.ntmps66
  go_wp2_with fail
  unfold bodyPostD
  refine leaves_cons (f := 79) (args := #[.pointer (some ⟨w.heap.size, 0, none⟩), .pointer (some ⟨w.heap.size + 1, 0, none⟩)]) (by simp) (by simp [go_sem]) ?_
  refine (idle _ _ _).mono ?_
  rintro e u' w'' ⟨rfl, rfl, rfl⟩
  simp [Leaves, settle, results, Try.results66, go_sem]
  exact ⟨rfl, B0.out⟩
theorem store_end {w W2 : World} {g ga n : Nat} {i : Int} {ys : List E} (gr : Nat) (kR2 : W2.heap[gr]? = some C0) (kB2 : W2.heap[gr + 1]? = some (.cells #[.bool false] 4)) (L2 : Lc W2 g ga n i ys) (FF : Fp (· = g) w W2) (hne : gr ≠ g) (hne2 : gr + 1 ≠ g) (hgg : w.heap.size ≤ gr) (hga : ga < gr) (k : ByteArray) (s c : Int) (v : ByteArray) (b : Bool) :
    let W := (((((W2.setCell ⟨gr, 0, none⟩ (.string k)).setCell ⟨gr, 1, none⟩ (.int .u64 s)).setCell ⟨gr, 2, none⟩ (.int .i64 c)).setCell ⟨gr, 3, none⟩ (.string v)).setCell ⟨gr + 1, 0, none⟩ (.bool b))
    (W.cell? ⟨gr, 0, none⟩ = some (.string k) ∧ W.cell? ⟨gr, 1, none⟩ = some (.int .u64 s) ∧ W.cell? ⟨gr, 2, none⟩ = some (.int .i64 c) ∧ W.cell? ⟨gr, 3, none⟩ = some (.string v)) ∧ W.cell? ⟨gr + 1, 0, none⟩ = some (.bool b) ∧ Lc W g ga n i ys ∧ Fp (· = g) w W := by
  intro W
  unfold C0 at kR2
  have k4 := set_of (set_of (set_of (set_of kR2 0 (.string k)) 1 (.int .u64 s)) 2 (.int .i64 c)) 3 (.string v)
  have F4 : Fp (fun j => j = gr) W2 ((((W2.setCell ⟨gr, 0, none⟩ (.string k)).setCell ⟨gr, 1, none⟩ (.int .u64 s)).setCell ⟨gr, 2, none⟩ (.int .i64 c)).setCell ⟨gr, 3, none⟩ (.string v)) :=
    (((((Fp.refl (· = gr) W2).set (g := gr) (.inl rfl) 0 _).set (g := gr) (.inl rfl) 1 _).set (g := gr) (.inl rfl) 2 _).set (g := gr) (.inl rfl) 3 _)
  have kB4 := (F4.block (gr + 1) (blk_lt kB2) (by omega)).trans kB2
  have k5 := set_of kB4 0 (.bool b)
  have F5 : Fp (fun j => j = gr + 1) _ W := (Fp.refl (· = gr + 1) _).set (g := gr + 1) (.inl rfl) 0 (.bool b)
  have k6 := (F5.block gr (blk_lt k4) (by omega)).trans k4
  refine ⟨⟨cell_of k6 0 _ rfl, cell_of k6 1 _ rfl, cell_of k6 2 _ rfl, cell_of k6 3 _ rfl⟩, cell_of k5 0 _ rfl, ?_, ?_⟩
  · exact (L2.fp F4 (by omega) (by omega)).fp F5 (by omega) (by omega)
  · exact (FF.tr (F4.wide (fun j _ h => .inr (by omega)))).tr (F5.wide (fun j _ h => .inr (by omega)))
set_option maxHeartbeats 1000000 in
theorem enter_list (g ga n : Nat) (i j : Int) (ys : List E) (p1 p2 : Value) (w : World) (H : Lc w g ga n j ys)
    (hm : ∀ W1, Below w.heap.size w W1 → Calls Try.prog 67 #[.iface 40 (.pointer (some ⟨g, 0, none⟩)), p1, p2] W1 fun e W' => e = .returned (.bool (hb n i)) ∧ Lc W' g ga n i ys ∧ Fp (· = g) W1 W') :
    Calls Try.prog 66 #[.iface 40 (.pointer (some ⟨g, 0, none⟩)), .func (Fn.func 67) #[] #[p1, p2]] w fun e w' => e = .returned (.tuple #[.agg (hv ys i), .bool (hb n i)]) ∧ Lc w' g ga n i ys ∧ Fp (· = g) w w' := by
  have hmf : ∀ (fn : Fn) (first cap : Array Value) (w : World), (Instr.makeFunc fn first cap).run Try.prog w = .ok (.func fn first cap) w := fun _ _ _ _ => rfl
  obtain ⟨W1, hW1⟩ : ∃ W, W = w.alloc C0 := ⟨_, rfl⟩
  obtain ⟨W0, hW0⟩ : ∃ W, W = W1.alloc (.cells #[.bool false] 4) := ⟨_, rfl⟩
  obtain ⟨gr, hgr⟩ : ∃ n, n = w.heap.size := ⟨_, rfl⟩
  have B1 : Below w.heap.size w W1 := by rw [hW1]; exact box_below _ _
  have B2 : Below W1.heap.size W1 W0 := by rw [hW0]; exact box_below _ _
  have hs1 : W1.heap.size = gr + 1 := by rw [hW1, hgr]; simp
  have B0 : Below w.heap.size w W0 := Below.up B1 B2
  have k1 : W1.heap[gr]? = some C0 := by rw [hW1, hgr]; exact new_at _ _
  have kR : W0.heap[gr]? = some C0 := (B2.block gr (blk_lt k1)).trans k1
  have kB : W0.heap[gr + 1]? = some (.cells #[.bool false] 4) := by rw [← hs1, hW0]; exact new_at _ _
  have hne : gr ≠ g := by have := H.b.lt; omega
  have hne2 : gr + 1 ≠ g := by have := H.b.lt; omega
  have hgg : w.heap.size ≤ gr := by omega
  have hgl : Hid (ga < gr) := by show _ < _; have := H.r.lt; omega
  unfold C0 at kR
  have hW : Hid (W0 = (w.alloc (.cells #[.string ⟨#[]⟩, .int .u64 0, .int .i64 0, .string ⟨#[]⟩] 43)).alloc (.cells #[.bool false] 4)) := by show _ = _; rw [hW0, hW1]; rfl
  have HC := hid (hm W0 B0)
  replace hgr := hid hgr
  have kR0 := hid kR
  have kB0 := hid kB
  replace B0 := hid B0
  have HN : Hid (ys.length = n) := H.n
  clear B1 B2 k1 hs1 hW0 hW1 hm H kR kB
  obtain ⟨bb, hbb⟩ : ∃ v, v = hb n i := ⟨_, rfl⟩
  rw [← hbb] at HC ⊢
  have hbb0 := hid hbb
  have hrr : Hid (bb = false → hv ys i = c4 ze) := by
    intro h0
    have : hr ys i = none := by
      unfold hr
      rw [if_neg]
      rw [hbb] at h0
      unfold hb at h0
      simp at h0
      intro hh
      have := h0 hh.1
      have := hh.2
      rw [HN.out] at this
      omega
    show c4 ((hr ys i).getD ze) = _
    rw [this]; rfl
  clear hbb
  have HH := hid (fun W (L : Lc W g ga n i ys) => lhere_any g ga n i ys W L)
  rw [← hbb0.out] at HH
  obtain ⟨hvv, hhv⟩ : ∃ v, v = hv ys i := ⟨_, rfl⟩
  rw [← hhv] at HH hrr ⊢
  have hs : ∃ k s c' v, hvv = #[.string k, .int .u64 s, .int .i64 c', .string v] := ⟨_, _, _, _, hhv⟩
  obtain ⟨k, s, c', v, rfl⟩ := hs
  replace hhv := hid hhv
  replace hne := hid hne
  replace hne2 := hid hne2
  replace hgg := hid hgg
  go_enter_defers Try.func66, Try.ntmps66
  go_wp2_with fail
  rw [← hW.out, ← hgr.out]
  refine HC.out.mono ?_
  rintro e W2 ⟨rfl, L2, F2⟩
  have kR2 : W2.heap[gr]? = _ := (F2.block gr (blk_lt kR0.out) hne.out).trans kR0.out
  have kB2 : W2.heap[gr + 1]? = _ := (F2.block (gr + 1) (blk_lt kB0.out) hne2.out).trans kB0.out
  have FF : Fp (· = g) w W2 := (Fp.of B0.out).tr (F2.wide (fun j _ h => .inl h))
  clear kR0 kB0 F2
  replace L2 := hid L2
  replace FF := hid FF
  cases bb with
  | false =>
    have hz := hid (hrr.out rfl)
    have f0 := fz_of kR2 0
    have f1 := fz_of kR2 1
    have f2 := fz_of kR2 2
    have f3 := fz_of kR2 3
    have f4 := fz_of kB2 0
    have z0 := cell_of kR2 0 (.string ⟨#[]⟩) rfl
    have z1 := cell_of kR2 1 (.int .u64 0) rfl
    have z2 := cell_of kR2 2 (.int .i64 0) rfl
    have z3 := cell_of kR2 3 (.string ⟨#[]⟩) rfl
    have z4 := cell_of kB2 0 (.bool false) rfl
    have FE := store_end gr kR2 kB2 L2.out FF.out hne.out hne2.out hgg.out hgl.out ⟨#[]⟩ 0 0 ⟨#[]⟩ false
    generalize hWE : (((((W2.setCell ⟨gr, 0, none⟩ (.string ⟨#[]⟩)).setCell ⟨gr, 1, none⟩ (.int .u64 0)).setCell ⟨gr, 2, none⟩ (.int .i64 0)).setCell ⟨gr, 3, none⟩ (.string ⟨#[]⟩)).setCell ⟨gr + 1, 0, none⟩ (.bool false)) = WE at FE
    replace hWE := hid hWE
    replace FE := hid FE
    replace kR2 := hid kR2
    replace kB2 := hid kB2
    go_wp2_with fail
    rw [hWE.out]
    obtain ⟨⟨r0, r1, r2, r3⟩, r4, L3, F3⟩ := FE.out
    unfold bodyPostD
    refine leaves_cons (f := 79) (args := #[.pointer (some ⟨gr, 0, none⟩), .pointer (some ⟨gr + 1, 0, none⟩)]) (by simp) (by simp [go_sem]) ?_
    refine (idle _ _ _).mono ?_
    rintro e u' w'' ⟨rfl, rfl, rfl⟩
    simp [Leaves, settle, results, Try.results66, go_sem, r0, r1, r2, r3, r4]
    exact ⟨by have h := hz.out; unfold c4 ze at h; simp at h; obtain ⟨h1, h2, h3, h4⟩ := h; exact ⟨h1.symm, h2.symm, h3.symm, h4.symm⟩, L3, F3⟩
  | true =>
    have BF := hid (fun W B => store_end (w := w) (W2 := W) gr ((Below.block B gr (blk_lt kR2)).trans kR2) ((Below.block B (gr + 1) (blk_lt kB2)).trans kB2) (L2.out.later B) (FF.out.below B) hne.out hne2.out hgg.out hgl.out k s c' v true)
    have kR3 := hid (fun (W : World) (B : Below W2.heap.size W2 W) => (Below.block B gr (blk_lt kR2)).trans kR2)
    have kB3 := hid (fun (W : World) (B : Below W2.heap.size W2 W) => (Below.block B (gr + 1) (blk_lt kB2)).trans kB2)
    clear kR2 kB2
    have HH2 := hid (HH.out W2 L2.out)
    clear HH
    go_wp2_with fail
    refine HH2.out.mono ?_
    rintro e W3 ⟨rfl, b3⟩
    have kR2 := kR3.out W3 b3
    have kB2 := kB3.out W3 b3
    have f0 := fz_of kR2 0
    have f1 := fz_of kR2 1
    have f2 := fz_of kR2 2
    have f3 := fz_of kR2 3
    have f4 := fz_of kB2 0
    have z0 := cell_of kR2 0 (.string ⟨#[]⟩) rfl
    have z1 := cell_of kR2 1 (.int .u64 0) rfl
    have z2 := cell_of kR2 2 (.int .i64 0) rfl
    have z3 := cell_of kR2 3 (.string ⟨#[]⟩) rfl
    have z4 := cell_of kB2 0 (.bool false) rfl
    have FE := BF.out W3 b3
    generalize hWE : (((((W3.setCell ⟨gr, 0, none⟩ (.string k)).setCell ⟨gr, 1, none⟩ (.int .u64 s)).setCell ⟨gr, 2, none⟩ (.int .i64 c')).setCell ⟨gr, 3, none⟩ (.string v)).setCell ⟨gr + 1, 0, none⟩ (.bool true)) = WE at FE
    replace hWE := hid hWE
    replace FE := hid FE
    clear BF kR3 kB3 kR2 kB2 b3 HH2
    go_wp2_with fail
    rw [hWE.out]
    obtain ⟨⟨r0, r1, r2, r3⟩, r4, L3, F3⟩ := FE.out
    unfold bodyPostD
    refine leaves_cons (f := 79) (args := #[.pointer (some ⟨gr, 0, none⟩), .pointer (some ⟨gr + 1, 0, none⟩)]) (by simp) (by simp [go_sem]) ?_
    refine (idle _ _ _).mono ?_
    rintro e u' w'' ⟨rfl, rfl, rfl⟩
    simp [Leaves, settle, results, Try.results66, go_sem, r0, r1, r2, r3, r4]
    exact ⟨L3, F3⟩
end Go.Proofs.Ytgjodfaliajlgaa.En9

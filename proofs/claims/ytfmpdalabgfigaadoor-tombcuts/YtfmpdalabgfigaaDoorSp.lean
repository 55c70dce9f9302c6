/- Span of the program. -/
import Derived.Test.YtfmpdalabgfigaaDoorCv
namespace Go.Proofs.YtfmpdalabgfigaaDoor.Sp
open Go.ChangeShapes Go.WideShapes Go.ChangeAt Go.RowKit Go.Shelf
open Go.Proofs.YtfmpdalabgfigaaDoor.Lx
open Go.Proofs.YtfmpdalabgfigaaDoor.Tm
open Go.Proofs.YtfmpdalabgfigaaDoor.Vi
open Go.Proofs.YtfmpdalabgfigaaDoor.Mm
set_option linter.unusedVariables false
set_option linter.unusedSimpArgs false
attribute [local go_sem] Oper.semAt_some leq_s gtr_s geq_s run_mx run_mn

/-- The least begin and the greatest end so far. -/
def lo (r : ByteArray × ByteArray × Bool) (x : T) : ByteArray := if r.2.2 = false ∨ lt x.b r.1 = true then x.b else r.1
def sst (r : ByteArray × ByteArray × Bool) (x : T) : ByteArray × ByteArray × Bool := (lo r x, mx r.2.1 x.e, true)
def spl (xs : List T) : ByteArray × ByteArray × Bool := xs.foldl sst (⟨#[]⟩, ⟨#[]⟩, false)
/-- What Span tells. -/
def spn (xs : List T) : ByteArray × ByteArray × Bool := spl (xs.filter vd)
theorem spl_snoc (xs : List T) (x : T) : spl (xs ++ [x]) = sst (spl xs) x := by
  unfold spl; rw [List.foldl_append]; rfl
/-- What the loop of Span holds. -/
structure Cl (n0 : Nat) (w : World) (ys : List T) (W : World) : Prop where
  fl : Boxed W n0 9 (.string (spl ys).1)
  fm : Boxed W (n0 + 1) 9 (.string (spl ys).2.1)
  fo : Boxed W (n0 + 2) 4 (.bool (spl ys).2.2)
  b : Below n0 w W
  z : n0 + 4 ≤ W.heap.size
theorem Cl.kept {n0 : Nat} {w : World} {ys : List T} {W W' : World} {row : Option Nat} (h : Cl n0 w ys W) (K : W.grownBy W' row) (hr : ∀ k, row = some k → n0 + 4 ≤ k) : Cl n0 w ys W' := by
  have ne : ∀ j, j < n0 + 4 → some j ≠ row := fun j hj e => by have := hr j e.symm; omega
  exact ⟨h.fl.kept K (ne _ (by omega)), h.fm.kept K (ne _ (by omega)), h.fo.kept K (ne _ (by omega)), h.b.grown K (by have := h.z; omega) (fun k e => by have := hr k e; omega), Nat.le_trans h.z K.size⟩
theorem Cl.later {n0 : Nat} {w : World} {ys : List T} {W W' : World} (h : Cl n0 w ys W) (K : Below W.heap.size W W') : Cl n0 w ys W' := h.kept (row := none) (grown_of K) (fun _ e => by cases e)
theorem Cl.yes {n0 : Nat} {w : World} {ys : List T} {W : World} (h : Cl n0 w ys W) (x : T) (hx : (spl ys).2.2 = false ∨ lt x.b (spl ys).1 = true) :
    Cl n0 w (ys ++ [x]) (((W.setCell ⟨n0, 0, none⟩ (.string x.b)).setCell ⟨n0 + 1, 0, none⟩ (.string (mx (spl ys).2.1 x.e))).setCell ⟨n0 + 2, 0, none⟩ (.bool true)) ∧ KeepsOthers W (((W.setCell ⟨n0, 0, none⟩ (.string x.b)).setCell ⟨n0 + 1, 0, none⟩ (.string (mx (spl ys).2.1 x.e))).setCell ⟨n0 + 2, 0, none⟩ (.bool true)) ∧ Below n0 W (((W.setCell ⟨n0, 0, none⟩ (.string x.b)).setCell ⟨n0 + 1, 0, none⟩ (.string (mx (spl ys).2.1 x.e))).setCell ⟨n0 + 2, 0, none⟩ (.bool true)) := by
  have e : spl (ys ++ [x]) = (x.b, mx (spl ys).2.1 x.e, true) := by rw [spl_snoc]; unfold sst lo; rw [if_pos hx]
  have B : Below n0 W (((W.setCell ⟨n0, 0, none⟩ (.string x.b)).setCell ⟨n0 + 1, 0, none⟩ (.string (mx (spl ys).2.1 x.e))).setCell ⟨n0 + 2, 0, none⟩ (.bool true)) := (((Below.refl n0 W).setCell (p := ⟨n0, 0, none⟩) (by simp) _).setCell (p := ⟨n0 + 1, 0, none⟩) (by simp) _).setCell (p := ⟨n0 + 2, 0, none⟩) (by simp) _
  refine ⟨⟨?_, ?_, ?_, h.b.trans B, by have := h.z; simp; omega⟩, ((KeepsOthers.setCell _ _ _).trans (KeepsOthers.setCell _ _ _)).trans (KeepsOthers.setCell _ _ _), B⟩
  · rw [e]; exact (set_ne _ _ _ _ _ (by omega)).trans ((set_ne _ _ _ _ _ (by omega)).trans (h.fl.set _))
  · rw [e]; exact (set_ne _ _ _ _ _ (by omega)).trans (Boxed.set (v := .string (spl ys).2.1) _ ((set_ne _ _ _ _ _ (by omega)).trans h.fm))
  · rw [e]; exact Boxed.set (v := .bool (spl ys).2.2) _ ((set_ne _ _ _ _ _ (by omega)).trans ((set_ne _ _ _ _ _ (by omega)).trans h.fo))
theorem Cl.no {n0 : Nat} {w : World} {ys : List T} {W : World} (h : Cl n0 w ys W) (x : T) (hx : ¬ ((spl ys).2.2 = false ∨ lt x.b (spl ys).1 = true)) :
    Cl n0 w (ys ++ [x]) ((W.setCell ⟨n0 + 1, 0, none⟩ (.string (mx (spl ys).2.1 x.e))).setCell ⟨n0 + 2, 0, none⟩ (.bool true)) ∧ KeepsOthers W ((W.setCell ⟨n0 + 1, 0, none⟩ (.string (mx (spl ys).2.1 x.e))).setCell ⟨n0 + 2, 0, none⟩ (.bool true)) ∧ Below n0 W ((W.setCell ⟨n0 + 1, 0, none⟩ (.string (mx (spl ys).2.1 x.e))).setCell ⟨n0 + 2, 0, none⟩ (.bool true)) := by
  have e : spl (ys ++ [x]) = ((spl ys).1, mx (spl ys).2.1 x.e, true) := by rw [spl_snoc]; unfold sst lo; rw [if_neg hx]
  have B : Below n0 W ((W.setCell ⟨n0 + 1, 0, none⟩ (.string (mx (spl ys).2.1 x.e))).setCell ⟨n0 + 2, 0, none⟩ (.bool true)) := ((Below.refl n0 W).setCell (p := ⟨n0 + 1, 0, none⟩) (by simp) _).setCell (p := ⟨n0 + 2, 0, none⟩) (by simp) _
  refine ⟨⟨?_, ?_, ?_, h.b.trans B, by have := h.z; simp; omega⟩, (KeepsOthers.setCell _ _ _).trans (KeepsOthers.setCell _ _ _), B⟩
  · rw [e]; exact (set_ne _ _ _ _ _ (by omega)).trans ((set_ne _ _ _ _ _ (by omega)).trans h.fl)
  · rw [e]; exact (set_ne _ _ _ _ _ (by omega)).trans (Boxed.set (v := .string (spl ys).2.1) _ h.fm)
  · rw [e]; exact Boxed.set (v := .bool (spl ys).2.2) _ ((set_ne _ _ _ _ _ (by omega)).trans h.fo)
set_option maxRecDepth 100000 in
set_option maxHeartbeats 4000000 in
theorem span_in (a : Option Addr) (len cap : Nat) (xs : List T) (w : World) (H : Tbs w a len cap xs) (hlen : len ≤ 140737488355328) (L M : ByteArray) (Fd : Bool) (hE : spl (xs.filter vd) = (L, M, Fd)) :
    CallsIn Fence.wide 8 Tryd.prog 16 #[.slice a len cap] w fun e w' => e = .returned (.tuple #[.string L, .string M, .bool Fd]) ∧ Below w.heap.size w w' := by
  replace hE := hid hE
  refine callsIn_of_wp_marks Tryd.func16 rfl trivial ?_ rfl
  simp only [Tryd.ntmps16, List.size_toArray, List.length_cons, List.length_nil, Nat.reduceAdd, Nat.reduceSub, Array.replicate_succ, Array.replicate_zero, List.push_toArray, List.append_toArray, List.nil_append, List.cons_append]
  obtain ⟨n0, hn0⟩ : ∃ n0, n0 = w.heap.size := ⟨_, rfl⟩
  obtain ⟨W4, hW4⟩ : ∃ W, W = (((w.alloc (.cells #[.string ⟨#[]⟩] 9)).alloc (.cells #[.string ⟨#[]⟩] 9)).alloc (.cells #[.bool false] 4)).alloc (.cells #[.slice a len cap] 22) := ⟨_, rfl⟩
  have s5 : W4.heap.size = n0 + 4 := by rw [hW4, hn0]; simp
  have B4 : Below n0 w W4 := by rw [hW4, hn0]; exact (((box_below w _).alloc (by simp) _).alloc (by simp; omega) _).alloc (by simp; omega) _
  have hbl : Boxed W4 (n0 + 3) 22 (.slice a len cap) := by rw [hW4]; exact new_box (by simp; omega) _ _
  have hC0 : Cl n0 w [] W4 := by
    refine ⟨?_, ?_, ?_, B4, by omega⟩
    · rw [hW4]; exact (((new_box hn0 _ _).alloc _).alloc _).alloc _
    · rw [hW4]; exact ((new_box (by simp; omega) _ _).alloc _).alloc _
    · rw [hW4]; exact (new_box (by simp; omega) _ _).alloc _
  have hS : Hid (∀ W', Below n0 w W' → Tbs W' a len cap xs) := fun W' h' => H.later (by rw [← hn0]; exact h')
  replace H := hid H
  replace hW4 := hid hW4
  replace hC0 := hid hC0
  replace hbl := hid hbl
  replace B4 := hid B4
  replace hn0 := hid hn0
  gi_wp2_with fail
  refine ⟨trivial, (callsIn_wide.2 (valids_any a len cap _)).mono ?_⟩
  rintro e w' ⟨rfl, rfl⟩
  gi_wp2_with fail
  rw [← hW4.out, ← hn0.out]
  refine range_q (F := Fence.wide) (n := 8) encs rfl (by omega) (gf := 33) (lb := #[.pointer (some ⟨n0 + 3, 0, none⟩)]) rfl trivial (enters_of Tryd.func33 (by kernel_rfl) rfl) (fun _ => rfl)
    (fun ys W => Cl n0 w ys W) (fun _ _ _ => False) (fun pre x => pre ++ [x] <+: xs.filter vd) (Below n0) (fun ys _ _ => ys = xs.filter vd) (fun _ => True)
    (fun s W o h => h.later (box_below W o)) (fun s W W' k h g hk hc => h.kept g (fun q e => by cases e; omega)) (fun _ _ _ _ _ h => h.elim)
    (fun A B hA hb => hb.mono (by omega)) (fun h k => h.trans k)
    (fun W l o o' hl ho hc => belowK_b' (w := W4) (by omega) W l o o' hl ho)
    hC0.out ?seq
    (fun Y x a' W => ∃ Bo, Bt W Bo x ∧ a' = { tmps := #[.slice a len cap, undef, .pointer (some ⟨n0, 0, none⟩), .pointer (some ⟨n0 + 1, 0, none⟩), .pointer (some ⟨n0 + 2, 0, none⟩), .pointer (some ⟨Bo, 0, none⟩), .slice a len cap, .func (.func 33) #[] #[.pointer (some ⟨n0 + 3, 0, none⟩)], .agg #[.string x.b, .string x.e, .int .u64 x.s], undef, undef, undef, undef, undef, undef, undef, undef, undef, undef, undef, undef, undef, undef, undef, undef, undef], defers := [] })
    ?hAx ?assign ?body ?done ?stop
  case seq =>
    intro l J Jx W1 hB1 hY h0
    have hB1' : Below n0 w W1 := B4.out.trans (hB1.mono (by omega))
    refine (vals_in 7 (by omega) l (n0 + 3) n0 a len cap xs J Jx hY W1 (fun W' h' => hS.out W' (hB1'.trans h')) ((hB1.block _ hbl.out.lt).trans hbl.out) h0 (by have := hB1.size; omega) hlen).mono ?_
    rintro e W' ⟨hv, (⟨W0, h1, h2⟩ | ⟨pre, h1, h2⟩)⟩
    · exact ⟨hv, .inl ⟨_, W0, h1, h2, rfl⟩⟩
    · exact ⟨hv, .inr ⟨pre, trivial, h2⟩⟩
  case hAx =>
    rintro Y x a' W W' j ⟨Bo, h1, h2⟩ hg hc
    refine ⟨Bo, h1.kept hg (fun e => ?_), h2⟩
    cases e
    exact hc _ _ _ h1
  case assign =>
    intro l x W K hK
    simp only [encs]
    gi_wp2
    exact hK _ _ (box_below _ _) ⟨W.heap.size, new_at _ _, rfl⟩
  case body =>
    rintro l pre ⟨xb, xe, x3⟩ a' W0 WY W1 W2 hI h0Y h01 hfr h12 hl hlo hnc ⟨Bo, hBo, rfl⟩
    have hC2 : Cl n0 w pre W2 := (hI.later h01).kept h12 (fun j e => by cases e; omega)
    have hne : Bo ≠ n0 ∧ Bo ≠ n0 + 1 ∧ Bo ≠ n0 + 2 := by
      refine ⟨fun e => ?_, fun e => ?_, fun e => ?_⟩
      · have := hC2.fl; rw [← e] at this; unfold Boxed at this; rw [show W2.heap[Bo]? = _ from hBo] at this; simp at this
      · have := hC2.fm; rw [← e] at this; unfold Boxed at this; rw [show W2.heap[Bo]? = _ from hBo] at this; simp at this
      · have := hC2.fo; rw [← e] at this; unfold Boxed at this; rw [show W2.heap[Bo]? = _ from hBo] at this; simp at this
    have y0 := hBo.c0
    have y1 := hBo.c1
    dsimp only at y0 y1
    have c0 := hC2.fl.cell
    have f0 := hC2.fl.frozen
    have c1 := hC2.fm.cell
    have f1 := hC2.fm.frozen
    have c2 := hC2.fo.cell
    have f2 := hC2.fo.frozen
    have hY := fun h => hid (hC2.yes ⟨xb, xe, x3⟩ h)
    have hN := fun h => hid (hC2.no ⟨xb, xe, x3⟩ h)
    have hB1 : Bt (W2.setCell ⟨n0, 0, none⟩ (.string xb)) Bo ⟨xb, xe, x3⟩ := (set_ne _ _ _ _ _ hne.1).trans hBo
    have y3 := hB1.c1
    have c3 : (W2.setCell ⟨n0, 0, none⟩ (.string xb)).cell? ⟨n0 + 1, 0, none⟩ = some (.string (spl pre).2.1) := Boxed.cell (W := W2.setCell ⟨n0, 0, none⟩ (.string xb)) ((set_ne _ _ _ _ _ (by omega)).trans hC2.fm)
    dsimp only at y3
    clear hne
    generalize (spl pre).1 = L' at *
    generalize (spl pre).2.1 = M' at *
    generalize (spl pre).2.2 = F' at *
    replace hI := hid hI
    replace hC2 := hid hC2
    replace hBo := hid hBo
    replace hB1 := hid hB1
    dsimp only at hY hN
    cases F' with
    | false =>
      have hR := hY (.inl rfl)
      clear hY hN
      gi_wp2_with fail
      exact ⟨hR.out.2.1.from _, hR.out.2.2, hR.out.1⟩
    | true =>
      cases t1 : Op.bytesLess xb.toList L'.toList with
      | true =>
        have hR := hY (.inr t1)
        clear hY hN
        gi_wp2_with fail
        exact ⟨hR.out.2.1.from _, hR.out.2.2, hR.out.1⟩
      | false =>
        have hR := hN (by rintro (h | h); cases h; rw [show lt xb L' = false from t1] at h; cases h)
        clear hY hN
        gi_wp2_with fail
        exact ⟨hR.out.2.1.from _, hR.out.2.2, hR.out.1⟩
  case done =>
    rintro D l ys W0 W W' hD hI h0W rfl hWW hl hnc hDd
    have hC : Cl n0 w (xs.filter vd) W' := (hI.later h0W).kept hWW (fun j e => by cases e; omega)
    obtain ⟨fl, fm, fo, fb, fz⟩ := hC
    rw [hE.out] at fl fm fo
    dsimp only at fl fm fo
    have c0 := fl.cell
    have g0 := fl.frozen
    have c1 := fm.cell
    have g1 := fm.frozen
    have c2 := fo.cell
    have g2 := fo.frozen
    obtain ⟨W5, hW5⟩ : ∃ W5, W5 = (((W'.setCell ⟨n0, 0, none⟩ (.string L)).setCell ⟨n0 + 1, 0, none⟩ (.string M)).setCell ⟨n0 + 1 + 1, 0, none⟩ (.bool Fd)).drew := ⟨_, rfl⟩
    have l5 : Boxed W5 n0 9 (.string L) := by rw [hW5]; exact (set_ne _ _ _ _ _ (by omega)).trans ((set_ne _ _ _ _ _ (by omega)).trans (fl.set _))
    have m5 : Boxed W5 (n0 + 1) 9 (.string M) := by rw [hW5]; exact (set_ne _ _ _ _ _ (by omega)).trans (Boxed.set (v := .string M) _ ((set_ne _ _ _ _ _ (by omega)).trans fm))
    have o5 : Boxed W5 (n0 + 2) 4 (.bool Fd) := by rw [hW5]; exact Boxed.set (v := .bool Fd) _ ((set_ne _ _ _ _ _ (by omega)).trans ((set_ne _ _ _ _ _ (by omega)).trans fo))
    have hD5 : W5.heap[D]? = some (.deferred (some [])) := by rw [hW5]; exact (set_ne _ _ _ _ _ (by omega)).trans ((set_ne _ _ _ _ _ (by omega)).trans ((set_ne _ _ _ _ _ (by omega)).trans hDd))
    have b5 : Below n0 w W5 := by rw [hW5]; exact (((fb.setCell (p := ⟨n0, 0, none⟩) (by simp) _).setCell (p := ⟨n0 + 1, 0, none⟩) (by simp) _).setCell (p := ⟨n0 + 2, 0, none⟩) (by simp) _).drew
    replace hW5 := hid hW5
    replace l5 := hid l5
    replace m5 := hid m5
    replace o5 := hid o5
    replace hD5 := hid hD5
    replace b5 := hid b5
    replace fl := hid fl
    replace fm := hid fm
    replace fo := hid fo
    replace fb := hid fb
    clear hI h0W hWW hnc hDd
    gi_wp2_with fail
    gi_region
    gi_wp2_with fail
    rw [← hW5.out]
    refine ⟨by simp, .inl ⟨_, _, rfl, run_takeDeferred hD5.out, ?_⟩⟩
    have k0 := cell_kept l5.out.cell (grownBy_putObj' _ D (.deferred none)) (fun r e => by cases e; exact ⟨_, hD5.out, rfl⟩)
    have k1 := cell_kept m5.out.cell (grownBy_putObj' _ D (.deferred none)) (fun r e => by cases e; exact ⟨_, hD5.out, rfl⟩)
    have k2 := cell_kept o5.out.cell (grownBy_putObj' _ D (.deferred none)) (fun r e => by cases e; exact ⟨_, hD5.out, rfl⟩)
    refine ⟨.tuple #[.string L, .string M, .bool Fd], ?_, rfl, ?_⟩
    · simp [results, Tryd.results16, go_sem, k0, k1, k2]
    · rw [← hn0.out]; exact b5.out.trans (belowK_b' (w := W4) (by omega) _ D _ _ hD hD5.out)
  case stop =>
    rintro D c pre W hD _ hx hDd
    exact hx.elim
theorem span_any (a : Option Addr) (len cap : Nat) (xs : List T) (w : World) (H : Tbs w a len cap xs) (hlen : len ≤ 140737488355328) :
    Calls Tryd.prog 16 #[.slice a len cap] w fun e w' => e = .returned (.tuple #[.string (spn xs).1, .string (spn xs).2.1, .bool (spn xs).2.2]) ∧ Below w.heap.size w w' :=
  callsIn_wide.1 (span_in a len cap xs w H hlen _ _ _ rfl)
end Go.Proofs.YtfmpdalabgfigaaDoor.Sp

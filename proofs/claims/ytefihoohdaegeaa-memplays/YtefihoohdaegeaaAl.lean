/- A range over a closure that turns nothing; the iterator of a list: its contract. -/
import Derived.Test.YtefihoohdaegeaaLs
import Derived.RangeFuncNested
import Derived.RangeFuncBound
import Derived.RangeFuncCalls
import Derived.RangeFuncLeaves
import Derived.Shelf.Abstract
import Derived.Shelf.RegionOpen
import Derived.OwnWalkIn
import Derived.TacticsInMore
import Derived.LoopNIn
import Derived.LoopIn
import Derived.WalkMore
import Derived.ControlIn
namespace Go.Proofs.Ytefihoohdaegeaa.Al
open Go.ChangeShapes Go.WideShapes Go.ChangeAt Go.RowKit Go.Shelf
open Go.Sort (grow)
open Go.Proofs.Ytefihoohdaegeaa.Ik
open Go.Proofs.Ytefihoohdaegeaa.Sg
open Go.Proofs.Ytefihoohdaegeaa.Cm (ik)
open Go.Proofs.Ytefihoohdaegeaa.Vl
open Go.Proofs.Ytefihoohdaegeaa.Mm
open Go.Proofs.Ytefihoohdaegeaa.Tr
open Go.Proofs.Ytefihoohdaegeaa.Li
open Go.Proofs.Ytefihoohdaegeaa.In
open Go.Proofs.Ytefihoohdaegeaa.Ob
set_option linter.unusedVariables false
set_option linter.unusedSimpArgs false

open Go.Proofs.Ytefihoohdaegeaa.Fi


open Go.Proofs.Ytefihoohdaegeaa.Gs
attribute [local go_sem] Oper.semAt_some

section
variable {F : Fence} {n : Nat} {P : Program} {w : World}
theorem put_grown (W : World) (l : Nat) (o : Obj) : W.grownBy (W.putObj l o) (some l) := grownBy_putObj' W l o
theorem not_cells {W : World} {l : Nat} {o : Obj} (h : W.heap[l]? = some o) (ho : o.isCells = false) : ∀ c t f, W.heap[l]? ≠ some (.cells c t f) := by
  intro c t f e
  rw [h] at e
  cases e
  cases ho
/-- The walk over a range over a closure that turns nothing of what is there. -/
theorem range_q {g : Operand} {ps : Array Tmp} {assign body : Code} {Q : Exit → Act → World → Prop} {a : Act} {α : Type} (encs : α → Array Value)
    (hro : F.round = none) (h1 : 1 ≤ n) {gf : Nat} {lb : Array Value} (hg : a.eval g = .func (.func gf) #[] lb) (hFg : F.fn gf) (eg : ∀ args w, (callFunc gf args).run P w = .ok (.enter gf args) w) (hps : ∀ x, (encs x).size = ps.size)
    (I : List α → World → Prop) (Ix : Code → List α → World → Prop) (Fr : List α → α → Prop) (Kp : World → World → Prop) (Fin : List α → World → World → Prop) (Sp : List α → Prop)
    (hIa : ∀ s W o, I s W → I s (W.alloc o)) (hIb : ∀ s W W' k, I s W → W.grownBy W' (some k) → w.heap.size ≤ k → (∀ c t f, W.heap[k]? ≠ some (.cells c t f)) → I s W') (hXb : ∀ c s W W' k, Ix c s W → W.grownBy W' (some k) → w.heap.size ≤ k → (∀ c t f, W.heap[k]? ≠ some (.cells c t f)) → Ix c s W')
    (hKg : ∀ A B : World, w.heap.size ≤ A.heap.size → Below A.heap.size A B → Kp A B) (hKt : ∀ {A B C : World}, Kp A B → Kp B C → Kp A C) (hKb : ∀ (W : World) (l : Nat) (o o' : Obj), w.heap.size ≤ l → W.heap[l]? = some o → o.isCells = false → Kp W (W.putObj l o'))
    (h0 : I [] w)
    (hseq : ∀ (l : Nat) (J Jx : List α → World → Prop) (W1 : World), Below w.heap.size w W1 → (∀ pre x W0 W', J pre W0 → Below W0.heap.size W0 W' → Fr pre x → YieldAt F (n - 1 - 1) P l (encs x) W' fun e W'' =>
        (e = .returned (.bool true) ∧ J (pre ++ [x]) W'' ∧ Kp W' W'') ∨ (e = .returned (.bool false) ∧ Jx (pre ++ [x]) W'')) → J [] W1 →
      CallsIn F (n - 1) P gf (#[.func (.yield l) #[] #[]] ++ lb) W1 fun e W' => (∃ v, e = .returned v) ∧ ((∃ ys W0, J ys W0 ∧ Below W0.heap.size W0 W' ∧ Fin ys W0 W') ∨ (∃ pre, Sp pre ∧ Jx pre W')))
    (Ax : α → Act → World → Prop) (hAx : ∀ x a' W W' k, Ax x a' W → W.grownBy W' (some k) → (∀ c t f, W.heap[k]? ≠ some (.cells c t f)) → Ax x a' W')
    (hassign : ∀ (l : Nat) (x : α) (W : World) (K : Act → World → Prop), (∀ a' W', Below W.heap.size W W' → Ax x a' W' → K a' W') → assign.wpIn (F.inRound l) (n - 1 - 1) P (Exit.then K (fun _ _ _ => False)) { tmps := (ps.zip (encs x)).foldl (fun t (p, v) => t.setIfInBounds p v) a.tmps, defers := [] } W)
    (hbody : ∀ (l : Nat) (pre : List α) (x : α) (a' : Act) (W0 W1 W2 : World), I pre W0 → Below W0.heap.size W0 W1 → Fr pre x → W1.grownBy W2 (some l) → w.heap.size ≤ l → (∃ r, W2.heap[l]? = some (.loop r)) → (∀ c t f, W1.heap[l]? ≠ some (.cells c t f)) → Ax x a' W2 →
      body.wpIn (F.inRound l) (n - 1 - 1) P (ownPostG w.heap.size Kp I Ix (pre ++ [x]) W2) a' W2)
    (hdone : ∀ (D l : Nat) (ys : List α) (W0 W W' : World), w.heap.size ≤ D → I ys W0 → Below W0.heap.size W0 W → Fin ys W0 W → W.grownBy W' (some l) → w.heap.size ≤ l → (∀ c t f, W.heap[l]? ≠ some (.cells c t f)) → W'.heap[D]? = some (.deferred (some [])) → Q .normal { a with defers := { target := .collected D, args := #[] } :: a.defers } W')
    (hstop : ∀ (D : Nat) (c : Code) (pre : List α) (W : World), w.heap.size ≤ D → Sp pre → Ix c pre W → W.heap[D]? = some (.deferred (some [])) → c.wpIn F n P Q { a with defers := { target := .collected D, args := #[] } :: a.defers } W) :
    (Code.rangeFunc g ps assign body).wpIn F n P Q a w := by
  refine wpIn_rangeFunc ?_
  intro fn hfn
  rw [hro]
  obtain ⟨rc, hrc⟩ : ∃ rc : LoopState → Option Code → Loop, rc = fun st pe => { state := st, pending := pe, fn, tmps := a.tmps, params := ps, assign, body, defers := w.heap.size } := ⟨_, rfl⟩
  obtain ⟨W1, hW1⟩ : ∃ W1, (w.alloc (.deferred (some []))).alloc (.loop (rc .ready none)) = W1 := ⟨_, rfl⟩
  have hL1 : W1.heap[w.heap.size + 1]? = some (.loop (rc .ready none)) := by
    rw [← hW1]; have := World.alloc_heap_new (w.alloc (.deferred (some []))) (.loop (rc .ready none)); rwa [World.size_alloc] at this
  have hD1 : W1.heap[w.heap.size]? = some (.deferred (some [])) := by
    rw [← hW1]; exact (Below.heap_alloc _ _ _ (by simp)).trans (World.alloc_heap_new w _)
  have hI1 : I [] W1 := by rw [← hW1]; exact hIa _ _ _ (hIa _ _ _ h0)
  have hB1 : Below w.heap.size w W1 := by rw [← hW1]; exact ((Below.refl _ w).alloc (Nat.le_refl _) _).alloc (by simp) _
  have stay : ∀ {A B : World} {k : Nat} {o : Obj}, Below A.heap.size A B → w.heap.size ≤ k → A.heap[k]? = some o → B.heap[k]? = some o := fun hAB hk ho =>
    (hAB.block _ (Array.getElem?_eq_some_iff.1 ho).1).trans ho
  refine ⟨w.heap.size + 1, [{ target := .collected w.heap.size, args := #[] }], W1, { target := .fn (.func gf) lb, args := #[.func (.yield (w.heap.size + 1)) #[] #[]] }, W1, gf,
    #[.func (.yield (w.heap.size + 1)) #[] #[]] ++ lb, W1, ?_, ?_, ?_, ?_, fun _ => h1, ?_⟩
  · rw [← hW1, hrc]; exact run_enterLoop_outer _ _ _ _ _
  · simp only [resolve, hg]
    simp [go_sem]
  · intro f' hf'; simp [Target.leads] at hf'; subst hf'; exact hFg
  · simp [invoke, go_sem, eg]
  · refine (hseq (w.heap.size + 1)
      (fun pre W => I pre W ∧ W.heap[w.heap.size + 1]? = some (.loop (rc .ready none)) ∧ W.heap[w.heap.size]? = some (.deferred (some [])))
      (fun pre W => ∃ c, Ix c pre W ∧ W.heap[w.heap.size + 1]? = some (.loop (rc .done (some c))) ∧ W.heap[w.heap.size]? = some (.deferred (some [])))
      W1 hB1 ?_ ⟨hI1, hL1, hD1⟩).mono ?_
    · rintro pre x W0 WY ⟨hi, hl0, hd0⟩ hgrY hfr
      have hlY := stay hgrY (by omega) hl0
      have hy := run_yield (P := P) (args := encs x) hlY (by rw [hrc]; exact hps x)
      rw [hrc] at hy
      refine ⟨fn, _, assign, body, hy, roundIn_of_wpIn hfn (hassign _ x WY _ ?_)⟩
      clear hy
      intro a' W hbW hax
      have hgr : Below W0.heap.size W0 W := hgrY.trans (hbW.mono hgrY.size)
      have hl := stay hgr (by omega) hl0
      have hd := stay hgr (Nat.le_refl _) hd0
      have hlt : w.heap.size + 1 < W.heap.size := (Array.getElem?_eq_some_iff.1 hl).1
      have hkY : Kp WY W := hKg WY W (by have := (Array.getElem?_eq_some_iff.1 hlY).1; omega) hbW
      refine ⟨_, run_beginRound hl (by rw [hrc]), ?_⟩
      have hl2 : (W.putObj (w.heap.size + 1) (.loop { rc .ready none with state := .busy })).heap[w.heap.size + 1]? = some (.loop { rc .ready none with state := .busy }) := World.putObj_heap_same hlt
      have hd2 : (W.putObj (w.heap.size + 1) (.loop { rc .ready none with state := .busy })).heap[w.heap.size]? = some (.deferred (some [])) := (World.putObj_heap_other (by omega)).trans hd
      have hk2 : Kp W (W.putObj (w.heap.size + 1) (.loop { rc .ready none with state := .busy })) := hKb _ _ _ _ (by omega) hl rfl
      refine wpIn_mono (hbody _ pre x a' W0 W _ hi hgr hfr (put_grown _ _ _) (by omega) ⟨_, hl2⟩ (not_cells hl rfl) (hAx _ _ _ _ _ hax (put_grown _ _ _) (not_cells hl rfl))) ?_
      have fin : ∀ (jump : Option Code) (W3 : World), KeepsFrom w.heap.size (W.putObj (w.heap.size + 1) (.loop { rc .ready none with state := .busy })) W3 →
          (Instr.endRound (w.heap.size + 1) jump).run P W3 = .ok (.bool jump.isNone) (W3.putObj (w.heap.size + 1) (.loop (rc (if jump.isNone then .ready else .done) jump))) ∧
          W3.heap[w.heap.size + 1]? = some (.loop { rc .ready none with state := .busy }) ∧
          (W3.putObj (w.heap.size + 1) (.loop (rc (if jump.isNone then .ready else .done) jump))).heap[w.heap.size + 1]? = some (.loop (rc (if jump.isNone then .ready else .done) jump)) ∧
          (W3.putObj (w.heap.size + 1) (.loop (rc (if jump.isNone then .ready else .done) jump))).heap[w.heap.size]? = some (.deferred (some [])) := fun jump W3 hk3 => by
        have hl3 := hk3.same _ _ (by omega) hl2 rfl
        have := run_endRound (P := P) jump hl3
        rw [hrc] at this ⊢
        exact ⟨this, by rw [hrc] at hl3; exact hl3, World.putObj_heap_same (Array.getElem?_eq_some_iff.1 hl3).1, (World.putObj_heap_other (by omega)).trans (hk3.same _ _ (Nat.le_refl _) hd2 rfl)⟩
      rintro e a3 W3 hp
      cases e with
      | normal =>
        obtain ⟨hk3, hkp3, hi3⟩ := hp
        obtain ⟨hr, hl3, hl4, hd4⟩ := fin none W3 hk3
        exact ⟨_, _, hr, .inl ⟨rfl, ⟨hIb _ _ _ _ hi3 (put_grown _ _ _) (by omega) (not_cells hl3 rfl), hl4, hd4⟩, hKt (hKt (hKt hkY hk2) hkp3) (hKb _ _ _ _ (by omega) hl3 rfl)⟩⟩
      | ret =>
        obtain ⟨hk3, hi3⟩ := hp
        obtain ⟨hr, hl3, hl4, hd4⟩ := fin (some .ret) W3 hk3
        exact ⟨_, _, hr, .inr ⟨rfl, .ret, hXb _ _ _ _ _ hi3 (put_grown _ _ _) (by omega) (not_cells hl3 rfl), hl4, hd4⟩⟩
      | exit id =>
        obtain ⟨hk3, hi3⟩ := hp
        obtain ⟨hr, hl3, hl4, hd4⟩ := fin (some (.exit id)) W3 hk3
        exact ⟨_, _, hr, .inr ⟨rfl, .exit id, hXb _ _ _ _ _ hi3 (put_grown _ _ _) (by omega) (not_cells hl3 rfl), hl4, hd4⟩⟩
      | goto t =>
        obtain ⟨hk3, hi3⟩ := hp
        obtain ⟨hr, hl3, hl4, hd4⟩ := fin (some (.goto t)) W3 hk3
        exact ⟨_, _, hr, .inr ⟨rfl, .goto t, hXb _ _ _ _ _ hi3 (put_grown _ _ _) (by omega) (not_cells hl3 rfl), hl4, hd4⟩⟩
      | panic ch => exact hp.elim
      | outgrown => exact hp.elim
    · rintro e W2 ⟨⟨v, rfl⟩, (⟨ys, W0, ⟨hi, hl0, hd0⟩, hgr, hfin⟩ | ⟨pre, hSp, c, hi, hl, hd⟩)⟩
      · have hl := stay hgr (by omega) hl0
        have hd := stay hgr (Nat.le_refl _) hd0
        exact ⟨none, _, by have := run_endLoop (P := P) hl (by rw [hrc]; simp); rw [hrc] at this; exact this, hdone _ _ ys W0 W2 _ (Nat.le_refl _) hi hgr hfin (put_grown _ _ _) (by omega) (not_cells hl rfl) ((World.putObj_heap_other (by omega)).trans hd)⟩
      · exact ⟨some c, _, by have := run_endLoop (P := P) hl (by rw [hrc]; simp); rw [hrc] at this; exact this, hstop _ c pre _ (Nat.le_refl _) hSp (hXb _ _ _ _ _ hi (put_grown _ _ _) (by omega) (not_cells hl rfl)) ((World.putObj_heap_other (by omega)).trans hd)⟩
end
def encs (ns : List N) (n : Nat) : Array Value := #[.int .i64 (n : Int), .agg #[.string (nd ns n).k, .int .u64 (nd ns n).s, .int .i64 (nd ns n).c]]
/-- What a round keeps. -/
def Kp (n0 bl bm : Nat) (A B : World) : Prop := Below n0 A B ∧ B.heap[bl]? = A.heap[bl]? ∧ B.heap[bm]? = A.heap[bm]?
set_option maxRecDepth 100000 in
set_option maxHeartbeats 4000000 in
theorem all_in (m : Nat) (hm : 1 ≤ m) (l bl bm n0 base g b most : Nat) (ns : List N) (ord : List Nat) (J Jx : List Nat → World → Prop) (hn0 : base ≤ n0)
    (hY : ∀ pre x W0 W1, J pre W0 → Below W0.heap.size W0 W1 → pre ++ [x] <+: ord → YieldAt Fence.wide (m - 1) Try.prog l (encs ns x) W1 fun e W' =>
      (e = .returned (.bool true) ∧ J (pre ++ [x]) W' ∧ Kp n0 bl bm W1 W') ∨ (e = .returned (.bool false) ∧ Jx (pre ++ [x]) W'))
    (W : World) (hS : ∀ W', Below n0 W W' → SL W' base g b most ns ord) (hbl : Boxed W bl 76 (.pointer (some ⟨g, 0, none⟩))) (hbm : Boxed W bm 3 (.int .i64 (ns.length : Int))) (h0 : J [] W) (hnW : n0 ≤ W.heap.size) :
    CallsIn Fence.wide m Try.prog 90 #[.func (.yield l) #[] #[], .pointer (some ⟨bl, 0, none⟩), .pointer (some ⟨bm, 0, none⟩)] W fun e W' => (∃ v, e = .returned v) ∧
      ((∃ W0, J ord W0 ∧ Below W0.heap.size W0 W') ∨ (∃ pre, pre <+: ord ∧ Jx pre W')) := by
  have HF := hid (firstof_any base g b most ns ord W (hS W (Below.refl _ _)))
  have G : Hid (Gd ns ord) := by obtain ⟨_, _, _, G, _⟩ := hS W (Below.refl _ _); exact G
  have c0 := hbl.cell
  have c1 := hbm.cell
  replace hY := hid hY
  replace hS := hid hS
  replace hbl := hid hbl
  replace hbm := hid hbm
  replace h0 := hid h0
  refine callsIn_of_wp Try.func90 rfl trivial ?_ rfl
  simp only [Try.ntmps90, List.size_toArray, List.length_cons, List.length_nil, Nat.reduceAdd, Nat.reduceSub, Array.replicate_succ, Array.replicate_zero, List.push_toArray, List.append_toArray, List.nil_append, List.cons_append]
  gi_wp2_with fail
  refine ⟨trivial, (callsIn_wide.2 HF.out).mono ?_⟩
  rintro e w' ⟨rfl, rfl⟩
  clear HF
  gi_wp2_with fail
  gi_loopw [4] (fun nv wr => ∃ (pre q : List Nat) (W0 : World), nv = .int .i64 ((hz q : Nat) : Int) ∧ Hid (ord = pre ++ q) ∧ Hid (J pre W0) ∧ Hid (Below W0.heap.size W0 wr) ∧ Hid (Below n0 w' wr) ∧ Hid (Boxed wr bl 76 (.pointer (some ⟨g, 0, none⟩))) ∧ Hid (Boxed wr bm 3 (.int .i64 (ns.length : Int))))
    (fun nv _ => rem ord (intOf nv).toNat)
  case atStart => exact ⟨[], ord, w', rfl, rfl, h0, Below.refl _ _, Below.refl _ _, hbl, hbm⟩
  case round =>
    obtain ⟨pre, q, W0, rfl, eo, HJ, HB0, HB, HL, HM⟩ := hrel
    have x0 := HL.out.cell
    have x1 := HM.out.cell
    cases q with
    | nil =>
      rw [show hz [] = 0 from rfl]
      have e1 : Hid (ord = pre) := by show _ = _; rw [eo.out]; simp
      gi_wp2_with fail
      go_end0
      exact ⟨⟨_, rfl⟩, .inl ⟨W0, by rw [e1.out]; exact HJ.out, HB0.out⟩⟩
    | cons y q =>
      rw [show hz (y :: q) = y from rfl]
      have hSr := hS.out wr HB.out
      have hmem := (G.out.mem y).1 (by rw [eo.out]; simp)
      have HNxt : Hid (∀ W', Below n0 w' W' → Calls Try.prog 76 #[.pointer (some ⟨g, 0, none⟩), .int .i64 (y : Int)] W' fun e w2 => e = .returned (.int .i64 (hz q : Int)) ∧ w2 = W') := fun W' hW' => nextof_any base g b most ns ord pre q y W' (hS.out W' hW') eo.out
      obtain ⟨cap, tw, hLs, _, _⟩ := hSr
      have c2 := hLs.hd.c2
      have q0 := hLs.rw.cell y 0 hmem.2 (by omega)
      have q1 := hLs.rw.cell y 1 hmem.2 (by omega)
      have q2 := hLs.rw.cell y 2 hmem.2 (by omega)
      simp only [cv, Nat.add_zero] at q0 q1 q2
      have i1 : (y : Int) < ((ns.length + 1 : Nat) : Int) := by omega
      have i2 : (y : Int) ≤ (ns.length : Int) := by omega
      have i0 : ((y : Int) != 0) = true := by simp; omega
      have e1 : Hid (ord = (pre ++ [y]) ++ q) := by show _ = _; rw [eo.out]; simp
      have hrem : Hid (rem ord y = q.length + 1 ∧ rem ord (hz q) = q.length) := by
        have n1 := G.out.nodup
        have n2 : 0 ∉ ord := fun h => G.out.ne0 h rfl
        have eo' := eo.out
        constructor
        · have := rem_eq (p := pre) (q := y :: q) (by rw [← eo']; exact n1) (by rw [← eo']; exact n2)
          rw [← eo'] at this; exact this
        · have := rem_eq (p := pre ++ [y]) (q := q) (by rw [← e1.out]; exact n1) (by rw [← e1.out]; exact n2)
          rw [← e1.out] at this; exact this
      obtain ⟨fn, tmps, assign, body, hy, hR⟩ := hY.out pre y W0 wr HJ.out HB0.out ⟨q, e1.out.symm⟩
      dsimp only [encs] at hy
      generalize (nd ns y).k = yk at *
      generalize (nd ns y).s = ys at *
      generalize (nd ns y).c = yc at *
      replace hmem := hid hmem
      clear hLs
      gi_wp2_with fail
      refine hR.mono ?_
      rintro e w3 (⟨rfl, hJ3, hk3⟩ | ⟨rfl, hJx3⟩)
      · have hb3 : Hid (Below n0 w' w3) := HB.out.trans hk3.1
        have hl3 : Hid (Boxed w3 bl 76 (.pointer (some ⟨g, 0, none⟩))) := hk3.2.1.trans HL.out
        have hm3 : Hid (Boxed w3 bm 3 (.int .i64 (ns.length : Int))) := hk3.2.2.trans HM.out
        have HN3 := hid (HNxt.out w3 hb3.out)
        have z0 := hl3.out.cell
        replace hJ3 := hid hJ3
        clear hk3 hy hR q0 q1 q2 c2 x0 x1 HNxt
        gi_wp2_with fail
        refine ⟨trivial, (callsIn_wide.2 HN3.out).mono ?_⟩
        rintro e w4 ⟨rfl, rfl⟩
        gi_wp2_with fail
        refine ⟨⟨pre ++ [y], q, w4, rfl, e1, hJ3, Below.refl _ _, hb3, hl3, hm3⟩, ?_⟩
        simp only [intOf, Int.toNat_natCast]
        rw [hrem.out.1, hrem.out.2]; omega
      · replace hJx3 := hid hJx3
        gi_wp2_with fail
        refine bodyPost_ret (results_none rfl _ _ _) rfl ?_
        exact ⟨⟨_, rfl⟩, .inr ⟨pre ++ [y], ⟨q, e1.out.symm⟩, hJx3.out⟩⟩
end Go.Proofs.Ytefihoohdaegeaa.Al

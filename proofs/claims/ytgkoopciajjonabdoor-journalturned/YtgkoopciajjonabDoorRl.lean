/- A range over an iterator that writes a block of the caller's, and hands over memory of its own. -/
import Derived.Test.YtgkoopciajjonabDoorRr
namespace Go.Proofs.YtgkoopciajjonabDoor.Rl
open Go.RowKit
open Go.Proofs.YtgkoopciajjonabDoor.Ck (grown_trans grown_none)
set_option linter.unusedVariables false

variable {F : Fence} {n : Nat} {P : Program} {w : World}
theorem put_grown (W : World) (l : Nat) (o : Obj) : W.grownBy (W.putObj l o) (some l) := grownBy_putObj' W l o
theorem not_cells {W : World} {l : Nat} {o : Obj} (h : W.heap[l]? = some o) (ho : o.isCells = false) : ∀ c t f, W.heap[l]? ≠ some (.cells c t f) := by
  intro c t f e
  rw [h] at e
  cases e
  cases ho
/-- The walk over such a range: 'gB' is the block that the iterator writes. -/
theorem range_rd {g : Operand} {ps : Array Tmp} {assign body : Code} {Q : Exit → Act → World → Prop} {a : Act} {α : Type} (encs : α → Array Value)
    (hro : F.round = none) (h1 : 1 ≤ n) {gf : Nat} {fst : Array Value} (hg : a.eval g = .func (.func gf) fst #[]) (hFg : F.fn gf) (eg : ∀ args w, (callFunc gf args).run P w = .ok (.enter gf args) w) (hps : ∀ x, (encs x).size = ps.size)
    (gB : Nat) (hgB : gB < w.heap.size) (I : List α → World → Prop) (Ix : Code → List α → World → Prop) (Fr : List α → α → World → World → Prop) (Kp : World → World → Prop) (Fin : List α → World → World → Prop) (Sp : List α → Prop)
    (hIa : ∀ s W o, I s W → I s (W.alloc o)) (hIb : ∀ s W W' k, I s W → W.grownBy W' (some k) → w.heap.size ≤ k → (∀ c t f, W.heap[k]? ≠ some (.cells c t f)) → I s W') (hXb : ∀ c s W W' k, Ix c s W → W.grownBy W' (some k) → w.heap.size ≤ k → (∀ c t f, W.heap[k]? ≠ some (.cells c t f)) → Ix c s W')
    (hKt : ∀ {A B C : World}, Kp A B → Kp B C → Kp A C) (hKb : ∀ (W : World) (l : Nat) (o o' : Obj), w.heap.size ≤ l → W.heap[l]? = some o → o.isCells = false → Kp W (W.putObj l o'))
    (h0 : I [] w)
    (hseq : ∀ (l : Nat) (J Jx : List α → World → Prop) (W1 : World), Below w.heap.size w W1 → (∀ pre x W0 W', J pre W0 → W0.grownBy W' (some gB) → Fr pre x W0 W' → YieldAt F (n - 1 - 1) P l (encs x) W' fun e W'' =>
        (e = .returned (.bool true) ∧ J (pre ++ [x]) W'' ∧ Kp W' W'') ∨ (e = .returned (.bool false) ∧ Jx (pre ++ [x]) W'')) → J [] W1 →
      CallsIn F (n - 1) P gf (fst ++ #[.func (.yield l) #[] #[]]) W1 fun e W' => (∃ v, e = .returned v) ∧ ((∃ ys W0, J ys W0 ∧ W0.grownBy W' (some gB) ∧ Fin ys W0 W') ∨ (∃ pre, Sp pre ∧ Jx pre W')))
    (a1 : α → Act)
    (hassign : ∀ (l : Nat) (x : α) (W : World) (K : Act → World → Prop), K (a1 x) W → assign.wpIn (F.inRound l) (n - 1 - 1) P (Exit.then K (fun _ _ _ => False)) { tmps := (ps.zip (encs x)).foldl (fun t (p, v) => t.setIfInBounds p v) a.tmps, defers := [] } W)
    (hbody : ∀ (l : Nat) (pre : List α) (x : α) (W0 W1 W2 : World), I pre W0 → W0.grownBy W1 (some gB) → Fr pre x W0 W1 → W1.grownBy W2 (some l) → w.heap.size ≤ l → (∃ r, W2.heap[l]? = some (.loop r)) → (∀ c t f, W1.heap[l]? ≠ some (.cells c t f)) →
      body.wpIn (F.inRound l) (n - 1 - 1) P (ownPostG w.heap.size Kp I Ix (pre ++ [x]) W2) (a1 x) W2)
    (hdone : ∀ (D l : Nat) (ys : List α) (W0 W W' : World), w.heap.size ≤ D → I ys W0 → W0.grownBy W (some gB) → Fin ys W0 W → W.grownBy W' (some l) → w.heap.size ≤ l → (∀ c t f, W.heap[l]? ≠ some (.cells c t f)) → W'.heap[D]? = some (.deferred (some [])) → Q .normal { a with defers := { target := .collected D, args := #[] } :: a.defers } W')
    (hstop : ∀ (D : Nat) (c : Code) (pre : List α) (W : World), w.heap.size ≤ D → Sp pre → Ix c pre W → W.heap[D]? = some (.deferred (some [])) → c.wpIn F n P Q { a with defers := { target := .collected D, args := #[] } :: a.defers } W) :
    (Code.rangeFunc g ps assign body).wpIn F n P Q a w := by
  refine wpIn_rangeFunc ?_
  intro fn hfn
  rw [hro]
  obtain ⟨rc, hrc⟩ : ∃ rc : LoopState → Option Code → Loop, rc = fun st pe => { state := st, pending := pe, fn, tmps := a.tmps, params := ps, assign, body, defers := w.heap.size } := ⟨_, rfl⟩
  obtain ⟨W1, hW1⟩ : ∃ W1, (w.alloc (.deferred (some []))).alloc (.loop (rc .ready none)) = W1 := ⟨_, rfl⟩
  have hL1 : W1.heap[w.heap.size + 1]? = some (.loop (rc .ready none)) := by
    rw [← hW1]; have := World.alloc_heap_new (w.alloc (.deferred (some []))) (.loop (rc .ready none)); rwa [World.size_alloc] at this
  have hD1 : W1.heap[w.heap.size]? = some (.deferred (some [])) := by
    rw [← hW1]; exact (Below.heap_alloc _ _ _ (by simp)).trans (World.alloc_heap_new w _)
  have hI1 : I [] W1 := by rw [← hW1]; exact hIa _ _ _ (hIa _ _ _ h0)
  have hB1 : Below w.heap.size w W1 := by rw [← hW1]; exact ((Below.refl _ w).alloc (Nat.le_refl _) _).alloc (by simp) _
  -- the two blocks of book-keeping stay where only gB is written
  have stay : ∀ {A B : World} {k : Nat} {o : Obj}, A.grownBy B (some gB) → w.heap.size ≤ k → A.heap[k]? = some o → B.heap[k]? = some o := fun hAB hk ho =>
    (hAB.block _ (Array.getElem?_eq_some_iff.1 ho).1 (by simp; omega)).trans ho
  refine ⟨w.heap.size + 1, [{ target := .collected w.heap.size, args := #[] }], W1, { target := .fn (.func gf) #[], args := fst ++ #[.func (.yield (w.heap.size + 1)) #[] #[]] }, W1, gf,
    fst ++ #[.func (.yield (w.heap.size + 1)) #[] #[]], W1, ?_, ?_, ?_, ?_, fun _ => h1, ?_⟩
  · rw [← hW1, hrc]; exact run_enterLoop_outer _ _ _ _ _
  · simp only [resolve, hg]
    simp [go_sem]
  · intro f' hf'; simp [Target.leads] at hf'; subst hf'; exact hFg
  · simp [invoke, go_sem, eg]
  · refine (hseq (w.heap.size + 1)
      (fun pre W => I pre W ∧ W.heap[w.heap.size + 1]? = some (.loop (rc .ready none)) ∧ W.heap[w.heap.size]? = some (.deferred (some [])))
      (fun pre W => ∃ c, Ix c pre W ∧ W.heap[w.heap.size + 1]? = some (.loop (rc .done (some c))) ∧ W.heap[w.heap.size]? = some (.deferred (some [])))
      W1 hB1 ?_ ⟨hI1, hL1, hD1⟩).mono ?_
    · rintro pre x W0 W ⟨hi, hl0, hd0⟩ hgr hfr
      have hl := stay hgr (by omega) hl0
      have hd := stay hgr (Nat.le_refl _) hd0
      have hlt : w.heap.size + 1 < W.heap.size := (Array.getElem?_eq_some_iff.1 hl).1
      have hy := run_yield (P := P) (args := encs x) hl (by rw [hrc]; exact hps x)
      rw [hrc] at hy
      refine ⟨fn, _, assign, body, hy, roundIn_of_wpIn hfn (hassign _ x W _ ?_)⟩
      clear hy
      refine ⟨_, run_beginRound hl (by rw [hrc]), ?_⟩
      have hl2 : (W.putObj (w.heap.size + 1) (.loop { rc .ready none with state := .busy })).heap[w.heap.size + 1]? = some (.loop { rc .ready none with state := .busy }) := World.putObj_heap_same hlt
      have hd2 : (W.putObj (w.heap.size + 1) (.loop { rc .ready none with state := .busy })).heap[w.heap.size]? = some (.deferred (some [])) := (World.putObj_heap_other (by omega)).trans hd
      have hk2 : Kp W (W.putObj (w.heap.size + 1) (.loop { rc .ready none with state := .busy })) := hKb _ _ _ _ (by omega) hl rfl
      refine wpIn_mono (hbody _ pre x W0 W _ hi hgr hfr (put_grown _ _ _) (by omega) ⟨_, hl2⟩ (not_cells hl rfl)) ?_
      have fin : ∀ (jump : Option Code) (W3 : World), KeepsFrom w.heap.size (W.putObj (w.heap.size + 1) (.loop { rc .ready none with state := .busy })) W3 →
          (Instr.endRound (w.heap.size + 1) jump).run P W3 = .ok (.bool jump.isNone) (W3.putObj (w.heap.size + 1) (.loop (rc (if jump.isNone then .ready else .done) jump))) ∧
          W3.heap[w.heap.size + 1]? = some (.loop { rc .ready none with state := .busy }) ∧
          (W3.putObj (w.heap.size + 1) (.loop (rc (if jump.isNone then .ready else .done) jump))).heap[w.heap.size + 1]? = some (.loop (rc (if jump.isNone then .ready else .done) jump)) ∧
          (W3.putObj (w.heap.size + 1) (.loop (rc (if jump.isNone then .ready else .done) jump))).heap[w.heap.size]? = some (.deferred (some [])) := fun jump W3 hk3 => by
        have hl3 := hk3.same _ _ (by omega) hl2 rfl
        have := run_endRound (P := P) jump hl3
        rw [hrc] at this ⊢
        exact ⟨this, by rw [hrc] at hl3; exact hl3, World.putObj_heap_same (Array.getElem?_eq_some_iff.1 hl3).1, (World.putObj_heap_other (by omega)).trans (hk3.same _ _ (Nat.le_refl _) hd2 rfl)⟩
      rintro e a3 W3 hp
      cases e with
      | normal =>
        obtain ⟨hk3, hkp3, hi3⟩ := hp
        obtain ⟨hr, hl3, hl4, hd4⟩ := fin none W3 hk3
        exact ⟨_, _, hr, .inl ⟨rfl, ⟨hIb _ _ _ _ hi3 (put_grown _ _ _) (by omega) (not_cells hl3 rfl), hl4, hd4⟩, hKt (hKt hk2 hkp3) (hKb _ _ _ _ (by omega) hl3 rfl)⟩⟩
      | ret =>
        obtain ⟨hk3, hi3⟩ := hp
        obtain ⟨hr, hl3, hl4, hd4⟩ := fin (some .ret) W3 hk3
        exact ⟨_, _, hr, .inr ⟨rfl, .ret, hXb _ _ _ _ _ hi3 (put_grown _ _ _) (by omega) (not_cells hl3 rfl), hl4, hd4⟩⟩
      | exit id =>
        obtain ⟨hk3, hi3⟩ := hp
        obtain ⟨hr, hl3, hl4, hd4⟩ := fin (some (.exit id)) W3 hk3
        exact ⟨_, _, hr, .inr ⟨rfl, .exit id, hXb _ _ _ _ _ hi3 (put_grown _ _ _) (by omega) (not_cells hl3 rfl), hl4, hd4⟩⟩
      | goto t =>
        obtain ⟨hk3, hi3⟩ := hp
        obtain ⟨hr, hl3, hl4, hd4⟩ := fin (some (.goto t)) W3 hk3
        exact ⟨_, _, hr, .inr ⟨rfl, .goto t, hXb _ _ _ _ _ hi3 (put_grown _ _ _) (by omega) (not_cells hl3 rfl), hl4, hd4⟩⟩
      | panic ch => exact hp.elim
      | outgrown => exact hp.elim
    · rintro e W2 ⟨⟨v, rfl⟩, (⟨ys, W0, ⟨hi, hl0, hd0⟩, hgr, hfin⟩ | ⟨pre, hSp, c, hi, hl, hd⟩)⟩
      · have hl := stay hgr (by omega) hl0
        have hd := stay hgr (Nat.le_refl _) hd0
        exact ⟨none, _, by have := run_endLoop (P := P) hl (by rw [hrc]; simp); rw [hrc] at this; exact this, hdone _ _ ys W0 W2 _ (Nat.le_refl _) hi hgr hfin (put_grown _ _ _) (by omega) (not_cells hl rfl) ((World.putObj_heap_other (by omega)).trans hd)⟩
      · exact ⟨some c, _, by have := run_endLoop (P := P) hl (by rw [hrc]; simp); rw [hrc] at this; exact this, hstop _ c pre _ (Nat.le_refl _) hSp (hXb _ _ _ _ _ hi (put_grown _ _ _) (by omega) (not_cells hl rfl)) ((World.putObj_heap_other (by omega)).trans hd)⟩
end Go.Proofs.YtgkoopciajjonabDoor.Rl

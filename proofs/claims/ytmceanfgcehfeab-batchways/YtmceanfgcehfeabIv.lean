/- A range over a closure that turns nothing; the iterator of a batch's operations, which tells just them. -/
import Derived.Test.YtmceanfgcehfeabDe
import Derived.WalkMore
import Derived.ControlIn
namespace Go.Proofs.Ytmceanfgcehfeab.Iv
open Go.ChangeShapes Go.WideShapes Go.ChangeAt Go.RowKit Go.Shelf
open Go.Proofs.Ytmceanfgcehfeab.By
open Go.Proofs.Ytmceanfgcehfeab.Ob
open Go.Proofs.Ytmceanfgcehfeab.Hd
open Go.Proofs.Ytmceanfgcehfeab.Rp
open Go.Proofs.Ytmceanfgcehfeab.It
set_option linter.unusedVariables false
set_option linter.unusedSimpArgs false
attribute [local go_sem] Oper.semAt_some

section
variable {F : Fence} {n : Nat} {P : Program} {w : World}
theorem put_grown (W : World) (l : Nat) (o : Obj) : W.grownBy (W.putObj l o) (some l) := grownBy_putObj' W l o
theorem not_cells {W : World} {l : Nat} {o : Obj} (h : W.heap[l]? = some o) (ho : o.isCells = false) : ∀ c t f, W.heap[l]? ≠ some (.cells c t f) := by
  intro c t f e
  rw [h] at e
  cases e
  cases ho
/-- The walk over a range over a closure that turns nothing of what is there. -/
theorem range_q {g : Operand} {ps : Array Tmp} {assign body : Code} {Q : Exit → Act → World → Prop} {a : Act} {α : Type} (encs : α → Array Value)
    (hro : F.round = none) (h1 : 1 ≤ n) {gf : Nat} {lb : Array Value} (hg : a.eval g = .func (.func gf) #[] lb) (hFg : F.fn gf) (eg : ∀ args w, (callFunc gf args).run P w = .ok (.enter gf args) w) (hps : ∀ x, (encs x).size = ps.size)
    (I : List α → World → Prop) (Ix : Code → List α → World → Prop) (Fr : List α → α → Prop) (Kp : World → World → Prop) (Fin : List α → World → World → Prop) (Sp : List α → Prop)
    (hIa : ∀ s W o, I s W → I s (W.alloc o)) (hIb : ∀ s W W' k, I s W → W.grownBy W' (some k) → w.heap.size ≤ k → (∀ c t f, W.heap[k]? ≠ some (.cells c t f)) → I s W') (hXb : ∀ c s W W' k, Ix c s W → W.grownBy W' (some k) → w.heap.size ≤ k → (∀ c t f, W.heap[k]? ≠ some (.cells c t f)) → Ix c s W')
    (hKg : ∀ A B : World, w.heap.size ≤ A.heap.size → Below A.heap.size A B → Kp A B) (hKt : ∀ {A B C : World}, Kp A B → Kp B C → Kp A C) (hKb : ∀ (W : World) (l : Nat) (o o' : Obj), w.heap.size ≤ l → W.heap[l]? = some o → o.isCells = false → Kp W (W.putObj l o'))
    (h0 : I [] w)
    (hseq : ∀ (l : Nat) (J Jx : List α → World → Prop) (W1 : World), Below w.heap.size w W1 → (∀ pre x W0 W', J pre W0 → Below W0.heap.size W0 W' → Fr pre x → YieldAt F (n - 1 - 1) P l (encs x) W' fun e W'' =>
        (e = .returned (.bool true) ∧ J (pre ++ [x]) W'' ∧ Kp W' W'') ∨ (e = .returned (.bool false) ∧ Jx (pre ++ [x]) W'')) → J [] W1 →
      CallsIn F (n - 1) P gf (#[.func (.yield l) #[] #[]] ++ lb) W1 fun e W' => (∃ v, e = .returned v) ∧ ((∃ ys W0, J ys W0 ∧ Below W0.heap.size W0 W' ∧ Fin ys W0 W') ∨ (∃ pre, Sp pre ∧ Jx pre W')))
    (Ax : World → α → Act → World → Prop) (hAx : ∀ Y x a' W W' k, Ax Y x a' W → W.grownBy W' (some k) → (∀ c t f, W.heap[k]? ≠ some (.cells c t f)) → Ax Y x a' W')
    (hassign : ∀ (l : Nat) (x : α) (W : World) (K : Act → World → Prop), (∀ a' W', Below W.heap.size W W' → Ax W x a' W' → K a' W') → assign.wpIn (F.inRound l) (n - 1 - 1) P (Exit.then K (fun _ _ _ => False)) { tmps := (ps.zip (encs x)).foldl (fun t (p, v) => t.setIfInBounds p v) a.tmps, defers := [] } W)
    (hbody : ∀ (l : Nat) (pre : List α) (x : α) (a' : Act) (W0 WY W1 W2 : World), I pre W0 → Below W0.heap.size W0 WY → Below W0.heap.size W0 W1 → Fr pre x → W1.grownBy W2 (some l) → w.heap.size ≤ l → (∃ r, W2.heap[l]? = some (.loop r)) → (∀ c t f, W1.heap[l]? ≠ some (.cells c t f)) → Ax WY x a' W2 →
      body.wpIn (F.inRound l) (n - 1 - 1) P (ownPostG w.heap.size Kp I Ix (pre ++ [x]) W2) a' W2)
    (hdone : ∀ (D l : Nat) (ys : List α) (W0 W W' : World), w.heap.size ≤ D → I ys W0 → Below W0.heap.size W0 W → Fin ys W0 W → W.grownBy W' (some l) → w.heap.size ≤ l → (∀ c t f, W.heap[l]? ≠ some (.cells c t f)) → W'.heap[D]? = some (.deferred (some [])) → Q .normal { a with defers := { target := .collected D, args := #[] } :: a.defers } W')
    (hstop : ∀ (D : Nat) (c : Code) (pre : List α) (W : World), w.heap.size ≤ D → Sp pre → Ix c pre W → W.heap[D]? = some (.deferred (some [])) → c.wpIn F n P Q { a with defers := { target := .collected D, args := #[] } :: a.defers } W) :
    (Code.rangeFunc g ps assign body).wpIn F n P Q a w := by
  refine wpIn_rangeFunc ?_
  intro fn hfn
  rw [hro]
  obtain ⟨rc, hrc⟩ : ∃ rc : LoopState → Option Code → Loop, rc = fun st pe => { state := st, pending := pe, fn, tmps := a.tmps, params := ps, assign, body, defers := w.heap.size } := ⟨_, rfl⟩
  obtain ⟨W1, hW1⟩ : ∃ W1, (w.alloc (.deferred (some []))).alloc (.loop (rc .ready none)) = W1 := ⟨_, rfl⟩
  have hL1 : W1.heap[w.heap.size + 1]? = some (.loop (rc .ready none)) := by
    rw [← hW1]; have := World.alloc_heap_new (w.alloc (.deferred (some []))) (.loop (rc .ready none)); rwa [World.size_alloc] at this
  have hD1 : W1.heap[w.heap.size]? = some (.deferred (some [])) := by
    rw [← hW1]; exact (Below.heap_alloc _ _ _ (by simp)).trans (World.alloc_heap_new w _)
  have hI1 : I [] W1 := by rw [← hW1]; exact hIa _ _ _ (hIa _ _ _ h0)
  have hB1 : Below w.heap.size w W1 := by rw [← hW1]; exact ((Below.refl _ w).alloc (Nat.le_refl _) _).alloc (by simp) _
  have stay : ∀ {A B : World} {k : Nat} {o : Obj}, Below A.heap.size A B → w.heap.size ≤ k → A.heap[k]? = some o → B.heap[k]? = some o := fun hAB hk ho =>
    (hAB.block _ (Array.getElem?_eq_some_iff.1 ho).1).trans ho
  refine ⟨w.heap.size + 1, [{ target := .collected w.heap.size, args := #[] }], W1, { target := .fn (.func gf) lb, args := #[.func (.yield (w.heap.size + 1)) #[] #[]] }, W1, gf,
    #[.func (.yield (w.heap.size + 1)) #[] #[]] ++ lb, W1, ?_, ?_, ?_, ?_, fun _ => h1, ?_⟩
  · rw [← hW1, hrc]; exact run_enterLoop_outer _ _ _ _ _
  · simp only [resolve, hg]
    simp [go_sem]
  · intro f' hf'; simp [Target.leads] at hf'; subst hf'; exact hFg
  · simp [invoke, go_sem, eg]
  · refine (hseq (w.heap.size + 1)
      (fun pre W => I pre W ∧ W.heap[w.heap.size + 1]? = some (.loop (rc .ready none)) ∧ W.heap[w.heap.size]? = some (.deferred (some [])))
      (fun pre W => ∃ c, Ix c pre W ∧ W.heap[w.heap.size + 1]? = some (.loop (rc .done (some c))) ∧ W.heap[w.heap.size]? = some (.deferred (some [])))
      W1 hB1 ?_ ⟨hI1, hL1, hD1⟩).mono ?_
    · rintro pre x W0 WY ⟨hi, hl0, hd0⟩ hgrY hfr
      have hlY := stay hgrY (by omega) hl0
      have hy := run_yield (P := P) (args := encs x) hlY (by rw [hrc]; exact hps x)
      rw [hrc] at hy
      refine ⟨fn, _, assign, body, hy, roundIn_of_wpIn hfn (hassign _ x WY _ ?_)⟩
      clear hy
      intro a' W hbW hax
      have hgr : Below W0.heap.size W0 W := hgrY.trans (hbW.mono hgrY.size)
      have hl := stay hgr (by omega) hl0
      have hd := stay hgr (Nat.le_refl _) hd0
      have hlt : w.heap.size + 1 < W.heap.size := (Array.getElem?_eq_some_iff.1 hl).1
      have hkY : Kp WY W := hKg WY W (by have := (Array.getElem?_eq_some_iff.1 hlY).1; omega) hbW
      refine ⟨_, run_beginRound hl (by rw [hrc]), ?_⟩
      have hl2 : (W.putObj (w.heap.size + 1) (.loop { rc .ready none with state := .busy })).heap[w.heap.size + 1]? = some (.loop { rc .ready none with state := .busy }) := World.putObj_heap_same hlt
      have hd2 : (W.putObj (w.heap.size + 1) (.loop { rc .ready none with state := .busy })).heap[w.heap.size]? = some (.deferred (some [])) := (World.putObj_heap_other (by omega)).trans hd
      have hk2 : Kp W (W.putObj (w.heap.size + 1) (.loop { rc .ready none with state := .busy })) := hKb _ _ _ _ (by omega) hl rfl
      refine wpIn_mono (hbody _ pre x a' W0 WY W _ hi hgrY hgr hfr (put_grown _ _ _) (by omega) ⟨_, hl2⟩ (not_cells hl rfl) (hAx _ _ _ _ _ _ hax (put_grown _ _ _) (not_cells hl rfl))) ?_
      have fin : ∀ (jump : Option Code) (W3 : World), KeepsFrom w.heap.size (W.putObj (w.heap.size + 1) (.loop { rc .ready none with state := .busy })) W3 →
          (Instr.endRound (w.heap.size + 1) jump).run P W3 = .ok (.bool jump.isNone) (W3.putObj (w.heap.size + 1) (.loop (rc (if jump.isNone then .ready else .done) jump))) ∧
          W3.heap[w.heap.size + 1]? = some (.loop { rc .ready none with state := .busy }) ∧
          (W3.putObj (w.heap.size + 1) (.loop (rc (if jump.isNone then .ready else .done) jump))).heap[w.heap.size + 1]? = some (.loop (rc (if jump.isNone then .ready else .done) jump)) ∧
          (W3.putObj (w.heap.size + 1) (.loop (rc (if jump.isNone then .ready else .done) jump))).heap[w.heap.size]? = some (.deferred (some [])) := fun jump W3 hk3 => by
        have hl3 := hk3.same _ _ (by omega) hl2 rfl
        have := run_endRound (P := P) jump hl3
        rw [hrc] at this ⊢
        exact ⟨this, by rw [hrc] at hl3; exact hl3, World.putObj_heap_same (Array.getElem?_eq_some_iff.1 hl3).1, (World.putObj_heap_other (by omega)).trans (hk3.same _ _ (Nat.le_refl _) hd2 rfl)⟩
      rintro e a3 W3 hp
      cases e with
      | normal =>
        obtain ⟨hk3, hkp3, hi3⟩ := hp
        obtain ⟨hr, hl3, hl4, hd4⟩ := fin none W3 hk3
        exact ⟨_, _, hr, .inl ⟨rfl, ⟨hIb _ _ _ _ hi3 (put_grown _ _ _) (by omega) (not_cells hl3 rfl), hl4, hd4⟩, hKt (hKt (hKt hkY hk2) hkp3) (hKb _ _ _ _ (by omega) hl3 rfl)⟩⟩
      | ret =>
        obtain ⟨hk3, hi3⟩ := hp
        obtain ⟨hr, hl3, hl4, hd4⟩ := fin (some .ret) W3 hk3
        exact ⟨_, _, hr, .inr ⟨rfl, .ret, hXb _ _ _ _ _ hi3 (put_grown _ _ _) (by omega) (not_cells hl3 rfl), hl4, hd4⟩⟩
      | exit id =>
        obtain ⟨hk3, hi3⟩ := hp
        obtain ⟨hr, hl3, hl4, hd4⟩ := fin (some (.exit id)) W3 hk3
        exact ⟨_, _, hr, .inr ⟨rfl, .exit id, hXb _ _ _ _ _ hi3 (put_grown _ _ _) (by omega) (not_cells hl3 rfl), hl4, hd4⟩⟩
      | goto t =>
        obtain ⟨hk3, hi3⟩ := hp
        obtain ⟨hr, hl3, hl4, hd4⟩ := fin (some (.goto t)) W3 hk3
        exact ⟨_, _, hr, .inr ⟨rfl, .goto t, hXb _ _ _ _ _ hi3 (put_grown _ _ _) (by omega) (not_cells hl3 rfl), hl4, hd4⟩⟩
      | panic ch => exact hp.elim
      | outgrown => exact hp.elim
    · rintro e W2 ⟨⟨v, rfl⟩, (⟨ys, W0, ⟨hi, hl0, hd0⟩, hgr, hfin⟩ | ⟨pre, hSp, c, hi, hl, hd⟩)⟩
      · have hl := stay hgr (by omega) hl0
        have hd := stay hgr (Nat.le_refl _) hd0
        exact ⟨none, _, by have := run_endLoop (P := P) hl (by rw [hrc]; simp); rw [hrc] at this; exact this, hdone _ _ ys W0 W2 _ (Nat.le_refl _) hi hgr hfin (put_grown _ _ _) (by omega) (not_cells hl rfl) ((World.putObj_heap_other (by omega)).trans hd)⟩
      · exact ⟨some c, _, by have := run_endLoop (P := P) hl (by rw [hrc]; simp); rw [hrc] at this; exact this, hstop _ c pre _ (Nat.le_refl _) hSp (hXb _ _ _ _ _ hi (put_grown _ _ _) (by omega) (not_cells hl rfl)) ((World.putObj_heap_other (by omega)).trans hd)⟩
end
set_option maxRecDepth 100000 in
set_option maxHeartbeats 4000000 in
theorem each1_pre (n : Nat) (hn : 1 ≤ n) (l Bx n0 : Nat) (a : Option Addr) (len cap : Nat) (zs : List Int) (J Jx : List (Int × O) → World → Prop) (hcap : len ≤ 140737488351232) (hJ : ∀ s A B, J s A → A.grownBy B none → J s B)
    (hY : ∀ pre x W, J pre W → pre ++ [x] <+: items zs → YieldAt Fence.wide (n - 1) Try.prog l (encs x) W fun e W' =>
      (e = .returned (.bool true) ∧ J (pre ++ [x]) W' ∧ Kp n0 Bx W W') ∨ (e = .returned (.bool false) ∧ Jx (pre ++ [x]) W'))
    (W : World) (hBx : Boxed W Bx 33 (.slice a len cap)) (hB : ∀ W', Below n0 W W' → Bytes W' a len cap zs) (hn0 : n0 ≤ W.heap.size) (h0 : J [] W) :
    CallsIn Fence.wide n Try.prog 54 #[.func (.yield l) #[] #[], .pointer (some ⟨Bx, 0, none⟩)] W fun e W' => (∃ v, e = .returned v) ∧
      ((∃ ys, ys = items zs ∧ J ys W') ∨ (∃ pre, pre <+: items zs ∧ Jx pre W')) := by
  have c0 := hBx.cell
  have hlen := (hB W (Below.refl _ _)).1
  have hY := hid hY
  have hJ := hid hJ
  have hB := hid hB
  have hBx := hid hBx
  by_cases hs : len < 12
  · have HI : Hid (items zs = []) := by show _ = _; unfold items; rw [if_pos (by omega)]
    refine callsIn_of_wp Try.func54 rfl trivial ?_ rfl
    simp only [Try.ntmps54, List.size_toArray, List.length_cons, List.length_nil, Nat.reduceAdd, Nat.reduceSub, Array.replicate_succ, Array.replicate_zero, List.push_toArray, List.append_toArray, List.nil_append, List.cons_append]
    gi_wp2_with fail
    refine ⟨trivial, (callsIn_wide.2 (head_no a len cap W hs)).mono ?_⟩
    rintro e w' ⟨rfl, rfl⟩
    gi_wp2_with fail
    refine bodyPost_ret (results_none rfl _ _ _) rfl ?_
    exact ⟨⟨_, rfl⟩, .inl ⟨[], HI.out.symm, h0⟩⟩
  · have HD := hid (head_ok a len cap zs W (hB.out W (Below.refl _ _)) hcap (by omega))
    have hcl := cnt_lt zs (hB.out W (Below.refl _ _)).2.2.2.1
    have hsb := seq_bd zs (hB.out W (Below.refl _ _)).2.2.2.1
    have HI : Hid (items zs = num (hseq zs) (wlk zs (hcnt zs) 12).1) := by show _ = _; unfold items; rw [if_neg (by omega)]
    have hbd := hid (hB.out W (Below.refl _ _)).2.2.2.1
    generalize hseq zs = S at HD HI hsb
    generalize hcnt zs = C at HD HI hcl
    obtain ⟨hsb0, hsb1⟩ := hsb
    refine callsIn_of_wp Try.func54 rfl trivial ?_ rfl
    simp only [Try.ntmps54, List.size_toArray, List.length_cons, List.length_nil, Nat.reduceAdd, Nat.reduceSub, Array.replicate_succ, Array.replicate_zero, List.push_toArray, List.append_toArray, List.nil_append, List.cons_append]
    gi_wp2_with fail
    refine ⟨trivial, (callsIn_wide.2 HD.out).mono ?_⟩
    rintro e w' ⟨rfl, rfl⟩
    gi_wp2_with fail
    gi_loopw [6, 20] (fun p i wr => ∃ k at' : Nat, ∃ pre : List (Int × O), i = .int .i64 k ∧ p = .int .i64 at' ∧ k ≤ C ∧ at' ≤ 140737488351232 ∧ Hid (pre.length = k) ∧ Hid (items zs = pre ++ num (S + k) (wlk zs (C - k) at').1) ∧ Hid (J pre wr) ∧ Hid (Below n0 w' wr) ∧ Hid (Boxed wr Bx 33 (.slice a len cap)))
      (fun _ i _ => C - (intOf i).toNat)
    case atStart =>
      exact ⟨0, 12, [], rfl, rfl, by omega, by omega, rfl, by show _ = _; rw [HI.out]; simp, h0, Below.refl _ _, hBx⟩
    case round =>
      obtain ⟨k, q, pre, rfl, rfl, hk, hq, hpl, hit, hj, hbel, hbx⟩ := hrel
      have c1 := hbx.out.cell
      by_cases hlt : k < C
      · have ik : (k : Int) < (C : Int) := by omega
        have HBy := hid (hB.out wr hbel.out)
        cases hr : rop zs q with
        | none =>
          obtain ⟨x, nx, R⟩ := readop_none a len cap zs q wr HBy.out hcap (by omega) hr
          have HR := hid R
          have HE : Hid (pre = items zs) := by show _ = _; rw [hit.out, wlk_none hr]; simp [num]
          clear R hr
          gi_wp2_with fail
          refine ⟨trivial, (callsIn_wide.2 HR.out).mono ?_⟩
          rintro e w2 ⟨rfl, b2⟩
          unfold out3
          have HJ2 : Hid (J pre (w2.alloc (.cells #[.int .i64 x.c, .string x.k, .string x.v] 60))) := hJ.out _ _ _ (hJ.out _ _ _ hj.out (grown_of_below b2)) (World.grownBy_alloc _ _ _)
          gi_wp2_with fail
          refine ⟨fun _ h => (by cases h), ?_⟩
          gi_wp2_with fail
          refine bodyPost_ret (results_none rfl _ _ _) rfl ?_
          exact ⟨⟨_, rfl⟩, .inl ⟨pre, HE.out, HJ2.out⟩⟩
        | some xn =>
          obtain ⟨x, nx⟩ := xn
          have R := readop_some a len cap zs q wr HBy.out hcap x nx hr
          have HR := hid R
          have hnx := rop_le HBy.out.2.2.2.1 hr
          have HE : Hid (items zs = (pre ++ [(IntKind.u64.wrap (S + k), x)]) ++ num (S + (k + 1 : Nat)) (wlk zs (C - (k + 1)) nx).1) := by
            show _ = _
            rw [hit.out, show C - k = (C - (k + 1)) + 1 from by omega, wlk_some hr]
            simp only [num, List.append_assoc, List.cons_append, List.nil_append]
            rw [show S + (k : Int) + 1 = S + ((k + 1 : Nat) : Int) from by omega]
          have hlt2 : Hid (pre ++ [(IntKind.u64.wrap (S + k), x)] <+: items zs) := ⟨_, HE.out.symm⟩
          clear R hr
          obtain ⟨xc, xk, xv⟩ := x
          gi_wp2_with fail
          refine ⟨trivial, (callsIn_wide.2 HR.out).mono ?_⟩
          rintro e w2 ⟨rfl, b2⟩
          unfold out3
          have HJ2 : J pre (w2.alloc (.cells #[.int .i64 xc, .string xk, .string xv] 60)) := hJ.out _ _ _ (hJ.out _ _ _ hj.out (grown_of_below b2)) (World.grownBy_alloc _ _ _)
          obtain ⟨fn, tmps, assign, body, hy, hR⟩ := hY.out pre (IntKind.u64.wrap (S + k), ⟨xc, xk, xv⟩) (w2.alloc (.cells #[.int .i64 xc, .string xk, .string xv] 60)) HJ2 hlt2.out
          dsimp only [encs] at hy
          have HE' := hid hR
          have b2' := hid b2
          gi_wp2_with fail
          refine hR.mono ?_
          rintro e w3 (⟨rfl, hJ3, hk3⟩ | ⟨rfl, hJx3⟩)
          · have HJ3 := hid hJ3
            have hb2 : Below n0 w' (w2.alloc (.cells #[.int .i64 xc, .string xk, .string xv] 60)) := (hbel.out.trans (b2.mono (by have := hbel.out.size; omega))).alloc (by have := hbel.out.size; have := b2.size; omega) _
            have hb3 : Hid (Below n0 w' w3) := hb2.trans hk3.1
            have hx3 : Hid (Boxed w3 Bx 33 (.slice a len cap)) := by
              show w3.heap[Bx]? = _
              rw [hk3.2, Below.heap_alloc _ _ _ (by have := hbx.out.lt; have := b2.size; omega), b2.block _ hbx.out.lt]
              exact hbx.out
            clear hJ3 hk3 hb2 hR HE' HJ2 hj hbel hbx hit
            gi_wp2_with fail
            go_roundw
            case rel => exact ⟨k + 1, nx, _, by go_num, rfl, by omega, by omega, by show _ = _; have := hpl.out; simp; omega, HE, HJ3, hb3, hx3⟩
            case measure => simp [intOf]; omega
          · gi_wp2_with fail
            refine bodyPost_ret (results_none rfl _ _ _) rfl ?_
            exact ⟨⟨_, rfl⟩, .inr ⟨_, ⟨_, HE.out.symm⟩, hJx3⟩⟩
      · have hkC : k = C := by omega
        have HE : Hid (pre = items zs) := by show _ = _; rw [hit.out, hkC]; simp [wlk, num]
        gi_wp2_with fail
        go_end0
        exact ⟨⟨_, rfl⟩, .inl ⟨pre, HE.out, hj.out⟩⟩
theorem grown_below' {a b : World} (h : a.grownBy b none) : Below a.heap.size a b := ⟨h.os, h.tape, h.output, h.size, fun k hk => h.block k hk (by simp)⟩
theorem each_q (m : Nat) (hm : 1 ≤ m) (l Bx n0 : Nat) (a : Option Addr) (len cap : Nat) (zs : List Int) (J Jx : List (Int × O) → World → Prop) (hcap : len ≤ 140737488351232)
    (hY : ∀ pre x W0 W', J pre W0 → Below W0.heap.size W0 W' → pre ++ [x] <+: items zs → YieldAt Fence.wide (m - 1) Try.prog l (encs x) W' fun e W'' =>
      (e = .returned (.bool true) ∧ J (pre ++ [x]) W'' ∧ Kp n0 Bx W' W'') ∨ (e = .returned (.bool false) ∧ Jx (pre ++ [x]) W''))
    (W : World) (hBx : Boxed W Bx 33 (.slice a len cap)) (hB : ∀ W', Below n0 W W' → Bytes W' a len cap zs) (hn0 : n0 ≤ W.heap.size) (h0 : J [] W) :
    CallsIn Fence.wide m Try.prog 54 #[.func (.yield l) #[] #[], .pointer (some ⟨Bx, 0, none⟩)] W fun e W' => (∃ v, e = .returned v) ∧
      ((∃ W0, J (items zs) W0 ∧ Below W0.heap.size W0 W') ∨ (∃ pre, pre <+: items zs ∧ Jx pre W')) := by
  refine (each1_pre m hm l Bx n0 a len cap zs (fun s A => ∃ W0, J s W0 ∧ Below W0.heap.size W0 A) Jx hcap (fun s A B ⟨W0, h1, h2⟩ g => ⟨W0, h1, h2.trans ((grown_below' g).mono h2.size)⟩) ?_ W hBx hB hn0 ⟨W, h0, Below.refl _ _⟩).mono ?_
  · rintro pre x A ⟨W0, h1, h2⟩ hp
    obtain ⟨fn, tmps, assign, body, hy, hR⟩ := hY pre x W0 A h1 h2 hp
    refine ⟨fn, tmps, assign, body, hy, hR.mono ?_⟩
    rintro e W'' (⟨rfl, hj, hk⟩ | h)
    · exact .inl ⟨rfl, ⟨_, hj, Below.refl _ _⟩, hk⟩
    · exact .inr h
  · rintro e W' ⟨hv, (⟨ys, rfl, W0, h1, h2⟩ | h)⟩
    · exact ⟨hv, .inl ⟨W0, h1, h2⟩⟩
    · exact ⟨hv, .inr h⟩
theorem app_run' {P : Program} {w w' : World} {ops : Array Oper} {rest : List Oper} {o : Oper} {a : Act} {Q : Exit → Act → World → Prop} (hg : o.guard = none) (s x : Operand) (t tx : TypeId) (hop : o.op = Op.call { callee := Callee.builtin Builtin.append, args := #[s, x], argTypes := #[t, tx] })
    (u v v' : Value) (hs : a.eval s = u) (hx : a.eval x = v) (hrun : (Builtin.append_ #[t, tx] o.type #[u, v]).run P w = .ok v' w') (hK : wpList P ops Q rest (a.put o.dst v') w') : wpList P ops Q (o :: rest) a w := by
  refine wpList_plain hg fun K' hK' => ?_
  unfold Oper.wp
  simp [execOp, hop, resolve, invoke, builtin, hs, hx, hrun, Result.andThen]
  exact hK' _ _ hK
set_option maxRecDepth 10000 in
theorem clone_any (a : Option Addr) (n c : Nat) (zs : List Int) (w : World) (H : Bytes w a n c zs) (hn : n ≤ 140737488351232) :
    Calls Try.prog 46 #[.slice a n c] w fun e w' => ∃ a' c', e = .returned (.slice a' n c') ∧ Bytes w' a' n c' zs ∧ Below w.heap.size w w' ∧ (∀ b, (Value.slice a' n c').ownBlock = some b → w.heap.size ≤ b ∧ b < w'.heap.size) := by
  obtain ⟨i0, hi, hz0, hz1, hz2⟩ := info_parts info5
  have HH := hid H
  clear H
  cases a with
  | none =>
    obtain ⟨rfl, rfl⟩ := HH.out.2.2.1 rfl
    have hE : Sem.run Try.prog (binOp .eql 33 (.slice none 0 0) (.slice none 0 0)) w = .ok (.bool true) w := by kernel_rfl
    go_enter Try.func46, Try.ntmps46
    go_wp2
    go_ret
    exact ⟨none, 0, rfl, HH.out, Below.refl _ _, fun b h => by cases h⟩
  | some ad =>
    have hE : Sem.run Try.prog (binOp .eql 33 (.slice (some ad) n c) (.slice none 0 0)) w = .ok (.bool false) w := by kernel_rfl
    have own0 : (w.alloc (.cells #[] 5)).ownsRow w.heap.size 5 1 (.slice (some ⟨w.heap.size, 0, none⟩) 0 0) 0 [] := World.ownsRow_made w #[] 0 (Nat.le_refl _) (by unfold maxLen; omega) rfl
    have b0 : Below w.heap.size w (w.alloc (.cells #[] 5)) := box_below _ _
    have HB := bytes_kept HH.out b0
    have hcells : ∀ j u, (zs.map (Value.int .u8))[j]? = some u → (w.alloc (.cells #[] 5)).cell? (ad.add j) = some u := by
      intro j u hu
      have hj : j < zs.length := by have := (List.getElem?_eq_some_iff.1 hu).1; simpa using this
      have := HB.2.2.2.2 ad rfl j (by rw [← HB.1]; exact hj)
      rw [this]
      rw [← hu]
      simp [List.getD_eq_getElem?_getD, hj]
    obtain ⟨v1, w1, hrun, own1, g1, hnil⟩ := run_append_own (P := Try.prog) (w.alloc (.cells #[] 5)) w.heap.size 33 33 5 i0 (.int .u8 0) 1 1 Try.underlying33 hi hz0 hz1 hz2 rfl (by decide) (.slice (some ⟨w.heap.size, 0, none⟩) 0 0) 0 [] own0 ad n c (zs.map (Value.int .u8)) (by simp; exact HB.1) hcells (one_cell zs) (by unfold maxLen; omega) (by omega) b0.size
    rw [Nat.zero_add, List.nil_append] at own1
    obtain ⟨g, c1, hv1⟩ : ∃ g c, v1 = .slice (some ⟨g, 0, none⟩) n c := by
      rcases own1.2 with ⟨h, _⟩ | ⟨g, c, _, h, _⟩
      · exact absurd (hnil.1 h).1 (by simp)
      · exact ⟨g, c, h⟩
    subst hv1
    have B1 := hid (b0.grown g1 b0.size (by intro k hk; simp [Value.ownBlock] at hk; omega))
    have hR : Hid (Bytes w1 (some ⟨g, 0, none⟩) n c1 zs) := Row.bytes own1 HH.out.2.2.2.1
    have hlt := hid (World.ownsRow.lt own1 g rfl)
    replace hrun := hid hrun
    clear own1 g1 own0 b0 hcells HB hnil
    go_enter Try.func46, Try.ntmps46
    go_wp2_with (at_builtin; refine app_run' rfl _ _ 33 33 rfl _ _ _ rfl rfl hrun.out ?_)
    clear hrun
    go_wp2
    go_ret
    exact ⟨_, _, rfl, hR.out, B1.out, fun b h => by cases h; exact hlt.out⟩
theorem walk_any (a : Option Addr) (n c : Nat) (zs : List Int) (w : World) (H : Bytes w a n c zs) (hn : n ≤ 140737488351232) :
    Calls Try.prog 28 #[.slice a n c] w fun e w' => ∃ a' c' bx, e = .returned (.func (.func 54) #[] #[.pointer (some ⟨bx, 0, none⟩)]) ∧ Boxed w' bx 33 (.slice a' n c') ∧ w.heap.size ≤ bx ∧ Bytes w' a' n c' zs ∧ Below w.heap.size w w' ∧ (∀ b, (Value.slice a' n c').ownBlock = some b → w.heap.size ≤ b ∧ b < bx) := by
  have HC := hid (clone_any a n c zs w H hn)
  clear H
  go_enter Try.func28, Try.ntmps28
  go_wp2_with fail
  refine HC.out.mono ?_
  rintro e w1 ⟨a', c', rfl, HB, b1, hlt⟩
  have HB2 := hid (bytes_kept HB (box_below w1 (.cells #[.slice a' n c'] 33)))
  have hbx := hid (Boxed.new w1 33 (.slice a' n c'))
  have B2 := hid (b1.alloc b1.size (.cells #[.slice a' n c'] 33))
  have hz := hid b1.size
  replace hlt := hid hlt
  clear HB b1
  go_wp2_with fail
  refine (De.each_any a' n c' _).mono ?_
  rintro e w2 ⟨rfl, rfl⟩
  go_wp2_with fail
  go_ret
  exact ⟨_, _, _, rfl, hbx.out, hz.out, HB2.out, B2.out, hlt.out⟩
end Go.Proofs.Ytmceanfgcehfeab.Iv

/- A range over a closure that turns nothing; the iterator that passes over what is not valid: its contract. -/
import Derived.Test.YtefihoohdaegeaaTm
import Derived.RangeFuncNested
import Derived.RangeFuncBound
import Derived.RangeFuncCalls
import Derived.RangeFuncLeaves
import Derived.Shelf.Abstract
import Derived.Shelf.RegionOpen
import Derived.OwnWalkIn
import Derived.TacticsInMore
import Derived.LoopNIn
import Derived.LoopIn
import Derived.WalkMore
import Derived.ControlIn
namespace Go.Proofs.Ytefihoohdaegeaa.Vi
open Go.ChangeShapes Go.WideShapes Go.ChangeAt Go.RowKit Go.Shelf
open Go.Proofs.Ytefihoohdaegeaa.Lx
open Go.Proofs.Ytefihoohdaegeaa.Tm
set_option linter.unusedVariables false
set_option linter.unusedSimpArgs false
attribute [local go_sem] Oper.semAt_some leq_s gtr_s geq_s

section
variable {F : Fence} {n : Nat} {P : Program} {w : World}
theorem put_grown (W : World) (l : Nat) (o : Obj) : W.grownBy (W.putObj l o) (some l) := grownBy_putObj' W l o
theorem not_cells {W : World} {l : Nat} {o : Obj} (h : W.heap[l]? = some o) (ho : o.isCells = false) : ∀ c t f, W.heap[l]? ≠ some (.cells c t f) := by
  intro c t f e
  rw [h] at e
  cases e
  cases ho
/-- The walk over a range over a closure that turns nothing of what is there. -/
theorem range_q {g : Operand} {ps : Array Tmp} {assign body : Code} {Q : Exit → Act → World → Prop} {a : Act} {α : Type} (encs : α → Array Value)
    (hro : F.round = none) (h1 : 1 ≤ n) {gf : Nat} {lb : Array Value} (hg : a.eval g = .func (.func gf) #[] lb) (hFg : F.fn gf) (eg : ∀ args w, (callFunc gf args).run P w = .ok (.enter gf args) w) (hps : ∀ x, (encs x).size = ps.size)
    (I : List α → World → Prop) (Ix : Code → List α → World → Prop) (Fr : List α → α → Prop) (Kp : World → World → Prop) (Fin : List α → World → World → Prop) (Sp : List α → Prop)
    (hIa : ∀ s W o, I s W → I s (W.alloc o)) (hIb : ∀ s W W' k, I s W → W.grownBy W' (some k) → w.heap.size ≤ k → (∀ c t f, W.heap[k]? ≠ some (.cells c t f)) → I s W') (hXb : ∀ c s W W' k, Ix c s W → W.grownBy W' (some k) → w.heap.size ≤ k → (∀ c t f, W.heap[k]? ≠ some (.cells c t f)) → Ix c s W')
    (hKg : ∀ A B : World, w.heap.size ≤ A.heap.size → Below A.heap.size A B → Kp A B) (hKt : ∀ {A B C : World}, Kp A B → Kp B C → Kp A C) (hKb : ∀ (W : World) (l : Nat) (o o' : Obj), w.heap.size ≤ l → W.heap[l]? = some o → o.isCells = false → Kp W (W.putObj l o'))
    (h0 : I [] w)
    (hseq : ∀ (l : Nat) (J Jx : List α → World → Prop) (W1 : World), Below w.heap.size w W1 → (∀ pre x W0 W', J pre W0 → Below W0.heap.size W0 W' → Fr pre x → YieldAt F (n - 1 - 1) P l (encs x) W' fun e W'' =>
        (e = .returned (.bool true) ∧ J (pre ++ [x]) W'' ∧ Kp W' W'') ∨ (e = .returned (.bool false) ∧ Jx (pre ++ [x]) W'')) → J [] W1 →
      CallsIn F (n - 1) P gf (#[.func (.yield l) #[] #[]] ++ lb) W1 fun e W' => (∃ v, e = .returned v) ∧ ((∃ ys W0, J ys W0 ∧ Below W0.heap.size W0 W' ∧ Fin ys W0 W') ∨ (∃ pre, Sp pre ∧ Jx pre W')))
    (Ax : World → α → Act → World → Prop) (hAx : ∀ Y x a' W W' k, Ax Y x a' W → W.grownBy W' (some k) → (∀ c t f, W.heap[k]? ≠ some (.cells c t f)) → Ax Y x a' W')
    (hassign : ∀ (l : Nat) (x : α) (W : World) (K : Act → World → Prop), (∀ a' W', Below W.heap.size W W' → Ax W x a' W' → K a' W') → assign.wpIn (F.inRound l) (n - 1 - 1) P (Exit.then K (fun _ _ _ => False)) { tmps := (ps.zip (encs x)).foldl (fun t (p, v) => t.setIfInBounds p v) a.tmps, defers := [] } W)
    (hbody : ∀ (l : Nat) (pre : List α) (x : α) (a' : Act) (W0 WY W1 W2 : World), I pre W0 → Below W0.heap.size W0 WY → Below W0.heap.size W0 W1 → Fr pre x → W1.grownBy W2 (some l) → w.heap.size ≤ l → (∃ r, W2.heap[l]? = some (.loop r)) → (∀ c t f, W1.heap[l]? ≠ some (.cells c t f)) → Ax WY x a' W2 →
      body.wpIn (F.inRound l) (n - 1 - 1) P (ownPostG w.heap.size Kp I Ix (pre ++ [x]) W2) a' W2)
    (hdone : ∀ (D l : Nat) (ys : List α) (W0 W W' : World), w.heap.size ≤ D → I ys W0 → Below W0.heap.size W0 W → Fin ys W0 W → W.grownBy W' (some l) → w.heap.size ≤ l → (∀ c t f, W.heap[l]? ≠ some (.cells c t f)) → W'.heap[D]? = some (.deferred (some [])) → Q .normal { a with defers := { target := .collected D, args := #[] } :: a.defers } W')
    (hstop : ∀ (D : Nat) (c : Code) (pre : List α) (W : World), w.heap.size ≤ D → Sp pre → Ix c pre W → W.heap[D]? = some (.deferred (some [])) → c.wpIn F n P Q { a with defers := { target := .collected D, args := #[] } :: a.defers } W) :
    (Code.rangeFunc g ps assign body).wpIn F n P Q a w := by
  refine wpIn_rangeFunc ?_
  intro fn hfn
  rw [hro]
  obtain ⟨rc, hrc⟩ : ∃ rc : LoopState → Option Code → Loop, rc = fun st pe => { state := st, pending := pe, fn, tmps := a.tmps, params := ps, assign, body, defers := w.heap.size } := ⟨_, rfl⟩
  obtain ⟨W1, hW1⟩ : ∃ W1, (w.alloc (.deferred (some []))).alloc (.loop (rc .ready none)) = W1 := ⟨_, rfl⟩
  have hL1 : W1.heap[w.heap.size + 1]? = some (.loop (rc .ready none)) := by
    rw [← hW1]; have := World.alloc_heap_new (w.alloc (.deferred (some []))) (.loop (rc .ready none)); rwa [World.size_alloc] at this
  have hD1 : W1.heap[w.heap.size]? = some (.deferred (some [])) := by
    rw [← hW1]; exact (Below.heap_alloc _ _ _ (by simp)).trans (World.alloc_heap_new w _)
  have hI1 : I [] W1 := by rw [← hW1]; exact hIa _ _ _ (hIa _ _ _ h0)
  have hB1 : Below w.heap.size w W1 := by rw [← hW1]; exact ((Below.refl _ w).alloc (Nat.le_refl _) _).alloc (by simp) _
  have stay : ∀ {A B : World} {k : Nat} {o : Obj}, Below A.heap.size A B → w.heap.size ≤ k → A.heap[k]? = some o → B.heap[k]? = some o := fun hAB hk ho =>
    (hAB.block _ (Array.getElem?_eq_some_iff.1 ho).1).trans ho
  refine ⟨w.heap.size + 1, [{ target := .collected w.heap.size, args := #[] }], W1, { target := .fn (.func gf) lb, args := #[.func (.yield (w.heap.size + 1)) #[] #[]] }, W1, gf,
    #[.func (.yield (w.heap.size + 1)) #[] #[]] ++ lb, W1, ?_, ?_, ?_, ?_, fun _ => h1, ?_⟩
  · rw [← hW1, hrc]; exact run_enterLoop_outer _ _ _ _ _
  · simp only [resolve, hg]
    simp [go_sem]
  · intro f' hf'; simp [Target.leads] at hf'; subst hf'; exact hFg
  · simp [invoke, go_sem, eg]
  · refine (hseq (w.heap.size + 1)
      (fun pre W => I pre W ∧ W.heap[w.heap.size + 1]? = some (.loop (rc .ready none)) ∧ W.heap[w.heap.size]? = some (.deferred (some [])))
      (fun pre W => ∃ c, Ix c pre W ∧ W.heap[w.heap.size + 1]? = some (.loop (rc .done (some c))) ∧ W.heap[w.heap.size]? = some (.deferred (some [])))
      W1 hB1 ?_ ⟨hI1, hL1, hD1⟩).mono ?_
    · rintro pre x W0 WY ⟨hi, hl0, hd0⟩ hgrY hfr
      have hlY := stay hgrY (by omega) hl0
      have hy := run_yield (P := P) (args := encs x) hlY (by rw [hrc]; exact hps x)
      rw [hrc] at hy
      refine ⟨fn, _, assign, body, hy, roundIn_of_wpIn hfn (hassign _ x WY _ ?_)⟩
      clear hy
      intro a' W hbW hax
      have hgr : Below W0.heap.size W0 W := hgrY.trans (hbW.mono hgrY.size)
      have hl := stay hgr (by omega) hl0
      have hd := stay hgr (Nat.le_refl _) hd0
      have hlt : w.heap.size + 1 < W.heap.size := (Array.getElem?_eq_some_iff.1 hl).1
      have hkY : Kp WY W := hKg WY W (by have := (Array.getElem?_eq_some_iff.1 hlY).1; omega) hbW
      refine ⟨_, run_beginRound hl (by rw [hrc]), ?_⟩
      have hl2 : (W.putObj (w.heap.size + 1) (.loop { rc .ready none with state := .busy })).heap[w.heap.size + 1]? = some (.loop { rc .ready none with state := .busy }) := World.putObj_heap_same hlt
      have hd2 : (W.putObj (w.heap.size + 1) (.loop { rc .ready none with state := .busy })).heap[w.heap.size]? = some (.deferred (some [])) := (World.putObj_heap_other (by omega)).trans hd
      have hk2 : Kp W (W.putObj (w.heap.size + 1) (.loop { rc .ready none with state := .busy })) := hKb _ _ _ _ (by omega) hl rfl
      refine wpIn_mono (hbody _ pre x a' W0 WY W _ hi hgrY hgr hfr (put_grown _ _ _) (by omega) ⟨_, hl2⟩ (not_cells hl rfl) (hAx _ _ _ _ _ _ hax (put_grown _ _ _) (not_cells hl rfl))) ?_
      have fin : ∀ (jump : Option Code) (W3 : World), KeepsFrom w.heap.size (W.putObj (w.heap.size + 1) (.loop { rc .ready none with state := .busy })) W3 →
          (Instr.endRound (w.heap.size + 1) jump).run P W3 = .ok (.bool jump.isNone) (W3.putObj (w.heap.size + 1) (.loop (rc (if jump.isNone then .ready else .done) jump))) ∧
          W3.heap[w.heap.size + 1]? = some (.loop { rc .ready none with state := .busy }) ∧
          (W3.putObj (w.heap.size + 1) (.loop (rc (if jump.isNone then .ready else .done) jump))).heap[w.heap.size + 1]? = some (.loop (rc (if jump.isNone then .ready else .done) jump)) ∧
          (W3.putObj (w.heap.size + 1) (.loop (rc (if jump.isNone then .ready else .done) jump))).heap[w.heap.size]? = some (.deferred (some [])) := fun jump W3 hk3 => by
        have hl3 := hk3.same _ _ (by omega) hl2 rfl
        have := run_endRound (P := P) jump hl3
        rw [hrc] at this ⊢
        exact ⟨this, by rw [hrc] at hl3; exact hl3, World.putObj_heap_same (Array.getElem?_eq_some_iff.1 hl3).1, (World.putObj_heap_other (by omega)).trans (hk3.same _ _ (Nat.le_refl _) hd2 rfl)⟩
      rintro e a3 W3 hp
      cases e with
      | normal =>
        obtain ⟨hk3, hkp3, hi3⟩ := hp
        obtain ⟨hr, hl3, hl4, hd4⟩ := fin none W3 hk3
        exact ⟨_, _, hr, .inl ⟨rfl, ⟨hIb _ _ _ _ hi3 (put_grown _ _ _) (by omega) (not_cells hl3 rfl), hl4, hd4⟩, hKt (hKt (hKt hkY hk2) hkp3) (hKb _ _ _ _ (by omega) hl3 rfl)⟩⟩
      | ret =>
        obtain ⟨hk3, hi3⟩ := hp
        obtain ⟨hr, hl3, hl4, hd4⟩ := fin (some .ret) W3 hk3
        exact ⟨_, _, hr, .inr ⟨rfl, .ret, hXb _ _ _ _ _ hi3 (put_grown _ _ _) (by omega) (not_cells hl3 rfl), hl4, hd4⟩⟩
      | exit id =>
        obtain ⟨hk3, hi3⟩ := hp
        obtain ⟨hr, hl3, hl4, hd4⟩ := fin (some (.exit id)) W3 hk3
        exact ⟨_, _, hr, .inr ⟨rfl, .exit id, hXb _ _ _ _ _ hi3 (put_grown _ _ _) (by omega) (not_cells hl3 rfl), hl4, hd4⟩⟩
      | goto t =>
        obtain ⟨hk3, hi3⟩ := hp
        obtain ⟨hr, hl3, hl4, hd4⟩ := fin (some (.goto t)) W3 hk3
        exact ⟨_, _, hr, .inr ⟨rfl, .goto t, hXb _ _ _ _ _ hi3 (put_grown _ _ _) (by omega) (not_cells hl3 rfl), hl4, hd4⟩⟩
      | panic ch => exact hp.elim
      | outgrown => exact hp.elim
    · rintro e W2 ⟨⟨v, rfl⟩, (⟨ys, W0, ⟨hi, hl0, hd0⟩, hgr, hfin⟩ | ⟨pre, hSp, c, hi, hl, hd⟩)⟩
      · have hl := stay hgr (by omega) hl0
        have hd := stay hgr (Nat.le_refl _) hd0
        exact ⟨none, _, by have := run_endLoop (P := P) hl (by rw [hrc]; simp); rw [hrc] at this; exact this, hdone _ _ ys W0 W2 _ (Nat.le_refl _) hi hgr hfin (put_grown _ _ _) (by omega) (not_cells hl rfl) ((World.putObj_heap_other (by omega)).trans hd)⟩
      · exact ⟨some c, _, by have := run_endLoop (P := P) hl (by rw [hrc]; simp); rw [hrc] at this; exact this, hstop _ c pre _ (Nat.le_refl _) hSp (hXb _ _ _ _ _ hi (put_grown _ _ _) (by omega) (not_cells hl rfl)) ((World.putObj_heap_other (by omega)).trans hd)⟩
end
def encs (x : T) : Array Value := #[.agg #[.string x.b, .string x.e, .int .u64 x.s]]
theorem filter_snoc {xs : List T} {k : Nat} (h : k < xs.length) : (xs.take (k + 1)).filter vd = (xs.take k).filter vd ++ (if vd (xs.getD k zt) = true then [xs.getD k zt] else []) := by
  rw [take_snoc h, List.filter_append]
  congr 1
  generalize xs.getD k zt = y
  cases h : vd y <;> simp [h]
theorem filter_pre (xs : List T) (k : Nat) : (xs.take k).filter vd <+: xs.filter vd := by
  conv => rhs; rw [← List.take_append_drop k xs, List.filter_append]
  exact List.prefix_append _ _
set_option maxRecDepth 100000 in
set_option maxHeartbeats 4000000 in
theorem vals_in (m : Nat) (hm : 1 ≤ m) (l bl n0 : Nat) (a : Option Addr) (len cap : Nat) (xs : List T) (J Jx : List T → World → Prop)
    (hY : ∀ pre x W0 W1, J pre W0 → Below W0.heap.size W0 W1 → pre ++ [x] <+: xs.filter vd → YieldAt Fence.wide (m - 1) Try.prog l (encs x) W1 fun e W' =>
      (e = .returned (.bool true) ∧ J (pre ++ [x]) W' ∧ Below n0 W1 W') ∨ (e = .returned (.bool false) ∧ Jx (pre ++ [x]) W'))
    (W : World) (hS : ∀ W', Below n0 W W' → Tbs W' a len cap xs) (hbl : Boxed W bl 26 (.slice a len cap)) (h0 : J [] W) (hnW : n0 ≤ W.heap.size) (hlen : len ≤ 140737488355328) :
    CallsIn Fence.wide m Try.prog 99 #[.func (.yield l) #[] #[], .pointer (some ⟨bl, 0, none⟩)] W fun e W' => (∃ v, e = .returned v) ∧
      ((∃ W0, J (xs.filter vd) W0 ∧ Below W0.heap.size W0 W') ∨ (∃ pre, pre <+: xs.filter vd ∧ Jx pre W')) := by
  have c0 := hbl.cell
  have hxl := (hS W (Below.refl _ _)).1
  replace hY := hid hY
  replace hS := hid hS
  replace hbl := hid hbl
  replace h0 := hid h0
  refine callsIn_of_wp Try.func99 rfl trivial ?_ rfl
  simp only [Try.ntmps99, List.size_toArray, List.length_cons, List.length_nil, Nat.reduceAdd, Nat.reduceSub, Array.replicate_succ, Array.replicate_zero, List.push_toArray, List.append_toArray, List.nil_append, List.cons_append]
  gi_wp2_with fail
  gi_loopw [7] (fun iv wr => ∃ (k : Nat) (W0 : World), iv = .int .i64 (k : Int) ∧ k ≤ len ∧ Hid (J ((xs.take k).filter vd) W0) ∧ Hid (Below W0.heap.size W0 wr) ∧ Hid (Below n0 W wr))
    (fun iv _ => len - (intOf iv).toNat)
  case atStart => exact ⟨0, W, rfl, by omega, h0, Below.refl _ _, Below.refl _ _⟩
  case round =>
    obtain ⟨k, W0, rfl, hk, HJ, HB0, HB⟩ := hrel
    by_cases hlt : k < len
    · have ik : (k : Int) < (len : Int) := by omega
      have HT := hS.out wr HB.out
      have HF : Hid ((xs.take (k + 1)).filter vd = (xs.take k).filter vd ++ (if vd (xs.getD k zt) = true then [xs.getD k zt] else [])) := filter_snoc (by omega)
      have HP : Hid ((xs.take (k + 1)).filter vd <+: xs.filter vd) := filter_pre xs (k + 1)
      obtain ⟨b, o, rfl, hc⟩ : ∃ b o, a = some ⟨b, o, none⟩ ∧ At3 wr b (o + k * 3) (xs.getD k zt) := by
        cases a with
        | none => have := HT.2.2.1 rfl; omega
        | some ad =>
          obtain ⟨b, o, p⟩ := ad
          obtain ⟨rfl, h⟩ := HT.2.2.2.2 b o p rfl (by omega)
          exact ⟨b, o, rfl, h k hlt⟩
      obtain ⟨x, hx⟩ : ∃ x, x = xs.getD k zt := ⟨_, rfl⟩
      rw [← hx] at hc HF
      replace hx : Hid (x = xs.getD k zt) := hx
      obtain ⟨xb, xe, xs'⟩ := x
      obtain ⟨q0, q1, q2⟩ := hc
      dsimp only at q0 q1 q2
      cases hv : vd ⟨xb, xe, xs'⟩ with
      | false =>
        have HF' : Hid ((xs.take (k + 1)).filter vd = (xs.take k).filter vd) := by show _ = _; rw [HF.out, if_neg (by rw [hv]; simp)]; simp
        have HV := hid (fun w => by have := valid_any xb xe xs' w; rw [hv] at this; exact this : ∀ w, Calls Try.prog 100 #[.agg #[.string xb, .string xe, .int .u64 xs']] w fun r w' => r = .returned (.bool false) ∧ w' = w.alloc (.cells #[.string xb, .string xe, .int .u64 xs'] 111))
        clear hv HF
        gi_wp2_with fail
        refine ⟨trivial, (callsIn_wide.2 (HV.out _)).mono ?_⟩
        rintro e w2 ⟨rfl, rfl⟩
        gi_wp2_with fail
        refine ⟨fun _ h => (by cases h), ?_⟩
        have hb1 := hid ((box_below wr (.cells #[.string xb, .string xe, .int .u64 xs'] 111)).alloc (by simp) (.cells #[.string xb, .string xe, .int .u64 xs'] 111))
        have z := HB.out.size
        gi_wp2_with fail
        go_roundw
        case rel => exact ⟨k + 1, W0, by go_num, by omega, by rw [HF'.out]; exact HJ, HB0.out.trans (hb1.out.mono HB0.out.size), HB.out.trans (hb1.out.mono (by omega))⟩
        case measure => simp [intOf]; omega
      | true =>
        have HF' : Hid ((xs.take (k + 1)).filter vd = (xs.take k).filter vd ++ [⟨xb, xe, xs'⟩]) := by show _ = _; rw [HF.out, if_pos hv]
        have HV := hid (fun w => by have := valid_any xb xe xs' w; rw [hv] at this; exact this : ∀ w, Calls Try.prog 100 #[.agg #[.string xb, .string xe, .int .u64 xs']] w fun r w' => r = .returned (.bool true) ∧ w' = w.alloc (.cells #[.string xb, .string xe, .int .u64 xs'] 111))
        clear hv HF
        have hb1 : Below wr.heap.size wr ((wr.alloc (.cells #[.string xb, .string xe, .int .u64 xs'] 111)).alloc (.cells #[.string xb, .string xe, .int .u64 xs'] 111)) := (box_below wr (.cells #[.string xb, .string xe, .int .u64 xs'] 111)).alloc (by simp) (.cells #[.string xb, .string xe, .int .u64 xs'] 111)
        have z := HB.out.size
        obtain ⟨fn, tmps, assign, body, hy, hR⟩ := hY.out _ ⟨xb, xe, xs'⟩ W0 _ HJ.out (HB0.out.trans (hb1.mono HB0.out.size)) (by rw [← HF'.out]; exact HP.out)
        dsimp only [encs] at hy
        replace hb1 := hid hb1
        have HR := hid hR
        gi_wp2_with fail
        refine ⟨trivial, (callsIn_wide.2 (HV.out _)).mono ?_⟩
        rintro e w2 ⟨rfl, rfl⟩
        gi_wp2_with fail
        refine hR.mono ?_
        rintro e w3 (⟨rfl, hJ3, hk3⟩ | ⟨rfl, hJx3⟩)
        · replace hJ3 := hid hJ3
          replace hk3 := hid hk3
          clear hR HR
          gi_wp2_with fail
          go_roundw
          case rel => exact ⟨k + 1, w3, by go_num, by omega, by rw [HF'.out]; exact hJ3, Below.refl _ _, (HB.out.trans (hb1.out.mono (by omega))).trans hk3.out⟩
          case measure => simp [intOf]; omega
        · gi_wp2_with fail
          refine bodyPost_ret (results_none rfl _ _ _) rfl ?_
          exact ⟨⟨_, rfl⟩, .inr ⟨_, by rw [← HF'.out]; exact HP.out, hJx3⟩⟩
    · have e1 : Hid ((xs.take k).filter vd = xs.filter vd) := by show _ = _; rw [List.take_of_length_le (by omega)]
      have ik : ¬ (k : Int) < (len : Int) := by omega
      gi_wp2_with fail
      go_end0
      exact ⟨⟨_, rfl⟩, .inl ⟨W0, by rw [← e1.out]; exact HJ.out, HB0.out⟩⟩
theorem valids_any (a : Option Addr) (len cap : Nat) (w : World) :
    Calls Try.prog 79 #[.slice a len cap] w fun e w' => e = .returned (.func (.func 99) #[] #[.pointer (some ⟨w.heap.size, 0, none⟩)]) ∧ w' = w.alloc (.cells #[.slice a len cap] 26) := by
  have hmf : ∀ (fn : Fn) (first cap : Array Value) (w : World), (Instr.makeFunc fn first cap).run Try.prog w = .ok (.func fn first cap) w := fun _ _ _ _ => rfl
  go_enter Try.func79, Try.ntmps79
  go_wp2
  go_ret
  exact ⟨rfl, rfl⟩
end Go.Proofs.Ytefihoohdaegeaa.Vi

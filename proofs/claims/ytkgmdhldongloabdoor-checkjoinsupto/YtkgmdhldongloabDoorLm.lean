/- Contracts of the linear maps of registers: what a map makes of a register, a map squared, the map of one nought, and noughts by squaring. -/
import Derived.Test.YtkgmdhldongloabDoorCk
import Derived.Deep.WholeRow
import Derived.RegionTactic
import Derived.BigRegion
namespace Go.Proofs.YtkgmdhldongloabDoor.Lm
open Go.ChangeShapes Go.WideShapes Go.ChangeAt Go.RowKit
open Go.Proofs.YtkgmdhldongloabDoor.Crc
open Go.Proofs.YtkgmdhldongloabDoor.Ck
set_option linter.unusedVariables false

/-- An array of 32 words. -/
def Arr (c : Array Value) (f : Nat → BitVec 32) : Prop := c.size = 32 ∧ ∀ i, i < 32 → c[i]? = some (.int .u32 (toI (f i)))
theorem bit_k (x : BitVec 32) (k : Nat) : bits .and .u32 (toI x / 2 ^ k) 1 = if x.getLsbD k = true then 1 else 0 := by
  rw [shr_i, show (1 : Int) = toI 1#32 from by decide, and_i]
  have : (x >>> k) &&& 1#32 = if x.getLsbD k = true then 1#32 else 0#32 := by
    rw [BitVec.and_one_eq_setWidth_ofBool_getLsbD, BitVec.getLsbD_ushiftRight, Nat.add_zero]
    cases x.getLsbD k <;> rfl
  rw [this]
  split <;> rfl

theorem Arr.cell {c : Array Value} {f : Nat → BitVec 32} (A : Arr c f) (w : World) (t : TypeId) (i : Nat) (hi : i < 32) : (w.alloc (.cells c t)).cell? ⟨w.heap.size, i, none⟩ = some (.int .u32 (toI (f i))) := by
  rw [World.cell?_alloc_mark, A.2 i hi]

set_option maxHeartbeats 1000000 in
theorem of_any (c : Array Value) (f : Nat → BitVec 32) (x : BitVec 32) (w : World) (A : Hid (Arr c f)) :
    Calls Tryd.prog 28 #[.agg c, .int .u32 (toI x)] w fun e w' => e = .returned (.int .u32 (toI (lin f 32 x))) ∧ Below w.heap.size w w' := by
  have B : Hid (Below w.heap.size w (w.alloc (.cells c 52))) := (Below.refl _ _).alloc (Nat.le_refl _) _
  go_enter Tryd.func28, Tryd.ntmps28
  go_wp2
  go_loop [4, 6] (fun r i => ∃ k : Nat, k ≤ 32 ∧ i = .int .i64 k ∧ r = .int .u32 (toI (lin f k x))) (fun _ i => 32 - (intOf i).toNat)
  case atStart => exact ⟨0, Nat.zero_le _, rfl, rfl⟩
  case round =>
    obtain ⟨k, hk, rfl, rfl⟩ := hrel
    by_cases h : k < 32
    · have BK := bit_k x k
      obtain ⟨y, hy⟩ : ∃ y, Hid (y = lin f (k + 1) x) := ⟨_, rfl⟩
      have U : Hid (y = lin f k x ^^^ (if x.getLsbD k = true then f k else 0#32)) := by show _ = _; rw [hy.out]; rfl
      have C := A.out.cell w 52 k h
      have X : Hid (bits .xor .u32 (toI (lin f k x)) (toI (f k)) = toI (lin f k x ^^^ f k)) := xor_i _ _
      generalize lin f k x = b at U X ⊢
      generalize f k = fk at U X C
      cases hf : x.getLsbD k
      · rw [hf] at BK U
        simp only [Bool.false_eq_true, if_false, BitVec.xor_zero] at BK U
        go_wp2_with fail
        go_round
        case rel => exact ⟨k + 1, by omega, by go_num, by rw [← hy.out, U.out]⟩
        case measure => simp [intOf]; omega
      · rw [hf] at BK U
        simp only [if_true] at BK U
        go_wp2_with fail
        go_round
        case rel => exact ⟨k + 1, by omega, by go_num, by rw [X.out, ← hy.out, U.out]⟩
        case measure => simp [intOf]; omega
    · have : k = 32 := by omega
      subst this
      go_wp2
      go_ret
      exact ⟨rfl, B.out⟩

/-! ### A block of the call's own -/
def Blk (W : World) (g : Nat) (t : TypeId) (c : Array Value) : Prop := W.heap[g]? = some (.cells c t (0, 0))
theorem Blk.lt {W : World} {g t : Nat} {c : Array Value} (h : Blk W g t c) : g < W.heap.size := (Array.getElem?_eq_some_iff.1 h).1
theorem Blk.cell {W : World} {g t : Nat} {c : Array Value} (h : Blk W g t c) (i : Nat) : W.cell? ⟨g, i, none⟩ = c[i]? := cell_of_row W g i c t (0, 0) h
theorem Blk.fz {W : World} {g t : Nat} {c : Array Value} (h : Blk W g t c) (o : Nat) : W.frozen? ⟨g, o, none⟩ = false := by
  simp [World.frozen?, show W.heap[g]? = _ from h]
theorem Blk.new (W : World) (t : TypeId) (c : Array Value) : Blk (W.alloc (.cells c t)) W.heap.size t c := by
  show (W.heap.push _)[W.heap.size]? = _
  simp
theorem grown_set (W : World) (r o : Nat) (v : Value) : W.grownBy (W.setCell ⟨r, o, none⟩ v) (some r) :=
  ⟨rfl, rfl, rfl, by simp [World.setCell], fun k hk hne => Below.heap_setCell W _ _ k (by intro e; exact hne (by rw [e]))⟩
theorem Blk.set {W : World} {g t : Nat} {c : Array Value} (h : Blk W g t c) (i : Nat) (v : Value) : Blk (W.setCell ⟨g, i, none⟩ v) g t (c.setIfInBounds i v) := by
  unfold Blk at h ⊢
  simp [World.setCell, Array.getElem?_modify, h]
theorem Blk.kept {W W' : World} {g t : Nat} {c : Array Value} {row : Option Nat} (h : Blk W g t c) (k : W.grownBy W' row) (hne : some g ≠ row) : Blk W' g t c := by
  unfold Blk
  rw [k.block g h.lt hne]
  exact h
theorem Blk.later {W W' : World} {g t : Nat} {c : Array Value} (h : Blk W g t c) (b : Below W.heap.size W W') : Blk W' g t c := by
  unfold Blk
  rw [b.block g h.lt]
  exact h
theorem tab_later {w w' : World} (T : Hid (Tab w)) (hb : Below w.heap.size w w') : Hid (Tab w') := fun i hi => cell_later hb (T.out i hi)
/-- The first k words are there. -/
def Part (c : Array Value) (k : Nat) (f : Nat → BitVec 32) : Prop := c.size = 32 ∧ (∀ i, i < 32 → ∃ z, c[i]? = some (.int .u32 z)) ∧ ∀ i, i < k → c[i]? = some (.int .u32 (toI (f i)))
def zeros32 : Array Value := Array.replicate 32 (.int .u32 0)
theorem part0 (f : Nat → BitVec 32) : Part zeros32 0 f := ⟨by simp [zeros32], fun i hi => ⟨0, by simp [zeros32, hi]⟩, fun i hi => by omega⟩
theorem Part.set {c : Array Value} {k : Nat} {f : Nat → BitVec 32} (h : Part c k f) (hk : k < 32) : Part (c.setIfInBounds k (.int .u32 (toI (f k)))) (k + 1) f := by
  obtain ⟨h1, h2, h3⟩ := h
  refine ⟨by simp [h1], fun i hi => ?_, fun i hi => ?_⟩
  · rw [Array.getElem?_setIfInBounds]
    split
    · exact ⟨toI (f k), by simp [h1]; omega⟩
    · exact h2 i hi
  · rw [Array.getElem?_setIfInBounds]
    split
    · rename_i e; subst e; simp [h1, hk]
    · exact h3 i (by omega)
theorem Part.arr {c : Array Value} {f : Nat → BitVec 32} (h : Part c 32 f) : Arr c f := ⟨h.1, h.2.2⟩
theorem shl_one (k : Nat) (h : k < 32) : 2 ^ k % 4294967296 = toI (BitVec.twoPow 32 k) := by
  have e := shl_i 1#32 k
  rw [wrap_u32, show toI 1#32 = 1 from by decide, Int.one_mul] at e
  rw [e]
  rfl

theorem arr_one {c : Array Value} {f : Nat → BitVec 32} (A : Arr c f) : c.all (·.oneCell') = true := by
  rw [Array.all_eq_true]
  intro i hi
  have := A.2 i (by rw [← A.1]; exact hi)
  rw [Array.getElem?_eq_getElem hi] at this
  rw [Option.some.inj this]
  rfl
theorem results_cell1 {fn : Func} {p : Tmp} {ty : TypeId} (h : fn.results = #[.cell p ty]) (tmps : Array Value) (P : Program) (w : World) :
    (results fn tmps).run P w = ((asAddr (tmps.getD p undef)).run P w).andThen fun a w₁ => (loadVar ty a).run P w₁ := by
  simp only [results, h]
  simp [Sem.run_bind, Result.andThen]
theorem info32 : (Tryd.prog.info? 52).map (·.size) = some 32 := by kernel_rfl
theorem load_run {W : World} {g t T e : Nat} {c : Array Value} (h : Blk W g t c) (hu : Tryd.prog.underlying T = some (.array 32 e)) (hi : (Tryd.prog.info? T).map (·.size) = some 32) (hc : c.size = 32) :
    (Instr.loadAt T (.pointer (some ⟨g, 0, none⟩))).run Tryd.prog W = .ok (.agg c) W := by
  simp only [Instr.loadAt, Instr.sureAddr, Sem.run_bind, Sem.run_pure, Result.andThen]
  exact run_loadVar_row W g t T c (0, 0) _ h hu rfl (by rw [hi, hc])
theorem store_run {W : World} {g t T : Nat} {c c' : Array Value} (h : Blk W g t c) (hi : (Tryd.prog.info? T).map (·.size) = some 32) (hc : c.size = 32) (hc' : c'.size = 32) (h1 : c'.all (·.oneCell') = true) :
    (Instr.storeAt T (.pointer (some ⟨g, 0, none⟩)) (.agg c')).run Tryd.prog W = .ok () (W.setRow g c') := by
  simp only [Instr.storeAt, Instr.sureAddr, Sem.run_bind, Sem.run_pure, Result.andThen]
  exact run_storeVar_row W g t T c c' h (by rw [hi, hc']) (by rw [hc, hc']) h1
/-- A whole array, loaded. -/
theorem load_arr {W : World} {ops : Array Oper} {rest : List Oper} {o : Oper} {a : Act} {Q : Exit → Act → World → Prop} (hg : o.guard = none) (p : Operand) (T : TypeId) (hop : o.op = Op.load T p)
    (e g t : Nat) (c : Array Value) (hp : a.eval p = .pointer (some ⟨g, 0, none⟩)) (hu : Tryd.prog.underlying T = some (.array 32 e)) (hi : (Tryd.prog.info? T).map (·.size) = some 32) (hb : Blk W g t c) (hc : c.size = 32)
    (h : wpList Tryd.prog ops Q rest (a.put o.dst (.agg c)) W) : wpList Tryd.prog ops Q (o :: rest) a W := by
  refine wpList_plain hg fun K hK => ?_
  have hrun := load_run hb hu hi hc
  unfold Oper.wp
  simp [execOp, hop, hp, hrun, Result.andThen]
  exact hK _ _ h
theorem grown_row (W : World) (g : Nat) (c' : Array Value) : W.grownBy (W.setRow g c') (some g) :=
  ⟨rfl, rfl, rfl, by simp [World.setRow], fun k hk hne => by
    have : ¬ g = k := fun e => hne (by rw [e])
    simp [World.setRow, Array.getElem?_modify, this]⟩
/-- A whole array, loaded, where the order is drawn. -/
theorem load_wp {W : World} {o : Oper} {a : Act} {K : Act → World → Prop} {Q : Exit → Act → World → Prop} (p : Operand) (T : TypeId) (hop : o.op = Op.load T p)
    (e g t : Nat) (c : Array Value) (hp : a.eval p = .pointer (some ⟨g, 0, none⟩)) (hu : Tryd.prog.underlying T = some (.array 32 e)) (hi : (Tryd.prog.info? T).map (·.size) = some 32) (hb : Blk W g t c) (hc : c.size = 32)
    (h : K (a.put o.dst (.agg c)) W) : o.wp Tryd.prog a W K Q := by
  have hrun := load_run hb hu hi hc
  unfold Oper.wp
  simp [execOp, hop, hp, hrun, Result.andThen]
  exact h
/-- A whole array, stored. -/
theorem store_arr {W : World} {ops : Array Oper} {rest : List Oper} {o : Oper} {a : Act} {Q : Exit → Act → World → Prop} (hg : o.guard = none) (p v : Operand) (T : TypeId) (hop : o.op = Op.store T p v)
    (g t : Nat) (c c' : Array Value) (hp : a.eval p = .pointer (some ⟨g, 0, none⟩)) (hv : a.eval v = .agg c') (hi : (Tryd.prog.info? T).map (·.size) = some 32) (hb : Blk W g t c) (hc : c.size = 32) (hc' : c'.size = 32) (h1 : c'.all (·.oneCell') = true)
    (h : ∀ W', Blk W' g t c' → W.grownBy W' (some g) → wpList Tryd.prog ops Q rest (a.put o.dst undef) W') : wpList Tryd.prog ops Q (o :: rest) a W := by
  refine wpList_plain hg fun K hK => ?_
  have hrun := store_run hb hi hc hc' h1
  unfold Oper.wp
  simp [execOp, hop, hp, hv, hrun, Result.andThen]
  exact hK _ _ (h _ (setRow_heap W g c c' t (0, 0) hb) (grown_row W g c'))

set_option maxHeartbeats 1000000 in
theorem one_any (w : World) (T : Hid (Tab w)) :
    Calls Tryd.prog 27 #[] w fun e w' => ∃ c, e = .returned (.agg c) ∧ Hid (Arr c (fun i => shiftZ 8 (BitVec.twoPow 32 i))) ∧ Below w.heap.size w w' := by
  have B0 : Hid (Below w.heap.size w (w.alloc (.cells zeros32 52))) := (Below.refl _ _).alloc (Nat.le_refl _) _
  have K0 := hid (Blk.new w 52 zeros32)
  obtain ⟨g, HG⟩ : ∃ g, Hid (g = w.heap.size) := ⟨_, rfl⟩
  obtain ⟨f, HF⟩ : ∃ f : Nat → BitVec 32, Hid (f = fun i => shiftZ 8 (BitVec.twoPow 32 i)) := ⟨_, rfl⟩
  rw [← HF.out]
  rw [← HG.out] at K0
  go_enter Tryd.func27, Tryd.ntmps27
  go_wp2
  change Code.wp _ _ _ _ (w.alloc (.cells zeros32 52))
  rw [← HG.out]
  go_loopw [2] (fun i wr => ∃ k : Nat, ∃ c : Array Value, k ≤ 32 ∧ i = .int .i64 k ∧ Hid (Part c k f) ∧ Hid (Blk wr g 52 c) ∧ Hid (Below w.heap.size w wr)) (fun i _ => 32 - (intOf i).toNat)
  case atStart => exact ⟨0, zeros32, by omega, rfl, part0 _, K0, B0⟩
  case round =>
    obtain ⟨k, c, hk, rfl, hp, hb, hbel⟩ := hrel
    by_cases h : k < 32
    · have S := hid (shl_one k h)
      obtain ⟨z, hz⟩ := hp.out.2.1 k h
      have C := hb.out.cell k
      rw [hz] at C
      have F := hb.out.fz k
      have V : Hid (shiftZ 8 (BitVec.twoPow 32 k) = f k) := by show _ = _; rw [HF.out]
      clear hz
      go_wp2_with fail
      rw [S.out]
      refine (afterNought_any _ _ (tab_later T hbel.out)).mono ?_
      rintro e wr ⟨rfl, rfl⟩
      rw [V.out]
      have P2 := hid (hp.out.set h)
      have K2 := hid (hb.out.set k (.int .u32 (toI (f k))))
      have B2 : Hid (Below w.heap.size w (wr.setCell ⟨g, k, none⟩ (.int .u32 (toI (f k))))) := hbel.out.grown (grown_set _ _ _ _) hbel.out.size (by intro a ha; simp at ha; have := HG.out; omega)
      clear hp hb hbel
      go_wp2_with fail
      go_roundw
      case rel => exact ⟨k + 1, _, by omega, by go_num, P2, K2, B2⟩
      case measure => simp [intOf]; omega
    · have : k = 32 := by omega
      subst this
      have A := hid hp.out.arr
      have O := hid (arr_one A.out)
      have Z := hid hp.out.1
      go_wp2_with (first | (refine load_arr rfl _ 52 rfl 25 g 52 c rfl Tryd.underlying52 info32 hb.out Z.out ?_) | (refine store_arr rfl _ _ 52 rfl g 52 c c rfl rfl info32 hb.out Z.out Z.out O.out ?_))
      intro W2 K2 G2
      have HK2 := hid K2
      have B2 : Hid (Below w.heap.size w W2) := hbel.out.grown G2 hbel.out.size (by intro a ha; simp at ha; have := HG.out; omega)
      clear K2 G2
      go_wp2_with fail
      have hld := run_loadVar_row W2 g 52 52 c (0, 0) _ HK2.out Tryd.underlying52 rfl (by rw [info32, Z.out])
      refine bodyPost_ret (v := .agg c) ?_ rfl ⟨c, rfl, A, B2.out⟩
      rw [results_cell1 rfl]
      simp [asAddr, Result.andThen, hld]

set_option maxHeartbeats 8000000 in
set_option maxRecDepth 100000 in
theorem squared_any (co : Array Value) (fo : Nat → BitVec 32) (w : World) (AO : Hid (Arr co fo)) :
    Calls Tryd.prog 29 #[.agg co] w fun e w' => ∃ c, e = .returned (.agg c) ∧ Hid (Arr c (fun i => lin fo 32 (fo i))) ∧ Below w.heap.size w w' := by
  obtain ⟨f, HFe⟩ : ∃ f : Nat → BitVec 32, Hid (f = fun i => lin fo 32 (fo i)) := ⟨_, rfl⟩
  obtain ⟨fm, HM⟩ : ∃ fm : Nat → BitVec 32, Hid (fm = fo) := ⟨_, rfl⟩
  have HF : Hid (∀ k, lin fo 32 (fm k) = f k) := fun k => by rw [HFe.out, HM.out]
  rw [← HFe.out]
  have ZO := hid AO.out.1
  have B0 : Hid (Below w.heap.size w ((w.alloc (.cells co 52)).alloc (.cells zeros32 52))) := ((Below.refl _ _).alloc (Nat.le_refl _) _).alloc (by simp) _
  have K0 : Hid (Blk ((w.alloc (.cells co 52)).alloc (.cells zeros32 52)) (w.heap.size + 1) 52 zeros32) := by
    have := Blk.new (w.alloc (.cells co 52)) 52 zeros32
    show Blk _ _ _ _
    simpa using this
  have K1 : Hid (Blk ((w.alloc (.cells co 52)).alloc (.cells zeros32 52)) w.heap.size 52 co) := (Blk.new w 52 co).later ((Below.refl _ _).alloc (Nat.le_refl _) _)
  obtain ⟨m, HG⟩ : ∃ m, Hid (m = w.heap.size) := ⟨_, rfl⟩
  obtain ⟨r, HRr⟩ : ∃ r, Hid (r = w.heap.size + 1) := ⟨_, rfl⟩
  rw [← HG.out] at K1
  rw [← HRr.out] at K0
  have hmr : m < r := by have := HG.out; have := HRr.out; omega
  have hwm : w.heap.size ≤ m := by have := HG.out; omega
  go_enter Tryd.func29, Tryd.ntmps29
  go_wp2
  change Code.wp _ _ _ _ ((w.alloc (.cells co 52)).alloc (.cells zeros32 52))
  rw [← HRr.out, ← HG.out]
  go_loopw [4] (fun i wr => ∃ k : Nat, ∃ c : Array Value, k ≤ 32 ∧ i = .int .i64 k ∧ Hid (Part c k f) ∧ Hid (Blk wr r 52 c) ∧ Hid (Blk wr m 52 co) ∧ Hid (Blk wr m 52 co) ∧ Hid (Below w.heap.size w wr)) (fun i _ => 32 - (intOf i).toNat)
  case atStart => exact ⟨0, zeros32, by omega, rfl, part0 _, K0, K1, K1, B0⟩
  case round =>
    obtain ⟨k, c, hk, rfl, hp, hb, hm, _, hbel⟩ := hrel
    clear K0 K1 B0
    by_cases h : k < 32
    · have KR : Hid (Blk wr.drew r 52 c) := hb
      have KM : Hid (Blk wr.drew m 52 co) := hm
      have KO : Hid (Blk wr.drew m 52 co) := hm
      have BB : Hid (Below w.heap.size w wr.drew) := hbel.out.drew
      have CM := hm.out.cell k
      rw [AO.out.2 k h, ← HM.out] at CM
      clear hb hm hbel
      go_wp2_with fail
      refine wp_region_any (by kernel_rfl) ?_
      change wpAny _ _ _ _ _ _ _ (World.drew _)
      refine wpAny_take (i := 0) (v := ?v1) rfl (by kernel_rfl) (by kernel_rfl) (by kernel_rfl) (fun _ _ _ h => h) (Or.inl ⟨by rfl, ?h1⟩) ?_
      case h1 => (intro w; go_simp; try (with_reducible rfl))
      go_simp
      refine wpAny_take (i := 2) (v := ?v2) rfl (by kernel_rfl) (by kernel_rfl) (by kernel_rfl) (fun _ _ _ h => h) (Or.inl ⟨by rfl, ?h2⟩) ?_
      case h2 => (intro w; go_simp; try (with_reducible rfl))
      go_simp
      refine wpAny_take (i := 3) (v := ?v3) rfl (by kernel_rfl) (by kernel_rfl) (by kernel_rfl) (fun _ _ _ h => h) (Or.inl ⟨by rfl, ?h3⟩) ?_
      case h3 => (intro w; go_simp; try (with_reducible rfl))
      go_simp
      refine wpAny_ready (rs := [1, 4]) (by kernel_rfl) (by simp) ?_
      refine AllReady.cons rfl (fun K hK => ?_) ?_
      · refine load_wp _ 52 rfl 25 m 52 co rfl Tryd.underlying52 info32 KO.out ZO.out ?_
        refine hK _ _ ?_
        clear hK K
        go_simp
        refine wpAny_ready (rs := [4]) (by kernel_rfl) (by simp) ?_
        refine AllReady.cons rfl (fun K hK => ?_) ?_
        · go_simp
          refine hK _ _ ?_
          clear hK K
          refine wpAny_ready (rs := [5]) (by kernel_rfl) (by simp) ?_
          refine AllReady.cons rfl (fun K hK => ?_) ?_
          · go_simp
            go_wp2_with fail
            refine (of_any co fo (fm k) _ AO).mono ?_
            rintro e W5 ⟨rfl, b5⟩
            have KR5 := hid (KR.out.later b5)
            have KM5 := hid (KM.out.later b5)
            have KO5 := hid (KO.out.later b5)
            have BB5 := hid (BB.out.trans (b5.mono BB.out.size))
            obtain ⟨z, hz⟩ := hp.out.2.1 k h
            have C5 := KR5.out.cell k
            rw [hz] at C5
            have F5 := KR5.out.fz k
            have V5 : Hid (lin fo 32 (fm k) = f k) := HF.out k
            rw [V5.out]
            have P6 := hid (hp.out.set h)
            have K6 := hid (KR5.out.set k (.int .u32 (toI (f k))))
            have G6 := hid (grown_set W5 r k (.int .u32 (toI (f k))))
            have M6 := hid (KM5.out.kept G6.out (by simp; omega))
            have O6 := hid (KO5.out.kept G6.out (by simp; omega))
            have B6 : Hid (Below w.heap.size w (W5.setCell ⟨r, k, none⟩ (.int .u32 (toI (f k))))) := BB5.out.grown G6.out BB5.out.size (by intro a ha; simp at ha; omega)
            clear b5 hz
            go_wp2_with fail
            refine wpAny_take (i := 6) (v := ?v4) rfl (by kernel_rfl) (by kernel_rfl) (by kernel_rfl) (fun _ _ _ h => h) (Or.inl ⟨by rfl, ?h4⟩) ?_
            case h4 => (intro w; go_simp; try (with_reducible rfl))
            go_simp
            refine wpAny_ready (rs := [7]) (by kernel_rfl) (by simp) ?_
            refine AllReady.cons rfl (fun K hK => ?_) ?_
            · go_simp
              refine hK _ _ ?_
              clear hK K
              refine wpAny_done (by kernel_rfl) ?_ _
              generalize W5.setCell ⟨r, k, none⟩ (.int .u32 (toI (f k))) = W6 at K6 M6 O6 B6 G6 ⊢
              go_wp2_with fail
              go_roundw
              case rel => exact ⟨k + 1, _, by omega, by go_num, P6, K6, M6, O6, B6⟩
              case measure => simp [intOf]; omega
            exact AllReady.nil
          exact AllReady.nil
        exact AllReady.nil
      refine AllReady.cons rfl (fun K hK => ?_) ?_
      · go_simp
        refine hK _ _ ?_
        clear hK K
        refine wpAny_ready (rs := [1]) (by kernel_rfl) (by simp) ?_
        refine AllReady.cons rfl (fun K hK => ?_) ?_
        · refine load_wp _ 52 rfl 25 m 52 co rfl Tryd.underlying52 info32 KO.out ZO.out ?_
          refine hK _ _ ?_
          clear hK K
          go_simp
          refine wpAny_ready (rs := [5]) (by kernel_rfl) (by simp) ?_
          refine AllReady.cons rfl (fun K hK => ?_) ?_
          · go_simp
            go_wp2_with fail
            refine (of_any co fo (fm k) _ AO).mono ?_
            rintro e W5 ⟨rfl, b5⟩
            have KR5 := hid (KR.out.later b5)
            have KM5 := hid (KM.out.later b5)
            have KO5 := hid (KO.out.later b5)
            have BB5 := hid (BB.out.trans (b5.mono BB.out.size))
            obtain ⟨z, hz⟩ := hp.out.2.1 k h
            have C5 := KR5.out.cell k
            rw [hz] at C5
            have F5 := KR5.out.fz k
            have V5 : Hid (lin fo 32 (fm k) = f k) := HF.out k
            rw [V5.out]
            have P6 := hid (hp.out.set h)
            have K6 := hid (KR5.out.set k (.int .u32 (toI (f k))))
            have G6 := hid (grown_set W5 r k (.int .u32 (toI (f k))))
            have M6 := hid (KM5.out.kept G6.out (by simp; omega))
            have O6 := hid (KO5.out.kept G6.out (by simp; omega))
            have B6 : Hid (Below w.heap.size w (W5.setCell ⟨r, k, none⟩ (.int .u32 (toI (f k))))) := BB5.out.grown G6.out BB5.out.size (by intro a ha; simp at ha; omega)
            clear b5 hz
            go_wp2_with fail
            refine wpAny_take (i := 6) (v := ?v5) rfl (by kernel_rfl) (by kernel_rfl) (by kernel_rfl) (fun _ _ _ h => h) (Or.inl ⟨by rfl, ?h5⟩) ?_
            case h5 => (intro w; go_simp; try (with_reducible rfl))
            go_simp
            refine wpAny_ready (rs := [7]) (by kernel_rfl) (by simp) ?_
            refine AllReady.cons rfl (fun K hK => ?_) ?_
            · go_simp
              refine hK _ _ ?_
              clear hK K
              refine wpAny_done (by kernel_rfl) ?_ _
              generalize W5.setCell ⟨r, k, none⟩ (.int .u32 (toI (f k))) = W6 at K6 M6 O6 B6 G6 ⊢
              go_wp2_with fail
              go_roundw
              case rel => exact ⟨k + 1, _, by omega, by go_num, P6, K6, M6, O6, B6⟩
              case measure => simp [intOf]; omega
            exact AllReady.nil
          exact AllReady.nil
        exact AllReady.nil
      exact AllReady.nil
    · have : k = 32 := by omega
      subst this
      have A := hid hp.out.arr
      have O := hid (arr_one A.out)
      have Z := hid hp.out.1
      go_wp2_with (first | (refine load_arr rfl _ 52 rfl 25 r 52 c rfl Tryd.underlying52 info32 hb.out Z.out ?_) | (refine store_arr rfl _ _ 52 rfl r 52 c c rfl rfl info32 hb.out Z.out Z.out O.out ?_))
      intro W2 K2 G2
      have HK2 := hid K2
      have B2 : Hid (Below w.heap.size w W2) := hbel.out.grown G2 hbel.out.size (by intro a ha; simp at ha; omega)
      clear K2 G2
      go_wp2_with fail
      have hld := run_loadVar_row W2 r 52 52 c (0, 0) _ HK2.out Tryd.underlying52 rfl (by rw [info32, Z.out])
      refine bodyPost_ret (v := .agg c) ?_ rfl ⟨c, rfl, A, B2.out⟩
      rw [results_cell1 rfl]
      simp [asAddr, Result.andThen, hld]

/-! ### Noughts by squaring -/
theorem lin_shift (n : Nat) (x : BitVec 32) : lin (fun i => shiftZ n (BitVec.twoPow 32 i)) 32 x = shiftZ n x := lin_eq (shiftZ n) (shiftZ_xor n) x
theorem shift_sq (n : Nat) : (fun i => lin (fun i => shiftZ n (BitVec.twoPow 32 i)) 32 (shiftZ n (BitVec.twoPow 32 i))) = fun i => shiftZ (n + n) (BitVec.twoPow 32 i) := by
  funext i
  rw [lin_shift, ← shiftZ_add]
theorem and1_i64 (v : Int) (h : 0 ≤ v) : bits .and .i64 v 1 = v % 2 := by
  unfold bits
  simp only [show IntKind.i64.bits = 64 from rfl, BitVec.toNat_and, BitVec.toNat_ofInt]
  have e : ((1 : Int) % ((2 ^ 64 : Nat) : Int)).toNat = 1 := by decide
  rw [e, Nat.and_one_is_mod]
  have : (v % 18446744073709551616).toNat % 2 = (v % 2).toNat := by omega
  simp [IntKind.wrap, IntKind.bits, IntKind.signed]
  omega

set_option maxHeartbeats 2000000 in
theorem after_any (x : BitVec 32) (n : Nat) (w : World) (T : Hid (Tab w)) (hn : n ≤ 9223372036854775807) :
    Calls Tryd.prog 20 #[.int .u32 (toI x), .int .i64 n] w fun e w' => e = .returned (.int .u32 (toI (shiftZ (8 * n) x))) ∧ Below w.heap.size w w' := by
  obtain ⟨X, HX⟩ : ∃ X, Hid (X = shiftZ (8 * n) x) := ⟨_, rfl⟩
  rw [← HX.out]
  go_enter Tryd.func20, Tryd.ntmps20
  go_wp2_with fail
  refine (one_any _ T).mono ?_
  rintro e w1 ⟨c, rfl, A, b1⟩
  have B1 := hid b1
  have Z1 := hid A.out.1
  have O1 := hid (arr_one A.out)
  have K1 := hid (Blk.new w1 52 zeros32)
  have HB : Hid (Below w.heap.size w (w1.alloc (.cells zeros32 52))) := B1.out.alloc B1.out.size _
  clear b1
  obtain ⟨g, HG⟩ : ∃ g, Hid (g = w1.heap.size) := ⟨_, rfl⟩
  rw [← HG.out] at K1
  go_wp2_with (refine store_arr rfl _ _ 52 rfl w1.heap.size 52 zeros32 c rfl rfl info32 (by rw [← HG.out]; exact K1.out) (by rfl) Z1.out O1.out ?_)
  intro W2 K2 G2
  rw [← HG.out] at K2 G2 ⊢
  have HK2 := hid K2
  have hgw : w.heap.size ≤ g := by have := HG.out; have := B1.out.size; omega
  have B2 : Hid (Below w.heap.size w W2) := HB.out.grown G2 HB.out.size (by intro a ha; simp at ha; omega)
  clear K2 G2 K1 HB
  go_wp2_with fail
  go_loopw [0, 1] (fun r i wr => ∃ m P : Nat, ∃ y : BitVec 32, ∃ c : Array Value, m ≤ 9223372036854775807 ∧ i = .int .i64 m ∧ r = .int .u32 (toI y) ∧ Hid (shiftZ (P * m) y = X) ∧ Hid (Arr c (fun i => shiftZ P (BitVec.twoPow 32 i))) ∧ Hid (Blk wr g 52 c) ∧ Hid (Below w.heap.size w wr)) (fun _ i _ => (intOf i).toNat)
  case atStart => exact ⟨n, 8, x, c, hn, rfl, rfl, HX.out.symm, A, HK2, B2⟩
  case round =>
    obtain ⟨m, P, y, c, hm, rfl, rfl, hX, hA, hb, hbel⟩ := hrel
    clear A HK2 B2 Z1 O1
    by_cases h : 0 < m
    · have Z := hid hA.out.1
      have BA := and1_i64 m (by omega)
      have hsq := shift_sq P
      by_cases ho : m % 2 = 1
      · have e1 : ((m : Int) % 2) = 1 := by omega
        rw [e1] at BA
        have hX2 : Hid (shiftZ ((P + P) * (m / 2)) (shiftZ P y) = X) := by
          show _ = _
          rw [← shiftZ_add, ← hX.out]
          congr 1
          have : m = 1 + (m / 2 + m / 2) := by omega
          conv => rhs; rw [this]
          rw [Nat.mul_add, Nat.mul_one, Nat.mul_add, Nat.add_mul]
        have L := hid (lin_shift P y)
        have HSQ := hid hsq
        clear hsq ho e1
        go_wp2_with (refine load_arr rfl _ 52 rfl 25 g 52 c rfl Tryd.underlying52 info32 hb.out Z.out ?_)
        refine (of_any c _ y _ hA).mono ?_
        rintro e W3 ⟨rfl, b3⟩
        have hb3 := hid (hb.out.later b3)
        have hbel3 := hid (hbel.out.trans (b3.mono hbel.out.size))
        clear b3
        rw [L.out]
        go_wp2_with (refine load_arr rfl _ 52 rfl 25 g 52 c rfl Tryd.underlying52 info32 hb3.out Z.out ?_)
        refine (squared_any c _ _ hA).mono ?_
        rintro e W4 ⟨c4, rfl, A4, b4⟩
        rw [HSQ.out] at A4
        have hb4 := hid (hb3.out.later b4)
        have hbel4 := hid (hbel3.out.trans (b4.mono hbel3.out.size))
        have Z4 := hid A4.out.1
        have O4 := hid (arr_one A4.out)
        clear b4
        go_wp2_with (refine store_arr rfl _ _ 52 rfl g 52 c c4 rfl rfl info32 hb4.out Z.out Z4.out O4.out ?_)
        intro W5 K5 G5
        have HK5 := hid K5
        have B5 : Hid (Below w.heap.size w W5) := hbel4.out.grown G5 hbel4.out.size (by intro a ha; simp at ha; omega)
        clear K5 G5 hb3 hb4 hbel3 hbel4 hb hbel
        go_wp2_with fail
        go_roundw
        case rel => exact ⟨m / 2, P + P, _, c4, by omega, by go_num, rfl, hX2, A4, HK5, B5⟩
        case measure => simp [intOf]; omega
      · have e1 : ((m : Int) % 2) = 0 := by omega
        rw [e1] at BA
        have hX2 : Hid (shiftZ ((P + P) * (m / 2)) y = X) := by
          show _ = _
          rw [← hX.out]
          congr 1
          have : m = m / 2 + m / 2 := by omega
          conv => rhs; rw [this]
          rw [Nat.mul_add, Nat.add_mul]
        have HSQ := hid hsq
        clear hsq ho e1
        go_wp2_with (refine load_arr rfl _ 52 rfl 25 g 52 c rfl Tryd.underlying52 info32 hb.out Z.out ?_)
        refine (squared_any c _ _ hA).mono ?_
        rintro e W4 ⟨c4, rfl, A4, b4⟩
        rw [HSQ.out] at A4
        have hb4 := hid (hb.out.later b4)
        have hbel4 := hid (hbel.out.trans (b4.mono hbel.out.size))
        have Z4 := hid A4.out.1
        have O4 := hid (arr_one A4.out)
        clear b4
        go_wp2_with (refine store_arr rfl _ _ 52 rfl g 52 c c4 rfl rfl info32 hb4.out Z.out Z4.out O4.out ?_)
        intro W5 K5 G5
        have HK5 := hid K5
        have B5 : Hid (Below w.heap.size w W5) := hbel4.out.grown G5 hbel4.out.size (by intro a ha; simp at ha; omega)
        clear K5 G5 hb4 hbel4 hb hbel
        go_wp2_with fail
        go_roundw
        case rel => exact ⟨m / 2, P + P, _, c4, by omega, by go_num, rfl, hX2, A4, HK5, B5⟩
        case measure => simp [intOf]; omega
    · have : m = 0 := by omega
      subst this
      have e : y = X := hX.out
      subst e
      go_wp2_with fail
      go_ret
      exact ⟨rfl, hbel.out⟩
end Go.Proofs.YtkgmdhldongloabDoor.Lm

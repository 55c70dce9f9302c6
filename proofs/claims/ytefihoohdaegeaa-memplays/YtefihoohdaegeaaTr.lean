/- The trail of a key: of each level the last node below it. -/
import Derived.Test.YtefihoohdaegeaaMm
import Derived.Laws.Rows
import Derived.Laws.Tables
import Derived.Laws.ResultCell
namespace Go.Proofs.Ytefihoohdaegeaa.Tr
open Go.ChangeShapes Go.WideShapes Go.ChangeAt Go.RowKit
open Go.Sort (grow)
open Go.Proofs.Ytefihoohdaegeaa.Ik
open Go.Proofs.Ytefihoohdaegeaa.Sg
open Go.Proofs.Ytefihoohdaegeaa.Cm (ik)
open Go.Proofs.Ytefihoohdaegeaa.Vl
open Go.Proofs.Ytefihoohdaegeaa.Mm
set_option linter.unusedVariables false
set_option linter.unusedSimpArgs false

/-- The links are those of the chains. -/
def Lk (ns : List N) (ord : List Nat) (tw : Nat → Nat → Nat) : Prop := ∀ lv, lv < 12 → Ch (fun n => tw n lv) 0 (chain ns ord lv)
/-- How many of a chain stand from a number on. -/
def rem (l : List Nat) (n : Nat) : Nat := (l.dropWhile fun x => decide (x ≠ n)).length
theorem rem_eq {p q : List Nat} (hn : (p ++ q).Nodup) (h0 : 0 ∉ p ++ q) : rem (p ++ q) (hz q) = q.length := by
  unfold rem
  have hp : ∀ x ∈ p, x ≠ hz q := by
    intro x hx e
    cases q with
    | nil => simp [hz] at e; subst e; exact h0 (by simpa using hx)
    | cons y q =>
      simp [hz] at e; subst e
      have := (List.nodup_append.1 hn).2.2 x hx x (by simp)
      exact this rfl
  have : ∀ (p : List Nat), (∀ x ∈ p, x ≠ hz q) → (p ++ q).dropWhile (fun x => decide (x ≠ hz q)) = q := by
    intro p
    induction p with
    | nil =>
      intro _
      cases q with
      | nil => rfl
      | cons y q => simp [hz]
    | cons a p ih =>
      intro h
      rw [List.cons_append, List.dropWhile_cons_of_pos (by simpa using h a (by simp))]
      exact ih fun x hx => h x (by simp [hx])
  rw [this p hp]
theorem head_next {f : Nat → Nat} {p q : List Nat} (h : Ch f 0 (p ++ q)) : f (p.getLastD 0) = hz q := by
  have := Ch.last h
  cases q with
  | nil => exact this
  | cons y q => exact this.1
def tow (f : Nat → Nat) : Array Value := #[.int .i32 (f 0 : Int), .int .i32 (f 1 : Int), .int .i32 (f 2 : Int), .int .i32 (f 3 : Int), .int .i32 (f 4 : Int), .int .i32 (f 5 : Int), .int .i32 (f 6 : Int), .int .i32 (f 7 : Int), .int .i32 (f 8 : Int), .int .i32 (f 9 : Int), .int .i32 (f 10 : Int), .int .i32 (f 11 : Int)]
theorem tow_get (f : Nat → Nat) (j : Nat) (h : j < 12) : (tow f)[j]? = some (.int .i32 (f j : Int)) := by
  match j, h with
  | 0, _ => rfl
  | 1, _ => rfl
  | 2, _ => rfl
  | 3, _ => rfl
  | 4, _ => rfl
  | 5, _ => rfl
  | 6, _ => rfl
  | 7, _ => rfl
  | 8, _ => rfl
  | 9, _ => rfl
  | 10, _ => rfl
  | 11, _ => rfl
theorem tow_ext {f g : Nat → Nat} (h : ∀ j, j < 12 → f j = g j) : tow f = tow g := by
  unfold tow
  rw [h 0 (by omega), h 1 (by omega), h 2 (by omega), h 3 (by omega), h 4 (by omega), h 5 (by omega), h 6 (by omega), h 7 (by omega), h 8 (by omega), h 9 (by omega), h 10 (by omega), h 11 (by omega)]
theorem tow_set (f : Nat → Nat) (i x : Nat) (h : i < 12) : (tow f).setIfInBounds i (.int .i32 (x : Int)) = tow (fun j => if j = i then x else f j) := by
  apply Array.ext_getElem?
  intro j
  rw [Array.getElem?_setIfInBounds]
  by_cases hj : j < 12
  · by_cases e : i = j
    · subst e
      rw [if_pos rfl, if_pos (show i < (tow f).size from h), tow_get _ i hj, if_pos rfl]
    · rw [if_neg e, tow_get _ j hj, tow_get _ j hj, if_neg (fun e' => e e'.symm)]
  · rw [if_neg (by omega), Array.getElem?_eq_none (by show (12 : Nat) ≤ j; omega), Array.getElem?_eq_none (by show (12 : Nat) ≤ j; omega)]
def Tw (w : World) (g : Nat) (f : Nat → Nat) : Prop := w.heap[g]? = some (.cells (tow f) 156)
def Bx (w : World) (g : Nat) (k : ByteArray) (s c : Int) : Prop := w.heap[g]? = some (.cells #[.string k, .int .u64 s, .int .i64 c] 48)
theorem blk_lt {w : World} {g : Nat} {o : Obj} (h : w.heap[g]? = some o) : g < w.heap.size := (Array.getElem?_eq_some_iff.1 h).1
theorem new_at (w : World) (o : Obj) : (w.alloc o).heap[w.heap.size]? = some o := by show (w.heap.push o)[w.heap.size]? = _; simp
theorem size_alloc (w : World) (o : Obj) : (w.alloc o).heap.size = w.heap.size + 1 := by show (w.heap.push o).size = _; simp
theorem Tw.later {w w' : World} {g : Nat} {f : Nat → Nat} (h : Tw w g f) (b : Below w.heap.size w w') : Tw w' g f := (b.block g (blk_lt h)).trans h
theorem Bx.later {w w' : World} {g : Nat} {k : ByteArray} {s c : Int} (h : Bx w g k s c) (b : Below w.heap.size w w') : Bx w' g k s c := (b.block g (blk_lt h)).trans h
theorem cell_of {w : World} {g : Nat} {c : Array Value} {t : TypeId} (h : w.heap[g]? = some (.cells c t)) (i : Nat) (v : Value) (hi : c[i]? = some v) : w.cell? ⟨g, i, none⟩ = some v := by
  unfold World.cell?; rw [h]; exact hi
theorem fz_of {w : World} {g : Nat} {c : Array Value} {t : TypeId} (h : w.heap[g]? = some (.cells c t)) (i : Nat) : w.frozen? ⟨g, i, none⟩ = false := by
  simp [World.frozen?, h]
theorem set_of {w : World} {g : Nat} {c : Array Value} {t : TypeId} (h : w.heap[g]? = some (.cells c t)) (i : Nat) (v : Value) : (w.setCell ⟨g, i, none⟩ v).heap[g]? = some (.cells (c.setIfInBounds i v) t) := by
  simp [World.setCell, Array.getElem?_modify, h]
theorem set_ne (w : World) (g k i : Nat) (v : Value) (h : k ≠ g) : (w.setCell ⟨g, i, none⟩ v).heap[k]? = w.heap[k]? := Below.heap_setCell w _ _ k (by simpa using h)
theorem Bx.c0 {w : World} {g : Nat} {k : ByteArray} {s c : Int} (h : Bx w g k s c) : w.cell? ⟨g, 0, none⟩ = some (.string k) := cell_of h 0 _ rfl
theorem Bx.c1 {w : World} {g : Nat} {k : ByteArray} {s c : Int} (h : Bx w g k s c) : w.cell? ⟨g, 1, none⟩ = some (.int .u64 s) := cell_of h 1 _ rfl
theorem Bx.c2 {w : World} {g : Nat} {k : ByteArray} {s c : Int} (h : Bx w g k s c) : w.cell? ⟨g, 2, none⟩ = some (.int .i64 c) := cell_of h 2 _ rfl

theorem boxes (k : ByteArray) (s c : Int) (w W0 : World) (hW0 : W0 = ((w.alloc (.cells #[.string k, .int .u64 s, .int .i64 c] 48)).alloc (.cells #[.int .i32 0, .int .i32 0, .int .i32 0, .int .i32 0, .int .i32 0, .int .i32 0, .int .i32 0, .int .i32 0, .int .i32 0, .int .i32 0, .int .i32 0, .int .i32 0] 156)).alloc (.cells #[.int .i32 0, .int .i32 0, .int .i32 0, .int .i32 0, .int .i32 0, .int .i32 0, .int .i32 0, .int .i32 0, .int .i32 0, .int .i32 0, .int .i32 0, .int .i32 0] 156)) :
    Below w.heap.size w W0 ∧ Bx W0 w.heap.size k s c ∧ Tw W0 (w.heap.size + 1) (fun _ => 0) ∧ Tw W0 (w.heap.size + 2) (fun _ => 0) := by
  generalize hT : (Obj.cells #[.int .i32 0, .int .i32 0, .int .i32 0, .int .i32 0, .int .i32 0, .int .i32 0, .int .i32 0, .int .i32 0, .int .i32 0, .int .i32 0, .int .i32 0, .int .i32 0] 156 : Obj) = oT at hW0
  have hT0 : (Obj.cells (tow fun _ => 0) 156 : Obj) = oT := hT
  obtain ⟨w1, e1⟩ : ∃ w1, w1 = w.alloc (.cells #[.string k, .int .u64 s, .int .i64 c] 48) := ⟨_, rfl⟩
  obtain ⟨w2, e2⟩ : ∃ w2, w2 = w1.alloc oT := ⟨_, rfl⟩
  rw [← e1, ← e2] at hW0
  have s1 : w1.heap.size = w.heap.size + 1 := by rw [e1]; exact size_alloc _ _
  have s2 : w2.heap.size = w.heap.size + 2 := by rw [e2, size_alloc, s1]
  have b1 : Below w.heap.size w w1 := by rw [e1]; exact box_below _ _
  have b2 : Below w1.heap.size w1 w2 := by rw [e2]; exact box_below _ _
  have b3 : Below w2.heap.size w2 W0 := by rw [hW0]; exact box_below _ _
  have k1 : Bx w1 w.heap.size k s c := by rw [e1]; exact new_at _ _
  have r2 : Tw w2 (w.heap.size + 1) (fun _ => 0) := by rw [← s1, e2]; unfold Tw; rw [hT0]; exact new_at _ _
  have t3 : Tw W0 (w.heap.size + 2) (fun _ => 0) := by rw [← s2, hW0]; unfold Tw; rw [hT0]; exact new_at _ _
  exact ⟨(b1.trans (b2.mono (by omega))).trans (b3.mono (by omega)), (k1.later b2).later b3, r2.later b3, t3⟩
theorem results_cell1 {fn : Func} {p : Tmp} {ty : TypeId} (h : fn.results = #[.cell p ty]) (tmps : Array Value) (P : Program) (w : World) :
    (results fn tmps).run P w = ((asAddr (tmps.getD p undef)).run P w).andThen fun a w₁ => (loadVar ty a).run P w₁ := by
  simp only [results, h]
  simp [Sem.run_bind, Result.andThen]
theorem info12 : (Try.prog.info? 156).map (·.size) = some 12 := by kernel_rfl
def Blk (W : World) (g : Nat) (t : TypeId) (c : Array Value) : Prop := W.heap[g]? = some (.cells c t (0, 0))
theorem load_run {W : World} {g t T e : Nat} {c : Array Value} (h : Blk W g t c) (hu : Try.prog.underlying T = some (.array 12 e)) (hi : (Try.prog.info? T).map (·.size) = some 12) (hc : c.size = 12) :
    (Instr.loadAt T (.pointer (some ⟨g, 0, none⟩))).run Try.prog W = .ok (.agg c) W := by
  simp only [Instr.loadAt, Instr.sureAddr, Sem.run_bind, Sem.run_pure, Result.andThen]
  exact run_loadVar_row W g t T c (0, 0) _ h hu rfl (by rw [hi, hc])
theorem store_run {W : World} {g t T : Nat} {c c' : Array Value} (h : Blk W g t c) (hi : (Try.prog.info? T).map (·.size) = some 12) (hc : c.size = 12) (hc' : c'.size = 12) (h1 : c'.all (·.oneCell') = true) :
    (Instr.storeAt T (.pointer (some ⟨g, 0, none⟩)) (.agg c')).run Try.prog W = .ok () (W.setRow g c') := by
  simp only [Instr.storeAt, Instr.sureAddr, Sem.run_bind, Sem.run_pure, Result.andThen]
  exact run_storeVar_row W g t T c c' h (by rw [hi, hc']) (by rw [hc, hc']) h1
/-- A whole array, loaded. -/
theorem load_arr {W : World} {ops : Array Oper} {rest : List Oper} {o : Oper} {a : Act} {Q : Exit → Act → World → Prop} (hg : o.guard = none) (p : Operand) (T : TypeId) (hop : o.op = Op.load T p)
    (e g t : Nat) (c : Array Value) (hp : a.eval p = .pointer (some ⟨g, 0, none⟩)) (hu : Try.prog.underlying T = some (.array 12 e)) (hi : (Try.prog.info? T).map (·.size) = some 12) (hb : Blk W g t c) (hc : c.size = 12)
    (h : wpList Try.prog ops Q rest (a.put o.dst (.agg c)) W) : wpList Try.prog ops Q (o :: rest) a W := by
  refine wpList_plain hg fun K hK => ?_
  have hrun := load_run hb hu hi hc
  unfold Oper.wp
  simp [execOp, hop, hp, hrun, Result.andThen]
  exact hK _ _ h
theorem grown_row (W : World) (g : Nat) (c' : Array Value) : W.grownBy (W.setRow g c') (some g) :=
  ⟨rfl, rfl, rfl, by simp [World.setRow], fun k hk hne => by
    have : ¬ g = k := fun e => hne (by rw [e])
    simp [World.setRow, Array.getElem?_modify, this]⟩
/-- A whole array, loaded, where the order is drawn. -/
theorem load_wp {W : World} {o : Oper} {a : Act} {K : Act → World → Prop} {Q : Exit → Act → World → Prop} (p : Operand) (T : TypeId) (hop : o.op = Op.load T p)
    (e g t : Nat) (c : Array Value) (hp : a.eval p = .pointer (some ⟨g, 0, none⟩)) (hu : Try.prog.underlying T = some (.array 12 e)) (hi : (Try.prog.info? T).map (·.size) = some 12) (hb : Blk W g t c) (hc : c.size = 12)
    (h : K (a.put o.dst (.agg c)) W) : o.wp Try.prog a W K Q := by
  have hrun := load_run hb hu hi hc
  unfold Oper.wp
  simp [execOp, hop, hp, hrun, Result.andThen]
  exact h
/-- A whole array, stored. -/
theorem store_arr {W : World} {ops : Array Oper} {rest : List Oper} {o : Oper} {a : Act} {Q : Exit → Act → World → Prop} (hg : o.guard = none) (p v : Operand) (T : TypeId) (hop : o.op = Op.store T p v)
    (g t : Nat) (c c' : Array Value) (hp : a.eval p = .pointer (some ⟨g, 0, none⟩)) (hv : a.eval v = .agg c') (hi : (Try.prog.info? T).map (·.size) = some 12) (hb : Blk W g t c) (hc : c.size = 12) (hc' : c'.size = 12) (h1 : c'.all (·.oneCell') = true)
    (h : ∀ W', Blk W' g t c' → W.grownBy W' (some g) → wpList Try.prog ops Q rest (a.put o.dst undef) W') : wpList Try.prog ops Q (o :: rest) a W := by
  refine wpList_plain hg fun K hK => ?_
  have hrun := store_run hb hi hc hc' h1
  unfold Oper.wp
  simp [execOp, hop, hp, hv, hrun, Result.andThen]
  exact hK _ _ (h _ (setRow_heap W g c c' t (0, 0) hb) (grown_row W g c'))

theorem tow_one (f : Nat → Nat) : (tow f).all (·.oneCell') = true := by simp [tow, Value.oneCell']
theorem Tw.put {W : World} {gt l a : Nat} {F : Nat → Nat} (h : Tw W gt (fun j => if j < l + 1 then 0 else F j)) (e : F l = a) (hl : l < 12) : Tw (W.setCell ⟨gt, l, none⟩ (.int .i32 (a : Int))) gt (fun j => if j < l then 0 else F j) := by
  unfold Tw at h ⊢
  rw [set_of h, tow_set _ _ _ hl]
  congr 2
  apply tow_ext
  intro j _
  by_cases e1 : j = l
  · subst e1; simp [e]
  · rw [if_neg e1]
    by_cases h1 : j < l
    · rw [if_pos h1, if_pos (by omega)]
    · rw [if_neg h1, if_neg (by omega)]
theorem Tw.apart {W : World} {g k i : Nat} {F : Nat → Nat} {v : Value} (h : Tw W k F) (hk : k ≠ g) : Tw (W.setCell ⟨g, i, none⟩ v) k F := (set_ne W g k i v hk).trans h
theorem Bx.apart {W : World} {g q i : Nat} {k : ByteArray} {s c : Int} {v : Value} (h : Bx W q k s c) (hk : q ≠ g) : Bx (W.setCell ⟨g, i, none⟩ v) q k s c := (set_ne W g q i v hk).trans h
theorem mem_split {ns : List N} {ord : List Nat} {l y : Nat} {p q : List Nat} (G : Gd ns ord) (e : chain ns ord l = p ++ y :: q) : y ≠ 0 ∧ y ≤ ns.length := by
  have hm : y ∈ chain ns ord l := by rw [e]; simp
  have := (G.mem y).1 (mem_chain.1 hm).1
  omega
theorem chain_nodup {ns : List N} {ord : List Nat} (G : Gd ns ord) (l : Nat) : (chain ns ord l).Nodup ∧ 0 ∉ chain ns ord l :=
  ⟨G.nodup.filter _, fun h => G.ne0 (mem_chain.1 h).1 rfl⟩
set_option maxHeartbeats 4000000 in
set_option maxRecDepth 100000 in
theorem trail_any (base g b cap most : Nat) (ns : List N) (ord : List Nat) (tw : Nat → Nat → Nat) (k : ByteArray) (s c : Int) (w : World) (H : Lst w base g b cap most ns tw) (G : Gd ns ord) (L : Lk ns ord tw) :
    Calls Try.prog 103 #[.pointer (some ⟨g, 0, none⟩), .agg #[.string k, .int .u64 s, .int .i64 c]] w fun e w' => e = .returned (.agg (tow (lastB ns ord (ik k s c)))) ∧ Below w.heap.size w w' := by
  obtain ⟨gk, hgk⟩ : ∃ gk, gk = w.heap.size := ⟨_, rfl⟩
  obtain ⟨W0, hW0⟩ : ∃ W0, W0 = ((w.alloc (.cells #[.string k, .int .u64 s, .int .i64 c] 48)).alloc (.cells #[.int .i32 0, .int .i32 0, .int .i32 0, .int .i32 0, .int .i32 0, .int .i32 0, .int .i32 0, .int .i32 0, .int .i32 0, .int .i32 0, .int .i32 0, .int .i32 0] 156)).alloc (.cells #[.int .i32 0, .int .i32 0, .int .i32 0, .int .i32 0, .int .i32 0, .int .i32 0, .int .i32 0, .int .i32 0, .int .i32 0, .int .i32 0, .int .i32 0, .int .i32 0] 156) := ⟨_, rfl⟩
  obtain ⟨B0, K0, R0, T0⟩ := boxes k s c w W0 hW0
  rw [← hgk] at K0 R0 T0
  have T0 : Tw W0 (gk + 1 + 1) (fun _ => 0) := T0
  have L0 := H.later B0
  have HH := hid (height_any g most (top ns) b _ cap W0 L0.hd H.m1)
  have ht := G.top12
  have HW0 := hid hW0
  have hgk2 := hid hgk
  replace B0 := hid B0
  replace K0 := hid K0
  replace R0 := hid R0
  replace T0 := hid T0
  replace L0 := hid L0
  replace G := hid G
  replace L := hid L
  have hm1 := H.m1
  have hln := H.ln
  have hm2 := H.m2
  have hz0 := B0.out.size
  have HTL : Hid (∀ i, i ≤ ns.length → ∀ j, tw i j ≤ ns.length) := H.tl
  have H0 := hid H
  clear hW0 hgk H
  go_enter Try.func103, Try.ntmps103
  go_wp2_with fail
  rw [← HW0.out, ← hgk2.out]
  refine HH.out.mono ?_
  rintro e w' ⟨rfl, rfl⟩
  clear HH HW0
  obtain ⟨t, hto⟩ : ∃ t, t = top ns := ⟨_, rfl⟩
  rw [← hto] at ht ⊢
  replace hto := hid hto
  go_wp2_with fail
  go_loopw [6, 7] (fun av lv wr => ∃ a m : Nat, av = .int .i64 (a : Int) ∧ lv = .int .i64 ((m : Int) - 1) ∧ m ≤ t ∧ a ≤ ns.length ∧ Hid (∀ l, l + 1 = m → ∃ p q, chain ns ord l = p ++ q ∧ p.getLastD 0 = a ∧ ∀ x ∈ p, below ns (ik k s c) x = true) ∧ Hid (Below w.heap.size w wr) ∧ Hid (Bx wr gk k s c) ∧ Hid (Tw wr (gk + 1) (fun _ => 0)) ∧ Hid (Tw wr (gk + 1 + 1) (fun j => if j < m then 0 else lastB ns ord (ik k s c) j)) ∧ Hid (Lst wr base g b cap most ns tw))
    (fun _ lv _ => (intOf lv + 1).toNat)
  case atStart =>
    refine ⟨0, t, rfl, by go_num, Nat.le_refl _, by omega, fun l _ => enter_top _ l, B0, K0, R0, ?_, L0⟩
    have : Tw w' (gk + 1 + 1) (fun j => if j < t then 0 else lastB ns ord (ik k s c) j) := by
      unfold Tw
      rw [tow_ext (g := fun _ => 0)]
      · exact T0.out
      · intro j hj
        by_cases h : j < t
        · simp [h]
        · simp only [h, if_false]
          exact G.out.lastB_over _ j (by rw [← hto.out]; omega)
    exact this
  case round =>
    obtain ⟨a, m, rfl, rfl, hm, ha, HE, HB, HK, HR, HT, HL⟩ := hrel
    cases m with
    | zero =>
      have HT2 : Hid (Blk wr (gk + 1 + 1) 156 (tow (lastB ns ord (ik k s c)))) := by
        have := HT.out
        simp only [Nat.not_lt_zero, if_false] at this
        exact this
      have HR2 : Hid (Blk wr (gk + 1) 156 (tow fun _ => 0)) := HR.out
      obtain ⟨F, hF⟩ : ∃ F, F = tow (lastB ns ord (ik k s c)) := ⟨_, rfl⟩
      obtain ⟨Z, hZ⟩ : ∃ Z, Z = tow (fun _ => 0) := ⟨_, rfl⟩
      have zF : Hid (F.size = 12) := by rw [hF]; exact rfl
      have zZ : Hid (Z.size = 12) := by rw [hZ]; exact rfl
      have oF : Hid (F.all (·.oneCell') = true) := by rw [hF]; exact tow_one _
      rw [← hF] at HT2
      rw [← hZ] at HR2
      replace hF := hid hF
      clear hZ
      clear HT R0 T0 HR
      go_wp2_with (first | (refine load_arr rfl _ 156 rfl 21 (gk + 1 + 1) 156 F rfl Try.underlying156 info12 HT2.out zF.out ?_) | (refine store_arr rfl _ _ 156 rfl (gk + 1) 156 Z F rfl rfl info12 HR2.out zZ.out zF.out oF.out ?_))
      intro W2 K2 G2
      have HK2 := hid K2
      have B2 : Hid (Below w.heap.size w W2) := HB.out.grown G2 HB.out.size (by intro j hj; simp at hj; have := hgk2.out; omega)
      clear K2 G2
      go_wp2_with fail
      have hld := run_loadVar_row W2 (gk + 1) 156 156 F (0, 0) _ HK2.out Try.underlying156 rfl (by rw [info12, zF.out])
      refine bodyPost_ret (v := .agg F) ?_ rfl ⟨by rw [hF.out], B2.out⟩
      rw [results_cell1 rfl]
      simp [asAddr, Result.andThen, hld]
    | succ l =>
      obtain ⟨p0, q0, e0, ea, hp0⟩ := HE.out l rfl
      have hl12 : l < 12 := by omega
      have HC := hid (L.out l hl12)
      have HN1 := hid (next_any base g b cap most ns tw a l wr HL.out ha hl12)
      have hn0 : tw a l = hz q0 := by
        have := HC.out
        rw [e0] at this
        rw [← ea]; exact head_next this
      rw [hn0] at HN1
      have e0 := hid e0
      have ea := hid ea
      have hp0 := hid hp0
      have hil : ((l + 1 : Nat) : Int) - 1 = (l : Int) := by omega
      rw [hil]
      clear hil hn0 HE
      go_wp2_with fail
      refine HN1.out.mono ?_
      rintro e w2 ⟨rfl, rfl⟩
      clear HN1
      go_wp2_with fail
      go_loopw [6, 8] (fun av nv wq => ∃ (a : Nat) (p q : List Nat), av = .int .i64 (a : Int) ∧ nv = .int .i64 ((hz q : Nat) : Int) ∧ a ≤ ns.length ∧ Hid (chain ns ord l = p ++ q) ∧ Hid (p.getLastD 0 = a) ∧ Hid (∀ x ∈ p, below ns (ik k s c) x = true) ∧ Hid (Below w.heap.size w wq) ∧ Hid (Bx wq gk k s c) ∧ Hid (Tw wq (gk + 1) (fun _ => 0)) ∧ Hid (Tw wq (gk + 1 + 1) (fun j => if j < l + 1 then 0 else lastB ns ord (ik k s c) j)) ∧ Hid (Lst wq base g b cap most ns tw))
        (fun _ nv _ => rem (chain ns ord l) (intOf nv).toNat)
      case atStart => exact ⟨a, p0, q0, rfl, rfl, ha, e0, ea, hp0, HB, HK, HR, HT, HL⟩
      case round =>
        obtain ⟨a1, p, q, rfl, rfl, ha1, e1, ea1, hp1, HB1, HK1, HR1, HT1, HL1⟩ := hrel
        have c2 := HL1.out.hd.c2
        have k0 := HK1.out.c0
        have k1 := HK1.out.c1
        have k2 := HK1.out.c2
        have d1 := fun d os => cell_regrown c2 d os
        have d2 := fun d os => cell_regrown k0 d os
        have d3 := fun d os => cell_regrown k1 d os
        have d4 := fun d os => cell_regrown k2 d os
        clear c2 k0 k1 k2
        cases q with
        | nil =>
          have ela : Hid (lastB ns ord (ik k s c) l = a1) := by
            show _ = _
            rw [leave G.out (ik k s c) l e1.out hp1.out (by simp), ea1.out]
          have hz0' : hz [] = 0 := rfl
          rw [hz0']
          go_wp2_with fail
          refine wp_region_quiet_below (by kernel_rfl) (by kernel_rfl) ?_
          repeat (first | go_big_quiet_step (fail) | quiet_step (fail))
          refine wpQuiet_nil ?_
          intro w3 hw3
          have b3 : Below wr.heap.size wr w3 := by
            obtain ⟨⟨dq, osq⟩, hw''⟩ := hw3
            rw [hw'']
            exact below_regrown _ dq osq
          have T3 := HT1.out.later b3
          have ct := cell_of T3 l _ (tow_get _ l hl12)
          have cf := fz_of T3 l
          have HB3 := hid (HB1.out.trans (b3.mono HB1.out.size))
          have HK3 := hid (HK1.out.later b3)
          have HR3 := hid (HR1.out.later b3)
          have HL3 := hid (HL1.out.later b3)
          have HT3 := hid T3
          clear d1 d2 d3 d4 hw3 b3 T3
          go_wp2_with fail
          have B4 : Below w.heap.size w (w3.setCell ⟨gk + 1 + 1, l, none⟩ (.int .i32 (a1 : Int))) := HB3.out.setCell (by rw [← hgk2.out]; show gk ≤ gk + 1 + 1; omega) _
          refine ⟨⟨a1, l, rfl, rfl, by omega, ha1, fun l' hl' => enter G.out (ik k s c) l' a1 (by rw [hl']; exact ela.out.symm), B4, HK3.out.apart (by omega), HR3.out.apart (by omega), HT3.out.put ela.out hl12, H0.out.later B4⟩, ?_⟩
          simp [intOf]
        | cons y q =>
          have hz0' : hz (y :: q) = y := rfl
          rw [hz0']
          obtain ⟨hy0, hyl⟩ := mem_split G.out e1.out
          have q0 := cell_regrown (HL1.out.rw.cell y 0 hyl (by omega))
          have q1 := cell_regrown (HL1.out.rw.cell y 1 hyl (by omega))
          have q2 := cell_regrown (HL1.out.rw.cell y 2 hyl (by omega))
          have HCm : Hid (∀ W, Calls Try.prog 104 #[.agg #[.string (nd ns y).k, .int .u64 (nd ns y).s, .int .i64 (nd ns y).c], .agg #[.string k, .int .u64 s, .int .i64 c]] W fun e w' => e = .returned (.int .i64 (cmp (key ns y) (ik k s c))) ∧ Below W.heap.size W w') := fun W => compare_below _ _ _ _ _ _ W
          simp only [cv, Nat.add_zero] at q0 q1 q2
          have i1 : (y : Int) < ((ns.length + 1 : Nat) : Int) := by omega
          have i0 : ((y : Int) != 0) = true := by simp; omega
          have hbl : below ns (ik k s c) y = decide (cmp (key ns y) (ik k s c) < 0) := rfl
          obtain ⟨C, hC⟩ : ∃ C, C = cmp (key ns y) (ik k s c) := ⟨_, rfl⟩
          rw [← hC] at hbl HCm
          generalize (nd ns y).k = yk at *
          generalize (nd ns y).s = ys at *
          generalize (nd ns y).c = yc at *
          clear hC
          have hrem : Hid (rem (chain ns ord l) y = q.length + 1 ∧ rem (chain ns ord l) (hz q) = q.length) := by
            obtain ⟨n1, n2⟩ := chain_nodup G.out l
            rw [e1.out] at n1 n2 ⊢
            refine ⟨rem_eq (q := y :: q) n1 n2, ?_⟩
            have := rem_eq (p := p ++ [y]) (q := q) (by simpa using n1) (by simpa using n2)
            simpa using this
          by_cases hlt : C < 0
          · have hby : Hid (below ns (ik k s c) y = true) := by show _ = _; rw [hbl]; simpa using hlt
            clear hbl
            go_wp2_with fail
            refine wp_region_quiet_below (by kernel_rfl) (by kernel_rfl) ?_
            repeat (first | go_big_quiet_step (first | (go_at_call 104; exact Calls.regrown_of (HCm.out _))) | quiet_step (first | (go_at_call 104; exact Calls.regrown_of (HCm.out _))))
            refine wpQuiet_nil ?_
            intro w3 hw3
            have b3 : Below wr.heap.size wr w3 := by
              obtain ⟨⟨dq, osq⟩, hw''⟩ := hw3
              rw [hw'']
              exact below_regrown _ dq osq
            have HB3 := hid (HB1.out.trans (b3.mono HB1.out.size))
            have HK3 := hid (HK1.out.later b3)
            have HR3 := hid (HR1.out.later b3)
            have HL3 := hid (HL1.out.later b3)
            have HT3 := hid (HT1.out.later b3)
            have HN3 := hid (next_any base g b cap most ns tw y l w3 HL3.out hyl hl12)
            have hnx : tw y l = hz q := by
              have := HC.out
              rw [e1.out, show p ++ y :: q = (p ++ [y]) ++ q by simp] at this
              have := head_next this
              simpa using this
            rw [hnx] at HN3
            clear d1 d2 d3 d4 hw3 b3 q0 q1 q2 hnx HCm
            go_wp2_with fail
            refine HN3.out.mono ?_
            rintro e w4 ⟨rfl, rfl⟩
            clear HN3
            go_wp2_with fail
            refine ⟨⟨y, p ++ [y], q, rfl, rfl, hyl, by simpa [Hid] using e1.out, by simp [Hid], ?_, HB3, HK3, HR3, HT3, HL3⟩, ?_⟩
            · intro x hx
              rcases List.mem_append.1 hx with h | h
              · exact hp1.out x h
              · rw [List.mem_singleton.1 h]; exact hby.out
            · simp only [intOf, Int.toNat_natCast]
              rw [hrem.out.1, hrem.out.2]; omega
          · have ela : Hid (lastB ns ord (ik k s c) l = a1) := by
              show _ = _
              rw [leave G.out (ik k s c) l e1.out hp1.out (by intro z hz'; simp at hz'; subst hz'; rw [hbl]; simpa using hlt), ea1.out]
            clear hbl
            go_wp2_with fail
            refine wp_region_quiet_below (by kernel_rfl) (by kernel_rfl) ?_
            repeat (first | go_big_quiet_step (first | (go_at_call 104; exact Calls.regrown_of (HCm.out _))) | quiet_step (first | (go_at_call 104; exact Calls.regrown_of (HCm.out _))))
            refine wpQuiet_nil ?_
            intro w3 hw3
            have b3 : Below wr.heap.size wr w3 := by
              obtain ⟨⟨dq, osq⟩, hw''⟩ := hw3
              rw [hw'']
              exact below_regrown _ dq osq
            have T3 := HT1.out.later b3
            have ct := cell_of T3 l _ (tow_get _ l hl12)
            have cf := fz_of T3 l
            have HB3 := hid (HB1.out.trans (b3.mono HB1.out.size))
            have HK3 := hid (HK1.out.later b3)
            have HR3 := hid (HR1.out.later b3)
            have HL3 := hid (HL1.out.later b3)
            have HT3 := hid T3
            clear d1 d2 d3 d4 hw3 b3 T3 q0 q1 q2 HCm
            go_wp2_with fail
            have B4 : Below w.heap.size w (w3.setCell ⟨gk + 1 + 1, l, none⟩ (.int .i32 (a1 : Int))) := HB3.out.setCell (by rw [← hgk2.out]; show gk ≤ gk + 1 + 1; omega) _
            refine ⟨⟨a1, l, rfl, rfl, by omega, ha1, fun l' hl' => enter G.out (ik k s c) l' a1 (by rw [hl']; exact ela.out.symm), B4, HK3.out.apart (by omega), HR3.out.apart (by omega), HT3.out.put ela.out hl12, H0.out.later B4⟩, ?_⟩
            simp [intOf]
end Go.Proofs.Ytefihoohdaegeaa.Tr

/- Rows of numbers of the call's own: what is put behind them, written over, held against one another; Links and Trail. -/
import Derived.Test.YthnmoidfdojoiaaIn
namespace Go.Proofs.Ythnmoidfdojoiaa.Oi
open Go.ChangeShapes Go.WideShapes Go.ChangeAt Go.RowKit
open Go.Sort (grow)
open Go.Proofs.Ythnmoidfdojoiaa.Ik
open Go.Proofs.Ythnmoidfdojoiaa.Sg
open Go.Proofs.Ythnmoidfdojoiaa.Cm (ik)
open Go.Proofs.Ythnmoidfdojoiaa.Vl
open Go.Proofs.Ythnmoidfdojoiaa.Mm
open Go.Proofs.Ythnmoidfdojoiaa.Tr
open Go.Proofs.Ythnmoidfdojoiaa.Li
open Go.Proofs.Ythnmoidfdojoiaa.In
set_option linter.unusedVariables false
set_option linter.unusedSimpArgs false

def OwnZ (w : World) (base : Nat) (v : Value) (xs : List Int) : Prop := w.ownsRow base 3 1 v xs.length (xs.map fun x => Value.int .i64 x)
def zi (l : List Nat) : List Int := l.map fun (n : Nat) => (n : Int)
theorem zi_append (l m : List Nat) : zi (l ++ m) = zi l ++ zi m := by simp [zi]
theorem zi_len (l : List Nat) : (zi l).length = l.length := by simp [zi]
theorem infoI : (Try.prog.info? 3).map (fun i => (i.zero, i.size, i.bytes)) = some (some (.int .i64 0), 1, 8) := by kernel_rfl
theorem grown_of {w w' : World} {row : Option Nat} (b : Below w.heap.size w w') : w.grownBy w' row := ⟨b.os, b.tape, b.output, b.size, fun k hk _ => b.block k hk⟩
theorem row_shape {w : World} {base e size : Nat} {v : Value} {n : Nat} {xs : List Value} (h : w.ownsRow base e size v n xs) : ∃ a c, v = .slice a n c ∧ (a = none ∨ ∃ g, a = some ⟨g, 0, none⟩) := by
  rcases h.2 with ⟨e, h0⟩ | ⟨g, c, cur, e, _⟩
  · rw [h0]; exact ⟨none, 0, e, .inl rfl⟩
  · exact ⟨_, c, e, .inr ⟨g, rfl⟩⟩
theorem row_later {w w' : World} {base e size : Nat} {v : Value} {n : Nat} {xs : List Value} (h : w.ownsRow base e size v n xs) (b : Below w.heap.size w w') : w'.ownsRow base e size v n xs := by
  by_cases hv : v.ownBlock = none
  · exact World.ownsRow.kept (row := none) h (grown_of b) (.inl hv)
  · exact World.ownsRow.kept (row := none) h (grown_of b) (.inr hv)
/-- Rows of unlike kinds lie in unlike blocks. -/
theorem row_blk {w : World} {base e size : Nat} {v : Value} {n : Nat} {xs : List Value} (h : w.ownsRow base e size v n xs) : ∀ g, v.ownBlock = some g → ∃ c f, w.heap[g]? = some (.cells c e f) := by
  intro g hg
  rcases h.2 with ⟨e, _⟩ | ⟨g', cap, cur, e, _, hgg, _⟩
  · rw [e] at hg
    simp [Value.ownBlock] at hg
  · rw [e] at hg
    simp [Value.ownBlock] at hg
    subst hg
    exact ⟨_, _, hgg⟩
theorem row_kept {w w' : World} {base e size : Nat} {v : Value} {n : Nat} {xs : List Value} {row : Option Nat} (h : w.ownsRow base e size v n xs) (g : w.grownBy w' row) (hne : ∀ k, row = some k → ∃ c t f, w.heap[k]? = some (.cells c t f) ∧ t ≠ e) : w'.ownsRow base e size v n xs := by
  by_cases hv : v.ownBlock = none
  · exact World.ownsRow.kept h g (.inl hv)
  · refine World.ownsRow.kept h g (.inr ?_)
    intro hr
    cases hb : v.ownBlock with
    | none => exact hv hb
    | some k =>
      obtain ⟨c, t, f, h1, h2⟩ := hne k (by rw [← hr, hb])
      obtain ⟨c', f', h3⟩ := row_blk h k hb
      rw [h3] at h1
      simp at h1
      exact h2 h1.2.1.symm
theorem row_other {w : World} {base e size : Nat} {v : Value} {n : Nat} {xs : List Value} (h : w.ownsRow base e size v n xs) (e2 : Nat) (hne : e ≠ e2) : ∀ k, v.ownBlock = some k → ∃ c t f, w.heap[k]? = some (.cells c t f) ∧ t ≠ e2 := by
  intro k hk
  obtain ⟨c, f, h1⟩ := row_blk h k hk
  exact ⟨c, e, f, h1, hne⟩
theorem cell_new1 (w : World) (v : Value) (t : TypeId) : (w.alloc (.cells #[v] t)).cell? ⟨w.heap.size, 0, none⟩ = some v := by
  unfold World.cell?
  rw [new_at]
  rfl
theorem OwnZ.nil (w : World) (base : Nat) : OwnZ w base (.slice none 0 0) [] := World.ownsRow_nil _ _ _ _
theorem OwnZ.later {w w' : World} {base : Nat} {v : Value} {xs : List Int} (h : OwnZ w base v xs) (b : Below w.heap.size w w') : OwnZ w' base v xs := row_later h b
theorem OwnZ.kept {w w' : World} {base : Nat} {v : Value} {xs : List Int} {row : Option Nat} (h : OwnZ w base v xs) (k : w.grownBy w' row) (hne : v.ownBlock = none ∨ row ≠ v.ownBlock) : OwnZ w' base v xs := by
  rcases hne with hn | hn
  · exact World.ownsRow.kept (row := row) h k (.inl hn)
  · exact World.ownsRow.kept h k (.inr hn.symm)
/-- One number put behind a row of them. -/
theorem app_int (w : World) (base : Nat) (v : Value) (xs : List Int) (x : Int) (H : OwnZ w base v xs) (hn : (xs.length + 1) * 8 ≤ 140737488355328) (hbase : base ≤ w.heap.size) :
    ∃ v' w', (Builtin.append_ #[28, 28] 28 #[v, .slice (some ⟨w.heap.size, 0, none⟩) 1 1]).run Try.prog (w.alloc (.cells #[.int .i64 x] 3)) = .ok v' w' ∧ OwnZ w' base v' (xs ++ [x]) ∧ w.grownBy w' v.ownBlock := by
  obtain ⟨i0, hi, hz0, hz1, hz2⟩ := info_parts infoI
  have H2 := row_later H (box_below w (.cells #[.int .i64 x] 3))
  obtain ⟨v5, W5, r5, o5, g5, _⟩ := run_append_own (P := Try.prog) (w.alloc (.cells #[.int .i64 x] 3)) base 28 28 3 i0 (.int .i64 0) 1 8 Try.underlying28 hi hz0 hz1 hz2 rfl (by decide) v xs.length _ H2 ⟨w.heap.size, 0, none⟩ 1 1 [.int .i64 x] rfl (by
    intro j u hu
    match j, hu with
    | 0, hu => simp at hu; subst hu; exact cell_new1 w _ _) (by intro u hu; simp at hu; subst hu; rfl) (by unfold maxLen; omega) (by omega) (by rw [size_alloc]; omega)
  refine ⟨v5, W5, r5, ?_, ?_⟩
  · unfold OwnZ
    rw [List.length_append, List.map_append]
    exact o5
  · have b1 := box_below w (.cells #[.int .i64 x] 3)
    exact ⟨g5.os.trans b1.os, g5.tape.trans b1.tape, g5.output.trans b1.output, Nat.le_trans b1.size g5.size, fun k hk hne => (g5.block k (Nat.lt_of_lt_of_le hk b1.size) hne).trans (b1.block k hk)⟩
theorem wpList_append_run {P : Program} {w w' : World} {ops : Array Oper} {rest : List Oper} {o : Oper} {a : Act} {Q : Exit → Act → World → Prop} (hg : o.guard = none) (s x : Operand) (t tx : TypeId) (hop : o.op = Op.call { callee := Callee.builtin Builtin.append, args := #[s, x], argTypes := #[t, tx] })
    (u v v' : Value) (hs : a.eval s = u) (hx : a.eval x = v) (hrun : (Builtin.append_ #[t, tx] o.type #[u, v]).run P w = .ok v' w') (hK : wpList P ops Q rest (a.put o.dst v') w') : wpList P ops Q (o :: rest) a w := by
  refine wpList_plain hg fun K' hK' => ?_
  unfold Oper.wp
  simp [execOp, hop, resolve, invoke, builtin, hs, hx, hrun, Result.andThen]
  exact hK' _ _ hK
theorem OwnZ.cell {w : World} {base g c n : Nat} {xs : List Int} (h : OwnZ w base (.slice (some ⟨g, 0, none⟩) n c) xs) (i : Nat) (hi : i < xs.length) : w.cell? ⟨g, i, none⟩ = some (.int .i64 (xs.getD i 0)) := by
  obtain ⟨a, c', he, _⟩ := row_shape h
  simp only [Value.slice.injEq] at he
  obtain ⟨_, rfl, _⟩ := he
  rw [World.ownsRow.cellAt h i (by omega), List.getElem?_map, List.getD_eq_getElem?_getD, List.getElem?_eq_getElem hi]
  rfl
theorem OwnZ.set {w : World} {base g n c : Nat} {xs : List Int} (h : OwnZ w base (.slice (some ⟨g, 0, none⟩) n c) xs) (i : Nat) (hi : i < xs.length) (v : Int) :
    OwnZ (w.setCell ⟨g, i, none⟩ (.int .i64 v)) base (.slice (some ⟨g, 0, none⟩) n c) (xs.set i v) ∧ w.frozen? ⟨g, i, none⟩ = false := by
  rcases h.2 with ⟨e, _⟩ | ⟨g', cap, cur, e, hb, hg, hn, hm, hs, ht⟩
  · simp at e
  · simp only [Value.slice.injEq, Option.some.injEq, Addr.mk.injEq, and_true, true_and] at e
    obtain ⟨rfl, rfl, rfl⟩ := e
    refine ⟨⟨by simp, .inr ⟨g, c, cur.setIfInBounds i (.int .i64 v), by simp, hb, by simp [World.setCell, Array.getElem?_modify, hg], by simpa using hn, hm, by simpa using hs, ?_⟩⟩, by simp [World.frozen?, hg]⟩
    rw [Array.toList_setIfInBounds, List.length_set, List.map_set, ← ht, List.take_set]
theorem OwnZ.shape {w : World} {base : Nat} {v : Value} {xs : List Int} (h : OwnZ w base v xs) : ∃ a c, v = .slice a xs.length c ∧ (a = none ∨ ∃ g, a = some ⟨g, 0, none⟩) := row_shape h
set_option maxHeartbeats 1000000 in
/-- Two rows of the same numbers. -/
theorem ints_eq (v u : Value) (base base' : Nat) (xs : List Int) (w : World) (A : OwnZ w base v xs) (B : OwnZ w base' u xs) (hl : xs.length ≤ 1000000000) :
    Calls Try.prog 35 #[v, u] w fun e w' => e = .returned (.bool true) ∧ Below w.heap.size w w' := by
  obtain ⟨a, c, rfl, ha⟩ := A.shape
  obtain ⟨a', c', rfl, ha'⟩ := B.shape
  have hA := hid A
  have hB := hid B
  clear A B
  go_enter Try.func35, Try.ntmps35
  go_wp2_with fail
  go_loopw [5] (fun i wr => ∃ k : Nat, i = .int .i64 (k : Int) ∧ k ≤ xs.length ∧ Hid (Below w.heap.size w wr)) (fun i _ => xs.length - (intOf i).toNat)
  case atStart => exact ⟨0, rfl, Nat.zero_le _, Below.refl _ _⟩
  case round =>
    obtain ⟨k, rfl, hk, HB⟩ := hrel
    by_cases hlt : k < xs.length
    · obtain ⟨g, rfl⟩ : ∃ g, a = some ⟨g, 0, none⟩ := by
        rcases ha with rfl | h
        · rcases hA.out.2 with ⟨_, h0⟩ | ⟨_, _, _, e, _⟩
          · omega
          · simp at e
        · exact h
      obtain ⟨g', rfl⟩ : ∃ g, a' = some ⟨g, 0, none⟩ := by
        rcases ha' with rfl | h
        · rcases hB.out.2 with ⟨_, h0⟩ | ⟨_, _, _, e, _⟩
          · omega
          · simp at e
        · exact h
      have c1 := (hA.out.later HB.out).cell k hlt
      have c2 := (hB.out.later HB.out).cell k hlt
      generalize xs.getD k 0 = y at *
      have hyy : (y != y) = false := bne_self_eq_false _
      have i1 : (k : Int) < (xs.length : Int) := by omega
      go_wp2_with fail
      go_quiet (fail)
      go_wp2_with fail
      refine ⟨⟨k + 1, by simp, by omega, HB.out.trans ((drewN_below wr _).mono HB.out.size)⟩, ?_⟩
      simp only [intOf]; omega
    · have i1 : ¬ (k : Int) < (xs.length : Int) := by omega
      go_wp2_with fail
      go_ret
      exact ⟨rfl, HB.out⟩

/-! ### Links -/
def lnk (ns : List N) (ord : List Nat) (lv : Int) : List Nat := if lv < 0 then [] else chain ns ord lv.toNat
set_option maxHeartbeats 2000000 in
set_option maxRecDepth 100000 in
theorem links_no (base g b most : Nat) (ns : List N) (ord : List Nat) (lv : Int) (w : World) (H : SL w base g b most ns ord) (h : lv < 0 ∨ (top ns : Int) ≤ lv) :
    Calls Try.prog 31 #[.pointer (some ⟨g, 0, none⟩), .int .i64 lv] w fun e w' => e = .returned (.slice none 0 0) ∧ w' = w := by
  obtain ⟨cap, tw, HL, G, L⟩ := H
  have HH := hid (height_any g most (top ns) b _ cap w HL.hd HL.m1)
  by_cases h1 : lv < 0
  · clear h
    go_enter Try.func31, Try.ntmps31
    go_wp2_with fail
    go_ret
    exact ⟨rfl, rfl⟩
  · have h2 : (top ns : Int) ≤ lv := by omega
    clear h
    go_enter Try.func31, Try.ntmps31
    go_wp2_with fail
    refine HH.out.mono ?_
    rintro e w' ⟨rfl, rfl⟩
    go_wp2_with fail
    go_ret
    exact ⟨rfl, rfl⟩
set_option maxHeartbeats 4000000 in
set_option maxRecDepth 100000 in
theorem links_in (base g b most : Nat) (ns : List N) (ord : List Nat) (l : Nat) (w : World) (H : SL w base g b most ns ord) (h : l < top ns) :
    Calls Try.prog 31 #[.pointer (some ⟨g, 0, none⟩), .int .i64 (l : Int)] w fun e w' => ∃ v, e = .returned v ∧ OwnZ w' w.heap.size v (zi (chain ns ord l)) ∧ Below w.heap.size w w' := by
  obtain ⟨cap, tw, HL, G, L⟩ := H
  have HH := hid (height_any g most (top ns) b _ cap w HL.hd HL.m1)
  have ht := G.top12
  have hl12 : l < 12 := by omega
  have HC := hid (L l hl12)
  have HN := next_any base g b cap most ns tw 0 l w HL (by omega) hl12
  have hn0 : tw 0 l = hz (chain ns ord l) := head_next (p := []) HC.out
  rw [hn0] at HN
  have HN := hid HN
  have hcl : (chain ns ord l).length ≤ 1048576 := by
    have h1 : (chain ns ord l).length ≤ ord.length := List.length_filter_le _ _
    have := G.len
    have := HL.ln
    have := HL.m2
    omega
  have G := hid G
  have HL := hid HL
  obtain ⟨t, hto⟩ : ∃ t, t = top ns := ⟨_, rfl⟩
  rw [← hto] at HH h ht
  have i1 : ¬ (t : Int) ≤ (l : Int) := by omega
  have i2 : ¬ (l : Int) < 0 := by omega
  replace hto := hid hto
  go_enter Try.func31, Try.ntmps31
  go_wp2_with fail
  refine HH.out.mono ?_
  rintro e w' ⟨rfl, rfl⟩
  clear HH
  go_wp2_with fail
  refine HN.out.mono ?_
  rintro e w' ⟨rfl, rfl⟩
  clear HN
  go_wp2_with fail
  go_loopw [5, 6] (fun v nv wr => ∃ p q : List Nat, nv = .int .i64 ((hz q : Nat) : Int) ∧ Hid (chain ns ord l = p ++ q) ∧ Hid (OwnZ wr w'.heap.size v (zi p)) ∧ Hid (Below w'.heap.size w' wr)) (fun _ nv _ => rem (chain ns ord l) (intOf nv).toNat)
  case atStart => exact ⟨[], _, rfl, rfl, OwnZ.nil _ _, Below.refl _ _⟩
  case round =>
    obtain ⟨p, q, rfl, e1, HO, HB⟩ := hrel
    cases q with
    | nil =>
      have e2 : Hid (chain ns ord l = p) := by show _ = _; rw [e1.out]; simp
      rw [show hz [] = 0 from rfl]
      go_wp2_with fail
      go_ret
      exact ⟨_, rfl, by rw [e2.out]; exact HO.out, HB.out⟩
    | cons y q =>
      rw [show hz (y :: q) = y from rfl]
      obtain ⟨hy0, hyl⟩ := mem_split G.out e1.out
      have i0 : ((y : Int) != 0) = true := by simp; omega
      have hrem : Hid (rem (chain ns ord l) y = q.length + 1 ∧ rem (chain ns ord l) (hz q) = q.length) := by
        obtain ⟨n1, n2⟩ := chain_nodup G.out l
        rw [e1.out] at n1 n2 ⊢
        refine ⟨rem_eq (q := y :: q) n1 n2, ?_⟩
        have := rem_eq (p := p ++ [y]) (q := q) (by simpa using n1) (by simpa using n2)
        simpa using this
      have hpl : p.length < 1048576 := by rw [e1.out] at hcl; simp at hcl; omega
      obtain ⟨v5, W5, r5, O5, g5⟩ := app_int wr w'.heap.size u5 (zi p) (y : Int) HO.out (by rw [zi_len]; omega) HB.out.size
      have B5 : Below w'.heap.size w' W5 := HB.out.grown g5 HB.out.size (fun k hk => (World.ownsRow.lt HO.out k hk).1)
      have L5 := HL.out.later B5
      have HN := next_any base g b cap most ns tw y l W5 L5 hyl hl12
      have hnx : tw y l = hz q := by
        have := HC.out
        rw [e1.out, show p ++ y :: q = (p ++ [y]) ++ q by simp] at this
        have := head_next this
        simpa using this
      rw [hnx] at HN
      have HN := hid HN
      have r5 := hid r5
      have O6 : Hid (OwnZ W5 w'.heap.size v5 (zi (p ++ [y]))) := by rw [zi_append]; exact O5
      have B5 := hid B5
      have e2 : Hid (chain ns ord l = (p ++ [y]) ++ q) := by show _ = _; rw [e1.out]; simp
      clear hnx O5 g5 L5
      go_wp2_with (at_builtin; refine wpList_append_run rfl _ _ _ _ rfl _ _ _ rfl rfl r5.out ?_)
      refine HN.out.mono ?_
      rintro e w2 ⟨rfl, rfl⟩
      go_wp2_with fail
      refine ⟨⟨p ++ [y], q, rfl, e2, O6, B5⟩, ?_⟩
      simp only [intOf, Int.toNat_natCast]
      rw [hrem.out.1, hrem.out.2]; omega
theorem links_any (base g b most : Nat) (ns : List N) (ord : List Nat) (lv : Int) (w : World) (H : SL w base g b most ns ord) :
    Calls Try.prog 31 #[.pointer (some ⟨g, 0, none⟩), .int .i64 lv] w fun e w' => ∃ v, e = .returned v ∧ OwnZ w' w.heap.size v (zi (lnk ns ord lv)) ∧ Below w.heap.size w w' := by
  by_cases h : lv < 0 ∨ (top ns : Int) ≤ lv
  · refine (links_no base g b most ns ord lv w H h).mono ?_
    rintro e w' ⟨rfl, rfl⟩
    refine ⟨_, rfl, ?_, Below.refl _ _⟩
    have : lnk ns ord lv = [] := by
      unfold lnk
      split
      · rfl
      · obtain ⟨_, _, _, G, _⟩ := H
        exact G.over _ (by omega)
    rw [this]
    exact OwnZ.nil _ _
  · obtain ⟨l, rfl⟩ : ∃ l : Nat, lv = l := ⟨lv.toNat, by omega⟩
    refine (links_in base g b most ns ord l w H (by omega)).mono ?_
    rintro e w' ⟨v, rfl, h1, h2⟩
    refine ⟨v, rfl, ?_, h2⟩
    have : lnk ns ord (l : Int) = chain ns ord l := by unfold lnk; rw [if_neg (by omega)]; simp
    rw [this]; exact h1
end Go.Proofs.Ythnmoidfdojoiaa.Oi

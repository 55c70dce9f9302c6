/- Queues of memtables: NewQueue, Active, Freeze. -/
import Derived.Test.YtefihoohdaegeaaGu
namespace Go.Proofs.Ytefihoohdaegeaa.Qu
open Go.ChangeShapes Go.WideShapes Go.ChangeAt Go.RowKit Go.Shelf
open Go.Sort (grow)
open Go.Proofs.Ytefihoohdaegeaa.Lx (hid)
open Go.Proofs.Ytefihoohdaegeaa.Fm
open Go.Proofs.Ytefihoohdaegeaa.Tb
open Go.Proofs.Ytefihoohdaegeaa.Mm (box_below)
open Go.Proofs.Ytefihoohdaegeaa.Li (wp_append_run)
open Go.Proofs.Ytefihoohdaegeaa.Ae (blk_ne own_blk)
open Go.Proofs.Ytefihoohdaegeaa.Tr (new_at cell_of size_alloc blk_lt set_of fz_of set_ne)
set_option linter.unusedVariables false
set_option linter.unusedSimpArgs false

/-- A queue's block: the active one, the frozen ones. -/
def Qb (w : World) (gq g : Nat) (v : Value) : Prop := w.heap[gq]? = some (.cells #[.pointer (some ⟨g, 0, none⟩), v] 91)
theorem Qb.c0 {w : World} {gq g : Nat} {v : Value} (h : Qb w gq g v) : w.cell? ⟨gq, 0, none⟩ = some (.pointer (some ⟨g, 0, none⟩)) := cell_of h 0 _ rfl
theorem Qb.c1 {w : World} {gq g : Nat} {v : Value} (h : Qb w gq g v) : w.cell? ⟨gq, 1, none⟩ = some v := cell_of h 1 _ rfl
theorem Qb.lt {w : World} {gq g : Nat} {v : Value} (h : Qb w gq g v) : gq < w.heap.size := blk_lt h
theorem Qb.fz {w : World} {gq g : Nat} {v : Value} (h : Qb w gq g v) (i : Nat) : w.frozen? ⟨gq, i, none⟩ = false := fz_of h i
theorem Qb.later {w w' : World} {gq g : Nat} {v : Value} (h : Qb w gq g v) (b : Below w.heap.size w w') : Qb w' gq g v := (b.block gq h.lt).trans h
theorem Qb.set0 {w : World} {gq g : Nat} {v : Value} (h : Qb w gq g v) (g' : Nat) : Qb (w.setCell ⟨gq, 0, none⟩ (.pointer (some ⟨g', 0, none⟩))) gq g' v := by
  unfold Qb at h ⊢
  rw [set_of h]
  rfl
theorem Qb.set1 {w : World} {gq g : Nat} {v : Value} (h : Qb w gq g v) (u : Value) : Qb (w.setCell ⟨gq, 1, none⟩ u) gq g u := by
  unfold Qb at h ⊢
  rw [set_of h]
  rfl
/-- A row of memtables of the queue's own. -/
def pv (l : List Nat) : List Value := l.map fun g => .pointer (some ⟨g, 0, none⟩)
def OwnP (w : World) (base : Nat) (v : Value) (l : List Nat) : Prop := w.ownsRow base 23 1 v l.length (pv l)
theorem OwnP.nil (w : World) (base : Nat) : OwnP w base (.slice none 0 0) [] := World.ownsRow_nil _ _ _ _
theorem OwnP.later {w w' : World} {base : Nat} {v : Value} {l : List Nat} (h : OwnP w base v l) (b : Below w.heap.size w w') : OwnP w' base v l := own_blocks h (fun j hj => b.block j (own_lt h j hj).2)
theorem infoP : (Try.prog.info? 23).map (fun i => (i.zero, i.size, i.bytes)) = some (some (.pointer none), 1, 8) := by kernel_rfl
theorem app_ptr (w : World) (base : Nat) (v : Value) (l : List Nat) (g : Nat) (H : OwnP w base v l) (hn : (l.length + 1) * 8 ≤ 140737488355328) (hbase : base ≤ w.heap.size) :
    ∃ v' w', (Builtin.append_ #[69, 69] 69 #[v, .slice (some ⟨w.heap.size, 0, none⟩) 1 1]).run Try.prog (w.alloc (.cells #[.pointer (some ⟨g, 0, none⟩)] 23)) = .ok v' w' ∧ OwnP w' base v' (l ++ [g]) ∧ w.grownBy w' v.ownBlock ∧ (∀ j, v'.ownBlock = some j → v.ownBlock = some j ∨ w.heap.size ≤ j) := by
  obtain ⟨i0, hi, hz0, hz1, hz2⟩ := info_parts infoP
  have b1 := box_below w (.cells #[.pointer (some ⟨g, 0, none⟩)] 23)
  have H2 := OwnP.later H b1
  have n4 := new_at w (.cells #[.pointer (some ⟨g, 0, none⟩)] 23)
  obtain ⟨v5, W5, r5, o5, g5, _, q5⟩ := run_append_own_at (P := Try.prog) (w.alloc (.cells #[.pointer (some ⟨g, 0, none⟩)] 23)) base 69 69 23 i0 _ 1 8 Try.underlying69 hi hz0 hz1 hz2 rfl (by decide) v l.length _ H2 ⟨w.heap.size, 0, none⟩ 1 1 [.pointer (some ⟨g, 0, none⟩)] rfl (by
    intro q u hq
    rw [Tm.addr_add, Nat.zero_add]
    exact cell_of n4 q u (by simpa using hq)) (by intro u hu; simp at hu; rw [hu]; rfl) (by unfold maxLen; omega) (by omega) (by rw [size_alloc]; omega)
  refine ⟨v5, W5, r5, ?_, ?_, ?_⟩
  · unfold OwnP
    rw [List.length_append, show pv (l ++ [g]) = pv l ++ [.pointer (some ⟨g, 0, none⟩)] by simp [pv]]
    exact o5
  · exact ⟨g5.os.trans b1.os, g5.tape.trans b1.tape, g5.output.trans b1.output, Nat.le_trans b1.size g5.size, fun k hk hne => (g5.block k (Nat.lt_of_lt_of_le hk b1.size) hne).trans (b1.block k hk)⟩
  · intro j hj
    rcases q5 with h | h
    · exact .inl (h ▸ hj)
    · rw [h] at hj
      have := Option.some.inj hj
      rw [size_alloc] at this
      exact .inr (by omega)
theorem qisnone_any (gq g gl gs bm : Nat) (v : Value) (S : St) (w : World) (Q : Qb w gq g v) (H : Tc w g (S.cells gl gs bm)) : Calls Try.prog 61 #[.pointer (some ⟨gq, 0, none⟩)] w fun e w' => e = .returned (.bool false) ∧ w' = w := by
  have HN := hid (isnone_any g gl gs bm S w H)
  have c0 := Q.c0
  clear H Q
  go_enter Try.func61, Try.ntmps61
  go_wp2_with fail
  refine HN.out.mono ?_
  rintro e w1 ⟨rfl, rfl⟩
  go_wp2_with fail
  go_ret
  exact ⟨rfl, rfl⟩
theorem newqueue_any (log : Int) (w : World) : Calls Try.prog 20 #[.int .i64 log] w fun e w' => ∃ gq g P, e = .returned (.pointer (some ⟨gq, 0, none⟩)) ∧ Qb w' gq g (.slice none 0 0) ∧ Tb.Tb w' w.heap.size g P (St.new log) ∧ ¬ P gq ∧ w.heap.size ≤ gq ∧ Below w.heap.size w w' := by
  have HN := hid (new_any log w)
  go_enter Try.func20, Try.ntmps20
  go_wp2_with fail
  refine HN.out.mono ?_
  rintro e w1 ⟨g, P, rfl, T1, b1⟩
  have b2 := box_below w1 (.cells #[.pointer (some ⟨g, 0, none⟩), .slice none 0 0] 91)
  have FIN : Hid (Qb (w1.alloc (.cells #[.pointer (some ⟨g, 0, none⟩), .slice none 0 0] 91)) w1.heap.size g (.slice none 0 0) ∧ Tb.Tb (w1.alloc (.cells #[.pointer (some ⟨g, 0, none⟩), .slice none 0 0] 91)) w.heap.size g P (St.new log) ∧ ¬ P w1.heap.size ∧ w.heap.size ≤ w1.heap.size ∧ Below w.heap.size w (w1.alloc (.cells #[.pointer (some ⟨g, 0, none⟩), .slice none 0 0] 91))) :=
    ⟨new_at _ _, T1.later b2, fun h => by have := (T1.low _ h).2; omega, b1.size, b1.trans (b2.mono b1.size)⟩
  clear T1 b1 b2 HN
  go_wp2_with fail
  go_ret
  exact ⟨w1.heap.size, g, P, rfl, FIN.out⟩
theorem active_any (gq g gl gs bm : Nat) (v : Value) (S : St) (w : World) (Q : Qb w gq g v) (H : Tc w g (S.cells gl gs bm)) : Calls Try.prog 22 #[.pointer (some ⟨gq, 0, none⟩)] w fun e w' => e = .returned (.pointer (some ⟨g, 0, none⟩)) ∧ w' = w := by
  have HN := hid (qisnone_any gq g gl gs bm v S w Q H)
  have c0 := Q.c0
  clear H Q
  go_enter Try.func22, Try.ntmps22
  go_wp2_with fail
  refine HN.out.mono ?_
  rintro e w1 ⟨rfl, rfl⟩
  go_wp2_with fail
  go_ret
  exact ⟨rfl, rfl⟩
/-- A memtable that is frozen. -/
def St.frz (S : St) : St := { S with dn := true }
theorem frz_tb {w : World} {base g : Nat} {P : Nat → Prop} {S : St} (H : Tb.Tb w base g P S) : Tb.Tb (w.setCell ⟨g, 1, none⟩ (.bool true)) base g P (St.frz S) := by
  obtain ⟨gl, bl, gs, bm, vt, h⟩ := H
  have D := Ae.Tx.dis h
  refine ⟨gl, bl, gs, bm, vt, ?_, sl_blocks h.l (set_ne _ _ _ _ _ (fun e => D.a1 e.symm)) (set_ne _ _ _ _ _ (fun e => D.a2 e.symm)), (set_ne _ _ _ _ _ (fun e => D.a3 e.symm)).trans h.s, own_blocks h.o (fun j hj => set_ne _ _ _ _ _ (D.a5 j hj)), h.m.blk (set_ne _ _ _ _ _ (fun e => D.a4 e.symm)), ⟨h.wf.node, h.wf.tomb, h.wf.sz0, h.wf.sz1, h.wf.gd, h.wf.cap⟩, h.pg, h.pl, h.pb, h.ps, h.pm, h.pv, fun j hj => ⟨(h.low j hj).1, by simpa using (h.low j hj).2⟩⟩
  exact Pt.Tc.set h.c 1 (.bool true)
set_option maxHeartbeats 2000000 in
set_option maxRecDepth 100000 in
/-- Freeze with a log that rises. -/
theorem freeze_yes (base bq gq g : Nat) (v : Value) (l : List Nat) (P : Nat → Prop) (S : St) (log : Int) (w : World) (Q : Qb w gq g v) (O : OwnP w bq v l) (H : Tb.Tb w base g P S) (hnq : ¬ P gq) (hno : ∀ j, v.ownBlock = some j → ¬ P j) (hl : S.log < log) (hn : (l.length + 1) * 8 ≤ 140737488355328) (hb : bq ≤ w.heap.size) :
    Calls Try.prog 39 #[.pointer (some ⟨gq, 0, none⟩), .int .i64 log] w fun e w' => e = .returned (.int .i64 0) ∧ ∃ g' P' v' n1, Qb w' gq g' v' ∧ OwnP w' bq v' (l ++ [g]) ∧ Tb.Tb w' base g P (St.frz S) ∧ Tb.Tb w' n1 g' P' (St.new log) ∧ w.heap.size ≤ n1 ∧ (∀ j, v'.ownBlock = some j → v.ownBlock = some j ∨ (w.heap.size ≤ j ∧ j < n1)) ∧ Fp (fun j => j = gq ∨ j = g ∨ v.ownBlock = some j) w w' := by
  obtain ⟨gl, bl, gs, bm, vt, X⟩ := H
  have HN := hid (qisnone_any gq g gl gs bm v S w Q X.c)
  have HLg := hid (log_any g gl gs bm S w X.c)
  have c0 := Q.c0
  have cg1 : w.cell? ⟨g, 1, none⟩ = some (.bool S.dn) := X.c.cell 1
  have fg1 := X.c.fz 1
  have hgq : g ≠ gq := fun e => hnq (by rw [← e]; exact X.pg)
  obtain ⟨W1, hW1⟩ : ∃ W, W = w.setCell ⟨g, 1, none⟩ (.bool true) := ⟨_, rfl⟩
  have T1 : Tb.Tb W1 base g P (St.frz S) := by rw [hW1]; exact frz_tb ⟨gl, bl, gs, bm, vt, X⟩
  have Q1 : Qb W1 gq g v := by rw [hW1]; exact (set_ne _ _ _ _ _ (fun e => hgq e.symm)).trans Q
  have s1 : W1.heap.size = w.heap.size := by rw [hW1]; simp
  have O1 : OwnP W1 bq v l := by rw [hW1]; exact own_blocks O (fun j hj => set_ne _ _ _ _ _ (fun e => hno j hj (by rw [e]; exact X.pg)))
  obtain ⟨D, hD⟩ : ∃ D, D = World.drew W1 := ⟨_, rfl⟩
  have bD : Below W1.heap.size W1 D := by rw [hD]; exact (Below.refl _ _).drew
  have QD := Q1.later bD
  have OD := O1.later bD
  have TD := T1.later bD
  obtain ⟨v4, W4, hrun, o4, g4, q4⟩ := app_ptr D bq v l g OD hn (by have := bD.size; omega)
  obtain ⟨va, vc, rfl⟩ := Sa.row_block O
  obtain ⟨va4, vc4, rfl⟩ := Sa.row_block o4
  have nq : some gq ≠ (Value.slice va l.length vc).ownBlock := fun e => by
    obtain ⟨c, hc⟩ := own_blk OD gq e.symm
    exact blk_ne QD hc (by simp) rfl
  have Q4 : Qb W4 gq g (.slice va l.length vc) := (g4.block gq QD.lt nq).trans QD
  have T4 : Tb.Tb W4 base g P (St.frz S) := TD.blocks (fun j hj => g4.block j (TD.low j hj).2 (fun e => hno j e.symm hj)) g4.size
  obtain ⟨W5, hW5⟩ : ∃ W, W = W4.setCell ⟨gq, 1, none⟩ (.slice va4 (l ++ [g]).length vc4) := ⟨_, rfl⟩
  have Q5 : Qb W5 gq g (.slice va4 (l ++ [g]).length vc4) := by rw [hW5]; exact Q4.set1 _
  have T5 : Tb.Tb W5 base g P (St.frz S) := by rw [hW5]; exact T4.blocks (fun j hj => set_ne _ _ _ _ _ (fun e => hnq (by rw [← e]; exact hj))) (by simp)
  have O5 : OwnP W5 bq (.slice va4 (l ++ [g]).length vc4) (l ++ [g]) := by
    rw [hW5]
    refine own_blocks o4 (fun j hj => set_ne _ _ _ _ _ (fun e => ?_))
    obtain ⟨c, hc⟩ := own_blk o4 j hj
    exact blk_ne hc Q4 (by simp) e
  have s5 : D.heap.size ≤ W5.heap.size := by rw [hW5]; simpa using g4.size
  have F5 : Fp (fun j => j = gq ∨ j = g ∨ (Value.slice va l.length vc).ownBlock = some j) w W5 := by
    rw [hW5]
    refine Fp.set (Fp.grown (Fp.below ?_ bD) g4 (fun j hj => .inl (.inr (.inr hj)))) (.inl (.inl rfl)) _ _
    rw [hW1]
    exact Fp.set (Fp.refl _ _) (.inl (.inr (.inl rfl))) _ _
  have HNw := hid (new_any log W5)
  have FIN : Hid (∀ w6 g6 P6, Tb.Tb w6 W5.heap.size g6 P6 (St.new log) → Below W5.heap.size W5 w6 → ∃ g' P' v' n1, Qb (w6.setCell ⟨gq, 0, none⟩ (.pointer (some ⟨g6, 0, none⟩))) gq g' v' ∧ OwnP (w6.setCell ⟨gq, 0, none⟩ (.pointer (some ⟨g6, 0, none⟩))) bq v' (l ++ [g]) ∧ Tb.Tb (w6.setCell ⟨gq, 0, none⟩ (.pointer (some ⟨g6, 0, none⟩))) base g P (St.frz S) ∧ Tb.Tb (w6.setCell ⟨gq, 0, none⟩ (.pointer (some ⟨g6, 0, none⟩))) n1 g' P' (St.new log) ∧ w.heap.size ≤ n1 ∧ (∀ j, v'.ownBlock = some j → (Value.slice va l.length vc).ownBlock = some j ∨ (w.heap.size ≤ j ∧ j < n1)) ∧ Fp (fun j => j = gq ∨ j = g ∨ (Value.slice va l.length vc).ownBlock = some j) w (w6.setCell ⟨gq, 0, none⟩ (.pointer (some ⟨g6, 0, none⟩)))) := by
    intro w6 g6 P6 T6 b6
    have Q6 := Q5.later b6
    have O6 := O5.later b6
    have lq : gq < W5.heap.size := Q5.lt
    have sw : w.heap.size ≤ W5.heap.size := by have := bD.size; omega
    refine ⟨g6, P6, _, W5.heap.size, Q6.set0 g6, own_blocks O6 (fun j hj => set_ne _ _ _ _ _ (fun e => ?_)), (T5.later b6).blocks (fun j hj => set_ne _ _ _ _ _ (fun e => hnq (by rw [← e]; exact hj))) (by simp), T6.blocks (fun j hj => set_ne _ _ _ _ _ (fun e => by have := (T6.low j hj).1; omega)) (by simp), sw, ?_, (Fp.below F5 b6).set (.inl (.inl rfl)) _ _⟩
    · obtain ⟨c, hc⟩ := own_blk O6 j hj
      exact blk_ne hc Q6 (by simp) e
    · intro j hj
      rcases q4 j hj with h | h
      · exact .inl h
      · have := (own_lt O5 j hj).2
        have := bD.size
        exact .inr ⟨by omega, by omega⟩
  have fr1 : W1.frozen? ⟨gq, 0, none⟩ = false := Q1.fz 0
  have cD0 := QD.c0
  have cD1 := QD.c1
  have cA1 : (D.alloc (.cells #[.pointer (some ⟨g, 0, none⟩)] 23)).cell? ⟨gq, 1, none⟩ = some (.slice va l.length vc) := (QD.later (box_below D _)).c1
  have f4 := Q4.fz 1
  have c41 := Q4.c1
  have hle : ¬ (log ≤ S.log) := by omega
  obtain ⟨n4, hn4⟩ : ∃ n, n = (l ++ [g]).length := ⟨_, rfl⟩
  rw [← hn4] at hrun hW5
  replace hrun := hid hrun
  replace hW5 := hid hW5
  replace Q5 := hid Q5
  replace hW1 := hid hW1
  replace hD := hid hD
  clear X Q O T1 Q1 s1 O1 bD QD OD TD o4 g4 q4 nq Q4 T4 T5 O5 s5 F5 hno hnq hn hb hn4
  go_enter Try.func39, Try.ntmps39
  go_wp2_with fail
  refine HN.out.mono ?_
  rintro e w1 ⟨rfl, rfl⟩
  go_wp2_with fail
  refine HLg.out.mono ?_
  rintro e w1 ⟨rfl, rfl⟩
  go_wp2_with fail
  rw [← hW1.out]
  refine wp_region_any (by kernel_rfl) ?_
  change wpAny _ _ _ _ _ _ _ (World.drew _)
  rw [← hD.out]
  refine wpAny_take (i := 0) (v := ?v1) rfl (by kernel_rfl) (by kernel_rfl) (by kernel_rfl) (fun _ _ _ h => h) (Or.inl ⟨by rfl, ?h1⟩) ?_
  case h1 => (intro w; go_simp; try (with_reducible rfl))
  go_simp
  refine wpAny_take (i := 1) (v := ?v2) rfl (by kernel_rfl) (by kernel_rfl) (by kernel_rfl) (fun _ _ _ h => h) (Or.inl ⟨by rfl, ?h2⟩) ?_
  case h2 => (intro w; go_simp; try (with_reducible rfl))
  go_simp
  refine wpAny_take (i := 2) (v := ?v3) rfl (by kernel_rfl) (by kernel_rfl) (by kernel_rfl) (fun _ _ _ h => h) (Or.inl ⟨by rfl, ?h3⟩) ?_
  case h3 => (intro w; go_simp; try (with_reducible rfl))
  go_simp
  refine wpAny_take (i := 3) (v := ?v4) rfl (by kernel_rfl) (by kernel_rfl) (by kernel_rfl) (fun _ _ _ h => h) (Or.inl ⟨by rfl, ?h4⟩) ?_
  case h4 => (intro w; go_simp; try (with_reducible rfl))
  go_simp
  refine wpAny_take (i := 5) (v := ?v5) rfl (by kernel_rfl) (by kernel_rfl) (by kernel_rfl) (fun _ _ _ h => h) (Or.inl ⟨by rfl, ?h5⟩) ?_
  case h5 => (intro w; go_simp; try (with_reducible rfl))
  go_simp
  refine wpAny_take (i := 6) (v := ?v6) rfl (by kernel_rfl) (by kernel_rfl) (by kernel_rfl) (fun _ _ _ h => h) (Or.inl ⟨by rfl, ?h6⟩) ?_
  case h6 => (intro w; go_simp; try (with_reducible rfl))
  go_simp
  refine wpAny_take (i := 7) (v := ?v7) rfl (by kernel_rfl) (by kernel_rfl) (by kernel_rfl) (fun _ _ _ h => h) (Or.inl ⟨by rfl, ?h7⟩) ?_
  case h7 => (intro w; go_simp; try (with_reducible rfl))
  go_simp
  refine wpAny_ready (rs := [4, 8]) (by kernel_rfl) (by simp) ?_
  refine AllReady.cons rfl (fun K hK => ?_) ?_
  · go_simp
    refine hK _ _ ?_
    clear hK K
    refine wpAny_ready (rs := [8]) (by kernel_rfl) (by simp) ?_
    refine AllReady.cons rfl (fun K hK => ?_) ?_
    · go_simp
      refine hK _ _ ?_
      clear hK K
      refine wpAny_ready (rs := [9]) (by kernel_rfl) (by simp) ?_
      refine AllReady.cons rfl (fun K hK => ?_) ?_
      · go_simp
        refine hK _ _ ?_
        clear hK K
        refine wpAny_ready (rs := [10]) (by kernel_rfl) (by simp) ?_
        refine AllReady.cons rfl (fun K hK => ?_) ?_
        · rw [if_pos (by rfl)]
          refine wp_append_run _ _ 69 69 rfl _ _ _ (by rfl) (by rfl) hrun.out ?_
          refine hK _ _ ?_
          clear hK K
          go_simp
          refine wpAny_take (i := 11) (v := ?v8) rfl (by kernel_rfl) (by kernel_rfl) (by kernel_rfl) (fun _ _ _ h => h) (Or.inl ⟨by rfl, ?h8⟩) ?_
          case h8 => (intro w; go_simp; try (with_reducible rfl))
          go_simp
          refine wpAny_take (i := 12) (v := ?v9) rfl (by kernel_rfl) (by kernel_rfl) (by kernel_rfl) (fun _ _ _ h => h) (Or.inl ⟨by rfl, ?h9⟩) ?_
          case h9 => (intro w; go_simp; try (with_reducible rfl))
          go_simp
          refine wpAny_ready (rs := [13]) (by kernel_rfl) (by simp) ?_
          refine AllReady.cons rfl (fun K hK => ?_) ?_
          · go_simp
            refine hK _ _ ?_
            clear hK K
            refine wpAny_done (by kernel_rfl) ?_ _
            rw [← hW5.out]
            go_wp2_with fail
            refine HNw.out.mono ?_
            rintro e w6 ⟨g', P', rfl, T6, b6⟩
            have Q6 := (b6.block gq Q5.out.lt).trans Q5.out
            have cq := Qb.c0 Q6
            have fq := Qb.fz Q6 0
            have FF := hid (FIN.out w6 g' P' T6 b6)
            clear T6 b6 Q6
            go_wp2_with fail
            go_ret
            exact ⟨rfl, FF.out⟩
          exact AllReady.nil
        exact AllReady.nil
      exact AllReady.nil
    exact AllReady.nil
  refine AllReady.cons rfl (fun K hK => ?_) ?_
  · go_simp
    refine hK _ _ ?_
    clear hK K
    refine wpAny_ready (rs := [4, 9]) (by kernel_rfl) (by simp) ?_
    refine AllReady.cons rfl (fun K hK => ?_) ?_
    · go_simp
      refine hK _ _ ?_
      clear hK K
      refine wpAny_ready (rs := [9]) (by kernel_rfl) (by simp) ?_
      refine AllReady.cons rfl (fun K hK => ?_) ?_
      · go_simp
        refine hK _ _ ?_
        clear hK K
        refine wpAny_ready (rs := [10]) (by kernel_rfl) (by simp) ?_
        refine AllReady.cons rfl (fun K hK => ?_) ?_
        · rw [if_pos (by rfl)]
          refine wp_append_run _ _ 69 69 rfl _ _ _ (by rfl) (by rfl) hrun.out ?_
          refine hK _ _ ?_
          clear hK K
          go_simp
          refine wpAny_take (i := 11) (v := ?v10) rfl (by kernel_rfl) (by kernel_rfl) (by kernel_rfl) (fun _ _ _ h => h) (Or.inl ⟨by rfl, ?h10⟩) ?_
          case h10 => (intro w; go_simp; try (with_reducible rfl))
          go_simp
          refine wpAny_take (i := 12) (v := ?v11) rfl (by kernel_rfl) (by kernel_rfl) (by kernel_rfl) (fun _ _ _ h => h) (Or.inl ⟨by rfl, ?h11⟩) ?_
          case h11 => (intro w; go_simp; try (with_reducible rfl))
          go_simp
          refine wpAny_ready (rs := [13]) (by kernel_rfl) (by simp) ?_
          refine AllReady.cons rfl (fun K hK => ?_) ?_
          · go_simp
            refine hK _ _ ?_
            clear hK K
            refine wpAny_done (by kernel_rfl) ?_ _
            rw [← hW5.out]
            go_wp2_with fail
            refine HNw.out.mono ?_
            rintro e w6 ⟨g', P', rfl, T6, b6⟩
            have Q6 := (b6.block gq Q5.out.lt).trans Q5.out
            have cq := Qb.c0 Q6
            have fq := Qb.fz Q6 0
            have FF := hid (FIN.out w6 g' P' T6 b6)
            clear T6 b6 Q6
            go_wp2_with fail
            go_ret
            exact ⟨rfl, FF.out⟩
          exact AllReady.nil
        exact AllReady.nil
      exact AllReady.nil
    refine AllReady.cons rfl (fun K hK => ?_) ?_
    · go_simp
      refine hK _ _ ?_
      clear hK K
      refine wpAny_ready (rs := [4]) (by kernel_rfl) (by simp) ?_
      refine AllReady.cons rfl (fun K hK => ?_) ?_
      · go_simp
        refine hK _ _ ?_
        clear hK K
        refine wpAny_ready (rs := [10]) (by kernel_rfl) (by simp) ?_
        refine AllReady.cons rfl (fun K hK => ?_) ?_
        · rw [if_pos (by rfl)]
          refine wp_append_run _ _ 69 69 rfl _ _ _ (by rfl) (by rfl) hrun.out ?_
          refine hK _ _ ?_
          clear hK K
          go_simp
          refine wpAny_take (i := 11) (v := ?v12) rfl (by kernel_rfl) (by kernel_rfl) (by kernel_rfl) (fun _ _ _ h => h) (Or.inl ⟨by rfl, ?h12⟩) ?_
          case h12 => (intro w; go_simp; try (with_reducible rfl))
          go_simp
          refine wpAny_take (i := 12) (v := ?v13) rfl (by kernel_rfl) (by kernel_rfl) (by kernel_rfl) (fun _ _ _ h => h) (Or.inl ⟨by rfl, ?h13⟩) ?_
          case h13 => (intro w; go_simp; try (with_reducible rfl))
          go_simp
          refine wpAny_ready (rs := [13]) (by kernel_rfl) (by simp) ?_
          refine AllReady.cons rfl (fun K hK => ?_) ?_
          · go_simp
            refine hK _ _ ?_
            clear hK K
            refine wpAny_done (by kernel_rfl) ?_ _
            rw [← hW5.out]
            go_wp2_with fail
            refine HNw.out.mono ?_
            rintro e w6 ⟨g', P', rfl, T6, b6⟩
            have Q6 := (b6.block gq Q5.out.lt).trans Q5.out
            have cq := Qb.c0 Q6
            have fq := Qb.fz Q6 0
            have FF := hid (FIN.out w6 g' P' T6 b6)
            clear T6 b6 Q6
            go_wp2_with fail
            go_ret
            exact ⟨rfl, FF.out⟩
          exact AllReady.nil
        exact AllReady.nil
      exact AllReady.nil
    exact AllReady.nil
  exact AllReady.nil
end Go.Proofs.Ytefihoohdaegeaa.Qu

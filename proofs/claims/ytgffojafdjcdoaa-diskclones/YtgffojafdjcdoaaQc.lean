/- The document's files: rows laid anew. -/
import Derived.Test.YtgffojafdjcdoaaQb
namespace Go.Proofs.Ytgffojafdjcdoaa.Qc
open Go.ChangeShapes Go.WideShapes Go.ChangeAt Go.RowKit Go.Maps
open Go.Sort (grow)
open Go.Proofs.Ytgffojafdjcdoaa.By
open Go.Proofs.Ytgffojafdjcdoaa.Dk
open Go.Proofs.Ytgffojafdjcdoaa.Pd
open Go.Proofs.Ytgffojafdjcdoaa.Qa
open Go.Proofs.Ytgffojafdjcdoaa.Qb
set_option linter.unusedVariables false
set_option linter.unusedSimpArgs false

theorem info88 : (Try.prog.info? 88).map (fun i => (i.zero, i.size, i.bytes)) = some (some (.agg #[.string ⟨#[]⟩, .string ⟨#[]⟩, .int .i64 0]), 3, 40) := by kernel_rfl
theorem rc_one (ys : List RF) : ∀ u ∈ rc ys, u.oneCell' = true := by
  intro u hu
  obtain ⟨r, _, hr⟩ := List.mem_flatMap.1 hu
  simp at hr
  rcases hr with rfl | rfl | rfl <;> rfl
theorem own_ne {w : World} {base : Nat} {v : Value} {rs : List RF} (h : OwnF w base v rs) (hn : 0 < rs.length) : v ≠ .slice none 0 0 := by
  intro e
  rcases h.2 with ⟨_, h0⟩ | ⟨g, cap, cur, e1, _⟩
  · omega
  · rw [e] at e1; simp at e1
/-- What a part of a row is, as a source. -/
def Srcs (w : World) (u : Value) (m : Nat) (ys : List RF) : Prop := (u = .slice none 0 0 ∧ m = 0 ∧ ys = []) ∨ ∃ a c, u = .slice (some a) m c ∧ ys.length = m ∧ ∀ j y, (rc ys)[j]? = some y → w.cell? (a.add j) = some y
theorem app_files (w : World) (base : Nat) (v : Value) (xs : List RF) (u : Value) (m : Nat) (ys : List RF) (H : OwnF w base v xs) (hu : Srcs w u m ys) (hv : v ≠ .slice none 0 0) (hn : (xs.length + m) * 40 ≤ 140737488355328) (hbase : base ≤ w.heap.size) :
    ∃ v' w', (Builtin.append_ #[67, 67] 67 #[v, u]).run Try.prog w = .ok v' w' ∧ OwnF w' base v' (xs ++ ys) ∧ w.grownBy w' v.ownBlock ∧ v' ≠ .slice none 0 0 := by
  obtain ⟨i0, hi, hz0, hz1, hz2⟩ := info_parts info88
  rcases hu with ⟨rfl, rfl, rfl⟩ | ⟨a, c, rfl, hl, hc⟩
  · rcases H.2 with ⟨e, _⟩ | ⟨g, cap, cur, e, hb, hg, hn', hm, hs, ht⟩
    · exact absurd e hv
    · subst e
      refine ⟨_, _, run_append_room_src (P := Try.prog) w 67 67 67 88 i0 Try.underlying67 hi g 0 _ cap _ 0 [] (Src.ofNil w Try.underlying67 0) (by omega) (by simp) (by simp), ?_, ?_, ?_⟩
      · simp only [List.append_nil, Nat.add_zero]
        exact H
      · exact ⟨rfl, rfl, rfl, Nat.le_refl _, fun _ _ _ => rfl⟩
      · simp
  · obtain ⟨v5, W5, r5, o5, g5, h5⟩ := run_append_own (P := Try.prog) w base 67 67 88 i0 _ 3 40 Try.underlying67 hi hz0 hz1 hz2 rfl (by decide) v xs.length _ H a m c (rc ys) (by rw [rc_len, hl]) hc (rc_one ys) (by unfold maxLen; omega) (by omega) hbase
    refine ⟨v5, W5, r5, ?_, g5, fun e => hv (h5.1 e).1⟩
    unfold OwnF
    rw [List.length_append, rc_app, hl]
    exact o5
theorem app_file (w : World) (base : Nat) (v : Value) (xs : List RF) (x : RF) (H : OwnF w base v xs) (hn : (xs.length + 1) * 40 ≤ 140737488355328) (hbase : base ≤ w.heap.size) :
    ∃ v' w', (Builtin.append_ #[67, 67] 67 #[v, .slice (some ⟨w.heap.size, 0, none⟩) 1 1]).run Try.prog (w.alloc (.cells #[.string x.n, .string x.b, .int .i64 (x.k : Int)] 88)) = .ok v' w' ∧ OwnF w' base v' (xs ++ [x]) ∧ w.grownBy w' v.ownBlock := by
  obtain ⟨i0, hi, hz0, hz1, hz2⟩ := info_parts info88
  have b1 := box_below w (.cells #[.string x.n, .string x.b, .int .i64 (x.k : Int)] 88)
  have H2 : OwnF (w.alloc (.cells #[.string x.n, .string x.b, .int .i64 (x.k : Int)] 88)) base v xs := H.blk (fun j hj => b1.block j (World.ownsRow.lt H j hj).2)
  have n4 := new_at w (.cells #[.string x.n, .string x.b, .int .i64 (x.k : Int)] 88)
  obtain ⟨v5, W5, r5, o5, g5, _⟩ := run_append_own (P := Try.prog) (w.alloc (.cells #[.string x.n, .string x.b, .int .i64 (x.k : Int)] 88)) base 67 67 88 i0 _ 3 40 Try.underlying67 hi hz0 hz1 hz2 rfl (by decide) v xs.length _ H2 ⟨w.heap.size, 0, none⟩ 1 1 [.string x.n, .string x.b, .int .i64 (x.k : Int)] rfl (by
    intro q u hq
    rw [show (⟨w.heap.size, 0, none⟩ : Addr).add q = ⟨w.heap.size, q, none⟩ by unfold Addr.add; split <;> simp_all]
    exact cell_of n4 q u (by simpa using hq)) (by intro u hu; simp at hu; rcases hu with rfl | rfl | rfl <;> rfl) (by unfold maxLen; omega) (by omega) (by rw [size_alloc]; omega)
  refine ⟨v5, W5, r5, ?_, ?_⟩
  · unfold OwnF
    rw [List.length_append, rc_app]
    exact o5
  · exact ⟨g5.os.trans b1.os, g5.tape.trans b1.tape, g5.output.trans b1.output, Nat.le_trans b1.size g5.size, fun k hk hne => (g5.block k (Nat.lt_of_lt_of_le hk b1.size) hne).trans (b1.block k hk)⟩
/-- A row's beginning and its rest, as slices. -/
theorem slices {base : Nat} {a : Option Addr} {co : Nat} {rs : List RF} (W0 : World) (P Q : Nat) (O : OwnF W0 base (.slice a rs.length co) rs) (hP : P ≤ rs.length) (hQ : Q ≤ rs.length) (hlen : rs.length ≤ 4096) :
    ∃ u1 u2, (∀ W : World, (Instr.slice 67 (.slice a rs.length co) none (some (.int .i64 (P : Int))) none).run Try.prog W = .ok u1 W) ∧ (∀ W : World, (Instr.slice 67 (.slice a rs.length co) (some (.int .i64 (Q : Int))) none none).run Try.prog W = .ok u2 W) ∧
      (∀ W : World, OwnF W base (.slice a rs.length co) rs → Srcs W u1 P (rs.take P) ∧ Srcs W u2 (rs.length - Q) (rs.drop Q)) := by
  rcases O.2 with ⟨e, h0⟩ | ⟨g, cap, cur, e, hb, hg, hn, hm, hs, ht⟩
  · simp only [Value.slice.injEq] at e
    obtain ⟨rfl, e1, rfl⟩ := e
    have e2 : rs = [] := List.eq_nil_of_length_eq_zero h0
    subst e2
    have e3 : P = 0 := by simpa using hP
    have e4 : Q = 0 := by simpa using hQ
    subst e3 e4
    refine ⟨.slice none 0 0, .slice none 0 0, fun W => ?_, fun W => ?_, fun W _ => ⟨.inl ⟨rfl, rfl, rfl⟩, .inl ⟨rfl, rfl, rfl⟩⟩⟩
    · simp [go_sem]
    · simp [go_sem]
  · simp only [Value.slice.injEq] at e
    obtain ⟨rfl, e1, rfl⟩ := e
    have i1 : (P : Int) ≤ (rs.length : Int) := by omega
    have i2 : (P : Int) ≤ (co : Int) := by omega
    have i3 : (rs.length : Int) ≤ (co : Int) := by omega
    have i4 : rs.length ≤ co := hn
    have i5 : P ≤ co := by omega
    have j1 : (Q : Int) ≤ (rs.length : Int) := by omega
    have j2 : (Q : Int) ≤ (co : Int) := by omega
    have j5 : Q ≤ co := by omega
    refine ⟨.slice (some ⟨g, 0, none⟩) P co, .slice (some ⟨g, if co = Q then 0 else Q * 3, none⟩) (rs.length - Q) (co - Q), fun W => ?_, fun W => ?_, fun W hW => ⟨.inr ⟨⟨g, 0, none⟩, co, rfl, by rw [List.length_take]; omega, ?_⟩, .inr ⟨⟨g, if co = Q then 0 else Q * 3, none⟩, co - Q, rfl, by rw [List.length_drop], ?_⟩⟩⟩
    · simp [go_sem, i1, i2, i3, i4, i5, hP]
    · by_cases hcp : co = Q
      · rw [if_pos hcp]; simp [go_sem, j1, j2, i3, i4, j5, hQ, hcp]
      · rw [if_neg hcp]; simp [go_sem, j1, j2, i3, i4, j5, hQ, hcp]
    · intro j y hj
      have hj2 := (List.getElem?_eq_some_iff.1 hj).1
      rw [rc_len, List.length_take] at hj2
      rw [show (⟨g, 0, none⟩ : Addr).add j = ⟨g, j, none⟩ by unfold Addr.add; split <;> simp_all, World.ownsRow.cellAt hW j (by omega)]
      rw [rc_take, List.getElem?_take_of_lt (by omega)] at hj
      exact hj
    · intro j y hj
      have hj2 := (List.getElem?_eq_some_iff.1 hj).1
      rw [rc_len, List.length_drop] at hj2
      rw [if_neg (by omega)]
      rw [show (⟨g, Q * 3, none⟩ : Addr).add j = ⟨g, Q * 3 + j, none⟩ by unfold Addr.add; split <;> simp_all, World.ownsRow.cellAt hW (Q * 3 + j) (by omega)]
      rw [rc_drop, List.getElem?_drop] at hj
      exact hj
theorem own_later {w w' : World} {n base : Nat} {v : Value} {rs : List RF} (h : OwnF w base v rs) (hl : ∀ j, v.ownBlock = some j → j < n) (b : Below n w w') : OwnF w' base v rs := h.blk (fun j hj => b.block j (hl j hj))
/-- A row with one file put in at a place, laid anew. -/
theorem three {base : Nat} {a : Option Addr} {co : Nat} {rs : List RF} (w : World) (i : Nat) (x : RF) (O : OwnF w base (.slice a rs.length co) rs) (hi : i ≤ rs.length) (hlen : rs.length ≤ 4096) :
    ∃ u1 u2 v9 W9 v10 W10 v11 W11, (∀ W : World, (Instr.slice 67 (.slice a rs.length co) none (some (.int .i64 (i : Int))) none).run Try.prog W = .ok u1 W) ∧ (∀ W : World, (Instr.slice 67 (.slice a rs.length co) (some (.int .i64 (i : Int))) none none).run Try.prog W = .ok u2 W) ∧
      (Builtin.append_ #[67, 67] 67 #[.slice (some ⟨w.heap.size, 0, none⟩) 0 0, u1]).run Try.prog (w.alloc (.cells #[] 88)) = .ok v9 W9 ∧
      (Builtin.append_ #[67, 67] 67 #[v9, .slice (some ⟨W9.heap.size, 0, none⟩) 1 1]).run Try.prog (W9.alloc (.cells #[.string x.n, .string x.b, .int .i64 (x.k : Int)] 88)) = .ok v10 W10 ∧
      (Builtin.append_ #[67, 67] 67 #[v10, u2]).run Try.prog W10 = .ok v11 W11 ∧
      OwnF W11 w.heap.size v11 (rs.take i ++ [x] ++ rs.drop i) ∧ Below w.heap.size w W9 ∧ Below w.heap.size w W10 ∧ Below w.heap.size w W11 := by
  obtain ⟨u1, u2, s1, s2, hu⟩ := slices w i i O hi hi hlen
  have hl : ∀ j, (Value.slice a rs.length co).ownBlock = some j → j < w.heap.size := fun j hj => (World.ownsRow.lt O j hj).2
  have b8 := box_below w (.cells #[] 88)
  have E8 : OwnF (w.alloc (.cells #[] 88)) w.heap.size (.slice (some ⟨w.heap.size, 0, none⟩) 0 0) [] := World.ownsRow_made w #[] 0 (Nat.le_refl _) (by decide) rfl
  obtain ⟨v9, W9, r9, o9, g9, n9⟩ := app_files (w.alloc (.cells #[] 88)) w.heap.size _ [] u1 i (rs.take i) E8 (hu _ (own_later O hl b8)).1 (by simp) (by simp; omega) b8.size
  have B9 : Below w.heap.size w W9 := b8.grown g9 b8.size (fun k hk => by cases hk; exact Nat.le_refl _)
  obtain ⟨v10, W10, r10, o10, g10⟩ := app_file W9 w.heap.size v9 _ x o9 (by simp; omega) B9.size
  have B10 : Below w.heap.size w W10 := B9.grown g10 B9.size (fun k hk => (World.ownsRow.lt o9 k hk).1)
  obtain ⟨v11, W11, r11, o11, g11, n11⟩ := app_files W10 w.heap.size v10 _ u2 (rs.length - i) (rs.drop i) o10 (hu _ (own_later O hl B10)).2 (own_ne o10 (by simp)) (by simp; omega) B10.size
  have B11 : Below w.heap.size w W11 := B10.grown g11 B10.size (fun k hk => (World.ownsRow.lt o10 k hk).1)
  exact ⟨u1, u2, v9, W9, v10, W10, v11, W11, s1, s2, r9, r10, r11, by simpa using o11, B9, B10, B11⟩
/-- A row without one file, laid anew. -/
theorem two {base : Nat} {a : Option Addr} {co : Nat} {rs : List RF} (w : World) (i : Nat) (O : OwnF w base (.slice a rs.length co) rs) (hi : i < rs.length) (hlen : rs.length ≤ 4096) :
    ∃ u1 u2 v9 W9 v11 W11, (∀ W : World, (Instr.slice 67 (.slice a rs.length co) none (some (.int .i64 (i : Int))) none).run Try.prog W = .ok u1 W) ∧ (∀ W : World, (Instr.slice 67 (.slice a rs.length co) (some (.int .i64 ((i + 1 : Nat) : Int))) none none).run Try.prog W = .ok u2 W) ∧
      (Builtin.append_ #[67, 67] 67 #[.slice (some ⟨w.heap.size, 0, none⟩) 0 0, u1]).run Try.prog (w.alloc (.cells #[] 88)) = .ok v9 W9 ∧
      (Builtin.append_ #[67, 67] 67 #[v9, u2]).run Try.prog W9 = .ok v11 W11 ∧
      OwnF W11 w.heap.size v11 (rs.take i ++ rs.drop (i + 1)) ∧ Below w.heap.size w W9 ∧ Below w.heap.size w W11 := by
  obtain ⟨u1, u2, s1, s2, hu⟩ := slices w i (i + 1) O (by omega) (by omega) hlen
  have hl : ∀ j, (Value.slice a rs.length co).ownBlock = some j → j < w.heap.size := fun j hj => (World.ownsRow.lt O j hj).2
  have b8 := box_below w (.cells #[] 88)
  have E8 : OwnF (w.alloc (.cells #[] 88)) w.heap.size (.slice (some ⟨w.heap.size, 0, none⟩) 0 0) [] := World.ownsRow_made w #[] 0 (Nat.le_refl _) (by decide) rfl
  obtain ⟨v9, W9, r9, o9, g9, n9⟩ := app_files (w.alloc (.cells #[] 88)) w.heap.size _ [] u1 i (rs.take i) E8 (hu _ (own_later O hl b8)).1 (by simp) (by simp; omega) b8.size
  have B9 : Below w.heap.size w W9 := b8.grown g9 b8.size (fun k hk => by cases hk; exact Nat.le_refl _)
  obtain ⟨v11, W11, r11, o11, g11, n11⟩ := app_files W9 w.heap.size v9 _ u2 (rs.length - (i + 1)) (rs.drop (i + 1)) o9 (hu _ (own_later O hl B9)).2 n9 (by simp; omega) B9.size
  have B11 : Below w.heap.size w W11 := B9.grown g11 B9.size (fun k hk => (World.ownsRow.lt o9 k hk).1)
  exact ⟨u1, u2, v9, W9, v11, W11, s1, s2, r9, r11, by simpa using o11, B9, B11⟩
/-- The disk with a new row. -/
def Gp (P : Nat → Prop) (w w' : World) : Nat → Prop := fun j => P j ∨ (w.heap.size ≤ j ∧ j < w'.heap.size)
theorem RDk.laid {w W : World} {base g : Nat} {v v' : Value} {P : Nat → Prop} {R : RS} {rs' : List RF} (H : RDk w base g v P R) (hb : base ≤ w.heap.size) (O : OwnF W w.heap.size v' rs') (B : Below w.heap.size w W) :
    RDk (W.setCell ⟨g, 0, none⟩ v') base g v' (Gp P w (W.setCell ⟨g, 0, none⟩ v')) { R with rs := rs' } ∧ Fr P w (W.setCell ⟨g, 0, none⟩ v') := by
  have hg : g < w.heap.size := (H.low g H.pg).2
  have kg : W.heap[g]? = some (.cells #[v, .int .i64 R.q, .int .i64 R.af, .int .i64 R.ct, .int .i64 R.rf] 69) := (B.block g hg).trans H.cells
  have hs : (W.setCell ⟨g, 0, none⟩ v').heap.size = W.heap.size := by simp
  refine ⟨⟨by rw [set_of kg 0 v']; rfl, ?_, .inl H.pg, ?_, ?_⟩, ?_⟩
  · have O2 : OwnF W base v' rs' := Cl.own_base O hb
    exact O2.blk (fun j hj => set_ne _ _ _ _ _ (fun e => by
      have := (World.ownsRow.lt O j hj).1
      omega))
  · intro j hj
    have := World.ownsRow.lt O j hj
    exact .inr ⟨this.1, by rw [hs]; exact this.2⟩
  · intro j hj
    rcases hj with h | h
    · have := H.low j h
      exact ⟨this.1, by rw [hs]; exact Nat.lt_of_lt_of_le this.2 B.size⟩
    · exact ⟨Nat.le_trans hb h.1, h.2⟩
  · have F : Fr P w W := (Fr.refl P w).below B
    exact F.set (.inl H.pg) 0 v'
end Go.Proofs.Ytgffojafdjcdoaa.Qc

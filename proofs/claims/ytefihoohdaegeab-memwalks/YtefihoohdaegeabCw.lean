/- A cursor's walk by places: 0 is ahead, 1 to n are the entries, n + 1 is behind. -/
import Derived.Test.YtefihoohdaegeabCr
namespace Go.Proofs.Ytefihoohdaegeab.Cw
open Go.ChangeShapes Go.WideShapes Go.ChangeAt Go.RowKit Go.Shelf
open Go.Sort (grow)
open Go.Proofs.Ytefihoohdaegeab.Lx (hid)
open Go.Proofs.Ytefihoohdaegeab.Ee (E ze)
open Go.Proofs.Ytefihoohdaegeab.Nw (c4)
open Go.Proofs.Ytefihoohdaegeab.Sg
open Go.Proofs.Ytefihoohdaegeab.In
open Go.Proofs.Ytefihoohdaegeab.Fm
open Go.Proofs.Ytefihoohdaegeab.Tb
open Go.Proofs.Ytefihoohdaegeab.Eo
open Go.Proofs.Ytefihoohdaegeab.Et (ents)
open Go.Proofs.Ytefihoohdaegeab.Cr
open Go.Proofs.Ytefihoohdaegeab.Mm (box_below)
open Go.Proofs.Ytefihoohdaegeab.Gs
open Go.Proofs.Ytefihoohdaegeab.Ls
open Go.Proofs.Ytefihoohdaegeab.Tr (new_at cell_of size_alloc blk_lt set_of fz_of set_ne)
set_option linter.unusedVariables false
set_option linter.unusedSimpArgs false

theorem walk_to (gc gl fa fb : Nat) (i fr to : Int) (w : World) (H : Cb w gc gl i) (hi : i ≠ fr) (hj : i = to) :
    Calls Try.prog 22 #[.pointer (some ⟨gc, 0, none⟩), .agg #[.func (.func fa) #[.pointer (some ⟨gl, 0, none⟩)] #[], .func (.func fb) #[.pointer (some ⟨gl, 0, none⟩)] #[], .int .i64 fr, .int .i64 to]] w fun e w' => e = .returned (.bool false) ∧ Below w.heap.size w w' := by
  have B0 := box_below w (.cells #[.func (.func fa) #[.pointer (some ⟨gl, 0, none⟩)] #[], .func (.func fb) #[.pointer (some ⟨gl, 0, none⟩)] #[], .int .i64 fr, .int .i64 to] 63)
  have a1 := (H.later B0).c1
  have hif : (i == fr) = false := by simpa using hi
  have hjt : (i == to) = true := by simpa using hj
  replace B0 := hid B0
  replace hi := hid hi
  replace hj := hid hj
  clear H
  go_enter Try.func22, Try.ntmps22
  go_wp2_with fail
  go_ret
  exact ⟨rfl, B0.out⟩
/-- The node's number at a place. -/
def nu (ord : List Nat) (p : Nat) : Nat := if p = 0 then 0 else ord.getD (p - 1) 0
/-- What the cursor holds at a place. -/
def atP (ord : List Nat) (p : Nat) : Int := if p ≤ ord.length then (nu ord p : Int) else -1
def nxt (ord : List Nat) (p : Nat) : Nat := if p ≤ ord.length then p + 1 else p
theorem split_at {ord : List Nat} {j : Nat} (h : j < ord.length) : ord = ord.take j ++ ord.getD j 0 :: ord.drop (j + 1) := by
  rw [List.getD_eq_getElem?_getD, List.getElem?_eq_getElem h]
  simp
theorem hz_drop (ord : List Nat) (j : Nat) : hz (ord.drop j) = ord.getD j 0 := by
  by_cases h : j < ord.length
  · rw [List.drop_eq_getElem_cons h, List.getD_eq_getElem?_getD, List.getElem?_eq_getElem h]; rfl
  · rw [List.drop_eq_nil_of_le (by omega), List.getD_eq_getElem?_getD, List.getElem?_eq_none (by omega)]; rfl
theorem last_take {ord : List Nat} {j : Nat} (h : j ≤ ord.length) : (ord.take j).getLastD 0 = nu ord j := by
  unfold nu
  cases j with
  | zero => rfl
  | succ j =>
    rw [if_neg (by omega), List.take_succ_eq_append_getElem (by omega)]
    rw [show j + 1 - 1 = j by omega, List.getD_eq_getElem?_getD, List.getElem?_eq_getElem (by omega)]
    rw [List.getLastD_eq_getLast?, List.getLast?_concat]
theorem nu_pos {ns : List N} {ord : List Nat} (G : Gd ns ord) {p : Nat} (h1 : 1 ≤ p) (h2 : p ≤ ord.length) : 1 ≤ nu ord p ∧ nu ord p ≤ ns.length := by
  unfold nu
  rw [if_neg (by omega), List.getD_eq_getElem?_getD, List.getElem?_eq_getElem (by omega)]
  exact (G.mem _).1 (List.getElem_mem _)
theorem nu_out {ord : List Nat} {p : Nat} (h : ord.length < p) : nu ord p = 0 := by
  unfold nu
  rw [if_neg (by omega), List.getD_eq_getElem?_getD, List.getElem?_eq_none (by omega)]; rfl
theorem fp_set {w w2 : World} {gc : Nat} (b : Below w.heap.size w w2) (v : Value) : Fp (fun j => j = gc) w (w2.setCell ⟨gc, 1, none⟩ v) := (Fp.of (P := fun j => j = gc) b).set (.inl rfl) 1 v
theorem std_nu {ns : List N} {ord : List Nat} (G : Gd ns ord) (p : Nat) (h1 : 1 ≤ p) : std (nu ord p : Int) (-1) = (if p ≤ ord.length then (nu ord p : Int) else -1) ∧ nz (nu ord p : Int) = decide (p ≤ ord.length) := by
  unfold std nz
  by_cases h : p ≤ ord.length
  · have := nu_pos G h1 h
    rw [if_neg (by omega), if_pos h]
    exact ⟨rfl, by rw [show decide (p ≤ ord.length) = true from decide_eq_true h]; exact decide_eq_true (by omega)⟩
  · rw [nu_out (by omega)]
    simp [h]
set_option maxHeartbeats 1000000 in
theorem next_any (base gc gl bl : Nat) (ns : List N) (ord : List Nat) (p : Nat) (w : World) (G : Gd ns ord) (HS : SL w base gl bl 1048576 ns ord) (H : Cb w gc gl (atP ord p)) (hp : p ≤ ord.length + 1) :
    Calls Try.prog 11 #[.pointer (some ⟨gc, 0, none⟩)] w fun e w' => e = .returned (.bool (decide (p < ord.length))) ∧ Cb w' gc gl (atP ord (nxt ord p)) ∧ Fp (fun j => j = gc) w w' := by
  refine nextc gc gl (atP ord p) (decide (p < ord.length)) (fun w' => Cb w' gc gl (atP ord (nxt ord p)) ∧ Fp (fun j => j = gc) w w') w H (fun W b => ?_)
  have HW := H.later b
  have eF := enters_of Try.func23 (by kernel_rfl) rfl
  have eN := enters_of Try.func24 (by kernel_rfl) rfl
  by_cases h0 : p = 0
  · subst h0
    have e0 : atP ord 0 = 0 := by unfold atP nu; simp
    have en : nxt ord 0 = 1 := by unfold nxt; simp
    rw [e0] at HW
    have := walk_from gc gl _ 24 0 0 (-1) (nu ord 1 : Int) W HW eF eN rfl (fun V c => (firstof_any base gl bl 1048576 ns ord V (HS.later (b.trans (c.mono b.size)))).mono fun e w' h => ⟨by rw [h.1]; unfold nu; rw [if_neg (by omega), ← hz_drop]; rfl, by rw [h.2]; exact Below.refl _ _⟩)
    refine this.mono ?_
    rintro e w' ⟨rfl, w2, b2, rfl⟩
    obtain ⟨s1, s2⟩ := std_nu G 1 (Nat.le_refl _)
    rw [s1, s2, en]
    refine ⟨by rw [show decide (1 ≤ ord.length) = decide (0 < ord.length) from rfl], (HW.later b2).set _, fp_set (b.trans (b2.mono b.size)) _⟩
  · by_cases h1 : p ≤ ord.length
    · have hn := nu_pos G (by omega) h1
      have e0 : atP ord p = (nu ord p : Int) := by unfold atP; rw [if_pos h1]
      have en : nxt ord p = p + 1 := by unfold nxt; rw [if_pos h1]
      rw [e0] at HW
      have hnu : nu ord p = ord.getD (p - 1) 0 := by unfold nu; rw [if_neg h0]
      have := walk_on gc gl 23 _ (nu ord p : Int) 0 (-1) (nu ord (p + 1) : Int) W HW eF eN (by omega) (by omega) (fun V c => (nextof_any base gl bl 1048576 ns ord (ord.take (p - 1)) (ord.drop (p - 1 + 1)) (nu ord p) V (HS.later (b.trans (c.mono b.size))) (by rw [hnu]; exact split_at (by omega))).mono fun e w' h => ⟨by rw [h.1, hz_drop]; unfold nu; rw [if_neg (by omega), show p + 1 - 1 = p - 1 + 1 by omega], by rw [h.2]; exact Below.refl _ _⟩)
      refine this.mono ?_
      rintro e w' ⟨rfl, w2, b2, rfl⟩
      obtain ⟨s1, s2⟩ := std_nu G (p + 1) (by omega)
      rw [s1, s2, en]
      exact ⟨rfl, (HW.later b2).set _, fp_set (b.trans (b2.mono b.size)) _⟩
    · have e0 : atP ord p = -1 := by unfold atP; rw [if_neg h1]
      have en : nxt ord p = p := by unfold nxt; rw [if_neg h1]
      rw [e0] at HW
      refine (walk_to gc gl _ _ (-1) 0 (-1) W HW (by omega) rfl).mono ?_
      rintro e w' ⟨rfl, b2⟩
      rw [en, e0]
      exact ⟨by rw [show decide (p < ord.length) = false by simp; omega], HW.later b2, Fp.of (b.trans (b2.mono b.size))⟩
theorem std_prev {ns : List N} {ord : List Nat} (G : Gd ns ord) (p : Nat) (h : p ≤ ord.length) : std (nu ord p : Int) 0 = (nu ord p : Int) ∧ nz (nu ord p : Int) = decide (1 ≤ p) := by
  unfold std nz
  by_cases h1 : 1 ≤ p
  · have := nu_pos G h1 h
    rw [if_neg (by omega)]
    exact ⟨rfl, by rw [show decide (1 ≤ p) = true from decide_eq_true h1]; exact decide_eq_true (by omega)⟩
  · have : p = 0 := by omega
    subst this
    simp [nu]
set_option maxHeartbeats 1000000 in
theorem prev_any (base gc gl bl : Nat) (ns : List N) (ord : List Nat) (p : Nat) (w : World) (G : Gd ns ord) (HS : SL w base gl bl 1048576 ns ord) (H : Cb w gc gl (atP ord p)) (hp : p ≤ ord.length + 1) :
    Calls Try.prog 12 #[.pointer (some ⟨gc, 0, none⟩)] w fun e w' => e = .returned (.bool (decide (2 ≤ p))) ∧ Cb w' gc gl (atP ord (p - 1)) ∧ Fp (fun j => j = gc) w w' := by
  refine prevc gc gl (atP ord p) (decide (2 ≤ p)) (fun w' => Cb w' gc gl (atP ord (p - 1)) ∧ Fp (fun j => j = gc) w w') w H (fun W b => ?_)
  have HW := H.later b
  have eF := enters_of Try.func25 (by kernel_rfl) rfl
  have eN := enters_of Try.func26 (by kernel_rfl) rfl
  have ep : atP ord (p - 1) = (nu ord (p - 1) : Int) := by unfold atP; rw [if_pos (by omega)]
  obtain ⟨s1, s2⟩ := std_prev G (p - 1) (by omega)
  by_cases h1 : p = ord.length + 1
  · have e0 : atP ord p = -1 := by unfold atP; rw [if_neg (by omega)]
    rw [e0] at HW
    have hl : ord.getLastD 0 = nu ord (p - 1) := by
      have := last_take (ord := ord) (j := ord.length) (Nat.le_refl _)
      rw [List.take_length] at this
      rw [this, show p - 1 = ord.length by omega]
    have := walk_from gc gl _ 26 (-1) (-1) 0 (nu ord (p - 1) : Int) W HW eF eN rfl (fun V c => (lastof_any base gl bl 1048576 ns ord V (HS.later (b.trans (c.mono b.size)))).mono fun e w' h => ⟨by rw [h.1, hl], by rw [h.2]; exact Below.refl _ _⟩)
    refine this.mono ?_
    rintro e w' ⟨rfl, w2, b2, rfl⟩
    rw [s1, s2, ep]
    refine ⟨by congr 2; simp; omega, (HW.later b2).set _, fp_set (b.trans (b2.mono b.size)) _⟩
  · have e0 : atP ord p = (nu ord p : Int) := by unfold atP; rw [if_pos (by omega)]
    rw [e0] at HW
    by_cases h0 : p = 0
    · subst h0
      have e1 : (nu ord 0 : Int) = 0 := rfl
      rw [e1] at HW
      refine (walk_to gc gl _ _ 0 (-1) 0 W HW (by omega) rfl).mono ?_
      rintro e w' ⟨rfl, b2⟩
      exact ⟨rfl, by rw [show (0 : Nat) - 1 = 0 from rfl, e0, e1]; exact HW.later b2, Fp.of (b.trans (b2.mono b.size))⟩
    · have hn := nu_pos G (show 1 ≤ p by omega) (by omega)
      have hnu : nu ord p = ord.getD (p - 1) 0 := by unfold nu; rw [if_neg h0]
      have := walk_on gc gl 25 _ (nu ord p : Int) (-1) 0 (nu ord (p - 1) : Int) W HW eF eN (by omega) (by omega) (fun V c => (prevof_any base gl bl 1048576 ns ord (ord.take (p - 1)) (ord.drop (p - 1 + 1)) (nu ord p) V (HS.later (b.trans (c.mono b.size))) (by rw [hnu]; exact split_at (by omega))).mono fun e w' h => ⟨by rw [h.1, last_take (by omega)], h.2⟩)
      refine this.mono ?_
      rintro e w' ⟨rfl, w2, b2, rfl⟩
      rw [s1, s2, ep]
      refine ⟨by congr 2; simp; omega, (HW.later b2).set _, fp_set (b.trans (b2.mono b.size)) _⟩
/-- Here, by places. -/
theorem here_at (base gc gl bl : Nat) (S : St) (p : Nat) (w : World) (W : Wf S) (HS : SL w base gl bl 1048576 S.ns S.ord) (H : Cb w gc gl (atP S.ord p)) (hp : p ≤ S.ord.length + 1) :
    Calls Try.prog 10 #[.pointer (some ⟨gc, 0, none⟩)] w fun e w' => e = .returned (.tuple #[.agg (c4 (entN S.ns (nu S.ord p))), .bool (decide (1 ≤ p ∧ p ≤ S.ord.length))]) ∧ Below w.heap.size w w' := by
  by_cases h : 1 ≤ p ∧ p ≤ S.ord.length
  · have hn := nu_pos W.gd h.1 h.2
    obtain ⟨_, x, hx⟩ := Gt.entN_ok W hn.2
    have e0 : atP S.ord p = (nu S.ord p : Int) := by unfold atP; rw [if_pos h.2]
    rw [e0] at H
    have := here_any base gc gl bl S.ns S.ord _ (nu S.ord p) x hx (.inl ⟨rfl, hn.2⟩) w H HS
    rw [show decide (nu S.ord p ≠ 0) = decide (1 ≤ p ∧ p ≤ S.ord.length) by simp [h]; omega] at this
    exact this
  · have e1 : nu S.ord p = 0 := by
      by_cases h0 : p = 0
      · rw [h0]; rfl
      · exact nu_out (by omega)
    have e2 : atP S.ord p < 1 := by unfold atP; split <;> omega
    have := here_any base gc gl bl S.ns S.ord (atP S.ord p) 0 ⟨#[]⟩ (.inr rfl) (.inr ⟨rfl, .inl e2⟩) w H HS
    rw [e1]
    rw [show decide ((0 : Nat) ≠ 0) = decide (1 ≤ p ∧ p ≤ S.ord.length) by simp [h]] at this
    exact this
end Go.Proofs.Ytefihoohdaegeab.Cw

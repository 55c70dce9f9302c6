/- Parts of a row of entries as slices; entries put behind a row of one's own. -/
import Derived.Test.YtefihoohdaegeaaDb
namespace Go.Proofs.Ytefihoohdaegeaa.Dp
open Go.ChangeShapes Go.WideShapes Go.ChangeAt Go.RowKit Go.Shelf
open Go.Sort (grow)
open Go.Proofs.Ytefihoohdaegeaa.Lx (hid lt)
open Go.Proofs.Ytefihoohdaegeaa.Ik
open Go.Proofs.Ytefihoohdaegeaa.Ck
open Go.Proofs.Ytefihoohdaegeaa.Da
open Go.Proofs.Ytefihoohdaegeaa.Db
open Go.Proofs.Ytefihoohdaegeaa.Ee (E ze Ents At4)
open Go.Proofs.Ytefihoohdaegeaa.Eo
open Go.Proofs.Ytefihoohdaegeaa.Fm (own_lt own_blocks)
open Go.Proofs.Ytefihoohdaegeaa.Mm (box_below)
open Go.Proofs.Ytefihoohdaegeaa.Tr (new_at cell_of size_alloc blk_lt fz_of set_of set_ne)
set_option linter.unusedVariables false
set_option linter.unusedSimpArgs false

theorem ecs_one : ∀ xs : List E, ∀ u ∈ ecs xs, u.oneCell' = true
  | [], u, h => by simp [ecs] at h
  | x :: l, u, h => by
    have h' : u ∈ ec x ++ ecs l := h
    rcases List.mem_append.1 h' with h | h
    · simp [ec] at h
      rcases h with rfl | rfl | rfl | rfl <;> rfl
    · exact ecs_one l u h
theorem ents_cells {w : World} {ad : Addr} {n c : Nat} {xs : List E} (H : Ents w (some ad) n c xs) : ∀ (q : Nat) (u : Value), (ecs xs)[q]? = some u → w.cell? (ad.add q) = some u := by
  intro q u hq
  have hql : q < (ecs xs).length := by
    rcases Nat.lt_or_ge q (ecs xs).length with h | h
    · exact h
    · rw [List.getElem?_eq_none h] at hq; cases hq
  rw [ecs_len] at hql
  obtain ⟨b, o, p⟩ := ad
  have hl := H.1
  obtain ⟨rfl, hat⟩ := H.2.2.2.2 b o p rfl (by omega)
  have h3 := hat (q / 4) (by omega)
  have hg := ecs_get xs (q / 4) (by omega)
  rw [Tm.addr_add]
  have hq3 : q % 4 = 0 ∨ q % 4 = 1 ∨ q % 4 = 2 ∨ q % 4 = 3 := by omega
  rcases hq3 with h | h | h | h
  · have e : q = q / 4 * 4 := by omega
    rw [e] at hq ⊢
    rw [hg.1] at hq
    rw [← hq]; exact h3.1
  · have e : q = q / 4 * 4 + 1 := by omega
    rw [e] at hq ⊢
    rw [hg.2.1] at hq
    rw [← hq]
    have := h3.2.1
    rwa [Nat.add_assoc] at this
  · have e : q = q / 4 * 4 + 2 := by omega
    rw [e] at hq ⊢
    rw [hg.2.2.1] at hq
    rw [← hq]
    have := h3.2.2.1
    rwa [Nat.add_assoc] at this
  · have e : q = q / 4 * 4 + 3 := by omega
    rw [e] at hq ⊢
    rw [hg.2.2.2] at hq
    rw [← hq]
    have := h3.2.2.2
    rwa [Nat.add_assoc] at this
theorem app_ents (w : World) (base : Nat) (v : Value) (l : List E) (H : OwnE w base v l) (a : Option Addr) (m c : Nat) (ys : List E) (HB : Ents w a m c ys) (hn : (l.length + m) * 48 ≤ 140737488355328) (hbase : base ≤ w.heap.size) :
    ∃ v' w', (Builtin.append_ #[25, 25] 25 #[v, .slice a m c]).run Try.prog w = .ok v' w' ∧ OwnE w' base v' (l ++ ys) ∧ w.grownBy w' v.ownBlock := by
  obtain ⟨i0, hi, hz0, hz1, hz2⟩ := info_parts infoE
  cases a with
  | none =>
    obtain ⟨rfl, rfl⟩ := HB.2.2.1 rfl
    have hy : ys = [] := List.eq_nil_of_length_eq_zero HB.1
    subst hy
    exact ⟨v, w, run_append_owned_none (P := Try.prog) (w := w) base 25 25 56 i0 4 Try.underlying25 hi v l.length _ H, by rw [List.append_nil]; exact H, World.grownBy.refl _ _⟩
  | some ad =>
    obtain ⟨v5, W5, r5, o5, g5, _⟩ := run_append_own_at (P := Try.prog) w base 25 25 56 i0 _ 4 48 Try.underlying25 hi hz0 hz1 hz2 rfl (by decide) v l.length _ H ad m c (ecs ys) (by rw [ecs_len, HB.1]) (ents_cells HB) (ecs_one ys) (by unfold maxLen; omega) (by omega) hbase
    refine ⟨v5, W5, r5, ?_, g5⟩
    unfold OwnE
    rw [List.length_append, ecs_append, HB.1]
    exact o5
/-- A row's beginning and its rest, as slices. -/
theorem parts {W0 : World} {base : Nat} {a : Option Addr} {c : Nat} {es : List E} (P : Nat) (O : OwnE W0 base (.slice a es.length c) es) (hok : ∀ x ∈ es, x.ok) (hP : P ≤ es.length) :
    ∃ a1 c1 a2 c2, (∀ W : World, (Instr.slice 25 (.slice a es.length c) none (some (.int .i64 (P : Int))) none).run Try.prog W = .ok (.slice a1 P c1) W) ∧ (∀ W : World, (Instr.slice 25 (.slice a es.length c) (some (.int .i64 (P : Int))) none none).run Try.prog W = .ok (.slice a2 (es.length - P) c2) W) ∧
      (∀ W : World, OwnE W base (.slice a es.length c) es → Ents W a1 P c1 (es.take P) ∧ Ents W a2 (es.length - P) c2 (es.drop P)) := by
  have hok1 : ∀ x ∈ es.take P, x.ok := fun x hx => hok x (List.mem_of_mem_take hx)
  have hok2 : ∀ x ∈ es.drop P, x.ok := fun x hx => hok x (List.mem_of_mem_drop hx)
  have hl1 : (es.take P).length = P := by rw [List.length_take]; omega
  have hl2 : (es.drop P).length = es.length - P := List.length_drop
  rcases O.2 with ⟨e, h0⟩ | ⟨g, cap, cur, e, hb, hg, hn, hm, hs, ht⟩
  · simp only [Value.slice.injEq] at e
    obtain ⟨rfl, e1, rfl⟩ := e
    have e2 : es = [] := List.eq_nil_of_length_eq_zero h0
    subst e2
    have e3 : P = 0 := by simpa using hP
    subst e3
    refine ⟨none, 0, none, 0, fun W => ?_, fun W => ?_, fun W _ => ⟨⟨rfl, Nat.le_refl _, fun _ => ⟨rfl, rfl⟩, hok1, fun _ _ _ h => by simp at h⟩, ⟨rfl, Nat.le_refl _, fun _ => ⟨rfl, rfl⟩, hok2, fun _ _ _ h => by simp at h⟩⟩⟩
    · simp [go_sem]
    · simp [go_sem]
  · simp only [Value.slice.injEq] at e
    obtain ⟨rfl, e1, rfl⟩ := e
    have i1 : (P : Int) ≤ (es.length : Int) := by omega
    have i2 : (P : Int) ≤ (c : Int) := by omega
    have i3 : (es.length : Int) ≤ (c : Int) := by omega
    have i4 : es.length ≤ c := hn
    have i5 : P ≤ c := by omega
    have at_ : ∀ W : World, OwnE W base (.slice (some ⟨g, 0, none⟩) es.length c) es → ∀ i, i < es.length → At4 W g (i * 4) (es.getD i ze) := fun W hW i hi => by
      obtain ⟨g0, g1, g2, g3⟩ := ecs_get es i hi
      have hc := World.ownsRow.cells hW (g := g) rfl
      have e0 := hc _ _ g0
      have e1 := hc _ _ g1
      have e2 := hc _ _ g2
      have e3 := hc _ _ g3
      rw [Tm.addr_add, Nat.zero_add] at e0 e1 e2 e3
      exact ⟨e0, e1, e2, e3⟩
    refine ⟨some ⟨g, 0, none⟩, c, some ⟨g, if c = P then 0 else P * 4, none⟩, c - P, fun W => ?_, fun W => ?_, fun W hW => ⟨⟨hl1, i5, (fun e => by cases e), hok1, fun b o p hp h0 => ?_⟩, ⟨hl2, by omega, (fun e => by cases e), hok2, fun b o p hp h0 => ?_⟩⟩⟩
    · simp [go_sem, i1, i2, i3, i4, i5, hP]
    · by_cases hcp : c = P
      · rw [if_pos hcp]; simp [go_sem, i1, i2, i3, i4, i5, hP, hcp]
      · rw [if_neg hcp]; simp [go_sem, i1, i2, i3, i4, i5, hP, hcp]
    · cases hp
      refine ⟨rfl, fun i hi => ?_⟩
      have := at_ W hW i (by omega)
      rw [show (es.take P).getD i ze = es.getD i ze by rw [List.getD_eq_getElem?_getD, List.getD_eq_getElem?_getD, List.getElem?_take_of_lt hi], Nat.zero_add]
      exact this
    · rw [if_neg (by omega)] at hp
      cases hp
      refine ⟨rfl, fun i hi => ?_⟩
      have := at_ W hW (P + i) (by omega)
      rw [show (es.drop P).getD i ze = es.getD (P + i) ze by rw [List.getD_eq_getElem?_getD, List.getD_eq_getElem?_getD, List.getElem?_drop], show P * 4 + i * 4 = (P + i) * 4 by omega]
      exact this
end Go.Proofs.Ytefihoohdaegeaa.Dp

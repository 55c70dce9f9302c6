/- The law's spoil: bytes of one's own are written over. -/
import Derived.Test.YtgkoopciajjonaaDoorLn
import Derived.Test.YtgkoopciajjonaaDoorWa
namespace Go.Proofs.YtgkoopciajjonaaDoor.Sp
open Go.ChangeShapes Go.WideShapes Go.ChangeAt Go.RowKit
open Go.Proofs.YtgkoopciajjonaaDoor.Ck
open Go.Proofs.YtgkoopciajjonaaDoor.Wt
set_option linter.unusedVariables false
set_option linter.unusedSimpArgs false

theorem own_set {w : World} {base g n c : Nat} {xs : List Int} (h : Wt.Own w base (.slice (some ⟨g, 0, none⟩) n c) xs) (i : Nat) (hi : i < xs.length) (v : Int) :
    Wt.Own (w.setCell ⟨g, i, none⟩ (.int .u8 v)) base (.slice (some ⟨g, 0, none⟩) n c) (xs.set i v) ∧ w.frozen? ⟨g, i, none⟩ = false ∧ w.cell? ⟨g, i, none⟩ = some (.int .u8 (xs.getD i 0)) := by
  have hcell : w.cell? ⟨g, i, none⟩ = some (.int .u8 (xs.getD i 0)) := by
    have hs := h.shape
    obtain ⟨a, c', he, _⟩ := hs
    simp only [Value.slice.injEq] at he
    obtain ⟨_, rfl, _⟩ := he
    have := World.ownsRow.cellAt h i (by omega)
    rw [this, List.getElem?_map, List.getD_eq_getElem?_getD, List.getElem?_eq_getElem hi]
    rfl
  rcases h.2 with ⟨e, _⟩ | ⟨g', cap, cur, e, hb, hg, hn, hm, hs, ht⟩
  · simp at e
  · simp only [Value.slice.injEq, Option.some.injEq, Addr.mk.injEq, and_true, true_and] at e
    obtain ⟨rfl, rfl, rfl⟩ := e
    refine ⟨⟨by simp, .inr ⟨g, c, cur.setIfInBounds i (.int .u8 v), by simp, hb, by simp [World.setCell, Array.getElem?_modify, hg], by simpa using hn, hm, by simpa using hs, ?_⟩⟩, by simp [World.frozen?, hg], hcell⟩
    rw [Array.toList_setIfInBounds, List.length_set, List.map_set, ← ht, List.take_set]
set_option maxHeartbeats 1000000 in
theorem spoil_any (v : Value) (base : Nat) (xs : List Int) (w : World) (O : Wt.Own w base v xs) (hb : ∀ y ∈ xs, 0 ≤ y ∧ y ≤ 255) (hl : xs.length ≤ 1000000000) :
    Calls Tryd.prog 15 #[v] w fun e w' => (∃ u, e = .returned u) ∧ w.grownBy w' v.ownBlock := by
  obtain ⟨a, c, hv, ha⟩ := O.shape
  subst hv
  rcases ha with rfl | ⟨g, rfl⟩
  · have h0 : xs.length = 0 := by
      rcases O.2 with ⟨_, e0⟩ | ⟨g, c, cur, e, _⟩
      · exact e0
      · simp at e
    rw [h0] at O ⊢
    go_enter Tryd.func15, Tryd.ntmps15
    go_wp2_with fail
    refine wp_loop_rounds 1 ?_
    rw [rounds_succ]
    go_wp2_with fail
    go_end0
    exact ⟨⟨_, rfl⟩, World.grownBy.refl _ _⟩
  · replace O := hid O
    go_enter Tryd.func15, Tryd.ntmps15
    go_wp2_with fail
    go_loopw [2] (fun i wr => ∃ (k : Nat) (zs : List Int), i = .int .i64 (k : Int) ∧ k ≤ xs.length ∧ Hid (zs.length = xs.length ∧ ∀ y ∈ zs, 0 ≤ y ∧ y ≤ 255) ∧ Hid (Wt.Own wr base (.slice (some ⟨g, 0, none⟩) xs.length c) zs) ∧ Hid (w.grownBy wr (some g))) (fun i _ => xs.length - (intOf i).toNat)
    case atStart => exact ⟨0, xs, rfl, Nat.zero_le _, ⟨rfl, hb⟩, O, World.grownBy.refl _ _⟩
    case round =>
      obtain ⟨k, zs, rfl, hk, hz, hO, hG⟩ := hrel
      have hzl := hz.out.1
      by_cases hlt : k < xs.length
      · obtain ⟨O2, f2, c2⟩ := own_set hO.out k (by omega) (((zs.getD k 0) + 1) % 256)
        have hyb : 0 ≤ zs.getD k 0 ∧ zs.getD k 0 ≤ 255 := by
          rw [List.getD_eq_getElem?_getD, List.getElem?_eq_getElem (by omega)]
          exact hz.out.2 _ (List.getElem_mem _)
        have hz2 : Hid ((zs.set k ((zs.getD k 0 + 1) % 256)).length = xs.length ∧ ∀ y ∈ zs.set k ((zs.getD k 0 + 1) % 256), 0 ≤ y ∧ y ≤ 255) := ⟨by simpa using hzl, fun y hy => by
          rcases List.mem_or_eq_of_mem_set hy with h | h
          · exact hz.out.2 y h
          · subst h; omega⟩
        have G2 := hid (grown_trans hG.out (grown_set wr g k (.int .u8 ((zs.getD k 0 + 1) % 256))))
        replace O2 := hid O2
        generalize zs.getD k 0 = y at *
        go_wp2_with fail
        refine ⟨⟨k + 1, _, by push_cast; rfl, by omega, hz2, O2, G2⟩, ?_⟩
        simp [intOf]; omega
      · go_wp2_with fail
        go_end0
        exact ⟨⟨_, rfl⟩, hG.out⟩
end Go.Proofs.YtgkoopciajjonaaDoor.Sp

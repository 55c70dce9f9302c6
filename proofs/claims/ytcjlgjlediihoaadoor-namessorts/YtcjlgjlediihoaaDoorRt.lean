/- What the document's Sort holds: what is left, what is out. -/
import Derived.Test.YtcjlgjlediihoaaDoorRl
import Derived.Test.YtcjlgjlediihoaaDoorSy
import Derived.Laws.AppendOwn
namespace Go.Proofs.YtcjlgjlediihoaaDoor.Rt
open Go.ChangeShapes Go.WideShapes Go.ChangeAt Go.RowKit
open Go.Proofs.YtcjlgjlediihoaaDoor.Gr
open Go.Proofs.YtcjlgjlediihoaaDoor.Es
open Go.Proofs.YtcjlgjlediihoaaDoor.Cf
set_option linter.unusedVariables false
set_option linter.unusedSimpArgs false

theorem sl_to {g n c k : Nat} (hk : k ≤ c) (h0 : 0 < c) (w : World) : (Instr.slice 39 (.slice (some ⟨g, 0, none⟩) n c) none (some (.int .i64 k)) none).run Tryd.prog w = .ok (.slice (some ⟨g, 0, none⟩) k c) w := by
  have h1 : (0 : Int) ≤ k ∧ (k : Int) ≤ c := ⟨by omega, by omega⟩
  have h2 : ¬ c = 0 := by omega
  simp [Instr.slice, Instr.sliceBounds, Instr.sliceBound, asIntOf, run_underlying Tryd.underlying39, h1, h2, hk, Tryd.sizeOf9, Result.andThen, Addr.add]
theorem sl_from {g n c k : Nat} (hk : k + 1 ≤ n) (hn : n ≤ c) (w : World) : (Instr.slice 39 (.slice (some ⟨g, 0, none⟩) n c) (some (.int .i64 ((k : Int) + 1))) none none).run Tryd.prog w = .ok (.slice (some (if c = k + 1 then ⟨g, 0, none⟩ else ⟨g, k + 1, none⟩)) (n - (k + 1)) (c - (k + 1))) w := by
  have h1 : (0 : Int) ≤ (k : Int) + 1 ∧ (k : Int) + 1 ≤ n := ⟨by omega, by omega⟩
  have h2 : ((k : Int) + 1).toNat = k + 1 := by omega
  by_cases hc : c = k + 1
  · simp [Instr.slice, Instr.sliceBounds, Instr.sliceBound, asIntOf, run_underlying Tryd.underlying39, h1, h2, hc, Tryd.sizeOf9, Result.andThen, Addr.add]
  · simp [Instr.slice, Instr.sliceBounds, Instr.sliceBound, asIntOf, run_underlying Tryd.underlying39, h1, h2, hc, Tryd.sizeOf9, Result.andThen, Addr.add]
/-- An element taken out of a row, in its place. -/
theorem cut_run {W : World} {base g c : Nat} {ls : List ByteArray} (o : eStr.Own W base (.slice (some ⟨g, 0, none⟩) ls.length c) ls) {k : Nat} (hk : k < ls.length) (ty : TypeId) :
    ∃ W', (Builtin.append_ #[39, 39] ty #[.slice (some ⟨g, 0, none⟩) k c, .slice (if c = k + 1 then some ⟨g, 0, none⟩ else some ⟨g, k + 1, none⟩) (ls.length - (k + 1)) (c - (k + 1))]).run Tryd.prog W = .ok (.slice (some ⟨g, 0, none⟩) (ls.length - 1) c) W' ∧ eStr.Own W' base (.slice (some ⟨g, 0, none⟩) (ls.length - 1) c) (ls.eraseIdx k) ∧ W.grownBy W' (some g) := by
  rw [show (if c = k + 1 then some (⟨g, 0, none⟩ : Addr) else some ⟨g, k + 1, none⟩) = some (if c = k + 1 then ⟨g, 0, none⟩ else ⟨g, k + 1, none⟩) by split <;> rfl]
  obtain ⟨i0, hi, hz0, hz1, hz2⟩ := info_parts eStr.info
  have hel : (ls.eraseIdx k).length = ls.length - 1 := List.length_eraseIdx_of_lt hk
  unfold El.Own at o
  rcases o.2 with ⟨hnil, hl⟩ | ⟨g', cap, cur, hsv, hbase, hb, h1, h2, h3, h4⟩
  · cases hnil
  · cases hsv
    rw [show eStr.k = 1 from rfl, Nat.mul_one] at h3 h4
    rw [clS] at h4
    obtain ⟨news, hn⟩ : ∃ news, news = (ls.drop (k + 1)).map Value.string := ⟨_, rfl⟩
    have hnl : news.length = ls.length - (k + 1) := by rw [hn, List.length_map, List.length_drop]
    have hcell : ∀ j, j < ls.length → W.cell? ⟨g, j, none⟩ = some (.string (ls.getD j ByteArray.empty)) := by
      intro j hj
      refine cell_of hb j _ ?_
      have : (cur.toList.take ls.length)[j]? = (ls.map Value.string)[j]? := by rw [h4]
      rw [List.getElem?_take_of_lt hj, Array.getElem?_toList, List.getElem?_map, List.getElem?_eq_getElem hj] at this
      rw [this, List.getD_eq_getElem?_getD, List.getElem?_eq_getElem hj]
      rfl
    have hsrc : ∀ j u, news[j]? = some u → W.cell? ((if c = k + 1 then (⟨g, 0, none⟩ : Addr) else ⟨g, k + 1, none⟩).add j) = some u := by
      intro j u hu
      have hj : j < news.length := (List.getElem?_eq_some_iff.1 hu).1
      rw [if_neg (by omega), addr_add, hcell (k + 1 + j) (by omega)]
      rw [hn, List.getElem?_map, List.getElem?_drop] at hu
      rw [List.getD_eq_getElem?_getD]
      rw [List.getElem?_eq_getElem (by omega)] at hu ⊢
      exact hu
    have r := run_append_room (P := Tryd.prog) (w := W) 39 ty 9 i0 Tryd.underlying39 hi g k c cur hb (if c = k + 1 then ⟨g, 0, none⟩ else ⟨g, k + 1, none⟩) (ls.length - (k + 1)) (c - (k + 1)) news (by rw [hz1]; show _ = _ * 1; omega) hsrc (fun u hu => by rw [hn] at hu; obtain ⟨x, _, rfl⟩ := List.mem_map.1 hu; rfl) (by omega) (by rw [hz1]; show k * 1 + _ ≤ _; omega)
    rw [hz1, show eStr.k = 1 from rfl, Nat.mul_one, show k + (ls.length - (k + 1)) = ls.length - 1 by omega] at r
    obtain ⟨row, hrow⟩ : ∃ row, row = (cur.toList.take k ++ news ++ cur.toList.drop (k + news.length)).toArray := ⟨_, rfl⟩
    rw [← hrow] at r
    have hk2 := setRow_heap W g cur row 9 (0, 0) hb
    have ho := fun j (hne : j ≠ g) => setRow_other W g j row hne
    have hz : (W.setRow g row).heap.size = W.heap.size := by simp [World.setRow]
    have hf : (W.setRow g row).os = W.os ∧ (W.setRow g row).tape = W.tape ∧ (W.setRow g row).output = W.output := ⟨rfl, rfl, rfl⟩
    generalize W.setRow g row = W' at *
    have hsz : row.size = cur.size := by
      rw [hrow, List.size_toArray, List.length_append, List.length_append, List.length_take, List.length_drop, Array.length_toList]
      omega
    refine ⟨W', r, ?_, ⟨hf.1, hf.2.1, hf.2.2, Nat.le_of_eq hz.symm, fun j _ hj => ho j (fun e => hj (by rw [e]))⟩⟩
    unfold El.Own
    rw [clS, hel]
    refine ⟨by rw [List.length_map, hel]; exact (Nat.mul_one _).symm, .inr ⟨g, c, row, rfl, hbase, hk2, by omega, h2, by rw [hsz, show eStr.k = 1 from rfl, Nat.mul_one]; exact h3, ?_⟩⟩
    rw [show eStr.k = 1 from rfl, Nat.mul_one, hrow]
    have e1 : cur.toList.take k = (ls.take k).map Value.string := by
      have := congrArg (List.take k) h4
      rw [List.take_take, Nat.min_eq_left (by omega)] at this
      rw [this, List.map_take]
    rw [e1, hn, ← List.map_append, List.eraseIdx_eq_take_drop_succ]
    rw [List.take_append_of_le_length (by rw [List.length_map, List.length_append, List.length_take, List.length_drop]; omega)]
    rw [List.take_of_length_le (by rw [List.length_map, List.length_append, List.length_take, List.length_drop]; omega)]
end Go.Proofs.YtcjlgjlediihoaaDoor.Rt

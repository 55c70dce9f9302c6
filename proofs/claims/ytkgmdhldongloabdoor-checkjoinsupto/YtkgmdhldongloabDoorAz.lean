/- A law for the walk: noughts appended to a row of the call's own. -/
import Derived.Test.YtkgmdhldongloabDoorAp
import Derived.Lib.AppendZerosOnto
namespace Go.Proofs.YtkgmdhldongloabDoor.Az
open Go.ChangeShapes Go.WideShapes Go.ChangeAt Go.RowKit
open Go.Proofs.YtkgmdhldongloabDoor.Ck
set_option linter.unusedVariables false
set_option linter.unusedSimpArgs false

theorem zero_list (m : Nat) : (Builtin.zeroCells #[Value.int .u8 0] m).toList = (List.replicate m (0 : Int)).map (Value.int .u8) := by
  apply List.ext_getElem?
  intro i
  by_cases h : i < m
  · simp [Builtin.zeroCells, h, Nat.mod_one]
  · simp [Builtin.zeroCells, h]
theorem run_zeros {w : World} {base g n c : Nat} {xs : List Int} (R : Row w base g n c xs) (m : Nat) (ty : TypeId) (hb : n + m ≤ 140737488355328) (hbase : base ≤ w.heap.size) :
    ∃ g' c' w', (Builtin.append_ #[22, 3] ty #[.slice (some ⟨g, 0, none⟩) n c, .int .i64 m]).run Tryd.prog w = .ok (.slice (some ⟨g', 0, none⟩) (n + m) c') w' ∧ Row w' base g' (n + m) c' (xs ++ List.replicate m 0) ∧ w.grownBy w' (some g) := by
  obtain ⟨i0, hi, hz0, hz1, hz2⟩ := info_parts info5
  have htn : Tryd.prog.underlying 3 = some (.int .i64) := Tryd.underlying3
  have hw : IntKind.i64.wrap (m : Int) = m := by rw [IntKind.wrap_i64]; omega
  have hneg : ¬ ((m : Int) < 0) := by omega
  have h48i : ¬ (281474976710656 < (m : Int)) := by omega
  rcases R.2 with ⟨h, _⟩ | ⟨g0, cap, cur, hv, hbg, hg, hnc, hcm, hcs, htake⟩
  · simp at h
  simp at hv
  obtain ⟨rfl, rfl⟩ := hv
  have hlen := R.len
  have z1 : (Value.int .u8 0).cells = #[Value.int .u8 0] := rfl
  by_cases hm : m = 0
  · subst hm
    refine ⟨g, c, w, ?_, by simpa using R, World.grownBy.refl _ _⟩
    have hw0 : IntKind.i64.wrap 0 = 0 := by decide
    simp [Builtin.append_, run_underlying Tryd.underlying22, run_underlying htn, sizeOf, typeInfo, hi, hz1, hz2, asInt, asIntOf, hnc, storeCells, hw0]
  by_cases hroom : n + m ≤ c
  · have hst := run_storeCells_at Tryd.prog g n 5 ((List.replicate m (0 : Int)).map (Value.int .u8)) 0 cur w hg (by simp; omega) (one_cell _)
    simp only [Nat.add_zero] at hst
    refine ⟨g, c, w.setRow g (cur.toList.take n ++ (List.replicate m (0 : Int)).map (Value.int .u8) ++ cur.toList.drop (n + ((List.replicate m (0 : Int)).map (Value.int .u8)).length)).toArray, ?_, ?_, ⟨rfl, rfl, rfl, by simp, fun k _ hk => setRow_other w g k _ (fun e => hk (by rw [e]))⟩⟩
    · simp [Builtin.append_, run_underlying Tryd.underlying22, run_underlying htn, sizeOf, typeInfo, zeroValue, hi, hz0, hz1, hz2, asInt, asIntOf, hw, hroom, hneg, h48i, hm, Addr.add_lit, zero_list]
      rw [z1, zero_list, hst]
      simp [Result.andThen]
    · refine ⟨by simp [hlen], .inr ⟨g, c, _, rfl, hbg, setRow_heap w g cur _ 5 _ hg, hroom, hcm, ?_, ?_⟩⟩
      · simp; omega
      · simp only [Nat.mul_one] at htake ⊢
        rw [htake, List.map_append]
        exact List.take_left' (by simp [hlen])
  · have holds : ∀ j u, (xs.map (Value.int .u8))[j]? = some u → w.cell? ((⟨g, 0, none⟩ : Addr).add j) = some u := World.ownsRow.cells R (g := g) rfl
    have hold : (Builtin.firstCells i0.size n (.slice (some ⟨g, 0, none⟩) n c)).run Tryd.prog w.drew = .ok (xs.map (Value.int .u8)).toArray w.drew := run_firstCells_some (P := Tryd.prog) w.drew i0.size n ⟨g, 0, none⟩ n c _ (by rw [hz1]; simp [hlen]) holds
    have hr := Lib.run_append_grow_zeros (P := Tryd.prog) w 22 3 ty 5 i0 (.int .u8 0) .i64 .i64 Tryd.underlying22 htn hi hz0 (some ⟨g, 0, none⟩) n c _ hold m (by omega) (by rw [hz1]; omega) (by omega) (by omega) (by rw [hz2]; omega) (growslice_fits (by omega) (by rw [hz2]; omega))
    have hge := grownCap_ge w (n + m) c 5
    have hcm2 : grownCap w (n + m) c 5 ≤ maxLen := grownCap_le_maxLen w (n + m) c 5 (by unfold maxLen; omega)
    refine ⟨w.heap.size, _, _, hr, ?_, ⟨rfl, rfl, rfl, by simp, fun k hk _ => heap_alloc_old w.drew _ hk⟩⟩
    refine ⟨by simp [hlen], .inr ⟨w.heap.size, _, _, rfl, hbase, heap_alloc_new w.drew _, hge, hcm2, ?_, ?_⟩⟩
    · simp only [Array.size_append, List.size_toArray, size_zeroCells, List.length_map, hlen, z1]
      simp
      omega
    · simp only [Nat.mul_one, Array.toList_append, z1, zero_list, List.append_assoc]
      rw [← List.append_assoc, List.map_append]
      exact List.take_left' (by simp [hlen])

/-- Noughts behind a row of the call's own. -/
theorem app_zeros {w : World} {ops : Array Oper} {rest : List Oper} {o : Oper} {a : Act} {Q : Exit → Act → World → Prop} (hg : o.guard = none) (s x : Operand)
    (ho : o.op = .call { callee := .builtin .append, args := #[s, x], argTypes := #[22, 3] })
    (base g n c : Nat) (xs : List Int) (hs : a.eval s = .slice (some ⟨g, 0, none⟩) n c) (R : Row w base g n c xs) (m : Nat) (hx : a.eval x = .int .i64 m) (hb : n + m ≤ 140737488355328) (hbase : base ≤ w.heap.size)
    (h : ∀ g' c' w', Row w' base g' (n + m) c' (xs ++ List.replicate m 0) → w.grownBy w' (some g) → wpList Tryd.prog ops Q rest (a.put o.dst (.slice (some ⟨g', 0, none⟩) (n + m) c')) w') : wpList Tryd.prog ops Q (o :: rest) a w := by
  obtain ⟨g', c', w', hr, h1, h2⟩ := run_zeros R m o.type hb hbase
  exact Lib.wpList_append_run w hg s x 22 3 ho _ _ hs hx _ w' hr (h g' c' w' h1 h2)
end Go.Proofs.YtkgmdhldongloabDoor.Az

/- The document's Varint; bytes of one's own written over. -/
import Derived.Test.YtkanjbeijoeenaaRe
import Derived.Test.YtkanjbeijoeenaaBb
namespace Go.Proofs.Ytkanjbeijoeenaa.Rv
open Go.ChangeShapes Go.WideShapes Go.ChangeAt Go.RowKit
open Go.Proofs.Ytkanjbeijoeenaa.By
open Go.Proofs.Ytkanjbeijoeenaa.Bl
open Go.Proofs.Ytkanjbeijoeenaa.Mb (hid)
set_option linter.unusedVariables false
set_option linter.unusedSimpArgs false

set_option maxHeartbeats 1000000 in
theorem rvar_any (v : Int) (w : World) (hv : 0 ≤ v ∧ v ≤ 18446744073709551615) :
    Calls Try.prog 32 #[.int .u64 v] w fun e w' => ∃ g c : Nat, e = .returned (.slice (some ⟨g, 0, none⟩) (Vb.vb v).length c) ∧ Row w' w.heap.size g (Vb.vb v).length c (Vb.vb v) ∧ Below w.heap.size w w' := by
  obtain ⟨i0, hi, hz0, hz1, hz2⟩ := info_parts info5
  have hV10 := Vb.vb_le v
  obtain ⟨V, hV⟩ : ∃ V, V = Vb.vb v := ⟨_, rfl⟩
  rw [← hV] at hV10 ⊢
  have HV : Hid (V = Vb.vb v) := hV
  clear hV
  go_enter Try.func32, Try.ntmps32
  go_wp2
  go_loopw [3, 0] (fun b x wr => ∃ k j : Nat, ∃ u : Int, ∃ acc : List Int, x = .int .u64 u ∧ 0 ≤ u ∧ u ≤ 18446744073709551615 ∧ Hid (u < 2 * 128 ^ k) ∧ Hid (acc.length = j) ∧ Hid (acc ++ Vb.vbF k u = V) ∧ Hid (wr.ownsRow w.heap.size 5 1 b j (acc.map (Value.int .u8))) ∧ Hid (Below w.heap.size w wr)) (fun _ x _ => (intOf x).toNat)
  case atStart => exact ⟨9, 0, v, [], rfl, hv.1, hv.2, by show _ < _; rw [Vb.two9]; omega, rfl, by show _ = _; rw [HV.out]; rfl, World.ownsRow_nil _ _ _ _, Below.refl _ _⟩
  case round =>
    obtain ⟨k, j, u, acc, rfl, hu0, hu1, hk, hj, hacc, hrow, hbel⟩ := hrel
    by_cases h : 128 ≤ u
    · obtain ⟨k', hk'⟩ : ∃ k', k = k' + 1 := by
        cases k with
        | zero => have := hk.out; simp at this; omega
        | succ k => exact ⟨k, rfl⟩
      subst hk'
      have e1 : Hid (acc ++ (u % 128 + 128) :: Vb.vbF k' (u / 128) = V) := by
        have := hacc.out
        rw [Vb.vbF_step _ _ h] at this
        exact this
      have hjl : j < V.length := by have := congrArg List.length e1.out; simp at this; have := hj.out; omega
      clear hacc
      have hk2 : Hid (u / 128 < 2 * 128 ^ k') := by show _ < _; have := hk.out; rw [Int.pow_succ] at this; omega
      clear hk
      go_wp2_with (at_builtin; refine wpList_append_own _ rfl _ _ 28 rfl w.heap.size 5 i0 (.int .u8 0) 1 1 Try.underlying28 hi hz0 hz1 hz2 rfl (by decide) _ _ _ rfl (World.ownsRow.alloc hrow.out _) ⟨wr.heap.size, 0, none⟩ 1 1 [.int .u8 (u % 128 + 128)] rfl rfl ?c1 ?c2 ?c3 ?c4 ?c5 ?_)
      case c1 => exact cell_one_new _ _ _
      case c2 => intro u hu; simp at hu; subst hu; rfl
      case c3 => unfold maxLen; omega
      case c4 => omega
      case c5 => have := hbel.out.size; simp; omega
      intro v1 w1 own1 g1 _
      have R1 : Hid (w1.ownsRow w.heap.size 5 1 v1 (j + 1) ((acc ++ [u % 128 + 128]).map (Value.int .u8))) := by
        show World.ownsRow _ _ _ _ _ _ _
        simpa using own1
      have B1 : Hid (Below w.heap.size w w1) := below_own (hbel.out.alloc hbel.out.size _) (World.ownsRow.alloc hrow.out _) g1 (by have := hbel.out.size; simp; omega)
      clear own1 g1 hrow hbel
      go_wp2
      go_roundw
      case rel => exact ⟨k', j + 1, u / 128, acc ++ [u % 128 + 128], by go_num, by omega, by omega, hk2, by show _ = _; have := hj.out; simp; omega, by show _ = _; rw [← e1.out]; simp, R1, B1⟩
      case measure => simp [intOf]; omega
    · have e1 : Hid (acc ++ [u] = V) := by
        have := hacc.out
        rw [Vb.vbF_small _ _ (by omega)] at this
        exact this
      have hjv : Hid (j + 1 = V.length) := by show _ = _; have := congrArg List.length e1.out; simp at this; have := hj.out; omega
      have hjl : j < V.length := by have := hjv.out; omega
      clear hacc hk
      go_wp2_with (at_builtin; refine wpList_append_own _ rfl _ _ 28 rfl w.heap.size 5 i0 (.int .u8 0) 1 1 Try.underlying28 hi hz0 hz1 hz2 rfl (by decide) _ _ _ rfl (World.ownsRow.alloc hrow.out _) ⟨wr.heap.size, 0, none⟩ 1 1 [.int .u8 u] rfl rfl ?d1 ?d2 ?d3 ?d4 ?d5 ?_)
      case d2 => rfl
      case d3 => unfold maxLen; omega
      case d4 => omega
      case d5 => have := hbel.out.size; omega
      intro v1 w1 own1 g1 _
      have B1 : Hid (Below w.heap.size w w1) := below_own (hbel.out.alloc hbel.out.size _) (World.ownsRow.alloc hrow.out _) g1 (by have := hbel.out.size; simp; omega)
      obtain ⟨g, c, hv1, R1⟩ : ∃ g c, v1 = .slice (some ⟨g, 0, none⟩) (j + 1) c ∧ Row w1 w.heap.size g (j + 1) c (acc ++ [u]) := By.shape (by simpa using own1) (by omega)
      subst hv1
      rw [hjv.out, e1.out] at R1
      have HR : Hid (Row w1 w.heap.size g V.length c V) := R1
      clear own1 g1 hrow hbel R1
      go_wp2
      go_ret
      exact ⟨g, c, by rw [← hjv.out]; rfl, HR.out, B1.out⟩

/-! ### Four and eight bytes -/

theorem grown_set (w : World) (g i : Nat) (v : Value) : w.grownBy (w.setCell ⟨g, i, none⟩ v) (some g) := ⟨rfl, rfl, rfl, by simp, fun j hj hne => Below.heap_setCell w _ _ j (fun e => hne (by rw [show j = g from e]))⟩
theorem own_shape {w : World} {base : Nat} {v : Value} {xs : List Int} (h : OwnB w base v xs) : ∃ a c, v = .slice a xs.length c ∧ (a = none ∨ ∃ g, a = some ⟨g, 0, none⟩) := by
  rcases h.2 with ⟨e, h0⟩ | ⟨g, c, cur, e, _⟩
  · exact ⟨none, 0, by rw [e, h0], .inl rfl⟩
  · exact ⟨_, c, e, .inr ⟨g, rfl⟩⟩
theorem own_set {w : World} {base g n c : Nat} {xs : List Int} (h : OwnB w base (.slice (some ⟨g, 0, none⟩) n c) xs) (i : Nat) (hi : i < xs.length) (v : Int) :
    OwnB (w.setCell ⟨g, i, none⟩ (.int .u8 v)) base (.slice (some ⟨g, 0, none⟩) n c) (xs.set i v) ∧ w.frozen? ⟨g, i, none⟩ = false ∧ w.cell? ⟨g, i, none⟩ = some (.int .u8 (xs.getD i 0)) := by
  have hcell : w.cell? ⟨g, i, none⟩ = some (.int .u8 (xs.getD i 0)) := by
    have hs := own_shape h
    obtain ⟨a, c', he, _⟩ := hs
    simp only [Value.slice.injEq] at he
    obtain ⟨_, rfl, _⟩ := he
    have := World.ownsRow.cellAt h i (by omega)
    rw [this, List.getElem?_map, List.getD_eq_getElem?_getD, List.getElem?_eq_getElem hi]
    rfl
  rcases h.2 with ⟨e, _⟩ | ⟨g', cap, cur, e, hb, hg, hn, hm, hs, ht⟩
  · simp at e
  · simp only [Value.slice.injEq, Option.some.injEq, Addr.mk.injEq, and_true, true_and] at e
    obtain ⟨rfl, rfl, rfl⟩ := e
    refine ⟨⟨by simp, .inr ⟨g, c, cur.setIfInBounds i (.int .u8 v), by simp, hb, by simp [World.setCell, Array.getElem?_modify, hg], by simpa using hn, hm, by simpa using hs, ?_⟩⟩, by simp [World.frozen?, hg], hcell⟩
    rw [Array.toList_setIfInBounds, List.length_set, List.map_set, ← ht, List.take_set]
set_option maxHeartbeats 1000000 in
theorem spoil_any (v : Value) (base : Nat) (xs : List Int) (w : World) (O : OwnB w base v xs) (hb : ∀ y ∈ xs, 0 ≤ y ∧ y ≤ 255) (hl : xs.length ≤ 1000000000) :
    Calls Try.prog 15 #[v] w fun e w' => (∃ u, e = .returned u) ∧ w.grownBy w' v.ownBlock := by
  obtain ⟨a, c, hv, ha⟩ := own_shape O
  subst hv
  rcases ha with rfl | ⟨g, rfl⟩
  · have h0 : xs.length = 0 := by
      rcases O.2 with ⟨_, e0⟩ | ⟨g, c, cur, e, _⟩
      · exact e0
      · simp at e
    rw [h0] at O ⊢
    go_enter Try.func15, Try.ntmps15
    go_wp2_with fail
    refine wp_loop_rounds 1 ?_
    rw [rounds_succ]
    go_wp2_with fail
    go_end0
    exact ⟨⟨_, rfl⟩, World.grownBy.refl _ _⟩
  · replace O := hid O
    go_enter Try.func15, Try.ntmps15
    go_wp2_with fail
    go_loopw [2] (fun i wr => ∃ (k : Nat) (zs : List Int), i = .int .i64 (k : Int) ∧ k ≤ xs.length ∧ Hid (zs.length = xs.length ∧ ∀ y ∈ zs, 0 ≤ y ∧ y ≤ 255) ∧ Hid (OwnB wr base (.slice (some ⟨g, 0, none⟩) xs.length c) zs) ∧ Hid (w.grownBy wr (some g))) (fun i _ => xs.length - (intOf i).toNat)
    case atStart => exact ⟨0, xs, rfl, Nat.zero_le _, ⟨rfl, hb⟩, O, World.grownBy.refl _ _⟩
    case round =>
      obtain ⟨k, zs, rfl, hk, hz, hO, hG⟩ := hrel
      have hzl := hz.out.1
      by_cases hlt : k < xs.length
      · obtain ⟨O2, f2, c2⟩ := own_set hO.out k (by omega) (((zs.getD k 0) + 1) % 256)
        have hyb : 0 ≤ zs.getD k 0 ∧ zs.getD k 0 ≤ 255 := by
          rw [List.getD_eq_getElem?_getD, List.getElem?_eq_getElem (by omega)]
          exact hz.out.2 _ (List.getElem_mem _)
        have hz2 : Hid ((zs.set k ((zs.getD k 0 + 1) % 256)).length = xs.length ∧ ∀ y ∈ zs.set k ((zs.getD k 0 + 1) % 256), 0 ≤ y ∧ y ≤ 255) := ⟨by simpa using hzl, fun y hy => by
          rcases List.mem_or_eq_of_mem_set hy with h | h
          · exact hz.out.2 y h
          · subst h; omega⟩
        have G2 := hid (grown_trans hG.out (grown_set wr g k (.int .u8 ((zs.getD k 0 + 1) % 256))))
        replace O2 := hid O2
        generalize zs.getD k 0 = y at *
        go_wp2_with fail
        refine ⟨⟨k + 1, _, by push_cast; rfl, by omega, hz2, O2, G2⟩, ?_⟩
        simp [intOf]; omega
      · go_wp2_with fail
        go_end0
        exact ⟨⟨_, rfl⟩, hG.out⟩
end Go.Proofs.Ytkanjbeijoeenaa.Rv

/- appendHex: bytes to the base 16, put behind. -/
import Derived.Test.YtcjlgjlediihoaaDoorQa
namespace Go.Proofs.YtcjlgjlediihoaaDoor.Rw
open Go.ChangeShapes Go.WideShapes Go.ChangeAt Go.RowKit
open Go.Proofs.YtcjlgjlediihoaaDoor.Ut
open Go.Proofs.YtcjlgjlediihoaaDoor.By
set_option linter.unusedVariables false
set_option linter.unusedSimpArgs false

theorem wp_append_run {P : Program} {w w' : World} {o : Oper} {a : Act} {K : Act → World → Prop} {Q : Exit → Act → World → Prop} (s x : Operand) (t tx : TypeId) (hop : o.op = Op.call { callee := Callee.builtin Builtin.append, args := #[s, x], argTypes := #[t, tx] })
    (u v v' : Value) (hs : a.eval s = u) (hx : a.eval x = v) (hrun : (Builtin.append_ #[t, tx] o.type #[u, v]).run P w = .ok v' w') (hK : K (a.put o.dst v') w') : o.wp P a w K Q := by
  unfold Oper.wp
  simp [execOp, hop, resolve, invoke, builtin, hs, hx, hrun, Result.andThen]
  exact hK
theorem drew_alloc (w : World) (o : Obj) : Below w.heap.size w (w.drew.alloc o) := by
  refine ⟨rfl, rfl, rfl, ?_, ?_⟩
  · show _ ≤ (w.heap.push o).size
    simp
  · intro k hk
    show (w.heap.push o)[k]? = _
    rw [Array.getElem?_push_lt hk]
    simp [hk]
theorem cell_four (w : World) (a b c d : Value) (i : Nat) (v : Value) (h : #[a, b, c, d][i]? = some v) : (w.drew.alloc (.cells #[a, b, c, d] 5)).cell? ⟨w.heap.size, i, none⟩ = some v := by
  have hb : (w.drew.alloc (.cells #[a, b, c, d] 5)).heap[w.heap.size]? = some (.cells #[a, b, c, d] 5) := by
    show (w.heap.push _)[w.heap.size]? = _
    simp
  unfold World.cell?
  simp only [hb]
  first | exact h | simpa using h
def hexs : ByteArray := ⟨#[48, 49, 50, 51, 52, 53, 54, 55, 56, 57, 97, 98, 99, 100, 101, 102]⟩
theorem hexs_at (n : Nat) (h : n < 16) : ((bt hexs n : Nat) : Int) = hd n := by
  have : ∀ k, k < 16 → ((bt hexs k : Nat) : Int) = hd k := by decide +kernel
  exact this n h
theorem hexs_z (z : Int) (n : Nat) (h : z = n) (hn : n < 16) (hz : z.toNat < hexs.size) : ((hexs[z.toNat]'hz).toNat : Int) = hd n := by
  rw [bt_eq, h, Int.toNat_natCast]
  exact hexs_at n hn
set_option maxRecDepth 1000000 in
set_option maxHeartbeats 4000000 in
theorem hex_any (v : Value) (xs : List Int) (t : ByteArray) (base : Nat) (w : World) (H : Own w base v xs) (hbase : base ≤ w.heap.size) (ht : t.size ≤ 1099511627776) (hxl : xs.length ≤ 1099511627776) :
    Calls Tryd.prog 62 #[v, .string t] w fun e w' => ∃ v', e = .returned v' ∧ Own w' base v' (xs ++ hxs (tx t)) ∧ Gr base w w' := by
  have HO := hid H
  clear H
  go_enter Tryd.func62, Tryd.ntmps62
  go_wp2_with fail
  go_loopw [0, 9] (fun b i wr => ∃ k : Nat, i = .int .i64 (k : Int) ∧ k ≤ t.size ∧ Hid (Own wr base b (xs ++ hxs ((tx t).take k))) ∧ Hid (Gr base w wr)) (fun _ i _ => t.size - (intOf i).toNat)
  case atStart => exact ⟨0, rfl, by omega, by show Own _ _ _ _; simpa [hxs] using HO.out, Gr.refl _ _⟩
  case round =>
    obtain ⟨k, rfl, hk, hrow, hbel⟩ := hrel
    clear HO
    by_cases hlt : k < t.size
    · have hi : (t[k]'hlt).toNat = bt t k := bt_eq t k hlt
      have hb := bt_lt t k
      have HT : Hid ((tx t).take (k + 1) = (tx t).take k ++ [((bt t k : Nat) : Int)]) := by
        show _ = _
        have h' : k < (tx t).length := by rw [tx_len]; exact hlt
        rw [List.take_succ_eq_append_getElem h']
        congr 2
        have := tx_get t k
        rw [List.getD_eq_getElem?_getD, List.getElem?_eq_getElem h'] at this
        exact this
      generalize bt t k = b at *
      have hand : bits .and .u8 (b : Int) 15 = ((b % 16 : Nat) : Int) := by
        rw [show (15 : Int) = ((15 : Nat) : Int) from rfl, u8_and_nat b 15 (by omega) (by omega), Nat.and_two_pow_sub_one_eq_mod b 4]
      have bb : Below wr.heap.size wr (wr.drew.alloc (.cells #[.int .u8 92, .int .u8 120, .int .u8 (hd (b / 16)), .int .u8 (hd (b % 16))] 5)) := drew_alloc wr _
      have hO3 := hrow.out.later bb
      have hB3 := hbel.out.trans (Gr.of_below bb (Nat.le_trans hbase hbel.out.size))
      have hll : (hxs ((tx t).take k)).length ≤ 4 * k := by rw [hxs_len, List.length_take, tx_len]; omega
      obtain ⟨v4, w4, r4, O4, g4⟩ := app_built _ base u0 _ (hx b) wr.heap.size 4 hO3 rfl (fun i hi => by
        rcases (by omega : i = 0 ∨ i = 1 ∨ i = 2 ∨ i = 3) with rfl | rfl | rfl | rfl <;> exact cell_four wr _ _ _ _ _ _ rfl) (by rw [List.length_append]; omega) (Nat.le_trans hbase hB3.size)
      have r4 := hid r4
      have O4 : Hid (Own w4 base v4 (xs ++ hxs ((tx t).take (k + 1)))) := by
        show Own _ _ _ _
        rw [HT.out, hxs_append, ← List.append_assoc]
        simpa [hxs] using O4
      have B4 := hid (hB3.trans (Gr.grown hO3 g4 (Nat.le_trans hbase hB3.size)))
      clear bb hO3 hB3 hll g4 hrow hbel HT
      go_wp2_with fail
      refine wp_region_any (by kernel_rfl) ?_
      change wpAny _ _ _ _ _ _ _ (World.drew _)
      refine wpAny_take (i := 0) (v := ?v1) rfl (by kernel_rfl) (by kernel_rfl) (by kernel_rfl) (fun _ _ _ h => h) (Or.inl ⟨by rfl, ?h1⟩) ?_
      case h1 => (intro w; go_simp; try (with_reducible rfl))
      go_simp
      refine wpAny_take (i := 1) (v := ?v2) rfl (by kernel_rfl) (by kernel_rfl) (by kernel_rfl) (fun _ _ _ h => h) (Or.inl ⟨by rfl, ?h2⟩) ?_
      case h2 => (intro w; go_simp; try (with_reducible rfl))
      go_simp
      refine wpAny_take (i := 2) (v := ?v3) rfl (by kernel_rfl) (by kernel_rfl) (by kernel_rfl) (fun _ _ _ h => h) (Or.inl ⟨by rfl, ?h3⟩) ?_
      case h3 => (intro w; go_simp; try (with_reducible rfl))
      go_simp
      refine wpAny_take (i := 3) (v := .int .u8 (hd (b / 16))) rfl (by kernel_rfl) (by kernel_rfl) (by kernel_rfl) (fun _ _ _ h => h) (Or.inl ⟨by rfl, ?h4⟩) ?_
      case h4 =>
        intro w
        go_simp
        rw [dif_pos (by omega)]
        exact congrArg (fun z => Result.ok (Next.value (Value.int IntKind.u8 z)) w) (hexs_z ((b : Int) / 16) (b / 16) (by omega) (by omega) (by show _ < 16; omega))
      go_simp
      refine wpAny_take (i := 4) (v := ?v5) rfl (by kernel_rfl) (by kernel_rfl) (by kernel_rfl) (fun _ _ _ h => h) (Or.inl ⟨by rfl, ?h5⟩) ?_
      case h5 => (intro w; go_simp; try (with_reducible rfl))
      go_simp
      refine wpAny_take (i := 5) (v := ?v6) rfl (by kernel_rfl) (by kernel_rfl) (by kernel_rfl) (fun _ _ _ h => h) (Or.inl ⟨by rfl, ?h6⟩) ?_
      case h6 => (intro w; go_simp; try (with_reducible rfl))
      go_simp
      refine wpAny_take (i := 6) (v := .int .u8 (hd (b % 16))) rfl (by kernel_rfl) (by kernel_rfl) (by kernel_rfl) (fun _ _ _ h => h) (Or.inl ⟨by rfl, ?h7⟩) ?_
      case h7 =>
        intro w
        go_simp
        rw [dif_pos (by omega)]
        exact congrArg (fun z => Result.ok (Next.value (Value.int IntKind.u8 z)) w) (hexs_z ((b : Int) % 16) (b % 16) (by omega) (by omega) (by show _ < 16; omega))
      go_simp
      refine wpAny_ready (rs := [7]) (by kernel_rfl) (by simp) ?_
      refine AllReady.cons rfl (fun K hK => ?_) ?_
      · go_simp
        refine hK _ _ ?_
        clear hK K
        refine wpAny_ready (rs := [8]) (by kernel_rfl) (by simp) ?_
        refine AllReady.cons rfl (fun K hK => ?_) ?_
        · rw [if_pos (by rfl)]
          refine wp_append_run _ _ 60 60 rfl _ _ _ (by rfl) (by rfl) r4.out ?_
          refine hK _ _ ?_
          clear hK K
          go_simp
          refine wpAny_take (i := 9) (v := ?v8) rfl (by kernel_rfl) (by kernel_rfl) (by kernel_rfl) (fun _ _ _ h => h) (Or.inl ⟨by rfl, ?h8⟩) ?_
          case h8 => (intro w; go_simp; try (with_reducible rfl))
          go_simp
          refine wpAny_done (by kernel_rfl) ?_ _
          clear r4
          go_wp2_with fail
          go_roundw
          case rel => exact ⟨k + 1, by go_num, by omega, O4.out, B4.out⟩
          case measure => simp [intOf]; omega
        exact AllReady.nil
      exact AllReady.nil
    · have hk2 : k = t.size := by omega
      subst hk2
      go_wp2_with fail
      go_ret
      refine ⟨_, rfl, ?_, hbel.out⟩
      have := hrow.out
      rw [List.take_of_length_le (by rw [tx_len]; exact Nat.le_refl _)] at this
      exact this
end Go.Proofs.YtcjlgjlediihoaaDoor.Rw

/- Rows of texts and of numbers of the call's own. -/
import Derived.Test.YtempagacpfejdaaFu
namespace Go.Proofs.Ytempagacpfejdaa.St
open Go.ChangeShapes Go.WideShapes Go.ChangeAt Go.RowKit Go.Shelf
open Go.Proofs.Ytempagacpfejdaa.Wd
open Go.Proofs.Ytempagacpfejdaa.Rq
open Go.Proofs.Ytempagacpfejdaa.Op
open Go.Proofs.Ytempagacpfejdaa.By (info5)
set_option linter.unusedVariables false
set_option linter.unusedSimpArgs false

theorem cell_new1 (w : World) (v : Value) (t : TypeId) : (w.alloc (.cells #[v] t)).cell? ⟨w.heap.size, 0, none⟩ = some v := by
  unfold World.cell?
  rw [new_at]
  rfl
theorem wpList_append_run {P : Program} {w w' : World} {ops : Array Oper} {rest : List Oper} {o : Oper} {a : Act} {Q : Exit → Act → World → Prop} (hg : o.guard = none) (s x : Operand) (t tx : TypeId) (hop : o.op = Op.call { callee := Callee.builtin Builtin.append, args := #[s, x], argTypes := #[t, tx] })
    (u v v' : Value) (hs : a.eval s = u) (hx : a.eval x = v) (hrun : (Builtin.append_ #[t, tx] o.type #[u, v]).run P w = .ok v' w') (hK : wpList P ops Q rest (a.put o.dst v') w') : wpList P ops Q (o :: rest) a w := by
  refine wpList_plain hg fun K' hK' => ?_
  unfold Oper.wp
  simp [execOp, hop, resolve, invoke, builtin, hs, hx, hrun, Result.andThen]
  exact hK' _ _ hK
def OwnS (w : World) (base : Nat) (v : Value) (xs : List ByteArray) : Prop := w.ownsRow base 9 1 v xs.length (xs.map Value.string)
theorem infoS : (Try.prog.info? 9).map (fun i => (i.zero, i.size, i.bytes)) = some (some (.string ⟨#[]⟩), 1, 16) := by kernel_rfl
theorem OwnS.nil (w : World) (base : Nat) : OwnS w base (.slice none 0 0) [] := World.ownsRow_nil _ _ _ _
theorem OwnS.empty (w : World) : OwnS (w.alloc (.cells #[] 9)) w.heap.size (.slice (some ⟨w.heap.size, 0, none⟩) 0 0) [] := World.ownsRow_made w #[] 0 (Nat.le_refl _) (by unfold maxLen; omega) rfl
theorem OwnS.later {w w' : World} {base : Nat} {v : Value} {xs : List ByteArray} (h : OwnS w base v xs) (b : Below w.heap.size w w') : OwnS w' base v xs := row_later h b
theorem OwnS.shape {w : World} {base : Nat} {v : Value} {xs : List ByteArray} (h : OwnS w base v xs) : ∃ a c, v = .slice a xs.length c ∧ (a = none ∨ ∃ g, a = some ⟨g, 0, none⟩) := row_shape h
/-- One text put behind a row of them. -/
theorem app_str (w : World) (base : Nat) (v : Value) (xs : List ByteArray) (x : ByteArray) (H : OwnS w base v xs) (hn : (xs.length + 1) * 16 ≤ 140737488355328) (hbase : base ≤ w.heap.size) :
    ∃ v' w', (Builtin.append_ #[32, 32] 32 #[v, .slice (some ⟨w.heap.size, 0, none⟩) 1 1]).run Try.prog (w.alloc (.cells #[.string x] 9)) = .ok v' w' ∧ OwnS w' base v' (xs ++ [x]) ∧ w.grownBy w' v.ownBlock := by
  obtain ⟨i0, hi, hz0, hz1, hz2⟩ := info_parts infoS
  have H2 := row_later H (box_below w (.cells #[.string x] 9))
  obtain ⟨v5, W5, r5, o5, g5, _⟩ := run_append_own (P := Try.prog) (w.alloc (.cells #[.string x] 9)) base 32 32 9 i0 (.string ⟨#[]⟩) 1 16 Try.underlying32 hi hz0 hz1 hz2 rfl (by decide) v xs.length _ H2 ⟨w.heap.size, 0, none⟩ 1 1 [.string x] rfl (by
    intro j u hu
    match j, hu with
    | 0, hu => simp at hu; subst hu; exact cell_new1 w _ _) (by intro u hu; simp at hu; subst hu; rfl) (by unfold maxLen; omega) (by omega) (by rw [size_alloc]; omega)
  refine ⟨v5, W5, r5, ?_, ?_⟩
  · unfold OwnS
    rw [List.length_append, List.map_append]
    exact o5
  · have b1 := box_below w (.cells #[.string x] 9)
    exact ⟨g5.os.trans b1.os, g5.tape.trans b1.tape, g5.output.trans b1.output, Nat.le_trans b1.size g5.size, fun k hk hne => (g5.block k (Nat.lt_of_lt_of_le hk b1.size) hne).trans (b1.block k hk)⟩
/-- A slice of texts put behind a row of them. -/
theorem app_strs (w : World) (base : Nat) (v : Value) (xs : List ByteArray) (a : Option Addr) (len cap : Nat) (ss : List ByteArray) (H : OwnS w base v xs) (S : Strs w a len cap ss) (hn : (xs.length + len) * 16 ≤ 140737488355328) (hbase : base ≤ w.heap.size) :
    ∃ v' w', (Builtin.append_ #[32, 32] 32 #[v, .slice a len cap]).run Try.prog w = .ok v' w' ∧ OwnS w' base v' (xs ++ ss) ∧ w.grownBy w' v.ownBlock := by
  obtain ⟨i0, hi, hz0, hz1, hz2⟩ := info_parts infoS
  cases a with
  | none =>
    obtain ⟨rfl, rfl⟩ := S.2.2.2.1 rfl
    have : ss = [] := List.eq_nil_of_length_eq_zero S.1
    subst this
    refine ⟨v, w, run_append_owned_none (P := Try.prog) (w := w) base 32 32 9 i0 1 Try.underlying32 hi v _ _ H, by rw [List.append_nil]; exact H, ?_⟩
    exact ⟨rfl, rfl, rfl, Nat.le_refl _, fun _ _ _ => rfl⟩
  | some ad =>
    have hl := S.1
    obtain ⟨v5, W5, r5, o5, g5, _⟩ := run_append_own (P := Try.prog) w base 32 32 9 i0 (.string ⟨#[]⟩) 1 16 Try.underlying32 hi hz0 hz1 hz2 rfl (by decide) v xs.length _ H ad len cap (ss.map Value.string) (by simp [hl]) (by
      intro j u hu
      rw [List.getElem?_map] at hu
      cases hj : ss[j]? with
      | none => rw [hj] at hu; simp at hu
      | some y =>
        rw [hj] at hu
        simp at hu
        have hlt : j < ss.length := (List.getElem?_eq_some_iff.1 hj).1
        obtain ⟨b, off, e, hc⟩ := S.2.2.2.2 j (by omega)
        simp at e
        subst e
        rw [List.getD_eq_getElem?_getD, hj] at hc
        rw [addr0, ← hu]
        exact hc) (by intro u hu; obtain ⟨y, _, rfl⟩ := List.mem_map.1 hu; rfl) (by unfold maxLen; omega) (by omega) hbase
    refine ⟨v5, W5, r5, ?_, g5⟩
    unfold OwnS
    rw [List.length_append, List.map_append, hl]
    exact o5
/-- A row of texts is a slice that can be read. -/
theorem own_strs {w : World} {base : Nat} {v : Value} {xs : List ByteArray} (h : OwnS w base v xs) (hs : ∀ s ∈ xs, s.size ≤ 9223372036854775807) : ∃ a c, v = .slice a xs.length c ∧ Strs w a xs.length c xs := by
  rcases h.2 with ⟨e, h0⟩ | ⟨g, c, cur, e, hb, hg, hn, hm, hsz, ht⟩
  · have : xs = [] := List.eq_nil_of_length_eq_zero (by simpa using h0)
    subst this
    exact ⟨none, 0, e, rfl, Nat.le_refl _, hs, fun _ => ⟨rfl, rfl⟩, fun i hi => by simp at hi⟩
  · refine ⟨some ⟨g, 0, none⟩, c, e, rfl, by simpa using hn, hs, fun e => by simp at e, fun i hi => ⟨g, 0, rfl, ?_⟩⟩
    rw [e] at h
    rw [Nat.zero_add, World.ownsRow.cellAt h i (by simpa using hi), List.getElem?_map, List.getD_eq_getElem?_getD, List.getElem?_eq_getElem hi]
    rfl
end Go.Proofs.Ytempagacpfejdaa.St

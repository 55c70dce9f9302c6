/- Two rows of texts side by side; keys gone round and round; filters of some keys and of others. -/
import Derived.Test.YtempagacpfejdabSt
import Derived.Maps.AppendAt
namespace Go.Proofs.Ytempagacpfejdab.Tw
open Go.ChangeShapes Go.WideShapes Go.ChangeAt Go.RowKit Go.Shelf
open Go.Proofs.Ytempagacpfejdab.Wd
open Go.Proofs.Ytempagacpfejdab.Pr
open Go.Proofs.Ytempagacpfejdab.Rq
open Go.Proofs.Ytempagacpfejdab.Bi
open Go.Proofs.Ytempagacpfejdab.Fl
open Go.Proofs.Ytempagacpfejdab.Op
open Go.Proofs.Ytempagacpfejdab.St
set_option linter.unusedVariables false
set_option linter.unusedSimpArgs false

theorem app_str_at (w : World) (base : Nat) (v : Value) (xs : List ByteArray) (x : ByteArray) (H : OwnS w base v xs) (hn : (xs.length + 1) * 16 ≤ 140737488355328) (hbase : base ≤ w.heap.size) :
    ∃ v' w', (Builtin.append_ #[22, 22] 22 #[v, .slice (some ⟨w.heap.size, 0, none⟩) 1 1]).run Try.prog (w.alloc (.cells #[.string x] 9)) = .ok v' w' ∧ OwnS w' base v' (xs ++ [x]) ∧ w.grownBy w' v.ownBlock ∧ (v'.ownBlock = v.ownBlock ∨ v'.ownBlock = some (w.heap.size + 1)) := by
  obtain ⟨i0, hi, hz0, hz1, hz2⟩ := info_parts infoS
  have H2 := row_later H (box_below w (.cells #[.string x] 9))
  obtain ⟨v5, W5, r5, o5, g5, _, q5⟩ := run_append_own_at (P := Try.prog) (w.alloc (.cells #[.string x] 9)) base 22 22 9 i0 (.string ⟨#[]⟩) 1 16 Try.underlying22 hi hz0 hz1 hz2 rfl (by decide) v xs.length _ H2 ⟨w.heap.size, 0, none⟩ 1 1 [.string x] rfl (by
    intro j u hu
    match j, hu with
    | 0, hu => simp at hu; subst hu; exact cell_new1 w _ _) (by intro u hu; simp at hu; subst hu; rfl) (by unfold maxLen; omega) (by omega) (by rw [size_alloc]; omega)
  rw [size_alloc] at q5
  refine ⟨v5, W5, r5, ?_, ?_, q5⟩
  · unfold OwnS
    rw [List.length_append, List.map_append]
    exact o5
  · have b1 := box_below w (.cells #[.string x] 9)
    exact ⟨g5.os.trans b1.os, g5.tape.trans b1.tape, g5.output.trans b1.output, Nat.le_trans b1.size g5.size, fun k hk hne => (g5.block k (Nat.lt_of_lt_of_le hk b1.size) hne).trans (b1.block k hk)⟩
/-- Two rows of texts, in blocks of their own. -/
structure Two (w : World) (n1 : Nat) (u v : Value) (xs ys : List ByteArray) (W : World) : Prop where
  x : OwnS W n1 u xs
  y : OwnS W n1 v ys
  ne : u.ownBlock ≠ v.ownBlock
  lo : Below n1 w W
  sz : n1 ≤ W.heap.size
theorem Two.swap {w : World} {n1 : Nat} {u v : Value} {xs ys : List ByteArray} {W : World} (h : Two w n1 u v xs ys W) : Two w n1 v u ys xs W := ⟨h.y, h.x, fun e => h.ne e.symm, h.lo, h.sz⟩
theorem Two.app {w : World} {n1 : Nat} {u v : Value} {xs ys : List ByteArray} {W : World} (h : Two w n1 u v xs ys W) (s : ByteArray) (hn : (xs.length + 1) * 16 ≤ 140737488355328) :
    ∃ g c W', (Builtin.append_ #[22, 22] 22 #[u, .slice (some ⟨W.heap.size, 0, none⟩) 1 1]).run Try.prog (W.alloc (.cells #[.string s] 9)) = .ok (.slice g (xs.length + 1) c) W' ∧ Two w n1 (.slice g (xs.length + 1) c) v (xs ++ [s]) ys W' := by
  obtain ⟨v', W', r1, o1, g1, q1⟩ := app_str_at W n1 u xs s h.x hn h.sz
  obtain ⟨g, c, rfl, _⟩ := o1.shape
  rw [List.length_append, List.length_singleton] at r1 o1 q1
  refine ⟨g, c, W', r1, o1, World.ownsRow.kept h.y g1 (.inr (fun e => h.ne e.symm)), ?_, h.lo.grown g1 h.sz (fun q e => (World.ownsRow.lt h.x q e).1), Nat.le_trans h.sz g1.size⟩
  rcases q1 with q1 | q1
  · rw [q1]; exact h.ne
  · rw [q1]
    intro e
    have := (World.ownsRow.lt h.y _ e.symm).2
    omega
/-! ### Keys gone round and round -/
def cyc (ks : List ByteArray) (n : Nat) : List ByteArray := (List.range n).map fun i => ks.getD (i % ks.length) ByteArray.empty
theorem cyc_len (ks : List ByteArray) (n : Nat) : (cyc ks n).length = n := by simp [cyc]
theorem cyc_succ (ks : List ByteArray) (n : Nat) : cyc ks (n + 1) = cyc ks n ++ [ks.getD (n % ks.length) ByteArray.empty] := by
  unfold cyc; rw [List.range_succ, List.map_append]; rfl
theorem getD_mem (ks : List ByteArray) (j : Nat) (h : j < ks.length) : ks.getD j ByteArray.empty ∈ ks := by
  rw [List.getD_eq_getElem?_getD, List.getElem?_eq_getElem h]; exact List.getElem_mem _
theorem cyc_mem (ks : List ByteArray) (n : Nat) (h0 : 0 < ks.length) (hn : ks.length ≤ n) (s : ByteArray) : s ∈ cyc ks n ↔ s ∈ ks := by
  constructor
  · intro h
    obtain ⟨i, _, rfl⟩ := List.mem_map.1 h
    exact getD_mem ks _ (Nat.mod_lt _ h0)
  · intro h
    obtain ⟨j, hj, rfl⟩ := List.getElem_of_mem h
    refine List.mem_map.2 ⟨j, by simp; omega, ?_⟩
    rw [Nat.mod_eq_of_lt hj, List.getD_eq_getElem?_getD, List.getElem?_eq_getElem hj]
    rfl
/-! ### Both together -/
theorem flt_or (A B C : List ByteArray) (r k i : Nat) (hi : i < r) (h : ∀ s, s ∈ C ↔ s ∈ A ∨ s ∈ B) : (flt A r k).getD i 0#8 ||| (flt B r k).getD i 0#8 = (flt C r k).getD i 0#8 := by
  apply BitVec.eq_of_getLsbD_eq
  intro j hj
  have hb : ∀ X : List ByteArray, ((flt X r k).getD i 0#8).getLsbD j = decide (8 * i + j ∈ kbs X r k) := fun X => by
    rw [← bit_flt X r k (8 * i + j) (by omega)]
    unfold bitT
    rw [show (8 * i + j) / 8 = i by omega, show (8 * i + j) % 8 = j by omega]
  rw [BitVec.getLsbD_or, hb, hb, hb, ← Bool.decide_or, decide_eq_decide]
  unfold kbs
  simp only [List.mem_flatMap, h]
  constructor
  · rintro (⟨s, h1, h2⟩ | ⟨s, h1, h2⟩)
    · exact ⟨s, .inl h1, h2⟩
    · exact ⟨s, .inr h1, h2⟩
  · rintro ⟨s, h1 | h1, h2⟩
    · exact .inl ⟨s, h1, h2⟩
    · exact .inr ⟨s, h1, h2⟩
theorem mkf_at (A : List ByteArray) (n b i : Nat) (hA : A.length = n) (hi : i < room n b) : (mkf A b).getD i 0#8 = (flt A (room n b) (pb b)).getD i 0#8 := by
  unfold mkf
  rw [List.getD_eq_getElem?_getD, List.getElem?_append_left (by rw [flt_len, hA]; exact hi), List.getD_eq_getElem?_getD, hA]
theorem mkf_end (A : List ByteArray) (n b : Nat) (hA : A.length = n) : (mkf A b).getD (room n b) 0#8 = BitVec.ofNat 8 (pb b) := by
  unfold mkf
  rw [List.getD_eq_getElem?_getD, List.getElem?_append_right (by rw [flt_len, hA]; exact Nat.le_refl _), flt_len, hA]
  simp
end Go.Proofs.Ytempagacpfejdab.Tw

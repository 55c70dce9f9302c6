/- Operations inside a struct that came in, opened, with their reach; operations appended in a guarded operation. -/
import Derived.Test.YtmceanfgcehfeabOo
import Derived.Test.YtmceanfgcehfeabJo
namespace Go.Proofs.Ytmceanfgcehfeab.Ow
open Go.ChangeShapes Go.WideShapes Go.ChangeAt Go.RowKit Go.Joins
open Go.Proofs.Ytmceanfgcehfeab.Ob
set_option linter.unusedVariables false

theorem open_opsw {H : Type} {enc : TypeId × Value → H} {W : World} {v : Value} {fuel : Nat} {y : DataW H × List MemPlace} (hf : DataW.trod enc Try.prog W 0 (fun _ => true) true fuel 26 [v] = some y) (hs : ∀ m ∈ y.1.weights Try.prog 26, m ≤ reachBytes) :
    ∃ a len cap xs, v = .slice a len cap ∧ Ops W a len cap xs ∧ len ≤ 140737488351232 / 40 := by
  rcases Deep.open_slice Try.underlying26 hf with ⟨hcs, hx⟩ | ⟨ad, l, c, m, n, D, Pl, hcs, hb, hl, hm, hmm, hx, hcell⟩
  · simp at hcs
    subst hcs
    exact ⟨none, 0, 0, [], rfl, ⟨rfl, Nat.le_refl _, fun _ => ⟨rfl, rfl⟩, fun _ h => (by simp at h), fun _ _ _ h => by simp at h⟩, by omega⟩
  · simp at hcs
    subst hcs
    obtain ⟨⟨xs, ho⟩, hd⟩ := open_ops hf
    refine ⟨some ad, l, c, xs, rfl, ho, ?_⟩
    rcases hd with ⟨h0, _⟩ | ⟨ll, r, hd, hll⟩
    · omega
    · have sz := hs _ (by rw [hd]; simp only [DataW.weights, Try.underlying26]; exact List.mem_cons_self ..)
      rw [show Try.prog.bytesOf 60 = 40 from by kernel_rfl] at sz
      simp only [reachBytes] at sz
      omega
theorem app_opsg {w : World} {ops : Array Oper} {rest : List Oper} {o : Oper} {act : Act} {Q : Exit → Act → World → Prop} (hw : Region.wanted o (yielded ops act.tmps) = true) (s x : Operand)
    (ho : o.op = .call { callee := .builtin .append, args := #[s, x], argTypes := #[26, 26] })
    (base : Nat) (v : Value) (n : Nat) (xs : List O) (hs : act.eval s = v) (hown : w.ownsRow base 60 3 v n (ocs xs))
    (a : Option Addr) (m c : Nat) (ys : List O) (hx : act.eval x = .slice a m c) (H : Ops w a m c ys) (hnm : n + m ≤ 1000000) (hbase : base ≤ w.heap.size)
    (h : ∀ v' w', w'.ownsRow base 60 3 v' (n + m) (ocs (xs ++ ys)) → w.grownBy w' v.ownBlock → wpList Try.prog ops Q rest (act.put o.dst v') w') : wpList Try.prog ops Q (o :: rest) act w := by
  obtain ⟨i0, hi, hz0, hz1, hz2⟩ := info_parts infoOp
  refine wpList_step fun K hK => ?_
  rw [if_pos hw]
  cases a with
  | none =>
    obtain ⟨rfl, rfl⟩ := H.2.2.1 rfl
    have hy : ys = [] := List.eq_nil_of_length_eq_zero H.1
    subst hy
    have hrun := run_append_owned_none (P := Try.prog) (w := w) base 26 o.type 60 i0 3 Try.underlying26 hi v n _ hown
    unfold Oper.wp
    simp [execOp, ho, resolve, invoke, builtin, hs, hx, hrun, Result.andThen]
    exact hK _ _ (h v w (by simpa using hown) (World.grownBy.refl _ _))
  | some ad =>
    refine wp_append_own w s x 26 ho base 60 i0 (.agg #[.int .i64 0, .string ⟨#[]⟩, .string ⟨#[]⟩]) 3 40 Try.underlying26 hi hz0 hz1 hz2 rfl (by decide) v n (ocs xs) hs hown ad m c (ocs ys) hx (by rw [ocs_len, H.1]) H.cells (ocs_one ys) (by unfold maxLen; omega) (by omega) hbase ?_
    intro v' w' h1 h2 _
    exact hK _ _ (h v' w' (by rw [ocs_append]; exact h1) h2)
end Go.Proofs.Ytmceanfgcehfeab.Ow

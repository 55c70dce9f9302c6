/- A law for the walk: bytes appended to a row of the call's own, whatever their source, in an operation that is guarded or not. -/
import Derived.Test.YtkgmdhldongloabDoorCk
import Derived.Laws.OwnMore
import Derived.Laws.AppendOwn
namespace Go.Proofs.YtkgmdhldongloabDoor.Ap
open Go.ChangeShapes Go.WideShapes Go.ChangeAt Go.RowKit
open Go.Proofs.YtkgmdhldongloabDoor.Ck
set_option linter.unusedVariables false

theorem own_slice {w : World} {base n : Nat} {v : Value} {xs : List Value} (h : w.ownsRow base 5 1 v n xs) (hv : v ≠ .slice none 0 0) : ∃ g c, v = .slice (some ⟨g, 0, none⟩) n c := by
  rcases h.2 with ⟨h, _⟩ | ⟨g, c, _, h, _⟩
  · exact absurd h hv
  · exact ⟨g, c, h⟩
theorem empty_row (w : World) : Row (w.alloc (.cells #[] 5)) w.heap.size w.heap.size 0 0 [] := World.ownsRow_made w #[] 0 (Nat.le_refl _) (by unfold maxLen; omega) rfl
theorem app_own {w : World} {ops : Array Oper} {rest : List Oper} {o : Oper} {a : Act} {Q : Exit → Act → World → Prop} (hw : Region.wanted o (yielded ops a.tmps) = true) (s x : Operand)
    (ho : o.op = .call { callee := .builtin .append, args := #[s, x], argTypes := #[22, 22] })
    (base g n c : Nat) (xs : List Int) (hs : a.eval s = .slice (some ⟨g, 0, none⟩) n c) (R : Row w base g n c xs)
    (ad : Option Addr) (m cap : Nat) (zs : List Int) (hx : a.eval x = .slice ad m cap) (H : Bytes w ad m cap zs) (N : Nat) (hN : n + m = N) (L : List Int) (hL : xs ++ zs = L) (hb : N ≤ 140737488355328) (hbase : base ≤ w.heap.size)
    (h : ∀ g' c' w', Row w' base g' N c' L → w.grownBy w' (some g) → wpList Tryd.prog ops Q rest (a.put o.dst (.slice (some ⟨g', 0, none⟩) N c')) w') : wpList Tryd.prog ops Q (o :: rest) a w := by
  obtain ⟨i0, hi, hz0, hz1, hz2⟩ := info_parts info5
  subst hN
  subst hL
  refine wpList_step fun K hK => ?_
  rw [if_pos hw]
  cases ad with
  | none =>
    obtain ⟨rfl, rfl⟩ := H.2.2.1 rfl
    have hz : zs = [] := List.eq_nil_of_length_eq_zero H.1
    subst hz
    have hrun := run_append_owned_none (P := Tryd.prog) (w := w) base 22 o.type 5 i0 1 Tryd.underlying22 hi _ n _ R
    unfold Oper.wp
    simp [execOp, ho, resolve, invoke, builtin, hs, hx, hrun, Result.andThen]
    exact hK _ _ (h g c w (by simpa using R) (World.grownBy.refl _ _))
  | some ad =>
    refine wp_append_own w s x 22 ho base 5 i0 (.int .u8 0) 1 1 Tryd.underlying22 hi hz0 hz1 hz2 rfl (by decide) _ n _ hs R ad m cap (zs.map (Value.int .u8)) hx (by simp; exact H.1) ((bytes_later H (Below.refl _ _)).2 ad rfl) (one_cell zs) ?_ ?_ hbase ?_
    · unfold maxLen; omega
    · omega
    · intro v' w' own g1 hnil
      obtain ⟨g', c', rfl⟩ := own_slice own (fun e => by have := (hnil.1 e).1; simp at this)
      refine hK _ _ (h g' c' w' ?_ g1)
      unfold Row
      simpa using own
end Go.Proofs.YtkgmdhldongloabDoor.Ap

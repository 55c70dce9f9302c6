/- The reads of what was printed, plain. -/
import Derived.Test.YtnpeocoipodmfaaRi
import Derived.Test.YtnpeocoipodmfaaBe
namespace Go.Proofs.Ytnpeocoipodmfaa.Pb
open Go.ChangeShapes Go.WideShapes Go.ChangeAt Go.RowKit
open Go.Proofs.Ytnpeocoipodmfaa.Nu (nread)
open Go.Proofs.Ytnpeocoipodmfaa.Ri
open Go.Proofs.Ytnpeocoipodmfaa.Bv (vbs)
open Go.Proofs.Ytnpeocoipodmfaa.By (tx)
set_option linter.unusedVariables false

theorem rdk_cons {α : Type} (R : Int → α × Int × Int) (x : α) (p q : Int) (h : R p = (x, q, 0)) : ∀ (n : Nat) (xs : List α) (r : Int), rdk R n q = (xs, r, 0) → rdk R (n + 1) p = (x :: xs, r, 0)
  | 0, xs, r, hn => by
    have e : ([], q, 0) = (xs, r, (0 : Int)) := hn
    cases e
    rw [rdk_succ]
    show (if (0 : Int) ≠ 0 then _ else if (R p).2.2 ≠ 0 then _ else (([] : List α) ++ [(R p).1], (R p).2.1, (0 : Int))) = _
    rw [h]
    simp
  | n + 1, xs, r, hn => by
    have hk : (rdk R n q).2.2 = 0 := by
      by_cases h0 : (rdk R n q).2.2 = 0
      · exact h0
      · have := rdk_stop R n q h0 1
        rw [hn] at this
        rw [← this] at h0
        exact absurd rfl h0
    obtain ⟨ys, s, hs⟩ : ∃ ys s, rdk R n q = (ys, s, 0) := ⟨(rdk R n q).1, (rdk R n q).2.1, by rw [← hk]⟩
    have ih := rdk_cons R x p q h n ys s hs
    rw [rdk_succ, hs] at hn
    rw [rdk_succ, ih]
    simp only [ne_eq, not_true_eq_false, if_false] at hn ⊢
    split at hn
    · rename_i h1
      exact absurd (congrArg (fun t => t.2.2) hn) h1
    · rename_i h1
      rw [if_neg h1]
      cases hn
      rfl
/-- Numbers that were printed are read. -/
theorem nums_back (R : Int → Int × Int × Int) (zs : List Int) (ok : Int → Prop) (hR : ∀ ahead v rest, ok v → zs = ahead ++ (Vb.vb v ++ rest) → R (ahead.length : Nat) = (v, ((ahead.length + (Vb.vb v).length : Nat) : Int), 0)) : ∀ (vs ahead rest : List Int), (∀ v ∈ vs, ok v) → zs = ahead ++ (vbs vs ++ rest) → rdk R vs.length (ahead.length : Nat) = (vs, ((ahead.length + (vbs vs).length : Nat) : Int), 0)
  | [], ahead, rest, _, _ => by simp [rdk, vbs]
  | v :: r, ahead, rest, hok, h => by
    have e : vbs (v :: r) = Vb.vb v ++ vbs r := rfl
    rw [e] at h ⊢
    have h1 := hR ahead v (vbs r ++ rest) (hok v (by simp)) (by rw [h, List.append_assoc])
    have h2 := nums_back R zs ok hR r (ahead ++ Vb.vb v) rest (fun x hx => hok x (List.mem_cons_of_mem _ hx)) (by rw [h, List.append_assoc, List.append_assoc])
    rw [List.length_append] at h2
    have := rdk_cons R v _ _ h1 r.length r _ h2
    rw [List.length_cons, this, List.length_append, Nat.add_assoc]
theorem nread_back (ahead rest : List Int) (v : Int) (h : 0 ≤ v ∧ v ≤ 9223372036854775807) : nread (ahead ++ (Vb.vb v ++ rest)) (ahead.length : Nat) = (v, ((ahead.length + (Vb.vb v).length : Nat) : Int), 0) := by
  unfold nread
  rw [Vb.vread_back ahead rest v ⟨h.1, by omega⟩]
  simp only [wrap64]
  rw [show ((v + 9223372036854775808) % 18446744073709551616 - 9223372036854775808 : Int) = v by omega]
end Go.Proofs.Ytnpeocoipodmfaa.Pb

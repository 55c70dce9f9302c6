/- Edits of a call's own: their shape; that a box is none of their rows. -/
import Derived.Test.YtnpeocoipodmfaaMh
import Derived.Test.YtnpeocoipodmfaaTh
namespace Go.Proofs.Ytnpeocoipodmfaa.Es
open Go.ChangeShapes Go.WideShapes Go.ChangeAt Go.RowKit
open Go.Proofs.Ytnpeocoipodmfaa.Gr
open Go.Proofs.Ytnpeocoipodmfaa.Ev
open Go.Proofs.Ytnpeocoipodmfaa.Ss
open Go.Proofs.Ytnpeocoipodmfaa.Le
open Go.Proofs.Ytnpeocoipodmfaa.Mg
open Go.Proofs.Ytnpeocoipodmfaa.Ap (own_ty)
set_option linter.unusedVariables false
set_option linter.unusedSimpArgs false

theorem EO_shape {w : World} {base : Nat} {v : Value} {e : Ed} (h : EO w base v e) : ∃ a c a' c', v = ev e a c a' c' := by
  obtain ⟨_, _, _, a, c, a', c', h, _⟩ := h
  exact ⟨a, c, a', c', h⟩
theorem EO_ne {w : World} {base g : Nat} {v : Value} {e : Ed} {c : Array Value} (h : EO w base v e) (k : w.heap[g]? = some (.cells c 26)) : ∀ j, blks v j → j ≠ g := by
  obtain ⟨_, _, _, a, cc, a', c', rfl, h1, h2⟩ := h
  intro j hj
  rcases blks_ev hj with h | h
  · exact own_ty h1 k (by decide) j h
  · exact own_ty h2 k (by decide) j h
theorem mrg_len (x y : Ed) : (mrg x y).go.length ≤ x.go.length + y.go.length ∧ (mrg x y).co.length ≤ x.co.length + y.co.length := by
  have h1 := List.length_filter_le (fun p => !decide (p ∈ x.co.map Ad.pl)) y.go
  have h2 := List.length_filter_le (fun a : Ad => !decide (a.pl ∈ y.go)) x.co
  unfold mrg
  simp only [List.length_append]
  omega
theorem boxes3e (w : World) (A B R : Array Value) (ga gb gr go : Nat) (h1 : w.heap.size = ga) (h2 : ga + 1 = gb) (h3 : gb + 1 = gr) (h4 : gr + 1 = go) : ∃ W, W = ((w.alloc (.cells A 26)).alloc (.cells B 26)).alloc (.cells R 26) ∧ W.heap[ga]? = some (.cells A 26) ∧ W.heap[gb]? = some (.cells B 26) ∧ W.heap[gr]? = some (.cells R 26) ∧ Below w.heap.size w W ∧ W.heap.size = go := Mh.boxes3 w A B R ga gb gr go h1 h2 h3 h4
end Go.Proofs.Ytnpeocoipodmfaa.Es

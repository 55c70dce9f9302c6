/- Files held against one another. -/
import Derived.Test.YtkpihibeohjfnaaVx
namespace Go.Proofs.Ytkpihibeohjfnaa.Fq
open Go.ChangeShapes Go.WideShapes Go.ChangeAt Go.RowKit
open Go.Proofs.Ytkpihibeohjfnaa.Gr
open Go.Proofs.Ytkpihibeohjfnaa.Ev
open Go.Proofs.Ytkpihibeohjfnaa.Vp
set_option linter.unusedVariables false
set_option linter.unusedSimpArgs false

/-- Two files are the same. -/
def feq (f g : Fi) : Bool := (f.n == g.n) && ((f.z == g.z) && ((f.a.toList == g.a.toList) && ((f.b.toList == g.b.toList) && ((f.lo == g.lo) && (f.hi == g.hi)))))
theorem feq_iff (f g : Fi) : feq f g = true ↔ f = g := by
  obtain ⟨n, z, a, b, lo, hi⟩ := f
  obtain ⟨n', z', a', b', lo', hi'⟩ := g
  unfold feq
  simp only [Bool.and_eq_true, beq_iff_eq]
  constructor
  · rintro ⟨rfl, rfl, h3, h4, rfl, rfl⟩
    rw [Lx.toList_inj h3, Lx.toList_inj h4]
  · intro e
    cases e
    exact ⟨rfl, rfl, rfl, rfl, rfl, rfl⟩
theorem feq_ne {f g : Fi} (h : f ≠ g) : feq f g = false := by
  cases hb : feq f g with
  | false => rfl
  | true => exact absurd ((feq_iff f g).1 hb) h
set_option maxHeartbeats 1000000 in
theorem run_eql (f g : Fi) (w : World) : (binOp .eql 43 (fv f) (fv g)).run Try.prog w = .ok (.bool (feq f g)) w := by
  obtain ⟨n, z, a, b, lo, hi⟩ := f
  obtain ⟨n', z', a', b', lo', hi'⟩ := g
  unfold fv feq
  dsimp only
  generalize hb1 : (n == n') = b1
  generalize hb2 : (z == z') = b2
  generalize hb3 : (a.toList == a'.toList) = b3
  generalize hb4 : (b.toList == b'.toList) = b4
  generalize hb5 : (lo == lo') = b5
  generalize hb6 : (hi == hi') = b6
  rcases ch7 b1 b2 b3 b4 b5 b6 true with rfl | ⟨rfl, rfl⟩ | ⟨rfl, rfl, rfl⟩ | ⟨rfl, rfl, rfl, rfl⟩ | ⟨rfl, rfl, rfl, rfl, rfl⟩ | ⟨rfl, rfl, rfl, rfl, rfl, rfl⟩ | ⟨_, _, _, _, _, _, h⟩ | ⟨rfl, rfl, rfl, rfl, rfl, rfl, _⟩
  case inr.inr.inr.inr.inr.inr.inl => cases h
  all_goals (go_simp; try rfl)
set_option maxHeartbeats 1000000 in
theorem run_neq (f g : Fi) (w : World) : (binOp .neq 43 (fv f) (fv g)).run Try.prog w = .ok (.bool (!(feq f g))) w := by
  obtain ⟨n, z, a, b, lo, hi⟩ := f
  obtain ⟨n', z', a', b', lo', hi'⟩ := g
  unfold fv feq
  dsimp only
  generalize hb1 : (n == n') = b1
  generalize hb2 : (z == z') = b2
  generalize hb3 : (a.toList == a'.toList) = b3
  generalize hb4 : (b.toList == b'.toList) = b4
  generalize hb5 : (lo == lo') = b5
  generalize hb6 : (hi == hi') = b6
  rcases ch7 b1 b2 b3 b4 b5 b6 true with rfl | ⟨rfl, rfl⟩ | ⟨rfl, rfl, rfl⟩ | ⟨rfl, rfl, rfl, rfl⟩ | ⟨rfl, rfl, rfl, rfl, rfl⟩ | ⟨rfl, rfl, rfl, rfl, rfl, rfl⟩ | ⟨_, _, _, _, _, _, h⟩ | ⟨rfl, rfl, rfl, rfl, rfl, rfl, _⟩
  case inr.inr.inr.inr.inr.inr.inl => cases h
  all_goals (go_simp; try rfl)
instance : DecidableEq Fi := fun f g => decidable_of_iff (feq f g = true) (feq_iff f g)
end Go.Proofs.Ytkpihibeohjfnaa.Fq

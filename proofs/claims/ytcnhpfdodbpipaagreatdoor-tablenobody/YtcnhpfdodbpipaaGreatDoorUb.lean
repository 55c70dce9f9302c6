/- Blocks and boxes: what the walks lean on. -/
import Derived.Test.YtcnhpfdodbpipaaGreatDoorRows
import Derived.Test.YtcnhpfdodbpipaaGreatDoorChecked
import Derived.WalkKit
import Derived.ProofKit
import Derived.OpenShut
import Derived.Below
import Derived.Laws.Rows
import Derived.Laws.ResultCell
import Derived.Laws.StructEq
namespace Go.Proofs.YtcnhpfdodbpipaaGreatDoor.Ub
open Go.ChangeShapes Go.WideShapes Go.ChangeAt Go.RowKit
set_option linter.unusedVariables false
set_option linter.unusedSimpArgs false
theorem hid {p : Prop} (h : p) : Hid p := h
theorem box_below (w : World) (o : Obj) : Below w.heap.size w (w.alloc o) := (Below.refl _ _).alloc (Nat.le_refl _) o
theorem blk_lt {w : World} {g : Nat} {o : Obj} (h : w.heap[g]? = some o) : g < w.heap.size := (Array.getElem?_eq_some_iff.1 h).1
theorem new_at (w : World) (o : Obj) : (w.alloc o).heap[w.heap.size]? = some o := by show (w.heap.push o)[w.heap.size]? = _; simp
theorem size_alloc (w : World) (o : Obj) : (w.alloc o).heap.size = w.heap.size + 1 := by show (w.heap.push o).size = _; simp
theorem cell_of {w : World} {g : Nat} {c : Array Value} {t : TypeId} (h : w.heap[g]? = some (.cells c t)) (i : Nat) (v : Value) (hi : c[i]? = some v) : w.cell? ⟨g, i, none⟩ = some v := by
  unfold World.cell?; rw [h]; exact hi
theorem fz_of {w : World} {g : Nat} {c : Array Value} {t : TypeId} (h : w.heap[g]? = some (.cells c t)) (i : Nat) : w.frozen? ⟨g, i, none⟩ = false := by
  simp [World.frozen?, h]
theorem set_of {w : World} {g : Nat} {c : Array Value} {t : TypeId} (h : w.heap[g]? = some (.cells c t)) (i : Nat) (v : Value) : (w.setCell ⟨g, i, none⟩ v).heap[g]? = some (.cells (c.setIfInBounds i v) t) := by
  simp [World.setCell, Array.getElem?_modify, h]
/-- A cell that is written with what it has. -/
theorem set_same {w : World} {g : Nat} {c : Array Value} {t : TypeId} (h : w.heap[g]? = some (.cells c t)) (i : Nat) (v : Value) (hi : c[i]? = some v) : w.setCell ⟨g, i, none⟩ v = w := by
  have h2 : c.setIfInBounds i v = c := by
    obtain ⟨hlt, he⟩ := Array.getElem?_eq_some_iff.1 hi
    apply Array.ext
    · simp
    · intro j h1 h2
      rw [Array.getElem_setIfInBounds]
      · split
        · rename_i e; subst e; exact he.symm
        · rfl
  have h3 : (w.setCell ⟨g, i, none⟩ v).heap = w.heap := by
    have hg := blk_lt h
    have e1 := set_of h i v
    rw [h2] at e1
    apply Array.ext
    · simp [World.setCell]
    · intro j l1 l2
      by_cases e : j = g
      · subst e
        have a1 := Array.getElem?_eq_getElem l1
        have a2 := Array.getElem?_eq_getElem l2
        rw [a2] at h; rw [a1] at e1
        exact Option.some.inj (e1.trans h.symm)
      · have := Below.heap_setCell w ⟨g, i, none⟩ v j (by simpa using e)
        rw [Array.getElem?_eq_getElem l1, Array.getElem?_eq_getElem l2] at this
        exact Option.some.inj this
  have : w.setCell ⟨g, i, none⟩ v = { w with heap := (w.setCell ⟨g, i, none⟩ v).heap } := rfl
  rw [this, h3]
end Go.Proofs.YtcnhpfdodbpipaaGreatDoor.Ub

/- An edit that a call makes up: its struct, its two lists rows of the call's own. -/
import Derived.Test.YtkpihibeohjfnaaAy
import Derived.Test.YtkpihibeohjfnaaSr
namespace Go.Proofs.Ytkpihibeohjfnaa.Bx
open Go.ChangeShapes Go.WideShapes Go.ChangeAt Go.RowKit
open Go.Proofs.Ytkpihibeohjfnaa.Gr
open Go.Proofs.Ytkpihibeohjfnaa.Ev
open Go.Proofs.Ytkpihibeohjfnaa.Oe
open Go.Proofs.Ytkpihibeohjfnaa.Lv
open Go.Proofs.Ytkpihibeohjfnaa.Vr
open Go.Proofs.Ytkpihibeohjfnaa.Aq (own_ty)
set_option linter.unusedVariables false
set_option linter.unusedSimpArgs false

structure Bk (w W : World) (gb : Nat) (gv cv : Value) (gs : List Pl) (cs : List Ad) : Prop where
  o : W.heap[gb]? = some (.cells #[.int .i64 0, .int .i64 0, .int .u64 0, gv, cv] 28)
  hg : w.heap.size ≤ gb
  g : ePl.Own W w.heap.size gv gs
  c : eAd.Own W w.heap.size cv cs
  lo : Below w.heap.size w W
variable {w W : World} {gb : Nat} {gv cv : Value} {gs : List Pl} {cs : List Ad}
theorem Bk.later (h : Bk w W gb gv cv gs cs) {W' : World} (b : Below W.heap.size W W') : Bk w W' gb gv cv gs cs :=
  ⟨(b.block gb (blk_lt h.o)).trans h.o, h.hg, h.g.later b, h.c.later b, Below.up h.lo b⟩
theorem Bk.made (w : World) : Bk w (w.alloc (.cells #[.int .i64 0, .int .i64 0, .int .u64 0, .slice none 0 0, .slice none 0 0] 28)) w.heap.size (.slice none 0 0) (.slice none 0 0) [] [] :=
  ⟨new_at _ _, Nat.le_refl _, El.Own.nil _ _ _, El.Own.nil _ _ _, box_below _ _⟩
theorem ty_ne {j g : Nat} {c c' : Array Value} {t t' : TypeId} (h : W.heap[j]? = some (.cells c t)) (h' : W.heap[g]? = some (.cells c' t')) (ht : t ≠ t') : j ≠ g := by
  intro e
  subst e
  rw [h] at h'
  injection h' with h'
  injection h' with _ e
  exact ht e
theorem Bk.appG (h : Bk w W gb gv cv gs cs) (x : Pl) (cells : Array Value) (hcs : cells = (ePl.cs x).toArray) (hn : gs.length + 1 ≤ 2199023255552) :
    ∃ a' n' c' W', (Builtin.append_ #[25, 25] 25 #[gv, .slice (some ⟨W.heap.size, 0, none⟩) 1 1]).run Try.prog (W.alloc (.cells cells 41)) = .ok (.slice a' n' c') W' ∧
      W'.heap[gb]? = some (.cells #[.int .i64 0, .int .i64 0, .int .u64 0, gv, cv] 28) ∧ Below w.heap.size w W' ∧ Bk w (W'.setCell ⟨gb, 3, none⟩ (.slice a' n' c')) gb (.slice a' n' c') cv (gs ++ [x]) cs := by
  obtain ⟨v', W', r1, o1, g1, q1⟩ := El.app1 ePl W w.heap.size gv gs x cells hcs h.g (by show (_ + 1) * 16 ≤ _; omega) (by omega) h.lo.size
  obtain ⟨a', c', hv'⟩ := row_block o1
  subst hv'
  have hng : gv.ownBlock ≠ some gb := fun e => by
    obtain ⟨c1, e1⟩ := own_ty h.g gb e
    exact ty_ne e1 h.o (by decide) rfl
  have hb' : W'.heap[gb]? = some (.cells #[.int .i64 0, .int .i64 0, .int .u64 0, gv, cv] 28) := (g1.block gb (blk_lt h.o) (Ne.symm hng)).trans h.o
  have lo' : Below w.heap.size w W' := below_grown h.lo h.lo.size g1 (fun j hj => (own_lt h.g j hj).1)
  have o2 : ePl.Own (W'.setCell ⟨gb, 3, none⟩ (.slice a' (gs ++ [x]).length c')) w.heap.size (.slice a' (gs ++ [x]).length c') (gs ++ [x]) := own_blocks o1 (fun j hj => set_ne _ _ _ _ _ (by
    obtain ⟨c1, e1⟩ := own_ty o1 j hj
    exact ty_ne e1 hb' (by decide)))
  have cW : eAd.Own W' w.heap.size cv cs := own_blocks h.c (fun j hj => g1.block j (own_lt h.c j hj).2 (fun e => by
    obtain ⟨c1, e1⟩ := own_ty h.c j hj
    obtain ⟨c2, e2⟩ := own_ty h.g j e.symm
    exact ty_ne e1 e2 (by decide) rfl))
  have c2 : eAd.Own (W'.setCell ⟨gb, 3, none⟩ (.slice a' (gs ++ [x]).length c')) w.heap.size cv cs := own_blocks cW (fun j hj => set_ne _ _ _ _ _ (by
    obtain ⟨c1, e1⟩ := own_ty cW j hj
    exact ty_ne e1 hb' (by decide)))
  exact ⟨a', _, c', W', r1, hb', lo', set_of hb' 3 _, h.hg, o2, c2, lo'.setCell h.hg _⟩
theorem Bk.appC (h : Bk w W gb gv cv gs cs) (x : Ad) (cells : Array Value) (hcs : cells = (eAd.cs x).toArray) (hn : cs.length + 1 ≤ 1099511627776) :
    ∃ a' n' c' W', (Builtin.append_ #[26, 26] 26 #[cv, .slice (some ⟨W.heap.size, 0, none⟩) 1 1]).run Try.prog (W.alloc (.cells cells 45)) = .ok (.slice a' n' c') W' ∧
      W'.heap[gb]? = some (.cells #[.int .i64 0, .int .i64 0, .int .u64 0, gv, cv] 28) ∧ Below w.heap.size w W' ∧ Bk w (W'.setCell ⟨gb, 4, none⟩ (.slice a' n' c')) gb gv (.slice a' n' c') gs (cs ++ [x]) := by
  obtain ⟨v', W', r1, o1, g1, q1⟩ := El.app1 eAd W w.heap.size cv cs x cells hcs h.c (by show (_ + 1) * 72 ≤ _; omega) (by omega) h.lo.size
  obtain ⟨a', c', hv'⟩ := row_block o1
  subst hv'
  have hng : cv.ownBlock ≠ some gb := fun e => by
    obtain ⟨c1, e1⟩ := own_ty h.c gb e
    exact ty_ne e1 h.o (by decide) rfl
  have hb' : W'.heap[gb]? = some (.cells #[.int .i64 0, .int .i64 0, .int .u64 0, gv, cv] 28) := (g1.block gb (blk_lt h.o) (Ne.symm hng)).trans h.o
  have lo' : Below w.heap.size w W' := below_grown h.lo h.lo.size g1 (fun j hj => (own_lt h.c j hj).1)
  have o2 : eAd.Own (W'.setCell ⟨gb, 4, none⟩ (.slice a' (cs ++ [x]).length c')) w.heap.size (.slice a' (cs ++ [x]).length c') (cs ++ [x]) := own_blocks o1 (fun j hj => set_ne _ _ _ _ _ (by
    obtain ⟨c1, e1⟩ := own_ty o1 j hj
    exact ty_ne e1 hb' (by decide)))
  have cW : ePl.Own W' w.heap.size gv gs := own_blocks h.g (fun j hj => g1.block j (own_lt h.g j hj).2 (fun e => by
    obtain ⟨c1, e1⟩ := own_ty h.g j hj
    obtain ⟨c2, e2⟩ := own_ty h.c j e.symm
    exact ty_ne e1 e2 (by decide) rfl))
  have c2 : ePl.Own (W'.setCell ⟨gb, 4, none⟩ (.slice a' (cs ++ [x]).length c')) w.heap.size gv gs := own_blocks cW (fun j hj => set_ne _ _ _ _ _ (by
    obtain ⟨c1, e1⟩ := own_ty cW j hj
    exact ty_ne e1 hb' (by decide)))
  exact ⟨a', _, c', W', r1, hb', lo', set_of hb' 4 _, h.hg, c2, o2, lo'.setCell h.hg _⟩
/-- As an edit. -/
theorem Bk.ev (h : Bk w W gb gv cv gs cs) (k1 : ∀ x ∈ gs, x.ok) (k2 : ∀ x ∈ cs, x.ok) (h1 : gs.length ≤ 1099511627776) (h2 : cs.length ≤ 1099511627776) : EV W (.agg #[.int .i64 0, .int .i64 0, .int .u64 0, gv, cv]) ⟨0, 0, 0, gs, cs⟩ := by
  obtain ⟨a, c, rfl⟩ := row_block h.g
  obtain ⟨a', c', rfl⟩ := row_block h.c
  have z : bd 0 := ⟨by decide, by decide⟩
  have u : bu 0 := ⟨by decide, by decide⟩
  exact EO.ev (base := w.heap.size) ⟨⟨z, z, u, h1, h2⟩, k1, k2, a, c, a', c', rfl, h.g, h.c⟩
end Go.Proofs.Ytkpihibeohjfnaa.Bx

/- Rows of entries of the call's own; entryOf. -/
import Derived.Test.YtefihoohdaegeaaAe
import Derived.Deep.RegionHeld
namespace Go.Proofs.Ytefihoohdaegeaa.Eo
open Go.ChangeShapes Go.WideShapes Go.ChangeAt Go.RowKit Go.Shelf
open Go.Sort (grow)
open Go.Proofs.Ytefihoohdaegeaa.Lx (hid)
open Go.Proofs.Ytefihoohdaegeaa.Ee (E ze Ents At4)
open Go.Proofs.Ytefihoohdaegeaa.Nw (c4)
open Go.Proofs.Ytefihoohdaegeaa.Fm
open Go.Proofs.Ytefihoohdaegeaa.Sg
open Go.Proofs.Ytefihoohdaegeaa.In
open Go.Proofs.Ytefihoohdaegeaa.Tb
open Go.Proofs.Ytefihoohdaegeaa.Mm (box_below)
open Go.Proofs.Ytefihoohdaegeaa.Tr (new_at cell_of Bx size_alloc)
open Go.Proofs.Ytefihoohdaegeaa.Gs (node_any)
open Go.Proofs.Ytefihoohdaegeaa.Ls (node_out)
set_option linter.unusedVariables false
set_option linter.unusedSimpArgs false

/-- A node as an entry. -/
def nent (n : N) : E := ⟨n.k, n.s, n.c, match n.v with | .string x => x | _ => ⟨#[]⟩⟩
def ec (x : E) : List Value := [.string x.k, .int .u64 x.s, .int .i64 x.c, .string x.v]
def ecs : List E → List Value
  | [] => []
  | x :: l => ec x ++ ecs l
theorem ecs_append : ∀ xs ys, ecs (xs ++ ys) = ecs xs ++ ecs ys
  | [], ys => rfl
  | x :: l, ys => by simp [ecs, ecs_append l ys]
theorem ecs_len : ∀ xs, (ecs xs).length = xs.length * 4
  | [] => rfl
  | x :: l => by simp [ecs, ec, ecs_len l]; omega
theorem ecs_get : ∀ (xs : List E) (i : Nat), i < xs.length → (ecs xs)[i * 4]? = some (.string (xs.getD i ze).k) ∧ (ecs xs)[i * 4 + 1]? = some (.int .u64 (xs.getD i ze).s) ∧ (ecs xs)[i * 4 + 2]? = some (.int .i64 (xs.getD i ze).c) ∧ (ecs xs)[i * 4 + 3]? = some (.string (xs.getD i ze).v)
  | [], i, h => by simp at h
  | x :: l, 0, h => by simp [ecs, ec]
  | x :: l, i + 1, h => by
    have := ecs_get l i (by simpa using h)
    have e : ecs (x :: l) = ec x ++ ecs l := rfl
    have hl : (ec x).length = 4 := rfl
    rw [e]
    refine ⟨?_, ?_, ?_, ?_⟩ <;> rw [List.getElem?_append_right (by rw [hl]; omega), hl]
    · rw [show (i + 1) * 4 - 4 = i * 4 by omega]; simpa using this.1
    · rw [show (i + 1) * 4 + 1 - 4 = i * 4 + 1 by omega]; simpa using this.2.1
    · rw [show (i + 1) * 4 + 2 - 4 = i * 4 + 2 by omega]; simpa using this.2.2.1
    · rw [show (i + 1) * 4 + 3 - 4 = i * 4 + 3 by omega]; simpa using this.2.2.2
def OwnE (w : World) (base : Nat) (v : Value) (xs : List E) : Prop := w.ownsRow base 56 4 v xs.length (ecs xs)
theorem OwnE.later {w w' : World} {base : Nat} {v : Value} {xs : List E} (h : OwnE w base v xs) (b : Below w.heap.size w w') : OwnE w' base v xs := own_blocks h (fun j hj => b.block j (own_lt h j hj).2)
theorem OwnE.nil (w : World) (base : Nat) : OwnE w base (.slice none 0 0) [] := World.ownsRow_nil _ _ _ _
theorem OwnE.ents {w : World} {base : Nat} {v : Value} {xs : List E} (h : OwnE w base v xs) (hok : ∀ x ∈ xs, x.ok) : ∃ a c, v = .slice a xs.length c ∧ Ents w a xs.length c xs := by
  have h' := h
  rcases h.2 with ⟨e, h0⟩ | ⟨g, c, cur, e, hb, hg, hn, hm, hs, ht⟩
  · have hx : xs = [] := List.eq_nil_of_length_eq_zero h0
    subst hx
    exact ⟨none, 0, e, ⟨rfl, Nat.le_refl _, fun _ => ⟨rfl, rfl⟩, hok, fun _ _ _ h => by simp at h⟩⟩
  · subst e
    refine ⟨_, c, rfl, ⟨rfl, hn, fun e => by simp at e, hok, fun b o p hp _ => ?_⟩⟩
    simp at hp; obtain ⟨rfl, rfl, rfl⟩ := hp
    refine ⟨rfl, fun i hi => ?_⟩
    obtain ⟨g0, g1, g2, g3⟩ := ecs_get xs i hi
    have hc := World.ownsRow.cells h' (g := g) rfl
    have e0 := hc _ _ g0
    have e1 := hc _ _ g1
    have e2 := hc _ _ g2
    have e3 := hc _ _ g3
    rw [Tm.addr_add, Nat.zero_add] at e0 e1 e2 e3
    rw [Nat.zero_add]
    exact ⟨e0, e1, e2, e3⟩
theorem infoE : (Try.prog.info? 56).map (fun i => (i.zero, i.size, i.bytes)) = some (some (.agg #[.string ⟨#[]⟩, .int .u64 0, .int .i64 0, .string ⟨#[]⟩]), 4, 48) := by kernel_rfl
theorem app_entry (w : World) (base : Nat) (v : Value) (l : List E) (x : E) (H : OwnE w base v l) (hn : (l.length + 1) * 48 ≤ 140737488355328) (hbase : base ≤ w.heap.size) :
    ∃ v' w', (Builtin.append_ #[25, 25] 25 #[v, .slice (some ⟨w.heap.size, 0, none⟩) 1 1]).run Try.prog (w.alloc (.cells #[.string x.k, .int .u64 x.s, .int .i64 x.c, .string x.v] 56)) = .ok v' w' ∧ OwnE w' base v' (l ++ [x]) ∧ w.grownBy w' v.ownBlock ∧ (∀ j, v'.ownBlock = some j → v.ownBlock = some j ∨ w.heap.size ≤ j) := by
  obtain ⟨i0, hi, hz0, hz1, hz2⟩ := info_parts infoE
  have b1 := box_below w (.cells #[.string x.k, .int .u64 x.s, .int .i64 x.c, .string x.v] 56)
  have H2 := OwnE.later H b1
  have n4 := new_at w (.cells #[.string x.k, .int .u64 x.s, .int .i64 x.c, .string x.v] 56)
  obtain ⟨v5, W5, r5, o5, g5, _, q5⟩ := run_append_own_at (P := Try.prog) (w.alloc (.cells #[.string x.k, .int .u64 x.s, .int .i64 x.c, .string x.v] 56)) base 25 25 56 i0 _ 4 48 Try.underlying25 hi hz0 hz1 hz2 rfl (by decide) v l.length _ H2 ⟨w.heap.size, 0, none⟩ 1 1 [.string x.k, .int .u64 x.s, .int .i64 x.c, .string x.v] rfl (by
    intro q u hq
    rw [Tm.addr_add, Nat.zero_add]
    exact cell_of n4 q u (by simpa using hq)) (by intro u hu; simp at hu; rcases hu with rfl | rfl | rfl | rfl <;> rfl) (by unfold maxLen; omega) (by omega) (by rw [size_alloc]; omega)
  refine ⟨v5, W5, r5, ?_, ?_, ?_⟩
  · unfold OwnE
    rw [List.length_append, ecs_append]
    exact o5
  · exact ⟨g5.os.trans b1.os, g5.tape.trans b1.tape, g5.output.trans b1.output, Nat.le_trans b1.size g5.size, fun k hk hne => (g5.block k (Nat.lt_of_lt_of_le hk b1.size) hne).trans (b1.block k hk)⟩
  · intro j hj
    rcases q5 with h | h
    · exact .inl (h ▸ hj)
    · rw [h] at hj
      have := Option.some.inj hj
      rw [size_alloc] at this
      exact .inr (by omega)
/-- The node of a number, or nothing. -/
def entN (ns : List N) (n : Nat) : E := if n = 0 then ze else nent (nd ns n)
set_option maxHeartbeats 1000000 in
theorem entryof_any (base g b : Nat) (ns : List N) (ord : List Nat) (n : Int) (m : Nat) (x : ByteArray) (hx : (nd ns m).v = .string x ∨ m = 0) (hn : (n = (m : Int) ∧ m ≤ ns.length) ∨ (m = 0 ∧ (n < 1 ∨ (ns.length : Int) < n))) (w : World) (H : SL w base g b 1048576 ns ord) :
    Calls Try.prog 60 #[.pointer (some ⟨g, 0, none⟩), .int .i64 n] w fun e w' => e = .returned (.tuple #[.agg (c4 (entN ns m)), .bool (decide (m ≠ 0))]) ∧ Below w.heap.size w w' := by
  obtain ⟨W0, hW0⟩ : ∃ W, W = w.alloc (.cells #[.string ⟨#[]⟩, .int .u64 0, .int .i64 0, .string ⟨#[]⟩] 56) := ⟨_, rfl⟩
  have B0 : Below w.heap.size w W0 := by rw [hW0]; exact box_below _ _
  obtain ⟨gt, hgt⟩ : ∃ n, n = w.heap.size := ⟨_, rfl⟩
  have kA : W0.heap[gt]? = some (.cells #[.string ⟨#[]⟩, .int .u64 0, .int .i64 0, .string ⟨#[]⟩] 56) := by rw [hW0, hgt]; exact new_at _ _
  obtain ⟨y1, y2, y3, y4, hy⟩ : ∃ y1 y2 y3 y4, entN ns m = ⟨y1, y2, y3, y4⟩ := ⟨_, _, _, _, rfl⟩
  have HN : Hid (Calls Try.prog 85 #[.pointer (some ⟨g, 0, none⟩), .int .i64 n] W0 fun e w' => e = .returned (.tuple #[.agg #[.string y1, .int .u64 y2, .int .i64 y3], .string y4, .bool (decide (m ≠ 0))]) ∧ Below W0.heap.size W0 w') := by
    by_cases hm : m = 0
    · subst hm
      have e : (⟨y1, y2, y3, y4⟩ : E) = ze := by rw [← hy]; rfl
      have e' := e
      unfold ze at e'
      obtain ⟨rfl, rfl, rfl, rfl⟩ := e'
      refine node_out base g b 1048576 ns ord n W0 (H.later B0) ?_
      omega
    · obtain ⟨rfl, hle⟩ : n = (m : Int) ∧ m ≤ ns.length := by omega
      have hx' := hx.resolve_right hm
      have e : (⟨y1, y2, y3, y4⟩ : E) = ⟨(nd ns m).k, (nd ns m).s, (nd ns m).c, x⟩ := by rw [← hy]; unfold entN nent; rw [if_neg hm, hx']
      obtain ⟨rfl, rfl, rfl, rfl⟩ := e
      have := node_any base g b 1048576 ns ord m x W0 (H.later B0) ⟨by omega, hle⟩ hx'
      rw [show decide (m ≠ 0) = true by simpa using hm]
      exact this
  rw [hy]
  show Calls _ _ _ _ fun e w' => e = .returned (.tuple #[.agg #[.string y1, .int .u64 y2, .int .i64 y3, .string y4], .bool (decide (m ≠ 0))]) ∧ _
  generalize decide (m ≠ 0) = ok at *
  replace hW0 := hid hW0
  replace hgt := hid hgt
  replace B0 := hid B0
  replace kA := hid kA
  clear hx hn H hy
  go_enter Try.func60, Try.ntmps60
  go_wp2_with fail
  rw [← hW0.out, ← hgt.out]
  refine HN.out.mono ?_
  rintro e w1 ⟨rfl, b1⟩
  have k1 : w1.heap[gt]? = some (.cells #[.string ⟨#[]⟩, .int .u64 0, .int .i64 0, .string ⟨#[]⟩] 56) := (b1.block gt (Array.getElem?_eq_some_iff.1 kA.out).1).trans kA.out
  have B1 := hid (B0.out.trans (b1.mono B0.out.size))
  obtain ⟨W2, hW2⟩ : ∃ W, W = w1.alloc (.cells #[.string y1, .int .u64 y2, .int .i64 y3] 48) := ⟨_, rfl⟩
  have b2 := box_below w1 (.cells #[.string y1, .int .u64 y2, .int .i64 y3] 48)
  have k2 : W2.heap[gt]? = some (.cells #[.string ⟨#[]⟩, .int .u64 0, .int .i64 0, .string ⟨#[]⟩] 56) := by rw [hW2]; exact (b2.block gt (Array.getElem?_eq_some_iff.1 k1).1).trans k1
  have k3 : Bx W2 w1.heap.size y1 y2 y3 := by rw [hW2]; exact new_at _ _
  have B2 : Below w.heap.size w W2 := by rw [hW2]; exact B1.out.trans (b2.mono B1.out.size)
  have x0 := k3.c0
  have x1 := k3.c1
  have x2 := k3.c2
  have z0 := cell_of k2 0 (.string ⟨#[]⟩) rfl
  have z1 := cell_of k2 1 (.int .u64 0) rfl
  have z2 := cell_of k2 2 (.int .i64 0) rfl
  have z3 := cell_of k2 3 (.string ⟨#[]⟩) rfl
  have f0 := Tr.fz_of k2 0
  have f1 := Tr.fz_of k2 1
  have f2 := Tr.fz_of k2 2
  have f3 := Tr.fz_of k2 3
  have hB : Hid (∀ W, Below w.heap.size w W → ∀ i v, Below w.heap.size w (W.setCell ⟨gt, i, none⟩ v)) := fun W hW i v => hW.setCell (by show w.heap.size ≤ gt; rw [hgt.out]; exact Nat.le_refl _) v
  have k4 := Tr.set_of (Tr.set_of (Tr.set_of (Tr.set_of k2 0 (.string y1)) 1 (.int .u64 y2)) 2 (.int .i64 y3)) 3 (.string y4)
  replace B2 := hid B2
  replace k4 := hid k4
  subst hW2
  clear b1 k1 b2 k2 k3 HN kA
  go_wp2_with fail
  generalize hWF : ((((w1.alloc (.cells #[.string y1, .int .u64 y2, .int .i64 y3] 48)).setCell ⟨gt, 0, none⟩ (.string y1)).setCell ⟨gt, 1, none⟩ (.int .u64 y2)).setCell ⟨gt, 2, none⟩ (.int .i64 y3)).setCell ⟨gt, 3, none⟩ (.string y4) = WF at *
  have q0 := cell_of k4.out 0 (.string y1) rfl
  have q1 := cell_of k4.out 1 (.int .u64 y2) rfl
  have q2 := cell_of k4.out 2 (.int .i64 y3) rfl
  have q3 := cell_of k4.out 3 (.string y4) rfl
  have BF : Hid (Below w.heap.size w WF) := by rw [← hWF]; exact hB.out _ (hB.out _ (hB.out _ (hB.out _ B2.out _ _) _ _) _ _) _ _
  refine bodyPost_ret (v := .tuple #[.agg #[.string y1, .int .u64 y2, .int .i64 y3, .string y4], .bool ok]) (by simp [results, Try.results60, go_sem, q0, q1, q2, q3]) rfl ⟨rfl, BF.out⟩
end Go.Proofs.Ytefihoohdaegeaa.Eo

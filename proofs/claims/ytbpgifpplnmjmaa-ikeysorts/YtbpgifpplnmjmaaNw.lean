/- Newest of the program: of the entries of a key with numbers of at most one the first in their order. -/
import Derived.Test.YtbpgifpplnmjmaaEe
namespace Go.Proofs.Ytbpgifpplnmjmaa.Nw
open Go.ChangeShapes Go.WideShapes Go.ChangeAt Go.RowKit
open Go.Proofs.Ytbpgifpplnmjmaa.Ik
open Go.Proofs.Ytbpgifpplnmjmaa.Ee
set_option linter.unusedVariables false

/-! ### A block of the call's own -/
def Blk (W : World) (g : Nat) (c : Array Value) : Prop := W.heap[g]? = some (.cells c 55 (0, 0))
theorem Blk.lt {W : World} {g : Nat} {c : Array Value} (h : Blk W g c) : g < W.heap.size := (Array.getElem?_eq_some_iff.1 h).1
theorem Blk.cell {W : World} {g : Nat} {c : Array Value} (h : Blk W g c) (i : Nat) : W.cell? ⟨g, i, none⟩ = c[i]? := cell_of_row W g i c 55 (0, 0) h
theorem Blk.fz {W : World} {g : Nat} {c : Array Value} (h : Blk W g c) (o : Nat) : W.frozen? ⟨g, o, none⟩ = false := by
  simp [World.frozen?, show W.heap[g]? = _ from h]
theorem Blk.new (W : World) (c : Array Value) : Blk (W.alloc (.cells c 55)) W.heap.size c := by
  show (W.heap.push _)[W.heap.size]? = _
  simp
theorem Blk.set {W : World} {g : Nat} {c : Array Value} (h : Blk W g c) (i : Nat) (v : Value) : Blk (W.setCell ⟨g, i, none⟩ v) g (c.setIfInBounds i v) := by
  unfold Blk at h ⊢
  simp [World.setCell, Array.getElem?_modify, h]
theorem Blk.other {W : World} {g g' : Nat} {c : Array Value} (h : Blk W g c) (i : Nat) (v : Value) (hne : g ≠ g') : Blk (W.setCell ⟨g', i, none⟩ v) g c := by
  unfold Blk at h ⊢
  rw [Below.heap_setCell W _ _ g hne]; exact h
theorem Blk.later {W W' : World} {g : Nat} {c : Array Value} (h : Blk W g c) (b : Below W.heap.size W W') : Blk W' g c := by
  unfold Blk
  rw [b.block g h.lt]
  exact h
/-- The four cells of an entry. -/
def c4 (x : E) : Array Value := #[.string x.k, .int .u64 x.s, .int .i64 x.c, .string x.v]
def st4 (W : World) (g : Nat) (x : E) : World := (((W.setCell ⟨g, 0, none⟩ (.string x.k)).setCell ⟨g, 1, none⟩ (.int .u64 x.s)).setCell ⟨g, 2, none⟩ (.int .i64 x.c)).setCell ⟨g, 3, none⟩ (.string x.v)
theorem st4_blk {W : World} {g : Nat} {y : E} (x : E) (h : Blk W g (c4 y)) : Blk (st4 W g x) g (c4 x) := by
  have := (((h.set 0 (.string x.k)).set 1 (.int .u64 x.s)).set 2 (.int .i64 x.c)).set 3 (.string x.v)
  exact this
theorem st4_other {W : World} {g g' : Nat} {c : Array Value} (x : E) (h : Blk W g c) (hne : g ≠ g') : Blk (st4 W g' x) g c :=
  (((h.other 0 _ hne).other 1 _ hne).other 2 _ hne).other 3 _ hne
theorem st4_below {B : Nat} {V W : World} {g : Nat} (x : E) (h : Below B V W) (hg : B ≤ g) : Below B V (st4 W g x) :=
  (((h.setCell hg _).setCell hg _).setCell hg _).setCell hg _

/-! ### What Newest answers -/
/-- May an entry take the place? -/
def takes (key : ByteArray) (seq : Int) (o : Option E) (x : E) : Prop := x.k = key ∧ x.s ≤ seq ∧ (match o with | none => True | some y => cmp x.ik y.ik < 0)
def takesB (key : ByteArray) (seq : Int) (o : Option E) (x : E) : Bool := decide (x.k.data.toList = key.data.toList) && (decide (x.s ≤ seq) && (match o with | none => true | some y => decide (cmp x.ik y.ik < 0)))
theorem takes_iff (key : ByteArray) (seq : Int) (o : Option E) (x : E) : takesB key seq o x = true ↔ takes key seq o x := by
  unfold takesB takes
  rw [Bool.and_eq_true, Bool.and_eq_true, decide_eq_true_eq, decide_eq_true_eq]
  have hk : x.k.data.toList = key.data.toList ↔ x.k = key := by
    constructor
    · intro h
      obtain ⟨⟨⟨l⟩⟩, s, c, v⟩ := x
      obtain ⟨⟨l'⟩⟩ := key
      simp at h
      rw [h]
    · intro h; rw [h]
  rw [hk]
  cases o with
  | none => simp
  | some y => simp
def step (key : ByteArray) (seq : Int) (o : Option E) (x : E) : Option E := if takesB key seq o x then some x else o
def newest (key : ByteArray) (seq : Int) (xs : List E) : Option E := xs.foldl (step key seq) none
theorem step_yes {key : ByteArray} {seq : Int} {o : Option E} {x : E} (h : takes key seq o x) : step key seq o x = some x := by unfold step; rw [if_pos ((takes_iff key seq o x).2 h)]
theorem step_no {key : ByteArray} {seq : Int} {o : Option E} {x : E} (h : ¬ takes key seq o x) : step key seq o x = o := by unfold step; rw [if_neg (fun h' => h ((takes_iff key seq o x).1 h'))]
theorem newest_snoc (key : ByteArray) (seq : Int) (xs : List E) (k : Nat) (h : k < xs.length) : newest key seq (xs.take (k + 1)) = step key seq (newest key seq (xs.take k)) (xs.getD k ze) := by
  unfold newest
  rw [List.take_succ_eq_append_getElem h, List.foldl_append]
  rw [List.getD_eq_getElem?_getD, List.getElem?_eq_getElem h]
  rfl
/-- It is one of them, of the key, seen, and none of these is ahead of it. -/
theorem newest_spec (key : ByteArray) (seq : Int) (xs : List E) : match newest key seq xs with
    | some e => e ∈ xs ∧ e.k = key ∧ e.s ≤ seq ∧ ∀ x ∈ xs, x.k = key → x.s ≤ seq → cmp e.ik x.ik ≤ 0
    | none => ∀ x ∈ xs, ¬ (x.k = key ∧ x.s ≤ seq) := by
  have gen : ∀ k, k ≤ xs.length → match newest key seq (xs.take k) with
      | some e => e ∈ xs ∧ e.k = key ∧ e.s ≤ seq ∧ ∀ x ∈ xs.take k, x.k = key → x.s ≤ seq → cmp e.ik x.ik ≤ 0
      | none => ∀ x ∈ xs.take k, ¬ (x.k = key ∧ x.s ≤ seq) := by
    intro k
    induction k with
    | zero => intro _; simp [newest]
    | succ k ih =>
      intro hk
      have ih := ih (by omega)
      rw [newest_snoc key seq xs k (by omega)]
      have hx : xs.getD k ze = xs[k] := by rw [List.getD_eq_getElem?_getD, List.getElem?_eq_getElem (by omega)]; rfl
      have hmem : xs.getD k ze ∈ xs := by rw [hx]; exact List.getElem_mem _
      have htk : ∀ x, x ∈ xs.take (k + 1) ↔ x ∈ xs.take k ∨ x = xs.getD k ze := by
        intro x
        rw [List.take_succ_eq_append_getElem (by omega), List.mem_append, List.mem_singleton, hx]
      generalize xs.getD k ze = z at hmem htk
      cases ho : newest key seq (xs.take k) with
      | none =>
        rw [ho] at ih
        by_cases ht : takes key seq none z
        · rw [step_yes ht]
          refine ⟨hmem, ht.1, ht.2.1, fun x hx' h1 h2 => ?_⟩
          rcases (htk x).1 hx' with h | rfl
          · exact absurd ⟨h1, h2⟩ (ih x h)
          · rw [cmp_self]; omega
        · rw [step_no ht]
          intro x hx'
          rcases (htk x).1 hx' with h | rfl
          · exact ih x h
          · exact fun h => ht ⟨h.1, h.2, trivial⟩
      | some y =>
        rw [ho] at ih
        obtain ⟨i1, i2, i3, i4⟩ := ih
        by_cases ht : takes key seq (some y) z
        · rw [step_yes ht]
          refine ⟨hmem, ht.1, ht.2.1, fun x hx' h1 h2 => ?_⟩
          rcases (htk x).1 hx' with h | rfl
          · have hzy : cmp z.ik y.ik < 0 := ht.2.2
            exact (cmp_trans _ _ _ (by omega) (i4 x h h1 h2)).1
          · rw [cmp_self]; omega
        · rw [step_no ht]
          refine ⟨i1, i2, i3, fun x hx' h1 h2 => ?_⟩
          rcases (htk x).1 hx' with h | rfl
          · exact i4 x h h1 h2
          · have : ¬ cmp x.ik y.ik < 0 := fun h => ht ⟨h1, h2, h⟩
            rw [cmp_anti]
            omega
  have := gen xs.length (Nat.le_refl _)
  rwa [List.take_length] at this

theorem text_eq {a b : ByteArray} (h : a = b) : (a.toList == b.toList) = true := by rw [h]; exact beq_self_eq_true _
theorem toList_inj {a b : ByteArray} (h : a.toList = b.toList) : a = b := by
  rw [ByteArray.toList_eq, ByteArray.toList_eq] at h
  obtain ⟨⟨la⟩⟩ := a
  obtain ⟨⟨lb⟩⟩ := b
  simp at h
  rw [h]
theorem text_ne {a b : ByteArray} (h : ¬ a = b) : (a.toList == b.toList) = false := by
  rw [beq_eq_false_iff_ne]; exact fun e => h (toList_inj e)

set_option maxHeartbeats 4000000 in
set_option maxRecDepth 100000 in
theorem newest_any (a : Option Addr) (len cap : Nat) (xs : List E) (key : ByteArray) (seq : Int) (w : World) (H : Ents w a len cap xs) (hl : len ≤ 140737488351232) (hk : key.size ≤ maxLen) :
    Calls Try.prog 30 #[.slice a len cap, .string key, .int .u64 seq] w fun e w' => e = .returned (.tuple #[.agg (c4 ((newest key seq xs).getD ze)), .bool (newest key seq xs).isSome]) ∧ Below w.heap.size w w' := by
  obtain ⟨g6, hg6⟩ : ∃ g, g = w.heap.size := ⟨_, rfl⟩
  obtain ⟨g8, hg8⟩ : ∃ g, g = w.heap.size + 1 := ⟨_, rfl⟩
  obtain ⟨W, hW⟩ : ∃ W, W = (w.alloc (.cells #[.string ⟨#[]⟩, .int .u64 0, .int .i64 0, .string ⟨#[]⟩] 55)).alloc (.cells #[.string ⟨#[]⟩, .int .u64 0, .int .i64 0, .string ⟨#[]⟩] 55) := ⟨_, rfl⟩
  have K6 : Hid (Blk W g6 (c4 ze)) := by
    rw [hW, hg6]
    exact (Blk.new w (c4 ze)).later ((Below.refl _ _).alloc (Nat.le_refl _) _)
  have K8 : Hid (Blk W g8 (c4 ze)) := by
    rw [hW, hg8]
    have := Blk.new (w.alloc (.cells #[.string ⟨#[]⟩, .int .u64 0, .int .i64 0, .string ⟨#[]⟩] 55)) (c4 ze)
    show Blk _ _ _
    simpa [c4, ze] using this
  have HB : Hid (Below w.heap.size w W) := by rw [hW]; exact ((Below.refl _ _).alloc (Nat.le_refl _) _).alloc (by simp) _
  have HH := hid H
  have HW : Hid ((w.alloc (.cells #[.string ⟨#[]⟩, .int .u64 0, .int .i64 0, .string ⟨#[]⟩] 55)).alloc (.cells #[.string ⟨#[]⟩, .int .u64 0, .int .i64 0, .string ⟨#[]⟩] 55) = W) := hW.symm
  have HG6 : Hid (w.heap.size = g6) := hg6.symm
  have HG8 : Hid (w.heap.size + 1 = g8) := hg8.symm
  have g68 : g6 ≠ g8 := by omega
  have gw6 : w.heap.size ≤ g6 := by omega
  have gw8 : w.heap.size ≤ g8 := by omega
  clear hW hg6 hg8 H
  go_enter Try.func30, Try.ntmps30
  go_wp2_with fail
  rw [HW.out, HG8.out, HG6.out]
  go_loopw [9, 14] (fun f i wr => ∃ k : Nat, ∃ o : Option E, f = .bool o.isSome ∧ i = .int .i64 k ∧ k ≤ len ∧ Hid (o = newest key seq (xs.take k)) ∧ Hid (Blk wr g8 (c4 (o.getD ze))) ∧ Hid (Blk wr g6 (c4 ze)) ∧ Hid (Below w.heap.size w wr)) (fun _ i _ => len - (intOf i).toNat)
  case atStart => exact ⟨0, none, rfl, rfl, by omega, rfl, K8, K6, HB⟩
  case round =>
    obtain ⟨k, o, rfl, rfl, hk, ho, k8, k6, hbel⟩ := hrel
    clear K6 K8 HB HW HG6 HG8
    by_cases hlt : k < len
    · have hxl := HH.out.1
      have hS : Hid (newest key seq (xs.take (k + 1)) = step key seq o (xs.getD k ze)) := by show _ = _; rw [ho.out]; exact newest_snoc key seq xs k (by omega)
      cases a with
      | none => have := (HH.out.2.2.1 rfl).1; omega
      | some ad =>
        obtain ⟨b, off, sp⟩ := ad
        obtain ⟨rfl, hat⟩ := HH.out.2.2.2.2 b off sp rfl (by omega)
        have hat := (hat k hlt).later hbel.out
        have hxs : (xs.getD k ze).ok := by
          rw [List.getD_eq_getElem?_getD, List.getElem?_eq_getElem (by omega)]
          exact HH.out.2.2.2.1 _ (List.getElem_mem _)
        generalize xs.getD k ze = x at hat hS hxs
        obtain ⟨xk, xs', xc, xv⟩ := x
        obtain ⟨a1, a2, a3, a4⟩ := hat
        simp only at a1 a2 a3 a4
        have ik0 : (k : Int) < (len : Int) := by omega
        have l8 := k8.out.lt
        have l6 := k6.out.lt
        have n8 : wr.heap.size ≠ g8 := by omega
        have n6 : wr.heap.size ≠ g6 := by omega
        have hlc := HH.out.2.1
        have HB1 : Hid (Below w.heap.size w (wr.alloc (.cells #[.string xk, .int .u64 xs', .int .i64 xc, .string xv] 55))) := hbel.out.alloc hbel.out.size _
        have nb : Below wr.heap.size wr (wr.alloc (.cells #[.string xk, .int .u64 xs', .int .i64 xc, .string xv] 55)) := (Below.refl _ _).alloc (Nat.le_refl _) _
        have k8' := hid (k8.out.later nb)
        have k6' := hid (k6.out.later nb)
        clear nb hxl
        have skip : (¬ takes key seq o ⟨xk, xs', xc, xv⟩) → Hid (o = newest key seq (xs.take (k + 1))) := fun h => by show _ = _; rw [hS.out, step_no h]
        have take : takes key seq o ⟨xk, xs', xc, xv⟩ → Hid (some ⟨xk, xs', xc, xv⟩ = newest key seq (xs.take (k + 1))) := fun h => by show _ = _; rw [hS.out, step_yes h]
        by_cases e1 : xk = key
        · have t1 := text_eq e1
          have E1 : Hid (xk = key) := e1
          clear e1
          by_cases e2 : xs' ≤ seq
          · have t2 : ¬ seq < xs' := by omega
            cases o with
            | none =>
              have HO := take ⟨E1.out, e2, trivial⟩
              have q0 : wr.cell? ⟨g8, 0, none⟩ = some (.string ⟨#[]⟩) := k8.out.cell 0
              have q1 : wr.cell? ⟨g8, 1, none⟩ = some (.int .u64 0) := k8.out.cell 1
              have q2 : wr.cell? ⟨g8, 2, none⟩ = some (.int .i64 0) := k8.out.cell 2
              have q3 : wr.cell? ⟨g8, 3, none⟩ = some (.string ⟨#[]⟩) := k8.out.cell 3
              have z0 := k8.out.fz 0
              have z1 := k8.out.fz 1
              have z2 := k8.out.fz 2
              have z3 := k8.out.fz 3
              have J8 : Hid (Blk (st4 wr g8 ⟨xk, xs', xc, xv⟩) g8 (c4 ⟨xk, xs', xc, xv⟩)) := st4_blk _ k8.out
              have J6 : Hid (Blk (st4 wr g8 ⟨xk, xs', xc, xv⟩) g6 (c4 ze)) := st4_other _ k6.out g68
              have JB : Hid (Below w.heap.size w (st4 wr g8 ⟨xk, xs', xc, xv⟩)) := st4_below _ hbel.out gw8
              clear skip take hS ho k8 k6 hbel hxs k8' k6' HB1
              go_wp2_with fail
              have NB : ∀ (V : World) o, Below V.heap.size V (V.alloc o) := fun V o => (Below.refl _ _).alloc (Nat.le_refl _) _
              go_roundw
              case rel => exact ⟨k + 1, some ⟨xk, xs', xc, xv⟩, rfl, by go_num, by omega, HO, J8.out.later (NB _ _), J6.out.later (NB _ _), JB.out.alloc JB.out.size _⟩
              case measure => simp [intOf]; omega
            | some y =>
              obtain ⟨yk, ys, yc, yv⟩ := y
              have q0 : wr.cell? ⟨g8, 0, none⟩ = some (.string yk) := k8.out.cell 0
              have q1 : wr.cell? ⟨g8, 1, none⟩ = some (.int .u64 ys) := k8.out.cell 1
              have q2 : wr.cell? ⟨g8, 2, none⟩ = some (.int .i64 yc) := k8.out.cell 2
              have q3 : wr.cell? ⟨g8, 3, none⟩ = some (.string yv) := k8.out.cell 3
              have CX := fun W => entries_any xk xs' xc xv yk ys yc yv W
              obtain ⟨r, hr⟩ : ∃ r, r = cmp (Cm.ik xk xs' xc) (Cm.ik yk ys yc) := ⟨_, rfl⟩
              rw [← hr] at CX
              have HCX := hid CX
              have KX : Hid (Blk (wr.alloc (.cells #[.string xk, .int .u64 xs', .int .i64 xc, .string xv] 55)) wr.heap.size (c4 ⟨xk, xs', xc, xv⟩)) := Blk.new wr (c4 ⟨xk, xs', xc, xv⟩)
              clear CX
              by_cases hr0 : r < 0
              · have HO := take ⟨E1.out, e2, by show cmp _ _ < 0; rw [hr] at hr0; exact hr0⟩
                clear skip take hS ho k8 k6 hbel hxs hr
                go_wp2_with fail
                refine (HCX.out _).mono ?_
                rintro e w2 ⟨rfl, b2⟩
                have kx := KX.out.later b2
                have k8 := hid (k8'.out.later b2)
                have k6 := hid (k6'.out.later b2)
                have x0 : w2.cell? ⟨wr.heap.size, 0, none⟩ = some (.string xk) := kx.cell 0
                have x1 : w2.cell? ⟨wr.heap.size, 1, none⟩ = some (.int .u64 xs') := kx.cell 1
                have x2 : w2.cell? ⟨wr.heap.size, 2, none⟩ = some (.int .i64 xc) := kx.cell 2
                have x3 : w2.cell? ⟨wr.heap.size, 3, none⟩ = some (.string xv) := kx.cell 3
                have y0 : w2.cell? ⟨g8, 0, none⟩ = some (.string yk) := k8.out.cell 0
                have y1 : w2.cell? ⟨g8, 1, none⟩ = some (.int .u64 ys) := k8.out.cell 1
                have y2 : w2.cell? ⟨g8, 2, none⟩ = some (.int .i64 yc) := k8.out.cell 2
                have y3 : w2.cell? ⟨g8, 3, none⟩ = some (.string yv) := k8.out.cell 3
                have z0 := k8.out.fz 0
                have z1 := k8.out.fz 1
                have z2 := k8.out.fz 2
                have z3 := k8.out.fz 3
                have J8 : Hid (Blk (st4 w2 g8 ⟨xk, xs', xc, xv⟩) g8 (c4 ⟨xk, xs', xc, xv⟩)) := st4_blk _ k8.out
                have J6 : Hid (Blk (st4 w2 g8 ⟨xk, xs', xc, xv⟩) g6 (c4 ze)) := st4_other _ k6.out g68
                have JB : Hid (Below w.heap.size w (st4 w2 g8 ⟨xk, xs', xc, xv⟩)) := st4_below _ (HB1.out.trans (b2.mono HB1.out.size)) gw8
                clear b2 kx k8 k6 k8' k6' HB1 q0 q1 q2 q3 HCX KX
                go_wp2_with fail
                go_roundw
                case rel => exact ⟨k + 1, some ⟨xk, xs', xc, xv⟩, rfl, by go_num, by omega, HO, J8, J6, JB⟩
                case measure => simp [intOf]; omega
              · have HO := skip (fun h => hr0 (by rw [hr]; exact h.2.2))
                clear skip take hS ho k8 k6 hbel hxs hr
                go_wp2_with fail
                refine (HCX.out _).mono ?_
                rintro e w2 ⟨rfl, b2⟩
                have J8 := hid (k8'.out.later b2)
                have J6 := hid (k6'.out.later b2)
                have JB : Hid (Below w.heap.size w w2) := HB1.out.trans (b2.mono HB1.out.size)
                clear b2 k8' k6' HB1 q0 q1 q2 q3 HCX KX
                go_wp2_with fail
                go_roundw
                case rel => exact ⟨k + 1, some ⟨yk, ys, yc, yv⟩, rfl, by go_num, by omega, HO, J8, J6, JB⟩
                case measure => simp [intOf]; omega
          · have t2 : seq < xs' := by omega
            have HO := skip (fun h => e2 h.2.1)
            clear skip take hS ho k8 k6 hbel hxs
            go_wp2_with fail
            go_roundw
            case rel => exact ⟨k + 1, o, rfl, by go_num, by omega, HO, k8', k6', HB1⟩
            case measure => simp [intOf]; omega
        · have t1 := text_ne e1
          have HO := skip (fun h => e1 h.1)
          clear skip take hS ho k8 k6 hbel hxs
          go_wp2_with fail
          go_roundw
          case rel => exact ⟨k + 1, o, rfl, by go_num, by omega, HO, k8', k6', HB1⟩
          case measure => simp [intOf]; omega
    · have hkl : k = len := by omega
      subst hkl
      have HO : Hid (newest key seq xs = o) := by
        show _ = _
        have := ho.out
        rw [List.take_of_length_le (by have := HH.out.1; omega)] at this
        exact this.symm
      obtain ⟨y, hy⟩ : ∃ y, y = o.getD ze := ⟨_, rfl⟩
      rw [← hy] at k8
      obtain ⟨yk, ys, yc, yv⟩ := y
      have HY := hid hy
      have q0 : wr.cell? ⟨g8, 0, none⟩ = some (.string yk) := k8.out.cell 0
      have q1 : wr.cell? ⟨g8, 1, none⟩ = some (.int .u64 ys) := k8.out.cell 1
      have q2 : wr.cell? ⟨g8, 2, none⟩ = some (.int .i64 yc) := k8.out.cell 2
      have q3 : wr.cell? ⟨g8, 3, none⟩ = some (.string yv) := k8.out.cell 3
      have p0 : wr.cell? ⟨g6, 0, none⟩ = some (.string ⟨#[]⟩) := k6.out.cell 0
      have p1 : wr.cell? ⟨g6, 1, none⟩ = some (.int .u64 0) := k6.out.cell 1
      have p2 : wr.cell? ⟨g6, 2, none⟩ = some (.int .i64 0) := k6.out.cell 2
      have p3 : wr.cell? ⟨g6, 3, none⟩ = some (.string ⟨#[]⟩) := k6.out.cell 3
      have z0 := k6.out.fz 0
      have z1 := k6.out.fz 1
      have z2 := k6.out.fz 2
      have z3 := k6.out.fz 3
      have J6 : Hid (Blk (st4 wr g6 ⟨yk, ys, yc, yv⟩) g6 (c4 ⟨yk, ys, yc, yv⟩)) := st4_blk _ k6.out
      have JB : Hid (Below w.heap.size w (st4 wr g6 ⟨yk, ys, yc, yv⟩)) := st4_below _ hbel.out gw6
      have r0 : (st4 wr g6 ⟨yk, ys, yc, yv⟩).cell? ⟨g6, 0, none⟩ = some (.string yk) := J6.out.cell 0
      have r1 : (st4 wr g6 ⟨yk, ys, yc, yv⟩).cell? ⟨g6, 1, none⟩ = some (.int .u64 ys) := J6.out.cell 1
      have r2 : (st4 wr g6 ⟨yk, ys, yc, yv⟩).cell? ⟨g6, 2, none⟩ = some (.int .i64 yc) := J6.out.cell 2
      have r3 : (st4 wr g6 ⟨yk, ys, yc, yv⟩).cell? ⟨g6, 3, none⟩ = some (.string yv) := J6.out.cell 3
      obtain ⟨V, hV⟩ : ∃ V, V = st4 wr g6 ⟨yk, ys, yc, yv⟩ := ⟨_, rfl⟩
      have HV : Hid ((((wr.setCell ⟨g6, 0, none⟩ (.string yk)).setCell ⟨g6, 1, none⟩ (.int .u64 ys)).setCell ⟨g6, 2, none⟩ (.int .i64 yc)).setCell ⟨g6, 3, none⟩ (.string yv) = V) := hV.symm
      rw [← hV] at JB r0 r1 r2 r3
      clear ho k8 k6 hbel hV J6 hy
      go_wp2_with fail
      rw [HV.out]
      exact bodyPost_ret (v := .tuple #[.agg #[.string yk, .int .u64 ys, .int .i64 yc, .string yv], .bool o.isSome]) (by simp [results, Try.results30, go_sem, r0, r1, r2, r3]) rfl ⟨by rw [HO.out, ← HY.out]; rfl, JB.out⟩
end Go.Proofs.Ytbpgifpplnmjmaa.Nw

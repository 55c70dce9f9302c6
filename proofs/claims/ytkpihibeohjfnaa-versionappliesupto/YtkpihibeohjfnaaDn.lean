/- The document's sorted and numbers by their contracts. -/
import Derived.Test.YtkpihibeohjfnaaBp
namespace Go.Proofs.Ytkpihibeohjfnaa.Dn
open Go.ChangeShapes Go.WideShapes Go.ChangeAt Go.RowKit
open Go.Proofs.Ytkpihibeohjfnaa.Gr
open Go.Proofs.Ytkpihibeohjfnaa.Ev
open Go.Proofs.Ytkpihibeohjfnaa.Oe
open Go.Proofs.Ytkpihibeohjfnaa.Lv
open Go.Proofs.Ytkpihibeohjfnaa.Vp
open Go.Proofs.Ytkpihibeohjfnaa.Vr
open Go.Proofs.Ytkpihibeohjfnaa.Vt
open Go.Proofs.Ytkpihibeohjfnaa.Bp (srt_perm srt_sorted)
set_option linter.unusedVariables false
set_option linter.unusedSimpArgs false

theorem srt_eq {xs ys : List Int} (h : ys.Pairwise (· ≤ ·)) (p : ys.Perm xs) : ys = srt xs :=
  List.Perm.eq_of_pairwise (le := (· ≤ ·)) (fun a b _ _ h1 h2 => Int.le_antisymm h1 h2) h (srt_sorted xs) (p.trans (srt_perm xs).symm)
/-- The row while x is on its way down: in front of it P, behind it R. -/
structure Dw (s : List Int) (x : Int) (P R ys : List Int) : Prop where
  row : ys = P ++ x :: R
  all : P ++ R = s
  up : ∀ r ∈ R, x ≤ r
theorem Dw.len {s : List Int} {x : Int} {P R ys : List Int} (h : Dw s x P R ys) : ys.length = s.length + 1 := by
  rw [h.row, ← h.all]; simp; omega
theorem Dw.at {s : List Int} {x : Int} {P R ys : List Int} (h : Dw s x P R ys) : ys.getD P.length 0 = x := by
  rw [h.row]; simp
theorem Dw.done {s : List Int} {x : Int} {P R ys : List Int} (h : Dw s x P R ys) (hs : s.Pairwise (· ≤ ·)) (he : P = [] ∨ ∃ P' p, P = P' ++ [p] ∧ p ≤ x) : ys.Pairwise (· ≤ ·) ∧ ys.Perm (s ++ [x]) := by
  constructor
  · rw [h.row]
    rw [← h.all, List.pairwise_append] at hs
    obtain ⟨h1, h2, h3⟩ := hs
    have hp : ∀ q ∈ P, q ≤ x := by
      rcases he with rfl | ⟨P', p, rfl, hpx⟩
      · intro q hq; cases hq
      · intro q hq
        rw [List.mem_append] at hq
        rcases hq with hq | hq
        · rw [List.pairwise_append] at h1
          exact Int.le_trans (h1.2.2 q hq p (by simp)) hpx
        · simp at hq; subst hq; exact hpx
    rw [List.pairwise_append]
    refine ⟨h1, List.pairwise_cons.2 ⟨h.up, h2⟩, ?_⟩
    intro q hq r hr
    rcases List.mem_cons.1 hr with rfl | hr
    · exact hp q hq
    · exact h3 q hq r hr
  · rw [h.row, ← h.all]
    have e : (P ++ x :: R).Perm (x :: (P ++ R)) := List.perm_middle
    exact e.trans (List.perm_append_comm (l₁ := [x]) (l₂ := P ++ R))
theorem Dw.step {s : List Int} {x p : Int} {P R ys : List Int} (h : Dw s x (P ++ [p]) R ys) (hp : x < p) : Dw s x P (p :: R) ((ys.set P.length x).set (P.length + 1) p) ∧ ys.getD P.length 0 = p := by
  have hr := h.row
  have e : ys = P ++ (p :: x :: R) := by rw [hr]; simp
  constructor
  · refine ⟨?_, by rw [← h.all]; simp, ?_⟩
    · rw [e]
      rw [List.set_append_right _ _ (Nat.le_refl _), Nat.sub_self, List.set_cons_zero, List.set_append_right _ _ (by omega)]
      rw [show P.length + 1 - P.length = 1 by omega]
      rfl
    · intro r hr'
      rcases List.mem_cons.1 hr' with rfl | h'
      · omega
      · exact h.up r h'
  · rw [e]; simp
theorem cl_set : ∀ (xs : List Int) (k : Nat) (y : Int), (eInt.cl xs).set k (.int .i64 y) = eInt.cl (xs.set k y)
  | [], _, _ => rfl
  | x :: r, 0, y => rfl
  | x :: r, k + 1, y => by
    show (Value.int .i64 x :: eInt.cl r).set (k + 1) _ = Value.int .i64 x :: eInt.cl (r.set k y)
    rw [List.set_cons_succ, cl_set r k y]
theorem Acc.set {w W : World} {g n c : Nat} {xs : List Int} (h : Acc eInt w W (.slice (some ⟨g, 0, none⟩) n c) xs) (k : Nat) (y : Int) : Acc eInt w (W.setCell ⟨g, k, none⟩ (.int .i64 y)) (.slice (some ⟨g, 0, none⟩) n c) (xs.set k y) := by
  obtain ⟨a', c', e⟩ := h.shape
  cases e
  have h0 := h.o
  unfold El.Own at h0
  obtain ⟨h1, h2⟩ := World.ownsRow.stored h0 k (.int .i64 y)
  refine ⟨?_, below_grown h.lo h.sz h2 (fun j hj => (own_lt h.o j hj).1)⟩
  unfold El.Own
  rw [List.length_set, ← cl_set]
  exact h1
theorem Acc.fz {w W : World} {g n c : Nat} {xs : List Int} (h : Acc eInt w W (.slice (some ⟨g, 0, none⟩) n c) xs) (k : Nat) : W.frozen? ⟨g, k, none⟩ = false := by
  obtain ⟨a', c', e⟩ := h.shape
  cases e
  have h0 := h.o
  unfold El.Own at h0
  exact World.ownsRow.frozenAt h0 k
theorem Acc.get {w W : World} {g n c : Nat} {xs : List Int} (h : Acc eInt w W (.slice (some ⟨g, 0, none⟩) n c) xs) (k : Nat) (hk : k < xs.length) : W.cell? ⟨g, k, none⟩ = some (.int .i64 (xs.getD k 0)) := by
  obtain ⟨a', c', e⟩ := h.shape
  cases e
  have := in_at (h.o.at k hk)
  rw [show eInt.k = 1 from rfl, Nat.mul_one, show eInt.z = 0 from rfl] at this
  exact this
theorem snoc_ex {P : List Int} (h : 0 < P.length) : ∃ P' p, P = P' ++ [p] := by
  have hne : P ≠ [] := by intro e; rw [e] at h; cases h
  exact ⟨P.dropLast, P.getLast hne, (List.dropLast_concat_getLast hne).symm⟩
set_option maxHeartbeats 2000000 in
theorem sorted_any (a : Option Addr) (n c : Nat) (xs : List Int) (w : World) (H : eInt.Sl w a n c xs) (hn8 : n ≤ 1048576) :
    Calls Try.prog 59 #[.slice a n c] w fun e w' => ∃ v, e = .returned v ∧ Acc eInt w w' v (srt xs) := by
  have hlen := hid H.n
  have hnc := H.c
  have HL : Hid (∀ W, Below w.heap.size w W → eInt.Sl W a n c xs) := fun W b => H.later b
  clear H
  go_enter Try.func59, Try.ntmps59
  go_wp2_with fail
  go_loopw [3, 4, 5] (fun v ii kk wr => ∃ (i : Nat) (ao : Option Addr) (co : Nat) (s : List Int), ii = .int .i64 i ∧ i ≤ n ∧ v = .slice ao i co ∧ Acc eInt w wr (.slice ao i co) s ∧ s.length = i ∧ s.Pairwise (· ≤ ·) ∧ s.Perm (xs.take i)) (fun _ ii _ _ => n - (intOf ii).toNat)
  case atStart => exact ⟨0, none, 0, [], rfl, by omega, rfl, Acc.nil _ _, rfl, List.Pairwise.nil, by simp⟩
  case round =>
    obtain ⟨i, ao, co, s, rfl, hi, rfl, A, hsl, hsp, hpm⟩ := hrel
    by_cases hlt : i < n
    · obtain ⟨b, o, rfl, hat⟩ := get1 (HL.out wr A.lo) i hlt
      have e1 := in_at (hat i hlt)
      rw [show eInt.z = 0 from rfl] at e1
      rw [show eInt.k = 1 from rfl, Nat.mul_one] at e1
      clear hat
      have htk : Hid (xs.take (i + 1) = xs.take i ++ [xs.getD i 0]) := El.take_snoc (E := eInt) (by rw [hlen.out]; exact hlt)
      obtain ⟨x, hx⟩ : ∃ x, x = xs.getD i 0 := ⟨_, rfl⟩
      rw [← hx] at e1 htk
      clear hx
      have m0 : (i : Int) < (n : Int) := by omega
      have m1 : (0 : Int) ≤ (i : Int) := by omega
      obtain ⟨v', W', r1, A'⟩ := A.app1 x #[.int .i64 x] rfl (by rw [hsl]; show (_ + 1) * 8 ≤ _; omega) (by rw [hsl]; omega)
      obtain ⟨g, co', hv'⟩ := A'.nn (by simp)
      rw [List.length_append, hsl] at hv'
      change v' = .slice (some ⟨g, 0, none⟩) (i + 1) co' at hv'
      subst hv'
      have hc2 : i + 1 ≤ co' := by
        exact (Acc.sl A' (fun _ _ => trivial)).2.c
      change (Builtin.append_ #[49, 49] 49 #[_, _]).run Try.prog (wr.alloc (.cells #[.int .i64 x] 3)) = _ at r1
      replace r1 := hid r1
      replace A' := hid A'
      replace hsl := hid hsl
      replace hsp := hid hsp
      replace hpm := hid hpm
      clear A
      go_wp2_with (first | (at_builtin; refine wpList_append_run rfl (.tmp 14) (.tmp 19) 49 49 rfl (.slice ao i co) (.slice (some ⟨wr.heap.size, 0, none⟩) 1 1) (.slice (some ⟨g, 0, none⟩) (i + 1) co') rfl rfl r1.out ?_))
      clear e1 r1
      go_loopw [5] (fun kk wq => ∃ (k : Nat) (P R ys : List Int), kk = .int .i64 k ∧ k ≤ i ∧ P.length = k ∧ Dw s x P R ys ∧ Acc eInt w wq (.slice (some ⟨g, 0, none⟩) (i + 1) co') ys) (fun kk _ => (intOf kk).toNat)
      case atStart => exact ⟨i, s, [], s ++ [x], rfl, by omega, hsl.out, ⟨by simp, by simp, by simp⟩, A'.out⟩
      case round =>
        clear A'
        obtain ⟨k, P, R, ys, rfl, hk, hPl, D, A⟩ := hrel
        replace hPl := hid hPl
        by_cases hk0 : 0 < k
        · obtain ⟨P', p, hP'⟩ := snoc_ex (P := P) (by rw [hPl.out]; exact hk0)
          subst hP'
          obtain ⟨k', hk'⟩ : ∃ k', k = k' + 1 := ⟨k - 1, by omega⟩
          subst hk'
          have hP2 : P'.length = k' := by have := hPl.out; rw [List.length_append] at this; simpa using this
          have hyl : ys.length = i + 1 := by rw [D.len, hsl.out]
          have c1 := Acc.get A k' (by omega)
          have c2 := Acc.get A (k' + 1) (by omega)
          have hx1 : ys.getD (k' + 1) 0 = x := by have := D.at; rw [hPl.out] at this; exact this
          have hp1 : ys.getD k' 0 = p := by rw [D.row, ← hP2]; simp
          rw [hp1] at c1
          rw [hx1] at c2
          have z1 : (0 : Int) < (k' : Int) + 1 := by omega
          have z2 : (k' : Int) < (i : Int) + 1 := by omega
          have z3 : (0 : Int) ≤ (k' : Int) := by omega
          have z4 : (k' : Int) + 1 < (i : Int) + 1 := by omega
          have z5 : (0 : Int) ≤ (k' : Int) + 1 := by omega
          clear hx1 hp1 hyl
          by_cases hpx : x < p
          · have q1 := Acc.fz A k'
            have q2 := Acc.fz A (k' + 1)
            have D2 := (D.step hpx).1
            rw [hP2] at D2
            have A2 : Hid (∀ q, Acc eInt w (((wr.drewN q).setCell ⟨g, k', none⟩ (.int .i64 x)).setCell ⟨g, k' + 1, none⟩ (.int .i64 p)) (.slice (some ⟨g, 0, none⟩) (i + 1) co') ((ys.set k' x).set (k' + 1) p)) := fun q => Acc.set (Acc.set (A.later (drewN_below _ _)) k' x) (k' + 1) p
            replace D2 := hid D2
            replace A := hid A
            replace D := hid D
            go_wp2_with fail
            go_quiet (fail)
            go_wp2_with fail
            go_region
            go_wp2_with fail
            go_roundw
            case rel => exact ⟨k', P', p :: R, _, by go_num, by omega, hP2, D2.out, A2.out _⟩
            case measure => simp [intOf]
          · have hd := D.done hsp.out (.inr ⟨P', p, rfl, by omega⟩)
            have hyl : ys.length = i + 1 := by rw [D.len, hsl.out]
            have hpx' : decide (x < p) = false := decide_eq_false hpx
            have hpm2 : Hid (ys.Perm (xs.take (i + 1))) := by
              show List.Perm _ _
              rw [htk.out]
              exact hd.2.trans (hpm.out.append_right [x])
            have hd1 := hid hd.1
            replace hyl := hid hyl
            replace A := hid A
            clear hd D hpx
            go_wp2_with fail
            go_quiet (fail)
            go_wp2_with fail
            go_roundw
            case rel => exact ⟨i + 1, _, _, ys, by go_num, by omega, rfl, A.out.later (drewN_below _ _), hyl.out, hd1.out, hpm2.out⟩
            case measure => simp [intOf]; omega
        · have hk1 : k = 0 := by omega
          subst hk1
          have hPn : P = [] := List.eq_nil_of_length_eq_zero hPl.out
          have hd := D.done hsp.out (.inl hPn)
          have hyl : ys.length = i + 1 := by rw [D.len, hsl.out]
          have hpm2 : Hid (ys.Perm (xs.take (i + 1))) := by
            show List.Perm _ _
            rw [htk.out]
            exact hd.2.trans (hpm.out.append_right [x])
          have hd1 := hid hd.1
          replace hyl := hid hyl
          replace A := hid A
          clear hd D hPn
          go_wp2_with fail
          go_quiet (fail)
          go_wp2_with fail
          go_roundw
          case rel => exact ⟨i + 1, _, _, ys, by go_num, by omega, rfl, A.out.later (drewN_below _ _), hyl.out, hd1.out, hpm2.out⟩
          case measure => simp [intOf]; omega
    · have hie : i = n := by omega
      subst hie
      have hs : s = srt xs := srt_eq hsp (by have := hpm; rw [← hlen.out, List.take_length] at this; exact this)
      rw [hs] at A
      replace A := hid A
      clear hsp hpm hsl hs
      go_wp2_with fail
      go_ret
      exact ⟨_, rfl, A.out⟩
end Go.Proofs.Ytkpihibeohjfnaa.Dn

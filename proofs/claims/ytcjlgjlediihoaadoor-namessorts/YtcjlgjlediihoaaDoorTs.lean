/- The law's texts; NamesSorts walked. -/
import Derived.Test.YtcjlgjlediihoaaDoorRv
import Derived.Test.YtcjlgjlediihoaaDoorNw6
namespace Go.Proofs.YtcjlgjlediihoaaDoor.Ts
open Go.ChangeShapes Go.WideShapes Go.ChangeAt Go.RowKit
open Go.Proofs.YtcjlgjlediihoaaDoor.Gr
open Go.Proofs.YtcjlgjlediihoaaDoor.Es
open Go.Proofs.YtcjlgjlediihoaaDoor.Cf
set_option linter.unusedVariables false
set_option linter.unusedSimpArgs false

/-- The same as far as k, or not. -/
theorem eq_step {xs ys : List ByteArray} (h : xs.length = ys.length) {k : Nat} (hk : k < xs.length) (e : xs.take k = ys.take k) (g : xs.getD k ByteArray.empty = ys.getD k ByteArray.empty) : xs.take (k + 1) = ys.take (k + 1) := by
  rw [El.take_snoc (E := eStr) hk, El.take_snoc (E := eStr) (h ▸ hk), e]
  congr 2
theorem texts_any (a b : Option Addr) (n m c d : Nat) (xs ys : List ByteArray) (w : World) (H : eStr.Sl w a n c xs) (K : eStr.Sl w b m d ys) (hn8 : n ≤ 1099511627776) (hm8 : m ≤ 1099511627776) :
    Calls Tryd.prog 19 #[.slice a n c, .slice b m d] w fun e w' => e = .returned (.bool (decide (xs = ys))) ∧ Below w.heap.size w w' := by
  have hl := H.n
  have hr := K.n
  have hc := H.c
  have hd := K.c
  by_cases hnm : n = m
  · subst hnm
    have ne0 : ((n : Int) != (n : Int)) = false := by simp
    have HS : Hid (∀ W, Below w.heap.size w W → eStr.Sl W a n c xs) := fun W b => H.later b
    have KS : Hid (∀ W, Below w.heap.size w W → eStr.Sl W b n d ys) := fun W b => K.later b
    replace hl := hid hl
    replace hr := hid hr
    clear H K
    go_enter Tryd.func19, Tryd.ntmps19
    go_wp2_with fail
    go_loopw [5] (fun kk wr => ∃ k : Nat, kk = .int .i64 k ∧ k ≤ n ∧ Hid (xs.take k = ys.take k) ∧ Hid (Below w.heap.size w wr)) (fun kk _ => n - (intOf kk).toNat)
    case atStart => exact ⟨0, rfl, by omega, by simp [Hid], Below.refl _ _⟩
    case round =>
      obtain ⟨k, rfl, hk, he, bw⟩ := hrel
      by_cases hlt : k < n
      · obtain ⟨b1, o1, rfl, h1⟩ := get1 (HS.out wr bw.out) k hlt
        obtain ⟨b2, o2, rfl, h2⟩ := get1 (KS.out wr bw.out) k hlt
        have q1 := h1 k hlt 0 _ rfl
        have q2 := h2 k hlt 0 _ rfl
        simp only [show eStr.k = 1 from rfl, Nat.mul_one, Nat.add_zero, show eStr.z = ByteArray.empty from rfl] at q1 q2
        have jk0 : (k : Int) < (n : Int) := by omega
        have jo0 : (0 : Int) ≤ (k : Int) := by omega
        have hst : Hid (xs.getD k ByteArray.empty = ys.getD k ByteArray.empty → xs.take (k + 1) = ys.take (k + 1)) := fun g => eq_step (hl.out.trans hr.out.symm) (by rw [hl.out]; exact hlt) he.out g
        have hns : Hid (xs.getD k ByteArray.empty ≠ ys.getD k ByteArray.empty → decide (xs = ys) = false) := fun g => decide_eq_false (fun e => g (by rw [e]))
        clear h1 h2
        generalize xs.getD k ByteArray.empty = x at *
        generalize ys.getD k ByteArray.empty = y at *
        by_cases hxy : x = y
        · subst hxy
          have hse := hid (hst.out rfl)
          have bq : (x.toList != x.toList) = false := by simp
          clear hst hns
          go_wp2_with fail
          go_quiet (fail)
          have bz : Hid (Below w.heap.size w (wr.drewN nq)) := Below.up bw.out (drewN_below _ _)
          go_wp2_with fail
          go_roundw
          case rel => exact ⟨k + 1, by go_num, by omega, hse, bz⟩
          case measure => simp [intOf]; omega
        · have hse := hid (hns.out hxy)
          have bq : (x.toList == y.toList) = false := Rw.bne_of x y hxy
          clear hst hns hxy
          go_wp2_with fail
          go_quiet (fail)
          have bz : Hid (Below w.heap.size w (wr.drewN nq)) := Below.up bw.out (drewN_below _ _)
          go_wp2_with fail
          go_ret
          exact ⟨by rw [hse.out]; rfl, bz.out⟩
      · have hke : k = n := by omega
        subst hke
        have hx : xs = ys := by
          have := he.out
          rwa [List.take_of_length_le (by rw [hl.out]; exact Nat.le_refl _), List.take_of_length_le (by rw [hr.out]; exact Nat.le_refl _)] at this
        have hdd := hid (decide_eq_true hx)
        go_wp2_with fail
        go_ret
        exact ⟨by rw [hdd.out]; rfl, bw.out⟩
  · have ne1 : ((n : Int) != (m : Int)) = true := by simp; omega
    have hdd := hid (decide_eq_false (p := xs = ys) (fun e => hnm (by rw [← hl, ← hr, e])))
    clear H K hnm hl hr
    go_enter Tryd.func19, Tryd.ntmps19
    go_wp2_with fail
    go_ret
    exact ⟨by rw [hdd.out]; rfl, Below.refl _ _⟩
end Go.Proofs.YtcjlgjlediihoaaDoor.Ts

/- The moves of a merged cursor's sources: step, seek, the closures of Seek and of turn. -/
import Derived.Test.YtgjodfaliajlgaaGg
import Derived.Test.YtgjodfaliajlgaaAf
namespace Go.Proofs.Ytgjodfaliajlgaa.Gk
open Go.ChangeShapes Go.WideShapes Go.ChangeAt Go.RowKit
open Go.Sort (grow)
open Go.Proofs.Ytgjodfaliajlgaa.Gr hiding hid addr_add
open Go.Proofs.Ytgjodfaliajlgaa.Ik
open Go.Proofs.Ytgjodfaliajlgaa.Ee
open Go.Proofs.Ytgjodfaliajlgaa.Cm (ik)
open Go.Proofs.Ytgjodfaliajlgaa.Hp
open Go.Proofs.Ytgjodfaliajlgaa.Hm hiding hv
open Go.Proofs.Ytgjodfaliajlgaa.Sk9 (Cut)
open Go.Proofs.Ytgjodfaliajlgaa.Ls9 (Lb c4 hr hv hb)
open Go.Proofs.Ytgjodfaliajlgaa.Lm9
open Go.Proofs.Ytgjodfaliajlgaa.Gc9
open Go.Proofs.Ytgjodfaliajlgaa.Gg
set_option linter.unusedVariables false
set_option linter.unusedSimpArgs false

def st (bk : Bool) (n : Nat) (p : Int) : Int := if bk then max (p - 1) (-1) else min (p + 1) (n : Int)
def sk (bk : Bool) (m : Nat) : Int := if bk then max ((m : Int) - 1) (-1) else (m : Int)
set_option maxHeartbeats 1000000 in
theorem step_any (g ga n : Nat) (bk : Bool) (j : Int) (ys : List E) (w : World) (H : Lc w g ga n j ys) (hj : -1 ≤ j ∧ j ≤ (n : Int)) (hn : n ≤ 4000000000000) :
    Calls Try.prog 73 #[.iface 40 (.pointer (some ⟨g, 0, none⟩)), .bool bk] w fun e w' => e = .returned (.bool (hb n (st bk n j))) ∧ Lc w' g ga n (st bk n j) ys ∧ Fp (· = g) w w' := by
  cases bk with
  | false =>
    have HC := hid (next_any g ga n j ys w H hj hn)
    have ht : Hid (st false n j = min (j + 1) (n : Int)) := rfl
    rw [ht.out]
    generalize min (j + 1) (n : Int) = t at *
    generalize hb n t = bb at *
    clear H ht
    go_enter Try.func73, Try.ntmps73
    go_wp2_with fail
    refine HC.out.mono ?_
    rintro e w1 ⟨rfl, m1⟩
    replace m1 := hid m1
    clear HC
    go_wp2_with fail
    go_ret
    exact ⟨rfl, m1.out⟩
  | true =>
    have HC := hid (prev_any g ga n j ys w H hj hn)
    have ht : Hid (st true n j = max (j - 1) (-1)) := rfl
    rw [ht.out]
    generalize max (j - 1) (-1) = t at *
    generalize hb n t = bb at *
    clear H ht
    go_enter Try.func73, Try.ntmps73
    go_wp2_with fail
    refine HC.out.mono ?_
    rintro e w1 ⟨rfl, m1⟩
    replace m1 := hid m1
    clear HC
    go_wp2_with fail
    go_ret
    exact ⟨rfl, m1.out⟩
set_option maxHeartbeats 1000000 in
theorem sseek_any (g ga n m : Nat) (bk : Bool) (j : Int) (ys : List E) (k : ByteArray) (s c : Int) (w : World) (H : Lc w g ga n j ys) (hn : n ≤ 4000000000000) (hm : Cut ys (ik k s c) m) :
    Calls Try.prog 74 #[.iface 40 (.pointer (some ⟨g, 0, none⟩)), .agg #[.string k, .int .u64 s, .int .i64 c], .bool bk] w fun e w' => e = .returned (.bool (hb n (sk bk m))) ∧ Lc w' g ga n (sk bk m) ys ∧ Fp (· = g) w w' := by
  obtain ⟨W0, hW0⟩ : ∃ W, W = w.alloc (.cells #[.string k, .int .u64 s, .int .i64 c] 33) := ⟨_, rfl⟩
  have B0 : Below w.heap.size w W0 := by rw [hW0]; exact box_below _ _
  have HC := hid (seek_any g ga n m j ys k s c W0 (H.later B0) hn hm)
  have hml : Hid (m ≤ n) := by show _ ≤ _; have := hm.1; rw [H.n] at this; exact this
  have hF : Hid (∀ w', Fp (· = g) W0 w' → Fp (· = g) w w') := fun w' f => (Fp.of B0).tr (f.wide fun k _ hk => .inl hk)
  replace hW0 := hid hW0
  clear H hm B0
  cases bk with
  | false =>
    have ht : Hid (sk false m = (m : Int)) := rfl
    rw [ht.out]
    generalize hb n (m : Int) = bb at *
    clear ht
    go_enter Try.func74, Try.ntmps74
    go_wp2_with fail
    rw [← hW0.out]
    refine HC.out.mono ?_
    rintro e w1 ⟨rfl, l1, f1⟩
    have m1 : Hid (Lc w1 g ga n (m : Int) ys ∧ Fp (· = g) w w1) := ⟨l1, hF.out _ f1⟩
    clear HC l1 f1
    go_wp2_with fail
    go_ret
    exact ⟨rfl, m1.out⟩
  | true =>
    have ht : Hid (sk true m = max ((m : Int) - 1) (-1)) := rfl
    rw [ht.out]
    have HP := hid (fun W (L : Lc W g ga n (m : Int) ys) => prev_any g ga n (m : Int) ys W L ⟨by omega, by have := hml.out; omega⟩ hn)
    generalize max ((m : Int) - 1) (-1) = t at *
    generalize hb n t = bb at *
    generalize hb n (m : Int) = bb0 at *
    clear ht
    go_enter Try.func74, Try.ntmps74
    go_wp2_with fail
    rw [← hW0.out]
    refine HC.out.mono ?_
    rintro e w1 ⟨rfl, l1, f1⟩
    have HP1 := hid (HP.out w1 l1)
    have hF1 := hid (hF.out _ f1)
    clear HC l1 f1 HP
    go_wp2_with fail
    refine HP1.out.mono ?_
    rintro e w2 ⟨rfl, l2, f2⟩
    have m1 : Hid (Lc w2 g ga n t ys ∧ Fp (· = g) w w2) := ⟨l2, hF1.out.tr (f2.wide fun k _ hk => .inl hk)⟩
    clear HP1 l2 f2
    go_wp2_with fail
    go_ret
    exact ⟨rfl, m1.out⟩
set_option maxHeartbeats 1000000 in
theorem seek1_any (gk g ga n m : Nat) (j : Int) (f : Nat) (ys : List E) (k : ByteArray) (s c : Int) (w : World) (H : Lc w g ga n j ys) (hn : n ≤ 4000000000000) (hm : Cut ys (ik k s c) m)
    (k0 : w.cell? ⟨gk, 0, none⟩ = some (.string k)) (k1 : w.cell? ⟨gk, 1, none⟩ = some (.int .u64 s)) (k2 : w.cell? ⟨gk, 2, none⟩ = some (.int .i64 c)) :
    Calls Try.prog 53 #[.int .i64 f, .iface 40 (.pointer (some ⟨g, 0, none⟩)), .pointer (some ⟨gk, 0, none⟩)] w fun e w' => e = .returned (.bool (hb n (m : Int))) ∧ Lc w' g ga n (m : Int) ys ∧ Fp (· = g) w w' := by
  have HC := hid (seek_any g ga n m j ys k s c w H hn hm)
  generalize hb n (m : Int) = bb at *
  clear H hm
  go_enter Try.func53, Try.ntmps53
  go_wp2_with fail
  refine HC.out.mono ?_
  rintro e w1 ⟨rfl, m1⟩
  replace m1 := hid m1
  clear HC k0 k1 k2
  go_wp2_with fail
  go_ret
  exact ⟨rfl, m1.out⟩
set_option maxHeartbeats 1000000 in
theorem gseek_any (px py gk g ga n m : Nat) (j : Int) (f : Nat) (ys : List E) (k : ByteArray) (s c : Int) (w : World) (H : Lc w g ga n j ys) (hn : n ≤ 4000000000000) (hm : Cut ys (ik k s c) m)
    (k0 : w.cell? ⟨gk, 0, none⟩ = some (.string k)) (k1 : w.cell? ⟨gk, 1, none⟩ = some (.int .u64 s)) (k2 : w.cell? ⟨gk, 2, none⟩ = some (.int .i64 c))
    (hx : w.cell? ⟨px, 0, none⟩ = some (.func (Fn.func 53) #[] #[.pointer (some ⟨gk, 0, none⟩)])) (hy : w.cell? ⟨py, 0, none⟩ = some (.int .i64 f)) :
    Calls Try.prog 67 #[.iface 40 (.pointer (some ⟨g, 0, none⟩)), .pointer (some ⟨px, 0, none⟩), .pointer (some ⟨py, 0, none⟩)] w fun e w' => e = .returned (.bool (hb n (m : Int))) ∧ Lc w' g ga n (m : Int) ys ∧ Fp (· = g) w w' := by
  have HC := hid (seek1_any gk g ga n m j f ys k s c w H hn hm k0 k1 k2)
  generalize hb n (m : Int) = bb at *
  clear H hm k0 k1 k2
  go_enter Try.func67, Try.ntmps67
  go_wp2_with fail
  refine HC.out.mono ?_
  rintro e w1 ⟨rfl, m1⟩
  replace m1 := hid m1
  clear hx hy HC
  go_wp2_with fail
  go_ret
  exact ⟨rfl, m1.out⟩
/-- The boxes that turn's closure holds. -/
structure Tb (w : World) (g1 g2 g3 g4 i : Nat) (bk : Bool) (k3 : ByteArray) (s3 c3 : Int) (k4 : ByteArray) (s4 c4 : Int) : Prop where
  a : w.cell? ⟨g1, 0, none⟩ = some (.int .i64 i)
  b : w.cell? ⟨g2, 0, none⟩ = some (.bool bk)
  p0 : w.cell? ⟨g3, 0, none⟩ = some (.string k3)
  p1 : w.cell? ⟨g3, 1, none⟩ = some (.int .u64 s3)
  p2 : w.cell? ⟨g3, 2, none⟩ = some (.int .i64 c3)
  h0 : w.cell? ⟨g4, 0, none⟩ = some (.string k4)
  h1 : w.cell? ⟨g4, 1, none⟩ = some (.int .u64 s4)
  h2 : w.cell? ⟨g4, 2, none⟩ = some (.int .i64 c4)
/-- Where a turn puts a source. -/
def Tn (bk : Bool) (i f n : Nat) (j : Int) (ys : List E) (q3 q4 : IK) (t : Int) : Prop :=
  (f = i ∧ t = st bk n j) ∨ (f < i ∧ ∃ m, Cut ys q3 m ∧ t = sk bk m) ∨ (i < f ∧ ∃ m, Cut ys q4 m ∧ t = sk bk m)
set_option maxHeartbeats 1000000 in
theorem turn1_any (g1 g2 g3 g4 g ga n i f : Nat) (bk : Bool) (j t : Int) (ys : List E) (k3 : ByteArray) (s3 c3 : Int) (k4 : ByteArray) (s4 c4 : Int) (w : World) (H : Lc w g ga n j ys) (hj : -1 ≤ j ∧ j ≤ (n : Int)) (hn : n ≤ 4000000000000)
    (T : Tb w g1 g2 g3 g4 i bk k3 s3 c3 k4 s4 c4) (hT : Tn bk i f n j ys (ik k3 s3 c3) (ik k4 s4 c4) t) :
    Calls Try.prog 72 #[.int .i64 f, .iface 40 (.pointer (some ⟨g, 0, none⟩)), .pointer (some ⟨g1, 0, none⟩), .pointer (some ⟨g2, 0, none⟩), .pointer (some ⟨g3, 0, none⟩), .pointer (some ⟨g4, 0, none⟩)] w fun e w' => e = .returned (.bool (hb n t)) ∧ Lc w' g ga n t ys ∧ Fp (· = g) w w' := by
  obtain ⟨ta, tb, p0, p1, p2, h0, h1, h2⟩ := T
  rcases hT with ⟨e, ht⟩ | ⟨e, m, hm, ht⟩ | ⟨e, m, hm, ht⟩
  · have HC := hid (step_any g ga n bk j ys w H hj hn)
    rw [← ht] at HC
    replace ht := hid ht
    generalize hb n t = bb at *
    subst e
    clear H
    go_enter Try.func72, Try.ntmps72
    go_wp2_with fail
    refine HC.out.mono ?_
    rintro e w1 ⟨rfl, m1⟩
    replace m1 := hid m1
    clear ta tb p0 p1 p2 h0 h1 h2 HC
    go_wp2_with fail
    go_ret
    exact ⟨rfl, m1.out⟩
  · have HC := hid (sseek_any g ga n m bk j ys k3 s3 c3 w H hn hm)
    rw [← ht] at HC
    replace ht := hid ht
    replace hm := hid hm
    generalize hb n t = bb at *
    have e1 : ¬ f = i := by omega
    have e2 : (f : Int) < (i : Int) := by omega
    have e3 : ((f : Int) == (i : Int)) = false := by rw [beq_eq_false_iff_ne]; omega
    clear H
    go_enter Try.func72, Try.ntmps72
    go_wp2_with fail
    refine HC.out.mono ?_
    rintro e w1 ⟨rfl, m1⟩
    replace m1 := hid m1
    clear ta tb p0 p1 p2 h0 h1 h2 HC
    go_wp2_with fail
    go_ret
    exact ⟨rfl, m1.out⟩
  · have HC := hid (sseek_any g ga n m bk j ys k4 s4 c4 w H hn hm)
    rw [← ht] at HC
    replace ht := hid ht
    replace hm := hid hm
    generalize hb n t = bb at *
    have e1 : ¬ f = i := by omega
    have e2 : ¬ (f : Int) < (i : Int) := by omega
    have e3 : ((f : Int) == (i : Int)) = false := by rw [beq_eq_false_iff_ne]; omega
    clear H
    go_enter Try.func72, Try.ntmps72
    go_wp2_with fail
    refine HC.out.mono ?_
    rintro e w1 ⟨rfl, m1⟩
    replace m1 := hid m1
    clear ta tb p0 p1 p2 h0 h1 h2 HC
    go_wp2_with fail
    go_ret
    exact ⟨rfl, m1.out⟩
set_option maxHeartbeats 1000000 in
theorem gturn_any (px py g1 g2 g3 g4 g ga n i f : Nat) (bk : Bool) (j t : Int) (ys : List E) (k3 : ByteArray) (s3 c3 : Int) (k4 : ByteArray) (s4 c4 : Int) (w : World) (H : Lc w g ga n j ys) (hj : -1 ≤ j ∧ j ≤ (n : Int)) (hn : n ≤ 4000000000000)
    (T : Tb w g1 g2 g3 g4 i bk k3 s3 c3 k4 s4 c4) (hT : Tn bk i f n j ys (ik k3 s3 c3) (ik k4 s4 c4) t)
    (hx : w.cell? ⟨px, 0, none⟩ = some (.func (Fn.func 72) #[] #[.pointer (some ⟨g1, 0, none⟩), .pointer (some ⟨g2, 0, none⟩), .pointer (some ⟨g3, 0, none⟩), .pointer (some ⟨g4, 0, none⟩)])) (hy : w.cell? ⟨py, 0, none⟩ = some (.int .i64 f)) :
    Calls Try.prog 67 #[.iface 40 (.pointer (some ⟨g, 0, none⟩)), .pointer (some ⟨px, 0, none⟩), .pointer (some ⟨py, 0, none⟩)] w fun e w' => e = .returned (.bool (hb n t)) ∧ Lc w' g ga n t ys ∧ Fp (· = g) w w' := by
  have HC := hid (turn1_any g1 g2 g3 g4 g ga n i f bk j t ys k3 s3 c3 k4 s4 c4 w H hj hn T hT)
  generalize hb n t = bb at *
  clear H T hT
  go_enter Try.func67, Try.ntmps67
  go_wp2_with fail
  refine HC.out.mono ?_
  rintro e w1 ⟨rfl, m1⟩
  replace m1 := hid m1
  clear hx hy HC
  go_wp2_with fail
  go_ret
  exact ⟨rfl, m1.out⟩
end Go.Proofs.Ytgjodfaliajlgaa.Gk

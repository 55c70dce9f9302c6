/- The law's wiped and ints by their contracts; places compared. -/
import Derived.Test.YtkpihibeohjfnaaVt
namespace Go.Proofs.Ytkpihibeohjfnaa.Wi
open Go.ChangeShapes Go.WideShapes Go.ChangeAt Go.RowKit
open Go.Proofs.Ytkpihibeohjfnaa.Gr
open Go.Proofs.Ytkpihibeohjfnaa.Ev
open Go.Proofs.Ytkpihibeohjfnaa.Oe
open Go.Proofs.Ytkpihibeohjfnaa.Lv
open Go.Proofs.Ytkpihibeohjfnaa.Vp
open Go.Proofs.Ytkpihibeohjfnaa.Vr
open Go.Proofs.Ytkpihibeohjfnaa.Vt
set_option linter.unusedVariables false
set_option linter.unusedSimpArgs false

def six (W : World) (g o : Nat) (v0 v1 v2 v3 v4 v5 : Value) : World := (((((W.setCell ⟨g, o, none⟩ v0).setCell ⟨g, o + 1, none⟩ v1).setCell ⟨g, o + 2, none⟩ v2).setCell ⟨g, o + 3, none⟩ v3).setCell ⟨g, o + 4, none⟩ v4).setCell ⟨g, o + 5, none⟩ v5
theorem six_pad {W : World} {g t m : Nat} (h : Pad W g t m) (o : Nat) (v0 v1 v2 v3 v4 v5 : Value) : Pad (six W g o v0 v1 v2 v3 v4 v5) g t m := (((((h.set _ _).set _ _).set _ _).set _ _).set _ _).set _ _
theorem six_below {n : Nat} {w W : World} {g : Nat} (h : Below n w W) (hg : n ≤ g) (o : Nat) (v0 v1 v2 v3 v4 v5 : Value) : Below n w (six W g o v0 v1 v2 v3 v4 v5) :=
  (((((h.setCell hg _).setCell hg _).setCell hg _).setCell hg _).setCell hg _).setCell hg _
set_option maxHeartbeats 1000000 in
theorem wiped_any (a : Option Addr) (n c : Nat) (w W : World) (hn : n ≤ 1048576) (hc : n ≤ c) (hp : 0 < n → ∃ b, a = some ⟨b, 0, none⟩ ∧ w.heap.size ≤ b ∧ Pad W b 43 (n * 6)) (hb : Below w.heap.size w W) :
    Calls Try.prog 16 #[.slice a n c] W fun e w' => e = .returned (.tuple #[]) ∧ Below w.heap.size w w' := by
  replace hp := hid hp
  replace hb := hid hb
  go_enter Try.func16, Try.ntmps16
  go_wp2_with fail
  go_loopw [2] (fun jj wr => ∃ j : Nat, jj = .int .i64 j ∧ j ≤ n ∧ Hid (0 < n → ∃ b, a = some ⟨b, 0, none⟩ ∧ w.heap.size ≤ b ∧ Pad wr b 43 (n * 6)) ∧ Hid (Below w.heap.size w wr)) (fun jj _ => n - (intOf jj).toNat)
  case atStart => exact ⟨0, rfl, by omega, hp, hb⟩
  case round =>
    clear hp hb
    obtain ⟨j, rfl, hj, hp, hb⟩ := hrel
    by_cases hjl : j < n
    · obtain ⟨b, hab, hwb, P⟩ := hp.out (by omega)
      subst hab
      obtain ⟨x0, e0⟩ := P.cell (j * 6) (by omega)
      obtain ⟨x1, e1⟩ := P.cell (j * 6 + 1) (by omega)
      obtain ⟨x2, e2⟩ := P.cell (j * 6 + 2) (by omega)
      obtain ⟨x3, e3⟩ := P.cell (j * 6 + 3) (by omega)
      obtain ⟨x4, e4⟩ := P.cell (j * 6 + 4) (by omega)
      obtain ⟨x5, e5⟩ := P.cell (j * 6 + 5) (by omega)
      have f0 := P.fz (j * 6)
      have f1 := P.fz (j * 6 + 1)
      have f2 := P.fz (j * 6 + 2)
      have f3 := P.fz (j * 6 + 3)
      have f4 := P.fz (j * 6 + 4)
      have f5 := P.fz (j * 6 + 5)
      have P2 := hid (fun v0 v1 v2 v3 v4 v5 => six_pad P (j * 6) v0 v1 v2 v3 v4 v5)
      have b2 := hid (fun v0 v1 v2 v3 v4 v5 => six_below hb.out hwb (j * 6) v0 v1 v2 v3 v4 v5)
      have jk0 : (j : Int) < (n : Int) := by omega
      have jo0 : (0 : Int) ≤ (j : Int) := by omega
      clear P hp hb
      go_wp2_with fail
      go_roundw
      case rel => exact ⟨j + 1, by go_num, by omega, fun _ => ⟨b, rfl, hwb, P2.out _ _ _ _ _ _⟩, b2.out _ _ _ _ _ _⟩
      case measure => simp [intOf]; omega
    · have hje : j = n := by omega
      subst hje
      clear hp
      go_wp2_with fail
      refine bodyPost_end (results_none rfl _ _ _) rfl ?_
      exact ⟨rfl, hb.out⟩
theorem Acc.pad {w W : World} {a : Option Addr} {n c : Nat} {xs : List Fi} (h : Acc eFi w W (.slice a n c) xs) : 0 < n → ∃ b, a = some ⟨b, 0, none⟩ ∧ w.heap.size ≤ b ∧ Pad W b 43 (n * 6) := by
  intro hn
  obtain ⟨a', c', e⟩ := h.shape
  cases e
  have h0 := h.o
  unfold El.Own at h0
  obtain ⟨b, h1, _, h2, h3⟩ := own_pad h0 hn
  exact ⟨b, h1, h2, h3⟩
/-- Places compared. -/
def peq (f g : Pl) : Bool := (f.l == g.l) && (f.n == g.n)
theorem run_pneq (f : Pl) (w : World) : (binOp .neq 41 (.agg #[.int .i64 f.l, .int .i64 f.n]) (.agg #[.int .i64 f.l, .int .i64 f.n])).run Try.prog w = .ok (.bool false) w := by
  obtain ⟨l, n⟩ := f
  dsimp only
  have h1 : (l == l) = true := beq_self_eq_true l
  have h2 : (n == n) = true := beq_self_eq_true n
  go_simp
end Go.Proofs.Ytkpihibeohjfnaa.Wi

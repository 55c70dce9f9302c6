/- Proved: for every number, CodecNobody returns true: a Reader that is nil and a Reader that NewReader did not give answer zero values to every call, and ErrNil to Err. -/
import Derived.Test.YtpinknkdcecajaaRows
import Derived.WalkKit
import Derived.ProofKit
import Derived.OpenShut
import Derived.WalkSpells
import Derived.WalkLawsBesides
import Derived.BigQuiet
import Derived.ShutString
import Derived.ChangeOld
import Derived.Below
import Derived.Deep.QuietTactic
namespace Go.Proofs.Ytpinknkdcecajaa.codecNobody
open Go.ChangeShapes Go.WideShapes Go.ChangeAt Go.RowKit
set_option linter.unusedVariables false

theorem own : ownKnob Try.prog.godebug = none := by kernel_rfl

def Nought (w : World) (b : Nat) : Prop :=
  w.cell? ⟨b, 0, none⟩ = some (.bool false) ∧ w.cell? ⟨b, 0 + 1, none⟩ = some (.slice none 0 0) ∧ w.cell? ⟨b, 0 + 2, none⟩ = some (.int .i64 0) ∧ w.cell? ⟨b, 0 + 3, none⟩ = some (.int .i64 0)
theorem Nought.later {B b : Nat} {w w' : World} (h : Nought w b) (k : Below B w w') (hb : b < B) : Nought w' b := by
  unfold Nought at h ⊢
  rw [k.cell (p := ⟨b, 0, none⟩) hb, k.cell (p := ⟨b, 0 + 1, none⟩) hb, k.cell (p := ⟨b, 0 + 2, none⟩) hb, k.cell (p := ⟨b, 0 + 3, none⟩) hb]
  exact h
def On (B : Nat) (w w' : World) : Prop := Below B w w' ∧ B ≤ w'.heap.size
theorem on_of {B : Nat} {w w1 w2 : World} (h : On B w w1) (k : Below w1.heap.size w1 w2) : On B w w2 :=
  ⟨h.1.trans (k.mono h.2), Nat.le_trans h.2 k.size⟩

theorem varint_nil0 (w : World) :
    Calls Try.prog 36 #[.pointer none] w fun e w' => e = .returned (.int .u64 0) ∧ Below w.heap.size w w' := by
  go_enter Try.func36, Try.ntmps36
  go_wp2
  go_ret
  exact ⟨rfl, by repeat (first | exact Below.refl _ _ | exact below_drewN (Below.refl _ _) _ | (refine Below.alloc ?_ (by first | (simp; done) | (simp; omega)) _))⟩
theorem varint_nil (B : Nat) (w0 w : World) (h : On B w0 w) :
    Calls Try.prog 36 #[.pointer none] w fun e w' => e = .returned (.int .u64 0) ∧ On B w0 w' :=
  (varint_nil0 w).mono fun e w' k => ⟨k.1, on_of h k.2⟩
theorem varint_zero0 (b : Nat) (w : World) (h0 : w.cell? ⟨b, 0, none⟩ = some (.bool false)) (h1 : w.cell? ⟨b, 0 + 1, none⟩ = some (.slice none 0 0)) (h2 : w.cell? ⟨b, 0 + 2, none⟩ = some (.int .i64 0)) (h3 : w.cell? ⟨b, 0 + 3, none⟩ = some (.int .i64 0)) (hb : b < w.heap.size) :
    Calls Try.prog 36 #[.pointer (some ⟨b, 0, none⟩)] w fun e w' => e = .returned (.int .u64 0) ∧ Below w.heap.size w w' := by
  go_enter Try.func36, Try.ntmps36
  go_wp2
  go_ret
  exact ⟨rfl, by repeat (first | exact Below.refl _ _ | exact below_drewN (Below.refl _ _) _ | (refine Below.alloc ?_ (by first | (simp; done) | (simp; omega)) _))⟩
theorem varint_zero (B b : Nat) (w0 w : World) (h : On B w0 w) (hn : Nought w0 b) (hb : b < B) :
    Calls Try.prog 36 #[.pointer (some ⟨b, 0, none⟩)] w fun e w' => e = .returned (.int .u64 0) ∧ On B w0 w' :=
  have k := hn.later h.1 hb
  (varint_zero0 b w k.1 k.2.1 k.2.2.1 k.2.2.2 (Nat.lt_of_lt_of_le hb h.2)).mono fun e w' k => ⟨k.1, on_of h k.2⟩

theorem number_nil0 (m : Int) (w : World) :
    Calls Try.prog 38 #[.pointer none, .int .i64 m] w fun e w' => e = .returned (.int .i64 0) ∧ Below w.heap.size w w' := by
  go_enter Try.func38, Try.ntmps38
  go_wp2
  go_ret
  exact ⟨rfl, by repeat (first | exact Below.refl _ _ | exact below_drewN (Below.refl _ _) _ | (refine Below.alloc ?_ (by first | (simp; done) | (simp; omega)) _))⟩
theorem number_nil (m : Int) (B : Nat) (w0 w : World) (h : On B w0 w) :
    Calls Try.prog 38 #[.pointer none, .int .i64 m] w fun e w' => e = .returned (.int .i64 0) ∧ On B w0 w' :=
  (number_nil0 m w).mono fun e w' k => ⟨k.1, on_of h k.2⟩
theorem number_zero0 (m : Int) (b : Nat) (w : World) (h0 : w.cell? ⟨b, 0, none⟩ = some (.bool false)) (h1 : w.cell? ⟨b, 0 + 1, none⟩ = some (.slice none 0 0)) (h2 : w.cell? ⟨b, 0 + 2, none⟩ = some (.int .i64 0)) (h3 : w.cell? ⟨b, 0 + 3, none⟩ = some (.int .i64 0)) (hb : b < w.heap.size) :
    Calls Try.prog 38 #[.pointer (some ⟨b, 0, none⟩), .int .i64 m] w fun e w' => e = .returned (.int .i64 0) ∧ Below w.heap.size w w' := by
  have hb1 : b < w.heap.size + 1 := by omega
  have hb2 : b < w.heap.size + 1 + 1 := by omega
  go_enter Try.func38, Try.ntmps38
  go_wp2
  go_ret
  exact ⟨rfl, by repeat (first | exact Below.refl _ _ | exact below_drewN (Below.refl _ _) _ | (refine Below.alloc ?_ (by first | (simp; done) | (simp; omega)) _))⟩
theorem number_zero (m : Int) (B b : Nat) (w0 w : World) (h : On B w0 w) (hn : Nought w0 b) (hb : b < B) :
    Calls Try.prog 38 #[.pointer (some ⟨b, 0, none⟩), .int .i64 m] w fun e w' => e = .returned (.int .i64 0) ∧ On B w0 w' :=
  have k := hn.later h.1 hb
  (number_zero0 m b w k.1 k.2.1 k.2.2.1 k.2.2.2 (Nat.lt_of_lt_of_le hb h.2)).mono fun e w' k => ⟨k.1, on_of h k.2⟩

theorem fixedA_nil0 (w : World) :
    Calls Try.prog 40 #[.pointer none] w fun e w' => e = .returned (.int .u32 0) ∧ Below w.heap.size w w' := by
  go_enter Try.func40, Try.ntmps40
  go_wp2
  go_ret
  exact ⟨rfl, by repeat (first | exact Below.refl _ _ | exact below_drewN (Below.refl _ _) _ | (refine Below.alloc ?_ (by first | (simp; done) | (simp; omega)) _))⟩
theorem fixedA_nil (B : Nat) (w0 w : World) (h : On B w0 w) :
    Calls Try.prog 40 #[.pointer none] w fun e w' => e = .returned (.int .u32 0) ∧ On B w0 w' :=
  (fixedA_nil0 w).mono fun e w' k => ⟨k.1, on_of h k.2⟩
theorem fixedA_zero0 (b : Nat) (w : World) (h0 : w.cell? ⟨b, 0, none⟩ = some (.bool false)) (h1 : w.cell? ⟨b, 0 + 1, none⟩ = some (.slice none 0 0)) (h2 : w.cell? ⟨b, 0 + 2, none⟩ = some (.int .i64 0)) (h3 : w.cell? ⟨b, 0 + 3, none⟩ = some (.int .i64 0)) (hb : b < w.heap.size) :
    Calls Try.prog 40 #[.pointer (some ⟨b, 0, none⟩)] w fun e w' => e = .returned (.int .u32 0) ∧ Below w.heap.size w w' := by
  go_enter Try.func40, Try.ntmps40
  go_wp2
  go_ret
  exact ⟨rfl, by repeat (first | exact Below.refl _ _ | exact below_drewN (Below.refl _ _) _ | (refine Below.alloc ?_ (by first | (simp; done) | (simp; omega)) _))⟩
theorem fixedA_zero (B b : Nat) (w0 w : World) (h : On B w0 w) (hn : Nought w0 b) (hb : b < B) :
    Calls Try.prog 40 #[.pointer (some ⟨b, 0, none⟩)] w fun e w' => e = .returned (.int .u32 0) ∧ On B w0 w' :=
  have k := hn.later h.1 hb
  (fixedA_zero0 b w k.1 k.2.1 k.2.2.1 k.2.2.2 (Nat.lt_of_lt_of_le hb h.2)).mono fun e w' k => ⟨k.1, on_of h k.2⟩

theorem fixedB_nil0 (w : World) :
    Calls Try.prog 42 #[.pointer none] w fun e w' => e = .returned (.int .u64 0) ∧ Below w.heap.size w w' := by
  go_enter Try.func42, Try.ntmps42
  go_wp2
  go_ret
  exact ⟨rfl, by repeat (first | exact Below.refl _ _ | exact below_drewN (Below.refl _ _) _ | (refine Below.alloc ?_ (by first | (simp; done) | (simp; omega)) _))⟩
theorem fixedB_nil (B : Nat) (w0 w : World) (h : On B w0 w) :
    Calls Try.prog 42 #[.pointer none] w fun e w' => e = .returned (.int .u64 0) ∧ On B w0 w' :=
  (fixedB_nil0 w).mono fun e w' k => ⟨k.1, on_of h k.2⟩
theorem fixedB_zero0 (b : Nat) (w : World) (h0 : w.cell? ⟨b, 0, none⟩ = some (.bool false)) (h1 : w.cell? ⟨b, 0 + 1, none⟩ = some (.slice none 0 0)) (h2 : w.cell? ⟨b, 0 + 2, none⟩ = some (.int .i64 0)) (h3 : w.cell? ⟨b, 0 + 3, none⟩ = some (.int .i64 0)) (hb : b < w.heap.size) :
    Calls Try.prog 42 #[.pointer (some ⟨b, 0, none⟩)] w fun e w' => e = .returned (.int .u64 0) ∧ Below w.heap.size w w' := by
  go_enter Try.func42, Try.ntmps42
  go_wp2
  go_ret
  exact ⟨rfl, by repeat (first | exact Below.refl _ _ | exact below_drewN (Below.refl _ _) _ | (refine Below.alloc ?_ (by first | (simp; done) | (simp; omega)) _))⟩
theorem fixedB_zero (B b : Nat) (w0 w : World) (h : On B w0 w) (hn : Nought w0 b) (hb : b < B) :
    Calls Try.prog 42 #[.pointer (some ⟨b, 0, none⟩)] w fun e w' => e = .returned (.int .u64 0) ∧ On B w0 w' :=
  have k := hn.later h.1 hb
  (fixedB_zero0 b w k.1 k.2.1 k.2.2.1 k.2.2.2 (Nat.lt_of_lt_of_le hb h.2)).mono fun e w' k => ⟨k.1, on_of h k.2⟩

theorem text_nil0 (m : Int) (w : World) :
    Calls Try.prog 43 #[.pointer none, .int .i64 m] w fun e w' => e = .returned (.string ⟨#[]⟩) ∧ Below w.heap.size w w' := by
  go_enter Try.func43, Try.ntmps43
  go_wp2
  go_ret
  exact ⟨rfl, by repeat (first | exact Below.refl _ _ | exact below_drewN (Below.refl _ _) _ | (refine Below.alloc ?_ (by first | (simp; done) | (simp; omega)) _))⟩
theorem text_nil (m : Int) (B : Nat) (w0 w : World) (h : On B w0 w) :
    Calls Try.prog 43 #[.pointer none, .int .i64 m] w fun e w' => e = .returned (.string ⟨#[]⟩) ∧ On B w0 w' :=
  (text_nil0 m w).mono fun e w' k => ⟨k.1, on_of h k.2⟩
theorem text_zero0 (m : Int) (b : Nat) (w : World) (h0 : w.cell? ⟨b, 0, none⟩ = some (.bool false)) (h1 : w.cell? ⟨b, 0 + 1, none⟩ = some (.slice none 0 0)) (h2 : w.cell? ⟨b, 0 + 2, none⟩ = some (.int .i64 0)) (h3 : w.cell? ⟨b, 0 + 3, none⟩ = some (.int .i64 0)) (hb : b < w.heap.size) :
    Calls Try.prog 43 #[.pointer (some ⟨b, 0, none⟩), .int .i64 m] w fun e w' => e = .returned (.string ⟨#[]⟩) ∧ Below w.heap.size w w' := by
  have hb1 : b < w.heap.size + 1 := by omega
  have hb2 : b < w.heap.size + 1 + 1 := by omega
  go_enter Try.func43, Try.ntmps43
  go_wp2
  go_ret
  exact ⟨rfl, by repeat (first | exact Below.refl _ _ | exact below_drewN (Below.refl _ _) _ | (refine Below.alloc ?_ (by first | (simp; done) | (simp; omega)) _))⟩
theorem text_zero (m : Int) (B b : Nat) (w0 w : World) (h : On B w0 w) (hn : Nought w0 b) (hb : b < B) :
    Calls Try.prog 43 #[.pointer (some ⟨b, 0, none⟩), .int .i64 m] w fun e w' => e = .returned (.string ⟨#[]⟩) ∧ On B w0 w' :=
  have k := hn.later h.1 hb
  (text_zero0 m b w k.1 k.2.1 k.2.2.1 k.2.2.2 (Nat.lt_of_lt_of_le hb h.2)).mono fun e w' k => ⟨k.1, on_of h k.2⟩

theorem left_nil0 (w : World) :
    Calls Try.prog 34 #[.pointer none] w fun e w' => e = .returned (.int .i64 0) ∧ Below w.heap.size w w' := by
  go_enter Try.func34, Try.ntmps34
  go_wp2
  go_ret
  exact ⟨rfl, by repeat (first | exact Below.refl _ _ | exact below_drewN (Below.refl _ _) _ | (refine Below.alloc ?_ (by first | (simp; done) | (simp; omega)) _))⟩
theorem left_nil (B : Nat) (w0 w : World) (h : On B w0 w) :
    Calls Try.prog 34 #[.pointer none] w fun e w' => e = .returned (.int .i64 0) ∧ On B w0 w' :=
  (left_nil0 w).mono fun e w' k => ⟨k.1, on_of h k.2⟩
theorem left_zero0 (b : Nat) (w : World) (h0 : w.cell? ⟨b, 0, none⟩ = some (.bool false)) (h1 : w.cell? ⟨b, 0 + 1, none⟩ = some (.slice none 0 0)) (h2 : w.cell? ⟨b, 0 + 2, none⟩ = some (.int .i64 0)) (h3 : w.cell? ⟨b, 0 + 3, none⟩ = some (.int .i64 0)) (hb : b < w.heap.size) :
    Calls Try.prog 34 #[.pointer (some ⟨b, 0, none⟩)] w fun e w' => e = .returned (.int .i64 0) ∧ Below w.heap.size w w' := by
  go_enter Try.func34, Try.ntmps34
  go_wp2
  go_quiet (fail)
  go_wp2
  go_ret
  exact ⟨rfl, by repeat (first | exact Below.refl _ _ | exact below_drewN (Below.refl _ _) _ | (refine Below.alloc ?_ (by first | (simp; done) | (simp; omega)) _))⟩
theorem left_zero (B b : Nat) (w0 w : World) (h : On B w0 w) (hn : Nought w0 b) (hb : b < B) :
    Calls Try.prog 34 #[.pointer (some ⟨b, 0, none⟩)] w fun e w' => e = .returned (.int .i64 0) ∧ On B w0 w' :=
  have k := hn.later h.1 hb
  (left_zero0 b w k.1 k.2.1 k.2.2.1 k.2.2.2 (Nat.lt_of_lt_of_le hb h.2)).mono fun e w' k => ⟨k.1, on_of h k.2⟩

theorem at_nil0 (w : World) :
    Calls Try.prog 33 #[.pointer none] w fun e w' => e = .returned (.int .i64 0) ∧ Below w.heap.size w w' := by
  go_enter Try.func33, Try.ntmps33
  go_wp2
  go_ret
  exact ⟨rfl, by repeat (first | exact Below.refl _ _ | exact below_drewN (Below.refl _ _) _ | (refine Below.alloc ?_ (by first | (simp; done) | (simp; omega)) _))⟩
theorem at_nil (B : Nat) (w0 w : World) (h : On B w0 w) :
    Calls Try.prog 33 #[.pointer none] w fun e w' => e = .returned (.int .i64 0) ∧ On B w0 w' :=
  (at_nil0 w).mono fun e w' k => ⟨k.1, on_of h k.2⟩
theorem at_zero0 (b : Nat) (w : World) (h0 : w.cell? ⟨b, 0, none⟩ = some (.bool false)) (h1 : w.cell? ⟨b, 0 + 1, none⟩ = some (.slice none 0 0)) (h2 : w.cell? ⟨b, 0 + 2, none⟩ = some (.int .i64 0)) (h3 : w.cell? ⟨b, 0 + 3, none⟩ = some (.int .i64 0)) (hb : b < w.heap.size) :
    Calls Try.prog 33 #[.pointer (some ⟨b, 0, none⟩)] w fun e w' => e = .returned (.int .i64 0) ∧ Below w.heap.size w w' := by
  go_enter Try.func33, Try.ntmps33
  go_wp2
  go_ret
  exact ⟨rfl, by repeat (first | exact Below.refl _ _ | exact below_drewN (Below.refl _ _) _ | (refine Below.alloc ?_ (by first | (simp; done) | (simp; omega)) _))⟩
theorem at_zero (B b : Nat) (w0 w : World) (h : On B w0 w) (hn : Nought w0 b) (hb : b < B) :
    Calls Try.prog 33 #[.pointer (some ⟨b, 0, none⟩)] w fun e w' => e = .returned (.int .i64 0) ∧ On B w0 w' :=
  have k := hn.later h.1 hb
  (at_zero0 b w k.1 k.2.1 k.2.2.1 k.2.2.2 (Nat.lt_of_lt_of_le hb h.2)).mono fun e w' k => ⟨k.1, on_of h k.2⟩

theorem err_nil0 (w : World) :
    Calls Try.prog 35 #[.pointer none] w fun e w' => e = .returned (.int .i64 1) ∧ Below w.heap.size w w' := by
  go_enter Try.func35, Try.ntmps35
  go_wp2
  go_ret
  exact ⟨rfl, by repeat (first | exact Below.refl _ _ | exact below_drewN (Below.refl _ _) _ | (refine Below.alloc ?_ (by first | (simp; done) | (simp; omega)) _))⟩
theorem err_nil (B : Nat) (w0 w : World) (h : On B w0 w) :
    Calls Try.prog 35 #[.pointer none] w fun e w' => e = .returned (.int .i64 1) ∧ On B w0 w' :=
  (err_nil0 w).mono fun e w' k => ⟨k.1, on_of h k.2⟩
theorem err_zero0 (b : Nat) (w : World) (h0 : w.cell? ⟨b, 0, none⟩ = some (.bool false)) (h1 : w.cell? ⟨b, 0 + 1, none⟩ = some (.slice none 0 0)) (h2 : w.cell? ⟨b, 0 + 2, none⟩ = some (.int .i64 0)) (h3 : w.cell? ⟨b, 0 + 3, none⟩ = some (.int .i64 0)) (hb : b < w.heap.size) :
    Calls Try.prog 35 #[.pointer (some ⟨b, 0, none⟩)] w fun e w' => e = .returned (.int .i64 1) ∧ Below w.heap.size w w' := by
  go_enter Try.func35, Try.ntmps35
  go_wp2
  go_ret
  exact ⟨rfl, by repeat (first | exact Below.refl _ _ | exact below_drewN (Below.refl _ _) _ | (refine Below.alloc ?_ (by first | (simp; done) | (simp; omega)) _))⟩
theorem err_zero (B b : Nat) (w0 w : World) (h : On B w0 w) (hn : Nought w0 b) (hb : b < B) :
    Calls Try.prog 35 #[.pointer (some ⟨b, 0, none⟩)] w fun e w' => e = .returned (.int .i64 1) ∧ On B w0 w' :=
  have k := hn.later h.1 hb
  (err_zero0 b w k.1 k.2.1 k.2.2.1 k.2.2.2 (Nat.lt_of_lt_of_le hb h.2)).mono fun e w' k => ⟨k.1, on_of h k.2⟩

set_option maxHeartbeats 1000000 in
theorem walk0 (a0 : Int) (w : World) :
    Calls Try.prog 7 #[.int .i64 a0] w fun e w' => e = .returned (.bool true) ∧ Below w.heap.size w w' := by
  go_enter Try.func7, Try.ntmps7
  go_wp2
  refine wp_loop_rounds 3 ?_
  obtain ⟨W0, hW0⟩ : ∃ W0, W0 = ((w.alloc (.cells #[.bool false, .slice none 0 0, .int .i64 0, .int .i64 0] 70)).alloc (.cells #[.pointer none, .pointer (some ⟨w.heap.size, 0, none⟩)] 54)) := ⟨_, rfl⟩
  rw [← hW0]
  have hs : W0.heap.size = w.heap.size + 2 := by rw [hW0]; simp
  have hbel : Below w.heap.size w W0 := by
    rw [hW0]; exact ((Below.refl _ _).alloc (Nat.le_refl _) _).alloc (by simp) _
  have hn : Nought W0 w.heap.size := by rw [hW0]; unfold Nought; simp [go_sem]
  have c0 : W0.cell? ⟨w.heap.size + 1, 0, none⟩ = some (.pointer none) := by rw [hW0]; simp [go_sem]
  have c1 : W0.cell? ⟨w.heap.size + 1, 1, none⟩ = some (.pointer (some ⟨w.heap.size, 0, none⟩)) := by rw [hW0]; simp [go_sem]
  have on0 : On (w.heap.size + 2) W0 W0 := ⟨Below.refl _ _, by rw [hs]; exact Nat.le_refl _⟩
  clear hW0 hs
  rw [rounds_succ]
  go_wp2_with fail
  refine (varint_nil _ _ _ on0).mono ?_
  clear on0
  rintro e w36 ⟨rfl, on36⟩
  go_wp2_with fail
  refine (number_nil _ _ _ _ on36).mono ?_
  clear on36
  rintro e w38 ⟨rfl, on38⟩
  go_wp2_with fail
  refine (fixedA_nil _ _ _ on38).mono ?_
  clear on38
  rintro e w40 ⟨rfl, on40⟩
  go_wp2_with fail
  refine (fixedB_nil _ _ _ on40).mono ?_
  clear on40
  rintro e w42 ⟨rfl, on42⟩
  go_wp2_with fail
  refine (text_nil _ _ _ _ on42).mono ?_
  clear on42
  rintro e w43 ⟨rfl, on43⟩
  go_wp2_with fail
  refine (left_nil _ _ _ on43).mono ?_
  clear on43
  rintro e w34 ⟨rfl, on34⟩
  go_wp2_with fail
  refine (at_nil _ _ _ on34).mono ?_
  clear on34
  rintro e w33 ⟨rfl, on33⟩
  go_wp2_with fail
  refine (err_nil _ _ _ on33).mono ?_
  clear on33
  rintro e w35 ⟨rfl, on35⟩
  have d1 : w35.cell? ⟨w.heap.size + 1, 1, none⟩ = some (.pointer (some ⟨w.heap.size, 0, none⟩)) := by rw [on35.1.cell (p := ⟨w.heap.size + 1, 1, none⟩) (by simp)]; exact c1
  go_wp2_with fail
  rw [rounds_succ]
  go_wp2_with fail
  refine (varint_zero _ _ _ _ on35 hn (by simp)).mono ?_
  clear on35
  rintro e v36 ⟨rfl, onv36⟩
  go_wp2_with fail
  refine (number_zero _ _ _ _ _ onv36 hn (by simp)).mono ?_
  clear onv36
  rintro e v38 ⟨rfl, onv38⟩
  go_wp2_with fail
  refine (fixedA_zero _ _ _ _ onv38 hn (by simp)).mono ?_
  clear onv38
  rintro e v40 ⟨rfl, onv40⟩
  go_wp2_with fail
  refine (fixedB_zero _ _ _ _ onv40 hn (by simp)).mono ?_
  clear onv40
  rintro e v42 ⟨rfl, onv42⟩
  go_wp2_with fail
  refine (text_zero _ _ _ _ _ onv42 hn (by simp)).mono ?_
  clear onv42
  rintro e v43 ⟨rfl, onv43⟩
  go_wp2_with fail
  refine (left_zero _ _ _ _ onv43 hn (by simp)).mono ?_
  clear onv43
  rintro e v34 ⟨rfl, onv34⟩
  go_wp2_with fail
  refine (at_zero _ _ _ _ onv34 hn (by simp)).mono ?_
  clear onv34
  rintro e v33 ⟨rfl, onv33⟩
  go_wp2_with fail
  refine (err_zero _ _ _ _ onv33 hn (by simp)).mono ?_
  clear onv33
  rintro e v35 ⟨rfl, onv35⟩
  go_wp2_with fail
  rw [rounds_succ]
  go_wp2_with fail
  go_ret
  exact ⟨rfl, hbel.trans (onv35.1.mono (by simp))⟩

theorem walk (a0 : Int) (w0 : (Lit.int .i64 a0).wf = true) (w : World) :
    Calls Try.prog 7 #[.int .i64 a0] w fun e w' => e = .returned (.bool true) ∧ Below w.heap.size w w' := walk0 a0 w

/-! ### THE ROW's STEP: WRITTEN OUT: LEAVE IT -/
set_option maxRecDepth 100000 in
theorem lifted (os : Os) (started : os.Started) (H : Type) (enc : TypeId × Value → H) :
    ReturnsInHanded {} Try.checked os 7 .any (Rows.codecNobodySpec.pre6 enc Try.prog Try.f7 Rows.codecNobodyRow.domain false) (Rows.codecNobodySpec.post enc Try.prog Try.f7 false true false false) := by
  refine returnsInHanded_of_change (C := Try.checked) own started (by kernel_rfl) Try.func7
    (ChangeSpec.witness6 (enc := enc) (C := Try.checked) false ⟨#[], #[.int .i64 0], []⟩ 8 (by kernel_rfl) (by kernel_rfl) (by kernel_rfl) (by kernel_rfl)) ?_
  intro W base args ds gs before hval0 hW hcnd _
  have hval : ∀ (j : Nat) t v, Try.f7.params[j]? = some t → args[j]? = some v → Value.okWide Try.prog W .any base t v := hval0
  have hW' := hW
  obtain ⟨p, q, hA0, hV, rfl, hfz, hnd⟩ := hW
  have hA : DataW.TrodAll enc Try.prog W 0 (fun _ => true) true Try.f7.params.toList args.toList ds p := hA0
  rw [Try.params7] at hA hval
  obtain ⟨v0, vs0, d0, ds0, p0, q0, hargs, rfl, rfl, h0, r0⟩ := trodAll_cons hA
  obtain ⟨rfl, rfl, rfl⟩ := trodAll_nil r0
  obtain rfl : args = #[v0] := by cases args; simp_all
  obtain ⟨rfl, rfl⟩ := trodVars_none hV
  obtain ⟨a0, rfl, rfl, rfl, w0⟩ := open_int Try.underlying3 (hval 0 3 v0 rfl rfl) h0
  clear hA0 hval0
  refine (walk a0 w0 W).mono fun e W' ⟨he, bel⟩ => ?_
  subst he
  exact ⟨_, rfl, _, _, _, [], _, [], hW', trodAll_mk1 (shut_bool Try.underlying4 _), (trodAll_cons_mk (shut_int Try.underlying3 w0) trodAll_mk0), rfl, bel.frame _, fun h => by cases h⟩

theorem over : Rows.codecNobodyRow.holds Try.pinned (OpenSpec.ofChange Rows.codecNobodySpec) :=
  OpenClaim.holds_of_wide 7 Try.f7 rfl rfl rfl rfl rfl rfl rfl ⟨rfl, rfl, rfl, rfl, rfl⟩ rfl rfl rfl rfl rfl (by kernel_rfl) Try.func7 (by kernel_rfl)
    (of_decide_eq_true (by kernel_rfl)) (by unfold Func.isWrapper; first | (rw [if_pos (by decide +kernel)]; kernel_rfl) | (rw [if_neg (by decide +kernel)]; exact ⟨rfl, rfl⟩))
    (fun os started H enc _ => lifted os started H enc)

/-- ████ THE STATEMENT ████ -/
theorem proved : Rows.CodecNobodySaid :=
  over
end Go.Proofs.Ytpinknkdcecajaa.codecNobody
namespace Go.Proofs.Ytpinknkdcecajaa
theorem codecNobody_holds : Rows.CodecNobodySaid := codecNobody.proved
#print axioms codecNobody_holds
end Go.Proofs.Ytpinknkdcecajaa

/- Files and levels that may be, in plain words; the small calls. -/
import Derived.Test.YtcpnmpepcpcahaaGreatDoorLv
import Derived.Test.YtcpnmpepcpcahaaGreatDoorLx
namespace Go.Proofs.YtcpnmpepcpcahaaGreatDoor.Vp
open Go.ChangeShapes Go.WideShapes Go.ChangeAt Go.RowKit
open Go.Proofs.YtcpnmpepcpcahaaGreatDoor.Gr
open Go.Proofs.YtcpnmpepcpcahaaGreatDoor.Ev
open Go.Proofs.YtcpnmpepcpcahaaGreatDoor.Lx (lt)
set_option linter.unusedVariables false
set_option linter.unusedSimpArgs false

def eInt : El Int where
  st := 29
  et := 3
  k := 1
  by_ := 8
  cs := fun x => [.int .i64 x]
  z := 0
  zv := .int .i64 0
  len := fun _ => rfl
  one := by intro x u h; simp at h; rcases h with rfl; rfl
  und := Tryz.underlying29
  info := by kernel_rfl
  zc := rfl
  pos := by decide
  ok := fun _ => True
/-- v is from a to m. -/
def fr (a v m : Int) : Bool := decide (a ≤ v) && decide (v ≤ m)
theorem isFrom_any (a v m : Int) (w : World) : Calls Tryz.prog 55 #[.int .i64 a, .int .i64 v, .int .i64 m] w fun e w' => e = .returned (.bool (fr a v m)) ∧ w' = w := by
  unfold fr
  by_cases h : a ≤ v
  · rw [decide_eq_true h]
    go_enter Tryz.func55, Tryz.ntmps55
    go_wp2_with fail
    go_ret
    simp
  · rw [decide_eq_false h]
    go_enter Tryz.func55, Tryz.ntmps55
    go_wp2_with fail
    go_ret
    simp
/-- A file may be. -/
def may (f : Fi) : Bool := fr 1 f.n 2147483647 && (fr 1 f.z 268435456 && (fr 1 f.a.size 1024 && (lt f.a f.b && (decide ((f.b.size : Int) ≤ 1025) && (decide (1 ≤ f.lo) && (decide (f.lo ≤ f.hi) && decide (f.hi ≤ 72057594037927935)))))))
def fv (f : Fi) : Value := .agg #[.int .i64 f.n, .int .i64 f.z, .string f.a, .string f.b, .int .u64 f.lo, .int .u64 f.hi]
theorem ch7 : ∀ b1 b2 b3 b4 b5 b6 b7 : Bool, (b1 = false) ∨ (b1 = true ∧ b2 = false) ∨ (b1 = true ∧ b2 = true ∧ b3 = false) ∨ (b1 = true ∧ b2 = true ∧ b3 = true ∧ b4 = false) ∨ (b1 = true ∧ b2 = true ∧ b3 = true ∧ b4 = true ∧ b5 = false) ∨ (b1 = true ∧ b2 = true ∧ b3 = true ∧ b4 = true ∧ b5 = true ∧ b6 = false) ∨ (b1 = true ∧ b2 = true ∧ b3 = true ∧ b4 = true ∧ b5 = true ∧ b6 = true ∧ b7 = false) ∨ (b1 = true ∧ b2 = true ∧ b3 = true ∧ b4 = true ∧ b5 = true ∧ b6 = true ∧ b7 = true) := by
  intro b1 b2 b3 b4 b5 b6 b7
  cases b1 <;> cases b2 <;> cases b3 <;> cases b4 <;> cases b5 <;> cases b6 <;> cases b7 <;> simp
set_option maxHeartbeats 1000000 in
theorem maybe_any (f : Fi) (hok : f.ok) (w : World) : Calls Tryz.prog 75 #[fv f] w fun e w' => e = .returned (.bool (may f)) ∧ Below w.heap.size w w' := by
  obtain ⟨n, z, a, b, lo, hi⟩ := f
  unfold may fv
  dsimp only
  have ha : a.size ≤ 9223372036854775807 := by have := hok.2.2.1; unfold maxLen at this; exact Nat.le_trans this (by decide)
  have hb : b.size ≤ 9223372036854775807 := by have := hok.2.2.2.1; unfold maxLen at this; exact Nat.le_trans this (by decide)
  have hB := hid (box_below w (.cells #[.int .i64 n, .int .i64 z, .string a, .string b, .int .u64 lo, .int .u64 hi] 67))
  clear hok
  have gs := Lx.gtr_s 9 b a
  change binOp .gtr 9 (.string b) (.string a) = pure (.bool (lt a b)) at gs
  generalize hb1 : fr 1 n 2147483647 = b1
  generalize hb2 : fr 1 z 268435456 = b2
  generalize hb3 : fr 1 (a.size : Int) 1024 = b3
  generalize hb4 : lt a b = b4 at *
  generalize hb5 : decide ((b.size : Int) ≤ 1025) = b5
  generalize hb6 : decide (1 ≤ lo) = b6
  generalize hb7 : decide (lo ≤ hi) = b7
  have c1 := hid (isFrom_any 1 n 2147483647)
  have c2 := hid (isFrom_any 1 z 268435456)
  have c3 := hid (isFrom_any 1 (a.size : Int) 1024)
  rw [hb1] at c1
  rw [hb2] at c2
  rw [hb3] at c3
  clear hb1 hb2 hb3 hb4
  rcases ch7 b1 b2 b3 b4 b5 b6 b7 with rfl | ⟨rfl, rfl⟩ | ⟨rfl, rfl, rfl⟩ | ⟨rfl, rfl, rfl, rfl⟩ | ⟨rfl, rfl, rfl, rfl, rfl⟩ | ⟨rfl, rfl, rfl, rfl, rfl, rfl⟩ | ⟨rfl, rfl, rfl, rfl, rfl, rfl, rfl⟩ | ⟨rfl, rfl, rfl, rfl, rfl, rfl, rfl⟩
  all_goals
    go_enter Tryz.func75, Tryz.ntmps75
    go_wp2_with (first | (go_at_call 55; with_reducible refine (c1.out _).mono ?_; rintro e w' ⟨rfl, rfl⟩) | (go_at_call 55; with_reducible refine (c2.out _).mono ?_; rintro e w' ⟨rfl, rfl⟩) | (go_at_call 55; with_reducible refine (c3.out _).mono ?_; rintro e w' ⟨rfl, rfl⟩))
    go_ret
    exact ⟨rfl, hB.out⟩
/-- A file may stand behind another one in a level. -/
def fol (lv : Nat) (a f : Fi) : Bool := if lv = 0 then decide (a.n < f.n) else !(lt f.a a.b)
theorem follow_any (lv : Nat) (a f : Fi) (w : World) : Calls Tryz.prog 76 #[.int .i64 lv, fv a, fv f] w fun e w' => e = .returned (.bool (fol lv a f)) ∧ Below w.heap.size w w' := by
  obtain ⟨n, z, s, t, lo, hi⟩ := a
  obtain ⟨n', z', s', t', lo', hi'⟩ := f
  unfold fol fv
  dsimp only
  have hB := hid (Below.up (box_below w (.cells #[.int .i64 n, .int .i64 z, .string s, .string t, .int .u64 lo, .int .u64 hi] 67)) (box_below _ (.cells #[.int .i64 n', .int .i64 z', .string s', .string t', .int .u64 lo', .int .u64 hi'] 67)))
  have gs := Lx.leq_s 9 t s'
  change binOp .leq 9 (.string t) (.string s') = pure (.bool (!(lt s' t))) at gs
  generalize lt s' t = b4 at *
  by_cases h : lv = 0
  · subst h
    rw [if_pos rfl]
    go_enter Tryz.func76, Tryz.ntmps76
    go_wp2_with fail
    go_ret
    exact ⟨rfl, hB.out⟩
  · rw [if_neg h]
    have hb : ((lv : Int) == 0) = false := by rw [beq_eq_false_iff_ne]; omega
    go_enter Tryz.func76, Tryz.ntmps76
    go_wp2_with fail
    go_ret
    exact ⟨rfl, hB.out⟩
/-- The i-th file of a level may stand there. -/
def okAt (lv : Nat) (fs : List Fi) (i : Nat) : Bool := may (fs.getD i zf) && (decide (i = 0) || fol lv (fs.getD (i - 1) zf) (fs.getD i zf))
def lvOk (lv : Nat) (fs : List Fi) : Prop := ∀ i, i < fs.length → okAt lv fs i = true
def inOrd (L : List (List Fi)) : Prop := ∀ k, k < L.length → lvOk k (L.getD k [])
instance (lv : Nat) (fs : List Fi) : Decidable (lvOk lv fs) := by unfold lvOk; infer_instance
instance (L : List (List Fi)) : Decidable (inOrd L) := by unfold inOrd; infer_instance
theorem get1 {α : Type} {E : El α} {w : World} {a : Option Addr} {n c : Nat} {xs : List α} (H : E.Sl w a n c xs) (i : Nat) (hi : i < n) : ∃ b o, a = some ⟨b, o, none⟩ ∧ ∀ j, j < n → E.At w b (o + j * E.k) (xs.getD j E.z) := by
  cases a with
  | none => have := (H.nil rfl).1; omega
  | some ad =>
    obtain ⟨b, o, p⟩ := ad
    obtain ⟨rfl, hat⟩ := H.cells b o p rfl (by omega)
    exact ⟨b, o, rfl, hat⟩
end Go.Proofs.YtcpnmpepcpcahaaGreatDoor.Vp

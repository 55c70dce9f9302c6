/- Tombs as values; slices of them; which are valid. -/
import Derived.Test.YtefihoohdaegeaaLx
import Derived.Below
import Derived.BigQuiet
import Derived.Deep.QuietTactic
import Derived.Lib.QuietBelow
namespace Go.Proofs.Ytefihoohdaegeaa.Tm
open Go.ChangeShapes Go.WideShapes Go.ChangeAt Go.RowKit
open Go.Proofs.Ytefihoohdaegeaa.Lx
set_option linter.unusedVariables false
attribute [local go_sem] leq_s gtr_s geq_s

theorem addr_add (b off n : Nat) : (⟨b, off, none⟩ : Addr).add n = ⟨b, off + n, none⟩ := by
  unfold Addr.add; split <;> simp_all
/-- A tomb: its begin, its end, its number. -/
structure T where
  b : ByteArray
  e : ByteArray
  s : Int
/-- The tomb of no call. -/
def zt : T := ⟨⟨#[]⟩, ⟨#[]⟩, 0⟩
/-- What a tomb's parts are bounded by. -/
def T.ok (x : T) : Prop := (0 ≤ x.s ∧ x.s ≤ 18446744073709551615) ∧ x.b.size ≤ maxLen ∧ x.e.size ≤ maxLen
def T.val (x : T) : Value := .agg #[.string x.b, .string x.e, .int .u64 x.s]
/-- It is one. -/
def vd (x : T) : Bool := decide (1 ≤ (x.b.size : Int)) && decide ((x.b.size : Int) ≤ 1024) && decide ((x.e.size : Int) ≤ 1025) && lt x.b x.e && decide (x.s ≤ 72057594037927935)
theorem ret_bool {a b : Bool} (h : a = b) : Ending.returned (.bool a) = .returned (.bool b) := by rw [h]
theorem ret_int {k : IntKind} {a b : Int} (h : a = b) : Ending.returned (.int k a) = .returned (.int k b) := by rw [h]
theorem box_below (w : World) (o : Obj) : Below w.heap.size w (w.alloc o) := (Below.refl _ _).alloc (Nat.le_refl _) o
/-- A tomb lies at a place. -/
def At3 (w : World) (b o : Nat) (x : T) : Prop := w.cell? ⟨b, o, none⟩ = some (.string x.b) ∧ w.cell? ⟨b, o + 1, none⟩ = some (.string x.e) ∧ w.cell? ⟨b, o + 2, none⟩ = some (.int .u64 x.s)
theorem At3.later {w w' : World} {b o : Nat} {x : T} (h : At3 w b o x) (hb : Below w.heap.size w w') : At3 w' b o x :=
  ⟨(hb.cell (block_lt_of_cell h.1)).trans h.1, (hb.cell (block_lt_of_cell h.2.1)).trans h.2.1, (hb.cell (block_lt_of_cell h.2.2)).trans h.2.2⟩
/-- A slice of tombs that can be read. -/
def Tbs (w : World) (a : Option Addr) (len cap : Nat) (xs : List T) : Prop :=
  xs.length = len ∧ len ≤ cap ∧ (a = none → len = 0 ∧ cap = 0) ∧ (∀ x ∈ xs, x.ok) ∧ (∀ b o p, a = some ⟨b, o, p⟩ → 0 < len → p = none ∧ ∀ i, i < len → At3 w b (o + i * 3) (xs.getD i zt))
theorem Tbs.later {w w' : World} {a : Option Addr} {len cap : Nat} {xs : List T} (h : Tbs w a len cap xs) (hb : Below w.heap.size w w') : Tbs w' a len cap xs :=
  ⟨h.1, h.2.1, h.2.2.1, h.2.2.2.1, fun b o p hp hl => ⟨(h.2.2.2.2 b o p hp hl).1, fun i hi => ((h.2.2.2.2 b o p hp hl).2 i hi).later hb⟩⟩
theorem get_mem {xs : List T} {k : Nat} (h : k < xs.length) : xs.getD k zt ∈ xs := by
  rw [List.getD_eq_getElem?_getD, List.getElem?_eq_getElem h]
  exact List.getElem_mem h
theorem take_snoc {xs : List T} {k : Nat} (h : k < xs.length) : xs.take (k + 1) = xs.take k ++ [xs.getD k zt] := by
  rw [List.take_succ_eq_append_getElem h, List.getD_eq_getElem?_getD, List.getElem?_eq_getElem h]
  rfl
set_option maxHeartbeats 1000000 in
theorem valid_any (b e : ByteArray) (s : Int) (w : World) :
    Calls Try.prog 100 #[.agg #[.string b, .string e, .int .u64 s]] w fun r w' => r = .returned (.bool (vd ⟨b, e, s⟩)) ∧ w' = w.alloc (.cells #[.string b, .string e, .int .u64 s] 111) := by
  obtain ⟨R, hR⟩ : ∃ R, R = vd ⟨b, e, s⟩ := ⟨_, rfl⟩
  rw [← hR]
  replace hR : Hid (R = vd ⟨b, e, s⟩) := hR
  by_cases h1 : 1 ≤ (b.size : Int)
  · by_cases h2 : (b.size : Int) ≤ 1024
    · by_cases h3 : (e.size : Int) ≤ 1025
      · cases h4 : Op.bytesLess b.toList e.toList with
        | true =>
          by_cases h5 : s ≤ 72057594037927935
          · have E : Hid (true = R) := by show _ = _; rw [hR.out]; unfold vd lt; simp only [h1, h2, h3, h4, h5, decide_true, Bool.and_self]
            go_enter Try.func100, Try.ntmps100
            go_wp2
            go_ret
            exact ⟨ret_bool E.out, rfl⟩
          · have E : Hid (false = R) := by show _ = _; rw [hR.out]; unfold vd lt; simp only [h5, decide_false, Bool.and_false]
            go_enter Try.func100, Try.ntmps100
            go_wp2
            go_ret
            exact ⟨ret_bool E.out, rfl⟩
        | false =>
          have E : Hid (false = R) := by show _ = _; rw [hR.out]; unfold vd lt; simp only [h4, Bool.and_false, Bool.false_and]
          go_enter Try.func100, Try.ntmps100
          go_wp2
          go_ret
          exact ⟨ret_bool E.out, rfl⟩
      · have E : Hid (false = R) := by show _ = _; rw [hR.out]; unfold vd lt; simp only [h3, decide_false, Bool.and_false, Bool.false_and]
        go_enter Try.func100, Try.ntmps100
        go_wp2
        go_ret
        exact ⟨ret_bool E.out, rfl⟩
    · have E : Hid (false = R) := by show _ = _; rw [hR.out]; unfold vd lt; simp only [h2, decide_false, Bool.and_false, Bool.false_and]
      go_enter Try.func100, Try.ntmps100
      go_wp2
      go_ret
      exact ⟨ret_bool E.out, rfl⟩
  · have E : Hid (false = R) := by show _ = _; rw [hR.out]; unfold vd lt; simp only [h1, decide_false, Bool.false_and]
    go_enter Try.func100, Try.ntmps100
    go_wp2
    go_ret
    exact ⟨ret_bool E.out, rfl⟩
end Go.Proofs.Ytefihoohdaegeaa.Tm

/- Places, files, files that come; edits as values. -/
import Derived.Test.YtcpnmpepcpcahaaGreatDoorGr
namespace Go.Proofs.YtcpnmpepcpcahaaGreatDoor.Ev
open Go.ChangeShapes Go.WideShapes Go.ChangeAt Go.RowKit
open Go.Proofs.YtcpnmpepcpcahaaGreatDoor.Gr
set_option linter.unusedVariables false
set_option linter.unusedSimpArgs false

/-- A place: level and Number. -/
structure Pl where
  l : Int
  n : Int
deriving DecidableEq
def zp : Pl := ⟨0, 0⟩
def bd (x : Int) : Prop := -9223372036854775808 ≤ x ∧ x ≤ 9223372036854775807
def bu (x : Int) : Prop := 0 ≤ x ∧ x ≤ 18446744073709551615
def Pl.ok (x : Pl) : Prop := bd x.l ∧ bd x.n
/-- A file. -/
structure Fi where
  n : Int
  z : Int
  a : ByteArray
  b : ByteArray
  lo : Int
  hi : Int
def zf : Fi := ⟨0, 0, ⟨#[]⟩, ⟨#[]⟩, 0, 0⟩
def Fi.ok (x : Fi) : Prop := bd x.n ∧ bd x.z ∧ x.a.size ≤ maxLen ∧ x.b.size ≤ maxLen ∧ bu x.lo ∧ bu x.hi
/-- A file that comes to a level. -/
structure Ad where
  l : Int
  f : Fi
def za : Ad := ⟨0, zf⟩
def Ad.ok (x : Ad) : Prop := bd x.l ∧ x.f.ok
def Ad.pl (x : Ad) : Pl := ⟨x.l, x.f.n⟩
def fcs (x : Fi) : List Value := [.int .i64 x.n, .int .i64 x.z, .string x.a, .string x.b, .int .u64 x.lo, .int .u64 x.hi]

def eFi : El Fi where
  st := 73
  et := 67
  k := 6
  by_ := 64
  cs := fcs
  z := zf
  zv := .agg #[.int .i64 0, .int .i64 0, .string ⟨#[]⟩, .string ⟨#[]⟩, .int .u64 0, .int .u64 0]
  len := fun _ => rfl
  one := by intro x u h; simp [fcs] at h; rcases h with rfl | rfl | rfl | rfl | rfl | rfl <;> rfl
  und := Tryz.underlying73
  info := by kernel_rfl
  zc := rfl
  pos := by decide
  ok := Fi.ok
theorem fi_at {w : World} {b o : Nat} {x : Fi} (h : eFi.At w b o x) : w.cell? ⟨b, o, none⟩ = some (.int .i64 x.n) ∧ w.cell? ⟨b, o + 1, none⟩ = some (.int .i64 x.z) ∧ w.cell? ⟨b, o + 2, none⟩ = some (.string x.a) ∧ w.cell? ⟨b, o + 3, none⟩ = some (.string x.b) ∧ w.cell? ⟨b, o + 4, none⟩ = some (.int .u64 x.lo) ∧ w.cell? ⟨b, o + 5, none⟩ = some (.int .u64 x.hi) := ⟨h 0 _ rfl, h 1 _ rfl, h 2 _ rfl, h 3 _ rfl, h 4 _ rfl, h 5 _ rfl⟩
/-- An edit. -/
structure Ed where
  log : Int
  nx : Int
  sq : Int
  go : List Pl
  co : List Ad
def Ed.ok (e : Ed) : Prop := bd e.log ∧ bd e.nx ∧ bu e.sq ∧ e.go.length ≤ 1099511627776 ∧ e.co.length ≤ 1099511627776
def zed : Ed := ⟨0, 0, 0, [], []⟩
/-- An edit's value, its lists told apart. -/
def ev (e : Ed) (a : Option Addr) (c : Nat) (a' : Option Addr) (c' : Nat) : Value := .agg #[.int .i64 e.log, .int .i64 e.nx, .int .u64 e.sq, .slice a e.go.length c, .slice a' e.co.length c']
/-- The blocks of an edit's lists. -/
def blks (v : Value) : Nat → Prop := fun j => ∃ x1 x2 x3 v4 v5, v = .agg #[x1, x2, x3, v4, v5] ∧ (v4.ownBlock = some j ∨ v5.ownBlock = some j)
theorem blks_ev {e : Ed} {a : Option Addr} {c : Nat} {a' : Option Addr} {c' : Nat} {j : Nat} (h : blks (ev e a c a' c') j) : (Value.slice a e.go.length c).ownBlock = some j ∨ (Value.slice a' e.co.length c').ownBlock = some j := by
  obtain ⟨x1, x2, x3, v4, v5, h1, h2⟩ := h
  unfold ev at h1
  simp at h1
  obtain ⟨_, _, _, rfl, rfl⟩ := h1
  exact h2
end Go.Proofs.YtcpnmpepcpcahaaGreatDoor.Ev

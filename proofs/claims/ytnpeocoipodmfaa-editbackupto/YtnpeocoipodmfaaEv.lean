/- Places, files, files that come; edits as values. -/
import Derived.Test.YtnpeocoipodmfaaGr
namespace Go.Proofs.Ytnpeocoipodmfaa.Ev
open Go.ChangeShapes Go.WideShapes Go.ChangeAt Go.RowKit
open Go.Proofs.Ytnpeocoipodmfaa.Gr
set_option linter.unusedVariables false
set_option linter.unusedSimpArgs false

/-- A place: level and Number. -/
structure Pl where
  l : Int
  n : Int
deriving DecidableEq
def zp : Pl := ⟨0, 0⟩
def bd (x : Int) : Prop := -9223372036854775808 ≤ x ∧ x ≤ 9223372036854775807
def bu (x : Int) : Prop := 0 ≤ x ∧ x ≤ 18446744073709551615
def Pl.ok (x : Pl) : Prop := bd x.l ∧ bd x.n
/-- A file. -/
structure Fi where
  n : Int
  z : Int
  a : ByteArray
  b : ByteArray
  lo : Int
  hi : Int
def zf : Fi := ⟨0, 0, ⟨#[]⟩, ⟨#[]⟩, 0, 0⟩
def Fi.ok (x : Fi) : Prop := bd x.n ∧ bd x.z ∧ x.a.size ≤ maxLen ∧ x.b.size ≤ maxLen ∧ bu x.lo ∧ bu x.hi
/-- A file that comes to a level. -/
structure Ad where
  l : Int
  f : Fi
def za : Ad := ⟨0, zf⟩
def Ad.ok (x : Ad) : Prop := bd x.l ∧ x.f.ok
def Ad.pl (x : Ad) : Pl := ⟨x.l, x.f.n⟩
def fcs (x : Fi) : List Value := [.int .i64 x.n, .int .i64 x.z, .string x.a, .string x.b, .int .u64 x.lo, .int .u64 x.hi]

def ePl : El Pl where
  st := 23
  et := 57
  k := 2
  by_ := 16
  cs := fun x => [.int .i64 x.l, .int .i64 x.n]
  z := zp
  zv := .agg #[.int .i64 0, .int .i64 0]
  len := fun _ => rfl
  one := by intro x u h; simp at h; rcases h with rfl | rfl <;> rfl
  und := Try.underlying23
  info := by kernel_rfl
  zc := rfl
  pos := by decide
  ok := Pl.ok
def eFi : El Fi where
  st := 48
  et := 51
  k := 6
  by_ := 64
  cs := fcs
  z := zf
  zv := .agg #[.int .i64 0, .int .i64 0, .string ⟨#[]⟩, .string ⟨#[]⟩, .int .u64 0, .int .u64 0]
  len := fun _ => rfl
  one := by intro x u h; simp [fcs] at h; rcases h with rfl | rfl | rfl | rfl | rfl | rfl <;> rfl
  und := Try.underlying48
  info := by kernel_rfl
  zc := rfl
  pos := by decide
  ok := Fi.ok
def eAd : El Ad where
  st := 24
  et := 60
  k := 7
  by_ := 72
  cs := fun x => .int .i64 x.l :: fcs x.f
  z := za
  zv := .agg #[.int .i64 0, .int .i64 0, .int .i64 0, .string ⟨#[]⟩, .string ⟨#[]⟩, .int .u64 0, .int .u64 0]
  len := fun _ => rfl
  one := by intro x u h; simp [fcs] at h; rcases h with rfl | rfl | rfl | rfl | rfl | rfl | rfl <;> rfl
  und := Try.underlying24
  info := by kernel_rfl
  zc := rfl
  pos := by decide
  ok := Ad.ok
theorem pl_at {w : World} {b o : Nat} {x : Pl} (h : ePl.At w b o x) : w.cell? ⟨b, o, none⟩ = some (.int .i64 x.l) ∧ w.cell? ⟨b, o + 1, none⟩ = some (.int .i64 x.n) := ⟨h 0 _ rfl, h 1 _ rfl⟩
theorem fi_at {w : World} {b o : Nat} {x : Fi} (h : eFi.At w b o x) : w.cell? ⟨b, o, none⟩ = some (.int .i64 x.n) ∧ w.cell? ⟨b, o + 1, none⟩ = some (.int .i64 x.z) ∧ w.cell? ⟨b, o + 2, none⟩ = some (.string x.a) ∧ w.cell? ⟨b, o + 3, none⟩ = some (.string x.b) ∧ w.cell? ⟨b, o + 4, none⟩ = some (.int .u64 x.lo) ∧ w.cell? ⟨b, o + 5, none⟩ = some (.int .u64 x.hi) := ⟨h 0 _ rfl, h 1 _ rfl, h 2 _ rfl, h 3 _ rfl, h 4 _ rfl, h 5 _ rfl⟩
theorem ad_at {w : World} {b o : Nat} {x : Ad} (h : eAd.At w b o x) : w.cell? ⟨b, o, none⟩ = some (.int .i64 x.l) ∧ w.cell? ⟨b, o + 1, none⟩ = some (.int .i64 x.f.n) ∧ w.cell? ⟨b, o + 2, none⟩ = some (.int .i64 x.f.z) ∧ w.cell? ⟨b, o + 3, none⟩ = some (.string x.f.a) ∧ w.cell? ⟨b, o + 4, none⟩ = some (.string x.f.b) ∧ w.cell? ⟨b, o + 5, none⟩ = some (.int .u64 x.f.lo) ∧ w.cell? ⟨b, o + 6, none⟩ = some (.int .u64 x.f.hi) := ⟨h 0 _ rfl, h 1 _ rfl, h 2 _ rfl, h 3 _ rfl, h 4 _ rfl, h 5 _ rfl, h 6 _ rfl⟩

/-- An edit. -/
structure Ed where
  log : Int
  nx : Int
  sq : Int
  go : List Pl
  co : List Ad
def Ed.ok (e : Ed) : Prop := bd e.log ∧ bd e.nx ∧ bu e.sq ∧ e.go.length ≤ 1099511627776 ∧ e.co.length ≤ 1099511627776
def zed : Ed := ⟨0, 0, 0, [], []⟩
/-- An edit's value, its lists told apart. -/
def ev (e : Ed) (a : Option Addr) (c : Nat) (a' : Option Addr) (c' : Nat) : Value := .agg #[.int .i64 e.log, .int .i64 e.nx, .int .u64 e.sq, .slice a e.go.length c, .slice a' e.co.length c']
/-- A value that is an edit. -/
def EV (w : World) (v : Value) (e : Ed) : Prop := e.ok ∧ ∃ a c a' c', v = ev e a c a' c' ∧ ePl.Sl w a e.go.length c e.go ∧ eAd.Sl w a' e.co.length c' e.co
theorem EV.later {w w' : World} {v : Value} {e : Ed} (h : EV w v e) (b : Below w.heap.size w w') : EV w' v e := by
  obtain ⟨h0, a, c, a', c', h1, h2, h3⟩ := h
  exact ⟨h0, a, c, a', c', h1, h2.later b, h3.later b⟩
/-- An edit whose lists are rows of the call's own. -/
def EO (w : World) (base : Nat) (v : Value) (e : Ed) : Prop := e.ok ∧ (∀ x ∈ e.go, x.ok) ∧ (∀ x ∈ e.co, x.ok) ∧ ∃ a c a' c', v = ev e a c a' c' ∧ ePl.Own w base (.slice a e.go.length c) e.go ∧ eAd.Own w base (.slice a' e.co.length c') e.co
theorem EO.ev {w : World} {base : Nat} {v : Value} {e : Ed} (h : EO w base v e) : EV w v e := by
  obtain ⟨h0, k1, k2, a, c, a', c', h1, h2, h3⟩ := h
  obtain ⟨x1, y1, e1, s1, _⟩ := h2.sl k1
  obtain ⟨x2, y2, e2, s2, _⟩ := h3.sl k2
  injection e1 with e3 _ e4
  injection e2 with e5 _ e6
  subst e3 e4 e5 e6
  exact ⟨h0, _, _, _, _, h1, s1, s2⟩
theorem EO.later {w w' : World} {base : Nat} {v : Value} {e : Ed} (h : EO w base v e) (b : Below w.heap.size w w') : EO w' base v e := by
  obtain ⟨h0, k1, k2, a, c, a', c', h1, h2, h3⟩ := h
  exact ⟨h0, k1, k2, a, c, a', c', h1, h2.later b, h3.later b⟩
/-- The blocks of an edit's lists. -/
def blks (v : Value) : Nat → Prop := fun j => ∃ x1 x2 x3 v4 v5, v = .agg #[x1, x2, x3, v4, v5] ∧ (v4.ownBlock = some j ∨ v5.ownBlock = some j)
theorem blks_ev {e : Ed} {a : Option Addr} {c : Nat} {a' : Option Addr} {c' : Nat} {j : Nat} (h : blks (ev e a c a' c') j) : (Value.slice a e.go.length c).ownBlock = some j ∨ (Value.slice a' e.co.length c').ownBlock = some j := by
  obtain ⟨x1, x2, x3, v4, v5, h1, h2⟩ := h
  unfold ev at h1
  simp at h1
  obtain ⟨_, _, _, rfl, rfl⟩ := h1
  exact h2
theorem EO.fp {w w' : World} {base : Nat} {v : Value} {e : Ed} {P : Nat → Prop} (h : EO w base v e) (b : Fp P w w') (hP : ∀ j, blks v j → ¬ P j) : EO w' base v e := by
  obtain ⟨h0, k1, k2, a, c, a', c', h1, h2, h3⟩ := h
  subst h1
  exact ⟨h0, k1, k2, a, c, a', c', rfl, own_blocks h2 (fun j hj => b.block j (own_lt h2 j hj).2 (hP j ⟨_, _, _, _, _, rfl, .inl hj⟩)), own_blocks h3 (fun j hj => b.block j (own_lt h3 j hj).2 (hP j ⟨_, _, _, _, _, rfl, .inr hj⟩))⟩
theorem EO.lt {w : World} {base : Nat} {v : Value} {e : Ed} (h : EO w base v e) : ∀ j, blks v j → base ≤ j ∧ j < w.heap.size := by
  obtain ⟨h0, k1, k2, a, c, a', c', h1, h2, h3⟩ := h
  subst h1
  intro j hj
  rcases blks_ev hj with h | h
  · exact own_lt h2 j h
  · exact own_lt h3 j h
end Go.Proofs.Ytnpeocoipodmfaa.Ev

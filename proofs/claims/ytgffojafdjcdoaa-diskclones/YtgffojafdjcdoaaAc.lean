/- A call of a disk, as the law is handed it. -/
import Derived.Test.YtgffojafdjcdoaaLn
import Derived.Deep.SlicePairs
import Derived.Laws.AppendOwnNone
namespace Go.Proofs.Ytgffojafdjcdoaa.Ac
open Go.ChangeShapes Go.WideShapes Go.ChangeAt Go.RowKit
open Go.Proofs.Ytgffojafdjcdoaa.By
open Go.Proofs.Ytgffojafdjcdoaa.Ln
set_option linter.unusedVariables false

/-- A slice of ints that can be read. -/
def Ints (w : World) (a : Option Addr) (len cap : Nat) (zs : List Int) : Prop :=
  zs.length = len ∧ len ≤ cap ∧ (a = none → len = 0 ∧ cap = 0) ∧ (∀ y ∈ zs, -9223372036854775808 ≤ y ∧ y ≤ 9223372036854775807) ∧ (∀ x, a = some x → ∀ i, i < len → w.cell? (x.add i) = some (.int .i64 (zs.getD i 0)))
theorem ints_nil (w : World) : Ints w none 0 0 [] := ⟨rfl, Nat.le_refl _, fun _ => ⟨rfl, rfl⟩, by simp, by simp⟩
theorem ints_later {w w' : World} {a : Option Addr} {len cap : Nat} {zs : List Int} (H : Ints w a len cap zs) (hb : Below w.heap.size w w') : Ints w' a len cap zs :=
  ⟨H.1, H.2.1, H.2.2.1, H.2.2.2.1, fun x hx i hi => cell_later hb (H.2.2.2.2 x hx i hi)⟩
structure A where
  kind : Int
  name : ByteArray
  to : ByteArray
  ba : Option Addr
  bl : Nat
  bc : Nat
  zs : List Int
  at_ : Int
  n : Int
  ka : Option Addr
  kl : Nat
  kc : Nat
  ks : List Int
def A.cells (x : A) : Array Value := #[.int .i64 x.kind, .string x.name, .string x.to, .slice x.ba x.bl x.bc, .int .i64 x.at_, .int .i64 x.n, .slice x.ka x.kl x.kc]
def A.val (x : A) : Value := .agg x.cells
structure A.ok (x : A) (w : World) : Prop where
  kind : -9223372036854775808 ≤ x.kind ∧ x.kind ≤ 9223372036854775807
  at_ : -9223372036854775808 ≤ x.at_ ∧ x.at_ ≤ 9223372036854775807
  n : -9223372036854775808 ≤ x.n ∧ x.n ≤ 9223372036854775807
  bytes : Bytes w x.ba x.bl x.bc x.zs
  ints : Ints w x.ka x.kl x.kc x.ks
  bl : x.bl ≤ 140737488351232
  kl : x.kl ≤ 140737488351232 / 8
theorem A.ok.later {x : A} {w w' : World} (h : x.ok w) (b : Below w.heap.size w w') : x.ok w' := ⟨h.kind, h.at_, h.n, bytes_kept h.bytes b, ints_later h.ints b, h.bl, h.kl⟩
/-- The block that holds it. -/
def Bx (w : World) (g : Nat) (x : A) : Prop := w.heap[g]? = some (.cells x.cells 35 (0, 0))
theorem Bx.lt {w : World} {g : Nat} {x : A} (h : Bx w g x) : g < w.heap.size := (Array.getElem?_eq_some_iff.1 h).1
theorem Bx.later {w w' : World} {g : Nat} {x : A} (h : Bx w g x) (b : Below w.heap.size w w') : Bx w' g x := (b.block g h.lt).trans h
theorem Bx.cell {w : World} {g : Nat} {x : A} (h : Bx w g x) (i : Nat) : w.cell? ⟨g, i, none⟩ = x.cells[i]? := cell_of_row w g i _ 35 (0, 0) h
end Go.Proofs.Ytgffojafdjcdoaa.Ac

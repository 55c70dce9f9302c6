/- Contracts of the parts of which a Reader's calls are made: what take answers or gives up with, for all bytes and places, and what it writes. -/
import Derived.Test.YtpinknkdcecajaaRt
import Derived.Test.YtpinknkdcecajaaWp
import Derived.BigQuiet
import Derived.Deep.QuietTactic
import Derived.Recover
import Derived.Defers
namespace Go.Proofs.Ytpinknkdcecajaa.Rr
open Go.ChangeShapes Go.WideShapes Go.ChangeAt Go.RowKit
open Go.Proofs.Ytpinknkdcecajaa.Rd (Bytes ret_int addr_add)
open Go.Proofs.Ytpinknkdcecajaa.Wr
open Go.Proofs.Ytpinknkdcecajaa.Rx
open Go.Proofs.Ytpinknkdcecajaa.Rt
set_option linter.unusedVariables false

theorem hid {p : Prop} (h : p) : Hid p := h

/-- A Reader in memory: block r; the slice of its bytes; its place; its error. -/
def At (W : World) (r : Nat) (sl : Value) (p er : Int) : Prop := W.heap[r]? = some (.cells #[.bool true, sl, .int .i64 p, .int .i64 er] 70 (0, 0))
theorem At.c0 {W : World} {r : Nat} {sl : Value} {p er : Int} (h : At W r sl p er) : W.cell? ⟨r, 0, none⟩ = some (.bool true) := by
  simp [World.cell?, show W.heap[r]? = _ from h]
theorem At.c1 {W : World} {r : Nat} {sl : Value} {p er : Int} (h : At W r sl p er) : W.cell? ⟨r, 0 + 1, none⟩ = some sl := by
  simp [World.cell?, show W.heap[r]? = _ from h]
theorem At.c2 {W : World} {r : Nat} {sl : Value} {p er : Int} (h : At W r sl p er) : W.cell? ⟨r, 0 + 2, none⟩ = some (.int .i64 p) := by
  simp [World.cell?, show W.heap[r]? = _ from h]
theorem At.c3 {W : World} {r : Nat} {sl : Value} {p er : Int} (h : At W r sl p er) : W.cell? ⟨r, 0 + 3, none⟩ = some (.int .i64 er) := by
  simp [World.cell?, show W.heap[r]? = _ from h]
theorem At.fz {W : World} {r : Nat} {sl : Value} {p er : Int} (h : At W r sl p er) (o : Nat) : W.frozen? ⟨r, o, none⟩ = false := by
  simp [World.frozen?, show W.heap[r]? = _ from h]
theorem At.lt {W : World} {r : Nat} {sl : Value} {p er : Int} (h : At W r sl p er) : r < W.heap.size := (Array.getElem?_eq_some_iff.1 h).1
theorem grown_set (W : World) (r o : Nat) (v : Value) : W.grownBy (W.setCell ⟨r, o, none⟩ v) (some r) :=
  ⟨rfl, rfl, rfl, by simp [World.setCell], fun k hk hne => Below.heap_setCell W _ _ k (by intro e; exact hne (by rw [e]))⟩
theorem At.set2 {W : World} {r : Nat} {sl : Value} {p er : Int} (h : At W r sl p er) (x : Int) : At (W.setCell ⟨r, 2, none⟩ (.int .i64 x)) r sl x er ∧ W.grownBy (W.setCell ⟨r, 2, none⟩ (.int .i64 x)) (some r) := by
  refine ⟨?_, grown_set W r 2 _⟩
  unfold At at h ⊢
  simp [World.setCell, Array.getElem?_modify, h]
theorem At.set3 {W : World} {r : Nat} {sl : Value} {p er : Int} (h : At W r sl p er) (x : Int) : At (W.setCell ⟨r, 3, none⟩ (.int .i64 x)) r sl p x ∧ W.grownBy (W.setCell ⟨r, 3, none⟩ (.int .i64 x)) (some r) := by
  refine ⟨?_, grown_set W r 3 _⟩
  unfold At at h ⊢
  simp [World.setCell, Array.getElem?_modify, h]
theorem At.kept {W W' : World} {r : Nat} {sl : Value} {p er : Int} {row : Option Nat} (h : At W r sl p er) (k : W.grownBy W' row) (hne : some r ≠ row) : At W' r sl p er := by
  unfold At
  rw [k.block r h.lt hne]
  exact h
theorem bytes_grown {W W' : World} {a : Option Addr} {len cap : Nat} {zs : List Int} {row : Option Nat} (H : Bytes W a len cap zs) (k : W.grownBy W' row) (hne : ∀ x, a = some x → some x.block ≠ row) : Bytes W' a len cap zs :=
  ⟨H.1, H.2.1, H.2.2.1, H.2.2.2.1, fun x hx i hi => k.cell (H.2.2.2.2 x hx i hi) (by have := hne x hx; unfold Addr.add; split <;> exact this)⟩
theorem grown_drewN (W : World) (n : Nat) (row : Option Nat) : W.grownBy (W.drewN n) row := ⟨rfl, rfl, rfl, Nat.le_refl _, fun _ _ _ => rfl⟩

set_option maxHeartbeats 1000000 in
theorem take64_ok (r g len : Nat) (zs : List Int) (p x q : Int) (W : World) (A : At W r (.slice (some ⟨g, 0, none⟩) len len) p 0) (H : Bytes W (some ⟨g, 0, none⟩) len len zs) (hl : len ≤ 281474976710656) (hv : Vb.vread zs p = (x, q, 0)) :
    Calls Try.prog 53 #[.pointer (some ⟨r, 0, none⟩), .func (Fn.func 21) #[] #[]] W fun e W' => e = .returned (.int .u64 x) ∧ At W' r (.slice (some ⟨g, 0, none⟩) len len) q 0 ∧ W.grownBy W' (some r) := by
  have F : ∀ n, Calls Try.prog 21 #[.slice (some ⟨g, 0, none⟩) len len, .int .i64 p] (W.drewN n) fun e w' => e = .returned (.tuple #[.int .u64 x, .int .i64 q, .int .i64 0]) ∧ w' = W.drewN n := fun n => by
    have := Rd.varint_any (some ⟨g, 0, none⟩) len len zs p (W.drewN n) (bytes_grown H (grown_drewN W n none) (by simp)) hl
    rw [hv] at this
    exact this
  have HF := hid F
  have a0 := A.c0
  have a1 := A.c1
  have a2 := A.c2
  have fz2 : W.frozen? ⟨r, 0 + 2, none⟩ = false := A.fz _
  have HA := hid A
  clear A H hv F
  go_enter Try.func53, Try.ntmps53
  go_wp2
  go_quiet ((go_at_call 21; exact Calls.quiet_of_same (HF.out _)))
  go_wp2
  go_ret
  exact ⟨rfl, (HA.out.set2 q).1, grown_trans (HA.out.set2 q).2 (grown_drewN _ nq _)⟩

set_option maxHeartbeats 1000000 in
theorem take64_err (r g len : Nat) (zs : List Int) (p er : Int) (W : World) (A : At W r (.slice (some ⟨g, 0, none⟩) len len) p 0) (H : Bytes W (some ⟨g, 0, none⟩) len len zs) (hl : len ≤ 281474976710656) (hv : Vb.vread zs p = (0, 0, er)) (he : (er == 0) = false) :
    Calls Try.prog 53 #[.pointer (some ⟨r, 0, none⟩), .func (Fn.func 21) #[] #[]] W fun e W' => e = .panicked [{ v := .iface 37 (.int .i64 er), recovered := false }] ∧ At W' r (.slice (some ⟨g, 0, none⟩) len len) p 0 ∧ W.grownBy W' (some r) := by
  have F : ∀ n, Calls Try.prog 21 #[.slice (some ⟨g, 0, none⟩) len len, .int .i64 p] (W.drewN n) fun e w' => e = .returned (.tuple #[.int .u64 0, .int .i64 0, .int .i64 er]) ∧ w' = W.drewN n := fun n => by
    have := Rd.varint_any (some ⟨g, 0, none⟩) len len zs p (W.drewN n) (bytes_grown H (grown_drewN W n none) (by simp)) hl
    rw [hv] at this
    exact this
  have HF := hid F
  have a0 := A.c0
  have a1 := A.c1
  have a2 := A.c2
  have HA := hid A
  clear A H hv F
  go_enter Try.func53, Try.ntmps53
  go_wp2
  go_quiet ((go_at_call 21; exact Calls.quiet_of_same (HF.out _)))
  go_wp2
  exact ⟨rfl, rfl, HA.out.kept (grown_drewN _ nq none) (by simp), grown_drewN _ _ _⟩
end Go.Proofs.Ytpinknkdcecajaa.Rr

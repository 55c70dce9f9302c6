/- Contracts of the document's own reader: what each call tells, and the place and the error behind it. -/
import Derived.Test.YtpinknkdcecajaaRr
import Derived.BigRegion
namespace Go.Proofs.Ytpinknkdcecajaa.Rf
open Go.ChangeShapes Go.WideShapes Go.ChangeAt Go.RowKit
open Go.Proofs.Ytpinknkdcecajaa.Rd (Bytes ret_int addr_add)
open Go.Proofs.Ytpinknkdcecajaa.Wr
open Go.Proofs.Ytpinknkdcecajaa.Rx
open Go.Proofs.Ytpinknkdcecajaa.Rt
open Go.Proofs.Ytpinknkdcecajaa.Rr (hid grown_set grown_drewN bytes_grown)
set_option linter.unusedVariables false

/-- The document's reader in memory: block k; its bytes; its place; its error. -/
def Qt (W : World) (k : Nat) (sl : Value) (p er : Int) : Prop := W.heap[k]? = some (.cells #[sl, .int .i64 p, .int .i64 er] 58 (0, 0))
theorem Qt.c0 {W : World} {k : Nat} {sl : Value} {p er : Int} (h : Qt W k sl p er) : W.cell? ⟨k, 0, none⟩ = some sl := by
  simp [World.cell?, show W.heap[k]? = _ from h]
theorem Qt.c1 {W : World} {k : Nat} {sl : Value} {p er : Int} (h : Qt W k sl p er) : W.cell? ⟨k, 0 + 1, none⟩ = some (.int .i64 p) := by
  simp [World.cell?, show W.heap[k]? = _ from h]
theorem Qt.c2 {W : World} {k : Nat} {sl : Value} {p er : Int} (h : Qt W k sl p er) : W.cell? ⟨k, 0 + 2, none⟩ = some (.int .i64 er) := by
  simp [World.cell?, show W.heap[k]? = _ from h]
theorem Qt.fz {W : World} {k : Nat} {sl : Value} {p er : Int} (h : Qt W k sl p er) (o : Nat) : W.frozen? ⟨k, o, none⟩ = false := by
  simp [World.frozen?, show W.heap[k]? = _ from h]
theorem Qt.lt {W : World} {k : Nat} {sl : Value} {p er : Int} (h : Qt W k sl p er) : k < W.heap.size := (Array.getElem?_eq_some_iff.1 h).1
theorem Qt.set1 {W : World} {k : Nat} {sl : Value} {p er : Int} (h : Qt W k sl p er) (x : Int) : Qt (W.setCell ⟨k, 1, none⟩ (.int .i64 x)) k sl x er ∧ W.grownBy (W.setCell ⟨k, 1, none⟩ (.int .i64 x)) (some k) := by
  refine ⟨?_, grown_set W k 1 _⟩
  unfold Qt at h ⊢
  simp [World.setCell, Array.getElem?_modify, h]
theorem Qt.set2 {W : World} {k : Nat} {sl : Value} {p er : Int} (h : Qt W k sl p er) (x : Int) : Qt (W.setCell ⟨k, 2, none⟩ (.int .i64 x)) k sl p x ∧ W.grownBy (W.setCell ⟨k, 2, none⟩ (.int .i64 x)) (some k) := by
  refine ⟨?_, grown_set W k 2 _⟩
  unfold Qt at h ⊢
  simp [World.setCell, Array.getElem?_modify, h]
theorem Qt.kept {W W' : World} {k : Nat} {sl : Value} {p er : Int} {row : Option Nat} (h : Qt W k sl p er) (g : W.grownBy W' row) (hne : some k ≠ row) : Qt W' k sl p er := by
  unfold Qt
  rw [g.block k h.lt hne]
  exact h

theorem end_ok (k : Nat) (sl : Value) (p nx : Int) (W : World) (B : Qt W k sl p 0) :
    Calls Try.prog 54 #[.pointer (some ⟨k, 0, none⟩), .int .i64 nx, .int .i64 0] W fun e W' => e = .returned (.bool true) ∧ Qt W' k sl nx 0 ∧ W.grownBy W' (some k) := by
  have b1 := B.c1
  have f1 : W.frozen? ⟨k, 0 + 1, none⟩ = false := B.fz _
  have HB := hid B
  clear B
  go_enter Try.func54, Try.ntmps54
  go_wp2
  go_ret
  exact ⟨rfl, (HB.out.set1 nx).1, (HB.out.set1 nx).2⟩
theorem end_err (k : Nat) (sl : Value) (p nx er : Int) (W : World) (B : Qt W k sl p 0) (he : (er == 0) = false) :
    Calls Try.prog 54 #[.pointer (some ⟨k, 0, none⟩), .int .i64 nx, .int .i64 er] W fun e W' => e = .returned (.bool false) ∧ Qt W' k sl p er ∧ W.grownBy W' (some k) := by
  have b2 := B.c2
  have f2 : W.frozen? ⟨k, 0 + 2, none⟩ = false := B.fz _
  have HB := hid B
  clear B
  go_enter Try.func54, Try.ntmps54
  go_wp2
  go_ret
  exact ⟨rfl, (HB.out.set2 er).1, (HB.out.set2 er).2⟩

theorem r_V_stay (k : Nat) (sl : Value) (p er : Int) (W : World) (B : Qt W k sl p er) (he : (er == 0) = false) :
    Calls Try.prog 37 #[.pointer (some ⟨k, 0, none⟩)] W fun e W' => e = .returned (.int .u64 0) ∧ Qt W' k sl p er ∧ W.grownBy W' (some k) := by
  have b2 := B.c2
  have HB := hid B
  clear B
  go_enter Try.func37, Try.ntmps37
  go_wp2
  go_ret
  exact ⟨rfl, HB.out, World.grownBy.refl _ _⟩
set_option maxHeartbeats 1000000 in
theorem r_V_ok (k : Nat) (a : Option Addr) (len cap : Nat) (zs : List Int) (p x q : Int) (W : World) (B : Qt W k (.slice a len cap) p 0) (H : Bytes W a len cap zs) (hl : len ≤ 281474976710656) (hv : Vb.vread zs p = (x, q, 0)) :
    Calls Try.prog 37 #[.pointer (some ⟨k, 0, none⟩)] W fun e W' => e = .returned (.int .u64 x) ∧ Qt W' k (.slice a len cap) q 0 ∧ W.grownBy W' (some k) := by
  have F : ∀ n, Calls Try.prog 22 #[.slice a len cap, .int .i64 p] (W.drewN n) fun e w' => e = .returned (.tuple #[.int .u64 x, .int .i64 q, .int .i64 0]) ∧ w' = W.drewN n := fun n => by
    have := rread_any a len cap zs p (W.drewN n) (bytes_grown H (grown_drewN W n none) (by simp)) hl
    rw [hv] at this
    exact this
  have HF := hid F
  have b0 := B.c0
  have b1 := B.c1
  have b2 := B.c2
  have HB := hid B
  have HH := hid H
  clear B H hv F
  go_enter Try.func37, Try.ntmps37
  go_wp2
  go_quiet ((go_at_call 22; exact Calls.quiet_of_same (HF.out _)))
  go_wp2_with fail
  refine (end_ok k _ p q _ (HB.out.kept (grown_drewN _ nq none) (by simp))).mono ?_
  rintro e W' ⟨rfl, B', g'⟩
  have HB' := hid B'
  have HG' := hid (grown_trans (grown_drewN _ nq (some k)) g')
  clear B' g'
  go_wp2_with fail
  go_ret
  exact ⟨rfl, HB'.out, HG'.out⟩
set_option maxHeartbeats 1000000 in
theorem r_V_err (k : Nat) (a : Option Addr) (len cap : Nat) (zs : List Int) (p er : Int) (W : World) (B : Qt W k (.slice a len cap) p 0) (H : Bytes W a len cap zs) (hl : len ≤ 281474976710656) (hv : Vb.vread zs p = (0, 0, er)) (he : (er == 0) = false) :
    Calls Try.prog 37 #[.pointer (some ⟨k, 0, none⟩)] W fun e W' => e = .returned (.int .u64 0) ∧ Qt W' k (.slice a len cap) p er ∧ W.grownBy W' (some k) := by
  have F : ∀ n, Calls Try.prog 22 #[.slice a len cap, .int .i64 p] (W.drewN n) fun e w' => e = .returned (.tuple #[.int .u64 0, .int .i64 0, .int .i64 er]) ∧ w' = W.drewN n := fun n => by
    have := rread_any a len cap zs p (W.drewN n) (bytes_grown H (grown_drewN W n none) (by simp)) hl
    rw [hv] at this
    exact this
  have HF := hid F
  have b0 := B.c0
  have b1 := B.c1
  have b2 := B.c2
  have HB := hid B
  have HH := hid H
  clear B H hv F
  go_enter Try.func37, Try.ntmps37
  go_wp2
  go_quiet ((go_at_call 22; exact Calls.quiet_of_same (HF.out _)))
  go_wp2_with fail
  refine (end_err k _ p 0 er _ (HB.out.kept (grown_drewN _ nq none) (by simp)) he).mono ?_
  rintro e W' ⟨rfl, B', g'⟩
  have HB' := hid B'
  have HG' := hid (grown_trans (grown_drewN _ nq (some k)) g')
  clear B' g'
  go_wp2_with fail
  go_ret
  exact ⟨rfl, HB'.out, HG'.out⟩
theorem r_F4_stay (k : Nat) (sl : Value) (p er : Int) (W : World) (B : Qt W k sl p er) (he : (er == 0) = false) :
    Calls Try.prog 41 #[.pointer (some ⟨k, 0, none⟩), .int .i64 4] W fun e W' => e = .returned (.int .u64 0) ∧ Qt W' k sl p er ∧ W.grownBy W' (some k) := by
  have b2 := B.c2
  have HB := hid B
  clear B
  go_enter Try.func41, Try.ntmps41
  go_wp2
  go_ret
  exact ⟨rfl, HB.out, World.grownBy.refl _ _⟩
set_option maxHeartbeats 1000000 in
theorem r_F4_ok (k : Nat) (a : Option Addr) (len cap : Nat) (zs : List Int) (p x q : Int) (W : World) (B : Qt W k (.slice a len cap) p 0) (H : Bytes W a len cap zs) (hl : len ≤ 281474976710656) (hv : Fx.fread zs p 4 = (x, q, 0)) :
    Calls Try.prog 41 #[.pointer (some ⟨k, 0, none⟩), .int .i64 4] W fun e W' => e = .returned (.int .u64 x) ∧ Qt W' k (.slice a len cap) q 0 ∧ W.grownBy W' (some k) := by
  have F : ∀ n, Calls Try.prog 24 #[.slice a len cap, .int .i64 p, .int .i64 4] (W.drewN n) fun e w' => e = .returned (.tuple #[.int .u64 x, .int .i64 q, .int .i64 0]) ∧ w' = W.drewN n := fun n => by
    have := rfixed_any a len cap zs p 4 (W.drewN n) (bytes_grown H (grown_drewN W n none) (by simp)) hl (by omega)
    rw [hv] at this
    exact this
  have HF := hid F
  have b0 := B.c0
  have b1 := B.c1
  have b2 := B.c2
  have HB := hid B
  have HH := hid H
  clear B H hv F
  go_enter Try.func41, Try.ntmps41
  go_wp2
  go_quiet ((go_at_call 24; exact Calls.quiet_of_same (HF.out _)))
  go_wp2_with fail
  refine (end_ok k _ p q _ (HB.out.kept (grown_drewN _ nq none) (by simp))).mono ?_
  rintro e W' ⟨rfl, B', g'⟩
  have HB' := hid B'
  have HG' := hid (grown_trans (grown_drewN _ nq (some k)) g')
  clear B' g'
  go_wp2_with fail
  go_ret
  exact ⟨rfl, HB'.out, HG'.out⟩
set_option maxHeartbeats 1000000 in
theorem r_F4_err (k : Nat) (a : Option Addr) (len cap : Nat) (zs : List Int) (p er : Int) (W : World) (B : Qt W k (.slice a len cap) p 0) (H : Bytes W a len cap zs) (hl : len ≤ 281474976710656) (hv : Fx.fread zs p 4 = (0, 0, er)) (he : (er == 0) = false) :
    Calls Try.prog 41 #[.pointer (some ⟨k, 0, none⟩), .int .i64 4] W fun e W' => e = .returned (.int .u64 0) ∧ Qt W' k (.slice a len cap) p er ∧ W.grownBy W' (some k) := by
  have F : ∀ n, Calls Try.prog 24 #[.slice a len cap, .int .i64 p, .int .i64 4] (W.drewN n) fun e w' => e = .returned (.tuple #[.int .u64 0, .int .i64 0, .int .i64 er]) ∧ w' = W.drewN n := fun n => by
    have := rfixed_any a len cap zs p 4 (W.drewN n) (bytes_grown H (grown_drewN W n none) (by simp)) hl (by omega)
    rw [hv] at this
    exact this
  have HF := hid F
  have b0 := B.c0
  have b1 := B.c1
  have b2 := B.c2
  have HB := hid B
  have HH := hid H
  clear B H hv F
  go_enter Try.func41, Try.ntmps41
  go_wp2
  go_quiet ((go_at_call 24; exact Calls.quiet_of_same (HF.out _)))
  go_wp2_with fail
  refine (end_err k _ p 0 er _ (HB.out.kept (grown_drewN _ nq none) (by simp)) he).mono ?_
  rintro e W' ⟨rfl, B', g'⟩
  have HB' := hid B'
  have HG' := hid (grown_trans (grown_drewN _ nq (some k)) g')
  clear B' g'
  go_wp2_with fail
  go_ret
  exact ⟨rfl, HB'.out, HG'.out⟩
theorem r_F8_stay (k : Nat) (sl : Value) (p er : Int) (W : World) (B : Qt W k sl p er) (he : (er == 0) = false) :
    Calls Try.prog 41 #[.pointer (some ⟨k, 0, none⟩), .int .i64 8] W fun e W' => e = .returned (.int .u64 0) ∧ Qt W' k sl p er ∧ W.grownBy W' (some k) := by
  have b2 := B.c2
  have HB := hid B
  clear B
  go_enter Try.func41, Try.ntmps41
  go_wp2
  go_ret
  exact ⟨rfl, HB.out, World.grownBy.refl _ _⟩
set_option maxHeartbeats 1000000 in
theorem r_F8_ok (k : Nat) (a : Option Addr) (len cap : Nat) (zs : List Int) (p x q : Int) (W : World) (B : Qt W k (.slice a len cap) p 0) (H : Bytes W a len cap zs) (hl : len ≤ 281474976710656) (hv : Fx.fread zs p 8 = (x, q, 0)) :
    Calls Try.prog 41 #[.pointer (some ⟨k, 0, none⟩), .int .i64 8] W fun e W' => e = .returned (.int .u64 x) ∧ Qt W' k (.slice a len cap) q 0 ∧ W.grownBy W' (some k) := by
  have F : ∀ n, Calls Try.prog 24 #[.slice a len cap, .int .i64 p, .int .i64 8] (W.drewN n) fun e w' => e = .returned (.tuple #[.int .u64 x, .int .i64 q, .int .i64 0]) ∧ w' = W.drewN n := fun n => by
    have := rfixed_any a len cap zs p 8 (W.drewN n) (bytes_grown H (grown_drewN W n none) (by simp)) hl (by omega)
    rw [hv] at this
    exact this
  have HF := hid F
  have b0 := B.c0
  have b1 := B.c1
  have b2 := B.c2
  have HB := hid B
  have HH := hid H
  clear B H hv F
  go_enter Try.func41, Try.ntmps41
  go_wp2
  go_quiet ((go_at_call 24; exact Calls.quiet_of_same (HF.out _)))
  go_wp2_with fail
  refine (end_ok k _ p q _ (HB.out.kept (grown_drewN _ nq none) (by simp))).mono ?_
  rintro e W' ⟨rfl, B', g'⟩
  have HB' := hid B'
  have HG' := hid (grown_trans (grown_drewN _ nq (some k)) g')
  clear B' g'
  go_wp2_with fail
  go_ret
  exact ⟨rfl, HB'.out, HG'.out⟩
set_option maxHeartbeats 1000000 in
theorem r_F8_err (k : Nat) (a : Option Addr) (len cap : Nat) (zs : List Int) (p er : Int) (W : World) (B : Qt W k (.slice a len cap) p 0) (H : Bytes W a len cap zs) (hl : len ≤ 281474976710656) (hv : Fx.fread zs p 8 = (0, 0, er)) (he : (er == 0) = false) :
    Calls Try.prog 41 #[.pointer (some ⟨k, 0, none⟩), .int .i64 8] W fun e W' => e = .returned (.int .u64 0) ∧ Qt W' k (.slice a len cap) p er ∧ W.grownBy W' (some k) := by
  have F : ∀ n, Calls Try.prog 24 #[.slice a len cap, .int .i64 p, .int .i64 8] (W.drewN n) fun e w' => e = .returned (.tuple #[.int .u64 0, .int .i64 0, .int .i64 er]) ∧ w' = W.drewN n := fun n => by
    have := rfixed_any a len cap zs p 8 (W.drewN n) (bytes_grown H (grown_drewN W n none) (by simp)) hl (by omega)
    rw [hv] at this
    exact this
  have HF := hid F
  have b0 := B.c0
  have b1 := B.c1
  have b2 := B.c2
  have HB := hid B
  have HH := hid H
  clear B H hv F
  go_enter Try.func41, Try.ntmps41
  go_wp2
  go_quiet ((go_at_call 24; exact Calls.quiet_of_same (HF.out _)))
  go_wp2_with fail
  refine (end_err k _ p 0 er _ (HB.out.kept (grown_drewN _ nq none) (by simp)) he).mono ?_
  rintro e W' ⟨rfl, B', g'⟩
  have HB' := hid B'
  have HG' := hid (grown_trans (grown_drewN _ nq (some k)) g')
  clear B' g'
  go_wp2_with fail
  go_ret
  exact ⟨rfl, HB'.out, HG'.out⟩
theorem r_N_stay (k : Nat) (sl : Value) (most : Int) (p er : Int) (W : World) (B : Qt W k sl p er) (he : (er == 0) = false) :
    Calls Try.prog 39 #[.pointer (some ⟨k, 0, none⟩), .int .i64 most] W fun e W' => e = .returned (.int .i64 0) ∧ Qt W' k sl p er ∧ W.grownBy W' (some k) := by
  have b2 := B.c2
  have HB := hid B
  clear B
  go_enter Try.func39, Try.ntmps39
  go_wp2
  go_ret
  exact ⟨rfl, HB.out, World.grownBy.refl _ _⟩
set_option maxHeartbeats 1000000 in
theorem r_N_ok (k : Nat) (a : Option Addr) (len cap : Nat) (zs : List Int) (p q most : Int) (x : Nat) (W : World) (B : Qt W k (.slice a len cap) p 0) (H : Bytes W a len cap zs) (hl : len ≤ 281474976710656) (hv : Vb.vread zs p = ((x : Int), q, 0)) (hm : (x : Int) ≤ most) (hm2 : most ≤ 9223372036854775807) :
    Calls Try.prog 39 #[.pointer (some ⟨k, 0, none⟩), .int .i64 most] W fun e W' => e = .returned (.int .i64 x) ∧ Qt W' k (.slice a len cap) q 0 ∧ W.grownBy W' (some k) := by
  have F : ∀ n, Calls Try.prog 22 #[.slice a len cap, .int .i64 p] (W.drewN n) fun e w' => e = .returned (.tuple #[.int .u64 x, .int .i64 q, .int .i64 0]) ∧ w' = W.drewN n := fun n => by
    have := rread_any a len cap zs p (W.drewN n) (bytes_grown H (grown_drewN W n none) (by simp)) hl
    rw [hv] at this
    exact this
  have HF := hid F
  have b0 := B.c0
  have b1 := B.c1
  have b2 := B.c2
  have HB := hid B
  have HH := hid H
  have h0 : ¬ most < 0 := by omega
  clear B H hv F
  go_enter Try.func39, Try.ntmps39
  go_wp2
  go_quiet ((go_at_call 22; exact Calls.quiet_of_same (HF.out _)))
  go_wp2_with fail
  refine (end_ok k _ p q _ (HB.out.kept (grown_drewN _ nq none) (by simp))).mono ?_
  rintro e W' ⟨rfl, B', g'⟩
  have HB' := hid B'
  have HG' := hid (grown_trans (grown_drewN _ nq (some k)) g')
  clear B' g'
  go_wp2_with fail
  go_ret
  exact ⟨rfl, HB'.out, HG'.out⟩
set_option maxHeartbeats 1000000 in
theorem r_N_big (k : Nat) (a : Option Addr) (len cap : Nat) (zs : List Int) (p q most x : Int) (W : World) (B : Qt W k (.slice a len cap) p 0) (H : Bytes W a len cap zs) (hl : len ≤ 281474976710656) (hv : Vb.vread zs p = (x, q, 0)) (hm : most < 0 ∨ most < x) (hm2 : -9223372036854775808 ≤ most ∧ most ≤ 9223372036854775807) :
    Calls Try.prog 39 #[.pointer (some ⟨k, 0, none⟩), .int .i64 most] W fun e W' => e = .returned (.int .i64 0) ∧ Qt W' k (.slice a len cap) p 3 ∧ W.grownBy W' (some k) := by
  have F : ∀ n, Calls Try.prog 22 #[.slice a len cap, .int .i64 p] (W.drewN n) fun e w' => e = .returned (.tuple #[.int .u64 x, .int .i64 q, .int .i64 0]) ∧ w' = W.drewN n := fun n => by
    have := rread_any a len cap zs p (W.drewN n) (bytes_grown H (grown_drewN W n none) (by simp)) hl
    rw [hv] at this
    exact this
  have HF := hid F
  have b0 := B.c0
  have b1 := B.c1
  have b2 := B.c2
  have HB := hid B
  have HH := hid H
  by_cases h0 : most < 0
  · clear hm
    clear B H hv F
    go_enter Try.func39, Try.ntmps39
    go_wp2
    go_quiet ((go_at_call 22; exact Calls.quiet_of_same (HF.out _)))
    go_wp2_with fail
    refine (end_err k _ p q 3 _ (HB.out.kept (grown_drewN _ nq none) (by simp)) (by rfl)).mono ?_
    rintro e W' ⟨rfl, B', g'⟩
    have HB' := hid B'
    have HG' := hid (grown_trans (grown_drewN _ nq (some k)) g')
    clear B' g'
    go_wp2_with fail
    go_ret
    exact ⟨rfl, HB'.out, HG'.out⟩
  · have hx : most < x := by omega
    clear hm
    clear B H hv F
    go_enter Try.func39, Try.ntmps39
    go_wp2
    go_quiet ((go_at_call 22; exact Calls.quiet_of_same (HF.out _)))
    go_wp2_with fail
    refine (end_err k _ p q 3 _ (HB.out.kept (grown_drewN _ nq none) (by simp)) (by rfl)).mono ?_
    rintro e W' ⟨rfl, B', g'⟩
    have HB' := hid B'
    have HG' := hid (grown_trans (grown_drewN _ nq (some k)) g')
    clear B' g'
    go_wp2_with fail
    go_ret
    exact ⟨rfl, HB'.out, HG'.out⟩
set_option maxHeartbeats 1000000 in
theorem r_N_err (k : Nat) (a : Option Addr) (len cap : Nat) (zs : List Int) (p er most : Int) (W : World) (B : Qt W k (.slice a len cap) p 0) (H : Bytes W a len cap zs) (hl : len ≤ 281474976710656) (hv : Vb.vread zs p = (0, 0, er)) (he : (er == 0) = false) :
    Calls Try.prog 39 #[.pointer (some ⟨k, 0, none⟩), .int .i64 most] W fun e W' => e = .returned (.int .i64 0) ∧ Qt W' k (.slice a len cap) p er ∧ W.grownBy W' (some k) := by
  have F : ∀ n, Calls Try.prog 22 #[.slice a len cap, .int .i64 p] (W.drewN n) fun e w' => e = .returned (.tuple #[.int .u64 0, .int .i64 0, .int .i64 er]) ∧ w' = W.drewN n := fun n => by
    have := rread_any a len cap zs p (W.drewN n) (bytes_grown H (grown_drewN W n none) (by simp)) hl
    rw [hv] at this
    exact this
  have HF := hid F
  have b0 := B.c0
  have b1 := B.c1
  have b2 := B.c2
  have HB := hid B
  have HH := hid H
  clear B H hv F
  go_enter Try.func39, Try.ntmps39
  go_wp2
  go_quiet ((go_at_call 22; exact Calls.quiet_of_same (HF.out _)))
  go_wp2_with fail
  refine (end_err k _ p 0 er _ (HB.out.kept (grown_drewN _ nq none) (by simp)) he).mono ?_
  rintro e W' ⟨rfl, B', g'⟩
  have HB' := hid B'
  have HG' := hid (grown_trans (grown_drewN _ nq (some k)) g')
  clear B' g'
  go_wp2_with fail
  go_ret
  exact ⟨rfl, HB'.out, HG'.out⟩
theorem r_T_stay (k : Nat) (sl : Value) (most : Int) (p er : Int) (W : World) (B : Qt W k sl p er) (he : (er == 0) = false) :
    Calls Try.prog 44 #[.pointer (some ⟨k, 0, none⟩), .int .i64 most] W fun e W' => e = .returned (.string ⟨#[]⟩) ∧ Qt W' k sl p er ∧ W.grownBy W' (some k) := by
  have b2 := B.c2
  have HB := hid B
  clear B
  go_enter Try.func44, Try.ntmps44
  go_wp2
  go_ret
  exact ⟨rfl, HB.out, World.grownBy.refl _ _⟩
set_option maxHeartbeats 1000000 in
theorem r_T_ok (k : Nat) (a : Option Addr) (len cap : Nat) (zs : List Int) (p q most nx : Int) (x : Nat) (ts : List Int) (W : World) (B : Qt W k (.slice a len cap) p 0) (H : Bytes W a len cap zs) (hl : len ≤ 281474976710656) (hv : Vb.vread zs p = ((x : Int), q, 0)) (hm : (x : Int) ≤ most) (hm2 : most ≤ 9223372036854775807) (ht : tread zs p = (ts, nx, 0)) :
    Calls Try.prog 44 #[.pointer (some ⟨k, 0, none⟩), .int .i64 most] W fun e W' => e = .returned (.string (str ts)) ∧ Qt W' k (.slice a len cap) nx 0 ∧ W.grownBy W' (some k) := by
  have F : ∀ n, Calls Try.prog 22 #[.slice a len cap, .int .i64 p] (W.drewN n) fun e w' => e = .returned (.tuple #[.int .u64 x, .int .i64 q, .int .i64 0]) ∧ w' = W.drewN n := fun n => by
    have := rread_any a len cap zs p (W.drewN n) (bytes_grown H (grown_drewN W n none) (by simp)) hl
    rw [hv] at this
    exact this
  have HF := hid F
  have b0 := B.c0
  have b1 := B.c1
  have b2 := B.c2
  have HB := hid B
  have HH := hid H
  have h0 : ¬ most < 0 := by omega
  clear B H hv F
  go_enter Try.func44, Try.ntmps44
  go_wp2
  go_quiet ((go_at_call 22; exact Calls.quiet_of_same (HF.out _)))
  go_wp2
  obtain ⟨W1, hW1⟩ : ∃ W1, W1 = W.drewN nq := ⟨_, rfl⟩
  rw [← hW1]
  have B1 : Qt W1 k (.slice a len cap) p 0 := by rw [hW1]; exact HB.out.kept (grown_drewN _ nq none) (by simp)
  have G1 : W.grownBy W1 (some k) := by rw [hW1]; exact grown_drewN _ _ _
  have H1 : Bytes W1 a len cap zs := by rw [hW1]; exact bytes_grown HH.out (grown_drewN _ nq none) (by simp)
  clear hW1 b0 b1 b2 HF HB HH
  have F2 : ∀ n, Calls Try.prog 27 #[.slice a len cap, .int .i64 p] (W1.drewN n) fun e w' => e = .returned (.tuple #[.string (str ts), .int .i64 nx, .int .i64 0]) ∧ w' = W1.drewN n := fun n => by
    have := rtext_any a len cap zs p (W1.drewN n) (bytes_grown H1 (grown_drewN W1 n none) (by simp)) hl
    rw [ht] at this
    exact this
  have HF2 := hid F2
  have b0 := B1.c0
  have b1 := B1.c1
  have HB1 := hid B1
  have HG1 := hid G1
  clear B1 G1 H1 F2 ht
  go_quiet ((go_at_call 27; exact Calls.quiet_of_same (HF2.out _)))
  go_wp2_with fail
  refine (end_ok k _ p nx _ (HB1.out.kept (grown_drewN _ nq none) (by simp))).mono ?_
  rintro e W' ⟨rfl, B', g'⟩
  have HB' := hid B'
  have HG' := hid (grown_trans HG1.out (grown_trans (grown_drewN _ nq (some k)) g'))
  clear B' g'
  go_wp2_with fail
  go_ret
  exact ⟨rfl, HB'.out, HG'.out⟩
set_option maxHeartbeats 1000000 in
theorem r_T_short (k : Nat) (a : Option Addr) (len cap : Nat) (zs : List Int) (p q most : Int) (x : Nat) (W : World) (B : Qt W k (.slice a len cap) p 0) (H : Bytes W a len cap zs) (hl : len ≤ 281474976710656) (hv : Vb.vread zs p = ((x : Int), q, 0)) (hm : (x : Int) ≤ most) (hm2 : most ≤ 9223372036854775807) (ht : tread zs p = ([], 0, 10)) :
    Calls Try.prog 44 #[.pointer (some ⟨k, 0, none⟩), .int .i64 most] W fun e W' => e = .returned (.string ⟨#[]⟩) ∧ Qt W' k (.slice a len cap) p 10 ∧ W.grownBy W' (some k) := by
  have F : ∀ n, Calls Try.prog 22 #[.slice a len cap, .int .i64 p] (W.drewN n) fun e w' => e = .returned (.tuple #[.int .u64 x, .int .i64 q, .int .i64 0]) ∧ w' = W.drewN n := fun n => by
    have := rread_any a len cap zs p (W.drewN n) (bytes_grown H (grown_drewN W n none) (by simp)) hl
    rw [hv] at this
    exact this
  have HF := hid F
  have b0 := B.c0
  have b1 := B.c1
  have b2 := B.c2
  have HB := hid B
  have HH := hid H
  have h0 : ¬ most < 0 := by omega
  clear B H hv F
  go_enter Try.func44, Try.ntmps44
  go_wp2
  go_quiet ((go_at_call 22; exact Calls.quiet_of_same (HF.out _)))
  go_wp2
  obtain ⟨W1, hW1⟩ : ∃ W1, W1 = W.drewN nq := ⟨_, rfl⟩
  rw [← hW1]
  have B1 : Qt W1 k (.slice a len cap) p 0 := by rw [hW1]; exact HB.out.kept (grown_drewN _ nq none) (by simp)
  have G1 : W.grownBy W1 (some k) := by rw [hW1]; exact grown_drewN _ _ _
  have H1 : Bytes W1 a len cap zs := by rw [hW1]; exact bytes_grown HH.out (grown_drewN _ nq none) (by simp)
  clear hW1 b0 b1 b2 HF HB HH
  have F2 : ∀ n, Calls Try.prog 27 #[.slice a len cap, .int .i64 p] (W1.drewN n) fun e w' => e = .returned (.tuple #[.string (str []), .int .i64 0, .int .i64 10]) ∧ w' = W1.drewN n := fun n => by
    have := rtext_any a len cap zs p (W1.drewN n) (bytes_grown H1 (grown_drewN W1 n none) (by simp)) hl
    rw [ht] at this
    exact this
  have HF2 := hid F2
  have b0 := B1.c0
  have b1 := B1.c1
  have HB1 := hid B1
  have HG1 := hid G1
  clear B1 G1 H1 F2 ht
  go_quiet ((go_at_call 27; exact Calls.quiet_of_same (HF2.out _)))
  go_wp2_with fail
  refine (end_err k _ p 0 10 _ (HB1.out.kept (grown_drewN _ nq none) (by simp)) (by rfl)).mono ?_
  rintro e W' ⟨rfl, B', g'⟩
  have HB' := hid B'
  have HG' := hid (grown_trans HG1.out (grown_trans (grown_drewN _ nq (some k)) g'))
  clear B' g'
  go_wp2_with fail
  go_ret
  exact ⟨rfl, HB'.out, HG'.out⟩
set_option maxHeartbeats 1000000 in
theorem r_T_big (k : Nat) (a : Option Addr) (len cap : Nat) (zs : List Int) (p q most x : Int) (W : World) (B : Qt W k (.slice a len cap) p 0) (H : Bytes W a len cap zs) (hl : len ≤ 281474976710656) (hv : Vb.vread zs p = (x, q, 0)) (hm : most < 0 ∨ most < x) (hm2 : -9223372036854775808 ≤ most ∧ most ≤ 9223372036854775807) :
    Calls Try.prog 44 #[.pointer (some ⟨k, 0, none⟩), .int .i64 most] W fun e W' => e = .returned (.string ⟨#[]⟩) ∧ Qt W' k (.slice a len cap) p 3 ∧ W.grownBy W' (some k) := by
  have F : ∀ n, Calls Try.prog 22 #[.slice a len cap, .int .i64 p] (W.drewN n) fun e w' => e = .returned (.tuple #[.int .u64 x, .int .i64 q, .int .i64 0]) ∧ w' = W.drewN n := fun n => by
    have := rread_any a len cap zs p (W.drewN n) (bytes_grown H (grown_drewN W n none) (by simp)) hl
    rw [hv] at this
    exact this
  have HF := hid F
  have b0 := B.c0
  have b1 := B.c1
  have b2 := B.c2
  have HB := hid B
  have HH := hid H
  by_cases h0 : most < 0
  · clear hm
    clear B H hv F
    go_enter Try.func44, Try.ntmps44
    go_wp2
    go_quiet ((go_at_call 22; exact Calls.quiet_of_same (HF.out _)))
    go_wp2_with fail
    refine (end_err k _ p 0 3 _ (HB.out.kept (grown_drewN _ nq none) (by simp)) (by rfl)).mono ?_
    rintro e W' ⟨rfl, B', g'⟩
    have HB' := hid B'
    have HG' := hid (grown_trans (grown_drewN _ nq (some k)) g')
    clear B' g'
    go_wp2_with fail
    go_ret
    exact ⟨rfl, HB'.out, HG'.out⟩
  · have hx : most < x := by omega
    clear hm
    clear B H hv F
    go_enter Try.func44, Try.ntmps44
    go_wp2
    go_quiet ((go_at_call 22; exact Calls.quiet_of_same (HF.out _)))
    go_wp2_with fail
    refine (end_err k _ p 0 3 _ (HB.out.kept (grown_drewN _ nq none) (by simp)) (by rfl)).mono ?_
    rintro e W' ⟨rfl, B', g'⟩
    have HB' := hid B'
    have HG' := hid (grown_trans (grown_drewN _ nq (some k)) g')
    clear B' g'
    go_wp2_with fail
    go_ret
    exact ⟨rfl, HB'.out, HG'.out⟩
set_option maxHeartbeats 1000000 in
theorem r_T_err (k : Nat) (a : Option Addr) (len cap : Nat) (zs : List Int) (p er most : Int) (W : World) (B : Qt W k (.slice a len cap) p 0) (H : Bytes W a len cap zs) (hl : len ≤ 281474976710656) (hv : Vb.vread zs p = (0, 0, er)) (he : (er == 0) = false) :
    Calls Try.prog 44 #[.pointer (some ⟨k, 0, none⟩), .int .i64 most] W fun e W' => e = .returned (.string ⟨#[]⟩) ∧ Qt W' k (.slice a len cap) p er ∧ W.grownBy W' (some k) := by
  have F : ∀ n, Calls Try.prog 22 #[.slice a len cap, .int .i64 p] (W.drewN n) fun e w' => e = .returned (.tuple #[.int .u64 0, .int .i64 0, .int .i64 er]) ∧ w' = W.drewN n := fun n => by
    have := rread_any a len cap zs p (W.drewN n) (bytes_grown H (grown_drewN W n none) (by simp)) hl
    rw [hv] at this
    exact this
  have HF := hid F
  have b0 := B.c0
  have b1 := B.c1
  have b2 := B.c2
  have HB := hid B
  have HH := hid H
  clear B H hv F
  go_enter Try.func44, Try.ntmps44
  go_wp2
  go_quiet ((go_at_call 22; exact Calls.quiet_of_same (HF.out _)))
  go_wp2_with fail
  refine (end_err k _ p 0 er _ (HB.out.kept (grown_drewN _ nq none) (by simp)) he).mono ?_
  rintro e W' ⟨rfl, B', g'⟩
  have HB' := hid B'
  have HG' := hid (grown_trans (grown_drewN _ nq (some k)) g')
  clear B' g'
  go_wp2_with fail
  go_ret
  exact ⟨rfl, HB'.out, HG'.out⟩
end Go.Proofs.Ytpinknkdcecajaa.Rf

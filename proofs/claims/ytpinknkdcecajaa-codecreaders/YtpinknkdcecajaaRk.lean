/- Contracts of take at four and eight bytes, of takeNumber and takeText, and of the Reader's looks. -/
import Derived.Test.YtpinknkdcecajaaRr
import Derived.BigRegion
import Derived.RegionTactic
namespace Go.Proofs.Ytpinknkdcecajaa.Rk
open Go.ChangeShapes Go.WideShapes Go.ChangeAt Go.RowKit
open Go.Proofs.Ytpinknkdcecajaa.Rd (Bytes ret_int addr_add)
open Go.Proofs.Ytpinknkdcecajaa.Wr
open Go.Proofs.Ytpinknkdcecajaa.Rx
open Go.Proofs.Ytpinknkdcecajaa.Rt
open Go.Proofs.Ytpinknkdcecajaa.Rr
set_option linter.unusedVariables false

set_option maxHeartbeats 1000000 in
theorem takeF64_ok (r g len : Nat) (zs : List Int) (p x q : Int) (W : World) (A : At W r (.slice (some ⟨g, 0, none⟩) len len) p 0) (H : Bytes W (some ⟨g, 0, none⟩) len len zs) (hl : len ≤ 281474976710656) (hv : Fx.fread zs p 8 = (x, q, 0)) :
    Calls Try.prog 53 #[.pointer (some ⟨r, 0, none⟩), .func (Fn.func 25) #[] #[]] W fun e W' => e = .returned (.int .u64 x) ∧ At W' r (.slice (some ⟨g, 0, none⟩) len len) q 0 ∧ W.grownBy W' (some r) := by
  have F : ∀ n, Calls Try.prog 25 #[.slice (some ⟨g, 0, none⟩) len len, .int .i64 p] (W.drewN n) fun e w' => e = .returned (.tuple #[.int .u64 x, .int .i64 q, .int .i64 0]) ∧ w' = W.drewN n := fun n => by
    have := fixed64_any (some ⟨g, 0, none⟩) len len zs p (W.drewN n) (bytes_grown H (grown_drewN W n none) (by simp)) hl
    rw [hv] at this
    exact this
  have HF := hid F
  have a0 := A.c0
  have a1 := A.c1
  have a2 := A.c2
  have fz2 : W.frozen? ⟨r, 0 + 2, none⟩ = false := A.fz _
  have HA := hid A
  clear A H hv F
  go_enter Try.func53, Try.ntmps53
  go_wp2
  go_quiet ((go_at_call 25; exact Calls.quiet_of_same (HF.out _)))
  go_wp2
  go_ret
  exact ⟨rfl, (HA.out.set2 q).1, grown_trans (HA.out.set2 q).2 (grown_drewN _ nq _)⟩

set_option maxHeartbeats 1000000 in
theorem takeF64_err (r g len : Nat) (zs : List Int) (p er : Int) (W : World) (A : At W r (.slice (some ⟨g, 0, none⟩) len len) p 0) (H : Bytes W (some ⟨g, 0, none⟩) len len zs) (hl : len ≤ 281474976710656) (hv : Fx.fread zs p 8 = (0, 0, er)) (he : (er == 0) = false) :
    Calls Try.prog 53 #[.pointer (some ⟨r, 0, none⟩), .func (Fn.func 25) #[] #[]] W fun e W' => e = .panicked [{ v := .iface 37 (.int .i64 er), recovered := false }] ∧ At W' r (.slice (some ⟨g, 0, none⟩) len len) p 0 ∧ W.grownBy W' (some r) := by
  have F : ∀ n, Calls Try.prog 25 #[.slice (some ⟨g, 0, none⟩) len len, .int .i64 p] (W.drewN n) fun e w' => e = .returned (.tuple #[.int .u64 0, .int .i64 0, .int .i64 er]) ∧ w' = W.drewN n := fun n => by
    have := fixed64_any (some ⟨g, 0, none⟩) len len zs p (W.drewN n) (bytes_grown H (grown_drewN W n none) (by simp)) hl
    rw [hv] at this
    exact this
  have HF := hid F
  have a0 := A.c0
  have a1 := A.c1
  have a2 := A.c2
  have HA := hid A
  clear A H hv F
  go_enter Try.func53, Try.ntmps53
  go_wp2
  go_quiet ((go_at_call 25; exact Calls.quiet_of_same (HF.out _)))
  go_wp2
  exact ⟨rfl, rfl, HA.out.kept (grown_drewN _ nq none) (by simp), grown_drewN _ _ _⟩
set_option maxHeartbeats 1000000 in
theorem takeF32_ok (r g len : Nat) (zs : List Int) (p x q : Int) (W : World) (A : At W r (.slice (some ⟨g, 0, none⟩) len len) p 0) (H : Bytes W (some ⟨g, 0, none⟩) len len zs) (hl : len ≤ 281474976710656) (hv : Fx.fread zs p 4 = (x, q, 0)) :
    Calls Try.prog 60 #[.pointer (some ⟨r, 0, none⟩), .func (Fn.func 23) #[] #[]] W fun e W' => e = .returned (.int .u32 x) ∧ At W' r (.slice (some ⟨g, 0, none⟩) len len) q 0 ∧ W.grownBy W' (some r) := by
  have F : ∀ n, Calls Try.prog 23 #[.slice (some ⟨g, 0, none⟩) len len, .int .i64 p] (W.drewN n) fun e w' => e = .returned (.tuple #[.int .u32 x, .int .i64 q, .int .i64 0]) ∧ w' = W.drewN n := fun n => by
    have := fixed32_any (some ⟨g, 0, none⟩) len len zs p (W.drewN n) (bytes_grown H (grown_drewN W n none) (by simp)) hl
    rw [hv] at this
    exact this
  have HF := hid F
  have a0 := A.c0
  have a1 := A.c1
  have a2 := A.c2
  have fz2 : W.frozen? ⟨r, 0 + 2, none⟩ = false := A.fz _
  have HA := hid A
  clear A H hv F
  go_enter Try.func60, Try.ntmps60
  go_wp2
  go_quiet ((go_at_call 23; exact Calls.quiet_of_same (HF.out _)))
  go_wp2
  go_ret
  exact ⟨rfl, (HA.out.set2 q).1, grown_trans (HA.out.set2 q).2 (grown_drewN _ nq _)⟩

set_option maxHeartbeats 1000000 in
theorem takeF32_err (r g len : Nat) (zs : List Int) (p er : Int) (W : World) (A : At W r (.slice (some ⟨g, 0, none⟩) len len) p 0) (H : Bytes W (some ⟨g, 0, none⟩) len len zs) (hl : len ≤ 281474976710656) (hv : Fx.fread zs p 4 = (0, 0, er)) (he : (er == 0) = false) :
    Calls Try.prog 60 #[.pointer (some ⟨r, 0, none⟩), .func (Fn.func 23) #[] #[]] W fun e W' => e = .panicked [{ v := .iface 37 (.int .i64 er), recovered := false }] ∧ At W' r (.slice (some ⟨g, 0, none⟩) len len) p 0 ∧ W.grownBy W' (some r) := by
  have F : ∀ n, Calls Try.prog 23 #[.slice (some ⟨g, 0, none⟩) len len, .int .i64 p] (W.drewN n) fun e w' => e = .returned (.tuple #[.int .u32 0, .int .i64 0, .int .i64 er]) ∧ w' = W.drewN n := fun n => by
    have := fixed32_any (some ⟨g, 0, none⟩) len len zs p (W.drewN n) (bytes_grown H (grown_drewN W n none) (by simp)) hl
    rw [hv] at this
    exact this
  have HF := hid F
  have a0 := A.c0
  have a1 := A.c1
  have a2 := A.c2
  have HA := hid A
  clear A H hv F
  go_enter Try.func60, Try.ntmps60
  go_wp2
  go_quiet ((go_at_call 23; exact Calls.quiet_of_same (HF.out _)))
  go_wp2
  exact ⟨rfl, rfl, HA.out.kept (grown_drewN _ nq none) (by simp), grown_drewN _ _ _⟩

theorem tn_ok (r g len : Nat) (zs : List Int) (p q most : Int) (x : Nat) (W : World) (A : At W r (.slice (some ⟨g, 0, none⟩) len len) p 0) (H : Bytes W (some ⟨g, 0, none⟩) len len zs) (hl : len ≤ 281474976710656) (hv : Vb.vread zs p = ((x : Int), q, 0)) (hm : (x : Int) ≤ most) (hm2 : most ≤ 9223372036854775807) :
    Calls Try.prog 57 #[.pointer (some ⟨r, 0, none⟩), .int .i64 most] W fun e W' => e = .returned (.int .i64 x) ∧ At W' r (.slice (some ⟨g, 0, none⟩) len len) q 0 ∧ W.grownBy W' (some r) := by
  have HT := hid (take64_ok r g len zs p x q W A H hl hv)
  have h0 : ¬ most < 0 := by omega
  clear A H hv
  go_enter Try.func57, Try.ntmps57
  go_wp2_with fail
  refine HT.out.mono ?_
  rintro e W1 ⟨rfl, A1, g1⟩
  have HA := hid A1
  have HG := hid g1
  clear A1 g1 HT
  go_wp2
  go_ret
  exact ⟨rfl, HA.out, HG.out⟩
theorem tn_big (r g len : Nat) (zs : List Int) (p q most : Int) (x : Int) (W : World) (A : At W r (.slice (some ⟨g, 0, none⟩) len len) p 0) (H : Bytes W (some ⟨g, 0, none⟩) len len zs) (hl : len ≤ 281474976710656) (hv : Vb.vread zs p = (x, q, 0)) (hm : most < 0 ∨ most < x) (hm2 : -9223372036854775808 ≤ most ∧ most ≤ 9223372036854775807) :
    Calls Try.prog 57 #[.pointer (some ⟨r, 0, none⟩), .int .i64 most] W fun e W' => e = .panicked [{ v := .iface 37 (.int .i64 3), recovered := false }] ∧ At W' r (.slice (some ⟨g, 0, none⟩) len len) q 0 ∧ W.grownBy W' (some r) := by
  have HT := hid (take64_ok r g len zs p x q W A H hl hv)
  clear A H hv
  by_cases h0 : most < 0
  · clear hm
    go_enter Try.func57, Try.ntmps57
    go_wp2_with fail
    refine HT.out.mono ?_
    rintro e W1 ⟨rfl, A1, g1⟩
    have HA := hid A1
    have HG := hid g1
    clear A1 g1 HT
    go_wp2
    exact ⟨rfl, rfl, HA.out, HG.out⟩
  · have hx : most < x := by omega
    clear hm
    go_enter Try.func57, Try.ntmps57
    go_wp2_with fail
    refine HT.out.mono ?_
    rintro e W1 ⟨rfl, A1, g1⟩
    have HA := hid A1
    have HG := hid g1
    clear A1 g1 HT
    go_wp2
    exact ⟨rfl, rfl, HA.out, HG.out⟩
theorem tn_err (r g len : Nat) (zs : List Int) (p er most : Int) (W : World) (A : At W r (.slice (some ⟨g, 0, none⟩) len len) p 0) (H : Bytes W (some ⟨g, 0, none⟩) len len zs) (hl : len ≤ 281474976710656) (hv : Vb.vread zs p = (0, 0, er)) (he : (er == 0) = false) :
    Calls Try.prog 57 #[.pointer (some ⟨r, 0, none⟩), .int .i64 most] W fun e W' => e = .panicked [{ v := .iface 37 (.int .i64 er), recovered := false }] ∧ At W' r (.slice (some ⟨g, 0, none⟩) len len) p 0 ∧ W.grownBy W' (some r) := by
  have HT := hid (take64_err r g len zs p er W A H hl hv he)
  clear A H hv
  go_enter Try.func57, Try.ntmps57
  go_wp2_with fail
  refine HT.out.mono ?_
  rintro e W1 ⟨rfl, A1, g1⟩
  have HA := hid A1
  have HG := hid g1
  clear A1 g1 HT
  go_wp2
  exact ⟨rfl, rfl, HA.out, HG.out⟩

/-! ### The looks -/
theorem at_any (r : Nat) (sl : Value) (p er : Int) (W : World) (A : At W r sl p er) :
    Calls Try.prog 33 #[.pointer (some ⟨r, 0, none⟩)] W fun e W' => e = .returned (.int .i64 p) ∧ W' = W := by
  have a2 := A.c2
  clear A
  go_enter Try.func33, Try.ntmps33
  go_wp2
  go_ret
  exact ⟨rfl, rfl⟩
theorem err_any (r : Nat) (sl : Value) (p er : Int) (W : World) (A : At W r sl p er) :
    Calls Try.prog 35 #[.pointer (some ⟨r, 0, none⟩)] W fun e W' => e = .returned (.int .i64 er) ∧ W' = W := by
  have a0 := A.c0
  have a3 := A.c3
  clear A
  go_enter Try.func35, Try.ntmps35
  go_wp2
  go_ret
  exact ⟨rfl, rfl⟩
theorem left_any (r g len c : Nat) (p er : Int) (W : World) (A : At W r (.slice (some ⟨g, 0, none⟩) len c) p er) (hl : len ≤ 281474976710656) (hp : 0 ≤ p ∧ p ≤ len) :
    Calls Try.prog 34 #[.pointer (some ⟨r, 0, none⟩)] W fun e W' => e = .returned (.int .i64 (len - p)) ∧ ∃ n, W' = W.drewN n := by
  have a1 := A.c1
  have a2 := A.c2
  obtain ⟨hp0, hp1⟩ := hp
  clear A
  go_enter Try.func34, Try.ntmps34
  go_wp2
  go_quiet (fail)
  go_wp2
  go_ret
  exact ⟨rfl, nq, rfl⟩

set_option maxHeartbeats 1000000 in
theorem tt_short (r g len : Nat) (zs : List Int) (p most : Int) (q x : Nat) (W : World) (A : At W r (.slice (some ⟨g, 0, none⟩) len len) p 0) (H : Bytes W (some ⟨g, 0, none⟩) len len zs) (hl : len ≤ 281474976710656) (hv : Vb.vread zs p = ((x : Int), (q : Int), 0)) (hm : (x : Int) ≤ most) (hm2 : most ≤ 9223372036854775807) (hq : q ≤ len) (hs : (len : Int) - q < x) :
    Calls Try.prog 64 #[.pointer (some ⟨r, 0, none⟩), .int .i64 most] W fun e W' => e = .panicked [{ v := .iface 37 (.int .i64 10), recovered := false }] ∧ At W' r (.slice (some ⟨g, 0, none⟩) len len) q 0 ∧ W.grownBy W' (some r) := by
  have HT := hid (tn_ok r g len zs p q most x W A H hl hv hm hm2)
  clear A H hv
  go_enter Try.func64, Try.ntmps64
  go_wp2_with fail
  refine HT.out.mono ?_
  rintro e W1 ⟨rfl, A1, g1⟩
  have HA := hid A1
  have HG := hid g1
  clear A1 g1 HT
  go_wp2_with fail
  refine (left_any r g len len q 0 W1 HA.out hl (by omega)).mono ?_
  rintro e W2 ⟨rfl, n, rfl⟩
  go_wp2
  exact ⟨rfl, rfl, HA.out.kept (grown_drewN _ n none) (by simp), grown_trans HG.out (grown_drewN _ _ _)⟩
theorem tt_big (r g len : Nat) (zs : List Int) (p q most : Int) (x : Int) (W : World) (A : At W r (.slice (some ⟨g, 0, none⟩) len len) p 0) (H : Bytes W (some ⟨g, 0, none⟩) len len zs) (hl : len ≤ 281474976710656) (hv : Vb.vread zs p = (x, q, 0)) (hm : most < 0 ∨ most < x) (hm2 : -9223372036854775808 ≤ most ∧ most ≤ 9223372036854775807) :
    Calls Try.prog 64 #[.pointer (some ⟨r, 0, none⟩), .int .i64 most] W fun e W' => e = .panicked [{ v := .iface 37 (.int .i64 3), recovered := false }] ∧ At W' r (.slice (some ⟨g, 0, none⟩) len len) q 0 ∧ W.grownBy W' (some r) := by
  have HT := hid (tn_big r g len zs p q most x W A H hl hv hm hm2)
  clear A H hv hm
  go_enter Try.func64, Try.ntmps64
  go_wp2_with fail
  refine HT.out.mono ?_
  rintro e W1 ⟨rfl, A1, g1⟩
  have HA := hid A1
  have HG := hid g1
  clear A1 g1 HT
  go_wp2
  exact ⟨rfl, rfl, HA.out, HG.out⟩
theorem tt_err (r g len : Nat) (zs : List Int) (p er most : Int) (W : World) (A : At W r (.slice (some ⟨g, 0, none⟩) len len) p 0) (H : Bytes W (some ⟨g, 0, none⟩) len len zs) (hl : len ≤ 281474976710656) (hv : Vb.vread zs p = (0, 0, er)) (he : (er == 0) = false) :
    Calls Try.prog 64 #[.pointer (some ⟨r, 0, none⟩), .int .i64 most] W fun e W' => e = .panicked [{ v := .iface 37 (.int .i64 er), recovered := false }] ∧ At W' r (.slice (some ⟨g, 0, none⟩) len len) p 0 ∧ W.grownBy W' (some r) := by
  have HT := hid (tn_err r g len zs p er most W A H hl hv he)
  clear A H hv
  go_enter Try.func64, Try.ntmps64
  go_wp2_with fail
  refine HT.out.mono ?_
  rintro e W1 ⟨rfl, A1, g1⟩
  have HA := hid A1
  have HG := hid g1
  clear A1 g1 HT
  go_wp2
  exact ⟨rfl, rfl, HA.out, HG.out⟩
set_option maxHeartbeats 1000000 in
theorem tt_ok (r g len : Nat) (zs : List Int) (p most : Int) (q x : Nat) (W : World) (A : At W r (.slice (some ⟨g, 0, none⟩) len len) p 0) (H : Bytes W (some ⟨g, 0, none⟩) len len zs) (hl : len ≤ 281474976710656) (hv : Vb.vread zs p = ((x : Int), (q : Int), 0)) (hm : (x : Int) ≤ most) (hm2 : most ≤ 9223372036854775807) (hq : q ≤ len) (hs : ¬ (len : Int) - q < x) (hgr : g ≠ r) :
    Calls Try.prog 64 #[.pointer (some ⟨r, 0, none⟩), .int .i64 most] W fun e W' => e = .returned (.string (str ((zs.drop q).take x))) ∧ At W' r (.slice (some ⟨g, 0, none⟩) len len) ((q : Int) + x) 0 ∧ W.grownBy W' (some r) := by
  have HT := hid (tn_ok r g len zs p q most x W A H hl hv hm hm2)
  have HH := hid H
  clear A H hv
  go_enter Try.func64, Try.ntmps64
  go_wp2_with fail
  refine HT.out.mono ?_
  rintro e W1 ⟨rfl, A1, g1⟩
  have HA := hid A1
  have HG := hid g1
  clear A1 g1 HT
  go_wp2_with fail
  refine (left_any r g len len q 0 W1 HA.out hl (by omega)).mono ?_
  rintro e W2 ⟨rfl, n, rfl⟩
  have a1 := HA.out.c1
  have a2 := HA.out.c2
  have fz2 : W1.frozen? ⟨r, 0 + 2, none⟩ = false := HA.out.fz _
  go_wp2
  obtain ⟨W3, hW3⟩ : ∃ W3, W3 = (W1.drewN n).setCell ⟨r, 2, none⟩ (.int .i64 ((q : Int) + x)) := ⟨_, rfl⟩
  have AD : At (W1.drewN n) r (.slice (some ⟨g, 0, none⟩) len len) q 0 := HA.out.kept (grown_drewN _ n none) (by simp)
  have A3 : At W3 r (.slice (some ⟨g, 0, none⟩) len len) ((q : Int) + x) 0 := by rw [hW3]; exact (AD.set2 _).1
  have G3 : W.grownBy W3 (some r) := by rw [hW3]; exact grown_trans HG.out (grown_trans (grown_drewN _ _ _) (AD.set2 _).2)
  rw [← hW3]
  have HB3 := hid (bytes_grown HH.out G3 (by intro x hx; simp at hx; subst hx; simpa using hgr))
  clear hW3 HA HG a1 a2 fz2 HH AD
  have b1 := A3.c1
  have b2 := A3.c2
  have HA3 := hid A3
  have HG3 := hid G3
  clear A3 G3
  have hqm : (q : Int) + (x : Int) ≤ (len : Int) := by omega
  have hqn : q + x ≤ len := by omega
  have hle : (q : Int) ≤ (q : Int) + (x : Int) := by omega
  have hq0 : (0 : Int) ≤ (q : Int) := by omega
  have hq1 : (0 : Int) ≤ (q : Int) + (x : Int) := by omega
  by_cases hql : len = q
  · have hx0 : x = 0 := by omega
    subst hx0
    subst hql
    have kc : ∀ m, Sem.run Try.prog (convert 22 9 (.slice (some ⟨g, 0, none⟩) 0 0)) (W3.drewN m) = .ok (.string (str ((zs.drop len).take 0))) (W3.drewN m) := fun m => conv_run _ _ 0 0 _ (by simp) (fun e => by simp at e) (fun x hx i hi => by omega)
    go_quiet (fail)
    go_wp2
    go_ret
    exact ⟨rfl, HA3.out.kept (grown_drewN _ nq none) (by simp), grown_trans HG3.out (grown_drewN _ _ _)⟩
  · have kc : ∀ m, Sem.run Try.prog (convert 22 9 (.slice (some ⟨g, q, none⟩) x (len - q))) (W3.drewN m) = .ok (.string (str ((zs.drop q).take x))) (W3.drewN m) := fun m => by
      have hz := HB3.out.1
      refine conv_run _ _ x _ _ (by simp; omega) (fun e => by simp at e) ?_
      intro y hy i hi
      simp at hy
      subst hy
      have := HB3.out.2.2.2.2 _ rfl (q + i) (by omega)
      rw [addr_add] at this ⊢
      show W3.cell? _ = _
      rw [Nat.zero_add] at this
      rw [this]
      simp [List.getD_eq_getElem?_getD, hi]
    have hlx : ((q : Int) + (x : Int)).toNat - q = x := by omega
    go_quiet (fail)
    go_wp2
    go_ret
    exact ⟨rfl, HA3.out.kept (grown_drewN _ nq none) (by simp), grown_trans HG3.out (grown_drewN _ _ _)⟩
end Go.Proofs.Ytpinknkdcecajaa.Rk

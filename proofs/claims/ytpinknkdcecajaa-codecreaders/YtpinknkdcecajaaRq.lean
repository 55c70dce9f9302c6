/- Contracts of the Reader's five calls: each answers what stands at its place and goes behind it, or keeps the error and its place. -/
import Derived.Test.YtpinknkdcecajaaRm
import Derived.Test.YtpinknkdcecajaaRk
namespace Go.Proofs.Ytpinknkdcecajaa.Rq
open Go.ChangeShapes Go.WideShapes Go.ChangeAt Go.RowKit
open Go.Proofs.Ytpinknkdcecajaa.Rd (Bytes ret_int addr_add)
open Go.Proofs.Ytpinknkdcecajaa.Wr
open Go.Proofs.Ytpinknkdcecajaa.Rt
open Go.Proofs.Ytpinknkdcecajaa.Rr
open Go.Proofs.Ytpinknkdcecajaa.Rm
open Go.Proofs.Ytpinknkdcecajaa.Rk
set_option linter.unusedVariables false

/-- What each call tells, and the place and the error behind it. -/
def sV (zs : List Int) (p er : Int) : Int × Int × Int := if er ≠ 0 then (0, p, er) else if (Vb.vread zs p).2.2 = 0 then ((Vb.vread zs p).1, (Vb.vread zs p).2.1, 0) else (0, p, (Vb.vread zs p).2.2)
def sF (n : Nat) (zs : List Int) (p er : Int) : Int × Int × Int := if er ≠ 0 then (0, p, er) else if (Fx.fread zs p n).2.2 = 0 then ((Fx.fread zs p n).1, (Fx.fread zs p n).2.1, 0) else (0, p, (Fx.fread zs p n).2.2)
def sN (most : Int) (zs : List Int) (p er : Int) : Int × Int × Int := if er ≠ 0 then (0, p, er) else if (Vb.vread zs p).2.2 ≠ 0 then (0, p, (Vb.vread zs p).2.2) else if most < 0 ∨ most < (Vb.vread zs p).1 then (0, p, 3) else ((Vb.vread zs p).1, (Vb.vread zs p).2.1, 0)
def sT (most : Int) (zs : List Int) (p er : Int) : List Int × Int × Int := if er ≠ 0 then ([], p, er) else if (Vb.vread zs p).2.2 ≠ 0 then ([], p, (Vb.vread zs p).2.2) else if most < 0 ∨ most < (Vb.vread zs p).1 then ([], p, 3) else if (zs.length : Int) - (Vb.vread zs p).2.1 < (Vb.vread zs p).1 then ([], p, 10) else ((zs.drop (Vb.vread zs p).2.1.toNat).take (Vb.vread zs p).1.toNat, (Vb.vread zs p).2.1 + (Vb.vread zs p).1, 0)
theorem fread_err (zs : List Int) (p : Int) (n : Nat) (h : (Fx.fread zs p n).2.2 ≠ 0) : (Fx.fread zs p n).1 = 0 ∧ (Fx.fread zs p n).2.1 = 0 := by
  unfold Fx.fread at h ⊢
  split at h
  · rename_i h1; rw [if_pos h1]; simp
  · rename_i h1; rw [if_neg h1]
    split at h
    · rename_i h2; rw [if_pos h2]; simp
    · simp at h
theorem trip {a : Type} (t : a × Int × Int) {x : a} {y z : Int} (h1 : t.1 = x) (h2 : t.2.1 = y) (h3 : t.2.2 = z) : t = (x, y, z) := by
  obtain ⟨a, b, c⟩ := t
  simp only at h1 h2 h3
  rw [h1, h2, h3]

theorem clos_V_ok (bx r g len : Nat) (zs : List Int) (p x q : Int) (W : World) (hb : W.cell? ⟨bx, 0, none⟩ = some (.pointer (some ⟨r, 0, none⟩))) (A : At W r (.slice (some ⟨g, 0, none⟩) len len) p 0) (H : Bytes W (some ⟨g, 0, none⟩) len len zs) (hl : len ≤ 281474976710656) (hv : Vb.vread zs p = (x, q, 0)) :
    Calls Try.prog 52 #[.pointer (some ⟨bx, 0, none⟩)] W fun e W' => e = .returned (.int .u64 x) ∧ At W' r (.slice (some ⟨g, 0, none⟩) len len) q 0 ∧ W.grownBy W' (some r) := by
  have HT := hid (take64_ok r g len zs p x q W A H hl hv)
  clear A H
  go_enter Try.func52, Try.ntmps52
  go_wp2_with fail
  refine HT.out.mono ?_
  rintro e W1 ⟨rfl, A1, g1⟩
  have HA := hid A1
  have HG := hid g1
  clear A1 g1 HT
  go_wp2
  go_ret
  exact ⟨rfl, HA.out, HG.out⟩
set_option maxHeartbeats 1000000 in
theorem m_V_ok (r g len : Nat) (zs : List Int) (p x q : Int) (W : World) (A : At W r (.slice (some ⟨g, 0, none⟩) len len) p 0) (H : Bytes W (some ⟨g, 0, none⟩) len len zs) (hl : len ≤ 281474976710656) (hgr : g ≠ r) (hv : Vb.vread zs p = (x, q, 0)) :
    Calls Try.prog 36 #[.pointer (some ⟨r, 0, none⟩)] W fun e W' => e = .returned (.int .u64 x) ∧ At W' r (.slice (some ⟨g, 0, none⟩) len len) q 0 ∧ W.grownBy W' (some r) := by
  have hmf : ∀ (fn : Fn) (first cap : Array Value) (w : World), (Instr.makeFunc fn first cap).run Try.prog w = .ok (.func fn first cap) w := fun _ _ _ _ => rfl
  have HA := hid A
  have HH := hid H
  have hlt := A.lt
  clear A H
  go_enter Try.func36, Try.ntmps36
  go_wp2_with fail
  refine (whole_ok_V r _ p q x (W.heap.size) _ (HA.out.kept (World.grownBy_alloc _ _ none) (by simp)) ?hc).mono ?_
  case hc =>
    intro W1 A1 g1
    exact clos_V_ok W.heap.size r g len zs p x q W1 (g1.cell (by simp [go_sem]) (by simp)) A1 (bytes_grown HH.out (grown_trans (World.grownBy_alloc _ _ none) g1) (by simp)) hl hv
  rintro e W' ⟨rfl, A', g'⟩
  have HA' := hid A'
  have HG' := hid (grown_trans (World.grownBy_alloc _ _ (some r)) g')
  clear A' g'
  go_wp2_with fail
  go_ret
  exact ⟨rfl, HA'.out, HG'.out⟩
theorem clos_V_err (bx r g len : Nat) (zs : List Int) (p er : Int) (W : World) (hb : W.cell? ⟨bx, 0, none⟩ = some (.pointer (some ⟨r, 0, none⟩))) (A : At W r (.slice (some ⟨g, 0, none⟩) len len) p 0) (H : Bytes W (some ⟨g, 0, none⟩) len len zs) (hl : len ≤ 281474976710656) (hv : Vb.vread zs p = (0, 0, er)) (he : (er == 0) = false) :
    Calls Try.prog 52 #[.pointer (some ⟨bx, 0, none⟩)] W fun e W' => e = .panicked [{ v := .iface 37 (.int .i64 er), recovered := false }] ∧ At W' r (.slice (some ⟨g, 0, none⟩) len len) p 0 ∧ W.grownBy W' (some r) := by
  have HT := hid (take64_err r g len zs p er W A H hl hv he)
  clear A H
  go_enter Try.func52, Try.ntmps52
  go_wp2_with fail
  refine HT.out.mono ?_
  rintro e W1 ⟨rfl, A1, g1⟩
  have HA := hid A1
  have HG := hid g1
  clear A1 g1 HT
  go_wp2
  exact ⟨rfl, rfl, HA.out, HG.out⟩
set_option maxHeartbeats 1000000 in
theorem m_V_err (r g len : Nat) (zs : List Int) (p er : Int) (W : World) (A : At W r (.slice (some ⟨g, 0, none⟩) len len) p 0) (H : Bytes W (some ⟨g, 0, none⟩) len len zs) (hl : len ≤ 281474976710656) (hgr : g ≠ r) (hv : Vb.vread zs p = (0, 0, er)) (he : (er == 0) = false) :
    Calls Try.prog 36 #[.pointer (some ⟨r, 0, none⟩)] W fun e W' => e = .returned (.int .u64 0) ∧ At W' r (.slice (some ⟨g, 0, none⟩) len len) p er ∧ W.grownBy W' (some r) := by
  have hmf : ∀ (fn : Fn) (first cap : Array Value) (w : World), (Instr.makeFunc fn first cap).run Try.prog w = .ok (.func fn first cap) w := fun _ _ _ _ => rfl
  have HA := hid A
  have HH := hid H
  have hlt := A.lt
  clear A H
  go_enter Try.func36, Try.ntmps36
  go_wp2_with fail
  refine (whole_err_V r _ p p er (W.heap.size) _ (HA.out.kept (World.grownBy_alloc _ _ none) (by simp)) ?hc).mono ?_
  case hc =>
    intro W1 A1 g1
    exact clos_V_err W.heap.size r g len zs p er W1 (g1.cell (by simp [go_sem]) (by simp)) A1 (bytes_grown HH.out (grown_trans (World.grownBy_alloc _ _ none) g1) (by simp)) hl hv he
  rintro e W' ⟨rfl, A', g'⟩
  have HA' := hid A'
  have HG' := hid (grown_trans (World.grownBy_alloc _ _ (some r)) g')
  clear A' g'
  go_wp2_with fail
  go_ret
  exact ⟨rfl, HA'.out, HG'.out⟩
theorem m_V_stay (r : Nat) (sl : Value) (p er : Int) (W : World) (A : At W r sl p er) (he : (er == 0) = false) :
    Calls Try.prog 36 #[.pointer (some ⟨r, 0, none⟩)] W fun e W' => e = .returned (.int .u64 0) ∧ At W' r sl p er ∧ W.grownBy W' (some r) := by
  have hmf : ∀ (fn : Fn) (first cap : Array Value) (w : World), (Instr.makeFunc fn first cap).run Try.prog w = .ok (.func fn first cap) w := fun _ _ _ _ => rfl
  have HA := hid A
  have hlt := A.lt
  clear A
  go_enter Try.func36, Try.ntmps36
  go_wp2_with fail
  refine (whole_stay_51 r _ p er _ _ (HA.out.kept (World.grownBy_alloc _ _ none) (by simp)) he).mono ?_
  rintro e W' ⟨rfl, A', g'⟩
  have HA' := hid A'
  have HG' := hid (grown_trans (World.grownBy_alloc _ _ (some r)) g')
  clear A' g'
  go_wp2_with fail
  go_ret
  exact ⟨rfl, HA'.out, HG'.out⟩
theorem clos_F64_ok (bx r g len : Nat) (zs : List Int) (p x q : Int) (W : World) (hb : W.cell? ⟨bx, 0, none⟩ = some (.pointer (some ⟨r, 0, none⟩))) (A : At W r (.slice (some ⟨g, 0, none⟩) len len) p 0) (H : Bytes W (some ⟨g, 0, none⟩) len len zs) (hl : len ≤ 281474976710656) (hv : Fx.fread zs p 8 = (x, q, 0)) :
    Calls Try.prog 61 #[.pointer (some ⟨bx, 0, none⟩)] W fun e W' => e = .returned (.int .u64 x) ∧ At W' r (.slice (some ⟨g, 0, none⟩) len len) q 0 ∧ W.grownBy W' (some r) := by
  have HT := hid (takeF64_ok r g len zs p x q W A H hl hv)
  clear A H
  go_enter Try.func61, Try.ntmps61
  go_wp2_with fail
  refine HT.out.mono ?_
  rintro e W1 ⟨rfl, A1, g1⟩
  have HA := hid A1
  have HG := hid g1
  clear A1 g1 HT
  go_wp2
  go_ret
  exact ⟨rfl, HA.out, HG.out⟩
set_option maxHeartbeats 1000000 in
theorem m_F64_ok (r g len : Nat) (zs : List Int) (p x q : Int) (W : World) (A : At W r (.slice (some ⟨g, 0, none⟩) len len) p 0) (H : Bytes W (some ⟨g, 0, none⟩) len len zs) (hl : len ≤ 281474976710656) (hgr : g ≠ r) (hv : Fx.fread zs p 8 = (x, q, 0)) :
    Calls Try.prog 42 #[.pointer (some ⟨r, 0, none⟩)] W fun e W' => e = .returned (.int .u64 x) ∧ At W' r (.slice (some ⟨g, 0, none⟩) len len) q 0 ∧ W.grownBy W' (some r) := by
  have hmf : ∀ (fn : Fn) (first cap : Array Value) (w : World), (Instr.makeFunc fn first cap).run Try.prog w = .ok (.func fn first cap) w := fun _ _ _ _ => rfl
  have HA := hid A
  have HH := hid H
  have hlt := A.lt
  clear A H
  go_enter Try.func42, Try.ntmps42
  go_wp2_with fail
  refine (whole_ok_F64 r _ p q x (W.heap.size) _ (HA.out.kept (World.grownBy_alloc _ _ none) (by simp)) ?hc).mono ?_
  case hc =>
    intro W1 A1 g1
    exact clos_F64_ok W.heap.size r g len zs p x q W1 (g1.cell (by simp [go_sem]) (by simp)) A1 (bytes_grown HH.out (grown_trans (World.grownBy_alloc _ _ none) g1) (by simp)) hl hv
  rintro e W' ⟨rfl, A', g'⟩
  have HA' := hid A'
  have HG' := hid (grown_trans (World.grownBy_alloc _ _ (some r)) g')
  clear A' g'
  go_wp2_with fail
  go_ret
  exact ⟨rfl, HA'.out, HG'.out⟩
theorem clos_F64_err (bx r g len : Nat) (zs : List Int) (p er : Int) (W : World) (hb : W.cell? ⟨bx, 0, none⟩ = some (.pointer (some ⟨r, 0, none⟩))) (A : At W r (.slice (some ⟨g, 0, none⟩) len len) p 0) (H : Bytes W (some ⟨g, 0, none⟩) len len zs) (hl : len ≤ 281474976710656) (hv : Fx.fread zs p 8 = (0, 0, er)) (he : (er == 0) = false) :
    Calls Try.prog 61 #[.pointer (some ⟨bx, 0, none⟩)] W fun e W' => e = .panicked [{ v := .iface 37 (.int .i64 er), recovered := false }] ∧ At W' r (.slice (some ⟨g, 0, none⟩) len len) p 0 ∧ W.grownBy W' (some r) := by
  have HT := hid (takeF64_err r g len zs p er W A H hl hv he)
  clear A H
  go_enter Try.func61, Try.ntmps61
  go_wp2_with fail
  refine HT.out.mono ?_
  rintro e W1 ⟨rfl, A1, g1⟩
  have HA := hid A1
  have HG := hid g1
  clear A1 g1 HT
  go_wp2
  exact ⟨rfl, rfl, HA.out, HG.out⟩
set_option maxHeartbeats 1000000 in
theorem m_F64_err (r g len : Nat) (zs : List Int) (p er : Int) (W : World) (A : At W r (.slice (some ⟨g, 0, none⟩) len len) p 0) (H : Bytes W (some ⟨g, 0, none⟩) len len zs) (hl : len ≤ 281474976710656) (hgr : g ≠ r) (hv : Fx.fread zs p 8 = (0, 0, er)) (he : (er == 0) = false) :
    Calls Try.prog 42 #[.pointer (some ⟨r, 0, none⟩)] W fun e W' => e = .returned (.int .u64 0) ∧ At W' r (.slice (some ⟨g, 0, none⟩) len len) p er ∧ W.grownBy W' (some r) := by
  have hmf : ∀ (fn : Fn) (first cap : Array Value) (w : World), (Instr.makeFunc fn first cap).run Try.prog w = .ok (.func fn first cap) w := fun _ _ _ _ => rfl
  have HA := hid A
  have HH := hid H
  have hlt := A.lt
  clear A H
  go_enter Try.func42, Try.ntmps42
  go_wp2_with fail
  refine (whole_err_F64 r _ p p er (W.heap.size) _ (HA.out.kept (World.grownBy_alloc _ _ none) (by simp)) ?hc).mono ?_
  case hc =>
    intro W1 A1 g1
    exact clos_F64_err W.heap.size r g len zs p er W1 (g1.cell (by simp [go_sem]) (by simp)) A1 (bytes_grown HH.out (grown_trans (World.grownBy_alloc _ _ none) g1) (by simp)) hl hv he
  rintro e W' ⟨rfl, A', g'⟩
  have HA' := hid A'
  have HG' := hid (grown_trans (World.grownBy_alloc _ _ (some r)) g')
  clear A' g'
  go_wp2_with fail
  go_ret
  exact ⟨rfl, HA'.out, HG'.out⟩
theorem m_F64_stay (r : Nat) (sl : Value) (p er : Int) (W : World) (A : At W r sl p er) (he : (er == 0) = false) :
    Calls Try.prog 42 #[.pointer (some ⟨r, 0, none⟩)] W fun e W' => e = .returned (.int .u64 0) ∧ At W' r sl p er ∧ W.grownBy W' (some r) := by
  have hmf : ∀ (fn : Fn) (first cap : Array Value) (w : World), (Instr.makeFunc fn first cap).run Try.prog w = .ok (.func fn first cap) w := fun _ _ _ _ => rfl
  have HA := hid A
  have hlt := A.lt
  clear A
  go_enter Try.func42, Try.ntmps42
  go_wp2_with fail
  refine (whole_stay_51 r _ p er _ _ (HA.out.kept (World.grownBy_alloc _ _ none) (by simp)) he).mono ?_
  rintro e W' ⟨rfl, A', g'⟩
  have HA' := hid A'
  have HG' := hid (grown_trans (World.grownBy_alloc _ _ (some r)) g')
  clear A' g'
  go_wp2_with fail
  go_ret
  exact ⟨rfl, HA'.out, HG'.out⟩
theorem clos_F32_ok (bx r g len : Nat) (zs : List Int) (p x q : Int) (W : World) (hb : W.cell? ⟨bx, 0, none⟩ = some (.pointer (some ⟨r, 0, none⟩))) (A : At W r (.slice (some ⟨g, 0, none⟩) len len) p 0) (H : Bytes W (some ⟨g, 0, none⟩) len len zs) (hl : len ≤ 281474976710656) (hv : Fx.fread zs p 4 = (x, q, 0)) :
    Calls Try.prog 59 #[.pointer (some ⟨bx, 0, none⟩)] W fun e W' => e = .returned (.int .u32 x) ∧ At W' r (.slice (some ⟨g, 0, none⟩) len len) q 0 ∧ W.grownBy W' (some r) := by
  have HT := hid (takeF32_ok r g len zs p x q W A H hl hv)
  clear A H
  go_enter Try.func59, Try.ntmps59
  go_wp2_with fail
  refine HT.out.mono ?_
  rintro e W1 ⟨rfl, A1, g1⟩
  have HA := hid A1
  have HG := hid g1
  clear A1 g1 HT
  go_wp2
  go_ret
  exact ⟨rfl, HA.out, HG.out⟩
set_option maxHeartbeats 1000000 in
theorem m_F32_ok (r g len : Nat) (zs : List Int) (p x q : Int) (W : World) (A : At W r (.slice (some ⟨g, 0, none⟩) len len) p 0) (H : Bytes W (some ⟨g, 0, none⟩) len len zs) (hl : len ≤ 281474976710656) (hgr : g ≠ r) (hv : Fx.fread zs p 4 = (x, q, 0)) :
    Calls Try.prog 40 #[.pointer (some ⟨r, 0, none⟩)] W fun e W' => e = .returned (.int .u32 x) ∧ At W' r (.slice (some ⟨g, 0, none⟩) len len) q 0 ∧ W.grownBy W' (some r) := by
  have hmf : ∀ (fn : Fn) (first cap : Array Value) (w : World), (Instr.makeFunc fn first cap).run Try.prog w = .ok (.func fn first cap) w := fun _ _ _ _ => rfl
  have HA := hid A
  have HH := hid H
  have hlt := A.lt
  clear A H
  go_enter Try.func40, Try.ntmps40
  go_wp2_with fail
  refine (whole_ok_F32 r _ p q x (W.heap.size) _ (HA.out.kept (World.grownBy_alloc _ _ none) (by simp)) ?hc).mono ?_
  case hc =>
    intro W1 A1 g1
    exact clos_F32_ok W.heap.size r g len zs p x q W1 (g1.cell (by simp [go_sem]) (by simp)) A1 (bytes_grown HH.out (grown_trans (World.grownBy_alloc _ _ none) g1) (by simp)) hl hv
  rintro e W' ⟨rfl, A', g'⟩
  have HA' := hid A'
  have HG' := hid (grown_trans (World.grownBy_alloc _ _ (some r)) g')
  clear A' g'
  go_wp2_with fail
  go_ret
  exact ⟨rfl, HA'.out, HG'.out⟩
theorem clos_F32_err (bx r g len : Nat) (zs : List Int) (p er : Int) (W : World) (hb : W.cell? ⟨bx, 0, none⟩ = some (.pointer (some ⟨r, 0, none⟩))) (A : At W r (.slice (some ⟨g, 0, none⟩) len len) p 0) (H : Bytes W (some ⟨g, 0, none⟩) len len zs) (hl : len ≤ 281474976710656) (hv : Fx.fread zs p 4 = (0, 0, er)) (he : (er == 0) = false) :
    Calls Try.prog 59 #[.pointer (some ⟨bx, 0, none⟩)] W fun e W' => e = .panicked [{ v := .iface 37 (.int .i64 er), recovered := false }] ∧ At W' r (.slice (some ⟨g, 0, none⟩) len len) p 0 ∧ W.grownBy W' (some r) := by
  have HT := hid (takeF32_err r g len zs p er W A H hl hv he)
  clear A H
  go_enter Try.func59, Try.ntmps59
  go_wp2_with fail
  refine HT.out.mono ?_
  rintro e W1 ⟨rfl, A1, g1⟩
  have HA := hid A1
  have HG := hid g1
  clear A1 g1 HT
  go_wp2
  exact ⟨rfl, rfl, HA.out, HG.out⟩
set_option maxHeartbeats 1000000 in
theorem m_F32_err (r g len : Nat) (zs : List Int) (p er : Int) (W : World) (A : At W r (.slice (some ⟨g, 0, none⟩) len len) p 0) (H : Bytes W (some ⟨g, 0, none⟩) len len zs) (hl : len ≤ 281474976710656) (hgr : g ≠ r) (hv : Fx.fread zs p 4 = (0, 0, er)) (he : (er == 0) = false) :
    Calls Try.prog 40 #[.pointer (some ⟨r, 0, none⟩)] W fun e W' => e = .returned (.int .u32 0) ∧ At W' r (.slice (some ⟨g, 0, none⟩) len len) p er ∧ W.grownBy W' (some r) := by
  have hmf : ∀ (fn : Fn) (first cap : Array Value) (w : World), (Instr.makeFunc fn first cap).run Try.prog w = .ok (.func fn first cap) w := fun _ _ _ _ => rfl
  have HA := hid A
  have HH := hid H
  have hlt := A.lt
  clear A H
  go_enter Try.func40, Try.ntmps40
  go_wp2_with fail
  refine (whole_err_F32 r _ p p er (W.heap.size) _ (HA.out.kept (World.grownBy_alloc _ _ none) (by simp)) ?hc).mono ?_
  case hc =>
    intro W1 A1 g1
    exact clos_F32_err W.heap.size r g len zs p er W1 (g1.cell (by simp [go_sem]) (by simp)) A1 (bytes_grown HH.out (grown_trans (World.grownBy_alloc _ _ none) g1) (by simp)) hl hv he
  rintro e W' ⟨rfl, A', g'⟩
  have HA' := hid A'
  have HG' := hid (grown_trans (World.grownBy_alloc _ _ (some r)) g')
  clear A' g'
  go_wp2_with fail
  go_ret
  exact ⟨rfl, HA'.out, HG'.out⟩
theorem m_F32_stay (r : Nat) (sl : Value) (p er : Int) (W : World) (A : At W r sl p er) (he : (er == 0) = false) :
    Calls Try.prog 40 #[.pointer (some ⟨r, 0, none⟩)] W fun e W' => e = .returned (.int .u32 0) ∧ At W' r sl p er ∧ W.grownBy W' (some r) := by
  have hmf : ∀ (fn : Fn) (first cap : Array Value) (w : World), (Instr.makeFunc fn first cap).run Try.prog w = .ok (.func fn first cap) w := fun _ _ _ _ => rfl
  have HA := hid A
  have hlt := A.lt
  clear A
  go_enter Try.func40, Try.ntmps40
  go_wp2_with fail
  refine (whole_stay_58 r _ p er _ _ (HA.out.kept (World.grownBy_alloc _ _ none) (by simp)) he).mono ?_
  rintro e W' ⟨rfl, A', g'⟩
  have HA' := hid A'
  have HG' := hid (grown_trans (World.grownBy_alloc _ _ (some r)) g')
  clear A' g'
  go_wp2_with fail
  go_ret
  exact ⟨rfl, HA'.out, HG'.out⟩
theorem clos_N_ok (bx bm r g len : Nat) (zs : List Int) (p q most : Int) (x : Nat) (W : World) (hb : W.cell? ⟨bx, 0, none⟩ = some (.pointer (some ⟨r, 0, none⟩))) (hb2 : W.cell? ⟨bm, 0, none⟩ = some (.int .i64 most)) (A : At W r (.slice (some ⟨g, 0, none⟩) len len) p 0) (H : Bytes W (some ⟨g, 0, none⟩) len len zs) (hl : len ≤ 281474976710656) (hv : Vb.vread zs p = ((x : Int), q, 0)) (hm : (x : Int) ≤ most) (hm2 : most ≤ 9223372036854775807) :
    Calls Try.prog 56 #[.pointer (some ⟨bx, 0, none⟩), .pointer (some ⟨bm, 0, none⟩)] W fun e W' => e = .returned (.int .i64 x) ∧ At W' r (.slice (some ⟨g, 0, none⟩) len len) q 0 ∧ W.grownBy W' (some r) := by
  have HT := hid (tn_ok r g len zs p q most x W A H hl hv hm hm2)
  clear A H
  go_enter Try.func56, Try.ntmps56
  go_wp2_with fail
  refine HT.out.mono ?_
  rintro e W1 ⟨rfl, A1, g1⟩
  have HA := hid A1
  have HG := hid g1
  clear A1 g1 HT
  go_wp2
  go_ret
  exact ⟨rfl, HA.out, HG.out⟩
set_option maxHeartbeats 1000000 in
theorem m_N_ok (r g len : Nat) (zs : List Int) (p q most : Int) (x : Nat) (W : World) (A : At W r (.slice (some ⟨g, 0, none⟩) len len) p 0) (H : Bytes W (some ⟨g, 0, none⟩) len len zs) (hl : len ≤ 281474976710656) (hgr : g ≠ r) (hv : Vb.vread zs p = ((x : Int), q, 0)) (hm : (x : Int) ≤ most) (hm2 : most ≤ 9223372036854775807) :
    Calls Try.prog 38 #[.pointer (some ⟨r, 0, none⟩), .int .i64 most] W fun e W' => e = .returned (.int .i64 x) ∧ At W' r (.slice (some ⟨g, 0, none⟩) len len) q 0 ∧ W.grownBy W' (some r) := by
  have hmf : ∀ (fn : Fn) (first cap : Array Value) (w : World), (Instr.makeFunc fn first cap).run Try.prog w = .ok (.func fn first cap) w := fun _ _ _ _ => rfl
  have HA := hid A
  have HH := hid H
  have hlt := A.lt
  clear A H
  go_enter Try.func38, Try.ntmps38
  go_wp2_with fail
  refine (whole_ok_N r _ p q x (W.heap.size) (W.heap.size + 1) _ (HA.out.kept (grown_trans (World.grownBy_alloc _ _ none) (World.grownBy_alloc _ _ none)) (by simp)) ?hc).mono ?_
  case hc =>
    intro W1 A1 g1
    exact clos_N_ok W.heap.size (W.heap.size + 1) r g len zs p q most x W1 (g1.cell (by simp [go_sem]) (by simp)) (g1.cell (by simp [go_sem]) (by simp)) A1 (bytes_grown HH.out (grown_trans (World.grownBy_alloc _ _ none) (grown_trans (World.grownBy_alloc _ _ none) g1)) (by simp)) hl hv hm hm2
  rintro e W' ⟨rfl, A', g'⟩
  have HA' := hid A'
  have HG' := hid (grown_trans (grown_trans (World.grownBy_alloc _ _ (some r)) (World.grownBy_alloc _ _ (some r))) g')
  clear A' g'
  go_wp2_with fail
  go_ret
  exact ⟨rfl, HA'.out, HG'.out⟩
theorem clos_N_big (bx bm r g len : Nat) (zs : List Int) (p q most x : Int) (W : World) (hb : W.cell? ⟨bx, 0, none⟩ = some (.pointer (some ⟨r, 0, none⟩))) (hb2 : W.cell? ⟨bm, 0, none⟩ = some (.int .i64 most)) (A : At W r (.slice (some ⟨g, 0, none⟩) len len) p 0) (H : Bytes W (some ⟨g, 0, none⟩) len len zs) (hl : len ≤ 281474976710656) (hv : Vb.vread zs p = (x, q, 0)) (hm : most < 0 ∨ most < x) (hm2 : -9223372036854775808 ≤ most ∧ most ≤ 9223372036854775807) :
    Calls Try.prog 56 #[.pointer (some ⟨bx, 0, none⟩), .pointer (some ⟨bm, 0, none⟩)] W fun e W' => e = .panicked [{ v := .iface 37 (.int .i64 3), recovered := false }] ∧ At W' r (.slice (some ⟨g, 0, none⟩) len len) q 0 ∧ W.grownBy W' (some r) := by
  have HT := hid (tn_big r g len zs p q most x W A H hl hv hm hm2)
  clear A H
  go_enter Try.func56, Try.ntmps56
  go_wp2_with fail
  refine HT.out.mono ?_
  rintro e W1 ⟨rfl, A1, g1⟩
  have HA := hid A1
  have HG := hid g1
  clear A1 g1 HT
  go_wp2
  exact ⟨rfl, rfl, HA.out, HG.out⟩
set_option maxHeartbeats 1000000 in
theorem m_N_big (r g len : Nat) (zs : List Int) (p q most x : Int) (W : World) (A : At W r (.slice (some ⟨g, 0, none⟩) len len) p 0) (H : Bytes W (some ⟨g, 0, none⟩) len len zs) (hl : len ≤ 281474976710656) (hgr : g ≠ r) (hv : Vb.vread zs p = (x, q, 0)) (hm : most < 0 ∨ most < x) (hm2 : -9223372036854775808 ≤ most ∧ most ≤ 9223372036854775807) :
    Calls Try.prog 38 #[.pointer (some ⟨r, 0, none⟩), .int .i64 most] W fun e W' => e = .returned (.int .i64 0) ∧ At W' r (.slice (some ⟨g, 0, none⟩) len len) p 3 ∧ W.grownBy W' (some r) := by
  have hmf : ∀ (fn : Fn) (first cap : Array Value) (w : World), (Instr.makeFunc fn first cap).run Try.prog w = .ok (.func fn first cap) w := fun _ _ _ _ => rfl
  have HA := hid A
  have HH := hid H
  have hlt := A.lt
  clear A H
  go_enter Try.func38, Try.ntmps38
  go_wp2_with fail
  refine (whole_err_N r _ p q 3 (W.heap.size) (W.heap.size + 1) _ (HA.out.kept (grown_trans (World.grownBy_alloc _ _ none) (World.grownBy_alloc _ _ none)) (by simp)) ?hc).mono ?_
  case hc =>
    intro W1 A1 g1
    exact clos_N_big W.heap.size (W.heap.size + 1) r g len zs p q most x W1 (g1.cell (by simp [go_sem]) (by simp)) (g1.cell (by simp [go_sem]) (by simp)) A1 (bytes_grown HH.out (grown_trans (World.grownBy_alloc _ _ none) (grown_trans (World.grownBy_alloc _ _ none) g1)) (by simp)) hl hv hm hm2
  rintro e W' ⟨rfl, A', g'⟩
  have HA' := hid A'
  have HG' := hid (grown_trans (grown_trans (World.grownBy_alloc _ _ (some r)) (World.grownBy_alloc _ _ (some r))) g')
  clear A' g'
  go_wp2_with fail
  go_ret
  exact ⟨rfl, HA'.out, HG'.out⟩
theorem clos_N_err (bx bm r g len : Nat) (zs : List Int) (p er most : Int) (W : World) (hb : W.cell? ⟨bx, 0, none⟩ = some (.pointer (some ⟨r, 0, none⟩))) (hb2 : W.cell? ⟨bm, 0, none⟩ = some (.int .i64 most)) (A : At W r (.slice (some ⟨g, 0, none⟩) len len) p 0) (H : Bytes W (some ⟨g, 0, none⟩) len len zs) (hl : len ≤ 281474976710656) (hv : Vb.vread zs p = (0, 0, er)) (he : (er == 0) = false) :
    Calls Try.prog 56 #[.pointer (some ⟨bx, 0, none⟩), .pointer (some ⟨bm, 0, none⟩)] W fun e W' => e = .panicked [{ v := .iface 37 (.int .i64 er), recovered := false }] ∧ At W' r (.slice (some ⟨g, 0, none⟩) len len) p 0 ∧ W.grownBy W' (some r) := by
  have HT := hid (tn_err r g len zs p er most W A H hl hv he)
  clear A H
  go_enter Try.func56, Try.ntmps56
  go_wp2_with fail
  refine HT.out.mono ?_
  rintro e W1 ⟨rfl, A1, g1⟩
  have HA := hid A1
  have HG := hid g1
  clear A1 g1 HT
  go_wp2
  exact ⟨rfl, rfl, HA.out, HG.out⟩
set_option maxHeartbeats 1000000 in
theorem m_N_err (r g len : Nat) (zs : List Int) (p er most : Int) (W : World) (A : At W r (.slice (some ⟨g, 0, none⟩) len len) p 0) (H : Bytes W (some ⟨g, 0, none⟩) len len zs) (hl : len ≤ 281474976710656) (hgr : g ≠ r) (hv : Vb.vread zs p = (0, 0, er)) (he : (er == 0) = false) :
    Calls Try.prog 38 #[.pointer (some ⟨r, 0, none⟩), .int .i64 most] W fun e W' => e = .returned (.int .i64 0) ∧ At W' r (.slice (some ⟨g, 0, none⟩) len len) p er ∧ W.grownBy W' (some r) := by
  have hmf : ∀ (fn : Fn) (first cap : Array Value) (w : World), (Instr.makeFunc fn first cap).run Try.prog w = .ok (.func fn first cap) w := fun _ _ _ _ => rfl
  have HA := hid A
  have HH := hid H
  have hlt := A.lt
  clear A H
  go_enter Try.func38, Try.ntmps38
  go_wp2_with fail
  refine (whole_err_N r _ p p er (W.heap.size) (W.heap.size + 1) _ (HA.out.kept (grown_trans (World.grownBy_alloc _ _ none) (World.grownBy_alloc _ _ none)) (by simp)) ?hc).mono ?_
  case hc =>
    intro W1 A1 g1
    exact clos_N_err W.heap.size (W.heap.size + 1) r g len zs p er most W1 (g1.cell (by simp [go_sem]) (by simp)) (g1.cell (by simp [go_sem]) (by simp)) A1 (bytes_grown HH.out (grown_trans (World.grownBy_alloc _ _ none) (grown_trans (World.grownBy_alloc _ _ none) g1)) (by simp)) hl hv he
  rintro e W' ⟨rfl, A', g'⟩
  have HA' := hid A'
  have HG' := hid (grown_trans (grown_trans (World.grownBy_alloc _ _ (some r)) (World.grownBy_alloc _ _ (some r))) g')
  clear A' g'
  go_wp2_with fail
  go_ret
  exact ⟨rfl, HA'.out, HG'.out⟩
theorem m_N_stay (r : Nat) (sl : Value) (most : Int) (p er : Int) (W : World) (A : At W r sl p er) (he : (er == 0) = false) :
    Calls Try.prog 38 #[.pointer (some ⟨r, 0, none⟩), .int .i64 most] W fun e W' => e = .returned (.int .i64 0) ∧ At W' r sl p er ∧ W.grownBy W' (some r) := by
  have hmf : ∀ (fn : Fn) (first cap : Array Value) (w : World), (Instr.makeFunc fn first cap).run Try.prog w = .ok (.func fn first cap) w := fun _ _ _ _ => rfl
  have HA := hid A
  have hlt := A.lt
  clear A
  go_enter Try.func38, Try.ntmps38
  go_wp2_with fail
  refine (whole_stay_55 r _ p er _ _ (HA.out.kept (grown_trans (World.grownBy_alloc _ _ none) (World.grownBy_alloc _ _ none)) (by simp)) he).mono ?_
  rintro e W' ⟨rfl, A', g'⟩
  have HA' := hid A'
  have HG' := hid (grown_trans (grown_trans (World.grownBy_alloc _ _ (some r)) (World.grownBy_alloc _ _ (some r))) g')
  clear A' g'
  go_wp2_with fail
  go_ret
  exact ⟨rfl, HA'.out, HG'.out⟩
theorem clos_T_ok (bx bm r g len : Nat) (zs : List Int) (p most : Int) (q x : Nat) (W : World) (hb : W.cell? ⟨bx, 0, none⟩ = some (.pointer (some ⟨r, 0, none⟩))) (hb2 : W.cell? ⟨bm, 0, none⟩ = some (.int .i64 most)) (A : At W r (.slice (some ⟨g, 0, none⟩) len len) p 0) (H : Bytes W (some ⟨g, 0, none⟩) len len zs) (hl : len ≤ 281474976710656) (hv : Vb.vread zs p = ((x : Int), (q : Int), 0)) (hm : (x : Int) ≤ most) (hm2 : most ≤ 9223372036854775807) (hq : q ≤ len) (hs : ¬ (len : Int) - q < x) (hgr : g ≠ r) :
    Calls Try.prog 63 #[.pointer (some ⟨bx, 0, none⟩), .pointer (some ⟨bm, 0, none⟩)] W fun e W' => e = .returned (.string (str ((zs.drop q).take x))) ∧ At W' r (.slice (some ⟨g, 0, none⟩) len len) ((q : Int) + x) 0 ∧ W.grownBy W' (some r) := by
  have HT := hid (tt_ok r g len zs p most q x W A H hl hv hm hm2 hq hs hgr)
  clear A H
  go_enter Try.func63, Try.ntmps63
  go_wp2_with fail
  refine HT.out.mono ?_
  rintro e W1 ⟨rfl, A1, g1⟩
  have HA := hid A1
  have HG := hid g1
  clear A1 g1 HT
  go_wp2
  go_ret
  exact ⟨rfl, HA.out, HG.out⟩
set_option maxHeartbeats 1000000 in
theorem m_T_ok (r g len : Nat) (zs : List Int) (p most : Int) (q x : Nat) (W : World) (A : At W r (.slice (some ⟨g, 0, none⟩) len len) p 0) (H : Bytes W (some ⟨g, 0, none⟩) len len zs) (hl : len ≤ 281474976710656) (hgr : g ≠ r) (hv : Vb.vread zs p = ((x : Int), (q : Int), 0)) (hm : (x : Int) ≤ most) (hm2 : most ≤ 9223372036854775807) (hq : q ≤ len) (hs : ¬ (len : Int) - q < x) (hgr : g ≠ r) :
    Calls Try.prog 43 #[.pointer (some ⟨r, 0, none⟩), .int .i64 most] W fun e W' => e = .returned (.string (str ((zs.drop q).take x))) ∧ At W' r (.slice (some ⟨g, 0, none⟩) len len) ((q : Int) + x) 0 ∧ W.grownBy W' (some r) := by
  have hmf : ∀ (fn : Fn) (first cap : Array Value) (w : World), (Instr.makeFunc fn first cap).run Try.prog w = .ok (.func fn first cap) w := fun _ _ _ _ => rfl
  have HA := hid A
  have HH := hid H
  have hlt := A.lt
  clear A H
  go_enter Try.func43, Try.ntmps43
  go_wp2_with fail
  refine (whole_ok_T r _ p ((q : Int) + x) (str ((zs.drop q).take x)) (W.heap.size) (W.heap.size + 1) _ (HA.out.kept (grown_trans (World.grownBy_alloc _ _ none) (World.grownBy_alloc _ _ none)) (by simp)) ?hc).mono ?_
  case hc =>
    intro W1 A1 g1
    exact clos_T_ok W.heap.size (W.heap.size + 1) r g len zs p most q x W1 (g1.cell (by simp [go_sem]) (by simp)) (g1.cell (by simp [go_sem]) (by simp)) A1 (bytes_grown HH.out (grown_trans (World.grownBy_alloc _ _ none) (grown_trans (World.grownBy_alloc _ _ none) g1)) (by simp)) hl hv hm hm2 hq (by omega) hgr
  rintro e W' ⟨rfl, A', g'⟩
  have HA' := hid A'
  have HG' := hid (grown_trans (grown_trans (World.grownBy_alloc _ _ (some r)) (World.grownBy_alloc _ _ (some r))) g')
  clear A' g'
  go_wp2_with fail
  go_ret
  exact ⟨rfl, HA'.out, HG'.out⟩
theorem clos_T_short (bx bm r g len : Nat) (zs : List Int) (p most : Int) (q x : Nat) (W : World) (hb : W.cell? ⟨bx, 0, none⟩ = some (.pointer (some ⟨r, 0, none⟩))) (hb2 : W.cell? ⟨bm, 0, none⟩ = some (.int .i64 most)) (A : At W r (.slice (some ⟨g, 0, none⟩) len len) p 0) (H : Bytes W (some ⟨g, 0, none⟩) len len zs) (hl : len ≤ 281474976710656) (hv : Vb.vread zs p = ((x : Int), (q : Int), 0)) (hm : (x : Int) ≤ most) (hm2 : most ≤ 9223372036854775807) (hq : q ≤ len) (hs : (len : Int) - q < x) :
    Calls Try.prog 63 #[.pointer (some ⟨bx, 0, none⟩), .pointer (some ⟨bm, 0, none⟩)] W fun e W' => e = .panicked [{ v := .iface 37 (.int .i64 10), recovered := false }] ∧ At W' r (.slice (some ⟨g, 0, none⟩) len len) q 0 ∧ W.grownBy W' (some r) := by
  have HT := hid (tt_short r g len zs p most q x W A H hl hv hm hm2 hq hs)
  clear A H
  go_enter Try.func63, Try.ntmps63
  go_wp2_with fail
  refine HT.out.mono ?_
  rintro e W1 ⟨rfl, A1, g1⟩
  have HA := hid A1
  have HG := hid g1
  clear A1 g1 HT
  go_wp2
  exact ⟨rfl, rfl, HA.out, HG.out⟩
set_option maxHeartbeats 1000000 in
theorem m_T_short (r g len : Nat) (zs : List Int) (p most : Int) (q x : Nat) (W : World) (A : At W r (.slice (some ⟨g, 0, none⟩) len len) p 0) (H : Bytes W (some ⟨g, 0, none⟩) len len zs) (hl : len ≤ 281474976710656) (hgr : g ≠ r) (hv : Vb.vread zs p = ((x : Int), (q : Int), 0)) (hm : (x : Int) ≤ most) (hm2 : most ≤ 9223372036854775807) (hq : q ≤ len) (hs : (len : Int) - q < x) :
    Calls Try.prog 43 #[.pointer (some ⟨r, 0, none⟩), .int .i64 most] W fun e W' => e = .returned (.string ⟨#[]⟩) ∧ At W' r (.slice (some ⟨g, 0, none⟩) len len) p 10 ∧ W.grownBy W' (some r) := by
  have hmf : ∀ (fn : Fn) (first cap : Array Value) (w : World), (Instr.makeFunc fn first cap).run Try.prog w = .ok (.func fn first cap) w := fun _ _ _ _ => rfl
  have HA := hid A
  have HH := hid H
  have hlt := A.lt
  clear A H
  go_enter Try.func43, Try.ntmps43
  go_wp2_with fail
  refine (whole_err_T r _ p q 10 (W.heap.size) (W.heap.size + 1) _ (HA.out.kept (grown_trans (World.grownBy_alloc _ _ none) (World.grownBy_alloc _ _ none)) (by simp)) ?hc).mono ?_
  case hc =>
    intro W1 A1 g1
    exact clos_T_short W.heap.size (W.heap.size + 1) r g len zs p most q x W1 (g1.cell (by simp [go_sem]) (by simp)) (g1.cell (by simp [go_sem]) (by simp)) A1 (bytes_grown HH.out (grown_trans (World.grownBy_alloc _ _ none) (grown_trans (World.grownBy_alloc _ _ none) g1)) (by simp)) hl hv hm hm2 hq hs
  rintro e W' ⟨rfl, A', g'⟩
  have HA' := hid A'
  have HG' := hid (grown_trans (grown_trans (World.grownBy_alloc _ _ (some r)) (World.grownBy_alloc _ _ (some r))) g')
  clear A' g'
  go_wp2_with fail
  go_ret
  exact ⟨rfl, HA'.out, HG'.out⟩
theorem clos_T_big (bx bm r g len : Nat) (zs : List Int) (p q most x : Int) (W : World) (hb : W.cell? ⟨bx, 0, none⟩ = some (.pointer (some ⟨r, 0, none⟩))) (hb2 : W.cell? ⟨bm, 0, none⟩ = some (.int .i64 most)) (A : At W r (.slice (some ⟨g, 0, none⟩) len len) p 0) (H : Bytes W (some ⟨g, 0, none⟩) len len zs) (hl : len ≤ 281474976710656) (hv : Vb.vread zs p = (x, q, 0)) (hm : most < 0 ∨ most < x) (hm2 : -9223372036854775808 ≤ most ∧ most ≤ 9223372036854775807) :
    Calls Try.prog 63 #[.pointer (some ⟨bx, 0, none⟩), .pointer (some ⟨bm, 0, none⟩)] W fun e W' => e = .panicked [{ v := .iface 37 (.int .i64 3), recovered := false }] ∧ At W' r (.slice (some ⟨g, 0, none⟩) len len) q 0 ∧ W.grownBy W' (some r) := by
  have HT := hid (tt_big r g len zs p q most x W A H hl hv hm hm2)
  clear A H
  go_enter Try.func63, Try.ntmps63
  go_wp2_with fail
  refine HT.out.mono ?_
  rintro e W1 ⟨rfl, A1, g1⟩
  have HA := hid A1
  have HG := hid g1
  clear A1 g1 HT
  go_wp2
  exact ⟨rfl, rfl, HA.out, HG.out⟩
set_option maxHeartbeats 1000000 in
theorem m_T_big (r g len : Nat) (zs : List Int) (p q most x : Int) (W : World) (A : At W r (.slice (some ⟨g, 0, none⟩) len len) p 0) (H : Bytes W (some ⟨g, 0, none⟩) len len zs) (hl : len ≤ 281474976710656) (hgr : g ≠ r) (hv : Vb.vread zs p = (x, q, 0)) (hm : most < 0 ∨ most < x) (hm2 : -9223372036854775808 ≤ most ∧ most ≤ 9223372036854775807) :
    Calls Try.prog 43 #[.pointer (some ⟨r, 0, none⟩), .int .i64 most] W fun e W' => e = .returned (.string ⟨#[]⟩) ∧ At W' r (.slice (some ⟨g, 0, none⟩) len len) p 3 ∧ W.grownBy W' (some r) := by
  have hmf : ∀ (fn : Fn) (first cap : Array Value) (w : World), (Instr.makeFunc fn first cap).run Try.prog w = .ok (.func fn first cap) w := fun _ _ _ _ => rfl
  have HA := hid A
  have HH := hid H
  have hlt := A.lt
  clear A H
  go_enter Try.func43, Try.ntmps43
  go_wp2_with fail
  refine (whole_err_T r _ p q 3 (W.heap.size) (W.heap.size + 1) _ (HA.out.kept (grown_trans (World.grownBy_alloc _ _ none) (World.grownBy_alloc _ _ none)) (by simp)) ?hc).mono ?_
  case hc =>
    intro W1 A1 g1
    exact clos_T_big W.heap.size (W.heap.size + 1) r g len zs p q most x W1 (g1.cell (by simp [go_sem]) (by simp)) (g1.cell (by simp [go_sem]) (by simp)) A1 (bytes_grown HH.out (grown_trans (World.grownBy_alloc _ _ none) (grown_trans (World.grownBy_alloc _ _ none) g1)) (by simp)) hl hv hm hm2
  rintro e W' ⟨rfl, A', g'⟩
  have HA' := hid A'
  have HG' := hid (grown_trans (grown_trans (World.grownBy_alloc _ _ (some r)) (World.grownBy_alloc _ _ (some r))) g')
  clear A' g'
  go_wp2_with fail
  go_ret
  exact ⟨rfl, HA'.out, HG'.out⟩
theorem clos_T_err (bx bm r g len : Nat) (zs : List Int) (p er most : Int) (W : World) (hb : W.cell? ⟨bx, 0, none⟩ = some (.pointer (some ⟨r, 0, none⟩))) (hb2 : W.cell? ⟨bm, 0, none⟩ = some (.int .i64 most)) (A : At W r (.slice (some ⟨g, 0, none⟩) len len) p 0) (H : Bytes W (some ⟨g, 0, none⟩) len len zs) (hl : len ≤ 281474976710656) (hv : Vb.vread zs p = (0, 0, er)) (he : (er == 0) = false) :
    Calls Try.prog 63 #[.pointer (some ⟨bx, 0, none⟩), .pointer (some ⟨bm, 0, none⟩)] W fun e W' => e = .panicked [{ v := .iface 37 (.int .i64 er), recovered := false }] ∧ At W' r (.slice (some ⟨g, 0, none⟩) len len) p 0 ∧ W.grownBy W' (some r) := by
  have HT := hid (tt_err r g len zs p er most W A H hl hv he)
  clear A H
  go_enter Try.func63, Try.ntmps63
  go_wp2_with fail
  refine HT.out.mono ?_
  rintro e W1 ⟨rfl, A1, g1⟩
  have HA := hid A1
  have HG := hid g1
  clear A1 g1 HT
  go_wp2
  exact ⟨rfl, rfl, HA.out, HG.out⟩
set_option maxHeartbeats 1000000 in
theorem m_T_err (r g len : Nat) (zs : List Int) (p er most : Int) (W : World) (A : At W r (.slice (some ⟨g, 0, none⟩) len len) p 0) (H : Bytes W (some ⟨g, 0, none⟩) len len zs) (hl : len ≤ 281474976710656) (hgr : g ≠ r) (hv : Vb.vread zs p = (0, 0, er)) (he : (er == 0) = false) :
    Calls Try.prog 43 #[.pointer (some ⟨r, 0, none⟩), .int .i64 most] W fun e W' => e = .returned (.string ⟨#[]⟩) ∧ At W' r (.slice (some ⟨g, 0, none⟩) len len) p er ∧ W.grownBy W' (some r) := by
  have hmf : ∀ (fn : Fn) (first cap : Array Value) (w : World), (Instr.makeFunc fn first cap).run Try.prog w = .ok (.func fn first cap) w := fun _ _ _ _ => rfl
  have HA := hid A
  have HH := hid H
  have hlt := A.lt
  clear A H
  go_enter Try.func43, Try.ntmps43
  go_wp2_with fail
  refine (whole_err_T r _ p p er (W.heap.size) (W.heap.size + 1) _ (HA.out.kept (grown_trans (World.grownBy_alloc _ _ none) (World.grownBy_alloc _ _ none)) (by simp)) ?hc).mono ?_
  case hc =>
    intro W1 A1 g1
    exact clos_T_err W.heap.size (W.heap.size + 1) r g len zs p er most W1 (g1.cell (by simp [go_sem]) (by simp)) (g1.cell (by simp [go_sem]) (by simp)) A1 (bytes_grown HH.out (grown_trans (World.grownBy_alloc _ _ none) (grown_trans (World.grownBy_alloc _ _ none) g1)) (by simp)) hl hv he
  rintro e W' ⟨rfl, A', g'⟩
  have HA' := hid A'
  have HG' := hid (grown_trans (grown_trans (World.grownBy_alloc _ _ (some r)) (World.grownBy_alloc _ _ (some r))) g')
  clear A' g'
  go_wp2_with fail
  go_ret
  exact ⟨rfl, HA'.out, HG'.out⟩
theorem m_T_stay (r : Nat) (sl : Value) (most : Int) (p er : Int) (W : World) (A : At W r sl p er) (he : (er == 0) = false) :
    Calls Try.prog 43 #[.pointer (some ⟨r, 0, none⟩), .int .i64 most] W fun e W' => e = .returned (.string ⟨#[]⟩) ∧ At W' r sl p er ∧ W.grownBy W' (some r) := by
  have hmf : ∀ (fn : Fn) (first cap : Array Value) (w : World), (Instr.makeFunc fn first cap).run Try.prog w = .ok (.func fn first cap) w := fun _ _ _ _ => rfl
  have HA := hid A
  have hlt := A.lt
  clear A
  go_enter Try.func43, Try.ntmps43
  go_wp2_with fail
  refine (whole_stay_62 r _ p er _ _ (HA.out.kept (grown_trans (World.grownBy_alloc _ _ none) (World.grownBy_alloc _ _ none)) (by simp)) he).mono ?_
  rintro e W' ⟨rfl, A', g'⟩
  have HA' := hid A'
  have HG' := hid (grown_trans (grown_trans (World.grownBy_alloc _ _ (some r)) (World.grownBy_alloc _ _ (some r))) g')
  clear A' g'
  go_wp2_with fail
  go_ret
  exact ⟨rfl, HA'.out, HG'.out⟩
end Go.Proofs.Ytpinknkdcecajaa.Rq

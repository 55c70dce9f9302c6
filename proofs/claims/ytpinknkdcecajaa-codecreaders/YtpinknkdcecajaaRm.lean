/- Contracts of whole, in its four kinds, and of the closures that it is handed: where a part gives up, the reader keeps the error and its place; else it goes behind the thing. -/
import Derived.Test.YtpinknkdcecajaaRr
import Derived.BigRegion
import Derived.RegionTactic
namespace Go.Proofs.Ytpinknkdcecajaa.Rm
open Go.ChangeShapes Go.WideShapes Go.ChangeAt Go.RowKit
open Go.Proofs.Ytpinknkdcecajaa.Rd (Bytes ret_int addr_add)
open Go.Proofs.Ytpinknkdcecajaa.Wr
open Go.Proofs.Ytpinknkdcecajaa.Rr
set_option linter.unusedVariables false

theorem ta (er : Int) (w : World) : Sem.run Try.prog (Instr.typeAssert (.iface 37 (.int .i64 er)) 20 37 false) w = .ok (.int .i64 er) w := by kernel_rfl
theorem idle65 (pb pr : Value) (w : World) :
    CallsD Try.prog 65 #[pb, pr] .returning w fun e u' w' => e = .returned (.tuple #[]) ∧ u' = .returning ∧ w' = w := by
  refine callsD_of_wpS Try.func65 rfl fun c₀ cs hu => ?_
  apply wpS_seq
  apply wpS_region
  simp [wpOpsS, go_sem, recoverD, hu, Try.ntmps65, Exit.thenS]
  apply wpS_seq
  apply wpS_region
  simp [wpOpsS, go_sem, Exit.thenS]
  refine wpS_cond (t := false) (by simp [Act.eval]) ?_
  simp only [Bool.false_eq_true, if_false]
  refine wpS_of_wp (wp_skip ?_)
  cases c₀
  simp_all [bodyPostS, results, Try.results65]
set_option maxHeartbeats 1000000 in
theorem catch65 (b1 b2 r : Nat) (p q er : Int) (sl : Value) (w : World) (A : At w r sl q 0) (h1 : w.cell? ⟨b1, 0, none⟩ = some (.int .i64 p)) (h2 : w.cell? ⟨b2, 0, none⟩ = some (.pointer (some ⟨r, 0, none⟩))) :
    CallsD Try.prog 65 #[.pointer (some ⟨b1, 0, none⟩), .pointer (some ⟨b2, 0, none⟩)] (.panicking [{ v := .iface 37 (.int .i64 er), recovered := false }]) w fun e u' w' =>
      e = .returned (.tuple #[]) ∧ u' = .panicking [{ v := .iface 37 (.int .i64 er), recovered := true }] ∧ At w' r sl p er ∧ w.grownBy w' (some r) := by
  have c2 := A.c2
  have c3 := A.c3
  have f2 : w.frozen? ⟨r, 0 + 2, none⟩ = false := A.fz _
  have f3 : w.frozen? ⟨r, 0 + 3, none⟩ = false := A.fz _
  have hta := fun w => ta er w
  have HA := hid A
  clear A
  refine callsD_of_wpS Try.func65 rfl fun c₀ cs hu => ?_
  apply wpS_seq
  apply wpS_region
  simp [wpOpsS, go_sem, recoverD, hu, Try.ntmps65, Exit.thenS]
  apply wpS_seq
  apply wpS_region
  simp [wpOpsS, go_sem, Exit.thenS]
  refine wpS_cond (t := true) (by simp [Act.eval]) ?_
  simp only [if_true]
  refine wpS_of_wp ?_
  change Code.wp _ _ _ { tmps := #[.pointer (some ⟨b1, 0, none⟩), .pointer (some ⟨b2, 0, none⟩), .iface 37 (.int .i64 er), .iface 37 (.int .i64 er), .iface 37 (.int .i64 er), .bool true, undef, undef, undef, undef, undef, undef, undef, undef, undef], defers := [] } _
  go_region
  have S2 := HA.out.set2 p
  have S3 := S2.1.set3 er
  have S4 : At (((w.setCell ⟨r, 2, none⟩ (.int .i64 p)).setCell ⟨r, 3, none⟩ (.int .i64 er)).drew) r sl p er := S3.1
  have G4 : w.grownBy (((w.setCell ⟨r, 2, none⟩ (.int .i64 p)).setCell ⟨r, 3, none⟩ (.int .i64 er)).drew) (some r) := grown_trans (grown_trans S2.2 S3.2) (grown_drewN _ 1 _)
  simp [bodyPostS, results, Try.results65]
  exact ⟨S4, G4⟩
theorem idle66 (pb pr : Value) (w : World) :
    CallsD Try.prog 66 #[pb, pr] .returning w fun e u' w' => e = .returned (.tuple #[]) ∧ u' = .returning ∧ w' = w := by
  refine callsD_of_wpS Try.func66 rfl fun c₀ cs hu => ?_
  apply wpS_seq
  apply wpS_region
  simp [wpOpsS, go_sem, recoverD, hu, Try.ntmps66, Exit.thenS]
  apply wpS_seq
  apply wpS_region
  simp [wpOpsS, go_sem, Exit.thenS]
  refine wpS_cond (t := false) (by simp [Act.eval]) ?_
  simp only [Bool.false_eq_true, if_false]
  refine wpS_of_wp (wp_skip ?_)
  cases c₀
  simp_all [bodyPostS, results, Try.results66]
set_option maxHeartbeats 1000000 in
theorem catch66 (b1 b2 r : Nat) (p q er : Int) (sl : Value) (w : World) (A : At w r sl q 0) (h1 : w.cell? ⟨b1, 0, none⟩ = some (.int .i64 p)) (h2 : w.cell? ⟨b2, 0, none⟩ = some (.pointer (some ⟨r, 0, none⟩))) :
    CallsD Try.prog 66 #[.pointer (some ⟨b1, 0, none⟩), .pointer (some ⟨b2, 0, none⟩)] (.panicking [{ v := .iface 37 (.int .i64 er), recovered := false }]) w fun e u' w' =>
      e = .returned (.tuple #[]) ∧ u' = .panicking [{ v := .iface 37 (.int .i64 er), recovered := true }] ∧ At w' r sl p er ∧ w.grownBy w' (some r) := by
  have c2 := A.c2
  have c3 := A.c3
  have f2 : w.frozen? ⟨r, 0 + 2, none⟩ = false := A.fz _
  have f3 : w.frozen? ⟨r, 0 + 3, none⟩ = false := A.fz _
  have hta := fun w => ta er w
  have HA := hid A
  clear A
  refine callsD_of_wpS Try.func66 rfl fun c₀ cs hu => ?_
  apply wpS_seq
  apply wpS_region
  simp [wpOpsS, go_sem, recoverD, hu, Try.ntmps66, Exit.thenS]
  apply wpS_seq
  apply wpS_region
  simp [wpOpsS, go_sem, Exit.thenS]
  refine wpS_cond (t := true) (by simp [Act.eval]) ?_
  simp only [if_true]
  refine wpS_of_wp ?_
  change Code.wp _ _ _ { tmps := #[.pointer (some ⟨b1, 0, none⟩), .pointer (some ⟨b2, 0, none⟩), .iface 37 (.int .i64 er), .iface 37 (.int .i64 er), .iface 37 (.int .i64 er), .bool true, undef, undef, undef, undef, undef, undef, undef, undef, undef], defers := [] } _
  go_region
  have S2 := HA.out.set2 p
  have S3 := S2.1.set3 er
  have S4 : At (((w.setCell ⟨r, 2, none⟩ (.int .i64 p)).setCell ⟨r, 3, none⟩ (.int .i64 er)).drew) r sl p er := S3.1
  have G4 : w.grownBy (((w.setCell ⟨r, 2, none⟩ (.int .i64 p)).setCell ⟨r, 3, none⟩ (.int .i64 er)).drew) (some r) := grown_trans (grown_trans S2.2 S3.2) (grown_drewN _ 1 _)
  simp [bodyPostS, results, Try.results66]
  exact ⟨S4, G4⟩
theorem idle67 (pb pr : Value) (w : World) :
    CallsD Try.prog 67 #[pb, pr] .returning w fun e u' w' => e = .returned (.tuple #[]) ∧ u' = .returning ∧ w' = w := by
  refine callsD_of_wpS Try.func67 rfl fun c₀ cs hu => ?_
  apply wpS_seq
  apply wpS_region
  simp [wpOpsS, go_sem, recoverD, hu, Try.ntmps67, Exit.thenS]
  apply wpS_seq
  apply wpS_region
  simp [wpOpsS, go_sem, Exit.thenS]
  refine wpS_cond (t := false) (by simp [Act.eval]) ?_
  simp only [Bool.false_eq_true, if_false]
  refine wpS_of_wp (wp_skip ?_)
  cases c₀
  simp_all [bodyPostS, results, Try.results67]
set_option maxHeartbeats 1000000 in
theorem catch67 (b1 b2 r : Nat) (p q er : Int) (sl : Value) (w : World) (A : At w r sl q 0) (h1 : w.cell? ⟨b1, 0, none⟩ = some (.int .i64 p)) (h2 : w.cell? ⟨b2, 0, none⟩ = some (.pointer (some ⟨r, 0, none⟩))) :
    CallsD Try.prog 67 #[.pointer (some ⟨b1, 0, none⟩), .pointer (some ⟨b2, 0, none⟩)] (.panicking [{ v := .iface 37 (.int .i64 er), recovered := false }]) w fun e u' w' =>
      e = .returned (.tuple #[]) ∧ u' = .panicking [{ v := .iface 37 (.int .i64 er), recovered := true }] ∧ At w' r sl p er ∧ w.grownBy w' (some r) := by
  have c2 := A.c2
  have c3 := A.c3
  have f2 : w.frozen? ⟨r, 0 + 2, none⟩ = false := A.fz _
  have f3 : w.frozen? ⟨r, 0 + 3, none⟩ = false := A.fz _
  have hta := fun w => ta er w
  have HA := hid A
  clear A
  refine callsD_of_wpS Try.func67 rfl fun c₀ cs hu => ?_
  apply wpS_seq
  apply wpS_region
  simp [wpOpsS, go_sem, recoverD, hu, Try.ntmps67, Exit.thenS]
  apply wpS_seq
  apply wpS_region
  simp [wpOpsS, go_sem, Exit.thenS]
  refine wpS_cond (t := true) (by simp [Act.eval]) ?_
  simp only [if_true]
  refine wpS_of_wp ?_
  change Code.wp _ _ _ { tmps := #[.pointer (some ⟨b1, 0, none⟩), .pointer (some ⟨b2, 0, none⟩), .iface 37 (.int .i64 er), .iface 37 (.int .i64 er), .iface 37 (.int .i64 er), .bool true, undef, undef, undef, undef, undef, undef, undef, undef, undef], defers := [] } _
  go_region
  have S2 := HA.out.set2 p
  have S3 := S2.1.set3 er
  have S4 : At (((w.setCell ⟨r, 2, none⟩ (.int .i64 p)).setCell ⟨r, 3, none⟩ (.int .i64 er)).drew) r sl p er := S3.1
  have G4 : w.grownBy (((w.setCell ⟨r, 2, none⟩ (.int .i64 p)).setCell ⟨r, 3, none⟩ (.int .i64 er)).drew) (some r) := grown_trans (grown_trans S2.2 S3.2) (grown_drewN _ 1 _)
  simp [bodyPostS, results, Try.results67]
  exact ⟨S4, G4⟩
theorem idle68 (pb pr : Value) (w : World) :
    CallsD Try.prog 68 #[pb, pr] .returning w fun e u' w' => e = .returned (.tuple #[]) ∧ u' = .returning ∧ w' = w := by
  refine callsD_of_wpS Try.func68 rfl fun c₀ cs hu => ?_
  apply wpS_seq
  apply wpS_region
  simp [wpOpsS, go_sem, recoverD, hu, Try.ntmps68, Exit.thenS]
  apply wpS_seq
  apply wpS_region
  simp [wpOpsS, go_sem, Exit.thenS]
  refine wpS_cond (t := false) (by simp [Act.eval]) ?_
  simp only [Bool.false_eq_true, if_false]
  refine wpS_of_wp (wp_skip ?_)
  cases c₀
  simp_all [bodyPostS, results, Try.results68]
set_option maxHeartbeats 1000000 in
theorem catch68 (b1 b2 r : Nat) (p q er : Int) (sl : Value) (w : World) (A : At w r sl q 0) (h1 : w.cell? ⟨b1, 0, none⟩ = some (.int .i64 p)) (h2 : w.cell? ⟨b2, 0, none⟩ = some (.pointer (some ⟨r, 0, none⟩))) :
    CallsD Try.prog 68 #[.pointer (some ⟨b1, 0, none⟩), .pointer (some ⟨b2, 0, none⟩)] (.panicking [{ v := .iface 37 (.int .i64 er), recovered := false }]) w fun e u' w' =>
      e = .returned (.tuple #[]) ∧ u' = .panicking [{ v := .iface 37 (.int .i64 er), recovered := true }] ∧ At w' r sl p er ∧ w.grownBy w' (some r) := by
  have c2 := A.c2
  have c3 := A.c3
  have f2 : w.frozen? ⟨r, 0 + 2, none⟩ = false := A.fz _
  have f3 : w.frozen? ⟨r, 0 + 3, none⟩ = false := A.fz _
  have hta := fun w => ta er w
  have HA := hid A
  clear A
  refine callsD_of_wpS Try.func68 rfl fun c₀ cs hu => ?_
  apply wpS_seq
  apply wpS_region
  simp [wpOpsS, go_sem, recoverD, hu, Try.ntmps68, Exit.thenS]
  apply wpS_seq
  apply wpS_region
  simp [wpOpsS, go_sem, Exit.thenS]
  refine wpS_cond (t := true) (by simp [Act.eval]) ?_
  simp only [if_true]
  refine wpS_of_wp ?_
  change Code.wp _ _ _ { tmps := #[.pointer (some ⟨b1, 0, none⟩), .pointer (some ⟨b2, 0, none⟩), .iface 37 (.int .i64 er), .iface 37 (.int .i64 er), .iface 37 (.int .i64 er), .bool true, undef, undef, undef, undef, undef, undef, undef, undef, undef], defers := [] } _
  go_region
  have S2 := HA.out.set2 p
  have S3 := S2.1.set3 er
  have S4 : At (((w.setCell ⟨r, 2, none⟩ (.int .i64 p)).setCell ⟨r, 3, none⟩ (.int .i64 er)).drew) r sl p er := S3.1
  have G4 : w.grownBy (((w.setCell ⟨r, 2, none⟩ (.int .i64 p)).setCell ⟨r, 3, none⟩ (.int .i64 er)).drew) (some r) := grown_trans (grown_trans S2.2 S3.2) (grown_drewN _ 1 _)
  simp [bodyPostS, results, Try.results68]
  exact ⟨S4, G4⟩
set_option maxHeartbeats 1000000 in
theorem whole_ok_V (r : Nat) (sl : Value) (p q : Int) (x : Int) (bx : Nat) (W : World) (A : At W r sl p 0)
    (HC : ∀ W1, At W1 r sl p 0 → W.grownBy W1 none → Calls Try.prog 52 #[.pointer (some ⟨bx, 0, none⟩)] W1 fun e W' => e = .returned (.int .u64 x) ∧ At W' r sl q 0 ∧ W1.grownBy W' (some r)) :
    Calls Try.prog 51 #[.pointer (some ⟨r, 0, none⟩), .func (Fn.func 52) #[] #[.pointer (some ⟨bx, 0, none⟩)]] W fun e W' => e = .returned (.int .u64 x) ∧ At W' r sl q 0 ∧ W.grownBy W' (some r) := by
  have hmf : ∀ (fn : Fn) (first cap : Array Value) (w : World), (Instr.makeFunc fn first cap).run Try.prog w = .ok (.func fn first cap) w := fun _ _ _ _ => rfl
  have a0 := A.c0
  have a1 := A.c1
  have a2 := A.c2
  have a3 := A.c3
  have hlt := A.lt
  have HA := hid A
  have HH := hid HC
  clear A HC
  go_enter_defers Try.func51, Try.ntmps51
  go_wp2_with (first | (go_at_call 35; go_in) | fail)
  refine (HH.out _ (HA.out.kept (grown_trans (World.grownBy_alloc _ _ none) (World.grownBy_alloc _ _ none)) (by simp)) (grown_trans (World.grownBy_alloc _ _ none) (World.grownBy_alloc _ _ none))).mono ?_
  rintro e W2 ⟨rfl, A2, g2⟩
  have HA2 := hid A2
  have HG2 : Hid (W.grownBy W2 (some r)) := grown_trans (grown_trans (World.grownBy_alloc _ _ _) (World.grownBy_alloc _ _ _)) g2
  clear A2 g2
  go_wp2_with fail
  refine leaves_cons (f := 65) (args := #[.pointer (some ⟨W.heap.size + 1, 0, none⟩), .pointer (some ⟨W.heap.size, 0, none⟩)]) (by simp) (by simp [go_sem]) ?_
  refine (idle65 _ _ _).mono ?_
  rintro e u' w'' ⟨rfl, rfl, rfl⟩
  simp [Leaves, settle, results, Try.results51, go_sem]
  exact ⟨HA2.out, HG2.out⟩
set_option maxHeartbeats 1000000 in
theorem whole_err_V (r : Nat) (sl : Value) (p q er : Int) (bx : Nat) (W : World) (A : At W r sl p 0)
    (HC : ∀ W1, At W1 r sl p 0 → W.grownBy W1 none → Calls Try.prog 52 #[.pointer (some ⟨bx, 0, none⟩)] W1 fun e W' => e = .panicked [{ v := .iface 37 (.int .i64 er), recovered := false }] ∧ At W' r sl q 0 ∧ W1.grownBy W' (some r)) :
    Calls Try.prog 51 #[.pointer (some ⟨r, 0, none⟩), .func (Fn.func 52) #[] #[.pointer (some ⟨bx, 0, none⟩)]] W fun e W' => e = .returned (.int .u64 0) ∧ At W' r sl p er ∧ W.grownBy W' (some r) := by
  have hmf : ∀ (fn : Fn) (first cap : Array Value) (w : World), (Instr.makeFunc fn first cap).run Try.prog w = .ok (.func fn first cap) w := fun _ _ _ _ => rfl
  have a0 := A.c0
  have a1 := A.c1
  have a2 := A.c2
  have a3 := A.c3
  have hlt := A.lt
  have HA := hid A
  have HH := hid HC
  clear A HC
  go_enter_defers Try.func51, Try.ntmps51
  go_wp2_with (first | (go_at_call 35; go_in) | fail)
  refine (HH.out _ (HA.out.kept (grown_trans (World.grownBy_alloc _ _ none) (World.grownBy_alloc _ _ none)) (by simp)) (grown_trans (World.grownBy_alloc _ _ none) (World.grownBy_alloc _ _ none))).mono ?_
  rintro e W2 ⟨rfl, A2, g2⟩
  have k1 : W2.cell? ⟨W.heap.size + 1, 0, none⟩ = some (.int .i64 p) := g2.cell (by simp [go_sem]) (by simp; omega)
  have k2 : W2.cell? ⟨W.heap.size, 0, none⟩ = some (.pointer (some ⟨r, 0, none⟩)) := g2.cell (by simp [go_sem]) (by simp; omega)
  have HA2 := hid A2
  have HG2 : Hid (W.grownBy W2 (some r)) := grown_trans (grown_trans (World.grownBy_alloc _ _ _) (World.grownBy_alloc _ _ _)) g2
  clear A2 g2
  go_wp2_with fail
  refine leaves_cons (f := 65) (args := #[.pointer (some ⟨W.heap.size + 1, 0, none⟩), .pointer (some ⟨W.heap.size, 0, none⟩)]) (by simp) (by simp [go_sem]) ?_
  refine (catch65 _ _ r p q er sl _ HA2.out k1 k2).mono ?_
  rintro e u' w'' ⟨rfl, rfl, A3, g3⟩
  simp [Leaves, settle, results, Try.results51, go_sem]
  exact ⟨A3, grown_trans HG2.out g3⟩
set_option maxHeartbeats 1000000 in
theorem whole_stay_51 (r : Nat) (sl : Value) (p er : Int) (cl : Value) (W : World) (A : At W r sl p er) (he : (er == 0) = false) :
    Calls Try.prog 51 #[.pointer (some ⟨r, 0, none⟩), cl] W fun e W' => e = .returned (.int .u64 0) ∧ At W' r sl p er ∧ W.grownBy W' (some r) := by
  have hmf : ∀ (fn : Fn) (first cap : Array Value) (w : World), (Instr.makeFunc fn first cap).run Try.prog w = .ok (.func fn first cap) w := fun _ _ _ _ => rfl
  have a0 := A.c0
  have a3 := A.c3
  have hlt := A.lt
  have HA := hid A
  clear A
  go_enter_defers Try.func51, Try.ntmps51
  go_wp2_with (first | (go_at_call 35; go_in) | fail)
  simp [bodyPostD, Leaves, results, Try.results51, go_sem]
  exact ⟨HA.out.kept (World.grownBy_alloc _ _ none) (by simp), World.grownBy_alloc _ _ _⟩
set_option maxHeartbeats 1000000 in
theorem whole_ok_F64 (r : Nat) (sl : Value) (p q : Int) (x : Int) (bx : Nat) (W : World) (A : At W r sl p 0)
    (HC : ∀ W1, At W1 r sl p 0 → W.grownBy W1 none → Calls Try.prog 61 #[.pointer (some ⟨bx, 0, none⟩)] W1 fun e W' => e = .returned (.int .u64 x) ∧ At W' r sl q 0 ∧ W1.grownBy W' (some r)) :
    Calls Try.prog 51 #[.pointer (some ⟨r, 0, none⟩), .func (Fn.func 61) #[] #[.pointer (some ⟨bx, 0, none⟩)]] W fun e W' => e = .returned (.int .u64 x) ∧ At W' r sl q 0 ∧ W.grownBy W' (some r) := by
  have hmf : ∀ (fn : Fn) (first cap : Array Value) (w : World), (Instr.makeFunc fn first cap).run Try.prog w = .ok (.func fn first cap) w := fun _ _ _ _ => rfl
  have a0 := A.c0
  have a1 := A.c1
  have a2 := A.c2
  have a3 := A.c3
  have hlt := A.lt
  have HA := hid A
  have HH := hid HC
  clear A HC
  go_enter_defers Try.func51, Try.ntmps51
  go_wp2_with (first | (go_at_call 35; go_in) | fail)
  refine (HH.out _ (HA.out.kept (grown_trans (World.grownBy_alloc _ _ none) (World.grownBy_alloc _ _ none)) (by simp)) (grown_trans (World.grownBy_alloc _ _ none) (World.grownBy_alloc _ _ none))).mono ?_
  rintro e W2 ⟨rfl, A2, g2⟩
  have HA2 := hid A2
  have HG2 : Hid (W.grownBy W2 (some r)) := grown_trans (grown_trans (World.grownBy_alloc _ _ _) (World.grownBy_alloc _ _ _)) g2
  clear A2 g2
  go_wp2_with fail
  refine leaves_cons (f := 65) (args := #[.pointer (some ⟨W.heap.size + 1, 0, none⟩), .pointer (some ⟨W.heap.size, 0, none⟩)]) (by simp) (by simp [go_sem]) ?_
  refine (idle65 _ _ _).mono ?_
  rintro e u' w'' ⟨rfl, rfl, rfl⟩
  simp [Leaves, settle, results, Try.results51, go_sem]
  exact ⟨HA2.out, HG2.out⟩
set_option maxHeartbeats 1000000 in
theorem whole_err_F64 (r : Nat) (sl : Value) (p q er : Int) (bx : Nat) (W : World) (A : At W r sl p 0)
    (HC : ∀ W1, At W1 r sl p 0 → W.grownBy W1 none → Calls Try.prog 61 #[.pointer (some ⟨bx, 0, none⟩)] W1 fun e W' => e = .panicked [{ v := .iface 37 (.int .i64 er), recovered := false }] ∧ At W' r sl q 0 ∧ W1.grownBy W' (some r)) :
    Calls Try.prog 51 #[.pointer (some ⟨r, 0, none⟩), .func (Fn.func 61) #[] #[.pointer (some ⟨bx, 0, none⟩)]] W fun e W' => e = .returned (.int .u64 0) ∧ At W' r sl p er ∧ W.grownBy W' (some r) := by
  have hmf : ∀ (fn : Fn) (first cap : Array Value) (w : World), (Instr.makeFunc fn first cap).run Try.prog w = .ok (.func fn first cap) w := fun _ _ _ _ => rfl
  have a0 := A.c0
  have a1 := A.c1
  have a2 := A.c2
  have a3 := A.c3
  have hlt := A.lt
  have HA := hid A
  have HH := hid HC
  clear A HC
  go_enter_defers Try.func51, Try.ntmps51
  go_wp2_with (first | (go_at_call 35; go_in) | fail)
  refine (HH.out _ (HA.out.kept (grown_trans (World.grownBy_alloc _ _ none) (World.grownBy_alloc _ _ none)) (by simp)) (grown_trans (World.grownBy_alloc _ _ none) (World.grownBy_alloc _ _ none))).mono ?_
  rintro e W2 ⟨rfl, A2, g2⟩
  have k1 : W2.cell? ⟨W.heap.size + 1, 0, none⟩ = some (.int .i64 p) := g2.cell (by simp [go_sem]) (by simp; omega)
  have k2 : W2.cell? ⟨W.heap.size, 0, none⟩ = some (.pointer (some ⟨r, 0, none⟩)) := g2.cell (by simp [go_sem]) (by simp; omega)
  have HA2 := hid A2
  have HG2 : Hid (W.grownBy W2 (some r)) := grown_trans (grown_trans (World.grownBy_alloc _ _ _) (World.grownBy_alloc _ _ _)) g2
  clear A2 g2
  go_wp2_with fail
  refine leaves_cons (f := 65) (args := #[.pointer (some ⟨W.heap.size + 1, 0, none⟩), .pointer (some ⟨W.heap.size, 0, none⟩)]) (by simp) (by simp [go_sem]) ?_
  refine (catch65 _ _ r p q er sl _ HA2.out k1 k2).mono ?_
  rintro e u' w'' ⟨rfl, rfl, A3, g3⟩
  simp [Leaves, settle, results, Try.results51, go_sem]
  exact ⟨A3, grown_trans HG2.out g3⟩
set_option maxHeartbeats 1000000 in
theorem whole_ok_N (r : Nat) (sl : Value) (p q : Int) (x : Int) (bx bm : Nat) (W : World) (A : At W r sl p 0)
    (HC : ∀ W1, At W1 r sl p 0 → W.grownBy W1 none → Calls Try.prog 56 #[.pointer (some ⟨bx, 0, none⟩), .pointer (some ⟨bm, 0, none⟩)] W1 fun e W' => e = .returned (.int .i64 x) ∧ At W' r sl q 0 ∧ W1.grownBy W' (some r)) :
    Calls Try.prog 55 #[.pointer (some ⟨r, 0, none⟩), .func (Fn.func 56) #[] #[.pointer (some ⟨bx, 0, none⟩), .pointer (some ⟨bm, 0, none⟩)]] W fun e W' => e = .returned (.int .i64 x) ∧ At W' r sl q 0 ∧ W.grownBy W' (some r) := by
  have hmf : ∀ (fn : Fn) (first cap : Array Value) (w : World), (Instr.makeFunc fn first cap).run Try.prog w = .ok (.func fn first cap) w := fun _ _ _ _ => rfl
  have a0 := A.c0
  have a1 := A.c1
  have a2 := A.c2
  have a3 := A.c3
  have hlt := A.lt
  have HA := hid A
  have HH := hid HC
  clear A HC
  go_enter_defers Try.func55, Try.ntmps55
  go_wp2_with (first | (go_at_call 35; go_in) | fail)
  refine (HH.out _ (HA.out.kept (grown_trans (World.grownBy_alloc _ _ none) (World.grownBy_alloc _ _ none)) (by simp)) (grown_trans (World.grownBy_alloc _ _ none) (World.grownBy_alloc _ _ none))).mono ?_
  rintro e W2 ⟨rfl, A2, g2⟩
  have HA2 := hid A2
  have HG2 : Hid (W.grownBy W2 (some r)) := grown_trans (grown_trans (World.grownBy_alloc _ _ _) (World.grownBy_alloc _ _ _)) g2
  clear A2 g2
  go_wp2_with fail
  refine leaves_cons (f := 66) (args := #[.pointer (some ⟨W.heap.size + 1, 0, none⟩), .pointer (some ⟨W.heap.size, 0, none⟩)]) (by simp) (by simp [go_sem]) ?_
  refine (idle66 _ _ _).mono ?_
  rintro e u' w'' ⟨rfl, rfl, rfl⟩
  simp [Leaves, settle, results, Try.results55, go_sem]
  exact ⟨HA2.out, HG2.out⟩
set_option maxHeartbeats 1000000 in
theorem whole_err_N (r : Nat) (sl : Value) (p q er : Int) (bx bm : Nat) (W : World) (A : At W r sl p 0)
    (HC : ∀ W1, At W1 r sl p 0 → W.grownBy W1 none → Calls Try.prog 56 #[.pointer (some ⟨bx, 0, none⟩), .pointer (some ⟨bm, 0, none⟩)] W1 fun e W' => e = .panicked [{ v := .iface 37 (.int .i64 er), recovered := false }] ∧ At W' r sl q 0 ∧ W1.grownBy W' (some r)) :
    Calls Try.prog 55 #[.pointer (some ⟨r, 0, none⟩), .func (Fn.func 56) #[] #[.pointer (some ⟨bx, 0, none⟩), .pointer (some ⟨bm, 0, none⟩)]] W fun e W' => e = .returned (.int .i64 0) ∧ At W' r sl p er ∧ W.grownBy W' (some r) := by
  have hmf : ∀ (fn : Fn) (first cap : Array Value) (w : World), (Instr.makeFunc fn first cap).run Try.prog w = .ok (.func fn first cap) w := fun _ _ _ _ => rfl
  have a0 := A.c0
  have a1 := A.c1
  have a2 := A.c2
  have a3 := A.c3
  have hlt := A.lt
  have HA := hid A
  have HH := hid HC
  clear A HC
  go_enter_defers Try.func55, Try.ntmps55
  go_wp2_with (first | (go_at_call 35; go_in) | fail)
  refine (HH.out _ (HA.out.kept (grown_trans (World.grownBy_alloc _ _ none) (World.grownBy_alloc _ _ none)) (by simp)) (grown_trans (World.grownBy_alloc _ _ none) (World.grownBy_alloc _ _ none))).mono ?_
  rintro e W2 ⟨rfl, A2, g2⟩
  have k1 : W2.cell? ⟨W.heap.size + 1, 0, none⟩ = some (.int .i64 p) := g2.cell (by simp [go_sem]) (by simp; omega)
  have k2 : W2.cell? ⟨W.heap.size, 0, none⟩ = some (.pointer (some ⟨r, 0, none⟩)) := g2.cell (by simp [go_sem]) (by simp; omega)
  have HA2 := hid A2
  have HG2 : Hid (W.grownBy W2 (some r)) := grown_trans (grown_trans (World.grownBy_alloc _ _ _) (World.grownBy_alloc _ _ _)) g2
  clear A2 g2
  go_wp2_with fail
  refine leaves_cons (f := 66) (args := #[.pointer (some ⟨W.heap.size + 1, 0, none⟩), .pointer (some ⟨W.heap.size, 0, none⟩)]) (by simp) (by simp [go_sem]) ?_
  refine (catch66 _ _ r p q er sl _ HA2.out k1 k2).mono ?_
  rintro e u' w'' ⟨rfl, rfl, A3, g3⟩
  simp [Leaves, settle, results, Try.results55, go_sem]
  exact ⟨A3, grown_trans HG2.out g3⟩
set_option maxHeartbeats 1000000 in
theorem whole_stay_55 (r : Nat) (sl : Value) (p er : Int) (cl : Value) (W : World) (A : At W r sl p er) (he : (er == 0) = false) :
    Calls Try.prog 55 #[.pointer (some ⟨r, 0, none⟩), cl] W fun e W' => e = .returned (.int .i64 0) ∧ At W' r sl p er ∧ W.grownBy W' (some r) := by
  have hmf : ∀ (fn : Fn) (first cap : Array Value) (w : World), (Instr.makeFunc fn first cap).run Try.prog w = .ok (.func fn first cap) w := fun _ _ _ _ => rfl
  have a0 := A.c0
  have a3 := A.c3
  have hlt := A.lt
  have HA := hid A
  clear A
  go_enter_defers Try.func55, Try.ntmps55
  go_wp2_with (first | (go_at_call 35; go_in) | fail)
  simp [bodyPostD, Leaves, results, Try.results55, go_sem]
  exact ⟨HA.out.kept (World.grownBy_alloc _ _ none) (by simp), World.grownBy_alloc _ _ _⟩
set_option maxHeartbeats 1000000 in
theorem whole_ok_F32 (r : Nat) (sl : Value) (p q : Int) (x : Int) (bx : Nat) (W : World) (A : At W r sl p 0)
    (HC : ∀ W1, At W1 r sl p 0 → W.grownBy W1 none → Calls Try.prog 59 #[.pointer (some ⟨bx, 0, none⟩)] W1 fun e W' => e = .returned (.int .u32 x) ∧ At W' r sl q 0 ∧ W1.grownBy W' (some r)) :
    Calls Try.prog 58 #[.pointer (some ⟨r, 0, none⟩), .func (Fn.func 59) #[] #[.pointer (some ⟨bx, 0, none⟩)]] W fun e W' => e = .returned (.int .u32 x) ∧ At W' r sl q 0 ∧ W.grownBy W' (some r) := by
  have hmf : ∀ (fn : Fn) (first cap : Array Value) (w : World), (Instr.makeFunc fn first cap).run Try.prog w = .ok (.func fn first cap) w := fun _ _ _ _ => rfl
  have a0 := A.c0
  have a1 := A.c1
  have a2 := A.c2
  have a3 := A.c3
  have hlt := A.lt
  have HA := hid A
  have HH := hid HC
  clear A HC
  go_enter_defers Try.func58, Try.ntmps58
  go_wp2_with (first | (go_at_call 35; go_in) | fail)
  refine (HH.out _ (HA.out.kept (grown_trans (World.grownBy_alloc _ _ none) (World.grownBy_alloc _ _ none)) (by simp)) (grown_trans (World.grownBy_alloc _ _ none) (World.grownBy_alloc _ _ none))).mono ?_
  rintro e W2 ⟨rfl, A2, g2⟩
  have HA2 := hid A2
  have HG2 : Hid (W.grownBy W2 (some r)) := grown_trans (grown_trans (World.grownBy_alloc _ _ _) (World.grownBy_alloc _ _ _)) g2
  clear A2 g2
  go_wp2_with fail
  refine leaves_cons (f := 67) (args := #[.pointer (some ⟨W.heap.size + 1, 0, none⟩), .pointer (some ⟨W.heap.size, 0, none⟩)]) (by simp) (by simp [go_sem]) ?_
  refine (idle67 _ _ _).mono ?_
  rintro e u' w'' ⟨rfl, rfl, rfl⟩
  simp [Leaves, settle, results, Try.results58, go_sem]
  exact ⟨HA2.out, HG2.out⟩
set_option maxHeartbeats 1000000 in
theorem whole_err_F32 (r : Nat) (sl : Value) (p q er : Int) (bx : Nat) (W : World) (A : At W r sl p 0)
    (HC : ∀ W1, At W1 r sl p 0 → W.grownBy W1 none → Calls Try.prog 59 #[.pointer (some ⟨bx, 0, none⟩)] W1 fun e W' => e = .panicked [{ v := .iface 37 (.int .i64 er), recovered := false }] ∧ At W' r sl q 0 ∧ W1.grownBy W' (some r)) :
    Calls Try.prog 58 #[.pointer (some ⟨r, 0, none⟩), .func (Fn.func 59) #[] #[.pointer (some ⟨bx, 0, none⟩)]] W fun e W' => e = .returned (.int .u32 0) ∧ At W' r sl p er ∧ W.grownBy W' (some r) := by
  have hmf : ∀ (fn : Fn) (first cap : Array Value) (w : World), (Instr.makeFunc fn first cap).run Try.prog w = .ok (.func fn first cap) w := fun _ _ _ _ => rfl
  have a0 := A.c0
  have a1 := A.c1
  have a2 := A.c2
  have a3 := A.c3
  have hlt := A.lt
  have HA := hid A
  have HH := hid HC
  clear A HC
  go_enter_defers Try.func58, Try.ntmps58
  go_wp2_with (first | (go_at_call 35; go_in) | fail)
  refine (HH.out _ (HA.out.kept (grown_trans (World.grownBy_alloc _ _ none) (World.grownBy_alloc _ _ none)) (by simp)) (grown_trans (World.grownBy_alloc _ _ none) (World.grownBy_alloc _ _ none))).mono ?_
  rintro e W2 ⟨rfl, A2, g2⟩
  have k1 : W2.cell? ⟨W.heap.size + 1, 0, none⟩ = some (.int .i64 p) := g2.cell (by simp [go_sem]) (by simp; omega)
  have k2 : W2.cell? ⟨W.heap.size, 0, none⟩ = some (.pointer (some ⟨r, 0, none⟩)) := g2.cell (by simp [go_sem]) (by simp; omega)
  have HA2 := hid A2
  have HG2 : Hid (W.grownBy W2 (some r)) := grown_trans (grown_trans (World.grownBy_alloc _ _ _) (World.grownBy_alloc _ _ _)) g2
  clear A2 g2
  go_wp2_with fail
  refine leaves_cons (f := 67) (args := #[.pointer (some ⟨W.heap.size + 1, 0, none⟩), .pointer (some ⟨W.heap.size, 0, none⟩)]) (by simp) (by simp [go_sem]) ?_
  refine (catch67 _ _ r p q er sl _ HA2.out k1 k2).mono ?_
  rintro e u' w'' ⟨rfl, rfl, A3, g3⟩
  simp [Leaves, settle, results, Try.results58, go_sem]
  exact ⟨A3, grown_trans HG2.out g3⟩
set_option maxHeartbeats 1000000 in
theorem whole_stay_58 (r : Nat) (sl : Value) (p er : Int) (cl : Value) (W : World) (A : At W r sl p er) (he : (er == 0) = false) :
    Calls Try.prog 58 #[.pointer (some ⟨r, 0, none⟩), cl] W fun e W' => e = .returned (.int .u32 0) ∧ At W' r sl p er ∧ W.grownBy W' (some r) := by
  have hmf : ∀ (fn : Fn) (first cap : Array Value) (w : World), (Instr.makeFunc fn first cap).run Try.prog w = .ok (.func fn first cap) w := fun _ _ _ _ => rfl
  have a0 := A.c0
  have a3 := A.c3
  have hlt := A.lt
  have HA := hid A
  clear A
  go_enter_defers Try.func58, Try.ntmps58
  go_wp2_with (first | (go_at_call 35; go_in) | fail)
  simp [bodyPostD, Leaves, results, Try.results58, go_sem]
  exact ⟨HA.out.kept (World.grownBy_alloc _ _ none) (by simp), World.grownBy_alloc _ _ _⟩
set_option maxHeartbeats 1000000 in
theorem whole_ok_T (r : Nat) (sl : Value) (p q : Int) (x : ByteArray) (bx bm : Nat) (W : World) (A : At W r sl p 0)
    (HC : ∀ W1, At W1 r sl p 0 → W.grownBy W1 none → Calls Try.prog 63 #[.pointer (some ⟨bx, 0, none⟩), .pointer (some ⟨bm, 0, none⟩)] W1 fun e W' => e = .returned (.string x) ∧ At W' r sl q 0 ∧ W1.grownBy W' (some r)) :
    Calls Try.prog 62 #[.pointer (some ⟨r, 0, none⟩), .func (Fn.func 63) #[] #[.pointer (some ⟨bx, 0, none⟩), .pointer (some ⟨bm, 0, none⟩)]] W fun e W' => e = .returned (.string x) ∧ At W' r sl q 0 ∧ W.grownBy W' (some r) := by
  have hmf : ∀ (fn : Fn) (first cap : Array Value) (w : World), (Instr.makeFunc fn first cap).run Try.prog w = .ok (.func fn first cap) w := fun _ _ _ _ => rfl
  have a0 := A.c0
  have a1 := A.c1
  have a2 := A.c2
  have a3 := A.c3
  have hlt := A.lt
  have HA := hid A
  have HH := hid HC
  clear A HC
  go_enter_defers Try.func62, Try.ntmps62
  go_wp2_with (first | (go_at_call 35; go_in) | fail)
  refine (HH.out _ (HA.out.kept (grown_trans (World.grownBy_alloc _ _ none) (World.grownBy_alloc _ _ none)) (by simp)) (grown_trans (World.grownBy_alloc _ _ none) (World.grownBy_alloc _ _ none))).mono ?_
  rintro e W2 ⟨rfl, A2, g2⟩
  have HA2 := hid A2
  have HG2 : Hid (W.grownBy W2 (some r)) := grown_trans (grown_trans (World.grownBy_alloc _ _ _) (World.grownBy_alloc _ _ _)) g2
  clear A2 g2
  go_wp2_with fail
  refine leaves_cons (f := 68) (args := #[.pointer (some ⟨W.heap.size + 1, 0, none⟩), .pointer (some ⟨W.heap.size, 0, none⟩)]) (by simp) (by simp [go_sem]) ?_
  refine (idle68 _ _ _).mono ?_
  rintro e u' w'' ⟨rfl, rfl, rfl⟩
  simp [Leaves, settle, results, Try.results62, go_sem]
  exact ⟨HA2.out, HG2.out⟩
set_option maxHeartbeats 1000000 in
theorem whole_err_T (r : Nat) (sl : Value) (p q er : Int) (bx bm : Nat) (W : World) (A : At W r sl p 0)
    (HC : ∀ W1, At W1 r sl p 0 → W.grownBy W1 none → Calls Try.prog 63 #[.pointer (some ⟨bx, 0, none⟩), .pointer (some ⟨bm, 0, none⟩)] W1 fun e W' => e = .panicked [{ v := .iface 37 (.int .i64 er), recovered := false }] ∧ At W' r sl q 0 ∧ W1.grownBy W' (some r)) :
    Calls Try.prog 62 #[.pointer (some ⟨r, 0, none⟩), .func (Fn.func 63) #[] #[.pointer (some ⟨bx, 0, none⟩), .pointer (some ⟨bm, 0, none⟩)]] W fun e W' => e = .returned (.string ⟨#[]⟩) ∧ At W' r sl p er ∧ W.grownBy W' (some r) := by
  have hmf : ∀ (fn : Fn) (first cap : Array Value) (w : World), (Instr.makeFunc fn first cap).run Try.prog w = .ok (.func fn first cap) w := fun _ _ _ _ => rfl
  have a0 := A.c0
  have a1 := A.c1
  have a2 := A.c2
  have a3 := A.c3
  have hlt := A.lt
  have HA := hid A
  have HH := hid HC
  clear A HC
  go_enter_defers Try.func62, Try.ntmps62
  go_wp2_with (first | (go_at_call 35; go_in) | fail)
  refine (HH.out _ (HA.out.kept (grown_trans (World.grownBy_alloc _ _ none) (World.grownBy_alloc _ _ none)) (by simp)) (grown_trans (World.grownBy_alloc _ _ none) (World.grownBy_alloc _ _ none))).mono ?_
  rintro e W2 ⟨rfl, A2, g2⟩
  have k1 : W2.cell? ⟨W.heap.size + 1, 0, none⟩ = some (.int .i64 p) := g2.cell (by simp [go_sem]) (by simp; omega)
  have k2 : W2.cell? ⟨W.heap.size, 0, none⟩ = some (.pointer (some ⟨r, 0, none⟩)) := g2.cell (by simp [go_sem]) (by simp; omega)
  have HA2 := hid A2
  have HG2 : Hid (W.grownBy W2 (some r)) := grown_trans (grown_trans (World.grownBy_alloc _ _ _) (World.grownBy_alloc _ _ _)) g2
  clear A2 g2
  go_wp2_with fail
  refine leaves_cons (f := 68) (args := #[.pointer (some ⟨W.heap.size + 1, 0, none⟩), .pointer (some ⟨W.heap.size, 0, none⟩)]) (by simp) (by simp [go_sem]) ?_
  refine (catch68 _ _ r p q er sl _ HA2.out k1 k2).mono ?_
  rintro e u' w'' ⟨rfl, rfl, A3, g3⟩
  simp [Leaves, settle, results, Try.results62, go_sem]
  exact ⟨A3, grown_trans HG2.out g3⟩
set_option maxHeartbeats 1000000 in
theorem whole_stay_62 (r : Nat) (sl : Value) (p er : Int) (cl : Value) (W : World) (A : At W r sl p er) (he : (er == 0) = false) :
    Calls Try.prog 62 #[.pointer (some ⟨r, 0, none⟩), cl] W fun e W' => e = .returned (.string ⟨#[]⟩) ∧ At W' r sl p er ∧ W.grownBy W' (some r) := by
  have hmf : ∀ (fn : Fn) (first cap : Array Value) (w : World), (Instr.makeFunc fn first cap).run Try.prog w = .ok (.func fn first cap) w := fun _ _ _ _ => rfl
  have a0 := A.c0
  have a3 := A.c3
  have hlt := A.lt
  have HA := hid A
  clear A
  go_enter_defers Try.func62, Try.ntmps62
  go_wp2_with (first | (go_at_call 35; go_in) | fail)
  simp [bodyPostD, Leaves, results, Try.results62, go_sem]
  exact ⟨HA.out.kept (World.grownBy_alloc _ _ none) (by simp), World.grownBy_alloc _ _ _⟩
end Go.Proofs.Ytpinknkdcecajaa.Rm

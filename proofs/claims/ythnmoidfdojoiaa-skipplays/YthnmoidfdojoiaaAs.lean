/- What the law asks of both lists. -/
import Derived.Test.YthnmoidfdojoiaaRt
import Derived.Test.YthnmoidfdojoiaaLsS
namespace Go.Proofs.Ythnmoidfdojoiaa.As
open Go.ChangeShapes Go.WideShapes Go.ChangeAt Go.RowKit
open Go.Sort (grow)
open Go.Proofs.Ythnmoidfdojoiaa.Ik
open Go.Proofs.Ythnmoidfdojoiaa.Sg
open Go.Proofs.Ythnmoidfdojoiaa.Cm (ik)
open Go.Proofs.Ythnmoidfdojoiaa.Vl
open Go.Proofs.Ythnmoidfdojoiaa.Mm
open Go.Proofs.Ythnmoidfdojoiaa.Tr
open Go.Proofs.Ythnmoidfdojoiaa.Li
open Go.Proofs.Ythnmoidfdojoiaa.In (thr first_mem)
open Go.Proofs.Ythnmoidfdojoiaa.Oi
open Go.Proofs.Ythnmoidfdojoiaa.Tl (trl)
open Go.Proofs.Ythnmoidfdojoiaa.Fi (among_any)
open Go.Proofs.Ythnmoidfdojoiaa.Rc
open Go.Proofs.Ythnmoidfdojoiaa.Rl
open Go.Proofs.Ythnmoidfdojoiaa.Rn
open Go.Proofs.Ythnmoidfdojoiaa.Rk
open Go.Proofs.Ythnmoidfdojoiaa.Rt
open Go.Proofs.Ythnmoidfdojoiaa.InS (SL)
set_option linter.unusedVariables false
set_option linter.unusedSimpArgs false
def Strs (ns : List N) : Prop := ∀ x ∈ ns, ∃ y, x.v = .string y
theorem below_self {e : Ending} {w w' : World} {v : Value} (h : e = .returned v ∧ w' = w) : e = .returned v ∧ Below w.heap.size w w' := ⟨h.1, by rw [h.2]; exact Below.refl _ _⟩
set_option maxHeartbeats 4000000 in
set_option maxRecDepth 100000 in
theorem asked_2 (base bs g b most : Nat) (an ao : Option Addr) (cn co : Nat) (ns : List N) (ord : List Nat) (kd ht n : Int) (k : ByteArray) (s c : Int) (v : ByteArray) (w : World) (S : SL w bs g b most ns ord) (H : RL w base an ao cn co ns ord) (hl : ns.length ≤ 1048576) (hst : Strs ns) (hkd : kd % 8 = 2) :
    Calls Try.prog 13 #[.pointer (some ⟨g, 0, none⟩), .agg #[.int .i64 (most : Int), .slice an ns.length cn, .slice ao ord.length co], .agg #[.int .i64 kd, .int .i64 ht, .int .i64 n, .string k, .int .u64 s, .int .i64 c, .string v]] w fun e w' => e = .returned (.bool true) ∧ Below w.heap.size w w' := by
  obtain ⟨gk, hgk⟩ : ∃ gk, gk = w.heap.size := ⟨_, rfl⟩
  obtain ⟨wa, hwa⟩ : ∃ wa, wa = w.alloc (.cells #[.int .i64 (most : Int), .slice an ns.length cn, .slice ao ord.length co] 30) := ⟨_, rfl⟩
  obtain ⟨wr, hwr⟩ : ∃ wr, wr = wa.alloc (.cells #[.int .i64 kd, .int .i64 ht, .int .i64 n, .string k, .int .u64 s, .int .i64 c, .string v] 38) := ⟨_, rfl⟩
  have b1 : Below w.heap.size w wa := by rw [hwa]; exact box_below _ _
  have b2 : Below wa.heap.size wa wr := by rw [hwr]; exact box_below _ _
  have s1 : wa.heap.size = gk + 1 := by rw [hwa, size_alloc, hgk]
  have B0 : Below w.heap.size w wr := b1.trans (b2.mono b1.size)
  have R0 : RB wr gk most an ao cn co ns.length ord.length := (b2.block _ (by omega)).trans (by rw [hwa, hgk]; exact new_at _ _)
  have A0 : wr.heap[gk + 1]? = some (.cells #[.int .i64 kd, .int .i64 ht, .int .i64 n, .string k, .int .u64 s, .int .i64 c, .string v] 38) := by rw [← s1, hwr]; exact new_at _ _
  rw [hwa] at hwr
  clear b1 b2 s1 hwa
  have S0 := S.later B0
  have H0 := H.later B0
  have hol := H.G.len
  have G := H.G
  have HAm : Hid (∀ W, Calls Try.prog 12 #[.int .i64 kd, .int .i64 8] W fun e w' => e = .returned (.int .i64 2) ∧ w' = W) := fun W => by
    have := among_any kd 8 W (by omega)
    rwa [show kd % ((8 : Nat) : Int) = 2 from hkd] at this
  have a0 := cell_of A0 0 (.int .i64 kd) rfl
  have a2 := cell_of A0 2 (.int .i64 n) rfl
  have a3 := cell_of A0 3 (.string k) rfl
  have a4 := cell_of A0 4 (.int .u64 s) rfl
  have a5 := cell_of A0 5 (.int .i64 c) rfl
  have HA : Hid (∀ d os, Calls Try.prog 40 #[.pointer (some ⟨g, 0, none⟩), .agg #[.string k, .int .u64 s, .int .i64 c]] (grow (redrawn wr d) os) fun e w' => e = .returned (.int .i64 (firstN ns ord (ik k s c) : Int)) ∧ Below (grow (redrawn wr d) os).heap.size (grow (redrawn wr d) os) w') := fun d os => FiS.seek_any bs g b most ns ord k s c _ (S0.later (below_regrown wr d os))
  have HB : Hid (∀ d os, Calls Try.prog 42 #[.pointer (some ⟨g, 0, none⟩), .agg #[.string k, .int .u64 s, .int .i64 c]] (grow (redrawn wr d) os) fun e w' => e = .returned (.int .i64 (lastB ns ord (ik k s c) 0 : Int)) ∧ Below (grow (redrawn wr d) os).heap.size (grow (redrawn wr d) os) w') := fun d os => GsS.before_any bs g b most ns ord k s c _ (S0.later (below_regrown wr d os))
  have HC : Hid (∀ d os, Calls Try.prog 41 #[.agg #[.int .i64 (most : Int), .slice an ns.length cn, .slice ao ord.length co], .agg #[.string k, .int .u64 s, .int .i64 c]] (grow (redrawn wr d) os) fun e w' => e = .returned (.int .i64 (firstN ns ord (ik k s c) : Int)) ∧ Below (grow (redrawn wr d) os).heap.size (grow (redrawn wr d) os) w') := fun d os => rseek_any base most an ao cn co ns ord k s c _ (H0.later (below_regrown wr d os)) hl
  have HD : Hid (∀ d os, Calls Try.prog 43 #[.agg #[.int .i64 (most : Int), .slice an ns.length cn, .slice ao ord.length co], .agg #[.string k, .int .u64 s, .int .i64 c]] (grow (redrawn wr d) os) fun e w' => e = .returned (.int .i64 (lastB ns ord (ik k s c) 0 : Int)) ∧ Below (grow (redrawn wr d) os).heap.size (grow (redrawn wr d) os) w') := fun d os => rbefore_any base most an ao cn co ns ord k s c _ (H0.later (below_regrown wr d os)) hl
  generalize firstN ns ord (ik k s c) = x1 at *
  generalize lastB ns ord (ik k s c) 0 = x2 at *
  have d0 := fun d os => cell_regrown R0.c0 d os
  have d1 := fun d os => cell_regrown R0.c1 d os
  have d2 := fun d os => cell_regrown R0.c2 d os
  have d3 := fun d os => cell_regrown a2 d os
  have d4 := fun d os => cell_regrown a3 d os
  have d5 := fun d os => cell_regrown a4 d os
  have d6 := fun d os => cell_regrown a5 d os
  replace hwr := hid hwr
  replace hgk := hid hgk
  replace B0 := hid B0
  replace S0 := hid S0
  replace H0 := hid H0
  replace R0 := hid R0
  replace A0 := hid A0
  replace hol := hid hol
  replace G := hid G
  replace hst := hid hst
  clear S H hkd
  go_enter Try.func13, Try.ntmps13
  go_wp2_with fail
  rw [← hwr.out, ← hgk.out]
  go_wp2_with fail
  refine (HAm.out _).mono ?_
  rintro e w' ⟨rfl, rfl⟩
  clear HAm
  go_wp2_with fail
  refine wp_region_quiet_below (by kernel_rfl) (by kernel_rfl) ?_
  repeat (first | go_big_quiet_step (first | (go_at_call 40; exact Calls.regrown_of (HA.out _ _)) | (go_at_call 42; exact Calls.regrown_of (HB.out _ _)) | (go_at_call 41; exact Calls.regrown_of (HC.out _ _)) | (go_at_call 43; exact Calls.regrown_of (HD.out _ _))) | quiet_step (first | (go_at_call 40; exact Calls.regrown_of (HA.out _ _)) | (go_at_call 42; exact Calls.regrown_of (HB.out _ _)) | (go_at_call 41; exact Calls.regrown_of (HC.out _ _)) | (go_at_call 43; exact Calls.regrown_of (HD.out _ _))))
  refine wpQuiet_nil ?_
  intro w8 hw8
  have b8 : Below w'.heap.size w' w8 := by
    obtain ⟨⟨dq, osq⟩, hw''⟩ := hw8
    rw [hw'']
    exact below_regrown _ dq osq
  have BF := hid (B0.out.trans (b8.mono B0.out.size))
  clear b8 hw8
  go_wp2_with fail
  go_ret
  exact ⟨rfl, BF.out⟩
set_option maxHeartbeats 4000000 in
set_option maxRecDepth 100000 in
theorem asked_3 (base bs g b most : Nat) (an ao : Option Addr) (cn co : Nat) (ns : List N) (ord : List Nat) (kd ht n : Int) (k : ByteArray) (s c : Int) (v : ByteArray) (w : World) (S : SL w bs g b most ns ord) (H : RL w base an ao cn co ns ord) (hl : ns.length ≤ 1048576) (hst : Strs ns) (hkd : kd % 8 = 3) :
    Calls Try.prog 13 #[.pointer (some ⟨g, 0, none⟩), .agg #[.int .i64 (most : Int), .slice an ns.length cn, .slice ao ord.length co], .agg #[.int .i64 kd, .int .i64 ht, .int .i64 n, .string k, .int .u64 s, .int .i64 c, .string v]] w fun e w' => e = .returned (.bool true) ∧ Below w.heap.size w w' := by
  obtain ⟨gk, hgk⟩ : ∃ gk, gk = w.heap.size := ⟨_, rfl⟩
  obtain ⟨wa, hwa⟩ : ∃ wa, wa = w.alloc (.cells #[.int .i64 (most : Int), .slice an ns.length cn, .slice ao ord.length co] 30) := ⟨_, rfl⟩
  obtain ⟨wr, hwr⟩ : ∃ wr, wr = wa.alloc (.cells #[.int .i64 kd, .int .i64 ht, .int .i64 n, .string k, .int .u64 s, .int .i64 c, .string v] 38) := ⟨_, rfl⟩
  have b1 : Below w.heap.size w wa := by rw [hwa]; exact box_below _ _
  have b2 : Below wa.heap.size wa wr := by rw [hwr]; exact box_below _ _
  have s1 : wa.heap.size = gk + 1 := by rw [hwa, size_alloc, hgk]
  have B0 : Below w.heap.size w wr := b1.trans (b2.mono b1.size)
  have R0 : RB wr gk most an ao cn co ns.length ord.length := (b2.block _ (by omega)).trans (by rw [hwa, hgk]; exact new_at _ _)
  have A0 : wr.heap[gk + 1]? = some (.cells #[.int .i64 kd, .int .i64 ht, .int .i64 n, .string k, .int .u64 s, .int .i64 c, .string v] 38) := by rw [← s1, hwr]; exact new_at _ _
  rw [hwa] at hwr
  clear b1 b2 s1 hwa
  have S0 := S.later B0
  have H0 := H.later B0
  have hol := H.G.len
  have G := H.G
  have HAm : Hid (∀ W, Calls Try.prog 12 #[.int .i64 kd, .int .i64 8] W fun e w' => e = .returned (.int .i64 3) ∧ w' = W) := fun W => by
    have := among_any kd 8 W (by omega)
    rwa [show kd % ((8 : Nat) : Int) = 3 from hkd] at this
  have a0 := cell_of A0 0 (.int .i64 kd) rfl
  have a2 := cell_of A0 2 (.int .i64 n) rfl
  have a3 := cell_of A0 3 (.string k) rfl
  have a4 := cell_of A0 4 (.int .u64 s) rfl
  have a5 := cell_of A0 5 (.int .i64 c) rfl
  have key : ∃ x1 x2 : Int, (∀ W, SL W bs g b most ns ord → Calls Try.prog 44 #[.pointer (some ⟨g, 0, none⟩), .int .i64 n] W fun e w' => e = .returned (.int .i64 x1) ∧ Below W.heap.size W w') ∧ (∀ W, SL W bs g b most ns ord → Calls Try.prog 46 #[.pointer (some ⟨g, 0, none⟩), .int .i64 n] W fun e w' => e = .returned (.int .i64 x2) ∧ Below W.heap.size W w') ∧ (∀ W, RL W base an ao cn co ns ord → Calls Try.prog 45 #[.agg #[.int .i64 (most : Int), .slice an ns.length cn, .slice ao ord.length co], .int .i64 n] W fun e w' => e = .returned (.int .i64 x1) ∧ Below W.heap.size W w') ∧ (∀ W, RL W base an ao cn co ns ord → Calls Try.prog 47 #[.agg #[.int .i64 (most : Int), .slice an ns.length cn, .slice ao ord.length co], .int .i64 n] W fun e w' => e = .returned (.int .i64 x2) ∧ Below W.heap.size W w') := by
    by_cases hn : n < 1 ∨ (ns.length : Int) < n
    · exact ⟨0, 0, fun W hW => (LsS.next_out bs g b most ns ord n W hW hn).mono fun _ _ h => below_self h, fun W hW => (LsS.prev_out bs g b most ns ord n W hW hn).mono fun _ _ h => below_self h, fun W hW => rnext_out base most an ao cn co ns ord n W hW hl hn, fun W hW => rprev_out base most an ao cn co ns ord n W hW hl hn⟩
    · obtain ⟨m, rfl⟩ : ∃ m : Nat, n = m := ⟨n.toNat, by omega⟩
      obtain ⟨p, q, e⟩ := List.append_of_mem ((G.mem m).2 (by omega))
      exact ⟨_, _, fun W hW => (GsS.nextof_any bs g b most ns ord p q m W hW e).mono fun _ _ h => below_self h, fun W hW => GsS.prevof_any bs g b most ns ord p q m W hW e, fun W hW => rnext_in base most an ao cn co ns ord p q m W hW hl e, fun W hW => rprev_in base most an ao cn co ns ord p q m W hW hl e⟩
  obtain ⟨x1, x2, K1, K2, K3, K4⟩ := key
  have HA : Hid (∀ d os, Calls Try.prog 44 #[.pointer (some ⟨g, 0, none⟩), .int .i64 n] (grow (redrawn wr d) os) fun e w' => e = .returned (.int .i64 x1) ∧ Below (grow (redrawn wr d) os).heap.size (grow (redrawn wr d) os) w') := fun d os => K1 _ (S0.later (below_regrown wr d os))
  have HB : Hid (∀ d os, Calls Try.prog 46 #[.pointer (some ⟨g, 0, none⟩), .int .i64 n] (grow (redrawn wr d) os) fun e w' => e = .returned (.int .i64 x2) ∧ Below (grow (redrawn wr d) os).heap.size (grow (redrawn wr d) os) w') := fun d os => K2 _ (S0.later (below_regrown wr d os))
  have HC : Hid (∀ d os, Calls Try.prog 45 #[.agg #[.int .i64 (most : Int), .slice an ns.length cn, .slice ao ord.length co], .int .i64 n] (grow (redrawn wr d) os) fun e w' => e = .returned (.int .i64 x1) ∧ Below (grow (redrawn wr d) os).heap.size (grow (redrawn wr d) os) w') := fun d os => K3 _ (H0.later (below_regrown wr d os))
  have HD : Hid (∀ d os, Calls Try.prog 47 #[.agg #[.int .i64 (most : Int), .slice an ns.length cn, .slice ao ord.length co], .int .i64 n] (grow (redrawn wr d) os) fun e w' => e = .returned (.int .i64 x2) ∧ Below (grow (redrawn wr d) os).heap.size (grow (redrawn wr d) os) w') := fun d os => K4 _ (H0.later (below_regrown wr d os))
  clear K1 K2 K3 K4
  have d0 := fun d os => cell_regrown R0.c0 d os
  have d1 := fun d os => cell_regrown R0.c1 d os
  have d2 := fun d os => cell_regrown R0.c2 d os
  have d3 := fun d os => cell_regrown a2 d os
  have d4 := fun d os => cell_regrown a3 d os
  have d5 := fun d os => cell_regrown a4 d os
  have d6 := fun d os => cell_regrown a5 d os
  replace hwr := hid hwr
  replace hgk := hid hgk
  replace B0 := hid B0
  replace S0 := hid S0
  replace H0 := hid H0
  replace R0 := hid R0
  replace A0 := hid A0
  replace hol := hid hol
  replace G := hid G
  replace hst := hid hst
  clear S H hkd
  go_enter Try.func13, Try.ntmps13
  go_wp2_with fail
  rw [← hwr.out, ← hgk.out]
  go_wp2_with fail
  refine (HAm.out _).mono ?_
  rintro e w' ⟨rfl, rfl⟩
  clear HAm
  go_wp2_with fail
  refine wp_region_quiet_below (by kernel_rfl) (by kernel_rfl) ?_
  repeat (first | go_big_quiet_step (first | (go_at_call 44; exact Calls.regrown_of (HA.out _ _)) | (go_at_call 46; exact Calls.regrown_of (HB.out _ _)) | (go_at_call 45; exact Calls.regrown_of (HC.out _ _)) | (go_at_call 47; exact Calls.regrown_of (HD.out _ _))) | quiet_step (first | (go_at_call 44; exact Calls.regrown_of (HA.out _ _)) | (go_at_call 46; exact Calls.regrown_of (HB.out _ _)) | (go_at_call 45; exact Calls.regrown_of (HC.out _ _)) | (go_at_call 47; exact Calls.regrown_of (HD.out _ _))))
  refine wpQuiet_nil ?_
  intro w8 hw8
  have b8 : Below w'.heap.size w' w8 := by
    obtain ⟨⟨dq, osq⟩, hw''⟩ := hw8
    rw [hw'']
    exact below_regrown _ dq osq
  have BF := hid (B0.out.trans (b8.mono B0.out.size))
  clear b8 hw8
  go_wp2_with fail
  go_ret
  exact ⟨rfl, BF.out⟩
set_option maxHeartbeats 4000000 in
set_option maxRecDepth 100000 in
theorem asked_7 (base bs g b most : Nat) (an ao : Option Addr) (cn co : Nat) (ns : List N) (ord : List Nat) (kd ht n : Int) (k : ByteArray) (s c : Int) (v : ByteArray) (w : World) (S : SL w bs g b most ns ord) (H : RL w base an ao cn co ns ord) (hl : ns.length ≤ 1048576) (hst : Strs ns) (hkd : kd % 8 = 7) :
    Calls Try.prog 13 #[.pointer (some ⟨g, 0, none⟩), .agg #[.int .i64 (most : Int), .slice an ns.length cn, .slice ao ord.length co], .agg #[.int .i64 kd, .int .i64 ht, .int .i64 n, .string k, .int .u64 s, .int .i64 c, .string v]] w fun e w' => e = .returned (.bool true) ∧ Below w.heap.size w w' := by
  obtain ⟨gk, hgk⟩ : ∃ gk, gk = w.heap.size := ⟨_, rfl⟩
  obtain ⟨wa, hwa⟩ : ∃ wa, wa = w.alloc (.cells #[.int .i64 (most : Int), .slice an ns.length cn, .slice ao ord.length co] 30) := ⟨_, rfl⟩
  obtain ⟨wr, hwr⟩ : ∃ wr, wr = wa.alloc (.cells #[.int .i64 kd, .int .i64 ht, .int .i64 n, .string k, .int .u64 s, .int .i64 c, .string v] 38) := ⟨_, rfl⟩
  have b1 : Below w.heap.size w wa := by rw [hwa]; exact box_below _ _
  have b2 : Below wa.heap.size wa wr := by rw [hwr]; exact box_below _ _
  have s1 : wa.heap.size = gk + 1 := by rw [hwa, size_alloc, hgk]
  have B0 : Below w.heap.size w wr := b1.trans (b2.mono b1.size)
  have R0 : RB wr gk most an ao cn co ns.length ord.length := (b2.block _ (by omega)).trans (by rw [hwa, hgk]; exact new_at _ _)
  have A0 : wr.heap[gk + 1]? = some (.cells #[.int .i64 kd, .int .i64 ht, .int .i64 n, .string k, .int .u64 s, .int .i64 c, .string v] 38) := by rw [← s1, hwr]; exact new_at _ _
  rw [hwa] at hwr
  clear b1 b2 s1 hwa
  have S0 := S.later B0
  have H0 := H.later B0
  have hol := H.G.len
  have G := H.G
  have HAm : Hid (∀ W, Calls Try.prog 12 #[.int .i64 kd, .int .i64 8] W fun e w' => e = .returned (.int .i64 7) ∧ w' = W) := fun W => by
    have := among_any kd 8 W (by omega)
    rwa [show kd % ((8 : Nat) : Int) = 7 from hkd] at this
  have a0 := cell_of A0 0 (.int .i64 kd) rfl
  have a2 := cell_of A0 2 (.int .i64 n) rfl
  have a3 := cell_of A0 3 (.string k) rfl
  have a4 := cell_of A0 4 (.int .u64 s) rfl
  have a5 := cell_of A0 5 (.int .i64 c) rfl
  have hlen : Hid (∀ W, SL W bs g b most ns ord → Calls Try.prog 16 #[.pointer (some ⟨g, 0, none⟩)] W fun e w' => e = .returned (.int .i64 (ns.length : Int)) ∧ Below W.heap.size W w') := fun W hW => by
    obtain ⟨cap, tw, HL, G, L⟩ := hW
    exact (MmS.len_any g most (top ns) b ns.length cap W HL.hd HL.m1 hl).mono fun _ _ h => below_self h
  have hhei : Hid (∀ W, SL W bs g b most ns ord → Calls Try.prog 58 #[.pointer (some ⟨g, 0, none⟩)] W fun e w' => e = .returned (.int .i64 (top ns : Int)) ∧ Below W.heap.size W w') := fun W hW => by
    obtain ⟨cap, tw, HL, G, L⟩ := hW
    exact (MmS.height_any g most (top ns) b _ cap W HL.hd HL.m1).mono fun _ _ h => below_self h
  have HA : Hid (∀ d os, Calls Try.prog 54 #[.pointer (some ⟨g, 0, none⟩)] (grow (redrawn wr d) os) fun e w' => e = .returned (.int .i64 (hz ord : Int)) ∧ Below (grow (redrawn wr d) os).heap.size (grow (redrawn wr d) os) w') := fun d os => (GsS.firstof_any bs g b most ns ord _ (S0.later (below_regrown wr d os))).mono fun _ _ h => below_self h
  have HB : Hid (∀ d os, Calls Try.prog 56 #[.pointer (some ⟨g, 0, none⟩)] (grow (redrawn wr d) os) fun e w' => e = .returned (.int .i64 ((ord.getLastD 0 : Nat) : Int)) ∧ Below (grow (redrawn wr d) os).heap.size (grow (redrawn wr d) os) w') := fun d os => (LsS.lastof_any bs g b most ns ord _ (S0.later (below_regrown wr d os))).mono fun _ _ h => below_self h
  have HC : Hid (∀ d os, Calls Try.prog 55 #[.agg #[.int .i64 (most : Int), .slice an ns.length cn, .slice ao ord.length co]] (grow (redrawn wr d) os) fun e w' => e = .returned (.int .i64 ((hz ord : Nat) : Int)) ∧ Below (grow (redrawn wr d) os).heap.size (grow (redrawn wr d) os) w') := fun d os => rfirst_any base most an ao cn co ns ord _ (H0.later (below_regrown wr d os)) hl
  have HD : Hid (∀ d os, Calls Try.prog 57 #[.agg #[.int .i64 (most : Int), .slice an ns.length cn, .slice ao ord.length co]] (grow (redrawn wr d) os) fun e w' => e = .returned (.int .i64 ((ord.getLastD 0 : Nat) : Int)) ∧ Below (grow (redrawn wr d) os).heap.size (grow (redrawn wr d) os) w') := fun d os => rlast_any base most an ao cn co ns ord _ (H0.later (below_regrown wr d os)) hl
  have HE : Hid (∀ d os, Calls Try.prog 16 #[.pointer (some ⟨g, 0, none⟩)] (grow (redrawn wr d) os) fun e w' => e = .returned (.int .i64 (ns.length : Int)) ∧ Below (grow (redrawn wr d) os).heap.size (grow (redrawn wr d) os) w') := fun d os => hlen.out _ (S0.later (below_regrown wr d os))
  have HF : Hid (∀ d os, Calls Try.prog 58 #[.pointer (some ⟨g, 0, none⟩)] (grow (redrawn wr d) os) fun e w' => e = .returned (.int .i64 (top ns : Int)) ∧ Below (grow (redrawn wr d) os).heap.size (grow (redrawn wr d) os) w') := fun d os => hhei.out _ (S0.later (below_regrown wr d os))
  have HG : Hid (∀ d os, Calls Try.prog 59 #[.agg #[.int .i64 (most : Int), .slice an ns.length cn, .slice ao ord.length co]] (grow (redrawn wr d) os) fun e w' => e = .returned (.int .i64 (top ns : Int)) ∧ Below (grow (redrawn wr d) os).heap.size (grow (redrawn wr d) os) w') := fun d os => rheight_any base most an ao cn co ns ord _ (H0.later (below_regrown wr d os)) hl
  generalize hz ord = x1 at *
  generalize ord.getLastD 0 = x2 at *
  generalize top ns = x3 at *
  have d0 := fun d os => cell_regrown R0.c0 d os
  have d1 := fun d os => cell_regrown R0.c1 d os
  have d2 := fun d os => cell_regrown R0.c2 d os
  have d3 := fun d os => cell_regrown a2 d os
  have d4 := fun d os => cell_regrown a3 d os
  have d5 := fun d os => cell_regrown a4 d os
  have d6 := fun d os => cell_regrown a5 d os
  replace hwr := hid hwr
  replace hgk := hid hgk
  replace B0 := hid B0
  replace S0 := hid S0
  replace H0 := hid H0
  replace R0 := hid R0
  replace A0 := hid A0
  replace hol := hid hol
  replace G := hid G
  replace hst := hid hst
  clear S H hkd
  go_enter Try.func13, Try.ntmps13
  go_wp2_with fail
  rw [← hwr.out, ← hgk.out]
  go_wp2_with fail
  refine (HAm.out _).mono ?_
  rintro e w' ⟨rfl, rfl⟩
  clear HAm
  go_wp2_with fail
  refine wp_region_quiet_below (by kernel_rfl) (by kernel_rfl) ?_
  repeat (first | go_big_quiet_step (first | (go_at_call 54; exact Calls.regrown_of (HA.out _ _)) | (go_at_call 56; exact Calls.regrown_of (HB.out _ _)) | (go_at_call 55; exact Calls.regrown_of (HC.out _ _)) | (go_at_call 57; exact Calls.regrown_of (HD.out _ _)) | (go_at_call 16; exact Calls.regrown_of (HE.out _ _)) | (go_at_call 58; exact Calls.regrown_of (HF.out _ _)) | (go_at_call 59; exact Calls.regrown_of (HG.out _ _))) | quiet_step (first | (go_at_call 54; exact Calls.regrown_of (HA.out _ _)) | (go_at_call 56; exact Calls.regrown_of (HB.out _ _)) | (go_at_call 55; exact Calls.regrown_of (HC.out _ _)) | (go_at_call 57; exact Calls.regrown_of (HD.out _ _)) | (go_at_call 16; exact Calls.regrown_of (HE.out _ _)) | (go_at_call 58; exact Calls.regrown_of (HF.out _ _)) | (go_at_call 59; exact Calls.regrown_of (HG.out _ _))))
  refine wpQuiet_nil ?_
  intro w8 hw8
  have b8 : Below w'.heap.size w' w8 := by
    obtain ⟨⟨dq, osq⟩, hw''⟩ := hw8
    rw [hw'']
    exact below_regrown _ dq osq
  have BF := hid (B0.out.trans (b8.mono B0.out.size))
  clear b8 hw8
  go_wp2_with fail
  go_ret
  exact ⟨rfl, BF.out⟩
end Go.Proofs.Ythnmoidfdojoiaa.As

/- The document's list, asked. -/
import Derived.Test.YthnmoidfdojoiaaRl
namespace Go.Proofs.Ythnmoidfdojoiaa.Rn
open Go.ChangeShapes Go.WideShapes Go.ChangeAt Go.RowKit
open Go.Sort (grow)
open Go.Proofs.Ythnmoidfdojoiaa.Ik
open Go.Proofs.Ythnmoidfdojoiaa.Sg
open Go.Proofs.Ythnmoidfdojoiaa.Cm (ik)
open Go.Proofs.Ythnmoidfdojoiaa.Vl
open Go.Proofs.Ythnmoidfdojoiaa.Mm
open Go.Proofs.Ythnmoidfdojoiaa.Tr
open Go.Proofs.Ythnmoidfdojoiaa.Li
open Go.Proofs.Ythnmoidfdojoiaa.In
open Go.Proofs.Ythnmoidfdojoiaa.Oi
open Go.Proofs.Ythnmoidfdojoiaa.Rc
open Go.Proofs.Ythnmoidfdojoiaa.Rl
open Go.Proofs.Ythnmoidfdojoiaa.Fi (first_eq)
set_option linter.unusedVariables false
set_option linter.unusedSimpArgs false
set_option maxHeartbeats 2000000 in
set_option maxRecDepth 100000 in
theorem rseek_any (base most : Nat) (an ao : Option Addr) (cn co : Nat) (ns : List N) (ord : List Nat) (k : ByteArray) (s c : Int) (w : World) (H : RL w base an ao cn co ns ord) (hl : ns.length ≤ 1048576) :
    Calls Try.prog 41 #[.agg #[.int .i64 (most : Int), .slice an ns.length cn, .slice ao ord.length co], .agg #[.string k, .int .u64 s, .int .i64 c]] w fun e w' => e = .returned (.int .i64 (firstN ns ord (ik k s c) : Int)) ∧ Below w.heap.size w w' := by
  obtain ⟨gk, hgk⟩ : ∃ gk, gk = w.heap.size := ⟨_, rfl⟩
  obtain ⟨wr, hwr⟩ : ∃ wr, wr = (w.alloc (.cells #[.int .i64 (most : Int), .slice an ns.length cn, .slice ao ord.length co] 30)).alloc (.cells #[.string k, .int .u64 s, .int .i64 c] 36) := ⟨_, rfl⟩
  obtain ⟨B0, R0, K0⟩ := boxR _ _ w wr hwr
  rw [← hgk] at R0 K0
  have R0 : RB wr gk most an ao cn co ns.length ord.length := R0
  have K0 : Bx wr (gk + 1) k s c := K0
  have H0 := H.later B0
  have hol := H.G.len
  have hpl := plc_le ns ord (ik k s c)
  have G := H.G
  have HP : Hid (∀ d os, Calls Try.prog 67 #[.agg #[.int .i64 (most : Int), .slice an ns.length cn, .slice ao ord.length co], .agg #[.string k, .int .u64 s, .int .i64 c]] (grow (redrawn wr d) os) fun e w' => e = .returned (.int .i64 (plc ns ord (ik k s c) : Int)) ∧ Below (grow (redrawn wr d) os).heap.size (grow (redrawn wr d) os) w') := fun d os => place_any base most an ao cn co ns ord k s c _ (H0.later (below_regrown wr d os)) hl
  have HA : Hid (∀ d os, Calls Try.prog 80 #[.agg #[.int .i64 (most : Int), .slice an ns.length cn, .slice ao ord.length co], .int .i64 (plc ns ord (ik k s c) : Int)] (grow (redrawn wr d) os) fun e w' => e = .returned (.int .i64 (firstN ns ord (ik k s c) : Int)) ∧ Below (grow (redrawn wr d) os).heap.size (grow (redrawn wr d) os) w') := fun d os => by
    have := at_any base most an ao cn co ns ord ((plc ns ord (ik k s c) : Int)) _ (H0.later (below_regrown wr d os)) (by omega)
    rwa [if_neg (by omega), Int.toNat_natCast, first_plc G] at this
  have d0 := fun d os => cell_regrown R0.c0 d os
  have d1 := fun d os => cell_regrown R0.c1 d os
  have d2 := fun d os => cell_regrown R0.c2 d os
  have d3 := fun d os => cell_regrown K0.c0 d os
  have d4 := fun d os => cell_regrown K0.c1 d os
  have d5 := fun d os => cell_regrown K0.c2 d os
  have hP1 : plc ns ord (ik k s c) ≤ 1048576 := by omega
  generalize hP : plc ns ord (ik k s c) = P at *
  replace hP := hid hP
  replace hwr := hid hwr
  replace hgk := hid hgk
  replace B0 := hid B0
  replace G := hid G
  replace hpl := hid hpl
  replace hol := hid hol
  clear H H0 R0 K0
  go_enter Try.func41, Try.ntmps41
  go_wp2_with fail
  rw [← hwr.out, ← hgk.out]
  refine wp_region_quiet_below (by kernel_rfl) (by kernel_rfl) ?_
  repeat (first | go_big_quiet_step (first | (go_at_call 67; exact Calls.regrown_of (HP.out _ _)) | (go_at_call 80; exact Calls.regrown_of (HA.out _ _))) | quiet_step (first | (go_at_call 67; exact Calls.regrown_of (HP.out _ _)) | (go_at_call 80; exact Calls.regrown_of (HA.out _ _))))
  refine wpQuiet_nil ?_
  intro w8 hw8
  have b8 : Below wr.heap.size wr w8 := by
    obtain ⟨⟨dq, osq⟩, hw''⟩ := hw8
    rw [hw'']
    exact below_regrown _ dq osq
  have BF := hid (B0.out.trans (b8.mono B0.out.size))
  go_wp2_with fail
  go_ret
  exact ⟨rfl, BF.out⟩
set_option maxHeartbeats 2000000 in
set_option maxRecDepth 100000 in
theorem rbefore_any (base most : Nat) (an ao : Option Addr) (cn co : Nat) (ns : List N) (ord : List Nat) (k : ByteArray) (s c : Int) (w : World) (H : RL w base an ao cn co ns ord) (hl : ns.length ≤ 1048576) :
    Calls Try.prog 43 #[.agg #[.int .i64 (most : Int), .slice an ns.length cn, .slice ao ord.length co], .agg #[.string k, .int .u64 s, .int .i64 c]] w fun e w' => e = .returned (.int .i64 (lastB ns ord (ik k s c) 0 : Int)) ∧ Below w.heap.size w w' := by
  obtain ⟨gk, hgk⟩ : ∃ gk, gk = w.heap.size := ⟨_, rfl⟩
  obtain ⟨wr, hwr⟩ : ∃ wr, wr = (w.alloc (.cells #[.int .i64 (most : Int), .slice an ns.length cn, .slice ao ord.length co] 30)).alloc (.cells #[.string k, .int .u64 s, .int .i64 c] 36) := ⟨_, rfl⟩
  obtain ⟨B0, R0, K0⟩ := boxR _ _ w wr hwr
  rw [← hgk] at R0 K0
  have R0 : RB wr gk most an ao cn co ns.length ord.length := R0
  have K0 : Bx wr (gk + 1) k s c := K0
  have H0 := H.later B0
  have hol := H.G.len
  have hpl := plc_le ns ord (ik k s c)
  have G := H.G
  have HP : Hid (∀ d os, Calls Try.prog 67 #[.agg #[.int .i64 (most : Int), .slice an ns.length cn, .slice ao ord.length co], .agg #[.string k, .int .u64 s, .int .i64 c]] (grow (redrawn wr d) os) fun e w' => e = .returned (.int .i64 (plc ns ord (ik k s c) : Int)) ∧ Below (grow (redrawn wr d) os).heap.size (grow (redrawn wr d) os) w') := fun d os => place_any base most an ao cn co ns ord k s c _ (H0.later (below_regrown wr d os)) hl
  have hz : (if (plc ns ord (ik k s c) : Int) - 1 < 0 then 0 else ord.getD ((plc ns ord (ik k s c) : Int) - 1).toNat 0) = lastB ns ord (ik k s c) 0 := by
    by_cases h0 : plc ns ord (ik k s c) = 0
    · rw [if_pos (by omega), last_zero G _ h0]
    · rw [if_neg (by omega), ← last_plc G _ (by omega)]
      congr 1
      omega
  have HA : Hid (∀ d os, Calls Try.prog 80 #[.agg #[.int .i64 (most : Int), .slice an ns.length cn, .slice ao ord.length co], .int .i64 ((plc ns ord (ik k s c) : Int) - 1)] (grow (redrawn wr d) os) fun e w' => e = .returned (.int .i64 (lastB ns ord (ik k s c) 0 : Int)) ∧ Below (grow (redrawn wr d) os).heap.size (grow (redrawn wr d) os) w') := fun d os => by
    have := at_any base most an ao cn co ns ord ((plc ns ord (ik k s c) : Int) - 1) _ (H0.later (below_regrown wr d os)) (by omega)
    rwa [hz] at this
  clear hz
  have d0 := fun d os => cell_regrown R0.c0 d os
  have d1 := fun d os => cell_regrown R0.c1 d os
  have d2 := fun d os => cell_regrown R0.c2 d os
  have d3 := fun d os => cell_regrown K0.c0 d os
  have d4 := fun d os => cell_regrown K0.c1 d os
  have d5 := fun d os => cell_regrown K0.c2 d os
  have hP1 : plc ns ord (ik k s c) ≤ 1048576 := by omega
  generalize hP : plc ns ord (ik k s c) = P at *
  replace hP := hid hP
  replace hwr := hid hwr
  replace hgk := hid hgk
  replace B0 := hid B0
  replace G := hid G
  replace hpl := hid hpl
  replace hol := hid hol
  clear H H0 R0 K0
  go_enter Try.func43, Try.ntmps43
  go_wp2_with fail
  rw [← hwr.out, ← hgk.out]
  refine wp_region_quiet_below (by kernel_rfl) (by kernel_rfl) ?_
  repeat (first | go_big_quiet_step (first | (go_at_call 67; exact Calls.regrown_of (HP.out _ _)) | (go_at_call 80; exact Calls.regrown_of (HA.out _ _))) | quiet_step (first | (go_at_call 67; exact Calls.regrown_of (HP.out _ _)) | (go_at_call 80; exact Calls.regrown_of (HA.out _ _))))
  refine wpQuiet_nil ?_
  intro w8 hw8
  have b8 : Below wr.heap.size wr w8 := by
    obtain ⟨⟨dq, osq⟩, hw''⟩ := hw8
    rw [hw'']
    exact below_regrown _ dq osq
  have BF := hid (B0.out.trans (b8.mono B0.out.size))
  go_wp2_with fail
  go_ret
  exact ⟨rfl, BF.out⟩
set_option maxHeartbeats 2000000 in
set_option maxRecDepth 100000 in
theorem rfind_any (base most : Nat) (an ao : Option Addr) (cn co : Nat) (ns : List N) (ord : List Nat) (k : ByteArray) (s c : Int) (w : World) (H : RL w base an ao cn co ns ord) (hl : ns.length ≤ 1048576) :
    Calls Try.prog 66 #[.agg #[.int .i64 (most : Int), .slice an ns.length cn, .slice ao ord.length co], .agg #[.string k, .int .u64 s, .int .i64 c]] w fun e w' => e = .returned (.int .i64 ((if thr ns ord (ik k s c) then firstN ns ord (ik k s c) else 0 : Nat) : Int)) ∧ Below w.heap.size w w' := by
  obtain ⟨gk, hgk⟩ : ∃ gk, gk = w.heap.size := ⟨_, rfl⟩
  obtain ⟨wr, hwr⟩ : ∃ wr, wr = (w.alloc (.cells #[.int .i64 (most : Int), .slice an ns.length cn, .slice ao ord.length co] 30)).alloc (.cells #[.string k, .int .u64 s, .int .i64 c] 36) := ⟨_, rfl⟩
  obtain ⟨B0, R0, K0⟩ := boxR _ _ w wr hwr
  rw [← hgk] at R0 K0
  have R0 : RB wr gk most an ao cn co ns.length ord.length := R0
  have K0 : Bx wr (gk + 1) k s c := K0
  have H0 := H.later B0
  have hol := H.G.len
  have G := H.G
  have HS := hid (rseek_any base most an ao cn co ns ord k s c wr H0 hl)
  have e0 := R0.c0
  have e1 := R0.c1
  have e2 := R0.c2
  have e3 := K0.c0
  have e4 := K0.c1
  have e5 := K0.c2
  have hth : thr ns ord (ik k s c) = decide (firstN ns ord (ik k s c) ≠ 0 ∧ cmp (key ns (firstN ns ord (ik k s c))) (ik k s c) = 0) := rfl
  have hfm : firstN ns ord (ik k s c) ≠ 0 → 1 ≤ firstN ns ord (ik k s c) ∧ firstN ns ord (ik k s c) ≤ ns.length := fun h => (G.mem _).1 (first_mem G _ h).1
  obtain ⟨f, hf⟩ : ∃ f, f = firstN ns ord (ik k s c) := ⟨_, rfl⟩
  rw [← hf] at hth hfm HS
  obtain ⟨T, hT⟩ : ∃ T, T = thr ns ord (ik k s c) := ⟨_, rfl⟩
  rw [← hf, ← hT]
  rw [← hT] at hth
  clear hT hf
  replace hwr := hid hwr
  replace hgk := hid hgk
  replace B0 := hid B0
  replace G := hid G
  replace hol := hid hol
  replace R0 := hid R0
  replace K0 := hid K0
  replace H0 := hid H0
  replace hth := hid hth
  replace hfm := hid hfm
  clear H
  go_enter Try.func66, Try.ntmps66
  go_wp2_with fail
  rw [← hwr.out, ← hgk.out]
  go_wp2_with fail
  refine HS.out.mono ?_
  rintro e wq ⟨rfl, b1⟩
  have B1 := hid (B0.out.trans (b1.mono B0.out.size))
  replace R0 := hid (R0.out.later b1)
  replace K0 := hid (K0.out.later b1)
  replace H0 := hid (H0.out.later b1)
  clear b1 e0 e1 e2 e3 e4 e5 HS hwr B0
  generalize hwr : wq = wr at *
  clear hwr
  by_cases h0 : f = 0
  · subst h0
    have hT : T = false := by rw [hth.out]; simp
    subst hT
    clear hth hfm
    go_wp2_with fail
    refine wp_region_quiet_below (by kernel_rfl) (by kernel_rfl) ?_
    repeat (first | go_big_quiet_step (first | (go_at_call 87; exact Calls.regrown_of (rcompare_any _ _ _ _ _ _ _))) | quiet_step (first | (go_at_call 87; exact Calls.regrown_of (rcompare_any _ _ _ _ _ _ _))))
    refine wpQuiet_nil ?_
    intro w8 hw8
    have b8 : Below wr.heap.size wr w8 := by
      obtain ⟨⟨dq, osq⟩, hw''⟩ := hw8
      rw [hw'']
      exact below_regrown _ dq osq
    have BF := hid (B1.out.trans (b8.mono B1.out.size))
    clear b8 hw8
    go_wp2_with fail
    go_ret
    exact ⟨rfl, BF.out⟩
  · have hn := hfm.out h0
    obtain ⟨gn, hgn⟩ := OwnN.some H0.out.n (by omega)
    subst hgn
    obtain ⟨p0, p1, p2, _, _⟩ := OwnN.cells H0.out.n f hn
    have HCm : Hid (∀ W, Calls Try.prog 87 #[.agg #[.string (nd ns f).k, .int .u64 (nd ns f).s, .int .i64 (nd ns f).c], .agg #[.string k, .int .u64 s, .int .i64 c]] W fun e w' => e = .returned (.int .i64 (cmp (key ns f) (ik k s c))) ∧ Below W.heap.size W w') := fun W => rcompare_any _ _ _ _ _ _ W
    have Rr := R0.out
    have Kr := K0.out
    have d0 := fun d os => cell_regrown p0 d os
    have d1 := fun d os => cell_regrown p1 d os
    have d2 := fun d os => cell_regrown p2 d os
    have d4 := fun d os => cell_regrown Rr.c1 d os
    have d6 := fun d os => cell_regrown Kr.c0 d os
    have d7 := fun d os => cell_regrown Kr.c1 d os
    have d8 := fun d os => cell_regrown Kr.c2 d os
    have hT := hth.out
    generalize cmp (key ns f) (ik k s c) = C at *
    generalize (nd ns f).k = yk at *
    generalize (nd ns f).s = ys at *
    generalize (nd ns f).c = yc at *
    have i1 : (0 : Int) < (f : Int) := by omega
    have i1b : 0 < f := by omega
    have i3 : (f : Int) - 1 < (ns.length : Int) := by omega
    have i4 : 0 ≤ (f : Int) - 1 := by omega
    have i5 : ((f : Int) - 1).toNat = f - 1 := by omega
    clear p0 p1 p2 Rr Kr hth hfm R0 K0 H0
    by_cases hc : C = 0
    · replace hT : T = true := by rw [hT]; simp [h0, hc]
      subst hT
      subst hc
      go_wp2_with fail
      refine wp_region_quiet_below (by kernel_rfl) (by kernel_rfl) ?_
      repeat (first | go_big_quiet_step (first | (go_at_call 87; exact Calls.regrown_of (HCm.out _))) | quiet_step (first | (go_at_call 87; exact Calls.regrown_of (HCm.out _))))
      refine wpQuiet_nil ?_
      intro w8 hw8
      have b8 : Below wr.heap.size wr w8 := by
        obtain ⟨⟨dq, osq⟩, hw''⟩ := hw8
        rw [hw'']
        exact below_regrown _ dq osq
      have BF := hid (B1.out.trans (b8.mono B1.out.size))
      clear b8 hw8 d0 d1 d2 d4 d6 d7 d8 HCm
      go_wp2_with fail
      go_ret
      exact ⟨rfl, BF.out⟩
    · replace hT : T = false := by rw [hT]; simp [hc]
      subst hT
      go_wp2_with fail
      refine wp_region_quiet_below (by kernel_rfl) (by kernel_rfl) ?_
      repeat (first | go_big_quiet_step (first | (go_at_call 87; exact Calls.regrown_of (HCm.out _))) | quiet_step (first | (go_at_call 87; exact Calls.regrown_of (HCm.out _))))
      refine wpQuiet_nil ?_
      intro w8 hw8
      have b8 : Below wr.heap.size wr w8 := by
        obtain ⟨⟨dq, osq⟩, hw''⟩ := hw8
        rw [hw'']
        exact below_regrown _ dq osq
      have BF := hid (B1.out.trans (b8.mono B1.out.size))
      clear b8 hw8 d0 d1 d2 d4 d6 d7 d8 HCm
      go_wp2_with fail
      go_ret
      exact ⟨rfl, BF.out⟩
set_option maxHeartbeats 1000000 in
theorem rfirst_any (base most : Nat) (an ao : Option Addr) (cn co : Nat) (ns : List N) (ord : List Nat) (w : World) (H : RL w base an ao cn co ns ord) (hl : ns.length ≤ 1048576) :
    Calls Try.prog 55 #[.agg #[.int .i64 (most : Int), .slice an ns.length cn, .slice ao ord.length co]] w fun e w' => e = .returned (.int .i64 ((hz ord : Nat) : Int)) ∧ Below w.heap.size w w' := by
  obtain ⟨gk, hgk⟩ : ∃ gk, gk = w.heap.size := ⟨_, rfl⟩
  obtain ⟨wr, hwr⟩ : ∃ wr, wr = w.alloc (.cells #[.int .i64 (most : Int), .slice an ns.length cn, .slice ao ord.length co] 30) := ⟨_, rfl⟩
  have B0 : Below w.heap.size w wr := by rw [hwr]; exact box_below _ _
  have R0 : RB wr gk most an ao cn co ns.length ord.length := by rw [hwr, hgk]; exact new_at _ _
  have H0 := H.later B0
  have hol := H.G.len
  have G := H.G
  have HA := at_any base most an ao cn co ns ord (0) wr H0 (by omega)
  rw [if_neg (by omega)] at HA
  have e9 : ord.getD (0 : Int).toNat 0 = hz ord := by cases ord <;> rfl
  rw [e9] at HA
  clear e9
  replace HA := hid HA
  have e0 := R0.c0
  have e1 := R0.c1
  have e2 := R0.c2
  have hol2 : ord.length ≤ 1048576 := by omega
  generalize hz ord = F at *
  replace hwr := hid hwr
  replace hgk := hid hgk
  replace B0 := hid B0
  replace hol := hid hol
  clear H0 H R0 G
  go_enter Try.func55, Try.ntmps55
  go_wp2_with fail
  rw [← hwr.out, ← hgk.out]
  go_wp2_with fail
  refine HA.out.mono ?_
  rintro e wq ⟨rfl, b1⟩
  have BF := hid (B0.out.trans (b1.mono B0.out.size))
  clear b1
  go_wp2_with fail
  go_ret
  exact ⟨rfl, BF.out⟩
set_option maxHeartbeats 1000000 in
theorem rlast_any (base most : Nat) (an ao : Option Addr) (cn co : Nat) (ns : List N) (ord : List Nat) (w : World) (H : RL w base an ao cn co ns ord) (hl : ns.length ≤ 1048576) :
    Calls Try.prog 57 #[.agg #[.int .i64 (most : Int), .slice an ns.length cn, .slice ao ord.length co]] w fun e w' => e = .returned (.int .i64 ((ord.getLastD 0 : Nat) : Int)) ∧ Below w.heap.size w w' := by
  obtain ⟨gk, hgk⟩ : ∃ gk, gk = w.heap.size := ⟨_, rfl⟩
  obtain ⟨wr, hwr⟩ : ∃ wr, wr = w.alloc (.cells #[.int .i64 (most : Int), .slice an ns.length cn, .slice ao ord.length co] 30) := ⟨_, rfl⟩
  have B0 : Below w.heap.size w wr := by rw [hwr]; exact box_below _ _
  have R0 : RB wr gk most an ao cn co ns.length ord.length := by rw [hwr, hgk]; exact new_at _ _
  have H0 := H.later B0
  have hol := H.G.len
  have G := H.G
  have HA := at_any base most an ao cn co ns ord ((ord.length : Int) - 1) wr H0 (by omega)
  have e9 : (if (ord.length : Int) - 1 < 0 then 0 else ord.getD ((ord.length : Int) - 1).toNat 0) = ord.getLastD 0 := by
    by_cases h0 : ord.length = 0
    · rw [if_pos (by omega), List.eq_nil_of_length_eq_zero h0]; rfl
    · rw [if_neg (by omega), List.getD_eq_getElem?_getD, List.getLastD_eq_getLast?, List.getLast?_eq_getElem?, show ((ord.length : Int) - 1).toNat = ord.length - 1 by omega]
  rw [e9] at HA
  clear e9
  replace HA := hid HA
  have e0 := R0.c0
  have e1 := R0.c1
  have e2 := R0.c2
  have hol2 : ord.length ≤ 1048576 := by omega
  generalize ord.getLastD 0 = F at *
  replace hwr := hid hwr
  replace hgk := hid hgk
  replace B0 := hid B0
  replace hol := hid hol
  clear H0 H R0 G
  go_enter Try.func57, Try.ntmps57
  go_wp2_with fail
  rw [← hwr.out, ← hgk.out]
  go_wp2_with fail
  refine HA.out.mono ?_
  rintro e wq ⟨rfl, b1⟩
  have BF := hid (B0.out.trans (b1.mono B0.out.size))
  clear b1
  go_wp2_with fail
  go_ret
  exact ⟨rfl, BF.out⟩
theorem plc_key {ns : List N} {ord : List Nat} (G : Gd ns ord) {p q : List Nat} {n : Nat} (e : ord = p ++ n :: q) : plc ns ord (key ns n) = p.length := by
  have hn : ord[p.length]? = some n := by rw [e, List.getElem?_append_right (Nat.le_refl _)]; simp
  have h1 := plc_iff G (key ns n) p.length n hn
  have h2 : below ns (key ns n) n = false := by unfold below; exact decide_eq_false (cmp_lt_irrefl _)
  rw [h2] at h1
  have h3 : ¬ p.length < plc ns ord (key ns n) := fun h => by simpa using h1.2 h
  by_cases h4 : p.length = 0
  · omega
  · have hl : p.length - 1 < p.length := by omega
    have hm : ord[p.length - 1]? = some (p[p.length - 1]'hl) := by rw [e, List.getElem?_append_left hl, List.getElem?_eq_getElem hl]
    have h5 := plc_iff G (key ns n) _ _ hm
    have h6 : cmp (key ns (p[p.length - 1]'hl)) (key ns n) < 0 := by
      have hr := G.rise
      rw [e] at hr
      exact (List.pairwise_append.1 hr).2.2 _ (List.getElem_mem hl) n (by simp)
    have := h5.1 (decide_eq_true h6)
    omega
set_option maxHeartbeats 2000000 in
set_option maxRecDepth 100000 in
theorem rbeside_out (base most : Nat) (an ao : Option Addr) (cn co : Nat) (ns : List N) (ord : List Nat) (n d : Int) (w : World) (H : RL w base an ao cn co ns ord) (hl : ns.length ≤ 1048576) (hn : n < 1 ∨ (ns.length : Int) < n) :
    Calls Try.prog 82 #[.agg #[.int .i64 (most : Int), .slice an ns.length cn, .slice ao ord.length co], .int .i64 n, .int .i64 d] w fun e w' => e = .returned (.int .i64 0) ∧ Below w.heap.size w w' := by
  obtain ⟨gk, hgk⟩ : ∃ gk, gk = w.heap.size := ⟨_, rfl⟩
  obtain ⟨wr, hwr⟩ : ∃ wr, wr = w.alloc (.cells #[.int .i64 (most : Int), .slice an ns.length cn, .slice ao ord.length co] 30) := ⟨_, rfl⟩
  have B0 : Below w.heap.size w wr := by rw [hwr]; exact box_below _ _
  have R0 : RB wr gk most an ao cn co ns.length ord.length := by rw [hwr, hgk]; exact new_at _ _
  have H0 := H.later B0
  have hol := H.G.len
  have G := H.G
  have e1 := R0.c1
  replace hwr := hid hwr
  replace hgk := hid hgk
  replace B0 := hid B0
  replace hol := hid hol
  clear H0 H R0 G
  by_cases h1 : n < 1
  · clear hn
    go_enter Try.func82, Try.ntmps82
    go_wp2_with fail
    rw [← hwr.out, ← hgk.out]
    go_wp2_with fail
    go_ret
    exact ⟨rfl, by rw [hgk.out]; exact B0.out⟩
  · have h2 : (ns.length : Int) < n := by omega
    clear hn
    go_enter Try.func82, Try.ntmps82
    go_wp2_with fail
    rw [← hwr.out, ← hgk.out]
    go_wp2_with fail
    go_ret
    exact ⟨rfl, by rw [hgk.out]; exact B0.out⟩
set_option maxHeartbeats 2000000 in
set_option maxRecDepth 100000 in
theorem rbeside_in (base most : Nat) (an ao : Option Addr) (cn co : Nat) (ns : List N) (ord : List Nat) (p q : List Nat) (n : Nat) (d : Int) (w : World) (H : RL w base an ao cn co ns ord) (hl : ns.length ≤ 1048576) (he : ord = p ++ n :: q) (hd : -1 ≤ d ∧ d ≤ 1) :
    Calls Try.prog 82 #[.agg #[.int .i64 (most : Int), .slice an ns.length cn, .slice ao ord.length co], .int .i64 (n : Int), .int .i64 d] w fun e w' => e = .returned (.int .i64 ((if (p.length : Int) + d < 0 then 0 else ord.getD ((p.length : Int) + d).toNat 0 : Nat) : Int)) ∧ Below w.heap.size w w' := by
  obtain ⟨gk, hgk⟩ : ∃ gk, gk = w.heap.size := ⟨_, rfl⟩
  obtain ⟨wr, hwr⟩ : ∃ wr, wr = w.alloc (.cells #[.int .i64 (most : Int), .slice an ns.length cn, .slice ao ord.length co] 30) := ⟨_, rfl⟩
  have B0 : Below w.heap.size w wr := by rw [hwr]; exact box_below _ _
  have R0 : RB wr gk most an ao cn co ns.length ord.length := by rw [hwr, hgk]; exact new_at _ _
  have H0 := H.later B0
  have hol := H.G.len
  have G := H.G
  have hn := (G.mem n).1 (by rw [he]; simp)
  have hpl : p.length ≤ ord.length := by rw [he]; simp
  obtain ⟨gn, hgn⟩ := OwnN.some H0.n (by omega)
  subst hgn
  obtain ⟨p0, p1, p2, _, _⟩ := OwnN.cells H0.n n hn
  have hpk : plc ns ord (ik (nd ns n).k (nd ns n).s (nd ns n).c) = p.length := plc_key G he
  have HP : Hid (∀ d os, Calls Try.prog 67 #[.agg #[.int .i64 (most : Int), .slice (some ⟨gn, 0, none⟩) ns.length cn, .slice ao ord.length co], .agg #[.string (nd ns n).k, .int .u64 (nd ns n).s, .int .i64 (nd ns n).c]] (grow (redrawn wr d) os) fun e w' => e = .returned (.int .i64 (p.length : Int)) ∧ Below (grow (redrawn wr d) os).heap.size (grow (redrawn wr d) os) w') := fun d os => by
    have := place_any base most _ ao cn co ns ord (nd ns n).k (nd ns n).s (nd ns n).c _ (H0.later (below_regrown wr d os)) hl
    rwa [hpk] at this
  have HA : Hid (∀ b os, Calls Try.prog 80 #[.agg #[.int .i64 (most : Int), .slice (some ⟨gn, 0, none⟩) ns.length cn, .slice ao ord.length co], .int .i64 ((p.length : Int) + d)] (grow (redrawn wr b) os) fun e w' => e = .returned (.int .i64 ((if (p.length : Int) + d < 0 then 0 else ord.getD ((p.length : Int) + d).toNat 0 : Nat) : Int)) ∧ Below (grow (redrawn wr b) os).heap.size (grow (redrawn wr b) os) w') := fun b os => at_any base most _ ao cn co ns ord _ _ (H0.later (below_regrown wr b os)) (by omega)
  have e1 := R0.c1
  have d0 := fun d os => cell_regrown p0 d os
  have d1 := fun d os => cell_regrown p1 d os
  have d2 := fun d os => cell_regrown p2 d os
  have d3 := fun d os => cell_regrown R0.c0 d os
  have d4 := fun d os => cell_regrown R0.c1 d os
  have d5 := fun d os => cell_regrown R0.c2 d os
  have i0 : ¬ (n : Int) < 1 := by omega
  have i1 : (n : Int) - 1 < (ns.length : Int) := by omega
  have i2 : ¬ (ns.length : Int) < (n : Int) := by omega
  have i4 : 0 ≤ (n : Int) - 1 := by omega
  have i5 : ((n : Int) - 1).toNat = n - 1 := by omega
  have i6 : n ≤ ns.length := hn.2
  have i7 : 1 ≤ n := hn.1
  generalize (nd ns n).k = yk at *
  generalize (nd ns n).s = ys at *
  generalize (nd ns n).c = yc at *
  generalize (if (p.length : Int) + d < 0 then 0 else ord.getD ((p.length : Int) + d).toNat 0 : Nat) = F at *
  have hpl2 : p.length ≤ 1048576 := by omega
  obtain ⟨P, hP⟩ : ∃ P, P = p.length := ⟨_, rfl⟩
  rw [← hP] at HP HA hpl2
  replace hwr := hid hwr
  replace hgk := hid hgk
  replace B0 := hid B0
  replace hol := hid hol
  replace hP := hid hP
  clear H0 H R0 G hpk p0 p1 p2 he hpl hn
  go_enter Try.func82, Try.ntmps82
  go_wp2_with fail
  rw [← hwr.out, ← hgk.out]
  go_wp2_with fail
  refine wp_region_quiet_below (by kernel_rfl) (by kernel_rfl) ?_
  repeat (first | go_big_quiet_step (first | (go_at_call 67; exact Calls.regrown_of (HP.out _ _)) | (go_at_call 80; exact Calls.regrown_of (HA.out _ _))) | quiet_step (first | (go_at_call 67; exact Calls.regrown_of (HP.out _ _)) | (go_at_call 80; exact Calls.regrown_of (HA.out _ _))))
  refine wpQuiet_nil ?_
  intro w8 hw8
  have b8 : Below wr.heap.size wr w8 := by
    obtain ⟨⟨dq, osq⟩, hw''⟩ := hw8
    rw [hw'']
    exact below_regrown _ dq osq
  have BF := hid (B0.out.trans (b8.mono B0.out.size))
  clear b8 hw8 d0 d1 d2 d3 d4 d5 HP HA
  go_wp2_with fail
  go_ret
  exact ⟨rfl, BF.out⟩
set_option maxHeartbeats 1000000 in
theorem rnext_out (base most : Nat) (an ao : Option Addr) (cn co : Nat) (ns : List N) (ord : List Nat) (n : Int) (w : World) (H : RL w base an ao cn co ns ord) (hl : ns.length ≤ 1048576) (hn : n < 1 ∨ (ns.length : Int) < n) :
    Calls Try.prog 45 #[.agg #[.int .i64 (most : Int), .slice an ns.length cn, .slice ao ord.length co], .int .i64 n] w fun e w' => e = .returned (.int .i64 0) ∧ Below w.heap.size w w' := by
  obtain ⟨gk, hgk⟩ : ∃ gk, gk = w.heap.size := ⟨_, rfl⟩
  obtain ⟨wr, hwr⟩ : ∃ wr, wr = w.alloc (.cells #[.int .i64 (most : Int), .slice an ns.length cn, .slice ao ord.length co] 30) := ⟨_, rfl⟩
  have B0 : Below w.heap.size w wr := by rw [hwr]; exact box_below _ _
  have R0 : RB wr gk most an ao cn co ns.length ord.length := by rw [hwr, hgk]; exact new_at _ _
  have H0 := H.later B0
  have hol := H.G.len
  have G := H.G
  have HA := rbeside_out base most an ao cn co ns ord n 1 wr H0 hl hn
  clear hn
  replace HA := hid HA
  have e0 := R0.c0
  have e1 := R0.c1
  have e2 := R0.c2
  replace hwr := hid hwr
  replace hgk := hid hgk
  replace B0 := hid B0
  replace hol := hid hol
  clear H0 H R0 G
  go_enter Try.func45, Try.ntmps45
  go_wp2_with fail
  rw [← hwr.out, ← hgk.out]
  go_wp2_with fail
  refine HA.out.mono ?_
  rintro e wq ⟨rfl, b1⟩
  have BF := hid (B0.out.trans (b1.mono B0.out.size))
  clear b1
  go_wp2_with fail
  go_ret
  exact ⟨rfl, BF.out⟩
set_option maxHeartbeats 1000000 in
theorem rprev_out (base most : Nat) (an ao : Option Addr) (cn co : Nat) (ns : List N) (ord : List Nat) (n : Int) (w : World) (H : RL w base an ao cn co ns ord) (hl : ns.length ≤ 1048576) (hn : n < 1 ∨ (ns.length : Int) < n) :
    Calls Try.prog 47 #[.agg #[.int .i64 (most : Int), .slice an ns.length cn, .slice ao ord.length co], .int .i64 n] w fun e w' => e = .returned (.int .i64 0) ∧ Below w.heap.size w w' := by
  obtain ⟨gk, hgk⟩ : ∃ gk, gk = w.heap.size := ⟨_, rfl⟩
  obtain ⟨wr, hwr⟩ : ∃ wr, wr = w.alloc (.cells #[.int .i64 (most : Int), .slice an ns.length cn, .slice ao ord.length co] 30) := ⟨_, rfl⟩
  have B0 : Below w.heap.size w wr := by rw [hwr]; exact box_below _ _
  have R0 : RB wr gk most an ao cn co ns.length ord.length := by rw [hwr, hgk]; exact new_at _ _
  have H0 := H.later B0
  have hol := H.G.len
  have G := H.G
  have HA := rbeside_out base most an ao cn co ns ord n (-1) wr H0 hl hn
  clear hn
  replace HA := hid HA
  have e0 := R0.c0
  have e1 := R0.c1
  have e2 := R0.c2
  replace hwr := hid hwr
  replace hgk := hid hgk
  replace B0 := hid B0
  replace hol := hid hol
  clear H0 H R0 G
  go_enter Try.func47, Try.ntmps47
  go_wp2_with fail
  rw [← hwr.out, ← hgk.out]
  go_wp2_with fail
  refine HA.out.mono ?_
  rintro e wq ⟨rfl, b1⟩
  have BF := hid (B0.out.trans (b1.mono B0.out.size))
  clear b1
  go_wp2_with fail
  go_ret
  exact ⟨rfl, BF.out⟩
set_option maxHeartbeats 1000000 in
theorem rnext_in (base most : Nat) (an ao : Option Addr) (cn co : Nat) (ns : List N) (ord : List Nat) (p q : List Nat) (n : Nat) (w : World) (H : RL w base an ao cn co ns ord) (hl : ns.length ≤ 1048576) (he : ord = p ++ n :: q) :
    Calls Try.prog 45 #[.agg #[.int .i64 (most : Int), .slice an ns.length cn, .slice ao ord.length co], .int .i64 (n : Int)] w fun e w' => e = .returned (.int .i64 ((hz q : Nat) : Int)) ∧ Below w.heap.size w w' := by
  obtain ⟨gk, hgk⟩ : ∃ gk, gk = w.heap.size := ⟨_, rfl⟩
  obtain ⟨wr, hwr⟩ : ∃ wr, wr = w.alloc (.cells #[.int .i64 (most : Int), .slice an ns.length cn, .slice ao ord.length co] 30) := ⟨_, rfl⟩
  have B0 : Below w.heap.size w wr := by rw [hwr]; exact box_below _ _
  have R0 : RB wr gk most an ao cn co ns.length ord.length := by rw [hwr, hgk]; exact new_at _ _
  have H0 := H.later B0
  have hol := H.G.len
  have G := H.G
  have HA := rbeside_in base most an ao cn co ns ord p q n 1 wr H0 hl he (by omega)
  have e9 : (if (p.length : Int) + 1 < 0 then 0 else ord.getD ((p.length : Int) + 1).toNat 0) = hz q := by
    rw [if_neg (by omega), he, show ((p.length : Int) + 1).toNat = p.length + 1 by omega, List.getD_eq_getElem?_getD, List.getElem?_append_right (by omega), show p.length + 1 - p.length = 0 + 1 by omega, List.getElem?_cons_succ]
    cases q <;> rfl
  rw [e9] at HA
  clear e9 he
  generalize hz q = F at *
  replace HA := hid HA
  have e0 := R0.c0
  have e1 := R0.c1
  have e2 := R0.c2
  replace hwr := hid hwr
  replace hgk := hid hgk
  replace B0 := hid B0
  replace hol := hid hol
  clear H0 H R0 G
  go_enter Try.func45, Try.ntmps45
  go_wp2_with fail
  rw [← hwr.out, ← hgk.out]
  go_wp2_with fail
  refine HA.out.mono ?_
  rintro e wq ⟨rfl, b1⟩
  have BF := hid (B0.out.trans (b1.mono B0.out.size))
  clear b1
  go_wp2_with fail
  go_ret
  exact ⟨rfl, BF.out⟩
set_option maxHeartbeats 1000000 in
theorem rprev_in (base most : Nat) (an ao : Option Addr) (cn co : Nat) (ns : List N) (ord : List Nat) (p q : List Nat) (n : Nat) (w : World) (H : RL w base an ao cn co ns ord) (hl : ns.length ≤ 1048576) (he : ord = p ++ n :: q) :
    Calls Try.prog 47 #[.agg #[.int .i64 (most : Int), .slice an ns.length cn, .slice ao ord.length co], .int .i64 (n : Int)] w fun e w' => e = .returned (.int .i64 ((p.getLastD 0 : Nat) : Int)) ∧ Below w.heap.size w w' := by
  obtain ⟨gk, hgk⟩ : ∃ gk, gk = w.heap.size := ⟨_, rfl⟩
  obtain ⟨wr, hwr⟩ : ∃ wr, wr = w.alloc (.cells #[.int .i64 (most : Int), .slice an ns.length cn, .slice ao ord.length co] 30) := ⟨_, rfl⟩
  have B0 : Below w.heap.size w wr := by rw [hwr]; exact box_below _ _
  have R0 : RB wr gk most an ao cn co ns.length ord.length := by rw [hwr, hgk]; exact new_at _ _
  have H0 := H.later B0
  have hol := H.G.len
  have G := H.G
  have HA := rbeside_in base most an ao cn co ns ord p q n (-1) wr H0 hl he (by omega)
  have e9 : (if (p.length : Int) + -1 < 0 then 0 else ord.getD ((p.length : Int) + -1).toNat 0) = p.getLastD 0 := by
    by_cases h0 : p.length = 0
    · rw [if_pos (by omega), List.eq_nil_of_length_eq_zero h0]; rfl
    · rw [if_neg (by omega), he, show ((p.length : Int) + -1).toNat = p.length - 1 by omega, List.getD_eq_getElem?_getD, List.getElem?_append_left (by omega), List.getLastD_eq_getLast?, List.getLast?_eq_getElem?]
  rw [e9] at HA
  clear e9 he
  generalize p.getLastD 0 = F at *
  replace HA := hid HA
  have e0 := R0.c0
  have e1 := R0.c1
  have e2 := R0.c2
  replace hwr := hid hwr
  replace hgk := hid hgk
  replace B0 := hid B0
  replace hol := hid hol
  clear H0 H R0 G
  go_enter Try.func47, Try.ntmps47
  go_wp2_with fail
  rw [← hwr.out, ← hgk.out]
  go_wp2_with fail
  refine HA.out.mono ?_
  rintro e wq ⟨rfl, b1⟩
  have BF := hid (B0.out.trans (b1.mono B0.out.size))
  clear b1
  go_wp2_with fail
  go_ret
  exact ⟨rfl, BF.out⟩
set_option maxHeartbeats 2000000 in
set_option maxRecDepth 100000 in
theorem rget_no (base most : Nat) (an ao : Option Addr) (cn co : Nat) (ns : List N) (ord : List Nat) (k : ByteArray) (s c : Int) (w : World) (H : RL w base an ao cn co ns ord) (hl : ns.length ≤ 1048576) (hth : thr ns ord (ik k s c) = false) :
    Calls Try.prog 39 #[.agg #[.int .i64 (most : Int), .slice an ns.length cn, .slice ao ord.length co], .agg #[.string k, .int .u64 s, .int .i64 c]] w fun e w' => e = .returned (.tuple #[.string ⟨#[]⟩, .bool false]) ∧ Below w.heap.size w w' := by
  obtain ⟨gk, hgk⟩ : ∃ gk, gk = w.heap.size := ⟨_, rfl⟩
  obtain ⟨wr, hwr⟩ : ∃ wr, wr = (w.alloc (.cells #[.int .i64 (most : Int), .slice an ns.length cn, .slice ao ord.length co] 30)).alloc (.cells #[.string k, .int .u64 s, .int .i64 c] 36) := ⟨_, rfl⟩
  obtain ⟨B0, R0, K0⟩ := boxR _ _ w wr hwr
  rw [← hgk] at R0 K0
  have R0 : RB wr gk most an ao cn co ns.length ord.length := R0
  have K0 : Bx wr (gk + 1) k s c := K0
  have H0 := H.later B0
  have hol := H.G.len
  have G := H.G
  have HF := rfind_any base most an ao cn co ns ord k s c wr H0 hl
  rw [hth, if_neg (by simp)] at HF
  replace HF := hid HF
  have e0 := R0.c0
  have e1 := R0.c1
  have e2 := R0.c2
  have e3 := K0.c0
  have e4 := K0.c1
  have e5 := K0.c2
  replace hwr := hid hwr
  replace hgk := hid hgk
  replace B0 := hid B0
  replace hol := hid hol
  clear H0 H R0 K0 G hth
  go_enter Try.func39, Try.ntmps39
  go_wp2_with fail
  rw [← hwr.out, ← hgk.out]
  go_wp2_with fail
  refine HF.out.mono ?_
  rintro e wq ⟨rfl, b1⟩
  have BF := hid (B0.out.trans (b1.mono B0.out.size))
  clear b1 e0 e1 e2 e3 e4 e5
  go_wp2_with fail
  go_ret2
  exact ⟨rfl, BF.out⟩
set_option maxHeartbeats 2000000 in
set_option maxRecDepth 100000 in
theorem rget_yes (base most : Nat) (an ao : Option Addr) (cn co : Nat) (ns : List N) (ord : List Nat) (k : ByteArray) (s c : Int) (w : World) (H : RL w base an ao cn co ns ord) (hl : ns.length ≤ 1048576) (hth : thr ns ord (ik k s c) = true) :
    Calls Try.prog 39 #[.agg #[.int .i64 (most : Int), .slice an ns.length cn, .slice ao ord.length co], .agg #[.string k, .int .u64 s, .int .i64 c]] w fun e w' => e = .returned (.tuple #[(nd ns (firstN ns ord (ik k s c))).v, .bool true]) ∧ Below w.heap.size w w' := by
  obtain ⟨gk, hgk⟩ : ∃ gk, gk = w.heap.size := ⟨_, rfl⟩
  obtain ⟨wr, hwr⟩ : ∃ wr, wr = (w.alloc (.cells #[.int .i64 (most : Int), .slice an ns.length cn, .slice ao ord.length co] 30)).alloc (.cells #[.string k, .int .u64 s, .int .i64 c] 36) := ⟨_, rfl⟩
  obtain ⟨B0, R0, K0⟩ := boxR _ _ w wr hwr
  rw [← hgk] at R0 K0
  have R0 : RB wr gk most an ao cn co ns.length ord.length := R0
  have K0 : Bx wr (gk + 1) k s c := K0
  have H0 := H.later B0
  have hol := H.G.len
  have G := H.G
  have HF := rfind_any base most an ao cn co ns ord k s c wr H0 hl
  rw [hth, if_pos rfl] at HF
  replace HF := hid HF
  have h1 := (of_decide_eq_true hth).1
  have hn := (G.mem _).1 (first_mem G _ h1).1
  generalize firstN ns ord (ik k s c) = f at *
  obtain ⟨V, hV⟩ : ∃ V, (nd ns f).v = V := ⟨_, rfl⟩
  rw [hV]
  replace hV := hid hV
  obtain ⟨gn, hgn⟩ := OwnN.some H0.n (by omega)
  subst hgn
  have e0 := R0.c0
  have e1 := R0.c1
  have e2 := R0.c2
  have e3 := K0.c0
  have e4 := K0.c1
  have e5 := K0.c2
  replace hwr := hid hwr
  replace hgk := hid hgk
  replace B0 := hid B0
  replace hol := hid hol
  replace H0 := hid H0
  replace R0 := hid R0
  clear H K0 G hth
  go_enter Try.func39, Try.ntmps39
  go_wp2_with fail
  rw [← hwr.out, ← hgk.out]
  go_wp2_with fail
  refine HF.out.mono ?_
  rintro e wq ⟨rfl, b1⟩
  have BF := hid (B0.out.trans (b1.mono B0.out.size))
  obtain ⟨_, _, _, p3, _⟩ := OwnN.cells (H0.out.later b1).n f hn
  have c1 := (R0.out.later b1).c1
  clear b1 e0 e1 e2 e3 e4 e5 hwr HF
  have i1 : (f : Int) - 1 < (ns.length : Int) := by omega
  have i4 : 0 ≤ (f : Int) - 1 := by omega
  have i5 : ((f : Int) - 1).toNat = f - 1 := by omega
  have i6 : f ≠ 0 := h1
  rw [hV.out] at p3
  go_wp2_with fail
  go_ret2
  exact ⟨rfl, BF.out⟩
end Go.Proofs.Ythnmoidfdojoiaa.Rn

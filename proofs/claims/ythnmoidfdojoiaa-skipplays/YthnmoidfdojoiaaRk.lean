/- The document's Height, Links, Node. -/
import Derived.Test.YthnmoidfdojoiaaRn
namespace Go.Proofs.Ythnmoidfdojoiaa.Rk
open Go.ChangeShapes Go.WideShapes Go.ChangeAt Go.RowKit
open Go.Sort (grow)
open Go.Proofs.Ythnmoidfdojoiaa.Ik
open Go.Proofs.Ythnmoidfdojoiaa.Sg
open Go.Proofs.Ythnmoidfdojoiaa.Cm (ik)
open Go.Proofs.Ythnmoidfdojoiaa.Vl
open Go.Proofs.Ythnmoidfdojoiaa.Mm
open Go.Proofs.Ythnmoidfdojoiaa.Tr
open Go.Proofs.Ythnmoidfdojoiaa.Li
open Go.Proofs.Ythnmoidfdojoiaa.In
open Go.Proofs.Ythnmoidfdojoiaa.Oi
open Go.Proofs.Ythnmoidfdojoiaa.Rc
open Go.Proofs.Ythnmoidfdojoiaa.Rl
open Go.Proofs.Ythnmoidfdojoiaa.Rn
open Go.Proofs.Ythnmoidfdojoiaa.Fi (first_eq)
set_option linter.unusedVariables false
set_option linter.unusedSimpArgs false
def topT (ns : List N) (i : Nat) : Nat := (ns.take i).foldl (fun m x => max m x.h) 0
theorem topT_next (ns : List N) (i : Nat) (h : i < ns.length) : topT ns (i + 1) = max (topT ns i) (nd ns (i + 1)).h := by
  unfold topT
  rw [List.take_succ_eq_append_getElem h, List.foldl_append]
  have : nd ns (i + 1) = ns[i] := by rw [nd_pos (by omega), List.getD_eq_getElem?_getD, Nat.add_sub_cancel, List.getElem?_eq_getElem h]; rfl
  rw [this]
  rfl
set_option maxHeartbeats 2000000 in
set_option maxRecDepth 100000 in
theorem rheight_any (base most : Nat) (an ao : Option Addr) (cn co : Nat) (ns : List N) (ord : List Nat) (w : World) (H : RL w base an ao cn co ns ord) (hl : ns.length ≤ 1048576) :
    Calls Try.prog 59 #[.agg #[.int .i64 (most : Int), .slice an ns.length cn, .slice ao ord.length co]] w fun e w' => e = .returned (.int .i64 (top ns : Int)) ∧ Below w.heap.size w w' := by
  obtain ⟨gk, hgk⟩ : ∃ gk, gk = w.heap.size := ⟨_, rfl⟩
  obtain ⟨wr, hwr⟩ : ∃ wr, wr = w.alloc (.cells #[.int .i64 (most : Int), .slice an ns.length cn, .slice ao ord.length co] 30) := ⟨_, rfl⟩
  have B0 : Below w.heap.size w wr := by rw [hwr]; exact box_below _ _
  have R0 : RB wr gk most an ao cn co ns.length ord.length := by rw [hwr, hgk]; exact new_at _ _
  have H0 := H.later B0
  have hol := H.G.len
  have G := H.G
  have h12 := G.top12
  have e1 := R0.c1
  have hb : ∀ i, topT ns i ≤ 12 := fun i => foldl_max_le _ 12 (fun x hx => (G.hs x (List.mem_of_mem_take hx)).2) 0 (by omega)
  have hall : topT ns ns.length = top ns := by unfold topT top; rw [List.take_length]
  replace hb := hid hb
  replace hall := hid hall
  replace hwr := hid hwr
  replace hgk := hid hgk
  replace B0 := hid B0
  replace hol := hid hol
  replace H0 := hid H0
  replace G := hid G
  clear H R0
  go_enter Try.func59, Try.ntmps59
  go_wp2_with fail
  rw [← hwr.out, ← hgk.out]
  go_wp2_with fail
  go_loopw [3, 4] (fun hv iv wq => ∃ i : Nat, hv = .int .i64 (topT ns i : Int) ∧ iv = .int .i64 (i : Int) ∧ i ≤ ns.length ∧ wq = wr) (fun _ iv _ => ns.length - (intOf iv).toNat)
  case atStart => exact ⟨0, rfl, rfl, Nat.zero_le _, rfl⟩
  case round =>
    obtain ⟨i, rfl, rfl, hi, rfl⟩ := hrel
    by_cases h1 : i < ns.length
    · have hn : 1 ≤ i + 1 ∧ i + 1 ≤ ns.length := by omega
      obtain ⟨gn, hgn⟩ := OwnN.some H0.out.n (by omega)
      subst hgn
      obtain ⟨_, _, _, _, p4⟩ := OwnN.cells H0.out.n (i + 1) hn
      rw [Nat.add_sub_cancel] at p4
      have hx := topT_next ns i h1
      have hy := hb.out (i + 1)
      have hz := hb.out i
      have hxx : (topT ns (i + 1) : Int) = max (topT ns i : Int) ((nd ns (i + 1)).h : Int) := by rw [hx]; omega
      have hyh : (nd ns (i + 1)).h ≤ 12 := by omega
      generalize (nd ns (i + 1)).h = y at *
      have i1 : (i : Int) < (ns.length : Int) := by omega
      go_wp2_with fail
      refine ⟨⟨i + 1, by rw [hxx], by simp, by omega, trivial⟩, ?_⟩
      simp only [intOf]; omega
    · have e : i = ns.length := by omega
      have i1 : ¬ (i : Int) < (ns.length : Int) := by omega
      go_wp2_with fail
      go_ret
      exact ⟨by rw [← hall.out, ← e]; rfl, B0.out⟩
theorem own_mono {w : World} {base base' e size : Nat} {v : Value} {n : Nat} {xs : List Value} (h : w.ownsRow base' e size v n xs) (hb : base ≤ base') : w.ownsRow base e size v n xs := by
  refine ⟨h.1, ?_⟩
  rcases h.2 with h1 | ⟨g, cap, cur, e, hb', r⟩
  · exact .inl h1
  · exact .inr ⟨g, cap, cur, e, Nat.le_trans hb hb', r⟩
theorem lnk_pos (ns : List N) (ord : List Nat) (l : Nat) : lnk ns ord (l : Int) = chain ns ord l := by unfold lnk; rw [if_neg (by omega)]; simp
theorem lnk_neg (ns : List N) (ord : List Nat) (l : Int) (h : l < 0) : lnk ns ord l = [] := by unfold lnk; rw [if_pos h]
def chT (ns : List N) (ord : List Nat) (l i : Nat) : List Nat := (ord.take i).filter fun n => decide (l < (nd ns n).h)
theorem chT_next (ns : List N) (ord : List Nat) (l i n : Nat) (h : ord[i]? = some n) : chT ns ord l (i + 1) = if l < (nd ns n).h then chT ns ord l i ++ [n] else chT ns ord l i := by
  obtain ⟨hi, e⟩ := List.getElem?_eq_some_iff.1 h
  unfold chT
  rw [List.take_succ_eq_append_getElem hi, List.filter_append, e]
  by_cases hc : l < (nd ns n).h
  · rw [if_pos hc]; simp [hc]
  · rw [if_neg hc]; simp [hc]
set_option maxHeartbeats 2000000 in
set_option maxRecDepth 100000 in
theorem rlinks_no (base most : Nat) (an ao : Option Addr) (cn co : Nat) (ns : List N) (ord : List Nat) (l : Int) (w : World) (H : RL w base an ao cn co ns ord) (hl : ns.length ≤ 1048576) (h : l < 0) :
    Calls Try.prog 51 #[.agg #[.int .i64 (most : Int), .slice an ns.length cn, .slice ao ord.length co], .int .i64 l] w fun e w' => ∃ v, e = .returned v ∧ OwnZ w' w.heap.size v (zi (lnk ns ord l)) ∧ Below w.heap.size w w' := by
  obtain ⟨gk, hgk⟩ : ∃ gk, gk = w.heap.size := ⟨_, rfl⟩
  obtain ⟨wr, hwr⟩ : ∃ wr, wr = w.alloc (.cells #[.int .i64 (most : Int), .slice an ns.length cn, .slice ao ord.length co] 30) := ⟨_, rfl⟩
  have B0 : Below w.heap.size w wr := by rw [hwr]; exact box_below _ _
  have R0 : RB wr gk most an ao cn co ns.length ord.length := by rw [hwr, hgk]; exact new_at _ _
  have H0 := H.later B0
  have hol := H.G.len
  have G := H.G
  have e2 := R0.c2
  have hlk := hid (lnk_neg ns ord l h)
  have hol2 : ord.length ≤ 1048576 := by omega
  replace hwr := hid hwr
  replace hgk := hid hgk
  replace B0 := hid B0
  replace hol := hid hol
  clear H R0 H0 G
  go_enter Try.func51, Try.ntmps51
  go_wp2_with fail
  rw [← hwr.out, ← hgk.out]
  go_wp2_with fail
  go_loopw [5, 6] (fun v iv wq => v = .slice none 0 0 ∧ iv = .int .i64 0 ∧ wq = wr) (fun _ _ _ => 0)
  case atStart => exact ⟨rfl, rfl, rfl⟩
  case round =>
    obtain ⟨rfl, rfl, rfl⟩ := hrel
    by_cases h1 : 0 < ord.length
    · have i1 : (0 : Int) < (ord.length : Int) := by omega
      go_wp2_with fail
      go_ret
      exact ⟨_, rfl, by rw [hlk.out]; exact OwnZ.nil _ _, B0.out⟩
    · have i1 : ¬ (0 : Int) < (ord.length : Int) := by omega
      have i2 : ord.length = 0 := by omega
      go_wp2_with fail
      go_ret
      exact ⟨_, rfl, by rw [hlk.out]; exact OwnZ.nil _ _, B0.out⟩
set_option maxHeartbeats 4000000 in
set_option maxRecDepth 100000 in
theorem rlinks_in (base most : Nat) (an ao : Option Addr) (cn co : Nat) (ns : List N) (ord : List Nat) (l : Nat) (w : World) (H : RL w base an ao cn co ns ord) (hl : ns.length ≤ 1048576) :
    Calls Try.prog 51 #[.agg #[.int .i64 (most : Int), .slice an ns.length cn, .slice ao ord.length co], .int .i64 (l : Int)] w fun e w' => ∃ v, e = .returned v ∧ OwnZ w' w.heap.size v (zi (chain ns ord l)) ∧ Below w.heap.size w w' := by
  obtain ⟨gk, hgk⟩ : ∃ gk, gk = w.heap.size := ⟨_, rfl⟩
  obtain ⟨wb, hwb⟩ : ∃ wb, wb = w.alloc (.cells #[.int .i64 (most : Int), .slice an ns.length cn, .slice ao ord.length co] 30) := ⟨_, rfl⟩
  have B0 : Below w.heap.size w wb := by rw [hwb]; exact box_below _ _
  have R0 : RB wb gk most an ao cn co ns.length ord.length := by rw [hwb, hgk]; exact new_at _ _
  have H0 := H.later B0
  have hol := H.G.len
  have G := H.G
  have hol2 : ord.length ≤ 1048576 := by omega
  have hall : Hid (chT ns ord l ord.length = chain ns ord l) := by show _ = _; unfold chT chain; rw [List.take_length]
  have hcl : Hid (∀ i, (chT ns ord l i).length ≤ ord.length) := fun i => by unfold chT; exact Nat.le_trans (List.length_filter_le _ _) (by rw [List.length_take]; omega)
  replace hwb := hid hwb
  replace hgk := hid hgk
  replace B0 := hid B0
  replace hol := hid hol
  replace H0 := hid H0
  replace R0 := hid R0
  replace G := hid G
  clear H
  go_enter Try.func51, Try.ntmps51
  go_wp2_with fail
  rw [← hwb.out, ← hgk.out]
  go_wp2_with fail
  go_loopw [5, 6] (fun v iv wq => ∃ i : Nat, iv = .int .i64 (i : Int) ∧ i ≤ ord.length ∧ Hid (OwnZ wq wb.heap.size v (zi (chT ns ord l i))) ∧ Hid (Below wb.heap.size wb wq)) (fun _ iv _ => ord.length - (intOf iv).toNat)
  case atStart => exact ⟨0, rfl, Nat.zero_le _, OwnZ.nil _ _, Below.refl _ _⟩
  case round =>
    obtain ⟨i, rfl, hi, HO, HB⟩ := hrel
    have Rr := R0.out.later HB.out
    have e2 := Rr.c2
    have il : (0 : Int) ≤ (l : Int) := by omega
    by_cases h1 : i < ord.length
    · obtain ⟨n, hn⟩ : ∃ n, ord[i]? = some n := ⟨_, List.getElem?_eq_getElem h1⟩
      have hmem := (G.out.mem n).1 (List.mem_of_getElem? hn)
      have Hr := H0.out.later HB.out
      have hol3 := hol.out
      obtain ⟨gn, hgn⟩ := OwnN.some Hr.n (by omega)
      obtain ⟨go, hgo⟩ := OwnZ.some Hr.o (by rw [zi_len]; omega)
      subst hgn hgo
      obtain ⟨_, _, _, _, p4⟩ := OwnN.cells Hr.n n hmem
      have q0 := Hr.o.cell i (by rw [zi_len]; omega)
      rw [zi_at hn] at q0
      have e1 := Rr.c1
      have hnx := chT_next ns ord l i n hn
      have hh12 := (G.out.hs _ (G.out.nd_mem (List.mem_of_getElem? hn))).2
      have i1 : (i : Int) < (ord.length : Int) := by omega
      have i3 : (n : Int) - 1 < (ns.length : Int) := by omega
      have i4 : 0 ≤ (n : Int) - 1 := by omega
      have i5 : ((n : Int) - 1).toNat = n - 1 := by omega
      have d0 := fun d os => cell_regrown p4 d os
      have d1 := fun d os => cell_regrown q0 d os
      have d2 := fun d os => cell_regrown e1 d os
      have d3 := fun d os => cell_regrown e2 d os
      generalize (nd ns n).h = y at *
      replace hn := hid hn
      replace Hr := hid Hr
      replace Rr := hid Rr
      replace hol3 := hid hol3
      by_cases hc : l < y
      · rw [if_pos hc] at hnx
        have hc2 : (l : Int) < (y : Int) := by omega
        replace hnx := hid hnx
        clear q0 p4
        go_wp2_with fail
        refine wp_region_quiet_below (by kernel_rfl) (by kernel_rfl) ?_
        repeat (first | go_big_quiet_step (fail) | quiet_step (fail))
        refine wpQuiet_nil ?_
        intro w8 hw8
        have b8 : Below wr.heap.size wr w8 := by
          obtain ⟨⟨dq, osq⟩, hw''⟩ := hw8
          rw [hw'']
          exact below_regrown _ dq osq
        have R8 := Rr.out.later b8
        have c8 := R8.c2
        have q8 := (Hr.out.later b8).o.cell i (by rw [zi_len]; omega)
        rw [zi_at hn.out] at q8
        have hcl2 := hcl.out i
        obtain ⟨v5, W5, r5, O5, g5⟩ := app_int w8 wb.heap.size u5 (zi (chT ns ord l i)) (n : Int) (HO.out.later b8) (by rw [zi_len]; omega) (Nat.le_trans HB.out.size b8.size)
        have HB8 := HB.out.trans (b8.mono HB.out.size)
        have B5 := hid (HB8.grown g5 HB8.size (fun k hk => (World.ownsRow.lt (HO.out.later b8) k hk).1))
        have O6 : Hid (OwnZ W5 wb.heap.size v5 (zi (chT ns ord l (i + 1)))) := by rw [hnx.out, zi_append]; exact O5
        replace r5 := hid r5
        clear O5 g5 HB8 R8 b8 hw8 d0 d1 d2 d3 e1 e2 hcl2
        go_wp2_with (at_builtin; refine wpList_append_run rfl _ _ _ _ rfl _ _ _ rfl rfl r5.out ?_)
        refine ⟨⟨i + 1, by simp, by omega, O6, B5⟩, ?_⟩
        simp only [intOf]; omega
      · rw [if_neg hc] at hnx
        have hc2 : ¬ (l : Int) < (y : Int) := by omega
        replace hnx := hid hnx
        clear q0 p4
        go_wp2_with fail
        refine wp_region_quiet_below (by kernel_rfl) (by kernel_rfl) ?_
        repeat (first | go_big_quiet_step (fail) | quiet_step (fail))
        refine wpQuiet_nil ?_
        intro w8 hw8
        have b8 : Below wr.heap.size wr w8 := by
          obtain ⟨⟨dq, osq⟩, hw''⟩ := hw8
          rw [hw'']
          exact below_regrown _ dq osq
        have B5 := hid (HB.out.trans (b8.mono HB.out.size))
        have O6 : Hid (OwnZ w8 wb.heap.size u5 (zi (chT ns ord l (i + 1)))) := by rw [hnx.out]; exact HO.out.later b8
        clear b8 hw8 d0 d1 d2 d3 e1 e2
        go_wp2_with fail
        refine ⟨⟨i + 1, by simp, by omega, O6, B5⟩, ?_⟩
        simp only [intOf]; omega
    · have e : i = ord.length := by omega
      have i1 : ¬ (i : Int) < (ord.length : Int) := by omega
      have BF := hid (B0.out.trans (HB.out.mono B0.out.size))
      have OF : Hid (OwnZ wr w.heap.size u5 (zi (chain ns ord l))) := by
        rw [← hall.out, ← e]
        exact own_mono HO.out B0.out.size
      replace e := hid e
      replace Rr := hid Rr
      go_wp2_with fail
      go_ret
      exact ⟨_, rfl, OF.out, BF.out⟩
theorem rlinks_any (base most : Nat) (an ao : Option Addr) (cn co : Nat) (ns : List N) (ord : List Nat) (l : Int) (w : World) (H : RL w base an ao cn co ns ord) (hl : ns.length ≤ 1048576) :
    Calls Try.prog 51 #[.agg #[.int .i64 (most : Int), .slice an ns.length cn, .slice ao ord.length co], .int .i64 l] w fun e w' => ∃ v, e = .returned v ∧ OwnZ w' w.heap.size v (zi (lnk ns ord l)) ∧ Below w.heap.size w w' := by
  by_cases h : l < 0
  · exact rlinks_no base most an ao cn co ns ord l w H hl h
  · obtain ⟨m, rfl⟩ : ∃ m : Nat, l = m := ⟨l.toNat, by omega⟩
    rw [lnk_pos]
    exact rlinks_in base most an ao cn co ns ord m w H hl
end Go.Proofs.Ythnmoidfdojoiaa.Rk

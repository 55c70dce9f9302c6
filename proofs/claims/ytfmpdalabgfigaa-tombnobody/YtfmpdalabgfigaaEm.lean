/- Nothing sorted, collected, told: what the calls do with no tomb. -/
import Derived.Test.YtfmpdalabgfigaaRw
import Derived.Test.YtfmpdalabgfigaaCv
namespace Go.Proofs.Ytfmpdalabgfigaa.Em
open Go.ChangeShapes Go.WideShapes Go.ChangeAt Go.RowKit Go.Shelf
open Go.Proofs.Ytfmpdalabgfigaa.Lx
open Go.Proofs.Ytfmpdalabgfigaa.Tm
open Go.Proofs.Ytfmpdalabgfigaa.Vi
open Go.Proofs.Ytfmpdalabgfigaa.Mm
open Go.Proofs.Ytfmpdalabgfigaa.Rw
set_option linter.unusedVariables false
set_option linter.unusedSimpArgs false

set_option maxRecDepth 100000 in
set_option maxHeartbeats 1000000 in
theorem len64_0 (w : World) : Calls Try.prog 55 #[.int .u64 0] w fun e w' => e = .returned (.int .i64 0) ∧ w' = w := by
  go_enter Try.func55, Try.ntmps55
  go_wp2
  go_ret
  exact ⟨by kernel_rfl, rfl⟩
theorem len_0 (w : World) : Calls Try.prog 40 #[.int .u64 0] w fun e w' => e = .returned (.int .i64 0) ∧ w' = w := by
  go_enter Try.func40, Try.ntmps40
  go_wp2_with fail
  refine (len64_0 _).mono ?_
  rintro e w' ⟨rfl, rfl⟩
  go_wp2_with fail
  go_ret
  exact ⟨rfl, rfl⟩
theorem insc_0 (fv : Value) (w : World) : Calls Try.prog 46 #[.slice none 0 0, .int .i64 0, .int .i64 0, fv] w fun e w' => e = .returned (.tuple #[]) ∧ w' = w := by
  go_enter Try.func46, Try.ntmps46
  go_wp2_with fail
  refine wp_loop_rounds 1 ?_
  rw [rounds_succ]
  go_wp2_with fail
  go_end0
  exact ⟨rfl, rfl⟩
theorem inso_0 (w : World) (a : Option Addr) (c : Nat) : Calls Try.prog 64 #[.slice a 0 c, .int .i64 0, .int .i64 0] w fun e w' => e = .returned (.tuple #[]) ∧ w' = w := by
  go_enter Try.func64, Try.ntmps64
  go_wp2_with fail
  refine wp_loop_rounds 1 ?_
  rw [rounds_succ]
  go_wp2_with fail
  go_end0
  exact ⟨rfl, rfl⟩
set_option maxRecDepth 100000 in
theorem pdqc_0 (fv : Value) (w : World) : Calls Try.prog 39 #[.slice none 0 0, .int .i64 0, .int .i64 0, .int .i64 0, fv] w fun e w' => e = .returned (.tuple #[]) ∧ w' = w := by
  go_enter Try.func39, Try.ntmps39
  go_wp2_with fail
  refine wp_loop_rounds 1 ?_
  rw [rounds_succ]
  go_wp2_with fail
  refine (insc_0 fv _).mono ?_
  rintro e w' ⟨rfl, rfl⟩
  go_wp2_with fail
  refine bodyPost_ret (results_none rfl _ _ _) rfl ?_
  exact ⟨rfl, rfl⟩
set_option maxRecDepth 100000 in
theorem pdqo_0 (w : World) (a : Option Addr) (c : Nat) : Calls Try.prog 57 #[.slice a 0 c, .int .i64 0, .int .i64 0, .int .i64 0] w fun e w' => e = .returned (.tuple #[]) ∧ w' = w := by
  go_enter Try.func57, Try.ntmps57
  go_wp2_with fail
  refine wp_loop_rounds 1 ?_
  rw [rounds_succ]
  go_wp2_with fail
  refine (inso_0 _ a c).mono ?_
  rintro e w' ⟨rfl, rfl⟩
  go_wp2_with fail
  refine bodyPost_ret (results_none rfl _ _ _) rfl ?_
  exact ⟨rfl, rfl⟩
theorem sortc_0 (fv : Value) (w : World) : Calls Try.prog 32 #[.slice none 0 0, fv] w fun e w' => e = .returned (.tuple #[]) ∧ w' = w := by
  go_enter Try.func32, Try.ntmps32
  go_wp2_with fail
  refine (len_0 _).mono ?_
  rintro e w' ⟨rfl, rfl⟩
  go_wp2_with fail
  refine (pdqc_0 fv _).mono ?_
  rintro e w' ⟨rfl, rfl⟩
  go_wp2_with fail
  go_end0
  exact ⟨rfl, rfl⟩
theorem sorto_0 (w : World) (a : Option Addr) (c : Nat) : Calls Try.prog 42 #[.slice a 0 c] w fun e w' => e = .returned (.tuple #[]) ∧ w' = w := by
  go_enter Try.func42, Try.ntmps42
  go_wp2_with fail
  refine (len_0 _).mono ?_
  rintro e w' ⟨rfl, rfl⟩
  go_wp2_with fail
  refine (pdqo_0 _ a c).mono ?_
  rintro e w' ⟨rfl, rfl⟩
  go_wp2_with fail
  go_end0
  exact ⟨rfl, rfl⟩
theorem compact_0 (w : World) (a : Option Addr) (c : Nat) : Calls Try.prog 43 #[.slice a 0 c] w fun e w' => e = .returned (.slice a 0 c) ∧ w' = w := by
  go_enter Try.func43, Try.ntmps43
  go_wp2_with fail
  go_ret
  exact ⟨rfl, rfl⟩
theorem unlike_0 (w : World) (a : Option Addr) (c : Nat) : Calls Try.prog 34 #[.slice a 0 c] w fun e w' => e = .returned (.slice a 0 c) ∧ w' = w := by
  go_enter Try.func34, Try.ntmps34
  go_wp2_with fail
  refine (sorto_0 _ a c).mono ?_
  rintro e w' ⟨rfl, rfl⟩
  go_wp2_with fail
  refine (compact_0 _ a c).mono ?_
  rintro e w' ⟨rfl, rfl⟩
  go_wp2_with fail
  go_ret
  exact ⟨rfl, rfl⟩
theorem infoS : (Try.prog.info? 9).map (fun i => (i.zero, i.size, i.bytes)) = some (some (.string ⟨#[]⟩), 1, 16) := by kernel_rfl
theorem make_0 (w : World) : (Instr.makeSlice 58 (.int .i64 0) (.int .i64 0)).run Try.prog w = .ok (.slice (some ⟨w.heap.size, 0, none⟩) 0 0) (w.alloc (.cells #[] 9)) := by
  obtain ⟨i0, hi, hz0, hz1, hz2⟩ := info_parts infoS
  have hr := run_make (P := Try.prog) w 58 9 i0 _ Try.underlying58 hi hz0 .i64 .i64 0 0 (by omega) (by omega) (by rw [hz2]; omega) (by omega)
  rw [hz1] at hr
  have he : madeCells (Value.string ⟨#[]⟩).cells 0 = #[] := by kernel_rfl
  exact hr.trans (congrArg (fun c => Result.ok _ (w.alloc (.cells c 9))) he)
set_option maxRecDepth 100000 in
theorem bounds_0 (w : World) : Calls Try.prog 27 #[.slice none 0 0] w fun e w' => ∃ a c, e = .returned (.slice a 0 c) ∧ Below w.heap.size w w' := by
  have hmk := make_0 w
  go_enter Try.func27, Try.ntmps27
  go_wp2_with fail
  refine wp_loop_rounds 1 ?_
  rw [rounds_succ]
  go_wp2_with fail
  refine (unlike_0 _ _ _).mono ?_
  rintro e w' ⟨rfl, rfl⟩
  go_wp2_with fail
  go_ret
  exact ⟨_, _, rfl, box_below _ _⟩
theorem nil_tbs (w : World) : Tbs w none 0 0 [] := ⟨rfl, Nat.le_refl _, fun _ => ⟨rfl, rfl⟩, fun _ h => by simp at h, fun _ _ _ h => by simp at h⟩
attribute [local go_sem] Oper.semAt_some
set_option maxRecDepth 100000 in
set_option maxHeartbeats 4000000 in
theorem appseq_0 (bl : Nat) (w : World) (hbl : Boxed w bl 26 (.slice none 0 0)) :
    CallsIn Fence.wide 8 Try.prog 38 #[.slice none 0 0, .func (.func 23) #[] #[.pointer (some ⟨bl, 0, none⟩)]] w fun e w' => e = .returned (.slice none 0 0) ∧ Below w.heap.size w w' := by
  refine callsIn_of_wp_marks Try.func38 rfl trivial ?_ rfl
  simp only [Try.ntmps38, List.size_toArray, List.length_cons, List.length_nil, Nat.reduceAdd, Nat.reduceSub, Array.replicate_succ, Array.replicate_zero, List.push_toArray, List.append_toArray, List.nil_append, List.cons_append]
  obtain ⟨n0, hn0⟩ : ∃ n0, n0 = w.heap.size := ⟨_, rfl⟩
  obtain ⟨W4, hW4⟩ : ∃ W, W = w.alloc (.cells #[.slice none 0 0] 26) := ⟨_, rfl⟩
  have s5 : W4.heap.size = n0 + 1 := by rw [hW4, hn0]; simp
  have B4 : Below n0 w W4 := by rw [hW4, hn0]; exact box_below w _
  have hb4 : Boxed W4 bl 26 (.slice none 0 0) := (B4.block bl (by rw [hn0]; exact hbl.lt)).trans hbl
  have ho4 : Boxed W4 n0 26 (.slice none 0 0) := by rw [hW4]; exact new_box hn0 _ _
  have hI0 : (fun (ys : List T) (W : World) => Boxed W n0 26 (.slice none 0 0) ∧ Below n0 w W) [] W4 := ⟨ho4, B4⟩
  replace hW4 := hid hW4
  replace hb4 := hid hb4
  replace ho4 := hid ho4
  replace hI0 := hid hI0
  replace B4 := hid B4
  replace hn0 := hid hn0
  replace hbl := hid hbl
  gi_wp2_with fail
  rw [← hW4.out, ← hn0.out]
  refine range_q (F := Fence.wide) (n := 8) encs rfl (by omega) (gf := 23) (lb := #[.pointer (some ⟨bl, 0, none⟩)]) rfl trivial (enters_of Try.func23 (by kernel_rfl) rfl) (fun _ => rfl)
    (fun ys W => Boxed W n0 26 (.slice none 0 0) ∧ Below n0 w W) (fun _ _ _ => False) (fun pre x => False) (Below n0) (fun ys _ _ => True) (fun _ => True)
    (fun s W o h => ⟨h.1.alloc _, h.2.alloc (by have := h.1.lt; omega) _⟩) (fun s W W' k h g hk hc => ⟨h.1.kept g (by simp; omega), h.2.grown g (by have := h.2.size; have := h.1.lt; omega) (fun q e => by cases e; omega)⟩) (fun _ _ _ _ _ h => h.elim)
    (fun A B hA hb => hb.mono (by omega)) (fun h k => h.trans k)
    (fun W l o o' hl ho hc => belowK_b' (w := W4) (by omega) W l o o' hl ho)
    hI0.out ?seq (fun _ _ _ _ => True) (fun _ _ _ _ _ _ _ _ _ => trivial) ?assign ?body ?done ?stop
  case seq =>
    intro l J Jx W1 hB1 hY h0
    refine (vals_in 7 (by omega) l bl 0 none 0 0 [] J Jx (fun pre x _ _ _ _ h => by simp at h) W1 (fun W' _ => nil_tbs W') ((hB1.block _ hb4.out.lt).trans hb4.out) h0 (by omega) (by omega)).mono ?_
    rintro e W' ⟨hv, (⟨W0, h1, h2⟩ | ⟨pre, h1, h2⟩)⟩
    · exact ⟨hv, .inl ⟨_, W0, h1, h2, trivial⟩⟩
    · exact ⟨hv, .inr ⟨pre, trivial, h2⟩⟩
  case assign =>
    intro l x W K hK
    simp only [encs]
    gi_wp2
    exact hK _ _ (box_below _ _) trivial
  case body =>
    rintro l pre x a' W0 WY W1 W2 hI h0Y h01 hfr
    exact hfr.elim
  case done =>
    rintro D l ys W0 W W' hD hI h0W _ hWW hl hnc hDd
    have o1 : Boxed W' n0 26 (.slice none 0 0) := Boxed.kept (W := W) ((h0W.block _ hI.1.lt).trans hI.1) hWW (by simp; omega)
    have b1 : Below n0 w W' := (hI.2.trans (h0W.mono (by have := hI.1.lt; omega))).grown hWW (by have := hI.1.lt; have := h0W.size; omega) (fun q e => by cases e; omega)
    have c1 := o1.cell
    replace o1 := hid o1
    replace b1 := hid b1
    replace hDd := hid hDd
    clear hI h0W hWW hnc
    gi_wp2_with fail
    refine ⟨by simp, .inl ⟨_, _, rfl, run_takeDeferred hDd.out, ?_⟩⟩
    refine ⟨.slice none 0 0, ?_, rfl, ?_⟩
    · simp [results, Try.results38, go_sem]
    · rw [← hn0.out]; exact b1.out.trans (belowK_b' (w := W4) (by omega) _ D _ _ hD hDd.out)
  case stop =>
    rintro D c pre W hD _ hx hDd
    exact hx.elim
end Go.Proofs.Ytfmpdalabgfigaa.Em

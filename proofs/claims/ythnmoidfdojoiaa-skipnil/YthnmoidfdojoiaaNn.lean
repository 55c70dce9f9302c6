/- A list that is none: a nil one, a plain one. -/
import Derived.Test.YthnmoidfdojoiaaGn
namespace Go.Proofs.Ythnmoidfdojoiaa.Nn
open Go.ChangeShapes Go.WideShapes Go.ChangeAt Go.RowKit Go.Shelf
open Go.Sort (grow)
open Go.Proofs.Ythnmoidfdojoiaa.Ik
open Go.Proofs.Ythnmoidfdojoiaa.Sg
open Go.Proofs.Ythnmoidfdojoiaa.Cm (ik)
open Go.Proofs.Ythnmoidfdojoiaa.Vl
open Go.Proofs.Ythnmoidfdojoiaa.Mm
open Go.Proofs.Ythnmoidfdojoiaa.Tr
open Go.Proofs.Ythnmoidfdojoiaa.Li
open Go.Proofs.Ythnmoidfdojoiaa.In
open Go.Proofs.Ythnmoidfdojoiaa.Oi
set_option linter.unusedVariables false
set_option linter.unusedSimpArgs false

open Go.Proofs.Ythnmoidfdojoiaa.Tl
open Go.Proofs.Ythnmoidfdojoiaa.Fi

open Go.Proofs.Ythnmoidfdojoiaa.Pu

open Go.Proofs.Ythnmoidfdojoiaa.Al
open Go.Proofs.Ythnmoidfdojoiaa.Gn
attribute [local go_sem] Oper.semAt_some

/-- A list that no call gave. -/
def Non (w : World) (p : Option Addr) : Prop := p = none ∨ ∃ g, p = some ⟨g, 0, none⟩ ∧ w.heap[g]? = some (.cells #[.int .i64 0, .int .i64 0, .slice none 0 0] 60)
theorem Non.later {w w' : World} {p : Option Addr} (h : Non w p) (b : Below w.heap.size w w') : Non w' p := by
  rcases h with h | ⟨g, h1, h2⟩
  · exact .inl h
  · exact .inr ⟨g, h1, (b.block g (blk_lt h2)).trans h2⟩
theorem isnone_n (p : Option Addr) (w : World) (H : Non w p) : Calls Try.prog 68 #[.pointer p] w fun e w' => e = .returned (.bool true) ∧ w' = w := by
  rcases H with rfl | ⟨g, rfl, h⟩
  · exact isnone_nil w
  · have c0 := cell_of h 0 (.int .i64 0) rfl
    go_enter Try.func68, Try.ntmps68
    go_wp2
    go_ret
    exact ⟨rfl, rfl⟩
theorem len_n (p : Option Addr) (w : World) (H : Non w p) : Calls Try.prog 23 #[.pointer p] w fun e w' => e = .returned (.int .i64 0) ∧ w' = w := by
  have HN := hid (isnone_n p w H)
  go_enter Try.func23, Try.ntmps23
  go_wp2_with fail
  refine HN.out.mono ?_
  rintro e w' ⟨rfl, rfl⟩
  go_wp2_with fail
  go_ret
  exact ⟨rfl, rfl⟩
theorem height_n (p : Option Addr) (w : World) (H : Non w p) : Calls Try.prog 24 #[.pointer p] w fun e w' => e = .returned (.int .i64 0) ∧ w' = w := by
  have HN := hid (isnone_n p w H)
  go_enter Try.func24, Try.ntmps24
  go_wp2_with fail
  refine HN.out.mono ?_
  rintro e w' ⟨rfl, rfl⟩
  go_wp2_with fail
  go_ret
  exact ⟨rfl, rfl⟩
theorem firstof_n (p : Option Addr) (w : World) (H : Non w p) : Calls Try.prog 27 #[.pointer p] w fun e w' => e = .returned (.int .i64 0) ∧ w' = w := by
  have HN := hid (isnone_n p w H)
  go_enter Try.func27, Try.ntmps27
  go_wp2_with fail
  refine HN.out.mono ?_
  rintro e w' ⟨rfl, rfl⟩
  go_wp2_with fail
  go_ret
  exact ⟨rfl, rfl⟩
theorem has_n (p : Option Addr) (n : Int) (w : World) (H : Non w p) : Calls Try.prog 74 #[.pointer p, .int .i64 n] w fun e w' => e = .returned (.bool false) ∧ w' = w := by
  have HN := hid (len_n p w H)
  by_cases h1 : 1 ≤ n
  · have h2 : ¬ n ≤ 0 := by omega
    go_enter Try.func74, Try.ntmps74
    go_wp2_with fail
    refine HN.out.mono ?_
    rintro e w' ⟨rfl, rfl⟩
    go_wp2_with fail
    go_ret
    exact ⟨by simp; omega, rfl⟩
  · go_enter Try.func74, Try.ntmps74
    go_wp2_with fail
    go_ret
    exact ⟨rfl, rfl⟩
theorem nextof_n (p : Option Addr) (n : Int) (w : World) (H : Non w p) : Calls Try.prog 29 #[.pointer p, .int .i64 n] w fun e w' => e = .returned (.int .i64 0) ∧ w' = w := by
  have HN := hid (has_n p n w H)
  go_enter Try.func29, Try.ntmps29
  go_wp2_with fail
  refine HN.out.mono ?_
  rintro e w' ⟨rfl, rfl⟩
  go_wp2_with fail
  go_ret
  exact ⟨rfl, rfl⟩
theorem prevof_n (p : Option Addr) (n : Int) (w : World) (H : Non w p) : Calls Try.prog 30 #[.pointer p, .int .i64 n] w fun e w' => e = .returned (.int .i64 0) ∧ w' = w := by
  have HN := hid (has_n p n w H)
  go_enter Try.func30, Try.ntmps30
  go_wp2_with fail
  refine HN.out.mono ?_
  rintro e w' ⟨rfl, rfl⟩
  go_wp2_with fail
  go_ret
  exact ⟨rfl, rfl⟩
set_option maxHeartbeats 1000000 in
theorem node_n (p : Option Addr) (n : Int) (w : World) (H : Non w p) : Calls Try.prog 21 #[.pointer p, .int .i64 n] w fun e w' => e = .returned (.tuple #[.agg #[.string ⟨#[]⟩, .int .u64 0, .int .i64 0], .int .i64 0, .bool false]) ∧ Below w.heap.size w w' := by
  obtain ⟨W0, hW0⟩ : ∃ W0, W0 = w.alloc (.cells #[.string ⟨#[]⟩, .int .u64 0, .int .i64 0] 36) := ⟨_, rfl⟩
  obtain ⟨gr, hgr⟩ : ∃ gr, gr = w.heap.size := ⟨_, rfl⟩
  have B0 : Below w.heap.size w W0 := by rw [hW0]; exact box_below _ _
  have K0 : Bx W0 gr ⟨#[]⟩ 0 0 := by rw [hW0, hgr]; exact new_at _ _
  have HN := hid (has_n p n W0 (H.later B0))
  have k0 := K0.c0
  have k1 := K0.c1
  have k2 := K0.c2
  have f0 := fz_of K0 0
  have f1 := fz_of K0 1
  have f2 := fz_of K0 2
  have HB : Hid (∀ W, Below w.heap.size w W → ∀ i v, Below w.heap.size w (W.setCell ⟨gr, i, none⟩ v)) := fun W hW i v => hW.setCell (by show w.heap.size ≤ gr; omega) v
  replace hW0 := hid hW0
  replace hgr := hid hgr
  replace B0 := hid B0
  replace K0 := hid K0
  go_enter Try.func21, Try.ntmps21
  go_wp2_with fail
  rw [← hW0.out, ← hgr.out]
  refine HN.out.mono ?_
  rintro e w' ⟨rfl, rfl⟩
  go_wp2_with fail
  have KF : Bx (((w'.setCell ⟨gr, 0, none⟩ (.string ⟨#[]⟩)).setCell ⟨gr, 1, none⟩ (.int .u64 0)).setCell ⟨gr, 2, none⟩ (.int .i64 0)) gr ⟨#[]⟩ 0 0 := by
    have h0 := K0.out
    unfold Bx at h0 ⊢
    rw [set_of (set_of (set_of h0 _ _) _ _)]
    rfl
  have x0 := KF.c0
  have x1 := KF.c1
  have x2 := KF.c2
  generalize hWF : ((w'.setCell ⟨gr, 0, none⟩ (.string ⟨#[]⟩)).setCell ⟨gr, 1, none⟩ (.int .u64 0)).setCell ⟨gr, 2, none⟩ (.int .i64 0) = WF at *
  have BF : Hid (Below w.heap.size w WF) := by rw [← hWF]; exact HB.out _ (HB.out _ (HB.out _ B0.out _ _) _ _) _ _
  exact bodyPost_ret (v := .tuple #[.agg #[.string ⟨#[]⟩, .int .u64 0, .int .i64 0], .int .i64 0, .bool false]) (by simp [results, Try.results21, go_sem, x0, x1, x2]) rfl ⟨rfl, BF.out⟩
theorem links_n (p : Option Addr) (n : Int) (w : World) (H : Non w p) : Calls Try.prog 31 #[.pointer p, .int .i64 n] w fun e w' => e = .returned (.slice none 0 0) ∧ w' = w := by
  have HH := hid (height_n p w H)
  by_cases h1 : n < 0
  · go_enter Try.func31, Try.ntmps31
    go_wp2_with fail
    go_ret
    exact ⟨rfl, rfl⟩
  · have h2 : (0 : Int) ≤ n := by omega
    go_enter Try.func31, Try.ntmps31
    go_wp2_with fail
    refine HH.out.mono ?_
    rintro e w' ⟨rfl, rfl⟩
    go_wp2_with fail
    go_ret
    exact ⟨rfl, rfl⟩
set_option maxHeartbeats 1000000 in
theorem last_n (p : Option Addr) (w : World) (H : Non w p) : Calls Try.prog 28 #[.pointer p] w fun e w' => e = .returned (.int .i64 0) ∧ w' = w := by
  have HH := hid (height_n p w H)
  go_enter Try.func28, Try.ntmps28
  go_wp2_with fail
  refine HH.out.mono ?_
  rintro e w' ⟨rfl, rfl⟩
  go_wp2_with fail
  go_loopw [3, 4] (fun a lv wr => a = .int .i64 0 ∧ lv = .int .i64 (-1) ∧ wr = w') (fun _ _ _ => 0)
  case atStart => exact ⟨rfl, by first | rfl | go_num, rfl⟩
  case round =>
    obtain ⟨rfl, rfl, rfl⟩ := hrel
    go_wp2_with fail
    go_ret
    exact ⟨rfl, rfl⟩
set_option maxHeartbeats 1000000 in
theorem find_n (p : Option Addr) (k : ByteArray) (s c : Int) (w : World) (H : Non w p) : Calls Try.prog 73 #[.pointer p, .agg #[.string k, .int .u64 s, .int .i64 c]] w fun e w' => e = .returned (.tuple #[.int .i64 0, .bool false]) ∧ Below w.heap.size w w' := by
  have B0 := box_below w (.cells #[.string k, .int .u64 s, .int .i64 c] 36)
  have HH := hid (height_n p _ (H.later B0))
  replace B0 := hid B0
  go_enter Try.func73, Try.ntmps73
  go_wp2_with fail
  refine wp_scope_straight ?_
  go_wp2_with fail
  refine wp_label ?_
  go_wp2_with fail
  refine HH.out.mono ?_
  rintro e w' ⟨rfl, rfl⟩
  go_wp2_with fail
  go_loopw [4, 5, 6, 7] (fun a b d lv wr => a = .int .i64 0 ∧ b = .bool false ∧ lv = .int .i64 (-1) ∧ Hid (Below w.heap.size w wr)) (fun _ _ _ _ _ => 0)
  case atStart => exact ⟨rfl, rfl, by first | rfl | go_num, B0⟩
  case round =>
    obtain ⟨rfl, rfl, rfl, HB⟩ := hrel
    go_wp2_with fail
    try unfold Exit.noGoto
    go_ret2
    exact ⟨rfl, HB.out⟩
theorem seek_n (p : Option Addr) (k : ByteArray) (s c : Int) (w : World) (H : Non w p) : Calls Try.prog 25 #[.pointer p, .agg #[.string k, .int .u64 s, .int .i64 c]] w fun e w' => e = .returned (.int .i64 0) ∧ Below w.heap.size w w' := by
  have B0 := box_below w (.cells #[.string k, .int .u64 s, .int .i64 c] 36)
  have HF := hid (find_n p k s c _ (H.later B0))
  replace B0 := hid B0
  go_enter Try.func25, Try.ntmps25
  go_wp2_with fail
  refine HF.out.mono ?_
  rintro e w' ⟨rfl, b1⟩
  have B1 := hid (B0.out.trans (b1.mono B0.out.size))
  go_wp2_with fail
  go_ret
  exact ⟨rfl, B1.out⟩
theorem get_n (p : Option Addr) (k : ByteArray) (s c : Int) (w : World) (H : Non w p) : Calls Try.prog 20 #[.pointer p, .agg #[.string k, .int .u64 s, .int .i64 c]] w fun e w' => e = .returned (.tuple #[.int .i64 0, .bool false]) ∧ Below w.heap.size w w' := by
  have B0 := box_below w (.cells #[.string k, .int .u64 s, .int .i64 c] 36)
  have HF := hid (find_n p k s c _ (H.later B0))
  replace B0 := hid B0
  go_enter Try.func20, Try.ntmps20
  go_wp2_with fail
  refine HF.out.mono ?_
  rintro e w' ⟨rfl, b1⟩
  have B1 := hid (B0.out.trans (b1.mono B0.out.size))
  go_wp2_with fail
  go_ret2
  exact ⟨rfl, B1.out⟩
theorem insert_n (p : Option Addr) (k : ByteArray) (s c : Int) (x : Int) (h : Int) (w : World) (H : Non w p) : Calls Try.prog 18 #[.pointer p, .agg #[.string k, .int .u64 s, .int .i64 c], .int .i64 x, .int .i64 h] w fun e w' => e = .returned (.int .i64 1) ∧ Below w.heap.size w w' := by
  have B0 := box_below w (.cells #[.string k, .int .u64 s, .int .i64 c] 36)
  have HF := hid (isnone_n p _ (H.later B0))
  replace B0 := hid B0
  go_enter Try.func18, Try.ntmps18
  go_wp2_with fail
  refine HF.out.mono ?_
  rintro e w' ⟨rfl, rfl⟩
  go_wp2_with fail
  go_ret
  exact ⟨rfl, B0.out⟩
set_option maxHeartbeats 2000000 in
set_option maxRecDepth 100000 in
theorem trail_n (p : Option Addr) (k : ByteArray) (s c : Int) (w : World) (H : Non w p) : Calls Try.prog 69 #[.pointer p, .agg #[.string k, .int .u64 s, .int .i64 c]] w fun e w' => e = .returned (.agg (tow fun _ => 0)) ∧ Below w.heap.size w w' := by
  obtain ⟨gk, hgk⟩ : ∃ gk, gk = w.heap.size := ⟨_, rfl⟩
  obtain ⟨W0, hW0⟩ : ∃ W0, W0 = ((w.alloc (.cells #[.string k, .int .u64 s, .int .i64 c] 36)).alloc (.cells #[.int .i32 0, .int .i32 0, .int .i32 0, .int .i32 0, .int .i32 0, .int .i32 0, .int .i32 0, .int .i32 0, .int .i32 0, .int .i32 0, .int .i32 0, .int .i32 0] 90)).alloc (.cells #[.int .i32 0, .int .i32 0, .int .i32 0, .int .i32 0, .int .i32 0, .int .i32 0, .int .i32 0, .int .i32 0, .int .i32 0, .int .i32 0, .int .i32 0, .int .i32 0] 90) := ⟨_, rfl⟩
  obtain ⟨B0, K0, R0, T0⟩ := boxes k s c w W0 hW0
  rw [← hgk] at K0 R0 T0
  have HH := hid (height_n p W0 (H.later B0))
  have HR2 : Hid (Blk W0 (gk + 1) 90 (tow fun _ => 0)) := R0
  have HT2 : Hid (Blk W0 (gk + 1 + 1) 90 (tow fun _ => 0)) := T0
  obtain ⟨F, hF⟩ : ∃ F, F = tow (fun _ => 0) := ⟨_, rfl⟩
  rw [← hF] at HR2 HT2
  have zF : Hid (F.size = 12) := by rw [hF]; exact rfl
  have oF : Hid (F.all (·.oneCell') = true) := by rw [hF]; exact tow_one _
  replace hF := hid hF
  replace hW0 := hid hW0
  replace hgk := hid hgk
  replace B0 := hid B0
  clear R0 T0 K0
  go_enter Try.func69, Try.ntmps69
  go_wp2_with fail
  rw [← hW0.out, ← hgk.out]
  refine HH.out.mono ?_
  rintro e w' ⟨rfl, rfl⟩
  clear hW0 HH
  go_wp2_with fail
  go_loopw [6, 7] (fun a lv wr => lv = .int .i64 (-1) ∧ wr = w') (fun _ _ _ => 0)
  case atStart => exact ⟨by first | rfl | go_num, rfl⟩
  case round =>
    obtain ⟨rfl, rfl⟩ := hrel
    go_wp2_with (first | (refine load_arr rfl _ 90 rfl 21 (gk + 1 + 1) 90 F rfl Try.underlying90 info12 HT2.out zF.out ?_) | (refine store_arr rfl _ _ 90 rfl (gk + 1) 90 F F rfl rfl info12 HR2.out zF.out zF.out oF.out ?_))
    intro W2 K2 G2
    have HK2 := hid K2
    have B2 : Hid (Below w.heap.size w W2) := B0.out.grown G2 B0.out.size (by intro j hj; simp at hj; have := hgk.out; omega)
    clear K2 G2
    go_wp2_with fail
    have hld := run_loadVar_row W2 (gk + 1) 90 90 F (0, 0) _ HK2.out Try.underlying90 rfl (by rw [info12, zF.out])
    refine bodyPost_ret (v := .agg F) ?_ rfl ⟨by rw [hF.out], B2.out⟩
    rw [results_cell1 rfl]
    simp [asAddr, Result.andThen, hld]
set_option maxHeartbeats 1000000 in
set_option maxRecDepth 100000 in
theorem before_n (p : Option Addr) (k : ByteArray) (s c : Int) (w : World) (H : Non w p) : Calls Try.prog 26 #[.pointer p, .agg #[.string k, .int .u64 s, .int .i64 c]] w fun e w' => e = .returned (.int .i64 0) ∧ Below w.heap.size w w' := by
  have B0 := box_below w (.cells #[.string k, .int .u64 s, .int .i64 c] 36)
  have HT := hid (trail_n p k s c _ (H.later B0))
  have hid0 := Ge.idx0 (fun _ => 0)
  replace B0 := hid B0
  go_enter Try.func26, Try.ntmps26
  go_wp2_with fail
  refine HT.out.mono ?_
  rintro e w' ⟨rfl, b1⟩
  have B1 := hid (B0.out.trans (b1.mono B0.out.size))
  generalize tow (fun _ => 0) = A at *
  go_wp2_with fail
  go_ret
  exact ⟨by first | rfl | go_num, B1.out⟩
set_option maxHeartbeats 1000000 in
set_option maxRecDepth 100000 in
theorem trailing_n (p : Option Addr) (k : ByteArray) (s c : Int) (w : World) (H : Non w p) : Calls Try.prog 32 #[.pointer p, .agg #[.string k, .int .u64 s, .int .i64 c]] w fun e w' => e = .returned (.slice none 0 0) ∧ Below w.heap.size w w' := by
  have B0 := box_below w (.cells #[.string k, .int .u64 s, .int .i64 c] 36)
  have HT := hid (trail_n p k s c _ (H.later B0))
  replace H := hid H
  replace B0 := hid B0
  go_enter Try.func32, Try.ntmps32
  go_wp2_with fail
  refine HT.out.mono ?_
  rintro e w3 ⟨rfl, b1⟩
  have B3 := hid (B0.out.trans (b1.mono B0.out.size))
  have hZ3 := hid (boxZ w3)
  have hA3 := hid (box_below w3 (.cells #[.int .i32 0, .int .i32 0, .int .i32 0, .int .i32 0, .int .i32 0, .int .i32 0, .int .i32 0, .int .i32 0, .int .i32 0, .int .i32 0, .int .i32 0, .int .i32 0] 90))
  obtain ⟨F, hF⟩ : ∃ F, F = tow (fun _ => 0) := ⟨_, rfl⟩
  have zF : Hid (F.size = 12) := by rw [hF]; exact rfl
  have oF : Hid (F.all (·.oneCell') = true) := by rw [hF]; exact tow_one _
  rw [← hF]
  replace hF := hid hF
  clear b1 HT
  go_wp2_with (first | (refine store_arr rfl _ _ 90 rfl w3.heap.size 90 #[.int .i32 0, .int .i32 0, .int .i32 0, .int .i32 0, .int .i32 0, .int .i32 0, .int .i32 0, .int .i32 0, .int .i32 0, .int .i32 0, .int .i32 0, .int .i32 0] F rfl rfl info12 hZ3.out rfl zF.out oF.out ?_))
  intro w4 K4 g4
  have b4 : Below w3.heap.size w3 w4 := (hA3.out).grown g4 (by rw [size_alloc]; omega) (by intro j hj; simp at hj; omega)
  have B4 := hid (B3.out.trans (b4.mono B3.out.size))
  have HH := hid (height_n p w4 (H.out.later B4.out))
  clear K4 g4 b4 hA3 hZ3
  go_wp2_with fail
  refine HH.out.mono ?_
  rintro e w5 ⟨rfl, rfl⟩
  go_wp2_with fail
  go_loopw [5, 7] (fun v lv wr => v = .slice none 0 0 ∧ lv = .int .i64 (-1) ∧ wr = w5) (fun _ _ _ => 0)
  case atStart => exact ⟨rfl, by first | rfl | go_num, rfl⟩
  case round =>
    obtain ⟨rfl, rfl, rfl⟩ := hrel
    go_wp2_with fail
    go_ret
    exact ⟨rfl, B4.out⟩
end Go.Proofs.Ythnmoidfdojoiaa.Nn

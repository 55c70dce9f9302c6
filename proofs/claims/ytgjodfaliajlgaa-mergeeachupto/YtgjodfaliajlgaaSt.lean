/- The law's stands by contract. -/
import Derived.Test.YtgjodfaliajlgaaMx
namespace Go.Proofs.Ytgjodfaliajlgaa.St
open Go.ChangeShapes Go.WideShapes Go.ChangeAt Go.RowKit
open Go.Sort (grow)
open Go.Proofs.Ytgjodfaliajlgaa.Gr hiding hid addr_add
open Go.Proofs.Ytgjodfaliajlgaa.Ik
open Go.Proofs.Ytgjodfaliajlgaa.Ee
open Go.Proofs.Ytgjodfaliajlgaa.Mi
open Go.Proofs.Ytgjodfaliajlgaa.Hp
open Go.Proofs.Ytgjodfaliajlgaa.Ls9 (Lb c4 hr hv hb)
open Go.Proofs.Ytgjodfaliajlgaa.Gc9
open Go.Proofs.Ytgjodfaliajlgaa.Pm
open Go.Proofs.Ytgjodfaliajlgaa.Mt
open Go.Proofs.Ytgjodfaliajlgaa.My (pos ins_at ins_hb)
open Go.Proofs.Ytgjodfaliajlgaa.Mh
set_option linter.unusedVariables false
set_option linter.unusedSimpArgs false

theorem text_self (a : ByteArray) : (a.toList == a.toList) = true := beq_self_eq_true _
set_option maxHeartbeats 1000000 in
theorem run_eq (a : ByteArray) (s c : Int) (v : ByteArray) (w : World) : (binOp .eql 43 (.agg #[.string a, .int .u64 s, .int .i64 c, .string v]) (.agg #[.string a, .int .u64 s, .int .i64 c, .string v])).run Try.prog w = .ok (.bool true) w := by
  have h1 := text_self a
  have h2 := text_self v
  go_simp
  try rfl
section
variable {w : World} {gm gs N cs : Nat} {S : List Src} {L : List It} {X : Nat → Prop} {bk : Bool} {k : Nat}
set_option maxHeartbeats 1000000 in
set_option maxRecDepth 20000 in
theorem stands_out (M : Ms w gm gs N cs S L X bk k) (aa : Option Addr) (T ac : Nat) (p : Int) (hp : p = pos bk k) (hT : L.length = T) (hw : T ≤ 1000000000) (ho : hb L.length p = false) :
    Calls Try.prog 11 #[.pointer (some ⟨gm, 0, none⟩), .slice aa T ac, .int .i64 p] w fun e w' => e = .returned (.bool true) ∧ Below w.heap.size w w' := by
  have HH := hid (mhere_any M)
  rw [← hp, ho] at HH
  unfold hv at HH
  rw [hr_none ho] at HH
  have HF := hid (fun W (b : Below w.heap.size w W) => mfrom_any (M.later b))
  have hfr : fr L (pos bk k) = -1 := by unfold fr; rw [← hp, ho]; rfl
  rw [hfr] at HF
  have hre := hid (fun w => run_eq ⟨#[]⟩ 0 0 ⟨#[]⟩ w)
  have hpo : p < 0 ∨ (T : Int) ≤ p := by
    unfold hb at ho
    rw [hT] at ho
    by_cases h1 : p < 0
    · exact .inl h1
    · by_cases h2 : (T : Int) ≤ p
      · exact .inr h2
      · rw [decide_eq_true (show (0 : Int) ≤ p by omega), decide_eq_true (show p < (T : Int) by omega)] at ho; cases ho
  unfold c4 ze at HH
  simp only [Option.getD_none] at HH
  try dsimp only at HH
  replace ho := hid ho
  replace hp := hid hp
  replace hT := hid hT
  clear M hfr
  rcases hpo with h1 | h1
  · go_enter Try.func11, Try.ntmps11
    go_wp2_with fail
    refine HH.out.mono ?_
    rintro e w1 ⟨rfl, b1⟩
    obtain ⟨W1, hW1⟩ : ∃ W, W = w1.alloc (.cells #[.string ⟨#[]⟩, .int .u64 0, .int .i64 0, .string ⟨#[]⟩] 43) := ⟨_, rfl⟩
    have B1 : Below w.heap.size w W1 := by rw [hW1]; exact Below.up b1 (box_below _ _)
    have HF1 := hid (HF.out W1 B1)
    have hre1 := hre.out
    replace B1 := hid B1
    replace hW1 := hid hW1
    clear HH HF b1
    go_wp2_with fail
    rw [← hW1.out]
    refine HF1.out.mono ?_
    rintro e w2 ⟨rfl, b2⟩
    have B2 := hid (Below.up B1.out b2)
    clear b2 HF1 B1
    go_wp2_with fail
    go_ret
    exact ⟨rfl, B2.out⟩
  · have h2 : ¬ p < 0 := by omega
    go_enter Try.func11, Try.ntmps11
    go_wp2_with fail
    refine HH.out.mono ?_
    rintro e w1 ⟨rfl, b1⟩
    obtain ⟨W1, hW1⟩ : ∃ W, W = w1.alloc (.cells #[.string ⟨#[]⟩, .int .u64 0, .int .i64 0, .string ⟨#[]⟩] 43) := ⟨_, rfl⟩
    have B1 : Below w.heap.size w W1 := by rw [hW1]; exact Below.up b1 (box_below _ _)
    have HF1 := hid (HF.out W1 B1)
    have hre1 := hre.out
    replace B1 := hid B1
    replace hW1 := hid hW1
    clear HH HF b1
    go_wp2_with fail
    rw [← hW1.out]
    refine HF1.out.mono ?_
    rintro e w2 ⟨rfl, b2⟩
    have B2 := hid (Below.up B1.out b2)
    clear b2 HF1 B1
    go_wp2_with fail
    go_ret
    exact ⟨rfl, B2.out⟩
set_option maxHeartbeats 2000000 in
set_option maxRecDepth 20000 in
theorem stands_in (M : Ms w gm gs N cs S L X bk k) (aa : Option Addr) (T ac j : Nat) (hp : (j : Int) = pos bk k) (hT : L.length = T) (hw : T ≤ 1000000000) (hj : j < T) (HA : eI.Sl w aa T ac L) :
    Calls Try.prog 11 #[.pointer (some ⟨gm, 0, none⟩), .slice aa T ac, .int .i64 (j : Int)] w fun e w' => e = .returned (.bool true) ∧ Below w.heap.size w w' := by
  have HH := hid (mhere_any M)
  have hbT : hb L.length (j : Int) = true := by unfold hb; rw [hT, decide_eq_true (show (0 : Int) ≤ (j : Int) by omega), decide_eq_true (show (j : Int) < (T : Int) by omega)]; rfl
  rw [← hp, hbT] at HH
  unfold hv at HH
  rw [hr_map (by rw [hT]; exact hj)] at HH
  have HF := hid (fun W (b : Below w.heap.size w W) => mfrom_any (M.later b))
  have hfr : fr L (pos bk k) = ((L.getD j zi).f : Int) := by unfold fr; rw [← hp, hbT, if_pos rfl, show ((j : Int)).toNat = j by omega]
  rw [hfr] at HF
  obtain ⟨ba, oa, ha, hx⟩ := sl_at HA j hj
  subst ha
  have hx := it_at hx
  rw [show eI.k = 5 from rfl, show eI.z = zi from rfl] at hx
  have hcap := HA.c
  obtain ⟨x, hxx⟩ : ∃ x, x = L.getD j zi := ⟨_, rfl⟩
  rw [← hxx] at HH HF hx
  obtain ⟨⟨xk, xs, xc, xv⟩, xf⟩ := x
  dsimp only at HF hx
  simp only [Option.getD_some] at HH
  unfold c4 at HH
  dsimp only at HH
  obtain ⟨x0, x1, x2, x3, x4⟩ := hx
  have hre := hid (fun w => run_eq xk xs xc xv w)
  have j0 : ¬ (j : Int) < 0 := by omega
  have j1 : (j : Int) < (T : Int) := by omega
  have j2 : (0 : Int) ≤ (j : Int) := by omega
  replace hp := hid hp
  replace hT := hid hT
  replace hxx := hid hxx
  replace hbT := hid hbT
  clear M hfr HA
  have HX : Hid (∀ W, Below w.heap.size w W → W.cell? ⟨ba, oa + j * 5, none⟩ = some (.string xk) ∧ W.cell? ⟨ba, oa + j * 5 + 1, none⟩ = some (.int .u64 xs) ∧ W.cell? ⟨ba, oa + j * 5 + 2, none⟩ = some (.int .i64 xc) ∧ W.cell? ⟨ba, oa + j * 5 + 3, none⟩ = some (.string xv) ∧ W.cell? ⟨ba, oa + j * 5 + 4, none⟩ = some (.int .i64 xf)) := fun W b =>
    ⟨(b.cell (block_lt_of_cell x0)).trans x0, (b.cell (block_lt_of_cell x1)).trans x1, (b.cell (block_lt_of_cell x2)).trans x2, (b.cell (block_lt_of_cell x3)).trans x3, (b.cell (block_lt_of_cell x4)).trans x4⟩
  clear x0 x1 x2 x3 x4
  go_enter Try.func11, Try.ntmps11
  go_wp2_with fail
  refine HH.out.mono ?_
  rintro e w1 ⟨rfl, b1⟩
  obtain ⟨W1, hW1⟩ : ∃ W, W = w1.alloc (.cells #[.string xk, .int .u64 xs, .int .i64 xc, .string xv] 43) := ⟨_, rfl⟩
  obtain ⟨g1, hg1⟩ : ∃ g, g = w1.heap.size := ⟨_, rfl⟩
  have B1 : Below w.heap.size w W1 := by rw [hW1]; exact Below.up b1 (box_below _ _)
  have K1 : W1.heap[g1]? = some (.cells #[.string xk, .int .u64 xs, .int .i64 xc, .string xv] 43) := by rw [hW1, hg1]; exact new_at _ _
  have y0 := cell_regrown (cell_of K1 0 _ rfl)
  have y1 := cell_regrown (cell_of K1 1 _ rfl)
  have y2 := cell_regrown (cell_of K1 2 _ rfl)
  have y3 := cell_regrown (cell_of K1 3 _ rfl)
  obtain ⟨x0, x1, x2, x3, x4⟩ := HX.out W1 B1
  replace x0 := cell_regrown x0
  replace x1 := cell_regrown x1
  replace x2 := cell_regrown x2
  replace x3 := cell_regrown x3
  replace x4 := cell_regrown x4
  have HF1 : Hid (∀ d os, Calls Try.prog 27 #[.pointer (some ⟨gm, 0, none⟩)] (Go.Sort.grow (redrawn W1 d) os) fun e w' => e = .returned (.int .i64 xf) ∧ Below (Go.Sort.grow (redrawn W1 d) os).heap.size (Go.Sort.grow (redrawn W1 d) os) w') := fun d os => HF.out _ (Below.up B1 (below_regrown W1 d os))
  have hre1 := hre.out
  have B1' : Hid (Below w.heap.size w W1) := B1
  replace hW1 := hid hW1
  replace hg1 := hid hg1
  clear HH HF b1 K1 HX B1
  go_upto_region 4 with fail
  rw [← hW1.out, ← hg1.out]
  refine wp_region_quiet_below (by kernel_rfl) (by kernel_rfl) ?_
  repeat (first | go_big_quiet_step (first | (go_at_call 27; exact Calls.regrown_of (HF1.out _ _))) | quiet_step (first | (go_at_call 27; exact Calls.regrown_of (HF1.out _ _))))
  refine wpQuiet_nil ?_
  intro w5 hw5
  have b5 : Below W1.heap.size W1 w5 := by
    obtain ⟨⟨dq, osq⟩, hw''⟩ := hw5
    rw [hw'']
    exact below_regrown _ dq osq
  have B5 := hid (Below.up B1'.out b5)
  clear hw5 b5
  go_wp2_with fail
  go_ret
  exact ⟨rfl, B5.out⟩
theorem stands_any (M : Ms w gm gs N cs S L X bk k) (aa : Option Addr) (T ac : Nat) (p : Int) (hp : p = pos bk k) (hT : L.length = T) (hw : T ≤ 1000000000) (HA : eI.Sl w aa T ac L) :
    Calls Try.prog 11 #[.pointer (some ⟨gm, 0, none⟩), .slice aa T ac, .int .i64 p] w fun e w' => e = .returned (.bool true) ∧ Below w.heap.size w w' := by
  cases h : hb L.length p with
  | false => exact stands_out M aa T ac p hp hT hw h
  | true =>
    unfold hb at h
    rw [Bool.and_eq_true] at h
    obtain ⟨h1, h2⟩ := h
    have h1 := of_decide_eq_true h1
    have h2 := of_decide_eq_true h2
    obtain ⟨j, hj⟩ : ∃ j : Nat, (j : Int) = p := ⟨p.toNat, by omega⟩
    subst hj
    exact stands_in M aa T ac j hp hT hw (by omega) HA
end
end Go.Proofs.Ytgjodfaliajlgaa.St

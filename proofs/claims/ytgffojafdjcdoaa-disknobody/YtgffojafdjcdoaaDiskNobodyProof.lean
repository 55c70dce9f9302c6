/- Proved: for every call of a disk with any names, bytes, places and numbers, DiskNobody returns true: a nil disk and a plain Disk answer ErrNil to each call that can fail, nothing to the looks, Clone of a nil one is nil, and two nil ones are the same. -/
import Derived.Test.YtgffojafdjcdoaaDm
import Derived.Test.YtgffojafdjcdoaaAo
import Derived.Deep.RegionWith
namespace Go.Proofs.Ytgffojafdjcdoaa.diskNobody
open Go.ChangeShapes Go.WideShapes Go.ChangeAt Go.RowKit Go.Joins
open Go.ChangeMaps (open_string shut_string)
open Go.Sort
open Go.Proofs.Ytgffojafdjcdoaa.By
open Go.Proofs.Ytgffojafdjcdoaa.Ln
open Go.Proofs.Ytgffojafdjcdoaa.Nb
open Go.Proofs.Ytgffojafdjcdoaa.Ac
open Go.Proofs.Ytgffojafdjcdoaa.Ao
open Go.Proofs.Ytgffojafdjcdoaa.Dn
set_option linter.unusedVariables false

/-- What the loop knows of the world. -/
structure Ev (B : Nat) (w0 w : World) (x : A) (gx g1 g2 : Nat) : Prop where
  bx : Bx w gx x
  ok : x.ok w
  non : Non w (some ⟨g1, 0, none⟩)
  c0 : w.cell? ⟨g2, 0, none⟩ = some (.pointer none)
  c1 : w.cell? ⟨g2, 1, none⟩ = some (.pointer (some ⟨g1, 0, none⟩))
  below : Below B w0 w
  base : B ≤ w0.heap.size
theorem Ev.later {B : Nat} {w0 w w' : World} {x : A} {gx g1 g2 : Nat} (h : Ev B w0 w x gx g1 g2) (b : Below w.heap.size w w') : Ev B w0 w' x gx g1 g2 :=
  ⟨h.bx.later b, h.ok.later b, h.non.later b, cell_later b h.c0, cell_later b h.c1, h.below.trans (b.mono (Nat.le_trans h.base h.below.size)), h.base⟩
theorem Ev.cell {B : Nat} {w0 w : World} {x : A} {gx g1 g2 : Nat} (h : Ev B w0 w x gx g1 g2) (i : Nat) : w.cell? ⟨gx, i, none⟩ = x.cells[i]? := h.bx.cell i
set_option maxRecDepth 10000 in
set_option maxHeartbeats 4000000 in
theorem law (x : A) (w : World) (hx : x.ok w) :
    Calls Try.prog 5 #[.agg #[.int .i64 x.kind, .string x.name, .string x.to, .slice x.ba x.bl x.bc, .int .i64 x.at_, .int .i64 x.n, .slice x.ka x.kl x.kc]] w fun e w' => e = .returned (.bool true) ∧ Below w.heap.size w w' := by
  obtain ⟨W0, hW0⟩ : ∃ W0, W0 = ((w.alloc (.cells x.cells 35)).alloc (.cells #[.map none, .int .i64 0, .int .i64 0, .int .i64 0, .int .i64 0] 50)).alloc (.cells #[.pointer none, .pointer (some ⟨w.heap.size + 1, 0, none⟩)] 23) := ⟨_, rfl⟩
  obtain ⟨gx, hgx⟩ : ∃ gx, gx = w.heap.size := ⟨_, rfl⟩
  obtain ⟨g2, hg2⟩ : ∃ g2, g2 = w.heap.size + 2 := ⟨_, rfl⟩
  have E0 : Hid (Ev w.heap.size w W0 x gx (gx + 1) g2) := by
    rw [hgx, hg2]
    have b1 := box_below w (.cells x.cells 35)
    have b2 := box_below (w.alloc (.cells x.cells 35)) (.cells #[.map none, .int .i64 0, .int .i64 0, .int .i64 0, .int .i64 0] 50)
    have b3 := box_below ((w.alloc (.cells x.cells 35)).alloc (.cells #[.map none, .int .i64 0, .int .i64 0, .int .i64 0, .int .i64 0] 50)) (.cells #[.pointer none, .pointer (some ⟨w.heap.size + 1, 0, none⟩)] 23)
    have b23 := b2.trans (b3.mono b2.size)
    have b13 := b1.trans (b23.mono b1.size)
    have s1 : (w.alloc (.cells x.cells 35)).heap.size = w.heap.size + 1 := by show (w.heap.push _).size = _; simp
    have s2 : ((w.alloc (.cells x.cells 35)).alloc (.cells #[.map none, .int .i64 0, .int .i64 0, .int .i64 0, .int .i64 0] 50)).heap.size = w.heap.size + 2 := by show ((w.heap.push _).push _).size = _; simp
    rw [← hW0] at b13 b23 b3
    refine ⟨(Bx.new w x).later b23, hx.later b13, ?_, ?_, ?_, b13, Nat.le_refl _⟩
    · intro g hg
      simp at hg
      subst hg
      have h2 : ((w.alloc (.cells x.cells 35)).alloc (.cells #[.map none, .int .i64 0, .int .i64 0, .int .i64 0, .int .i64 0] 50)).heap[w.heap.size + 1]? = some (.cells #[.map none, .int .i64 0, .int .i64 0, .int .i64 0, .int .i64 0] 50 (0, 0)) := heap_alloc2_new _ _ _
      have hl : w.heap.size + 1 < ((w.alloc (.cells x.cells 35)).alloc (.cells #[.map none, .int .i64 0, .int .i64 0, .int .i64 0, .int .i64 0] 50)).heap.size := by rw [s2]; omega
      exact ⟨by have := b3.size; show w.heap.size + 1 < _; omega, rfl, (b3.block _ hl).trans h2⟩
    · have h3 : W0.heap[w.heap.size + 2]? = some (.cells #[.pointer none, .pointer (some ⟨w.heap.size + 1, 0, none⟩)] 23 (0, 0)) := by rw [hW0, ← s2]; exact heap_alloc_new _ _
      exact cell_of_row W0 _ 0 _ 23 (0, 0) h3
    · have h3 : W0.heap[w.heap.size + 2]? = some (.cells #[.pointer none, .pointer (some ⟨w.heap.size + 1, 0, none⟩)] 23 (0, 0)) := by rw [hW0, ← s2]; exact heap_alloc_new _ _
      exact cell_of_row W0 _ 1 _ 23 (0, 0) h3
  have HW : Hid (((w.alloc (.cells #[.int .i64 x.kind, .string x.name, .string x.to, .slice x.ba x.bl x.bc, .int .i64 x.at_, .int .i64 x.n, .slice x.ka x.kl x.kc] 35)).alloc (.cells #[.map none, .int .i64 0, .int .i64 0, .int .i64 0, .int .i64 0] 50)).alloc (.cells #[.pointer none, .pointer (some ⟨w.heap.size + 1, 0, none⟩)] 23) = W0) := hW0.symm
  clear hx hW0
  go_enter Try.func5, Try.ntmps5
  go_wp2_with fail
  rw [HW.out]
  rw [← hg2]
  rw [show (Value.pointer (some ⟨w.heap.size, 0, none⟩)) = .pointer (some ⟨gx, 0, none⟩) from by rw [hgx]]
  clear HW hg2 hgx
  go_loopw [15] (fun i wr => ∃ k : Nat, i = .int .i64 k ∧ k ≤ 2 ∧ Hid (Ev w.heap.size w wr x gx (gx + 1) g2)) (fun i _ => 2 - (intOf i).toNat)
  case atStart => exact ⟨0, rfl, by omega, E0⟩
  case round =>
    obtain ⟨k, rfl, hk, E⟩ := hrel
    by_cases hlt : k < 2
    · have ik : (k : Int) < 2 := by omega
      obtain ⟨q, hq, hN⟩ : ∃ q, wr.cell? ⟨g2, k, none⟩ = some (.pointer q) ∧ Hid (Non wr q) := by
        have : k = 0 ∨ k = 1 := by omega
        rcases this with rfl | rfl
        · exact ⟨none, E.out.c0, fun g h => nomatch h⟩
        · exact ⟨_, E.out.c1, E.out.non⟩
      have c0 := E.out.cell 0
      have c1 := E.out.cell 1
      have c4 := E.out.cell 4
      have c5 := E.out.cell 5
      change wr.cell? _ = some (.int .i64 x.kind) at c0
      change wr.cell? _ = some (.string x.name) at c1
      change wr.cell? _ = some (.int .i64 x.at_) at c4
      change wr.cell? _ = some (.int .i64 x.n) at c5
      by_cases h0 : 0 ≤ x.kind
      · by_cases h1 : x.kind < 8
        · have HD := hid (does_non q x wr hN.out E.out.ok h0 h1)
          have HBX := hid E.out.bx
          have hagg : Hid (wr.heap[gx]? = some (.cells #[.int .i64 x.kind, .string x.name, .string x.to, .slice x.ba x.bl x.bc, .int .i64 x.at_, .int .i64 x.n, .slice x.ka x.kl x.kc] 35 (0, 0))) := E.out.bx
          have c2 : wr.cell? ⟨gx, 2, none⟩ = some (.string x.to) := E.out.cell 2
          have c3 : wr.cell? ⟨gx, 3, none⟩ = some (.slice x.ba x.bl x.bc) := E.out.cell 3
          have c6 : wr.cell? ⟨gx, 6, none⟩ = some (.slice x.ka x.kl x.kc) := E.out.cell 6
          go_wp2_with fail
          refine HD.out.mono ?_
          rintro e w1 ⟨rfl, b1⟩
          have E1 := hid (E.out.later b1)
          have N1 := hid (hN.out.later b1)
          clear b1 HD E hN HBX hagg c0 c1 c2 c3 c4 c5 c6
          have c1 := E1.out.cell 1
          have c4 := E1.out.cell 4
          have c5 := E1.out.cell 5
          change w1.cell? _ = some (.string x.name) at c1
          change w1.cell? _ = some (.int .i64 x.at_) at c4
          change w1.cell? _ = some (.int .i64 x.n) at c5
          go_wp2_with fail
          refine (read_non q x.name x.at_ x.n _ N1.out).mono ?_
          rintro e w2 ⟨rfl, b2⟩
          have E2 := hid (E1.out.later b2)
          have N2 := hid (N1.out.later b2)
          have c1 := E2.out.cell 1
          change w2.cell? _ = some (.string x.name) at c1
          clear b2
          go_wp2_with fail
          refine (size_non q x.name _ N2.out).mono ?_
          rintro e w3 ⟨rfl, b3⟩
          have E3 := hid (E2.out.later b3)
          have N3 := hid (N2.out.later b3)
          clear b3 c1
          go_wp2_with fail
          refine (list_non q _ N3.out).mono ?_
          rintro e w4 ⟨rfl, rfl⟩
          go_wp2_with fail
          refine (used_non q _ N3.out).mono ?_
          rintro e w4 ⟨rfl, rfl⟩
          go_wp2_with fail
          refine (quota_non q _ N3.out).mono ?_
          rintro e w4 ⟨rfl, rfl⟩
          go_wp2_with fail
          refine (refused_non q _ N3.out).mono ?_
          rintro e w4 ⟨rfl, rfl⟩
          go_wp2_with fail
          go_roundw
          case rel => exact ⟨k + 1, by go_num, by omega, E3⟩
          case measure => simp [intOf]; omega
        · have E1 := E
          have N1 := hN
          go_wp2_with fail
          refine (read_non q x.name x.at_ x.n _ N1.out).mono ?_
          rintro e w2 ⟨rfl, b2⟩
          have E2 := hid (E1.out.later b2)
          have N2 := hid (N1.out.later b2)
          have c1 := E2.out.cell 1
          change w2.cell? _ = some (.string x.name) at c1
          clear b2
          go_wp2_with fail
          refine (size_non q x.name _ N2.out).mono ?_
          rintro e w3 ⟨rfl, b3⟩
          have E3 := hid (E2.out.later b3)
          have N3 := hid (N2.out.later b3)
          clear b3 c1
          go_wp2_with fail
          refine (list_non q _ N3.out).mono ?_
          rintro e w4 ⟨rfl, rfl⟩
          go_wp2_with fail
          refine (used_non q _ N3.out).mono ?_
          rintro e w4 ⟨rfl, rfl⟩
          go_wp2_with fail
          refine (quota_non q _ N3.out).mono ?_
          rintro e w4 ⟨rfl, rfl⟩
          go_wp2_with fail
          refine (refused_non q _ N3.out).mono ?_
          rintro e w4 ⟨rfl, rfl⟩
          go_wp2_with fail
          go_roundw
          case rel => exact ⟨k + 1, by go_num, by omega, E3⟩
          case measure => simp [intOf]; omega
      · have E1 := E
        have N1 := hN
        go_wp2_with fail
        refine (read_non q x.name x.at_ x.n _ N1.out).mono ?_
        rintro e w2 ⟨rfl, b2⟩
        have E2 := hid (E1.out.later b2)
        have N2 := hid (N1.out.later b2)
        have c1 := E2.out.cell 1
        change w2.cell? _ = some (.string x.name) at c1
        clear b2
        go_wp2_with fail
        refine (size_non q x.name _ N2.out).mono ?_
        rintro e w3 ⟨rfl, b3⟩
        have E3 := hid (E2.out.later b3)
        have N3 := hid (N2.out.later b3)
        clear b3 c1
        go_wp2_with fail
        refine (list_non q _ N3.out).mono ?_
        rintro e w4 ⟨rfl, rfl⟩
        go_wp2_with fail
        refine (used_non q _ N3.out).mono ?_
        rintro e w4 ⟨rfl, rfl⟩
        go_wp2_with fail
        refine (quota_non q _ N3.out).mono ?_
        rintro e w4 ⟨rfl, rfl⟩
        go_wp2_with fail
        refine (refused_non q _ N3.out).mono ?_
        rintro e w4 ⟨rfl, rfl⟩
        go_wp2_with fail
        go_roundw
        case rel => exact ⟨k + 1, by go_num, by omega, E3⟩
        case measure => simp [intOf]; omega
    · have hk2 : k = 2 := by omega
      subst hk2
      have BE := hid E.out.below
      have NN : Hid (Non wr none) := fun g h => nomatch h
      go_wp2_with fail
      refine (clone_non none wr NN.out).mono ?_
      rintro e w2 ⟨rfl, rfl⟩
      go_wp2_with fail
      refine (same_nil _).mono ?_
      rintro e w3 ⟨rfl, rfl⟩
      go_wp2_with fail
      go_ret
      exact ⟨rfl, BE.out⟩
theorem own : ownKnob Try.prog.godebug = none := by kernel_rfl
theorem laidOut : laidOutB Try.prog = true := by kernel_rfl
theorem u64_bd {v : Int} (h : (Lit.int .u64 v).wf = true) : 0 ≤ v ∧ v ≤ 18446744073709551615 := by
  simpa [Lit.wf, IntKind.min, IntKind.max, IntKind.signed, IntKind.bits] using h
theorem i64_bd {v : Int} (h : (Lit.int .i64 v).wf = true) : -9223372036854775808 ≤ v ∧ v ≤ 9223372036854775807 := by
  simpa [Lit.wf, IntKind.min, IntKind.max, IntKind.signed, IntKind.bits] using h

/-! ### The row's step -/
set_option maxRecDepth 100000 in
theorem lifted (os : Os) (started : os.Started) (H : Type) (enc : TypeId × Value → H) :
    ReturnsInHanded {} Try.checked os 5 .any (Rows.diskNobodySpec.pre6 enc Try.prog Try.f5 Rows.diskNobodyRow.domain false) (Rows.diskNobodySpec.post enc Try.prog Try.f5 false true false false) := by
  refine returnsInHanded_of_change_sized (C := Try.checked) own started (by kernel_rfl) Try.func5
    (ChangeSpec.witness6 (enc := enc) (C := Try.checked) false ⟨#[], #[.agg #[.int .i64 0, .string ByteArray.empty, .string ByteArray.empty, .slice none 0 0, .int .i64 0, .int .i64 0, .slice none 0 0]], []⟩ 8 (by kernel_rfl) (by kernel_rfl) (by kernel_rfl) (by kernel_rfl)) ?_
  intro W base args ds gs before hval0 hW hcnd hsz0 _
  have hval : ∀ (j : Nat) t v, Try.f5.params[j]? = some t → args[j]? = some v → Value.okWide Try.prog W .any base t v := hval0
  have hsz : (DataW.weightsEach Try.prog (Try.f5.params.toList ++ Rows.diskNobodySpec.plain.varTypes Try.prog) (ds ++ gs)).all (· ≤ reachBytes) = true := hsz0
  have hW' := hW
  obtain ⟨p, q, hA0, hV, rfl, hfz, hnd⟩ := hW
  have hA : DataW.TrodAll enc Try.prog W 0 (fun _ => true) true Try.f5.params.toList args.toList ds p := hA0
  rw [Try.params5] at hA hval hsz
  obtain ⟨v0, vs0, d0, ds0, p0, q0, hargs, rfl, rfl, h0, r0⟩ := trodAll_cons hA
  obtain ⟨rfl, rfl, rfl⟩ := trodAll_nil r0
  obtain rfl : args = #[v0] := by cases args; simp_all
  obtain ⟨rfl, rfl⟩ := trodVars_none hV
  have k0 := h0
  have lt0 : ∀ x ∈ p0, x.block < W.heap.size := by obtain ⟨m, hm⟩ := k0; exact DataW.trod_lt m _ _ _ hm
  have hws0 : ∀ m ∈ d0.weights Try.prog 35, m ≤ reachBytes := fun m hm => by
    have := List.all_eq_true.1 hsz m (DataW.weights_mem_each (j := 0) (t := 35) (d := d0) rfl rfl m hm)
    simpa using this
  obtain ⟨cs0, rfl, _⟩ := okWide_struct Try.underlying35 (hval 0 35 v0 rfl rfl)
  obtain ⟨x0, hx0, hcs0⟩ : ∃ a : Ac.A, a.ok W ∧ cs0 = a.cells := by
    obtain ⟨m0, hf0⟩ := h0
    obtain ⟨a, ha, hcs⟩ := Ao.open_act hf0 hws0
    exact ⟨a, ha, by cases cs0; simpa [Value.cells, Ac.A.cells] using hcs⟩
  subst hcs0
  clear hA0 hval0
  refine (law x0 W hx0).mono fun e W' ⟨he, bel⟩ => ?_
  subst he
  exact ⟨_, rfl, _, _, _, [], _, [], hW', trodAll_mk1 (shut_bool Try.underlying4 _), (trodAll_cons_mk (Below.trod laidOut (by kernel_rfl) (of_decide_eq_true (by kernel_rfl)) k0 bel lt0) trodAll_mk0), rfl, bel.frame _, fun h => by cases h⟩

theorem over : Rows.diskNobodyRow.holds Try.pinned (OpenSpec.ofChange Rows.diskNobodySpec) :=
  OpenClaim.holds_of_wide 5 Try.f5 rfl rfl rfl rfl rfl rfl rfl ⟨rfl, rfl, rfl, rfl, rfl⟩ rfl rfl rfl rfl rfl (by kernel_rfl) Try.func5 (by kernel_rfl)
    (of_decide_eq_true (by kernel_rfl)) (by unfold Func.isWrapper; first | (rw [if_pos (by decide +kernel)]; kernel_rfl) | (rw [if_neg (by decide +kernel)]; exact ⟨rfl, rfl⟩))
    (fun os started H enc _ => lifted os started H enc)
end Go.Proofs.Ytgffojafdjcdoaa.diskNobody
namespace Go.Proofs.Ytgffojafdjcdoaa
theorem diskNobody_holds : Rows.DiskNobodySaid := diskNobody.over
#print axioms diskNobody_holds
end Go.Proofs.Ytgffojafdjcdoaa

/- Proved: for any three internal keys IkeyOrder returns true: Compare of the program is a total order by which 0 is just what is alike. -/
import Derived.Test.YtbpgifpplnmjmaaCm
import Derived.ShutString
import Derived.ChangeOld
import Derived.Below
import Derived.SizedLaws
import Derived.Deep.RegionWith
import Derived.Lib.SmallJoins
namespace Go.Proofs.Ytbpgifpplnmjmaa.ikeyOrder
open Go.ChangeShapes Go.WideShapes Go.ChangeAt Go.RowKit Go.Joins
open Go.ChangeMaps (open_string shut_string)
set_option linter.unusedVariables false
open Go.Sort
open Go.Proofs.Ytbpgifpplnmjmaa.Ik
open Go.Proofs.Ytbpgifpplnmjmaa.Kd
open Go.Proofs.Ytbpgifpplnmjmaa.Cm

theorem hide {p : Prop} (h : p) : Hid p := h
theorem compare_below (a : ByteArray) (s k : Int) (b : ByteArray) (t m : Int) (w : World) :
    Calls Try.prog 11 #[.agg #[.string a, .int .u64 s, .int .i64 k], .agg #[.string b, .int .u64 t, .int .i64 m]] w fun e w' => e = .returned (.int .i64 (cmp (ik a s k) (ik b t m))) ∧ Below w.heap.size w w' :=
  (compare_any a s k b t m w).mono fun e w' ⟨he, hw⟩ => ⟨he, hw ▸ two_below ..⟩
theorem ik_inj (a : ByteArray) (s k : Int) (b : ByteArray) (t m : Int) : ik a s k = ik b t m ↔ a = b ∧ s = t ∧ k = m := by
  unfold ik
  rw [Prod.mk.injEq, Prod.mk.injEq]
  constructor
  · rintro ⟨h1, h2⟩
    refine ⟨?_, h2⟩
    obtain ⟨⟨la⟩⟩ := a
    obtain ⟨⟨lb⟩⟩ := b
    simp at h1
    rw [h1]
  · rintro ⟨rfl, h2⟩
    exact ⟨rfl, h2⟩

theorem toList_inj {a b : ByteArray} (h : a.toList = b.toList) : a = b := by
  rw [ByteArray.toList_eq, ByteArray.toList_eq] at h
  obtain ⟨⟨la⟩⟩ := a
  obtain ⟨⟨lb⟩⟩ := b
  simp at h
  rw [h]

set_option maxHeartbeats 2000000 in
theorem walk (a : ByteArray) (s k : Int) (b : ByteArray) (t m : Int) (c : ByteArray) (u n : Int) (w : World) (ha : a.size ≤ maxLen) (hs : 0 ≤ s ∧ s ≤ 18446744073709551615) (hk : -9223372036854775808 ≤ k ∧ k ≤ 9223372036854775807) (hb : b.size ≤ maxLen) (ht : 0 ≤ t ∧ t ≤ 18446744073709551615) (hm : -9223372036854775808 ≤ m ∧ m ≤ 9223372036854775807) (hc : c.size ≤ maxLen) (hu : 0 ≤ u ∧ u ≤ 18446744073709551615) (hn : -9223372036854775808 ≤ n ∧ n ≤ 9223372036854775807) :
    Calls Try.prog 8 #[.agg #[.string a, .int .u64 s, .int .i64 k], .agg #[.string b, .int .u64 t, .int .i64 m], .agg #[.string c, .int .u64 u, .int .i64 n]] w fun e w' => e = .returned (.bool true) ∧ Below w.heap.size w w' := by
  clear ha hs hk hb ht hm hc hu hn
  obtain ⟨W, hW⟩ : ∃ W, W = ((w.alloc (.cells #[.string a, .int .u64 s, .int .i64 k] 24)).alloc (.cells #[.string b, .int .u64 t, .int .i64 m] 24)).alloc (.cells #[.string c, .int .u64 u, .int .i64 n] 24) := ⟨_, rfl⟩
  have HB : Hid (Below w.heap.size w W) := by
    rw [hW]; exact (((Below.refl _ _).alloc (Nat.le_refl _) _).alloc (by simp) _).alloc (by simp; omega) _
  obtain ⟨g, hg⟩ : ∃ g, g = w.heap.size := ⟨_, rfl⟩
  have c1 : W.cell? ⟨g, 0, none⟩ = some (.string a) := by rw [hW, hg]; go_simp
  have c2 : W.cell? ⟨g, 1, none⟩ = some (.int .u64 s) := by rw [hW, hg]; go_simp
  have c3 : W.cell? ⟨g, 2, none⟩ = some (.int .i64 k) := by rw [hW, hg]; go_simp
  have c4 : W.cell? ⟨g + 1, 0, none⟩ = some (.string b) := by rw [hW, hg]; go_simp
  have c5 : W.cell? ⟨g + 1, 1, none⟩ = some (.int .u64 t) := by rw [hW, hg]; go_simp
  have c6 : W.cell? ⟨g + 1, 2, none⟩ = some (.int .i64 m) := by rw [hW, hg]; go_simp
  have c7 : W.cell? ⟨g + 2, 0, none⟩ = some (.string c) := by rw [hW, hg]; go_simp
  have c8 : W.cell? ⟨g + 2, 1, none⟩ = some (.int .u64 u) := by rw [hW, hg]; go_simp
  have c9 : W.cell? ⟨g + 2, 2, none⟩ = some (.int .i64 n) := by rw [hW, hg]; go_simp
  have d1 := fun d os => cell_regrown c1 d os
  have d2 := fun d os => cell_regrown c2 d os
  have d3 := fun d os => cell_regrown c3 d os
  have d4 := fun d os => cell_regrown c4 d os
  have d5 := fun d os => cell_regrown c5 d os
  have d6 := fun d os => cell_regrown c6 d os
  have d7 := fun d os => cell_regrown c7 d os
  have d8 := fun d os => cell_regrown c8 d os
  have d9 := fun d os => cell_regrown c9 d os
  have HW : Hid (W = ((w.alloc (.cells #[.string a, .int .u64 s, .int .i64 k] 24)).alloc (.cells #[.string b, .int .u64 t, .int .i64 m] 24)).alloc (.cells #[.string c, .int .u64 u, .int .i64 n] 24)) := hW
  have HG : Hid (g = w.heap.size) := hg
  clear hW hg
  obtain ⟨x, hx⟩ : ∃ x, x = cmp (ik a s k) (ik b t m) := ⟨_, rfl⟩
  obtain ⟨y, hy⟩ : ∃ x, x = cmp (ik b t m) (ik c u n) := ⟨_, rfl⟩
  obtain ⟨z, hz⟩ : ∃ x, x = cmp (ik a s k) (ik c u n) := ⟨_, rfl⟩
  have X' := fun w => compare_below b t m a s k w
  rw [cmp_anti] at X'
  rw [← hx] at X'
  have F1 : x = 0 ↔ (a = b ∧ s = t ∧ k = m) := by rw [hx, cmp_zero, ik_inj]
  have F2 : x ≤ 0 → y ≤ 0 → z ≤ 0 ∧ (z = 0 ↔ x = 0 ∧ y = 0) := by rw [hx, hy, hz]; exact cmp_trans _ _ _
  have D : Hid (cmp (ik ⟨#[107]⟩ 7 1) (ik ⟨#[107]⟩ 9 0) = 1) := by show _ = _; decide
  have KX := hide hx
  have KY := hide hy
  have KZ := hide hz
  have HX' := hide X'
  clear X'
  have r1 := (cmp_range (ik a s k) (ik b t m)).1
  have r2 := (cmp_range (ik a s k) (ik b t m)).2
  rw [← hx] at r1 r2
  clear hx hy hz
  have HF1 := hide F1
  have HF2 := hide F2
  clear F1 F2
  go_enter Try.func8, Try.ntmps8
  go_wp2_with fail
  rw [← HW.out, ← HG.out]
  refine wp_region_quiet_below (by kernel_rfl) (by kernel_rfl) ?_
  repeat (quiet_step (exact Calls.regrown_of (compare_below _ _ _ _ _ _ _)))
  refine wpQuiet_nil ?_
  intro _ hw'
  obtain ⟨⟨dq, osq⟩, hw''⟩ := hw'
  subst hw''
  obtain ⟨W1, hW1⟩ : ∃ W1, W1 = grow (redrawn W dq) osq := ⟨_, rfl⟩
  have HB1 : Hid (Below W.heap.size W W1) := by rw [hW1]; exact below_regrown W dq osq
  have d1 := d1 dq osq
  have d2 := d2 dq osq
  have d3 := d3 dq osq
  have d4 := d4 dq osq
  have d5 := d5 dq osq
  have d6 := d6 dq osq
  rw [← hW1] at d1 d2 d3 d4 d5 d6 ⊢
  clear hW1
  rw [← KX.out, ← KY.out, ← KZ.out]
  go_wp2_with fail
  refine (HX'.out _).mono ?_
  rintro e W2 ⟨rfl, b2⟩
  have HB2 := hide b2
  have f1 := (b2.cell (block_lt_of_cell d1)).trans d1
  have f2 := (b2.cell (block_lt_of_cell d2)).trans d2
  have f3 := (b2.cell (block_lt_of_cell d3)).trans d3
  have f4 := (b2.cell (block_lt_of_cell d4)).trans d4
  have f5 := (b2.cell (block_lt_of_cell d5)).trans d5
  have f6 := (b2.cell (block_lt_of_cell d6)).trans d6
  clear b2 d1 d2 d3 d4 d5 d6 d7 d8 d9 c1 c2 c3 c4 c5 c6 c7 c8 c9
  clear HX' HW KX KY KZ
  by_cases e : a = b ∧ s = t ∧ k = m
  · have x0 : x = 0 := HF1.out.2 e
    obtain ⟨rfl, rfl, rfl⟩ := e
    subst x0
    by_cases hy0 : y ≤ 0
    · obtain ⟨hz0, hzz⟩ := HF2.out (by omega) hy0
      by_cases y0 : y = 0
      · have z0 : z = 0 := hzz.2 ⟨rfl, y0⟩
        subst y0 z0
        clear hzz HF1 HF2
        go_wp2_with fail
        refine (compare_below _ _ _ _ _ _ _).mono ?_
        rintro e W3 ⟨rfl, b3⟩
        rw [D.out]
        have HB3 := hide b3
        clear b3
        go_wp2_with fail
        go_ret
        exact ⟨rfl, HB.out.trans ((HB1.out.mono HB.out.size).trans ((HB2.out.mono (Nat.le_trans HB.out.size HB1.out.size)).trans (HB3.out.mono (Nat.le_trans HB.out.size (Nat.le_trans HB1.out.size HB2.out.size)))))⟩
      · have z0 : (z == 0) = false := by rw [beq_eq_false_iff_ne]; intro h; exact y0 (hzz.1 h).2
        have y1 : (y == 0) = false := by rw [beq_eq_false_iff_ne]; exact y0
        clear hzz HF1 HF2 y0
        go_wp2_with fail
        refine (compare_below _ _ _ _ _ _ _).mono ?_
        rintro e W3 ⟨rfl, b3⟩
        rw [D.out]
        have HB3 := hide b3
        clear b3
        go_wp2_with fail
        go_ret
        exact ⟨rfl, HB.out.trans ((HB1.out.mono HB.out.size).trans ((HB2.out.mono (Nat.le_trans HB.out.size HB1.out.size)).trans (HB3.out.mono (Nat.le_trans HB.out.size (Nat.le_trans HB1.out.size HB2.out.size)))))⟩
    · clear HF1 HF2
      go_wp2_with fail
      refine (compare_below _ _ _ _ _ _ _).mono ?_
      rintro e W3 ⟨rfl, b3⟩
      rw [D.out]
      have HB3 := hide b3
      clear b3
      go_wp2_with fail
      go_ret
      exact ⟨rfl, HB.out.trans ((HB1.out.mono HB.out.size).trans ((HB2.out.mono (Nat.le_trans HB.out.size HB1.out.size)).trans (HB3.out.mono (Nat.le_trans HB.out.size (Nat.le_trans HB1.out.size HB2.out.size)))))⟩
  · have x0 : (x == 0) = false := by rw [beq_eq_false_iff_ne]; intro h; exact e (HF1.out.1 h)
    have x1 : x ≠ 0 := by simpa using x0
    have NE : Hid (¬ (a = b ∧ s = t ∧ k = m)) := e
    clear e
    by_cases hx0 : x ≤ 0
    · by_cases hy0 : y ≤ 0
      · obtain ⟨hz0, hzz⟩ := HF2.out hx0 hy0
        have z0 : (z == 0) = false := by rw [beq_eq_false_iff_ne]; intro h; exact x1 (hzz.1 h).1
        clear hzz HF1 HF2
        by_cases e1 : a = b
        · subst e1
          by_cases e2 : s = t
          · subst e2
            have e3 : ¬ k = m := fun h => NE.out ⟨rfl, rfl, h⟩
            go_wp2_with fail
            refine (compare_below _ _ _ _ _ _ _).mono ?_
            rintro e W3 ⟨rfl, b3⟩
            rw [D.out]
            have HB3 := hide b3
            clear b3
            go_wp2_with fail
            go_ret
            exact ⟨rfl, HB.out.trans ((HB1.out.mono HB.out.size).trans ((HB2.out.mono (Nat.le_trans HB.out.size HB1.out.size)).trans (HB3.out.mono (Nat.le_trans HB.out.size (Nat.le_trans HB1.out.size HB2.out.size)))))⟩
          ·
            go_wp2_with fail
            refine (compare_below _ _ _ _ _ _ _).mono ?_
            rintro e W3 ⟨rfl, b3⟩
            rw [D.out]
            have HB3 := hide b3
            clear b3
            go_wp2_with fail
            go_ret
            exact ⟨rfl, HB.out.trans ((HB1.out.mono HB.out.size).trans ((HB2.out.mono (Nat.le_trans HB.out.size HB1.out.size)).trans (HB3.out.mono (Nat.le_trans HB.out.size (Nat.le_trans HB1.out.size HB2.out.size)))))⟩
        · have e1 : ¬ a.toList = b.toList := fun h => e1 (toList_inj h)
          go_wp2_with fail
          refine (compare_below _ _ _ _ _ _ _).mono ?_
          rintro e W3 ⟨rfl, b3⟩
          rw [D.out]
          have HB3 := hide b3
          clear b3
          go_wp2_with fail
          go_ret
          exact ⟨rfl, HB.out.trans ((HB1.out.mono HB.out.size).trans ((HB2.out.mono (Nat.le_trans HB.out.size HB1.out.size)).trans (HB3.out.mono (Nat.le_trans HB.out.size (Nat.le_trans HB1.out.size HB2.out.size)))))⟩
      · clear HF1 HF2
        by_cases e1 : a = b
        · subst e1
          by_cases e2 : s = t
          · subst e2
            have e3 : ¬ k = m := fun h => NE.out ⟨rfl, rfl, h⟩
            go_wp2_with fail
            refine (compare_below _ _ _ _ _ _ _).mono ?_
            rintro e W3 ⟨rfl, b3⟩
            rw [D.out]
            have HB3 := hide b3
            clear b3
            go_wp2_with fail
            go_ret
            exact ⟨rfl, HB.out.trans ((HB1.out.mono HB.out.size).trans ((HB2.out.mono (Nat.le_trans HB.out.size HB1.out.size)).trans (HB3.out.mono (Nat.le_trans HB.out.size (Nat.le_trans HB1.out.size HB2.out.size)))))⟩
          ·
            go_wp2_with fail
            refine (compare_below _ _ _ _ _ _ _).mono ?_
            rintro e W3 ⟨rfl, b3⟩
            rw [D.out]
            have HB3 := hide b3
            clear b3
            go_wp2_with fail
            go_ret
            exact ⟨rfl, HB.out.trans ((HB1.out.mono HB.out.size).trans ((HB2.out.mono (Nat.le_trans HB.out.size HB1.out.size)).trans (HB3.out.mono (Nat.le_trans HB.out.size (Nat.le_trans HB1.out.size HB2.out.size)))))⟩
        · have e1 : ¬ a.toList = b.toList := fun h => e1 (toList_inj h)
          go_wp2_with fail
          refine (compare_below _ _ _ _ _ _ _).mono ?_
          rintro e W3 ⟨rfl, b3⟩
          rw [D.out]
          have HB3 := hide b3
          clear b3
          go_wp2_with fail
          go_ret
          exact ⟨rfl, HB.out.trans ((HB1.out.mono HB.out.size).trans ((HB2.out.mono (Nat.le_trans HB.out.size HB1.out.size)).trans (HB3.out.mono (Nat.le_trans HB.out.size (Nat.le_trans HB1.out.size HB2.out.size)))))⟩
    · clear HF1 HF2
      by_cases e1 : a = b
      · subst e1
        by_cases e2 : s = t
        · subst e2
          have e3 : ¬ k = m := fun h => NE.out ⟨rfl, rfl, h⟩
          go_wp2_with fail
          refine (compare_below _ _ _ _ _ _ _).mono ?_
          rintro e W3 ⟨rfl, b3⟩
          rw [D.out]
          have HB3 := hide b3
          clear b3
          go_wp2_with fail
          go_ret
          exact ⟨rfl, HB.out.trans ((HB1.out.mono HB.out.size).trans ((HB2.out.mono (Nat.le_trans HB.out.size HB1.out.size)).trans (HB3.out.mono (Nat.le_trans HB.out.size (Nat.le_trans HB1.out.size HB2.out.size)))))⟩
        ·
          go_wp2_with fail
          refine (compare_below _ _ _ _ _ _ _).mono ?_
          rintro e W3 ⟨rfl, b3⟩
          rw [D.out]
          have HB3 := hide b3
          clear b3
          go_wp2_with fail
          go_ret
          exact ⟨rfl, HB.out.trans ((HB1.out.mono HB.out.size).trans ((HB2.out.mono (Nat.le_trans HB.out.size HB1.out.size)).trans (HB3.out.mono (Nat.le_trans HB.out.size (Nat.le_trans HB1.out.size HB2.out.size)))))⟩
      · have e1 : ¬ a.toList = b.toList := fun h => e1 (toList_inj h)
        go_wp2_with fail
        refine (compare_below _ _ _ _ _ _ _).mono ?_
        rintro e W3 ⟨rfl, b3⟩
        rw [D.out]
        have HB3 := hide b3
        clear b3
        go_wp2_with fail
        go_ret
        exact ⟨rfl, HB.out.trans ((HB1.out.mono HB.out.size).trans ((HB2.out.mono (Nat.le_trans HB.out.size HB1.out.size)).trans (HB3.out.mono (Nat.le_trans HB.out.size (Nat.le_trans HB1.out.size HB2.out.size)))))⟩

theorem own : ownKnob Try.prog.godebug = none := by kernel_rfl
theorem laidOut : laidOutB Try.prog = true := by kernel_rfl
theorem u64_bd {v : Int} (h : (Lit.int .u64 v).wf = true) : 0 ≤ v ∧ v ≤ 18446744073709551615 := by
  simpa [Lit.wf, IntKind.min, IntKind.max, IntKind.signed, IntKind.bits] using h
theorem i64_bd {v : Int} (h : (Lit.int .i64 v).wf = true) : -9223372036854775808 ≤ v ∧ v ≤ 9223372036854775807 := by
  simpa [Lit.wf, IntKind.min, IntKind.max, IntKind.signed, IntKind.bits] using h
theorem cells24 : Try.prog.cellsOf 24 = 3 := by kernel_rfl

/-! ### The row's step -/
set_option maxRecDepth 100000 in
theorem lifted (os : Os) (started : os.Started) (H : Type) (enc : TypeId × Value → H) :
    ReturnsInHanded {} Try.checked os 8 .any (Rows.ikeyOrderSpec.pre6 enc Try.prog Try.f8 Rows.ikeyOrderRow.domain false) (Rows.ikeyOrderSpec.post enc Try.prog Try.f8 false true false false) := by
  refine returnsInHanded_of_change_sized (C := Try.checked) own started (by kernel_rfl) Try.func8
    (ChangeSpec.witness6 (enc := enc) (C := Try.checked) false ⟨#[], #[.agg #[.string ByteArray.empty, .int .u64 0, .int .i64 0], .agg #[.string ByteArray.empty, .int .u64 0, .int .i64 0], .agg #[.string ByteArray.empty, .int .u64 0, .int .i64 0]], []⟩ 8 (by kernel_rfl) (by kernel_rfl) (by kernel_rfl) (by kernel_rfl)) ?_
  intro W base args ds gs before hval0 hW hcnd hsz0 _
  have hval : ∀ (j : Nat) t v, Try.f8.params[j]? = some t → args[j]? = some v → Value.okWide Try.prog W .any base t v := hval0
  have hsz : (DataW.weightsEach Try.prog (Try.f8.params.toList ++ Rows.ikeyOrderSpec.plain.varTypes Try.prog) (ds ++ gs)).all (· ≤ reachBytes) = true := hsz0
  have hW' := hW
  obtain ⟨p, q, hA0, hV, rfl, hfz, hnd⟩ := hW
  have hA : DataW.TrodAll enc Try.prog W 0 (fun _ => true) true Try.f8.params.toList args.toList ds p := hA0
  rw [Try.params8] at hA hval hsz
  obtain ⟨v0, vs0, d0, ds0, p0, q0, hargs, rfl, rfl, h0, r0⟩ := trodAll_cons hA
  obtain ⟨v1, vs1, d1, ds1, p1, q1, rfl, rfl, rfl, h1, r1⟩ := trodAll_cons r0
  obtain ⟨v2, vs2, d2, ds2, p2, q2, rfl, rfl, rfl, h2, r2⟩ := trodAll_cons r1
  obtain ⟨rfl, rfl, rfl⟩ := trodAll_nil r2
  obtain rfl : args = #[v0, v1, v2] := by cases args; simp_all
  obtain ⟨rfl, rfl⟩ := trodVars_none hV
  have k0 := h0
  have lt0 : ∀ x ∈ p0, x.block < W.heap.size := by obtain ⟨m, hm⟩ := k0; exact DataW.trod_lt m _ _ _ hm
  obtain ⟨c00, c01, c02, y00, y01, y02, m0, rfl, hd0, hp0, hy00, hy01, hy02⟩ := open_agg3 Try.underlying24 (by kernel_rfl) cells24 (hval 0 24 v0 rfl rfl) h0
  obtain ⟨a00, e00, f00, w00⟩ := DataW.trod_string Try.underlying9 hy00
  obtain ⟨a01, e01, f01, w01⟩ := DataW.trod_int Try.underlying22 hy01
  obtain ⟨a02, e02, f02, w02⟩ := DataW.trod_int Try.underlying3 hy02
  simp only [List.cons.injEq, and_true] at e00 e01 e02
  subst e00 e01 e02
  have k1 := h1
  have lt1 : ∀ x ∈ p1, x.block < W.heap.size := by obtain ⟨m, hm⟩ := k1; exact DataW.trod_lt m _ _ _ hm
  obtain ⟨c10, c11, c12, y10, y11, y12, m1, rfl, hd1, hp1, hy10, hy11, hy12⟩ := open_agg3 Try.underlying24 (by kernel_rfl) cells24 (hval 1 24 v1 rfl rfl) h1
  obtain ⟨a10, e10, f10, w10⟩ := DataW.trod_string Try.underlying9 hy10
  obtain ⟨a11, e11, f11, w11⟩ := DataW.trod_int Try.underlying22 hy11
  obtain ⟨a12, e12, f12, w12⟩ := DataW.trod_int Try.underlying3 hy12
  simp only [List.cons.injEq, and_true] at e10 e11 e12
  subst e10 e11 e12
  have k2 := h2
  have lt2 : ∀ x ∈ p2, x.block < W.heap.size := by obtain ⟨m, hm⟩ := k2; exact DataW.trod_lt m _ _ _ hm
  obtain ⟨c20, c21, c22, y20, y21, y22, m2, rfl, hd2, hp2, hy20, hy21, hy22⟩ := open_agg3 Try.underlying24 (by kernel_rfl) cells24 (hval 2 24 v2 rfl rfl) h2
  obtain ⟨a20, e20, f20, w20⟩ := DataW.trod_string Try.underlying9 hy20
  obtain ⟨a21, e21, f21, w21⟩ := DataW.trod_int Try.underlying22 hy21
  obtain ⟨a22, e22, f22, w22⟩ := DataW.trod_int Try.underlying3 hy22
  simp only [List.cons.injEq, and_true] at e20 e21 e22
  subst e20 e21 e22
  clear hA0 hval0
  refine (walk a00 a01 a02 a10 a11 a12 a20 a21 a22 W w00 (u64_bd w01) (i64_bd w02) w10 (u64_bd w11) (i64_bd w12) w20 (u64_bd w21) (i64_bd w22)).mono fun e W' ⟨he, bel⟩ => ?_
  subst he
  exact ⟨_, rfl, _, _, _, [], _, [], hW', trodAll_mk1 (shut_bool Try.underlying4 _), (trodAll_cons_mk (Below.trod laidOut (by kernel_rfl) (of_decide_eq_true (by kernel_rfl)) k0 bel lt0) (trodAll_cons_mk (Below.trod laidOut (by kernel_rfl) (of_decide_eq_true (by kernel_rfl)) k1 bel lt1) (trodAll_cons_mk (Below.trod laidOut (by kernel_rfl) (of_decide_eq_true (by kernel_rfl)) k2 bel lt2) trodAll_mk0))), rfl, bel.frame _, fun h => by cases h⟩

theorem over : Rows.ikeyOrderRow.holds Try.pinned (OpenSpec.ofChange Rows.ikeyOrderSpec) :=
  OpenClaim.holds_of_wide 8 Try.f8 rfl rfl rfl rfl rfl rfl rfl ⟨rfl, rfl, rfl, rfl, rfl⟩ rfl rfl rfl rfl rfl (by kernel_rfl) Try.func8 (by kernel_rfl)
    (of_decide_eq_true (by kernel_rfl)) (by unfold Func.isWrapper; first | (rw [if_pos (by decide +kernel)]; kernel_rfl) | (rw [if_neg (by decide +kernel)]; exact ⟨rfl, rfl⟩))
    (fun os started H enc _ => lifted os started H enc)
end Go.Proofs.Ytbpgifpplnmjmaa.ikeyOrder
namespace Go.Proofs.Ytbpgifpplnmjmaa
theorem ikeyOrder_holds : Rows.IkeyOrderSaid := ikeyOrder.over
#print axioms ikeyOrder_holds
end Go.Proofs.Ytbpgifpplnmjmaa

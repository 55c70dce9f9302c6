/- Proved: for all bytes and every number BatchRenumbers returns true: Renumber of the program tells what the document's definition tells, and what was handed in stays as it was. -/
import Derived.Test.YtmceanfgcehfeaaJo
import Derived.Test.YtmceanfgcehfeaaLk
import Derived.ShutString
import Derived.ChangeOld
import Derived.Below
import Derived.SizedLaws
import Derived.Deep.RegionWith
import Derived.Lib.SmallJoins
namespace Go.Proofs.Ytmceanfgcehfeaa.batchRenumbers
open Go.Proofs.Ytmceanfgcehfeaa
open Go.Proofs.Ytmceanfgcehfeaa.Ob
open Go.Proofs.Ytmceanfgcehfeaa.By (Row Bytes nil_bytes row_below lb bytes_kept lent_any kept_any lent_bytes)
open Go.Proofs.Ytmceanfgcehfeaa.Jo
open Go.ChangeShapes Go.WideShapes Go.ChangeAt Go.RowKit Go.Joins
open Go.ChangeMaps (open_string shut_string)
set_option linter.unusedVariables false

theorem Row.up {w : World} {base g n c : Nat} {xs : List Int} (h : Row w base g n c xs) (k : Nat) (y : Int) : Row (w.setCell ⟨g, k, none⟩ (.int .u8 y)) base g n c (xs.set k y) ∧ w.grownBy (w.setCell ⟨g, k, none⟩ (.int .u8 y)) (some g) := by
  have := World.ownsRow.stored h k (.int .u8 y)
  unfold Row
  rw [List.map_set]
  exact this
set_option maxRecDepth 100000 in
set_option maxHeartbeats 8000000 in
theorem walk (a : Option Addr) (len cap : Nat) (zs : List Int) (s : Int) (w : World) (H : Bytes w a len cap zs) (hl : cap ≤ 140737488351232) (hs : 0 ≤ s ∧ s ≤ 18446744073709551615) :
    Calls Try.prog 6 #[.slice a len cap, .int .u64 s] w fun e w' => e = .returned (.bool true) ∧ Below w.heap.size w w' := by
  have hlen := H.2.1
  have HB := hid H.2.2.2.1
  have HH := hid H
  have RB := hid (renR_bytes zs s)
  have RL := renR_len zs s
  have RU := fun a len cap w H hc => renumber_any a len cap zs s w H hc hs
  have RV := fun a len cap w H hc => rrenumber_any a len cap zs s w H hc hs
  generalize renR zs s = R at RB RL RU RV
  obtain ⟨E, Z⟩ := R
  simp only at RB RL RU RV
  have HRU := hid RU
  have HRV := hid RV
  have n1 : (E != E) = false := bne_self_eq_false _
  clear H RU RV
  go_enter Try.func6, Try.ntmps6
  go_wp2_with fail
  refine (lent_any a len cap zs w HH.out (by omega)).mono ?_
  rintro e w1 ⟨g, c, rfl, R1, b1⟩
  have HR := hid R1
  have HB1 := hid b1
  have hgl := R1.lt
  clear R1 b1
  go_wp2_with fail
  refine (HRU.out (some ⟨g, 0, none⟩) len c w1 (lent_bytes HR.out HB.out) (by omega)).mono ?_
  rintro e w2 ⟨v2, rfl, r2, b2⟩
  have HB2 : Hid (Below w.heap.size w w2) := HB1.out.trans (b2.mono HB1.out.size)
  have HR := hid (row_below HR.out b2)
  have Hr2 := hid r2
  have s12 := b2.size
  have z1 := HB1.out.size
  clear HB1 b2 r2
  go_wp2_with fail
  refine (HRV.out a len cap w2 (bytes_kept HH.out HB2.out) (by omega)).mono ?_
  rintro e w3 ⟨v3, rfl, r3, b3⟩
  have HB3 : Hid (Below w.heap.size w w3) := HB2.out.trans (b3.mono HB2.out.size)
  have HR := hid (row_below HR.out b3)
  have Hr2 := hid (Hr2.out.later b3)
  obtain ⟨a3, c3, hv3, By3⟩ := r3.bytes RB.out
  subst hv3
  have kB := By.Bytes.conv By3
  clear HB2 b3 r3 By3
  rcases Hr2.out with ⟨hZ, hv2⟩ | ⟨g2, c2, hv2, Q2⟩
  · subst hZ hv2
    simp only [List.length_nil] at kB
    have kA : Sem.run Try.prog (convert 33 9 (.slice none 0 0)) w3 = .ok (.string (By.str [])) w3 := By.Bytes.conv (nil_bytes w3)
    go_wp2_with fail
    refine (kept_any _ g c a len cap zs _ HR.out (bytes_kept HH.out HB3.out) (by omega)).mono ?_
    rintro e wk ⟨rfl, rfl⟩
    go_wp2_with fail
    refine (names_any _).mono ?_
    rintro e wk2 ⟨rfl, rfl⟩
    go_wp2_with fail
    go_loopw [10] (fun i wr => i = .int .i64 0 ∧ wr = wk2) (fun i _ => 0)
    case atStart => exact ⟨rfl, rfl⟩
    case round =>
      obtain ⟨rfl, rfl⟩ := hrel
      go_wp2_with fail
      refine (kept_any _ g c a len cap zs _ HR.out (bytes_kept HH.out HB3.out) (by omega)).mono ?_
      rintro e wk3 ⟨rfl, rfl⟩
      go_wp2_with fail
      go_ret
      exact ⟨rfl, HB3.out⟩
  · subst hv2
    have kA := By.Row.conv Q2
    have HQ2 := hid Q2
    have l2 := Q2.lt
    clear Q2
    go_wp2_with fail
    refine (kept_any _ g c a len cap zs _ HR.out (bytes_kept HH.out HB3.out) (by omega)).mono ?_
    rintro e wk ⟨rfl, rfl⟩
    go_wp2_with fail
    refine (names_any _).mono ?_
    rintro e wk2 ⟨rfl, rfl⟩
    clear kA kB
    generalize hX : Z.length = X at *
    go_wp2_with fail
    go_loopw [10] (fun i wr => ∃ k : Nat, ∃ ys : List Int, i = .int .i64 k ∧ k ≤ X ∧ Hid (Row wr w1.heap.size g2 X c2 ys) ∧ Hid (Row wr w.heap.size g (len + 1) c (zs ++ [90])) ∧ Hid (Below w.heap.size w wr)) (fun i _ => X - (intOf i).toNat)
    case atStart => exact ⟨0, _, rfl, by omega, HQ2, HR, HB3⟩
    case round =>
      obtain ⟨k, ys, rfl, hk, r2, r1, hbel⟩ := hrel
      by_cases hlt : k < X
      · have q0 := r2.out.cell k (by omega)
        have ik0 : (k : Int) < (X : Int) := by omega
        have z0 : wr.frozen? ⟨g2, k, none⟩ = false := World.ownsRow.frozenAt r2.out k
        have hlc : X ≤ c2 := (By.full r2.out).choose_spec.2.2
        generalize ys.getD k 0 = y at q0
        have HN2 : Hid (∀ v, Row (wr.setCell ⟨g2, k, none⟩ (.int .u8 v)) w1.heap.size g2 X c2 (ys.set k v) ∧ wr.grownBy (wr.setCell ⟨g2, k, none⟩ (.int .u8 v)) (some g2)) := fun v => Row.up r2.out k v
        have hg2 : w.heap.size ≤ g2 := by omega
        clear r2
        go_wp2_with fail
        go_roundw
        case rel => exact ⟨k + 1, _, by go_num, by omega, (HN2.out _).1, r1.out.kept (HN2.out _).2 (by simp; omega), hbel.out.setCell hg2 _⟩
        case measure => simp [intOf]; omega
      · go_wp2_with fail
        refine (kept_any _ g c a len cap zs wr r1.out (bytes_kept HH.out hbel.out) (by omega)).mono ?_
        rintro e wk3 ⟨rfl, rfl⟩
        go_wp2_with fail
        go_ret
        exact ⟨rfl, hbel.out⟩

theorem own : ownKnob Try.prog.godebug = none := by kernel_rfl
theorem laidOut : laidOutB Try.prog = true := by kernel_rfl
theorem bytes5 : Try.prog.bytesOf 5 = 1 := by kernel_rfl
theorem u8_bd {y : Int} (h : (Lit.int .u8 y).wf = true) : 0 ≤ y ∧ y ≤ 255 := by
  simpa [Lit.wf, IntKind.min, IntKind.max, IntKind.signed, IntKind.bits] using h
theorem u64_bd {v : Int} (h : (Lit.int .u64 v).wf = true) : 0 ≤ v ∧ v ≤ 18446744073709551615 := by
  simpa [Lit.wf, IntKind.min, IntKind.max, IntKind.signed, IntKind.bits] using h
theorem i64_bd {v : Int} (h : (Lit.int .i64 v).wf = true) : -9223372036854775808 ≤ v ∧ v ≤ 9223372036854775807 := by
  simpa [Lit.wf, IntKind.min, IntKind.max, IntKind.signed, IntKind.bits] using h

/-! ### The row's step -/
set_option maxRecDepth 100000 in
theorem lifted (os : Os) (started : os.Started) (H : Type) (enc : TypeId × Value → H) :
    ReturnsInHanded {} Try.checked os 6 .any (Rows.batchRenumbersSpec.pre6 enc Try.prog Try.f6 Rows.batchRenumbersRow.domain false) (Rows.batchRenumbersSpec.post enc Try.prog Try.f6 false true false false) := by
  refine returnsInHanded_of_change_sized (C := Try.checked) own started (by kernel_rfl) Try.func6
    (ChangeSpec.witness6 (enc := enc) (C := Try.checked) false ⟨#[], #[.slice none 0 0, .int .u64 0], []⟩ 8 (by kernel_rfl) (by kernel_rfl) (by kernel_rfl) (by kernel_rfl)) ?_
  intro W base args ds gs before hval0 hW hcnd hsz0 _
  have hval : ∀ (j : Nat) t v, Try.f6.params[j]? = some t → args[j]? = some v → Value.okWide Try.prog W .any base t v := hval0
  have hsz : (DataW.weightsEach Try.prog (Try.f6.params.toList ++ Rows.batchRenumbersSpec.plain.varTypes Try.prog) (ds ++ gs)).all (· ≤ reachBytes) = true := hsz0
  have hW' := hW
  obtain ⟨p, q, hA0, hV, rfl, hfz, hnd⟩ := hW
  have hA : DataW.TrodAll enc Try.prog W 0 (fun _ => true) true Try.f6.params.toList args.toList ds p := hA0
  rw [Try.params6] at hA hval hsz
  obtain ⟨v0, vs0, d0, ds0, p0, q0, hargs, rfl, rfl, h0, r0⟩ := trodAll_cons hA
  obtain ⟨v1, vs1, d1, ds1, p1, q1, rfl, rfl, rfl, h1, r1⟩ := trodAll_cons r0
  obtain ⟨rfl, rfl, rfl⟩ := trodAll_nil r1
  obtain rfl : args = #[v0, v1] := by cases args; simp_all
  obtain ⟨rfl, rfl⟩ := trodVars_none hV
  obtain ⟨a0, len0, cap0, rfl⟩ := okWide_slice Try.underlying33 (hval 0 33 v0 rfl rfl)
  have k0 := h0
  have lt0 : ∀ x ∈ p0, x.block < W.heap.size := by obtain ⟨m, hm⟩ := k0; exact DataW.trod_lt m _ _ _ hm
  obtain ⟨z0, w0, c0⟩ : ∃ zs, By.Bytes W a0 len0 cap0 zs ∧ cap0 ≤ 140737488351232 := by
    obtain ⟨fuel, hf⟩ := h0
    rcases open_ints Try.underlying33 Try.underlying5 (by kernel_rfl) hf with ⟨hcs, _⟩ | ⟨x, l, c, zs, hcs, _, hl, hm, hz, hx, hcell, hwz⟩
    · simp [Value.cells] at hcs
      obtain ⟨rfl, rfl, rfl⟩ := hcs
      exact ⟨[], By.nil_bytes W, by omega⟩
    · simp [Value.cells] at hcs
      obtain ⟨rfl, rfl, rfl⟩ := hcs
      have hd : d0 = .slice (lits .u8 (zs.take len0)) (lits .u8 (zs.drop len0)) := (Prod.mk.inj hx).1
      have hz' : zs.length = cap0 := by simpa using hz
      have sz := sized_slice hsz (j := 0) (t := 33) (e := 5) rfl (by rw [hd]; rfl) Try.underlying33
      rw [bytes5] at sz
      simp only [lits, List.length_map, List.length_take, List.length_drop, reachBytes] at sz
      refine ⟨zs.take len0, ⟨by rw [List.length_take]; omega, hl, fun e => by simp at e, fun y hy => u8_bd (hwz y (List.mem_of_mem_take hy)), ?_⟩, by omega⟩
      intro x' hx' j hj
      simp at hx'
      subst hx'
      rw [hcell j (by omega)]
      simp [List.getD_eq_getElem?_getD, hj]
  obtain ⟨a1, rfl, rfl, rfl, w1⟩ := open_int Try.underlying32 (hval 1 32 v1 rfl rfl) h1
  clear hA0 hval0
  refine (walk a0 len0 cap0 z0 a1 W w0 c0 (u64_bd w1)).mono fun e W' ⟨he, bel⟩ => ?_
  subst he
  exact ⟨_, rfl, _, _, _, [], _, [], hW', trodAll_mk1 (shut_bool Try.underlying4 _), (trodAll_cons_mk (Below.trod laidOut (by kernel_rfl) (of_decide_eq_true (by kernel_rfl)) k0 bel lt0) (trodAll_cons_mk (shut_int Try.underlying32 w1) trodAll_mk0)), rfl, bel.frame _, fun h => by cases h⟩

theorem over : Rows.batchRenumbersRow.holds Try.pinned (OpenSpec.ofChange Rows.batchRenumbersSpec) :=
  OpenClaim.holds_of_wide 6 Try.f6 rfl rfl rfl rfl rfl rfl rfl ⟨rfl, rfl, rfl, rfl, rfl⟩ rfl rfl rfl rfl rfl (by kernel_rfl) Try.func6 (by kernel_rfl)
    (of_decide_eq_true (by kernel_rfl)) (by unfold Func.isWrapper; first | (rw [if_pos (by decide +kernel)]; kernel_rfl) | (rw [if_neg (by decide +kernel)]; exact ⟨rfl, rfl⟩))
    (fun os started H enc _ => lifted os started H enc)
end Go.Proofs.Ytmceanfgcehfeaa.batchRenumbers
namespace Go.Proofs.Ytmceanfgcehfeaa
theorem batchRenumbers_holds : Rows.BatchRenumbersSaid := batchRenumbers.over
#print axioms batchRenumbers_holds
end Go.Proofs.Ytmceanfgcehfeaa

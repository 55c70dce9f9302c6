/- Proved: for every number and all operations BatchEncodes returns true: Encode of the program gives the bytes and the error of the document's definition, in new memory, and what was handed in stays as it was. -/
import Derived.Test.YtmceanfgcehfeaaOc
import Derived.Test.YtmceanfgcehfeaaOo
import Derived.Test.YtmceanfgcehfeaaEd
import Derived.ShutString
import Derived.ChangeOld
import Derived.Below
import Derived.SizedLaws
import Derived.Deep.RegionWith
import Derived.Lib.SmallJoins
namespace Go.Proofs.Ytmceanfgcehfeaa.batchEncodes
open Go.Proofs.Ytmceanfgcehfeaa
open Go.Proofs.Ytmceanfgcehfeaa.Ob
open Go.Proofs.Ytmceanfgcehfeaa.By (Row Bytes nil_bytes row_below lb)
open Go.Proofs.Ytmceanfgcehfeaa.En
open Go.ChangeShapes Go.WideShapes Go.ChangeAt Go.RowKit Go.Joins
open Go.ChangeMaps (open_string shut_string)
set_option linter.unusedVariables false

theorem Row.up {w : World} {base g n c : Nat} {xs : List Int} (h : Row w base g n c xs) (k : Nat) (y : Int) : Row (w.setCell ⟨g, k, none⟩ (.int .u8 y)) base g n c (xs.set k y) ∧ w.grownBy (w.setCell ⟨g, k, none⟩ (.int .u8 y)) (some g) := by
  have := World.ownsRow.stored h k (.int .u8 y)
  unfold Row
  rw [List.map_set]
  exact this
set_option maxHeartbeats 4000000 in
theorem walk_ok (s : Int) (a : Option Addr) (len cap : Nat) (xs : List O) (w : World) (hs : 0 ≤ s ∧ s ≤ 18446744073709551615) (H : Ops w a len cap xs) (hl : len ≤ 140737488351232 / 40) (hE : encE s xs = 0) :
    Calls Try.prog 4 #[.int .u64 s, .slice a len cap] w fun e w' => e = .returned (.bool true) ∧ Below w.heap.size w w' := by
  have hl' : len ≤ 140737488351232 := by omega
  have hbd : bsz xs ≤ 1048576 := (chk_parts (encE_ok hE).1).2.2.1
  have EB : Hid (∀ y ∈ enc s xs, 0 ≤ y ∧ y ≤ 255) := enc_bytes s xs (all_may xs (chk_parts (encE_ok hE).1).2.1)
  have HH := hid H
  have hok := hid H.2.2.2.1
  have HE := hid hE
  clear H hE
  go_enter Try.func4, Try.ntmps4
  go_wp2_with fail
  refine (copied_any a len cap xs w HH.out (by omega)).mono ?_
  rintro e w1 ⟨g, c, rfl, R1, b1⟩
  have HR1 := hid R1
  have HB1 := hid b1
  clear R1 b1
  go_wp2_with fail
  refine (encode_ok s (some ⟨g, 0, none⟩) len c xs w1 (marked_ops HR1.out hok.out) hs HE.out).mono ?_
  rintro e w2 ⟨g2, c2, rfl, R2, b2⟩
  have HB2 : Hid (Below w.heap.size w w2) := HB1.out.trans (b2.mono HB1.out.size)
  have HR1 := hid (HR1.out.later b2)
  have HA2 := hid R2
  have x1 := HB1.out.size
  have l2 := R2.lt
  have y2 := b2.size
  clear HB1 b2 R2
  go_wp2_with fail
  refine (encode_ok s (some ⟨g, 0, none⟩) len c xs w2 (marked_ops HR1.out hok.out) hs HE.out).mono ?_
  rintro e w3 ⟨g3, c3, rfl, R3, b3⟩
  have HB3 : Hid (Below w.heap.size w w3) := HB2.out.trans (b3.mono HB2.out.size)
  have HR1 := hid (HR1.out.later b3)
  have HA2 := hid (row_below HA2.out b3)
  have HA3 := hid R3
  have l3 := R3.lt
  have y3 := b3.size
  clear HB2 b3 R3
  go_wp2_with fail
  refine (rencode_ok s a len cap xs w3 (HH.out.later HB3.out) hs HE.out).mono ?_
  rintro e w4 ⟨g4, c4, rfl, R4, b4⟩
  have HB4 : Hid (Below w.heap.size w w4) := HB3.out.trans (b4.mono HB3.out.size)
  have HR1 := hid (HR1.out.later b4)
  have HA2 := hid (row_below HA2.out b4)
  have HA3 := hid (row_below HA3.out b4)
  have l4 := R4.lt
  have n32 : g3 ≠ g2 := by omega
  have n42 : g4 ≠ g2 := by omega
  have HA4 := hid R4
  have z4 := b4.size
  clear b4 R4 HB3
  generalize hN : bsz xs = N at HA2 HA3 HA4 hbd
  generalize hZ : enc s xs = Z at HA2 HA3 HA4 EB
  have kA := By.Row.conv HA2.out
  have kB := By.Row.conv HA4.out
  have HST := hid (stay_any _ g c a len cap xs w4 HR1.out (HH.out.later HB4.out) hl')
  clear HR1 hN hZ HE
  go_wp2_with fail
  refine HST.out.mono ?_
  rintro e w5 ⟨rfl, n, rfl⟩
  go_wp2_with fail
  refine (names_any _).mono ?_
  rintro e w6 ⟨rfl, rfl⟩
  clear HST kA kB
  have dn : Below w4.heap.size w4 (w4.drewN n) := below_drewN (Below.refl _ _) n
  have HB5 : Hid (Below w.heap.size w (w4.drewN n)) := below_drewN HB4.out n
  have HA2 := hid (row_below HA2.out dn)
  have HA3 := hid (row_below HA3.out dn)
  have HA4 := hid (row_below HA4.out dn)
  have hg2 : w.heap.size ≤ g2 := by omega
  generalize w4.drewN n = w5 at HB5 HA2 HA3 HA4
  go_wp2_with fail
  go_loopw [12] (fun i wr => ∃ k : Nat, ∃ ys : List Int, i = .int .i64 k ∧ k ≤ N ∧ Hid (Row wr w1.heap.size g2 N c2 ys) ∧ Hid (Row wr w2.heap.size g3 N c3 Z) ∧ Hid (Row wr w3.heap.size g4 N c4 Z) ∧ Hid (Below w.heap.size w wr)) (fun i _ => N - (intOf i).toNat)
  case atStart => exact ⟨0, Z, rfl, by omega, HA2, HA3, HA4, HB5⟩
  case round =>
    obtain ⟨k, ys, rfl, hk, r2, r3, r4, hbel⟩ := hrel
    clear HA2 HA3 HA4 HB5 dn
    by_cases hlt : k < N
    · have q0 := r2.out.cell k hlt
      have ik0 : (k : Int) < (N : Int) := by omega
      have z0 : wr.frozen? ⟨g2, k, none⟩ = false := World.ownsRow.frozenAt r2.out k
      have hlc : N ≤ c2 := (By.full r2.out).choose_spec.2.2
      generalize ys.getD k 0 = y at q0
      have HN2 : Hid (∀ v, Row (wr.setCell ⟨g2, k, none⟩ (.int .u8 v)) w1.heap.size g2 N c2 (ys.set k v) ∧ wr.grownBy (wr.setCell ⟨g2, k, none⟩ (.int .u8 v)) (some g2)) := fun v => Row.up r2.out k v
      clear r2
      go_wp2_with fail
      go_roundw
      case rel => exact ⟨k + 1, _, by go_num, by omega, (HN2.out _).1, r3.out.kept (HN2.out _).2 (by simp; omega), r4.out.kept (HN2.out _).2 (by simp; omega), hbel.out.setCell hg2 _⟩
      case measure => simp [intOf]; omega
    · have kA := By.Row.conv r3.out
      have kB := By.Row.conv r4.out
      go_wp2_with fail
      go_ret
      exact ⟨rfl, hbel.out⟩
set_option maxHeartbeats 4000000 in
theorem walk_no (s : Int) (a : Option Addr) (len cap : Nat) (xs : List O) (w : World) (hs : 0 ≤ s ∧ s ≤ 18446744073709551615) (H : Ops w a len cap xs) (hl : len ≤ 140737488351232 / 40) (hE : encE s xs ≠ 0) :
    Calls Try.prog 4 #[.int .u64 s, .slice a len cap] w fun e w' => e = .returned (.bool true) ∧ Below w.heap.size w w' := by
  have hl' : len ≤ 140737488351232 := by omega
  have HH := hid H
  have hok := hid H.2.2.2.1
  have F1 : Hid (∀ a len cap w, len ≤ 140737488351232 → Ops w a len cap xs → Calls Try.prog 16 #[.int .u64 s, .slice a len cap] w fun e w' => e = .returned (.tuple #[.slice none 0 0, .int .i64 (encE s xs)]) ∧ Below w.heap.size w w') := fun a len cap w h1 h2 => encode_no s a len cap xs w h2 h1 hs hE
  have F2 : Hid (∀ a len cap w, len ≤ 140737488351232 → Ops w a len cap xs → Calls Try.prog 17 #[.int .u64 s, .slice a len cap] w fun e w' => e = .returned (.tuple #[.slice none 0 0, .int .i64 (encE s xs)]) ∧ Below w.heap.size w w') := fun a len cap w h1 h2 => rencode_no s a len cap xs w h2 h1 hs hE
  clear H hE
  generalize encE s xs = E at F1 F2
  have e1 : (E != E) = false := bne_self_eq_false _
  have kn : ∀ W : World, Sem.run Try.prog (convert 33 9 (.slice none 0 0)) W = .ok (.string (By.str [])) W := fun W => Bytes.conv (nil_bytes W)
  go_enter Try.func4, Try.ntmps4
  go_wp2_with fail
  refine (copied_any a len cap xs w HH.out (by omega)).mono ?_
  rintro e w1 ⟨g, c, rfl, R1, b1⟩
  have HR1 := hid R1
  have HB1 := hid b1
  clear R1 b1
  go_wp2_with fail
  refine (F1.out (some ⟨g, 0, none⟩) len c w1 hl' (marked_ops HR1.out hok.out)).mono ?_
  rintro e w2 ⟨rfl, b2⟩
  have HB2 : Hid (Below w.heap.size w w2) := HB1.out.trans (b2.mono HB1.out.size)
  have HR1 := hid (HR1.out.later b2)
  clear HB1 b2
  go_wp2_with fail
  refine (F1.out (some ⟨g, 0, none⟩) len c w2 hl' (marked_ops HR1.out hok.out)).mono ?_
  rintro e w3 ⟨rfl, b3⟩
  have HB3 : Hid (Below w.heap.size w w3) := HB2.out.trans (b3.mono HB2.out.size)
  have HR1 := hid (HR1.out.later b3)
  clear HB2 b3
  go_wp2_with fail
  refine (F2.out a len cap w3 hl' (HH.out.later HB3.out)).mono ?_
  rintro e w4 ⟨rfl, b4⟩
  have HB4 : Hid (Below w.heap.size w w4) := HB3.out.trans (b4.mono HB3.out.size)
  have HR1 := hid (HR1.out.later b4)
  have HST := hid (stay_any _ g c a len cap xs w4 HR1.out (HH.out.later HB4.out) hl')
  clear b4 HB3 HR1
  go_wp2_with fail
  refine HST.out.mono ?_
  rintro e w5 ⟨rfl, n, rfl⟩
  go_wp2_with fail
  refine (names_any _).mono ?_
  rintro e w6 ⟨rfl, rfl⟩
  have HB5 : Hid (Below w.heap.size w (w4.drewN n)) := below_drewN HB4.out n
  generalize w4.drewN n = w5 at HB5
  go_wp2_with fail
  go_loopw [12] (fun i wr => i = .int .i64 0 ∧ wr = w5) (fun i _ => 0)
  case atStart => exact ⟨rfl, rfl⟩
  case round =>
    obtain ⟨rfl, rfl⟩ := hrel
    go_wp2_with fail
    go_ret
    exact ⟨rfl, HB5.out⟩
theorem walk (s : Int) (a : Option Addr) (len cap : Nat) (xs : List O) (w : World) (hs : 0 ≤ s ∧ s ≤ 18446744073709551615) (H : Ops w a len cap xs) (hl : len ≤ 140737488351232 / 40) :
    Calls Try.prog 4 #[.int .u64 s, .slice a len cap] w fun e w' => e = .returned (.bool true) ∧ Below w.heap.size w w' := by
  by_cases h : encE s xs = 0
  · exact walk_ok s a len cap xs w hs H hl h
  · exact walk_no s a len cap xs w hs H hl h

theorem own : ownKnob Try.prog.godebug = none := by kernel_rfl
theorem laidOut : laidOutB Try.prog = true := by kernel_rfl
theorem u64_bd {v : Int} (h : (Lit.int .u64 v).wf = true) : 0 ≤ v ∧ v ≤ 18446744073709551615 := by
  simpa [Lit.wf, IntKind.min, IntKind.max, IntKind.signed, IntKind.bits] using h
theorem i64_bd {v : Int} (h : (Lit.int .i64 v).wf = true) : -9223372036854775808 ≤ v ∧ v ≤ 9223372036854775807 := by
  simpa [Lit.wf, IntKind.min, IntKind.max, IntKind.signed, IntKind.bits] using h

/-! ### The row's step -/
set_option maxRecDepth 100000 in
theorem lifted (os : Os) (started : os.Started) (H : Type) (enc : TypeId × Value → H) :
    ReturnsInHanded {} Try.checked os 4 .any (Rows.batchEncodesSpec.pre6 enc Try.prog Try.f4 Rows.batchEncodesRow.domain false) (Rows.batchEncodesSpec.post enc Try.prog Try.f4 false true false false) := by
  refine returnsInHanded_of_change_sized (C := Try.checked) own started (by kernel_rfl) Try.func4
    (ChangeSpec.witness6 (enc := enc) (C := Try.checked) false ⟨#[], #[.int .u64 0, .slice none 0 0], []⟩ 8 (by kernel_rfl) (by kernel_rfl) (by kernel_rfl) (by kernel_rfl)) ?_
  intro W base args ds gs before hval0 hW hcnd hsz0 _
  have hval : ∀ (j : Nat) t v, Try.f4.params[j]? = some t → args[j]? = some v → Value.okWide Try.prog W .any base t v := hval0
  have hsz : (DataW.weightsEach Try.prog (Try.f4.params.toList ++ Rows.batchEncodesSpec.plain.varTypes Try.prog) (ds ++ gs)).all (· ≤ reachBytes) = true := hsz0
  have hW' := hW
  obtain ⟨p, q, hA0, hV, rfl, hfz, hnd⟩ := hW
  have hA : DataW.TrodAll enc Try.prog W 0 (fun _ => true) true Try.f4.params.toList args.toList ds p := hA0
  rw [Try.params4] at hA hval hsz
  obtain ⟨v0, vs0, d0, ds0, p0, q0, hargs, rfl, rfl, h0, r0⟩ := trodAll_cons hA
  obtain ⟨v1, vs1, d1, ds1, p1, q1, rfl, rfl, rfl, h1, r1⟩ := trodAll_cons r0
  obtain ⟨rfl, rfl, rfl⟩ := trodAll_nil r1
  obtain rfl : args = #[v0, v1] := by cases args; simp_all
  obtain ⟨rfl, rfl⟩ := trodVars_none hV
  obtain ⟨a0, rfl, rfl, rfl, w0⟩ := open_int Try.underlying32 (hval 0 32 v0 rfl rfl) h0
  obtain ⟨a1, len1, cap1, rfl⟩ := okWide_slice Try.underlying22 (hval 1 22 v1 rfl rfl)
  have k1 := h1
  have lt1 : ∀ x ∈ p1, x.block < W.heap.size := by obtain ⟨m, hm⟩ := k1; exact DataW.trod_lt m _ _ _ hm
  obtain ⟨z1, w1, c1⟩ : ∃ zs, Ob.Ops W a1 len1 cap1 zs ∧ len1 ≤ 140737488351232 / 40 := by
    obtain ⟨fuel, hf⟩ := h1
    obtain ⟨⟨zs, hz⟩, hd⟩ := Ob.open_ops (by simpa [Value.cells] using hf)
    refine ⟨zs, hz, ?_⟩
    rcases hd with ⟨rfl, rfl⟩ | ⟨l, r, hd, hll⟩
    · omega
    · have sz := sized_slice hsz (j := 1) (t := 22) (e := 50) rfl (by simp only [List.cons_append, List.getElem?_cons_succ, List.getElem?_cons_zero]; rw [show d1 = _ from hd]) Try.underlying22
      rw [show Try.prog.bytesOf 50 = 40 from by kernel_rfl] at sz
      simp only [reachBytes] at sz
      omega
  clear hA0 hval0
  refine (walk a0 a1 len1 cap1 z1 W (u64_bd w0) w1 c1).mono fun e W' ⟨he, bel⟩ => ?_
  subst he
  exact ⟨_, rfl, _, _, _, [], _, [], hW', trodAll_mk1 (shut_bool Try.underlying4 _), (trodAll_cons_mk (shut_int Try.underlying32 w0) (trodAll_cons_mk (Below.trod laidOut (by kernel_rfl) (of_decide_eq_true (by kernel_rfl)) k1 bel lt1) trodAll_mk0)), rfl, bel.frame _, fun h => by cases h⟩

theorem over : Rows.batchEncodesRow.holds Try.pinned (OpenSpec.ofChange Rows.batchEncodesSpec) :=
  OpenClaim.holds_of_wide 4 Try.f4 rfl rfl rfl rfl rfl rfl rfl ⟨rfl, rfl, rfl, rfl, rfl⟩ rfl rfl rfl rfl rfl (by kernel_rfl) Try.func4 (by kernel_rfl)
    (of_decide_eq_true (by kernel_rfl)) (by unfold Func.isWrapper; first | (rw [if_pos (by decide +kernel)]; kernel_rfl) | (rw [if_neg (by decide +kernel)]; exact ⟨rfl, rfl⟩))
    (fun os started H enc _ => lifted os started H enc)
end Go.Proofs.Ytmceanfgcehfeaa.batchEncodes
namespace Go.Proofs.Ytmceanfgcehfeaa
theorem batchEncodes_holds : Rows.BatchEncodesSaid := batchEncodes.over
#print axioms batchEncodes_holds
end Go.Proofs.Ytmceanfgcehfeaa

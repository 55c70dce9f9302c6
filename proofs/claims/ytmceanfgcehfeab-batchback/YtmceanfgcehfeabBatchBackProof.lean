/- Proved: for every number, all operations and all bytes BatchBack returns true: what is encoded is decoded as it was; what is decoded is encoded so; else Decode tells ErrBatch and nothing else. -/
import Derived.Test.YtmceanfgcehfeabPu
import Derived.Test.YtmceanfgcehfeabWk
import Derived.Test.YtmceanfgcehfeabOo
import Derived.ShutString
import Derived.ChangeOld
import Derived.Below
import Derived.SizedLaws
import Derived.Deep.RegionWith
import Derived.Lib.SmallJoins
namespace Go.Proofs.Ytmceanfgcehfeab.batchBack
open Go.Proofs.Ytmceanfgcehfeab
open Go.Proofs.Ytmceanfgcehfeab.Ob
open Go.Proofs.Ytmceanfgcehfeab.By (Row Bytes nil_bytes row_below lb bytes_kept)
open Go.Proofs.Ytmceanfgcehfeab.En
open Go.Proofs.Ytmceanfgcehfeab.De
open Go.Proofs.Ytmceanfgcehfeab.Pu
open Go.Proofs.Ytmceanfgcehfeab.Wk
open Go.ChangeShapes Go.WideShapes Go.ChangeAt Go.RowKit Go.Joins
open Go.ChangeMaps (open_string shut_string)
set_option linter.unusedVariables false

set_option maxHeartbeats 4000000 in
theorem walk_ok (s : Int) (a : Option Addr) (len cap : Nat) (xs : List O) (ab : Option Addr) (lenb capb : Nat) (zs : List Int) (w : World) (hs : 0 ≤ s ∧ s ≤ 18446744073709551615) (H : Ops w a len cap xs) (hl : len ≤ 140737488351232 / 40) (Hz : Bytes w ab lenb capb zs) (hz : capb ≤ 140737488351232) (hE : encE s xs = 0) :
    Calls Try.prog 4 #[.int .u64 s, .slice a len cap, .slice ab lenb capb] w fun e w' => e = .returned (.bool true) ∧ Below w.heap.size w w' := by
  have hlb := Hz.2.1
  have HH := hid H
  have HZ := hid Hz
  have hok := hid H.2.2.2.1
  have hx := hid H.1
  have HE := hid hE
  have HDE := hid (dec_enc s xs hs hE)
  have EB := hid (enc_bytes s xs (all_may xs (chk_parts (encE_ok hE).1).2.1))
  have hs1 : (s != s) = false := bne_self_eq_false _
  clear H Hz hE
  go_enter Try.func4, Try.ntmps4
  go_wp2_with fail
  refine (works_any w).mono ?_
  rintro e w1 ⟨rfl, b1⟩
  have HB1 := hid b1
  clear b1
  go_wp2_with fail
  refine (encode_ok s a len cap xs w1 (HH.out.later HB1.out) hs HE.out).mono ?_
  rintro e w2 ⟨g, c, rfl, R2, b2⟩
  have HB2 : Hid (Below w.heap.size w w2) := HB1.out.trans (b2.mono HB1.out.size)
  have HR2 := hid R2
  clear HB1 b2 R2
  go_wp2_with fail
  refine (decode_ok (some ⟨g, 0, none⟩) (bsz xs) c (enc s xs) w2 (HR2.out.bytes EB.out) s xs HDE.out).mono ?_
  rintro e w3 ⟨v, rfl, O3, b3⟩
  have HB3 : Hid (Below w.heap.size w w3) := HB2.out.trans (b3.mono HB2.out.size)
  obtain ⟨a3, c3, hv, HO3⟩ := row_ops O3 hok.out
  subst hv
  rw [hx.out] at HO3 ⊢
  have HS := hid (same_any a3 a len c3 cap xs w3 HO3 (HH.out.later HB3.out) (by omega))
  clear O3 b3 HO3 HB2 HR2
  go_wp2_with fail
  refine HS.out.mono ?_
  rintro e w4 ⟨rfl, n, rfl⟩
  have HB4 : Hid (Below w.heap.size w (w3.drewN n)) := below_drewN HB3.out n
  clear HS HB3
  generalize w3.drewN n = w4 at HB4
  cases hd : dec zs with
  | none =>
    have HD := hid (decode_no ab lenb capb zs w4 (bytes_kept HZ.out HB4.out) (by omega) hd)
    clear hd
    go_wp2_with fail
    refine HD.out.mono ?_
    rintro e wy ⟨rfl, by'⟩
    have HY : Hid (Below w.heap.size w wy) := HB4.out.trans (by'.mono HB4.out.size)
    clear by'
    go_wp2_with fail
    go_ret
    exact ⟨rfl, HY.out⟩
  | some q =>
    obtain ⟨s2, ys⟩ := q
    obtain ⟨q1, q2, q3, q4, q5⟩ := enc_dec zs HZ.out.2.2.2.1 s2 ys hd
    have HD := hid (decode_ok ab lenb capb zs w4 (bytes_kept HZ.out HB4.out) s2 ys hd)
    have HQ1 := hid q1
    have HQ2 := hid q2
    have HQ4 := hid q4
    clear hd q1 q2 q4
    go_wp2_with fail
    refine HD.out.mono ?_
    rintro e wy ⟨v2, rfl, O2, by'⟩
    have HY : Hid (Below w.heap.size w wy) := HB4.out.trans (by'.mono HB4.out.size)
    obtain ⟨a2, c2, hv2, HO2⟩ := row_ops O2 (fun x hx => may_ok (HQ4.out x hx))
    subst hv2
    have HHO2 := hid HO2
    clear by' O2 HO2
    go_wp2_with fail
    refine (encode_ok s2 a2 ys.length c2 ys wy HHO2.out q3 HQ1.out).mono ?_
    rintro e wz ⟨g3, c3, rfl, R3, bz⟩
    have HZ3 : Hid (Below w.heap.size w wz) := HY.out.trans (bz.mono HY.out.size)
    have kA := By.Row.conv R3
    rw [HQ2.out] at kA
    have kB := By.Bytes.conv (bytes_kept HZ.out HZ3.out)
    clear R3 bz
    go_wp2_with fail
    go_ret
    exact ⟨rfl, HZ3.out⟩
set_option maxHeartbeats 4000000 in
theorem walk_no (s : Int) (a : Option Addr) (len cap : Nat) (xs : List O) (ab : Option Addr) (lenb capb : Nat) (zs : List Int) (w : World) (hs : 0 ≤ s ∧ s ≤ 18446744073709551615) (H : Ops w a len cap xs) (hl : len ≤ 140737488351232 / 40) (Hz : Bytes w ab lenb capb zs) (hz : capb ≤ 140737488351232) (hE : encE s xs ≠ 0) :
    Calls Try.prog 4 #[.int .u64 s, .slice a len cap, .slice ab lenb capb] w fun e w' => e = .returned (.bool true) ∧ Below w.heap.size w w' := by
  have hlb := Hz.2.1
  have HH := hid H
  have HZ := hid Hz
  have F1 : Hid (∀ w, Ops w a len cap xs → Calls Try.prog 20 #[.int .u64 s, .slice a len cap] w fun e w' => e = .returned (.tuple #[.slice none 0 0, .int .i64 (encE s xs)]) ∧ Below w.heap.size w w') := fun w h2 => encode_no s a len cap xs w h2 (by omega) hs hE
  have e0 : (encE s xs == 0) = false := by simp [hE]
  clear H Hz hE
  generalize encE s xs = E at F1 e0
  go_enter Try.func4, Try.ntmps4
  go_wp2_with fail
  refine (works_any w).mono ?_
  rintro e w1 ⟨rfl, b1⟩
  have HB1 := hid b1
  clear b1
  go_wp2_with fail
  refine (F1.out w1 (HH.out.later HB1.out)).mono ?_
  rintro e w4 ⟨rfl, b2⟩
  have HB4 : Hid (Below w.heap.size w w4) := HB1.out.trans (b2.mono HB1.out.size)
  clear HB1 b2 F1
  cases hd : dec zs with
  | none =>
    have HD := hid (decode_no ab lenb capb zs w4 (bytes_kept HZ.out HB4.out) (by omega) hd)
    clear hd
    go_wp2_with fail
    refine HD.out.mono ?_
    rintro e wy ⟨rfl, by'⟩
    have HY : Hid (Below w.heap.size w wy) := HB4.out.trans (by'.mono HB4.out.size)
    clear by'
    go_wp2_with fail
    go_ret
    exact ⟨rfl, HY.out⟩
  | some q =>
    obtain ⟨s2, ys⟩ := q
    obtain ⟨q1, q2, q3, q4, q5⟩ := enc_dec zs HZ.out.2.2.2.1 s2 ys hd
    have HD := hid (decode_ok ab lenb capb zs w4 (bytes_kept HZ.out HB4.out) s2 ys hd)
    have HQ1 := hid q1
    have HQ2 := hid q2
    have HQ4 := hid q4
    clear hd q1 q2 q4
    go_wp2_with fail
    refine HD.out.mono ?_
    rintro e wy ⟨v2, rfl, O2, by'⟩
    have HY : Hid (Below w.heap.size w wy) := HB4.out.trans (by'.mono HB4.out.size)
    obtain ⟨a2, c2, hv2, HO2⟩ := row_ops O2 (fun x hx => may_ok (HQ4.out x hx))
    subst hv2
    have HHO2 := hid HO2
    clear by' O2 HO2
    go_wp2_with fail
    refine (encode_ok s2 a2 ys.length c2 ys wy HHO2.out q3 HQ1.out).mono ?_
    rintro e wz ⟨g3, c3, rfl, R3, bz⟩
    have HZ3 : Hid (Below w.heap.size w wz) := HY.out.trans (bz.mono HY.out.size)
    have kA := By.Row.conv R3
    rw [HQ2.out] at kA
    have kB := By.Bytes.conv (bytes_kept HZ.out HZ3.out)
    clear R3 bz
    go_wp2_with fail
    go_ret
    exact ⟨rfl, HZ3.out⟩
theorem walk (s : Int) (a : Option Addr) (len cap : Nat) (xs : List O) (ab : Option Addr) (lenb capb : Nat) (zs : List Int) (w : World) (hs : 0 ≤ s ∧ s ≤ 18446744073709551615) (H : Ops w a len cap xs) (hl : len ≤ 140737488351232 / 40) (Hz : Bytes w ab lenb capb zs) (hz : capb ≤ 140737488351232) :
    Calls Try.prog 4 #[.int .u64 s, .slice a len cap, .slice ab lenb capb] w fun e w' => e = .returned (.bool true) ∧ Below w.heap.size w w' := by
  by_cases h : encE s xs = 0
  · exact walk_ok s a len cap xs ab lenb capb zs w hs H hl Hz hz h
  · exact walk_no s a len cap xs ab lenb capb zs w hs H hl Hz hz h

theorem own : ownKnob Try.prog.godebug = none := by kernel_rfl
theorem laidOut : laidOutB Try.prog = true := by kernel_rfl
theorem bytes5 : Try.prog.bytesOf 5 = 1 := by kernel_rfl
theorem u8_bd {y : Int} (h : (Lit.int .u8 y).wf = true) : 0 ≤ y ∧ y ≤ 255 := by
  simpa [Lit.wf, IntKind.min, IntKind.max, IntKind.signed, IntKind.bits] using h
theorem u64_bd {v : Int} (h : (Lit.int .u64 v).wf = true) : 0 ≤ v ∧ v ≤ 18446744073709551615 := by
  simpa [Lit.wf, IntKind.min, IntKind.max, IntKind.signed, IntKind.bits] using h
theorem i64_bd {v : Int} (h : (Lit.int .i64 v).wf = true) : -9223372036854775808 ≤ v ∧ v ≤ 9223372036854775807 := by
  simpa [Lit.wf, IntKind.min, IntKind.max, IntKind.signed, IntKind.bits] using h

/-! ### The row's step -/
set_option maxRecDepth 100000 in
theorem lifted (os : Os) (started : os.Started) (H : Type) (enc : TypeId × Value → H) :
    ReturnsInHanded {} Try.checked os 4 .any (Rows.batchBackSpec.pre6 enc Try.prog Try.f4 Rows.batchBackRow.domain false) (Rows.batchBackSpec.post enc Try.prog Try.f4 false true false false) := by
  refine returnsInHanded_of_change_sized (C := Try.checked) own started (by kernel_rfl) Try.func4
    (ChangeSpec.witness6 (enc := enc) (C := Try.checked) false ⟨#[], #[.int .u64 0, .slice none 0 0, .slice none 0 0], []⟩ 8 (by kernel_rfl) (by kernel_rfl) (by kernel_rfl) (by kernel_rfl)) ?_
  intro W base args ds gs before hval0 hW hcnd hsz0 _
  have hval : ∀ (j : Nat) t v, Try.f4.params[j]? = some t → args[j]? = some v → Value.okWide Try.prog W .any base t v := hval0
  have hsz : (DataW.weightsEach Try.prog (Try.f4.params.toList ++ Rows.batchBackSpec.plain.varTypes Try.prog) (ds ++ gs)).all (· ≤ reachBytes) = true := hsz0
  have hW' := hW
  obtain ⟨p, q, hA0, hV, rfl, hfz, hnd⟩ := hW
  have hA : DataW.TrodAll enc Try.prog W 0 (fun _ => true) true Try.f4.params.toList args.toList ds p := hA0
  rw [Try.params4] at hA hval hsz
  obtain ⟨v0, vs0, d0, ds0, p0, q0, hargs, rfl, rfl, h0, r0⟩ := trodAll_cons hA
  obtain ⟨v1, vs1, d1, ds1, p1, q1, rfl, rfl, rfl, h1, r1⟩ := trodAll_cons r0
  obtain ⟨v2, vs2, d2, ds2, p2, q2, rfl, rfl, rfl, h2, r2⟩ := trodAll_cons r1
  obtain ⟨rfl, rfl, rfl⟩ := trodAll_nil r2
  obtain rfl : args = #[v0, v1, v2] := by cases args; simp_all
  obtain ⟨rfl, rfl⟩ := trodVars_none hV
  obtain ⟨a0, rfl, rfl, rfl, w0⟩ := open_int Try.underlying28 (hval 0 28 v0 rfl rfl) h0
  obtain ⟨a1, len1, cap1, rfl⟩ := okWide_slice Try.underlying26 (hval 1 26 v1 rfl rfl)
  have k1 := h1
  have lt1 : ∀ x ∈ p1, x.block < W.heap.size := by obtain ⟨m, hm⟩ := k1; exact DataW.trod_lt m _ _ _ hm
  obtain ⟨z1, w1, c1⟩ : ∃ zs, Ob.Ops W a1 len1 cap1 zs ∧ len1 ≤ 140737488351232 / 40 := by
    obtain ⟨fuel, hf⟩ := h1
    obtain ⟨⟨zs, hz⟩, hd⟩ := Ob.open_ops (by simpa [Value.cells] using hf)
    refine ⟨zs, hz, ?_⟩
    rcases hd with ⟨rfl, rfl⟩ | ⟨l, r, hd, hll⟩
    · omega
    · have sz := sized_slice hsz (j := 1) (t := 26) (e := 60) rfl (by simp only [List.cons_append, List.getElem?_cons_succ, List.getElem?_cons_zero]; rw [show d1 = _ from hd]) Try.underlying26
      rw [show Try.prog.bytesOf 60 = 40 from by kernel_rfl] at sz
      simp only [reachBytes] at sz
      omega
  obtain ⟨a2, len2, cap2, rfl⟩ := okWide_slice Try.underlying33 (hval 2 33 v2 rfl rfl)
  have k2 := h2
  have lt2 : ∀ x ∈ p2, x.block < W.heap.size := by obtain ⟨m, hm⟩ := k2; exact DataW.trod_lt m _ _ _ hm
  obtain ⟨z2, w2, c2⟩ : ∃ zs, By.Bytes W a2 len2 cap2 zs ∧ cap2 ≤ 140737488351232 := by
    obtain ⟨fuel, hf⟩ := h2
    rcases open_ints Try.underlying33 Try.underlying5 (by kernel_rfl) hf with ⟨hcs, _⟩ | ⟨x, l, c, zs, hcs, _, hl, hm, hz, hx, hcell, hwz⟩
    · simp [Value.cells] at hcs
      obtain ⟨rfl, rfl, rfl⟩ := hcs
      exact ⟨[], By.nil_bytes W, by omega⟩
    · simp [Value.cells] at hcs
      obtain ⟨rfl, rfl, rfl⟩ := hcs
      have hd : d2 = .slice (lits .u8 (zs.take len2)) (lits .u8 (zs.drop len2)) := (Prod.mk.inj hx).1
      have hz' : zs.length = cap2 := by simpa using hz
      have sz := sized_slice hsz (j := 2) (t := 33) (e := 5) rfl (by rw [hd]; rfl) Try.underlying33
      rw [bytes5] at sz
      simp only [lits, List.length_map, List.length_take, List.length_drop, reachBytes] at sz
      refine ⟨zs.take len2, ⟨by rw [List.length_take]; omega, hl, fun e => by simp at e, fun y hy => u8_bd (hwz y (List.mem_of_mem_take hy)), ?_⟩, by omega⟩
      intro x' hx' j hj
      simp at hx'
      subst hx'
      rw [hcell j (by omega)]
      simp [List.getD_eq_getElem?_getD, hj]
  clear hA0 hval0
  refine (walk a0 a1 len1 cap1 z1 a2 len2 cap2 z2 W (u64_bd w0) w1 c1 w2 c2).mono fun e W' ⟨he, bel⟩ => ?_
  subst he
  exact ⟨_, rfl, _, _, _, [], _, [], hW', trodAll_mk1 (shut_bool Try.underlying4 _), (trodAll_cons_mk (shut_int Try.underlying28 w0) (trodAll_cons_mk (Below.trod laidOut (by kernel_rfl) (of_decide_eq_true (by kernel_rfl)) k1 bel lt1) (trodAll_cons_mk (Below.trod laidOut (by kernel_rfl) (of_decide_eq_true (by kernel_rfl)) k2 bel lt2) trodAll_mk0))), rfl, bel.frame _, fun h => by cases h⟩

theorem over : Rows.batchBackRow.holds Try.pinned (OpenSpec.ofChange Rows.batchBackSpec) :=
  OpenClaim.holds_of_wide 4 Try.f4 rfl rfl rfl rfl rfl rfl rfl ⟨rfl, rfl, rfl, rfl, rfl⟩ rfl rfl rfl rfl rfl (by kernel_rfl) Try.func4 (by kernel_rfl)
    (of_decide_eq_true (by kernel_rfl)) (by unfold Func.isWrapper; first | (rw [if_pos (by decide +kernel)]; kernel_rfl) | (rw [if_neg (by decide +kernel)]; exact ⟨rfl, rfl⟩))
    (fun os started H enc _ => lifted os started H enc)
end Go.Proofs.Ytmceanfgcehfeab.batchBack
namespace Go.Proofs.Ytmceanfgcehfeab
theorem batchBack_holds : Rows.BatchBackSaid := batchBack.over
#print axioms batchBack_holds
end Go.Proofs.Ytmceanfgcehfeab

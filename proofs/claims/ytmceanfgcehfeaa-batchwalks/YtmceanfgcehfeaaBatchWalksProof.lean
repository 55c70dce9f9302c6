/- Proved: for all bytes and every place to leave BatchWalks returns true: a walk over a batch tells the operations that the document's Walked tells, from the start again where it was left early, and also when what was handed in is written over. -/
import Derived.Test.YtmceanfgcehfeaaBw
import Derived.ShutString
import Derived.ChangeOld
import Derived.Below
import Derived.SizedLaws
import Derived.Deep.RegionWith
import Derived.Lib.SmallJoins
namespace Go.Proofs.Ytmceanfgcehfeaa.batchWalks
open Go.Proofs.Ytmceanfgcehfeaa
open Go.Proofs.Ytmceanfgcehfeaa.Ob
open Go.Proofs.Ytmceanfgcehfeaa.By (Bytes nil_bytes)
open Go.Proofs.Ytmceanfgcehfeaa.Hd
open Go.Proofs.Ytmceanfgcehfeaa.It
open Go.Proofs.Ytmceanfgcehfeaa.Rt (walked_short walked_any)
open Go.Proofs.Ytmceanfgcehfeaa.De (row_ops may_ok wlk_may wlk_len)
open Go.ChangeShapes Go.WideShapes Go.ChangeAt Go.RowKit Go.Joins
open Go.ChangeMaps (open_string shut_string)
set_option linter.unusedVariables false

theorem own_lt {w : World} {base n : Nat} {v : Value} {xs : List Value} (h : w.ownsRow base 50 3 v n xs) : ∀ b, v.ownBlock = some b → base ≤ b ∧ b < w.heap.size := by
  intro b hb
  rcases h.2 with ⟨e, _⟩ | ⟨g, c, cur, e, h1, h2, _⟩
  · subst e; simp [Value.ownBlock] at hb
  · subst e
    simp [Value.ownBlock] at hb
    subst hb
    exact ⟨h1, (Array.getElem?_eq_some_iff.1 h2).1⟩
theorem walk (a : Option Addr) (len cap : Nat) (zs : List Int) (early : Int) (w : World) (H : Bytes w a len cap zs) (hl : cap ≤ 140737488351232) (he : -9223372036854775808 ≤ early ∧ early ≤ 9223372036854775807) :
    Calls Try.prog 8 #[.slice a len cap, .int .i64 early] w fun e w' => e = .returned (.bool true) ∧ Below w.heap.size w w' := by
  have hlc := H.2.1
  have hzl := H.1
  have hbd := H.2.2.2.1
  by_cases h12 : len < 12
  · refine callsIn_wide.1 (Bw.walks_in a len cap zs early w H (by omega) 0 [] (by unfold items; rw [if_pos (by omega)]; rfl) (by omega) (by simp) (fun W HW => ?_))
    refine (walked_short a len cap W h12).mono ?_
    rintro e w' ⟨rfl, rfl⟩
    exact ⟨none, 0, 0, rfl, ⟨rfl, Nat.le_refl _, fun _ => ⟨rfl, rfl⟩, fun x hx => by simp at hx, fun _ _ _ h => by simp at h⟩, fun b hb => by simp [Value.ownBlock] at hb, Below.refl _ _⟩
  · obtain ⟨xs, en, hx⟩ : ∃ xs en, wlk zs (hcnt zs) 12 = (xs, en) := ⟨_, _, rfl⟩
    have hxl : xs.length ≤ 4294967296 := by
      have h1 := wlk_len zs (hcnt zs) 12
      have h2 := cnt_lt zs hbd
      rw [hx] at h1
      have h1' : xs.length ≤ hcnt zs := h1
      omega
    have hok : ∀ x ∈ xs, x.ok := fun x hm => may_ok (wlk_may zs (hcnt zs) 12 x (by rw [hx]; exact hm))
    refine callsIn_wide.1 (Bw.walks_in a len cap zs early w H (by omega) (hseq zs) xs (by unfold items; rw [if_neg (by omega), hx]) (seq_bd zs hbd) hxl (fun W HW => ?_))
    refine (walked_any a len cap zs W HW (by omega) (by omega) xs en hx).mono ?_
    rintro e w' ⟨v, rfl, Q, b⟩
    have ho := own_lt Q
    obtain ⟨av, cv, rfl, O⟩ := row_ops Q hok
    exact ⟨av, cv, en, rfl, O, ho, b⟩
theorem own : ownKnob Try.prog.godebug = none := by kernel_rfl
theorem laidOut : laidOutB Try.prog = true := by kernel_rfl
theorem bytes5 : Try.prog.bytesOf 5 = 1 := by kernel_rfl
theorem u8_bd {y : Int} (h : (Lit.int .u8 y).wf = true) : 0 ≤ y ∧ y ≤ 255 := by
  simpa [Lit.wf, IntKind.min, IntKind.max, IntKind.signed, IntKind.bits] using h
theorem u64_bd {v : Int} (h : (Lit.int .u64 v).wf = true) : 0 ≤ v ∧ v ≤ 18446744073709551615 := by
  simpa [Lit.wf, IntKind.min, IntKind.max, IntKind.signed, IntKind.bits] using h
theorem i64_bd {v : Int} (h : (Lit.int .i64 v).wf = true) : -9223372036854775808 ≤ v ∧ v ≤ 9223372036854775807 := by
  simpa [Lit.wf, IntKind.min, IntKind.max, IntKind.signed, IntKind.bits] using h

/-! ### The row's step -/
set_option maxRecDepth 100000 in
theorem lifted (os : Os) (started : os.Started) (H : Type) (enc : TypeId × Value → H) :
    ReturnsInHanded {} Try.checked os 8 .any (Rows.batchWalksSpec.pre6 enc Try.prog Try.f8 Rows.batchWalksRow.domain false) (Rows.batchWalksSpec.post enc Try.prog Try.f8 false true false false) := by
  refine returnsInHanded_of_change_sized (C := Try.checked) own started (by kernel_rfl) Try.func8
    (ChangeSpec.witness6 (enc := enc) (C := Try.checked) false ⟨#[], #[.slice none 0 0, .int .i64 0], []⟩ 8 (by kernel_rfl) (by kernel_rfl) (by kernel_rfl) (by kernel_rfl)) ?_
  intro W base args ds gs before hval0 hW hcnd hsz0 _
  have hval : ∀ (j : Nat) t v, Try.f8.params[j]? = some t → args[j]? = some v → Value.okWide Try.prog W .any base t v := hval0
  have hsz : (DataW.weightsEach Try.prog (Try.f8.params.toList ++ Rows.batchWalksSpec.plain.varTypes Try.prog) (ds ++ gs)).all (· ≤ reachBytes) = true := hsz0
  have hW' := hW
  obtain ⟨p, q, hA0, hV, rfl, hfz, hnd⟩ := hW
  have hA : DataW.TrodAll enc Try.prog W 0 (fun _ => true) true Try.f8.params.toList args.toList ds p := hA0
  rw [Try.params8] at hA hval hsz
  obtain ⟨v0, vs0, d0, ds0, p0, q0, hargs, rfl, rfl, h0, r0⟩ := trodAll_cons hA
  obtain ⟨v1, vs1, d1, ds1, p1, q1, rfl, rfl, rfl, h1, r1⟩ := trodAll_cons r0
  obtain ⟨rfl, rfl, rfl⟩ := trodAll_nil r1
  obtain rfl : args = #[v0, v1] := by cases args; simp_all
  obtain ⟨rfl, rfl⟩ := trodVars_none hV
  obtain ⟨a0, len0, cap0, rfl⟩ := okWide_slice Try.underlying33 (hval 0 33 v0 rfl rfl)
  have k0 := h0
  have lt0 : ∀ x ∈ p0, x.block < W.heap.size := by obtain ⟨m, hm⟩ := k0; exact DataW.trod_lt m _ _ _ hm
  obtain ⟨z0, w0, c0⟩ : ∃ zs, By.Bytes W a0 len0 cap0 zs ∧ cap0 ≤ 140737488351232 := by
    obtain ⟨fuel, hf⟩ := h0
    rcases open_ints Try.underlying33 Try.underlying5 (by kernel_rfl) hf with ⟨hcs, _⟩ | ⟨x, l, c, zs, hcs, _, hl, hm, hz, hx, hcell, hwz⟩
    · simp [Value.cells] at hcs
      obtain ⟨rfl, rfl, rfl⟩ := hcs
      exact ⟨[], By.nil_bytes W, by omega⟩
    · simp [Value.cells] at hcs
      obtain ⟨rfl, rfl, rfl⟩ := hcs
      have hd : d0 = .slice (lits .u8 (zs.take len0)) (lits .u8 (zs.drop len0)) := (Prod.mk.inj hx).1
      have hz' : zs.length = cap0 := by simpa using hz
      have sz := sized_slice hsz (j := 0) (t := 33) (e := 5) rfl (by rw [hd]; rfl) Try.underlying33
      rw [bytes5] at sz
      simp only [lits, List.length_map, List.length_take, List.length_drop, reachBytes] at sz
      refine ⟨zs.take len0, ⟨by rw [List.length_take]; omega, hl, fun e => by simp at e, fun y hy => u8_bd (hwz y (List.mem_of_mem_take hy)), ?_⟩, by omega⟩
      intro x' hx' j hj
      simp at hx'
      subst hx'
      rw [hcell j (by omega)]
      simp [List.getD_eq_getElem?_getD, hj]
  obtain ⟨a1, rfl, rfl, rfl, w1⟩ := open_int Try.underlying3 (hval 1 3 v1 rfl rfl) h1
  clear hA0 hval0
  refine (walk a0 len0 cap0 z0 a1 W w0 c0 (i64_bd w1)).mono fun e W' ⟨he, bel⟩ => ?_
  subst he
  exact ⟨_, rfl, _, _, _, [], _, [], hW', trodAll_mk1 (shut_bool Try.underlying4 _), (trodAll_cons_mk (Below.trod laidOut (by kernel_rfl) (of_decide_eq_true (by kernel_rfl)) k0 bel lt0) (trodAll_cons_mk (shut_int Try.underlying3 w1) trodAll_mk0)), rfl, bel.frame _, fun h => by cases h⟩

theorem over : Rows.batchWalksRow.holds Try.pinned (OpenSpec.ofChange Rows.batchWalksSpec) :=
  OpenClaim.holds_of_wide 8 Try.f8 rfl rfl rfl rfl rfl rfl rfl ⟨rfl, rfl, rfl, rfl, rfl⟩ rfl rfl rfl rfl rfl (by kernel_rfl) Try.func8 (by kernel_rfl)
    (of_decide_eq_true (by kernel_rfl)) (by unfold Func.isWrapper; first | (rw [if_pos (by decide +kernel)]; kernel_rfl) | (rw [if_neg (by decide +kernel)]; exact ⟨rfl, rfl⟩))
    (fun os started H enc _ => lifted os started H enc)
end Go.Proofs.Ytmceanfgcehfeaa.batchWalks
namespace Go.Proofs.Ytmceanfgcehfeaa
theorem batchWalks_holds : Rows.BatchWalksSaid := batchWalks.over
#print axioms batchWalks_holds
end Go.Proofs.Ytmceanfgcehfeaa

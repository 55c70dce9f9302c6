/- Proved: for any three texts IkeyShort returns true: what Between of the program tells of two texts is not below the one and below the other, not longer than the first, and no shorter text, nor a lesser one of its length, is; where the first is not below the second it is the first. -/
import Derived.Test.YtbpgifpplnmjmabBt
import Derived.ShutString
import Derived.ChangeOld
import Derived.Below
import Derived.SizedLaws
import Derived.Deep.RegionWith
import Derived.Lib.SmallJoins
namespace Go.Proofs.Ytbpgifpplnmjmab.ikeyShort
open Go.ChangeShapes Go.WideShapes Go.ChangeAt Go.RowKit Go.Joins
open Go.ChangeMaps (open_string shut_string)
set_option linter.unusedVariables false
open Go.Proofs.Ytbpgifpplnmjmab.Ik
open Go.Proofs.Ytbpgifpplnmjmab.Bt

set_option maxHeartbeats 2000000 in
theorem walk (a b s : ByteArray) (w : World) (ha : a.size ≤ 140737488351232) (hb : b.size ≤ 140737488351232) (hs : s.size ≤ 140737488351232) :
    Calls Try.prog 4 #[.string a, .string b, .string s] w fun e w' => e = .returned (.bool true) ∧ Below w.heap.size w w' := by
  have HM : Hid (∀ w, Calls Try.prog 9 #[.string a, .string b] w fun e w' => e = .returned (.string (tb (between a.data.toList b.data.toList))) ∧ Below w.heap.size w w') := fun w => between_any a b w (by unfold maxLen; omega) (by unfold maxLen; omega)
  by_cases hab : a.data.toList < b.data.toList
  · obtain ⟨s1, s2, s3, s4⟩ := between_short _ _ hab
    have l1 := less_yes hab
    obtain ⟨m, hm⟩ : ∃ m, m = tb (between a.data.toList b.data.toList) := ⟨_, rfl⟩
    rw [← hm] at HM
    have hd : between a.data.toList b.data.toList = m.data.toList := by rw [hm, tb_data]
    rw [hd] at s1 s2 s3 s4
    clear hm hd hab
    have s4 := s4 s.data.toList
    rw [size_eq, size_eq] at s3 s4
    have l2 := less_no s1
    have l3 := less_yes s2
    clear s1 s2
    by_cases g1 : s.data.toList < a.data.toList
    · have l4 := less_yes g1
      clear g1 s4
      go_enter Try.func4, Try.ntmps4
      go_wp2_with fail
      refine (HM.out _).mono ?_
      rintro e w1 ⟨rfl, b1⟩
      have HB : Hid (Below w.heap.size w w1) := b1
      clear b1 HM
      go_wp2
      go_ret
      exact ⟨rfl, HB.out⟩
    · have l4 := less_no g1
      by_cases g2 : s.data.toList < b.data.toList
      · have l5 := less_yes g2
        have s4 := s4 g1 g2
        clear g1 g2
        by_cases g3 : m.size < s.size
        · clear s4
          go_enter Try.func4, Try.ntmps4
          go_wp2_with fail
          refine (HM.out _).mono ?_
          rintro e w1 ⟨rfl, b1⟩
          have HB : Hid (Below w.heap.size w w1) := b1
          clear b1 HM
          go_wp2
          go_ret
          exact ⟨rfl, HB.out⟩
        · have s5 : m.size = s.size ∧ ¬ s.data.toList < m.data.toList := by
            rcases s4 with h | h
            · exact absurd h g3
            · exact h
          obtain ⟨s5, s6⟩ := s5
          have l6 := less_no s6
          have e1 : ((s.size : Int) == (m.size : Int)) = true := beq_iff_eq.2 (by omega)
          clear s4 s5 s6
          go_enter Try.func4, Try.ntmps4
          go_wp2_with fail
          refine (HM.out _).mono ?_
          rintro e w1 ⟨rfl, b1⟩
          have HB : Hid (Below w.heap.size w w1) := b1
          clear b1 HM
          go_wp2
          go_ret
          exact ⟨rfl, HB.out⟩
      · have l5 := less_no g2
        clear g1 g2 s4
        go_enter Try.func4, Try.ntmps4
        go_wp2_with fail
        refine (HM.out _).mono ?_
        rintro e w1 ⟨rfl, b1⟩
        have HB : Hid (Below w.heap.size w w1) := b1
        clear b1 HM
        go_wp2
        go_ret
        exact ⟨rfl, HB.out⟩
  · have l1 := less_no hab
    have hm : tb (between a.data.toList b.data.toList) = a := by rw [between_not _ _ hab, tb_of]
    rw [hm] at HM
    clear hm hab
    go_enter Try.func4, Try.ntmps4
    go_wp2_with fail
    refine (HM.out _).mono ?_
    rintro e w1 ⟨rfl, b1⟩
    have HB : Hid (Below w.heap.size w w1) := b1
    clear b1 HM
    go_wp2
    go_ret
    exact ⟨rfl, HB.out⟩

theorem own : ownKnob Try.prog.godebug = none := by kernel_rfl
theorem laidOut : laidOutB Try.prog = true := by kernel_rfl
theorem u64_bd {v : Int} (h : (Lit.int .u64 v).wf = true) : 0 ≤ v ∧ v ≤ 18446744073709551615 := by
  simpa [Lit.wf, IntKind.min, IntKind.max, IntKind.signed, IntKind.bits] using h
theorem i64_bd {v : Int} (h : (Lit.int .i64 v).wf = true) : -9223372036854775808 ≤ v ∧ v ≤ 9223372036854775807 := by
  simpa [Lit.wf, IntKind.min, IntKind.max, IntKind.signed, IntKind.bits] using h

/-! ### The row's step -/
set_option maxRecDepth 100000 in
theorem lifted (os : Os) (started : os.Started) (H : Type) (enc : TypeId × Value → H) :
    ReturnsInHanded {} Try.checked os 4 .any (Rows.ikeyShortSpec.pre6 enc Try.prog Try.f4 Rows.ikeyShortRow.domain false) (Rows.ikeyShortSpec.post enc Try.prog Try.f4 false true false false) := by
  refine returnsInHanded_of_change_sized (C := Try.checked) own started (by kernel_rfl) Try.func4
    (ChangeSpec.witness6 (enc := enc) (C := Try.checked) false ⟨#[], #[.string ByteArray.empty, .string ByteArray.empty, .string ByteArray.empty], []⟩ 8 (by kernel_rfl) (by kernel_rfl) (by kernel_rfl) (by kernel_rfl)) ?_
  intro W base args ds gs before hval0 hW hcnd hsz0 _
  have hval : ∀ (j : Nat) t v, Try.f4.params[j]? = some t → args[j]? = some v → Value.okWide Try.prog W .any base t v := hval0
  have hsz : (DataW.weightsEach Try.prog (Try.f4.params.toList ++ Rows.ikeyShortSpec.plain.varTypes Try.prog) (ds ++ gs)).all (· ≤ reachBytes) = true := hsz0
  have hW' := hW
  obtain ⟨p, q, hA0, hV, rfl, hfz, hnd⟩ := hW
  have hA : DataW.TrodAll enc Try.prog W 0 (fun _ => true) true Try.f4.params.toList args.toList ds p := hA0
  rw [Try.params4] at hA hval hsz
  obtain ⟨v0, vs0, d0, ds0, p0, q0, hargs, rfl, rfl, h0, r0⟩ := trodAll_cons hA
  obtain ⟨v1, vs1, d1, ds1, p1, q1, rfl, rfl, rfl, h1, r1⟩ := trodAll_cons r0
  obtain ⟨v2, vs2, d2, ds2, p2, q2, rfl, rfl, rfl, h2, r2⟩ := trodAll_cons r1
  obtain ⟨rfl, rfl, rfl⟩ := trodAll_nil r2
  obtain rfl : args = #[v0, v1, v2] := by cases args; simp_all
  obtain ⟨rfl, rfl⟩ := trodVars_none hV
  obtain ⟨a0, rfl, rfl, rfl, w0⟩ := open_string Try.underlying9 (hval 0 9 v0 rfl rfl) h0
  have c0 : a0.size ≤ 140737488351232 := by
    have sz := sized_string hsz (j := 0) (t := 9) rfl rfl
    simp only [reachBytes] at sz
    simpa using sz
  obtain ⟨a1, rfl, rfl, rfl, w1⟩ := open_string Try.underlying9 (hval 1 9 v1 rfl rfl) h1
  have c1 : a1.size ≤ 140737488351232 := by
    have sz := sized_string hsz (j := 1) (t := 9) rfl rfl
    simp only [reachBytes] at sz
    simpa using sz
  obtain ⟨a2, rfl, rfl, rfl, w2⟩ := open_string Try.underlying9 (hval 2 9 v2 rfl rfl) h2
  have c2 : a2.size ≤ 140737488351232 := by
    have sz := sized_string hsz (j := 2) (t := 9) rfl rfl
    simp only [reachBytes] at sz
    simpa using sz
  clear hA0 hval0
  refine (walk a0 a1 a2 W c0 c1 c2).mono fun e W' ⟨he, bel⟩ => ?_
  subst he
  exact ⟨_, rfl, _, _, _, [], _, [], hW', trodAll_mk1 (shut_bool Try.underlying4 _), (trodAll_cons_mk (shut_string Try.underlying9 w0) (trodAll_cons_mk (shut_string Try.underlying9 w1) (trodAll_cons_mk (shut_string Try.underlying9 w2) trodAll_mk0))), rfl, bel.frame _, fun h => by cases h⟩

theorem over : Rows.ikeyShortRow.holds Try.pinned (OpenSpec.ofChange Rows.ikeyShortSpec) :=
  OpenClaim.holds_of_wide 4 Try.f4 rfl rfl rfl rfl rfl rfl rfl ⟨rfl, rfl, rfl, rfl, rfl⟩ rfl rfl rfl rfl rfl (by kernel_rfl) Try.func4 (by kernel_rfl)
    (of_decide_eq_true (by kernel_rfl)) (by unfold Func.isWrapper; first | (rw [if_pos (by decide +kernel)]; kernel_rfl) | (rw [if_neg (by decide +kernel)]; exact ⟨rfl, rfl⟩))
    (fun os started H enc _ => lifted os started H enc)
end Go.Proofs.Ytbpgifpplnmjmab.ikeyShort
namespace Go.Proofs.Ytbpgifpplnmjmab
theorem ikeyShort_holds : Rows.IkeyShortSaid := ikeyShort.over
#print axioms ikeyShort_holds
end Go.Proofs.Ytbpgifpplnmjmab

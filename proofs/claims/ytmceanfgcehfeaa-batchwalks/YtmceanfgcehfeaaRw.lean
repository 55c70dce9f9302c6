/- The document's Walked. -/
import Derived.Test.YtmceanfgcehfeaaRo
namespace Go.Proofs.Ytmceanfgcehfeaa.Rt
open Go.ChangeShapes Go.WideShapes Go.ChangeAt Go.RowKit
open Go.Proofs.Ytmceanfgcehfeaa.By
open Go.Proofs.Ytmceanfgcehfeaa.Ob
open Go.Proofs.Ytmceanfgcehfeaa.Hd
open Go.Proofs.Ytmceanfgcehfeaa.Rp
open Go.Proofs.Ytmceanfgcehfeaa.It
open Go.Proofs.Ytmceanfgcehfeaa.De (row_ops may_ok wlk_may wlk_len)
open Go.Proofs.Ytmceanfgcehfeaa.Pu
set_option linter.unusedVariables false

theorem walked_short (a : Option Addr) (len cap : Nat) (w : World) (h : len < 12) :
    Calls Try.prog 29 #[.slice a len cap] w fun e w' => e = .returned (.tuple #[.int .u64 0, .slice none 0 0, .int .i64 0]) ∧ w' = w := by
  have ip : (len : Int) < 12 := by omega
  go_enter Try.func29, Try.ntmps29
  go_wp2_with fail
  go_ret3
  exact ⟨rfl, rfl⟩
def sl : Value → Nat
  | .slice _ n _ => n
  | _ => 0
theorem row_slice {w : World} {base n : Nat} {v : Value} {xs : List Value} (h : w.ownsRow base 50 3 v n xs) : ∃ a c, v = .slice a n c := by
  rcases h.2 with ⟨e, h0⟩ | ⟨g, c, _, e, _⟩
  · subst h0; exact ⟨none, 0, e⟩
  · exact ⟨_, c, e⟩
set_option maxRecDepth 100000 in
set_option maxHeartbeats 4000000 in
theorem walked_any (a : Option Addr) (len cap : Nat) (zs : List Int) (w : World) (H : Bytes w a len cap zs) (hcap : len ≤ 140737488351232) (h12 : 12 ≤ len) (xs : List O) (en : Nat) (hx : wlk zs (hcnt zs) 12 = (xs, en)) :
    Calls Try.prog 29 #[.slice a len cap] w fun e w' => ∃ v, e = .returned (.tuple #[.int .u64 (hseq zs), v, .int .i64 en]) ∧ w'.ownsRow w.heap.size 50 3 v xs.length (ocs xs) ∧ Below w.heap.size w w' := by
  obtain ⟨i0, hi, hz0, hz1, hz2⟩ := info_parts infoOp
  have ip : ¬ (len : Int) < 12 := by omega
  have HF8 := hid (num8 a len cap zs w H (by omega) h12)
  have HF4 := hid (num4 a len cap zs w H (by omega) h12)
  have hc := cnt_lt zs H.2.2.2.1
  have hzl := H.1
  have HB := hid H.2.2.2.1
  have HH := hid H
  have HX := hid hx
  clear H hx
  generalize hseq zs = S at *
  generalize hcnt zs = C at *
  go_enter Try.func29, Try.ntmps29
  go_wp2_with fail
  refine HF8.out.mono ?_
  rintro e w' ⟨rfl, rfl⟩
  go_wp2_with fail
  refine HF4.out.mono ?_
  rintro e w' ⟨rfl, rfl⟩
  go_wp2_with fail
  go_loopw [8, 7] (fun b p wr => ∃ k q c' : Nat, ∃ a' : Option Addr, ∃ pre : List O, b = .slice a' k c' ∧ p = .int .i64 q ∧ k ≤ C ∧ q ≤ len ∧ Hid (pre.length = k) ∧ Hid (xs = pre ++ (wlk zs (C - k) q).1) ∧ Hid (en = (wlk zs (C - k) q).2) ∧ Hid (wr.ownsRow w'.heap.size 50 3 (.slice a' k c') k (ocs pre)) ∧ Hid (Below w'.heap.size w' wr)) (fun b _ _ => C - sl b)
  case atStart => exact ⟨0, 12, 0, none, [], rfl, rfl, by omega, h12, rfl, by show _ = _; rw [Nat.sub_zero, HX.out]; rfl, by show _ = _; rw [Nat.sub_zero, HX.out], World.ownsRow_nil _ _ _ _, Below.refl _ _⟩
  case round =>
    obtain ⟨k, q, c', a', pre, rfl, rfl, hk, hq, hpl, hxs, hen, hrow, hbel⟩ := hrel
    by_cases hlt : k < C
    · have ik : (k : Int) < (C : Int) := by omega
      have HO := hid (op_any a len cap q zs wr (bytes_kept HH.out hbel.out) hcap (by omega))
      cases hr : rop zs q with
      | none =>
        rw [hr] at HO
        have HE1 : Hid (xs = pre) := by show _ = _; rw [hxs.out, wlk_none hr]; simp
        have HE2 : Hid (en = q) := by show _ = _; rw [hen.out, wlk_none hr]
        clear hxs hen hr
        go_wp2_with fail
        refine HO.out.mono ?_
        rintro e w2 ⟨rfl, b2⟩
        unfold outO
        have HB2 : Hid (Below w'.heap.size w' (w2.alloc (.cells #[.int .i64 0, .string ⟨#[]⟩, .string ⟨#[]⟩] 50))) := (hbel.out.trans (b2.mono hbel.out.size)).alloc (by have := hbel.out.size; have := b2.size; omega) _
        have HR2 : Hid ((w2.alloc (.cells #[.int .i64 0, .string ⟨#[]⟩, .string ⟨#[]⟩] 50)).ownsRow w'.heap.size 50 3 (.slice a' k c') k (ocs pre)) := (hrow.out.kept (grown_of_below b2) (by cases hh : (Value.slice a' k c').ownBlock <;> simp)).alloc _
        clear b2 HO
        go_wp2_with fail
        go_ret3
        refine ⟨.slice a' k c', ?_, ?_, HB2.out⟩
        · rw [HE2.out]; rfl
        · rw [HE1.out, hpl.out]; exact HR2.out
      | some xn =>
        obtain ⟨x, nx⟩ := xn
        have hnx := (rop_form HB.out hr).2.1
        rw [hr] at HO
        have HE1 : Hid (xs = (pre ++ [x]) ++ (wlk zs (C - (k + 1)) nx).1) := by show _ = _; rw [hxs.out, show C - k = (C - (k + 1)) + 1 from by omega, wlk_some hr]; simp
        have HE2 : Hid (en = (wlk zs (C - (k + 1)) nx).2) := by show _ = _; rw [hen.out, show C - k = (C - (k + 1)) + 1 from by omega, wlk_some hr]
        clear hxs hen hr
        obtain ⟨xc, xk, xv⟩ := x
        have inx : ¬ (nx : Int) < 0 := by omega
        go_wp2_with fail
        refine HO.out.mono ?_
        rintro e w2 ⟨rfl, b2⟩
        unfold outO
        have HB2 : Below w'.heap.size w' w2 := hbel.out.trans (b2.mono hbel.out.size)
        have hsz := HB2.size
        have HR2 : w2.ownsRow w'.heap.size 50 3 (.slice a' k c') k (ocs pre) := hrow.out.kept (grown_of_below b2) (by cases hh : (Value.slice a' k c').ownBlock <;> simp)
        have HHR2 := hid HR2
        have HHB2 := hid HB2
        clear b2 HO HR2 HB2 hrow hbel
        go_wp2_with (at_builtin; refine wpList_append_own _ rfl _ _ 22 rfl w'.heap.size 50 i0 (.agg #[.int .i64 0, .string ⟨#[]⟩, .string ⟨#[]⟩]) 3 40 Try.underlying22 hi hz0 hz1 hz2 rfl (by decide) _ _ _ rfl ((HHR2.out.alloc _).alloc _) ⟨w2.heap.size + 1, 0, none⟩ 1 1 [.int .i64 xc, .string xk, .string xv] rfl rfl ?e1 ?e2 ?e3 ?e4 ?e5 ?_)
        case e1 => intro j u hj; match j, hj with
          | 0, hj => simp at hj; subst hj; simp [Addr.add, go_sem]
          | 1, hj => simp at hj; subst hj; simp [Addr.add, go_sem]
          | 2, hj => simp at hj; subst hj; simp [Addr.add, go_sem]
        case e2 => intro u hu; simp at hu; rcases hu with rfl | rfl | rfl <;> rfl
        case e3 => unfold maxLen; omega
        case e4 => omega
        case e5 => simp; omega
        intro v4 w4 own4 g4 _
        have HB4 : Hid (Below w'.heap.size w' w4) := ((HHB2.out.alloc hsz _).alloc (by simp; omega) _).grown g4 (by simp; omega) (fun j hj => (World.ownsRow.lt HHR2.out j hj).1)
        obtain ⟨a4, c4, hv4⟩ := row_slice own4
        subst hv4
        have HR4 : Hid (w4.ownsRow w'.heap.size 50 3 (.slice a4 (k + 1) c4) (k + 1) (ocs (pre ++ [⟨xc, xk, xv⟩]))) := by
          show World.ownsRow _ _ _ _ _ _ _
          rw [ocs_append]
          simpa [ocs, oc] using own4
        clear own4 g4 HHR2 HHB2
        go_wp2_with fail
        go_roundw
        case rel => exact ⟨k + 1, nx, c4, a4, _, rfl, rfl, by omega, by omega, by show _ = _; have := hpl.out; simp; omega, HE1, HE2, HR4, HB4⟩
        case measure => simp [sl]; omega
    · have hkC : k = C := by omega
      have HE1 : Hid (xs = pre) := by show _ = _; rw [hxs.out, hkC]; simp [wlk]
      have HE2 : Hid (en = q) := by show _ = _; rw [hen.out, hkC]; simp [wlk]
      clear hxs hen
      go_wp2_with fail
      go_ret3
      refine ⟨.slice a' k c', ?_, ?_, hbel.out⟩
      · rw [HE2.out]; rfl
      · rw [HE1.out, hpl.out]; exact hrow.out
end Go.Proofs.Ytmceanfgcehfeaa.Rt

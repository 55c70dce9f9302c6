/- The document's disk: Create, Remove, Rename, Append, Sync. -/
import Derived.Test.YtgffojafdjcdoaaQc
namespace Go.Proofs.Ytgffojafdjcdoaa.Qd
open Go.ChangeShapes Go.WideShapes Go.ChangeAt Go.RowKit Go.Maps
open Go.Sort (grow)
open Go.Proofs.Ytgffojafdjcdoaa.By
open Go.Proofs.Ytgffojafdjcdoaa.Dk
open Go.Proofs.Ytgffojafdjcdoaa.Df (isN isQ isN_size)
open Go.Proofs.Ytgffojafdjcdoaa.Ap (wpList_append_run)
open Go.Proofs.Ytgffojafdjcdoaa.Pd
open Go.Proofs.Ytgffojafdjcdoaa.Qa
open Go.Proofs.Ytgffojafdjcdoaa.Qb
open Go.Proofs.Ytgffojafdjcdoaa.Qc
set_option linter.unusedVariables false
set_option linter.unusedSimpArgs false

/-- The document's disk behind a call. -/
def Tk (w w' : World) (base g : Nat) (P : Nat → Prop) (R' : RS) : Prop := ∃ v' P', RDk w' base g v' P' R' ∧ Fr P w w' ∧ (∀ j, P' j → P j ∨ w.heap.size ≤ j)
theorem tk_same {w w' : World} {base g : Nat} {v : Value} {P : Nat → Prop} {R : RS} (H : RDk w base g v P R) (b : Below w.heap.size w w') : Tk w w' base g P R := ⟨v, P, H.later b, (Fr.refl P w).below b, fun j h => .inl h⟩
theorem tk_laid {w w1 w2 W : World} {base g : Nat} {v v' : Value} {P : Nat → Prop} {R : RS} {rs' : List RF} (b1 : Below w.heap.size w w1) (F : Fr P w1 w2) (H : RDk w2 base g v P R) (hb : base ≤ w.heap.size) (O : OwnF W w2.heap.size v' rs') (B : Below w2.heap.size w2 W) :
    Tk w (W.setCell ⟨g, 0, none⟩ v') base g P { R with rs := rs' } := by
  have hs : w.heap.size ≤ w2.heap.size := Nat.le_trans b1.size F.size
  obtain ⟨h1, h2⟩ := RDk.laid H (Nat.le_trans hb hs) O B
  refine ⟨v', _, h1, De.Fr.behind b1 (Dh.Fr.join F h2), ?_⟩
  intro j hj
  rcases hj with h | h
  · exact .inl h
  · exact .inr (by omega)
theorem fr_before {P : Nat → Prop} {w w1 w2 : World} (b : Below w.heap.size w w1) (F : Fr P w1 w2) : Fr P w w2 := De.Fr.behind b F
set_option maxHeartbeats 4000000 in
set_option maxRecDepth 100000 in
theorem create_bad {base g : Nat} {v : Value} {P : Nat → Prop} {R : RS} (s : ByteArray) (hs : s.size ≤ 9223372036854775807) (w : World) (H : RDk w base g v P R) (hok : RS.ok R) (hb : base ≤ w.heap.size) (hi : isN s = false) : Calls Try.prog 35 #[.pointer (some ⟨g, 0, none⟩), .string s] w fun e w' => e = .returned (.int .i64 2) ∧ Tk w w' base g P R := by
  have HN := rname_any s hs w
  rw [hi] at HN
  replace HN := hid HN
  have HT := hid (tk_same H (Below.refl _ _))
  clear H hok
  go_enter Try.func35, Try.ntmps35
  go_wp2_with fail
  refine HN.out.mono ?_
  rintro e w1 ⟨rfl, rfl⟩
  go_wp2_with fail
  go_ret
  exact ⟨rfl, HT.out⟩
set_option maxHeartbeats 4000000 in
set_option maxRecDepth 100000 in
theorem create_there {base g : Nat} {v : Value} {P : Nat → Prop} {R : RS} (s : ByteArray) (hs : s.size ≤ 9223372036854775807) (w : World) (H : RDk w base g v P R) (hok : RS.ok R) (hb : base ≤ w.heap.size) (hi : isN s = true) (r : RF) (hl : lkp R.rs s = some r) : Calls Try.prog 35 #[.pointer (some ⟨g, 0, none⟩), .string s] w fun e w' => e = .returned (.int .i64 50) ∧ Tk w w' base g P R := by
  have HN := rname_any s hs w
  rw [hi] at HN
  replace HN := hid HN
  have HF := hid (rfind_yes s r hl w H hok)
  have HT : Hid (∀ w', Below w.heap.size w w' → Tk w w' base g P R) := fun w' b => tk_same H b
  clear H hok hl
  go_enter Try.func35, Try.ntmps35
  go_wp2_with fail
  refine HN.out.mono ?_
  rintro e w1 ⟨rfl, rfl⟩
  go_wp2_with fail
  refine HF.out.mono ?_
  rintro e w2 ⟨rfl, b2⟩
  replace b2 := hid b2
  go_wp2_with fail
  go_ret
  exact ⟨rfl, HT.out _ b2.out⟩
set_option maxHeartbeats 4000000 in
set_option maxRecDepth 100000 in
theorem create_full {base g : Nat} {v : Value} {P : Nat → Prop} {R : RS} (s : ByteArray) (hs : s.size ≤ 9223372036854775807) (w : World) (H : RDk w base g v P R) (hok : RS.ok R) (hb : base ≤ w.heap.size) (hrf : R.rf < 4611686018427387904) (hi : isN s = true) (hl : lkp R.rs s = none) (ht : (rtr R (decide (4096 ≤ R.rs.length))).2 = true) : Calls Try.prog 35 #[.pointer (some ⟨g, 0, none⟩), .string s] w fun e w' => e = .returned (.int .i64 52) ∧ Tk w w' base g P (rtr R (decide (4096 ≤ R.rs.length))).1 := by
  have HN := rname_any s hs w
  rw [hi] at HN
  replace HN := hid HN
  have HF := hid (rfind_no s hl w H hok)
  have hsrt := hid hok.srt
  have hlen := hok.len
  obtain ⟨a, c, rfl, hnc, _, _⟩ := H.own.shape
  have HT : Hid (∀ w1, Below w.heap.size w w1 → Calls Try.prog 58 #[.pointer (some ⟨g, 0, none⟩), .bool (decide (4096 ≤ R.rs.length))] w1 fun e w' => e = .returned (.bool true) ∧ RDk w' base g (.slice a R.rs.length c) P (rtr R (decide (4096 ≤ R.rs.length))).1 ∧ Fr P w1 w') := fun w1 b => by
    have := try_any (decide (4096 ≤ R.rs.length)) w1 (H.later b) hok hrf
    rw [ht] at this
    exact this
  have H0 : Hid (∀ w1, Below w.heap.size w w1 → w1.cell? ⟨g, 0, none⟩ = some (.slice a R.rs.length c)) := fun w1 b => (H.later b).cell 0 _ rfl
  have hrs := hid (rtr_rs R (decide (4096 ≤ R.rs.length)))
  have hle := lo_le s R.rs
  have hut : Hid (R.rs.take (lo s R.rs).length ++ [(⟨s, ⟨#[]⟩, 0⟩ : RF)] ++ R.rs.drop (lo s R.rs).length = up s ⟨s, ⟨#[]⟩, 0⟩ R.rs) := by
    show _ = _
    rw [take_lo hsrt.out, drop_none hsrt.out s hl]; simp [up]
  obtain ⟨R2, hR2⟩ : ∃ x, x = (rtr R (decide (4096 ≤ R.rs.length))).1 := ⟨_, rfl⟩
  rw [← hR2] at HT hrs ⊢
  replace hR2 := hid hR2
  obtain ⟨N, hN⟩ : ∃ N, N = R.rs.length := ⟨_, rfl⟩
  obtain ⟨L, hL⟩ : ∃ L, L = (lo s R.rs).length := ⟨_, rfl⟩
  rw [← hN] at HT H0 hlen hle
  rw [← hL] at HF hle hut
  obtain ⟨fl, hfl⟩ : ∃ fl, fl = decide (4096 ≤ N) := ⟨_, rfl⟩
  rw [← hfl] at HT
  have hge : (decide ((4096 : Int) ≤ (N : Int))) = fl := by rw [hfl]; exact decide_eq_decide.2 (by omega)
  replace hfl := hid hfl
  replace hN := hid hN
  replace hL := hid hL
  clear H hok hl ht
  go_enter Try.func35, Try.ntmps35
  go_wp2_with fail
  refine HN.out.mono ?_
  rintro e w1 ⟨rfl, rfl⟩
  go_wp2_with fail
  refine HF.out.mono ?_
  rintro e w2 ⟨rfl, b2⟩
  have c0 := H0.out w2 b2
  replace b2 := hid b2
  go_wp2_with fail
  refine (HT.out w2 b2.out).mono ?_
  rintro e w3 ⟨rfl, D3, F3⟩
  replace D3 := hid D3
  replace F3 := hid F3
  clear c0 hge
  go_wp2_with fail
  go_ret
  exact ⟨rfl, _, P, D3.out, fr_before b2.out F3.out, fun j h => .inl h⟩
set_option maxHeartbeats 4000000 in
set_option maxRecDepth 100000 in
theorem create_ok {base g : Nat} {v : Value} {P : Nat → Prop} {R : RS} (s : ByteArray) (hs : s.size ≤ 9223372036854775807) (w : World) (H : RDk w base g v P R) (hok : RS.ok R) (hb : base ≤ w.heap.size) (hrf : R.rf < 4611686018427387904) (hi : isN s = true) (hl : lkp R.rs s = none) (ht : (rtr R (decide (4096 ≤ R.rs.length))).2 = false) : Calls Try.prog 35 #[.pointer (some ⟨g, 0, none⟩), .string s] w fun e w' => e = .returned (.int .i64 0) ∧ Tk w w' base g P { (rtr R (decide (4096 ≤ R.rs.length))).1 with rs := up s ⟨s, ⟨#[]⟩, 0⟩ R.rs } := by
  have HN := rname_any s hs w
  rw [hi] at HN
  replace HN := hid HN
  have HF := hid (rfind_no s hl w H hok)
  have hsrt := hid hok.srt
  have hlen := hok.len
  obtain ⟨a, c, rfl, hnc, _, _⟩ := H.own.shape
  have HT : Hid (∀ w1, Below w.heap.size w w1 → Calls Try.prog 58 #[.pointer (some ⟨g, 0, none⟩), .bool (decide (4096 ≤ R.rs.length))] w1 fun e w' => e = .returned (.bool false) ∧ RDk w' base g (.slice a R.rs.length c) P (rtr R (decide (4096 ≤ R.rs.length))).1 ∧ Fr P w1 w') := fun w1 b => by
    have := try_any (decide (4096 ≤ R.rs.length)) w1 (H.later b) hok hrf
    rw [ht] at this
    exact this
  have H0 : Hid (∀ w1, Below w.heap.size w w1 → w1.cell? ⟨g, 0, none⟩ = some (.slice a R.rs.length c)) := fun w1 b => (H.later b).cell 0 _ rfl
  have hrs := hid (rtr_rs R (decide (4096 ≤ R.rs.length)))
  have hle := lo_le s R.rs
  have hut : Hid (R.rs.take (lo s R.rs).length ++ [(⟨s, ⟨#[]⟩, 0⟩ : RF)] ++ R.rs.drop (lo s R.rs).length = up s ⟨s, ⟨#[]⟩, 0⟩ R.rs) := by
    show _ = _
    rw [take_lo hsrt.out, drop_none hsrt.out s hl]; simp [up]
  obtain ⟨R2, hR2⟩ : ∃ x, x = (rtr R (decide (4096 ≤ R.rs.length))).1 := ⟨_, rfl⟩
  rw [← hR2] at HT hrs ⊢
  replace hR2 := hid hR2
  obtain ⟨N, hN⟩ : ∃ N, N = R.rs.length := ⟨_, rfl⟩
  obtain ⟨L, hL⟩ : ∃ L, L = (lo s R.rs).length := ⟨_, rfl⟩
  rw [← hN] at HT H0 hlen hle
  rw [← hL] at HF hle hut
  obtain ⟨fl, hfl⟩ : ∃ fl, fl = decide (4096 ≤ N) := ⟨_, rfl⟩
  rw [← hfl] at HT
  have hge : (decide ((4096 : Int) ≤ (N : Int))) = fl := by rw [hfl]; exact decide_eq_decide.2 (by omega)
  replace hfl := hid hfl
  replace hN := hid hN
  replace hL := hid hL
  clear H hok hl ht
  go_enter Try.func35, Try.ntmps35
  go_wp2_with fail
  refine HN.out.mono ?_
  rintro e w1 ⟨rfl, rfl⟩
  go_wp2_with fail
  refine HF.out.mono ?_
  rintro e w2 ⟨rfl, b2⟩
  have c0 := H0.out w2 b2
  replace b2 := hid b2
  go_wp2_with fail
  refine (HT.out w2 b2.out).mono ?_
  rintro e w3 ⟨rfl, D3, F3⟩
  replace D3 := hid D3
  replace F3 := hid F3
  clear c0 hge
  have O3 : OwnF w3 base (.slice a N c) R.rs := by
    have := D3.out.own
    rwa [hrs.out] at this
  rw [hN.out] at O3
  obtain ⟨u1, u2, v9, W9, v10, W10, v11, W11, s1, s2, r9, r10, r11, o11, B9, B10, B11⟩ := three w3 L ⟨s, ⟨#[]⟩, 0⟩ O3 (by rw [← hN.out]; exact hle) (by rw [← hN.out]; exact hlen)
  rw [hut.out] at o11
  obtain ⟨a11, c11, hv11, _⟩ := o11.shape
  generalize (up s ⟨s, ⟨#[]⟩, 0⟩ R.rs).length = n11 at hv11
  subst hv11
  have TL := tk_laid (W := W11) b2.out F3.out D3.out hb o11 B11
  rw [← hN.out] at s1 s2
  have k8 : Hid ((w3.alloc (.cells #[] 88)).cell? ⟨g, 0, none⟩ = some (.slice a N c)) := (D3.out.later (box_below _ _)).cell 0 _ rfl
  have k10 : Hid (W10.cell? ⟨g, 0, none⟩ = some (.slice a N c)) := (D3.out.later B10).cell 0 _ rfl
  have k11 : Hid (W11.cell? ⟨g, 0, none⟩ = some (.slice a N c)) := (D3.out.later B11).cell 0 _ rfl
  have f11 : Hid (W11.frozen? ⟨g, 0, none⟩ = false) := fz_of (D3.out.later B11).cells 0
  replace TL := hid TL
  replace r9 := hid r9
  replace r10 := hid r10
  replace r11 := hid r11
  clear B9 B10 B11 O3 o11
  have x8 := k8.out
  have x10 := k10.out
  have x11 := k11.out
  have y11 := f11.out
  go_wp2_with (at_builtin; first
    | refine wpList_append_run (by rfl) (.tmp 28) (.tmp 34) 67 67 rfl (.slice (some ⟨w3.heap.size, 0, none⟩) 0 0) u1 v9 (by rfl) (by rfl) r9.out ?_
    | refine wpList_append_run (by rfl) (.tmp 36) (.tmp 39) 67 67 rfl v9 (.slice (some ⟨W9.heap.size, 0, none⟩) 1 1) v10 (by rfl) (by rfl) r10.out ?_
    | refine wpList_append_run (by rfl) (.tmp 42) (.tmp 48) 67 67 rfl v10 u2 (.slice a11 n11 c11) (by rfl) (by rfl) r11.out ?_)
  go_ret
  exact ⟨rfl, TL.out⟩
theorem create_any {base g : Nat} {v : Value} {P : Nat → Prop} {R : RS} (s : ByteArray) (hs : s.size ≤ 9223372036854775807) (w : World) (H : RDk w base g v P R) (hok : RS.ok R) (hb : base ≤ w.heap.size) (hrf : R.rf < 4611686018427387904) : Calls Try.prog 35 #[.pointer (some ⟨g, 0, none⟩), .string s] w fun e w' => e = .returned (.int .i64 (rcrt R s).2) ∧ Tk w w' base g P (rcrt R s).1 := by
  unfold rcrt
  by_cases hi : isN s = false
  · rw [if_pos hi]; exact create_bad s hs w H hok hb hi
  · rw [if_neg hi]
    replace hi : isN s = true := by simpa using hi
    cases hl : lkp R.rs s with
    | some r => exact create_there s hs w H hok hb hi r hl
    | none =>
      cases ht : (rtr R (decide (4096 ≤ R.rs.length))).2 with
      | true => exact create_full s hs w H hok hb hrf hi hl ht
      | false => exact create_ok s hs w H hok hb hrf hi hl ht
end Go.Proofs.Ytgffojafdjcdoaa.Qd

/- Levels in memory of their own: the law's copied. -/
import Derived.Test.YtkpihibeohjfnaaFq
import Derived.Test.YtkpihibeohjfnaaAq
namespace Go.Proofs.Ytkpihibeohjfnaa.Cp
open Go.ChangeShapes Go.WideShapes Go.ChangeAt Go.RowKit
open Go.Proofs.Ytkpihibeohjfnaa.Gr
open Go.Proofs.Ytkpihibeohjfnaa.Ev
open Go.Proofs.Ytkpihibeohjfnaa.Oe
open Go.Proofs.Ytkpihibeohjfnaa.Lv
open Go.Proofs.Ytkpihibeohjfnaa.Vp
open Go.Proofs.Ytkpihibeohjfnaa.Vr
open Go.Proofs.Ytkpihibeohjfnaa.Vt
open Go.Proofs.Ytkpihibeohjfnaa.Vu
open Go.Proofs.Ytkpihibeohjfnaa.Aq (own_ty)
set_option linter.unusedVariables false
set_option linter.unusedSimpArgs false

/-- A row of levels, each a row, all of the call's own. -/
structure Lo (w W : World) (v : Value) (xs : List Lf) : Prop where
  o : (eLv w).Own W w.heap.size v xs
  r : ∀ x ∈ xs, x.n = x.fs.length ∧ eFi.Own W w.heap.size (.slice x.a x.n x.c) x.fs ∧ (∀ f ∈ x.fs, f.ok)
  lo : Below w.heap.size w W
theorem Lo.later {w W W' : World} {v : Value} {xs : List Lf} (h : Lo w W v xs) (b : Below W.heap.size W W') : Lo w W' v xs :=
  ⟨El.Own.later h.o b, fun x hx => ⟨(h.r x hx).1, (h.r x hx).2.1.later b, (h.r x hx).2.2⟩, Below.up h.lo b⟩
theorem own_eq {W : World} {base : Nat} {v : Value} {xs : List Lf} (w w' : World) (h : (eLv w).Own W base v xs) : (eLv w').Own W base v xs := by
  have e : ∀ xs : List Lf, (eLv w).cl xs = (eLv w').cl xs := by
    intro xs
    induction xs with
    | nil => rfl
    | cons x r ih => show _ ++ _ = _ ++ _; rw [ih]; rfl
  unfold El.Own at *
  rw [← e]
  exact h
theorem Lo.lvs {w W : World} {v : Value} {xs : List Lf} (h : Lo w W v xs) : ∃ a c, v = .slice a xs.length c ∧ Lvs W a xs.length c (xs.map Lf.fs) := by
  obtain ⟨a, c, hv, hs, _⟩ := (own_eq w W h.o).sl (fun x hx => by
    obtain ⟨h1, h2, h3⟩ := h.r x hx
    obtain ⟨a', c', e, s, _⟩ := h2.sl h3
    injection e with e1 _ e3
    show eFi.Sl W x.a x.n x.c x.fs
    rw [e1, e3, h1]
    exact s)
  exact ⟨a, c, hv, xs, hs, rfl⟩
/-- A level more. -/
theorem Lo.app {w W : World} {v : Value} {xs : List Lf} (h : Lo w W v xs) (la : Option Addr) (ln lc : Nat) (fs : List Fi) (hF : eFi.Sl W la ln lc fs) (hl8 : ln ≤ 1048576) (hx8 : xs.length ≤ 1048576) :
    ∃ ra rc W1 v' W2, (Builtin.append_ #[39, 39] 39 #[.slice (some ⟨W.heap.size, 0, none⟩) 0 0, .slice la ln lc]).run Try.prog (W.alloc (.cells #[] 43)) = .ok (.slice ra ln rc) W1 ∧
      (Builtin.append_ #[23, 23] 23 #[v, .slice (some ⟨W1.heap.size, 0, none⟩) 1 1]).run Try.prog (W1.alloc (.cells #[.slice ra ln rc] 39)) = .ok v' W2 ∧ Lo w W2 v' (xs ++ [⟨ra, ln, rc, fs⟩]) := by
  have b1 := box_below W (.cells #[] 43)
  have A0 := Acc.made eFi W
  obtain ⟨v1, W1, r1, A1⟩ := A0.app (hF.later b1) (by show (0 + ln) * 64 ≤ _; omega) (by show 0 + ln ≤ _; omega)
  rw [List.nil_append] at A1
  obtain ⟨ra, rc, hv1⟩ := A1.shape
  rw [hF.n] at hv1
  subst hv1
  have h1 := h.later A1.lo
  have hrow : eFi.Own W1 w.heap.size (.slice ra ln rc) fs := own_base A1.o (fun j hj => Nat.le_trans h.lo.size (own_lt A1.o j hj).1)
  obtain ⟨v2, W2, r2, o2, g2, _⟩ := El.app1 (eLv w) W1 w.heap.size v xs ⟨ra, ln, rc, fs⟩ #[.slice ra ln rc] rfl h1.o (by show (_ + 1) * 24 ≤ _; omega) (by omega) h1.lo.size
  have keep : ∀ {v : Value} {ys : List Fi}, eFi.Own W1 w.heap.size v ys → eFi.Own W2 w.heap.size v ys := by
    intro v' ys hy
    refine own_blocks hy (fun j hj => g2.block j (own_lt hy j hj).2 (fun e => ?_))
    obtain ⟨c1, e1⟩ := own_ty hy j hj
    obtain ⟨c2, e2⟩ := own_ty h1.o j e.symm
    rw [e1] at e2
    injection e2 with e3
    injection e3 with _ e4
    revert e4
    show ¬ ((43 : Nat) = 39)
    decide
  refine ⟨ra, rc, W1, v2, W2, r1, r2, o2, fun x hx => ?_, below_grown h1.lo h1.lo.size g2 (fun j hj => (own_lt h1.o j hj).1)⟩
  rcases List.mem_append.1 hx with hx | hx
  · exact ⟨(h1.r x hx).1, keep (h1.r x hx).2.1, (h1.r x hx).2.2⟩
  · rw [List.mem_singleton] at hx
    subst hx
    exact ⟨hF.n.symm, keep hrow, hF.ok⟩
set_option maxHeartbeats 1000000 in
theorem copied_any (a : Option Addr) (len cap : Nat) (L : List (List Fi)) (w : World) (H : Lvs w a len cap L) (hw : wL L ≤ 1048576) :
    Calls Try.prog 10 #[.slice a len cap] w fun e w' => ∃ b c, e = .returned (.slice b len c) ∧ Lvs w' b len c L ∧ Below w.heap.size w w' := by
  have hll := wL_len L
  have hlen := H.len_eq
  have hcap := H.cap_le
  have hn8 : len ≤ 1048576 := by omega
  have HL : Hid (∀ W', Below w.heap.size w W' → Lvs W' a len cap L) := fun W' b => H.later b
  have M0 : Hid (Lo w (w.alloc (.cells #[] 39)) (.slice (some ⟨w.heap.size, 0, none⟩) 0 0) []) := ⟨El.Own.made (eLv w) w, fun x hx => by simp at hx, box_below _ _⟩
  replace hlen := hid hlen
  replace hw := hid hw
  clear H hll
  go_enter Try.func10, Try.ntmps10
  go_wp2_with fail
  go_loopw [3, 4] (fun v ii wr => ∃ (i : Nat) (va : Option Addr) (vc : Nat) (xs : List Lf), ii = .int .i64 i ∧ i ≤ len ∧ v = .slice va i vc ∧ Hid (xs.map Lf.fs = L.take i) ∧ Hid (Lo w wr (.slice va i vc) xs)) (fun _ ii _ => len - (intOf ii).toNat)
  case atStart => exact ⟨0, _, _, [], rfl, by omega, rfl, rfl, M0⟩
  case round =>
    clear M0
    obtain ⟨i, va, vc, xs, rfl, hi, rfl, hxs, hM⟩ := hrel
    have hxl : xs.length = i := by
      have := congrArg List.length hxs.out
      rw [List.length_map, List.length_take, Nat.min_eq_left (by rw [hlen.out]; exact hi)] at this
      exact this
    by_cases hlt : i < len
    · obtain ⟨lb, lof, la, ln, lc, rfl, cl0, FS, hln⟩ := (HL.out w (Below.refl _ _)).at i hlt
      have cl := cell_later cl0 hM.out.lo
      have hsum := wL_at (L := L) (i := i) (by rw [hlen.out]; exact hlt)
      have hln8 : ln ≤ 1048576 := by have := hw.out; omega
      have hxs2 : Hid (∀ ra rc, (xs ++ [(⟨ra, ln, rc, L.getD i []⟩ : Lf)]).map Lf.fs = L.take (i + 1)) := by
        intro ra rc
        rw [take_succ (by rw [hlen.out]; exact hlt), List.map_append, hxs.out]
        rfl
      obtain ⟨ra, rc, W1, v', W2, r1, r2, M2⟩ := hM.out.app la ln lc _ (FS.later hM.out.lo) hln8 (by omega)
      obtain ⟨va', vc', hv', _⟩ := M2.lvs
      rw [List.length_append, hxl] at hv'
      have hv'' : v' = .slice va' (i + 1) vc' := hv'
      subst hv''
      have clA : (wr.alloc (.cells #[] 43)).cell? ⟨lb, lof + i, none⟩ = some (.slice la ln lc) := cell_later cl (box_below _ _)
      have ik0 : (i : Int) < (len : Int) := by omega
      have ok0 : (0 : Int) ≤ (i : Int) := by omega
      replace r1 := hid r1
      replace r2 := hid r2
      replace M2 := hid M2
      clear FS hsum hln hM hv' cl0 hxl
      go_wp2_with (first | (at_builtin; have hr := r1.out; clear r1; refine wpList_append_run rfl (.tmp 13) (.tmp 17) 39 39 rfl (.slice (some ⟨wr.heap.size, 0, none⟩) 0 0) (.slice la ln lc) (.slice ra ln rc) rfl rfl hr ?_; clear hr) | (at_builtin; refine wpList_append_run rfl (.tmp 12) (.tmp 19) 23 23 rfl (.slice va i vc) (.slice (some ⟨W1.heap.size, 0, none⟩) 1 1) (.slice va' (i + 1) vc') rfl rfl r2.out ?_))
      go_roundw
      case rel => exact ⟨i + 1, va', vc', _, by go_num, by omega, rfl, hid (hxs2.out ra rc), M2⟩
      case measure => simp [intOf]; omega
    · have hie : i = len := by omega
      subst hie
      obtain ⟨va', vc', hv', hL'⟩ := hM.out.lvs
      rw [hxl] at hv' hL'
      rw [hxs.out, show L.take i = L by rw [← hlen.out, List.take_length]] at hL'
      injection hv' with e1 _ e2
      subst e1 e2
      have hlo := hid hM.out.lo
      replace hL' := hid hL'
      clear hM hxl
      go_wp2_with fail
      go_ret
      exact ⟨_, _, rfl, hL'.out, hlo.out⟩
end Go.Proofs.Ytkpihibeohjfnaa.Cp

/- Apply by its contract. -/
import Derived.Test.YtkpihibeohjfnaaSq
namespace Go.Proofs.Ytkpihibeohjfnaa.Ay
open Go.ChangeShapes Go.WideShapes Go.ChangeAt Go.RowKit
open Go.Proofs.Ytkpihibeohjfnaa.Gr
open Go.Proofs.Ytkpihibeohjfnaa.Ev
open Go.Proofs.Ytkpihibeohjfnaa.Oe (wsum)
open Go.Proofs.Ytkpihibeohjfnaa.Lv
open Go.Proofs.Ytkpihibeohjfnaa.Vp
open Go.Proofs.Ytkpihibeohjfnaa.Vq
open Go.Proofs.Ytkpihibeohjfnaa.Vr
open Go.Proofs.Ytkpihibeohjfnaa.Vt
open Go.Proofs.Ytkpihibeohjfnaa.Vu (cell_later)
open Go.Proofs.Ytkpihibeohjfnaa.Ou
open Go.Proofs.Ytkpihibeohjfnaa.To (kp tk takeout_any tk_w)
open Go.Proofs.Ytkpihibeohjfnaa.Pi (cm putin_any PutP)
open Go.Proofs.Ytkpihibeohjfnaa.Sq
set_option linter.unusedVariables false
set_option linter.unusedSimpArgs false

theorem Ou.base {w0 w W : World} {g : Nat} {xs : List Lf} (h : Ou w W g xs) (b : Below w0.heap.size w0 w) : Ou w0 W g xs :=
  ⟨h.blk, Nat.le_trans b.size h.hg, fun k hk => ⟨(h.r k hk).1, own_base (h.r k hk).2.1 (fun j hj => Nat.le_trans b.size (own_lt (h.r k hk).2.1 j hj).1), (h.r k hk).2.2⟩, h.dis, Below.up b h.lo⟩
/-- What Apply answers. -/
inductive ApP (w : World) (L : List (List Fi)) (ps : List Pl) (co : List Ad) (len : Nat) : Ending → World → Prop
  | arg (w' : World) (h1 : vld L = false) (b : Below w.heap.size w w') : ApP w L ps co len (.returned (.tuple #[.slice none 0 0, .int .i64 2])) w'
  | ver (w' : World) (h1 : vld L = true) (h2 : good L ps co = false) (b : Below w.heap.size w w') : ApP w L ps co len (.returned (.tuple #[.slice none 0 0, .int .i64 160])) w'
  | ok (w' : World) (g : Nat) (xs : List Lf) (h1 : vld L = true) (h2 : good L ps co = true) (o : Ou w w' g xs) (e : xs.map Lf.fs = ap L ps co) : ApP w L ps co len (.returned (.tuple #[.slice (some ⟨g, 0, none⟩) len len, .int .i64 0])) w'
set_option maxHeartbeats 1000000 in
theorem apply_any (a : Option Addr) (len cap : Nat) (L : List (List Fi)) (v : Value) (e : Ed) (w : World) (H : Lvs w a len cap L) (HE : EV w v e) (hw : wL L ≤ 1048576) (hg8 : e.go.length ≤ 1048576) (hc8 : e.co.length ≤ 1048576) (hap : wL (ap L e.go e.co) ≤ 1048576) :
    Calls Try.prog 13 #[.slice a len cap, v] w fun en w' => ApP w L e.go e.co len en w' := by
  obtain ⟨lg, nx, sq, ps, co⟩ := e
  obtain ⟨hok, pa, pc, ca, cc, rfl, HP, HC⟩ := HE
  unfold ev
  dsimp only at *
  have hlen := H.len_eq
  have hcap := H.cap_le
  have hll := wL_len L
  have hn8 : len ≤ 1048576 := by omega
  obtain ⟨pn, hpn⟩ : ∃ n, n = ps.length := ⟨_, rfl⟩
  obtain ⟨cn, hcn⟩ : ∃ n, n = co.length := ⟨_, rfl⟩
  rw [← hpn] at HP hg8 ⊢
  rw [← hcn] at HC hc8 ⊢
  obtain ⟨gx, hgx⟩ : ∃ g, g = w.heap.size := ⟨_, rfl⟩
  obtain ⟨W1, hW1⟩ : ∃ W, W = w.alloc (.cells #[.int .i64 lg, .int .i64 nx, .int .u64 sq, .slice pa pn pc, .slice ca cn cc] 28) := ⟨_, rfl⟩
  have kx : W1.heap[gx]? = some (.cells #[.int .i64 lg, .int .i64 nx, .int .u64 sq, .slice pa pn pc, .slice ca cn cc] 28) := by rw [hW1, hgx]; exact new_at _ _
  have bx : Below w.heap.size w W1 := by rw [hW1]; exact box_below _ _
  have c1 := hid (valid_any a len cap L W1 (H.later bx) hw)
  have hce : Hid (∀ W, Below W1.heap.size W1 W → W.cell? ⟨gx, 3, none⟩ = some (.slice pa pn pc) ∧ W.cell? ⟨gx, 4, none⟩ = some (.slice ca cn cc)) := fun W b => ⟨cell_later (cell_of kx 3 _ rfl) b, cell_later (cell_of kx 4 _ rfl) b⟩
  have hfit : ((((nums L).length : Int) - ((nums (tk ps L)).length : Int)) == (pn : Int)) = fit L ps := by rw [hpn]; rfl
  have c2 : Hid (∀ W, Below w.heap.size w W → Calls Try.prog 42 #[.slice a len cap, .slice pa pn pc] W fun e w' => ∃ g xs, e = .returned (.tuple #[.slice (some ⟨g, 0, none⟩) len len, .bool (fit L ps)]) ∧ Ou W w' g xs ∧ xs.map Lf.fs = tk ps L) := by
    intro W b
    have := takeout_any a len cap L pa pn pc ps W (H.later b) hw (HP.later b) hg8
    rwa [hfit] at this
  have c3 : Hid (∀ W2 W g xs, Below w.heap.size w W2 → Ou W2 W g xs → xs.map Lf.fs = tk ps L → Calls Try.prog 43 #[.slice (some ⟨g, 0, none⟩) len len, .slice ca cn cc] W fun e w' => e = .returned (.bool (inn len co)) ∧ Below W2.heap.size W2 w' ∧ (inn len co = true → ∃ xs', Ou W2 w' g xs' ∧ Res L ps co (xs'.map Lf.fs))) := by
    intro W2 W g xs b o ho
    refine (putin_any len g xs (tk ps L) ca cn cc co W2 W o ho (by rw [tk_len, hlen]) (Nat.le_trans (tk_w _ _) hw) (HC.later b) hc8).mono ?_
    rintro e w' hp
    have hl : (((tk ps L).length : Int) - 1) = (len : Int) - 1 := by rw [tk_len, hlen]
    cases hp with
    | yes w' xs' h1 h2 h3 h4 =>
      have hi : inn len co = true := by
        unfold inn
        rw [List.all_eq_true]
        intro x hx
        have := h1 x hx
        rwa [hl] at this
      rw [hi]
      refine ⟨rfl, h2.lo, fun _ => ⟨xs', h2, by rw [List.length_map, h3, tk_len], fun k hk => ?_⟩⟩
      have hk' : k < xs'.length := by rw [h3, tk_len]; exact hk
      have e1 : (xs'.map Lf.fs).getD k [] = (xs'.getD k zl).fs := by
        rw [List.getD_eq_getElem?_getD, List.getD_eq_getElem?_getD, List.getElem?_map, List.getElem?_eq_getElem hk']; rfl
      have h5 := h4 k (by rw [tk_len]; exact hk)
      rw [tk_at hk] at h5
      rw [e1]
      exact h5
    | no w' x h1 h2 h3 =>
      have hi : inn len co = false := by
        cases h : inn len co with
        | false => rfl
        | true =>
          unfold inn at h
          have := List.all_eq_true.1 h x h1
          rw [hl] at h2
          rw [h2] at this
          cases this
      rw [hi]
      exact ⟨rfl, h3, fun h => by cases h⟩
  have c4 : Hid (∀ W2 W g xs, Ou W2 W g xs → Res L ps co (xs.map Lf.fs) → Calls Try.prog 11 #[.slice (some ⟨g, 0, none⟩) len len] W fun e w' => e = .returned (.bool (vld (ap L ps co))) ∧ Below W.heap.size W w') := by
    intro W2 W g xs o hr
    have hxl : xs.length = len := by have := hr.1; rw [List.length_map] at this; rw [this, hlen]
    have := valid_any (some ⟨g, 0, none⟩) len len (xs.map Lf.fs) W (by have := o.lvs; rwa [hxl] at this) (by rw [res_w hr]; exact hap)
    rwa [res_vld hr] at this
  have hgood : Hid (good L ps co = (fit L ps && (inn len co && vld (ap L ps co)))) := by show _ = _; unfold good; rw [hlen]
  replace hap := hid hap
  replace hw := hid hw
  replace hlen := hid hlen
  replace hpn := hid hpn
  replace hcn := hid hcn
  replace bx := hid bx
  replace hW1 := hid hW1
  replace hgx := hid hgx
  clear kx hll H HP HC hfit hok
  cases hv : vld L with
  | false =>
    rw [hv] at c1
    replace hv := hid hv
    go_enter Try.func13, Try.ntmps13
    go_wp2_with (first | (go_at_call 11; rw [← hW1.out]; refine c1.out.mono ?_; rintro e w2 ⟨rfl, b2⟩; replace b2 := hid b2))
    refine bodyPost_ret (v := .tuple #[.slice none 0 0, .int .i64 2]) (by simp [results, Try.results13, go_sem]) rfl ?_
    exact ApP.arg _ hv.out (Below.up bx.out b2.out)
  | true =>
    rw [hv] at c1
    replace hv := hid hv
    cases hF : fit L ps with
    | false =>
      rw [hF] at c2 hgood
      go_enter Try.func13, Try.ntmps13
      go_wp2_with (first | (go_at_call 11; rw [← hW1.out, ← hgx.out]; refine c1.out.mono ?_; rintro e w2 ⟨rfl, b2⟩; replace b2 := hid b2; obtain ⟨f3, f4⟩ := hce.out _ b2.out) | (go_at_call 42; refine (c2.out _ (Below.up bx.out b2.out)).mono ?_; rintro e w3 ⟨g, xs, rfl, o3, e3⟩; replace o3 := hid o3; replace e3 := hid e3))
      refine bodyPost_ret (v := .tuple #[.slice none 0 0, .int .i64 160]) (by simp [results, Try.results13, go_sem]) rfl ?_
      exact ApP.ver _ hv.out (by rw [hgood.out]; rfl) (Below.up (Below.up bx.out b2.out) o3.out.lo)
    | true =>
      rw [hF] at c2 hgood
      cases hI : inn len co with
      | false =>
        rw [hI] at c3 hgood
        go_enter Try.func13, Try.ntmps13
        go_wp2_with (first | (go_at_call 11; rw [← hW1.out, ← hgx.out]; refine c1.out.mono ?_; rintro e w2 ⟨rfl, b2⟩; replace b2 := hid b2; obtain ⟨f3, f4⟩ := hce.out _ b2.out) | (go_at_call 42; refine (c2.out _ (Below.up bx.out b2.out)).mono ?_; rintro e w3 ⟨g, xs, rfl, o3, e3⟩; clear f3; replace f4 := cell_later f4 o3.lo; replace o3 := hid o3; replace e3 := hid e3) | (go_at_call 43; refine (c3.out _ _ _ _ (Below.up bx.out b2.out) o3.out e3.out).mono ?_; rintro e w4 ⟨rfl, b4, h4⟩; clear h4; replace b4 := hid b4))
        refine bodyPost_ret (v := .tuple #[.slice none 0 0, .int .i64 160]) (by simp [results, Try.results13, go_sem]) rfl ?_
        exact ApP.ver _ hv.out (by rw [hgood.out]; rfl) (Below.up (Below.up bx.out b2.out) b4.out)
      | true =>
        rw [hI] at c3 hgood
        cases hB : vld (ap L ps co) with
        | false =>
          rw [hB] at c4 hgood
          replace hB := hid hB
          go_enter Try.func13, Try.ntmps13
          go_wp2_with (first | (go_at_call 11; rw [← hW1.out, ← hgx.out]; refine c1.out.mono ?_; rintro e w2 ⟨rfl, b2⟩; replace b2 := hid b2; obtain ⟨f3, f4⟩ := hce.out _ b2.out; clear c1) | (go_at_call 42; refine (c2.out _ (Below.up bx.out b2.out)).mono ?_; rintro e w3 ⟨g, xs, rfl, o3, e3⟩; clear f3; replace f4 := cell_later f4 o3.lo; replace o3 := hid o3; replace e3 := hid e3) | (go_at_call 43; refine (c3.out _ _ _ _ (Below.up bx.out b2.out) o3.out e3.out).mono ?_; rintro e w4 ⟨rfl, b4, h4⟩; obtain ⟨xs4, o4, e4⟩ := h4 (by simp); clear h4; replace b4 := hid b4; replace o4 := hid o4; replace e4 := hid e4) | (go_at_call 11; refine (c4.out _ _ _ _ o4.out e4.out).mono ?_; rintro e w5 ⟨rfl, b5⟩; replace b5 := hid b5))
          refine bodyPost_ret (v := .tuple #[.slice none 0 0, .int .i64 160]) (by simp [results, Try.results13, go_sem]) rfl ?_
          exact ApP.ver _ hv.out (by rw [hgood.out]; rfl) (Below.up (Below.up (Below.up bx.out b2.out) b4.out) b5.out)
        | true =>
          rw [hB] at c4 hgood
          replace hB := hid hB
          go_enter Try.func13, Try.ntmps13
          go_wp2_with (first | (go_at_call 11; rw [← hW1.out, ← hgx.out]; refine c1.out.mono ?_; rintro e w2 ⟨rfl, b2⟩; replace b2 := hid b2; obtain ⟨f3, f4⟩ := hce.out _ b2.out; clear c1) | (go_at_call 42; refine (c2.out _ (Below.up bx.out b2.out)).mono ?_; rintro e w3 ⟨g, xs, rfl, o3, e3⟩; clear f3; replace f4 := cell_later f4 o3.lo; replace o3 := hid o3; replace e3 := hid e3) | (go_at_call 43; refine (c3.out _ _ _ _ (Below.up bx.out b2.out) o3.out e3.out).mono ?_; rintro e w4 ⟨rfl, b4, h4⟩; obtain ⟨xs4, o4, e4⟩ := h4 (by simp); clear h4; replace b4 := hid b4; replace o4 := hid o4; replace e4 := hid e4) | (go_at_call 11; refine (c4.out _ _ _ _ o4.out e4.out).mono ?_; rintro e w5 ⟨rfl, b5⟩; replace b5 := hid b5))
          refine bodyPost_ret (v := .tuple #[.slice (some ⟨g, 0, none⟩) len len, .int .i64 0]) (by simp [results, Try.results13, go_sem]) rfl ?_
          refine ApP.ok _ g xs4 hv.out (by rw [hgood.out]; rfl) ((Ou.base o4.out (Below.up bx.out b2.out)).later b5.out) ?_
          exact res_ap e4.out (by rw [res_vld e4.out]; exact hB.out)
end Go.Proofs.Ytkpihibeohjfnaa.Ay

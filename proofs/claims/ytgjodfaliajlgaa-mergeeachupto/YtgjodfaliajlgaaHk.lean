/- A heap's drop, by contract. -/
import Derived.Test.YtgjodfaliajlgaaHf
import Derived.Deep.Cut
namespace Go.Proofs.Ytgjodfaliajlgaa.Hk
open Go.ChangeShapes Go.WideShapes Go.ChangeAt Go.RowKit
open Go.Sort (grow)
open Go.Proofs.Ytgjodfaliajlgaa.Gr hiding hid addr_add
open Go.Proofs.Ytgjodfaliajlgaa.Ik
open Go.Proofs.Ytgjodfaliajlgaa.Ee
open Go.Proofs.Ytgjodfaliajlgaa.Hp
open Go.Proofs.Ytgjodfaliajlgaa.Hm
open Go.Proofs.Ytgjodfaliajlgaa.Hs
set_option linter.unusedVariables false
set_option linter.unusedSimpArgs false

theorem row_take {w : World} {g cap : Nat} {H : List Hd} (h : HRow w g cap H) (k : Nat) : HRow w g cap (H.take k) := by
  obtain ⟨cur, h1, h2, h3, h4⟩ := h
  refine ⟨cur, h1, h2, by rw [List.length_take]; omega, fun i hi j hj => ?_⟩
  rw [List.length_take] at hi
  have e : (H.take k).getD i zh = H.getD i zh := by
    rw [List.getD_eq_getElem?_getD, List.getElem?_take, if_pos (by omega), ← List.getD_eq_getElem?_getD]
  rw [e]; exact h4 i (by omega) j hj
theorem take_set (H : List Hd) (k : Nat) (x : Hd) : (H.set k x).take k = H.take k := by
  apply List.ext_getElem?
  intro i
  rw [List.getElem?_take, List.getElem?_take]
  by_cases h : i < k
  · rw [if_pos h, if_pos h, List.getElem?_set_ne (by omega)]
  · rw [if_neg h, if_neg h]
set_option maxHeartbeats 4000000 in
set_option maxRecDepth 20000 in
theorem drop_any (gm gl n m cap : Nat) (sv : Value) (b : Bool) (H : List Hd) (w : World) (h : HM w gm gl sv n cap b H) (hx : HP b 0 H) (hn : n = m + 1) (hn8 : n ≤ 1048576) :
    Calls Try.prog 77 #[.pointer (some ⟨gm, 1, none⟩)] w fun e w' => e = .returned (.tuple #[]) ∧ ∃ H', HM w' gm gl sv m cap b H' ∧ HP b 0 H' ∧ H'.Perm (drp H) ∧ Fp (fun j => j = gm ∨ j = gl) w w' := by
  have hln := h.n
  have hle := h.r.le
  have hm1 : H.length - 1 = m := by omega
  obtain ⟨x, hxx⟩ : ∃ x, x = H.getD m zh := ⟨_, rfl⟩
  have hdr : drp H = (H.set 0 x).take m := by unfold drp; rw [hm1, hxx]
  have hxr : Hid (HX b 0 0 (drp H)) := by show HX _ _ _ _; rw [hdr]; exact (hx.root x).take m
  obtain ⟨W1, hW1⟩ : ∃ W, W = (st5 w gl (0 * 5) x).drew := ⟨_, rfl⟩
  have r1 : HRow W1 gl cap (H.set 0 x) := by rw [hW1]; exact (h.r.set 0 x (by omega)).later (drew_below _)
  have F1 : Fp (· = gl) w W1 := by rw [hW1]; exact (st5_fp (0 * 5) x (Fp.refl (· = gl) w)).below (drew_below _)
  obtain ⟨W2, hW2⟩ : ∃ W, W = st5 W1 gl (m * 5) zh := ⟨_, rfl⟩
  have r2 : HRow W2 gl cap ((H.set 0 x).set m zh) := by rw [hW2]; exact r1.set m zh (by rw [List.length_set]; omega)
  have F2 : Fp (· = gl) w W2 := by rw [hW2]; exact st5_fp (m * 5) zh F1
  have m1 := (F1.block gm (blk_lt h.m) h.ne.symm).trans h.m
  have m2 := (F2.block gm (blk_lt h.m) h.ne.symm).trans h.m
  obtain ⟨W3, hW3⟩ : ∃ W, W = W2.setCell ⟨gm, 1, none⟩ (.slice (some ⟨gl, 0, none⟩) m cap) := ⟨_, rfl⟩
  have F3 : Hid (Fp (fun j => j = gm ∨ j = gl) w W3) := by
    show Fp _ _ _
    rw [hW3]; exact (F2.wide (fun j _ h => .inr h)).set (g := gm) (.inl (.inl rfl)) 1 _
  have M3 : Hid (HM W3 gm gl sv m cap b (drp H)) := by
    have f3 : Fp (· = gm) W2 W3 := by rw [hW3]; exact (Fp.refl (· = gm) W2).set (g := gm) (.inl rfl) 1 _
    refine ⟨by rw [hW3]; exact set_of m2 1 _, ?_, by rw [drp_len]; exact hm1, h.ne⟩
    rw [hdr, ← take_set (H.set 0 x) m zh]
    exact (row_take r2 m).block (f3.block gl r2.lt h.ne)
  have HS := hid (sink_any gm gl m cap 0 0 sv b (drp H) W3 M3.out hxr.out (by omega) (by omega))
  have s0 := h.s1
  have s1 : W1.cell? ⟨gm, 1, none⟩ = some (.slice (some ⟨gl, 0, none⟩) n cap) := cell_of m1 1 _ rfl
  have s2 : W2.cell? ⟨gm, 1, none⟩ = some (.slice (some ⟨gl, 0, none⟩) n cap) := cell_of m2 1 _ rfl
  have f2 := fz_of m2 1
  obtain ⟨x0, x1, x2, x3, x4⟩ := h.r.cell m (by omega)
  obtain ⟨y0, y1, y2, y3, y4⟩ := h.r.cell 0 (by omega)
  have y5 := h.r.fz 0
  have y6 := h.r.fz 1
  have y7 := h.r.fz 2
  have y8 := h.r.fz 3
  have y9 := h.r.fz 4
  have z := r1.cell m (by rw [List.length_set]; omega)
  obtain ⟨y, hy⟩ : ∃ y, y = (H.set 0 x).getD m zh := ⟨_, rfl⟩
  rw [← hy] at z
  obtain ⟨z0, z1, z2, z3, z4⟩ := z
  clear hy
  have z5 := r1.fz (m * 5)
  have z6 := r1.fz (m * 5 + 1)
  have z7 := r1.fz (m * 5 + 2)
  have z8 := r1.fz (m * 5 + 3)
  have z9 := r1.fz (m * 5 + 4)
  rw [← hxx] at x0 x1 x2 x3 x4
  rw [Nat.zero_mul] at y0 y1 y2 y3 y4 hW1
  rw [Nat.zero_add] at y1 y2 y3 y4
  have hw : IntKind.i64.wrap ((n : Int) - 1) = (m : Int) := by rw [IntKind.wrap_i64]; omega
  have i1 : (m : Int) < (n : Int) := by omega
  have i2 : (0 : Int) ≤ (m : Int) := by omega
  have i3 : (0 : Int) < (n : Int) := by omega
  have i4 : (m : Int) ≤ (cap : Int) := by omega
  have i5 : m ≤ cap := by omega
  obtain ⟨xf, ⟨xk, xs, xc, xv⟩⟩ := x
  unfold st5 at hW1 hW2
  dsimp only at x0 x1 x2 x3 x4 hW1
  simp only [zh, ze, Nat.zero_add] at hW1 hW2
  replace hW1 := hid hW1
  replace hW2 := hid hW2
  replace hW3 := hid hW3
  replace hxx := hid hxx
  replace hn := hid hn
  replace hdr := hid hdr
  clear h hx r1 r2 F1 F2 m1 m2 hln hle hm1 M3 hxr
  replace z0 := hid z0
  replace z1 := hid z1
  replace z2 := hid z2
  replace z3 := hid z3
  replace z4 := hid z4
  replace z5 := hid z5
  replace z6 := hid z6
  replace z7 := hid z7
  replace z8 := hid z8
  replace z9 := hid z9
  replace s1 := hid s1
  replace s2 := hid s2
  replace f2 := hid f2
  go_enter Try.func77, Try.ntmps77
  go_wp2_with fail
  go_region
  rw [← hW1.out]
  clear x0 x1 x2 x3 x4 y0 y1 y2 y3 y4 y5 y6 y7 y8 y9 s0 hw hW1 hxx hn
  replace z0 := z0.out
  replace z1 := z1.out
  replace z2 := z2.out
  replace z3 := z3.out
  replace z4 := z4.out
  replace z5 := z5.out
  replace z6 := z6.out
  replace z7 := z7.out
  replace z8 := z8.out
  replace z9 := z9.out
  replace s1 := s1.out
  replace s2 := s2.out
  replace f2 := f2.out
  have hW4 : Hid (W2 = ((((W1.setCell ⟨gl, m * 5, none⟩ (.int .i64 0)).setCell ⟨gl, m * 5 + 1, none⟩ (.string ⟨#[]⟩)).setCell ⟨gl, m * 5 + 2, none⟩ (.int .u64 0)).setCell ⟨gl, m * 5 + 3, none⟩ (.int .i64 0)).setCell ⟨gl, m * 5 + 4, none⟩ (.string ⟨#[]⟩)) := hW2
  clear hW2
  go_upto_region 3 with fail
  rw [← hW4.out]
  clear hW4 z0 z1 z2 z3 z4 z5 z6 z7 z8 z9 s1
  go_wp2_with fail
  rw [← hW3.out]
  refine HS.out.mono ?_
  rintro e w2 ⟨rfl, H3, M3, P3, Q3, F4⟩
  have hfin : Hid (HM w2 gm gl sv m cap b H3 ∧ HP b 0 H3 ∧ H3.Perm (drp H) ∧ Fp (fun j => j = gm ∨ j = gl) w w2) := ⟨M3, P3, Q3, F3.out.tr (F4.wide (fun j _ h => .inl (.inr h)))⟩
  clear M3 P3 Q3 F4 HS
  go_wp2_with fail
  exact bodyPost_end (results_none rfl _ _ _) rfl ⟨rfl, H3, hfin.out⟩
end Go.Proofs.Ytgjodfaliajlgaa.Hk

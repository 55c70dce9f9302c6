/- does at a disk that is none: Crash, Append; all kinds. -/
import Derived.Test.YtgffojafdjcdoaaDn
import Derived.Deep.Cut
namespace Go.Proofs.Ytgffojafdjcdoaa.Dn
open Go.ChangeShapes Go.WideShapes Go.ChangeAt Go.RowKit
open Go.Sort
open Go.Proofs.Ytgffojafdjcdoaa.By
open Go.Proofs.Ytgffojafdjcdoaa.Ln
open Go.Proofs.Ytgffojafdjcdoaa.Nb
open Go.Proofs.Ytgffojafdjcdoaa.Ac
set_option linter.unusedVariables false

set_option maxRecDepth 10000 in
set_option maxHeartbeats 2000000 in
theorem does_non7 (p : Option Addr) (x : A) (w : World) (H : Non w p) (hx : x.ok w) (hk : x.kind = 7) :
    Calls Try.prog 11 #[.pointer p, .agg #[.int .i64 x.kind, .string x.name, .string x.to, .slice x.ba x.bl x.bc, .int .i64 x.at_, .int .i64 x.n, .slice x.ka x.kl x.kc]] w fun e w' => e = .returned (.int .i64 1) ∧ Below w.heap.size w w' := by
  obtain ⟨W0, hW0⟩ : ∃ W0, W0 = w.alloc (.cells x.cells 35) := ⟨_, rfl⟩
  obtain ⟨gx, hgx⟩ : ∃ gx, gx = w.heap.size := ⟨_, rfl⟩
  have bb : Below w.heap.size w W0 := by rw [hW0]; exact box_below _ _
  have BX : Bx W0 gx x := by rw [hW0, hgx]; exact Bx.new _ _
  have c0 : W0.cell? ⟨gx, 0, none⟩ = some (.int .i64 7) := by rw [BX.cell 0, ← hk]; rfl
  have c6 : W0.cell? ⟨gx, 6, none⟩ = some (.slice x.ka x.kl x.kc) := BX.cell 6
  have HN := hid (H.later bb)
  have HX := hid (hx.later bb)
  have BB := hid bb
  have HGX := hid hgx
  have HW := hid hW0
  have HBX := hid BX
  clear H hx bb hgx BX
  rw [hk]
  obtain ⟨i0, hi, hz0, hz1, hz2⟩ := info_parts info3
  have own0 : (W0.alloc (.cells #[] 3)).ownsRow W0.heap.size 3 1 (.slice (some ⟨W0.heap.size, 0, none⟩) 0 0) 0 [] := World.ownsRow_made W0 #[] 0 (Nat.le_refl _) (by unfold maxLen; omega) rfl
  have b0 : Below W0.heap.size W0 (W0.alloc (.cells #[] 3)) := box_below _ _
  have d6 := cell_later b0 c6
  have hw0 := BB.out.size
  have HI := hid (ints_later HX.out.ints b0)
  have hkl := hid HX.out.kl
  have BA : Hid (Below w.heap.size w (W0.alloc (.cells #[] 3))) := BB.out.trans (b0.mono BB.out.size)
  have HNA := hid (HN.out.later b0)
  have HWW : Hid (w.alloc (.cells #[.int .i64 7, .string x.name, .string x.to, .slice x.ba x.bl x.bc, .int .i64 x.at_, .int .i64 x.n, .slice x.ka x.kl x.kc] 35) = W0) := by show _ = _; rw [hW0, A.cells, hk]
  clear HX HBX b0 HW hW0
  generalize hka : x.ka = ka at *
  generalize hkl2 : x.kl = kl at *
  generalize hkc : x.kc = kc at *
  go_enter Try.func11, Try.ntmps11
  go_upto_region 1 with (fail)
  rw [HWW.out, ← HGX.out]
  clear HGX HWW
  cases ka with
  | none =>
    obtain ⟨rfl, rfl⟩ := HI.out.2.2.1 rfl
    go_wp2_with (at_builtin; refine wpList_append_own_none rfl _ _ 33 rfl _ 3 i0 1 Try.underlying33 hi _ _ _ rfl own0 rfl ?_)
    refine (crash_non p _ _ HNA.out).mono ?_
    rintro e w' ⟨rfl, rfl⟩
    go_wp2_with fail
    go_ret
    exact ⟨rfl, BA.out⟩
  | some ad =>
    have BL : ∀ j u, (x.ks.map (Value.int .i64))[j]? = some u → (W0.alloc (.cells #[] 3)).cell? (ad.add j) = some u := by
      intro j u hu
      rw [List.getElem?_map] at hu
      cases hj : x.ks[j]? with
      | none => rw [hj] at hu; simp at hu
      | some y =>
        rw [hj] at hu
        simp at hu
        have hlt : j < x.ks.length := (List.getElem?_eq_some_iff.1 hj).1
        have := HI.out.2.2.2.2 ad rfl j (by rw [← HI.out.1]; exact hlt)
        rw [List.getD_eq_getElem?_getD, hj] at this
        rw [← hu]
        exact this
    have hlen : (x.ks.map (Value.int .i64)).length = kl * 1 := by simp; exact HI.out.1
    have hkl' := hkl.out
    go_wp2_with (at_builtin; refine wpList_append_own _ rfl _ _ 33 rfl _ 3 i0 (.int .i64 0) 1 8 Try.underlying33 hi hz0 hz1 hz2 rfl (by decide) _ _ _ rfl own0 ad kl kc (x.ks.map (Value.int .i64)) rfl hlen BL (one_int _) ?c3 ?c4 ?c5 ?_)
    case c3 => unfold maxLen; omega
    case c4 => omega
    case c5 => simp
    intro v1 w1 own1 g1 hnil1
    have B1 := hid (BA.out.grown g1 BA.out.size (by intro k hk; simp [Value.ownBlock] at hk; omega))
    have HN1 := hid (HN.out.later ((box_below W0 (.cells #[] 3)).grown g1 (box_below W0 (.cells #[] 3)).size (by intro k hk; simp [Value.ownBlock] at hk; omega)))
    clear own1 g1 hnil1 own0 BL
    go_wp2_with fail
    refine (crash_non p v1 w1 HN1.out).mono ?_
    rintro e w' ⟨rfl, rfl⟩
    go_wp2_with fail
    go_ret
    exact ⟨rfl, B1.out⟩
set_option maxRecDepth 10000 in
set_option maxHeartbeats 2000000 in
theorem does_non1 (p : Option Addr) (x : A) (w : World) (H : Non w p) (hx : x.ok w) (hk : x.kind = 1) :
    Calls Try.prog 11 #[.pointer p, .agg #[.int .i64 x.kind, .string x.name, .string x.to, .slice x.ba x.bl x.bc, .int .i64 x.at_, .int .i64 x.n, .slice x.ka x.kl x.kc]] w fun e w' => e = .returned (.int .i64 1) ∧ Below w.heap.size w w' := by
  obtain ⟨W0, hW0⟩ : ∃ W0, W0 = w.alloc (.cells x.cells 35) := ⟨_, rfl⟩
  obtain ⟨gx, hgx⟩ : ∃ gx, gx = w.heap.size := ⟨_, rfl⟩
  have bb : Below w.heap.size w W0 := by rw [hW0]; exact box_below _ _
  have BX : Bx W0 gx x := by rw [hW0, hgx]; exact Bx.new _ _
  have c0 : W0.cell? ⟨gx, 0, none⟩ = some (.int .i64 1) := by rw [BX.cell 0, ← hk]; rfl
  have c1 : W0.cell? ⟨gx, 1, none⟩ = some (.string x.name) := BX.cell 1
  have c3 : W0.cell? ⟨gx, 3, none⟩ = some (.slice x.ba x.bl x.bc) := BX.cell 3
  have HN := hid (H.later bb)
  have HX := hid (hx.later bb)
  have BB := hid bb
  have HGX := hid hgx
  have HW := hid hW0
  have HBX := hid BX
  clear H hx bb hgx BX
  rw [hk]
  have hw0 := BB.out.size
  have hbl := hid HX.out.bl
  have HL := hid (lent_any x.ba x.bl x.bc x.zs W0 HX.out.bytes (by have := hbl.out; omega))
  have HWW : Hid (w.alloc (.cells #[.int .i64 1, .string x.name, .string x.to, .slice x.ba x.bl x.bc, .int .i64 x.at_, .int .i64 x.n, .slice x.ka x.kl x.kc] 35) = W0) := by show _ = _; rw [hW0, A.cells, hk]
  clear HX HBX HW hW0
  go_enter Try.func11, Try.ntmps11
  go_upto_region 1 with (fail)
  rw [HWW.out, ← HGX.out]
  clear HGX HWW
  go_wp2_with fail
  refine HL.out.mono ?_
  rintro e w1 ⟨g, c, rfl, R1, b1⟩
  have d1 := cell_later b1 c1
  have hg := R1.lt.1
  have P1 := hid ((Pad.of R1).less (Nat.le_add_right x.bl 1))
  have HN1 := hid (HN.out.later b1)
  have B1 : Hid (Below w.heap.size w w1) := BB.out.trans (b1.mono BB.out.size)
  have hg : Hid (w.heap.size ≤ g) := Nat.le_trans hw0 hg
  have hbc : Hid (x.bl ≤ c) := by
    rcases R1.2 with ⟨e, _⟩ | ⟨g', cap', cur, e, _, _, hn, _⟩
    · simp at e
    · simp at e; show _ ≤ _; omega
  clear R1 b1 HL BB HN c0 c1 c3
  go_wp2_with fail
  refine (append_non p x.name _ w1 HN1.out).mono ?_
  rintro e w2 ⟨rfl, b2⟩
  have P2 := hid (P1.out.later b2)
  have B2 : Hid (Below w.heap.size w w2) := B1.out.trans (b2.mono B1.out.size)
  clear b2 B1 P1 HN1 d1
  have hbl := hbl.out
  have hbc := hbc.out
  go_wp2_with fail
  go_loopw [7] (fun i wr => ∃ kk : Nat, i = .int .i64 kk ∧ kk ≤ x.bl ∧ Hid (Below w.heap.size w wr) ∧ Hid (Pad wr g x.bl)) (fun i _ => x.bl - (intOf i).toNat)
  case atStart => exact ⟨0, rfl, by omega, B2, P2⟩
  case round =>
    obtain ⟨kk, rfl, hk, hbel, hpd⟩ := hrel
    by_cases hlt : kk < x.bl
    · obtain ⟨⟨y, hy⟩, hfz⟩ := hpd.out kk hlt
      have ik0 : (kk : Int) < (x.bl : Int) := by omega
      have HPadS : Hid (∀ y', Pad (wr.setCell ⟨g, kk, none⟩ (.int .u8 y')) g x.bl) := fun y' => hpd.out.set kk y' hlt
      have HBelS : Hid (∀ y', Below w.heap.size w (wr.setCell ⟨g, kk, none⟩ y')) := fun y' => hbel.out.setCell hg.out _
      clear hpd hbel
      go_wp2_with fail
      go_roundw
      case rel => exact ⟨kk + 1, by go_num, by omega, HBelS.out _, HPadS.out _⟩
      case measure => simp [intOf]; omega
    · have nlt : ¬ (kk : Int) < (x.bl : Int) := by omega
      go_wp2_with fail
      go_ret
      exact ⟨rfl, hbel.out⟩
theorem does_non (p : Option Addr) (x : A) (w : World) (H : Non w p) (hx : x.ok w) (h0 : 0 ≤ x.kind) (h1 : x.kind < 8) :
    Calls Try.prog 11 #[.pointer p, x.val] w fun e w' => e = .returned (.int .i64 1) ∧ Below w.heap.size w w' := by
  have : x.kind = 0 ∨ x.kind = 1 ∨ x.kind = 2 ∨ x.kind = 3 ∨ x.kind = 4 ∨ x.kind = 5 ∨ x.kind = 6 ∨ x.kind = 7 := by omega
  rcases this with h | h | h | h | h | h | h | h
  · exact does_non0 p x w H hx h
  · exact does_non1 p x w H hx h
  · exact does_non2 p x w H hx h
  · exact does_non3 p x w H hx h
  · exact does_non4 p x w H hx h
  · exact does_non5 p x w H hx h
  · exact does_non6 p x w H hx h
  · exact does_non7 p x w H hx h
end Go.Proofs.Ytgffojafdjcdoaa.Dn

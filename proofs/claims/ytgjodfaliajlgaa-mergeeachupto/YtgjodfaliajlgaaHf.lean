/- A heap's fill, by contract, whatever the heads. -/
import Derived.Test.YtgjodfaliajlgaaHs
import Derived.Test.YtgjodfaliajlgaaGd9
namespace Go.Proofs.Ytgjodfaliajlgaa.Hf
open Go.ChangeShapes Go.WideShapes Go.ChangeAt Go.RowKit
open Go.Sort (grow)
open Go.Proofs.Ytgjodfaliajlgaa.Gr hiding hid addr_add
open Go.Proofs.Ytgjodfaliajlgaa.Ik
open Go.Proofs.Ytgjodfaliajlgaa.Ee
open Go.Proofs.Ytgjodfaliajlgaa.Hp
open Go.Proofs.Ytgjodfaliajlgaa.Hm
open Go.Proofs.Ytgjodfaliajlgaa.Hs
open Go.Proofs.Ytgjodfaliajlgaa.Gd9 (Fills)
set_option linter.unusedVariables false
set_option linter.unusedSimpArgs false

set_option maxHeartbeats 1000000 in
set_option maxRecDepth 20000 in
theorem fill_any (gm gl n c : Nat) (bk b0 : Bool) (sv hv0 : Value) (H : List Hd) (w : World) (hr : HRow w gl c H) (hn : H.length = n) (h8 : n ≤ 1048576) (hm : w.heap[gm]? = some (.cells #[sv, hv0, .bool b0] 61)) (hne : gl ≠ gm) :
    Calls Try.prog 68 #[.pointer (some ⟨gm, 1, none⟩), .slice (some ⟨gl, 0, none⟩) n c, .bool bk] w fun e w' => e = .returned (.tuple #[]) ∧ ∃ H', HM w' gm gl sv n c bk H' ∧ HP bk 0 H' ∧ H'.Perm H ∧ Fp (fun j => j = gm ∨ j = gl) w w' := by
  obtain ⟨W1, hW1⟩ : ∃ W, W = (w.setCell ⟨gm, 1, none⟩ (.slice (some ⟨gl, 0, none⟩) n c)).setCell ⟨gm, 2, none⟩ (.bool bk) := ⟨_, rfl⟩
  have F1 : Fp (fun j => j = gm ∨ j = gl) w W1 := by
    rw [hW1]
    exact ((Fp.refl (fun j => j = gm ∨ j = gl) w).set (g := gm) (.inl (.inl rfl)) 1 _).set (g := gm) (.inl (.inl rfl)) 2 _
  have F2 : Fp (fun j => j = gm) w W1 := by
    rw [hW1]
    exact ((Fp.refl (fun j => j = gm) w).set (g := gm) (.inl rfl) 1 _).set (g := gm) (.inl rfl) 2 _
  have k1 := set_of (set_of hm 1 (.slice (some ⟨gl, 0, none⟩) n c)) 2 (.bool bk)
  rw [← hW1] at k1
  have M1 : Hid (HM W1 gm gl sv n c bk H) := ⟨k1, hr.block (F2.block gl hr.lt hne), hn, hne⟩
  have c1 := cell_of hm 1 hv0 rfl
  have c2 := cell_of hm 2 (.bool b0) rfl
  have f1 := fz_of hm 1
  have f2 := fz_of hm 2
  have hW := hid hW1
  have hnl := hid hn
  replace F1 := hid F1
  clear hr hm k1 F2 hW1 hn
  obtain ⟨m, hm⟩ : ∃ m, m = n / 2 := ⟨_, rfl⟩
  have hq : (n : Int).tdiv 2 = (m : Int) := by rw [hm]; rw [Int.tdiv_eq_ediv_of_nonneg (by omega)]; omega
  have hwq : IntKind.i64.wrap (m : Int) = (m : Int) := by rw [IntKind.wrap_i64]; omega
  have hw1 : IntKind.i64.wrap ((m : Int) - 1) = (m : Int) - 1 := by rw [IntKind.wrap_i64]; omega
  have hm0 := hid hm
  have P1 : Hid (HP bk m H) := HP.start bk H m (by rw [hnl.out, hm]; omega)
  clear hm
  go_enter Try.func68, Try.ntmps68
  go_wp2_with fail
  rw [← hW.out]
  go_loopw [6] (fun iv wr => ∃ (j : Nat) (Hc : List Hd), iv = .int .i64 ((j : Int) - 1) ∧ j ≤ m ∧ Hid (HM wr gm gl sv n c bk Hc) ∧ Hid (HP bk j Hc) ∧ Hid (Hc.Perm H) ∧ Hid (Fp (fun j => j = gm ∨ j = gl) w wr)) (fun iv _ => (intOf iv + 1).toNat)
  case atStart => exact ⟨m, H, rfl, Nat.le_refl _, M1, P1, List.Perm.refl _, F1⟩
  case round =>
    obtain ⟨j, Hc, rfl, hj, HA, HB, HC, HD⟩ := hrel
    cases j with
    | zero =>
      go_wp2_with fail
      exact bodyPost_end (results_none rfl _ _ _) rfl ⟨rfl, Hc, HA.out, HB.out, HC.out, HD.out⟩
    | succ i =>
      have e : ((i + 1 : Nat) : Int) - 1 = (i : Int) := by omega
      rw [e]
      have i0 : (0 : Int) ≤ (i : Int) := by omega
      have hS := hid (sink_any gm gl n c i i sv bk Hc wr HA.out HB.out.hole (.inl (by have := hm0.out; omega)) h8)
      have hi8 : i ≤ 1048576 := by have := hm0.out; omega
      have hw2 : IntKind.i64.wrap ((i : Int) - 1) = (i : Int) - 1 := by rw [IntKind.wrap_i64]; omega
      go_wp2_with fail
      refine hS.out.mono ?_
      rintro e w2 ⟨rfl, H2, M2, P2, Q2, F3⟩
      replace M2 := hid M2
      replace P2 := hid P2
      have Q3 : Hid (H2.Perm H) := Q2.trans HC.out
      have F4 : Hid (Fp (fun j => j = gm ∨ j = gl) w w2) := HD.out.tr (F3.wide (fun j _ h => .inl (.inr h)))
      clear Q2 F3 hS HA HB HC HD
      go_wp2_with fail
      go_roundw
      case rel => exact ⟨i, H2, by first | rfl | go_num, by omega, M2, P2, Q3, F4⟩
      case measure => simp only [intOf]; omega
theorem fills_any (gm gs N cs : Nat) (bk b0 : Bool) (hv0 : Value) (H : List Hd) (h : H.length ≤ 1048576) : Fills gm gs N cs bk b0 hv0 H :=
  fun W gl c hr hm hne => fill_any gm gl H.length c bk b0 _ hv0 H W hr rfl h hm hne
end Go.Proofs.Ytgjodfaliajlgaa.Hf

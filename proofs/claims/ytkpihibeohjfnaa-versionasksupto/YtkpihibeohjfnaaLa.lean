/- VersionAsks. -/
import Derived.Test.YtkpihibeohjfnaaDf
import Derived.Test.YtkpihibeohjfnaaWi
import Derived.Test.YtkpihibeohjfnaaLs
namespace Go.Proofs.Ytkpihibeohjfnaa.La
open Go.ChangeShapes Go.WideShapes Go.ChangeAt Go.RowKit
open Go.Proofs.Ytkpihibeohjfnaa.Gr
open Go.Proofs.Ytkpihibeohjfnaa.Ev
open Go.Proofs.Ytkpihibeohjfnaa.Oe
open Go.Proofs.Ytkpihibeohjfnaa.Lv
open Go.Proofs.Ytkpihibeohjfnaa.Vp
open Go.Proofs.Ytkpihibeohjfnaa.Vq
open Go.Proofs.Ytkpihibeohjfnaa.Vr
open Go.Proofs.Ytkpihibeohjfnaa.Vt
open Go.Proofs.Ytkpihibeohjfnaa.Vu (cell_later)
open Go.Proofs.Ytkpihibeohjfnaa.Vx
open Go.Proofs.Ytkpihibeohjfnaa.Aq
open Go.Proofs.Ytkpihibeohjfnaa.On
open Go.Proofs.Ytkpihibeohjfnaa.Cp
open Go.Proofs.Ytkpihibeohjfnaa.Sm
open Go.Proofs.Ytkpihibeohjfnaa.Ls
open Go.Proofs.Ytkpihibeohjfnaa.De
open Go.Proofs.Ytkpihibeohjfnaa.Df
open Go.Proofs.Ytkpihibeohjfnaa.Wi
set_option linter.unusedVariables false
set_option linter.unusedSimpArgs false

theorem over_ok {w : World} {a : Option Addr} {len cap : Nat} {L : List (List Fi)} (H : Lvs w a len cap L) (i : Int) (s t : ByteArray) : (∀ f ∈ over L i s t, f.ok) ∧ (wL L ≤ 1048576 → (over L i s t).length ≤ 1048576) := by
  rw [← over_eq]
  constructor
  · intro f hf
    have hf' := (List.mem_filter.1 hf).1
    unfold lvl at hf'
    split at hf'
    · rename_i h
      obtain ⟨lb, lof, la, ln, lc, rfl, cl0, FS, hln⟩ := H.at i.toNat (by have := H.len_eq; omega)
      exact FS.ok f hf'
    · cases hf'
  · intro hw
    exact Nat.le_trans (List.length_filter_le _ _) (Nat.le_trans (lvl_w L i) hw)
theorem asks_len (L : List (List Fi)) (key : ByteArray) (hw : wL L ≤ 1048576) : (asks L key).length ≤ 1048576 := by
  unfold asks
  split
  · have := askTo_len L key L.length (Nat.le_refl _)
    rw [List.take_length] at this
    exact Nat.le_trans this (Nat.le_trans (nums_len L) hw)
  · exact Nat.zero_le _
theorem Acc.pl {w W : World} {a : Option Addr} {n c : Nat} {xs : List Pl} (h : Acc ePl w W (.slice a n c) xs) : n = xs.length ∧ xs.length ≤ c ∧ ∀ i, i < xs.length → ∃ g, a = some ⟨g, 0, none⟩ ∧ W.cell? ⟨g, i * 2, none⟩ = some (.int .i64 (xs.getD i zp).l) ∧ W.cell? ⟨g, i * 2 + 1, none⟩ = some (.int .i64 (xs.getD i zp).n) := by
  obtain ⟨h1, h2⟩ := Do.Acc.cap h
  refine ⟨h1, h2, fun i hi => ?_⟩
  obtain ⟨g, c', e⟩ := h.nn (by intro e; rw [e] at hi; cases hi)
  cases e
  exact ⟨g, rfl, pl_at (h.o.at i hi)⟩
set_option maxRecDepth 100000 in
set_option maxHeartbeats 4000000 in
theorem lasks_any (a : Option Addr) (len cap : Nat) (L : List (List Fi)) (level : Int) (least limit key : ByteArray) (w : World) (HA : Lvs w a len cap L) (hw : wL L ≤ 1048576) :
    Calls Try.prog 5 #[.slice a len cap, .agg #[.int .i64 level, .string least, .string limit, .string key]] w fun e w' => e = .returned (.bool true) ∧ Below w.heap.size w w' := by
  obtain ⟨hok, ho8⟩ := over_ok HA level least limit
  have ho8' := ho8 hw
  obtain ⟨X, hX⟩ : ∃ X, X = over L level least limit := ⟨_, rfl⟩
  obtain ⟨Y, hY⟩ : ∃ Y, Y = asks L key := ⟨_, rfl⟩
  have hq8 := asks_len L key hw
  have hcap := HA.cap_le
  obtain ⟨g0, hg0⟩ : ∃ g, g = w.heap.size := ⟨_, rfl⟩
  obtain ⟨W0, hW0⟩ : ∃ W, W = w.alloc (.cells #[.int .i64 level, .string least, .string limit, .string key] 58) := ⟨_, rfl⟩
  have k0 : W0.heap[g0]? = some (.cells #[.int .i64 level, .string least, .string limit, .string key] 58) := by rw [hW0, hg0]; exact new_at _ _
  have b0 : Below w.heap.size w W0 := by rw [hW0]; exact box_below _ _
  have q0 := cell_of k0 0 _ rfl
  have q1 := cell_of k0 1 _ rfl
  have q2 := cell_of k0 2 _ rfl
  have q3 := cell_of k0 3 _ rfl
  have hq : Hid (∀ W, Below W0.heap.size W0 W → W.cell? ⟨g0, 0, none⟩ = some (.int .i64 level) ∧ W.cell? ⟨g0, 1, none⟩ = some (.string least) ∧ W.cell? ⟨g0, 2, none⟩ = some (.string limit) ∧ W.cell? ⟨g0, 3, none⟩ = some (.string key)) := fun W b => ⟨cell_later q0 b, cell_later q1 b, cell_later q2 b, cell_later q3 b⟩
  have HA0 := HA.later b0
  have c1 := hid (copied_any a len cap L W0 HA0 hw)
  have c2 : Hid (∀ W k c, Lvs W k len c L → Calls Try.prog 29 #[.slice k len c, .int .i64 level, .string least, .string limit] W fun e w' => ∃ v, e = .returned v ∧ Acc eFi W w' v X) := fun W k c h => by rw [hX]; exact over_any k len c L level least limit W h hw
  have c3 : Hid (∀ W k c, Lvs W k len c L → Calls Try.prog 30 #[.slice k len c, .string key] W fun e w' => ∃ v, e = .returned v ∧ Acc ePl W w' v Y) := fun W k c h => by rw [hY]; exact asks_any k len c L key W h hw
  have c4 : Hid (∀ W, Below W0.heap.size W0 W → Calls Try.prog 31 #[.slice a len cap, .string key] W fun e w' => ∃ v, e = .returned v ∧ Acc ePl W w' v Y) := fun W b => by rw [hY]; exact rasks_any a len cap L key W (HA0.later b) hw
  have c5 := hid (fun W => one_any W)
  have c6 : Hid (∀ W, Below W0.heap.size W0 W → Calls Try.prog 32 #[.slice a len cap, .int .i64 level, .string least, .string limit] W fun e w' => ∃ v, e = .returned v ∧ Acc eFi W w' v X) := fun W b => by rw [hX]; exact rover_any a len cap L level least limit W (HA0.later b) hw
  rw [← hX] at hok ho8'
  rw [← hY] at hq8
  have c7 : Hid (∀ W ra rc sa sc, eFi.Sl W ra X.length rc X → eFi.Sl W sa X.length sc X → Calls Try.prog 27 #[.slice ra X.length rc, .slice sa X.length sc] W fun e w' => e = .returned (.bool true) ∧ Below W.heap.size W w') := fun W ra rc sa sc h1 h2 => lfiles_same ra sa X.length rc sc X W h1 h2 ho8'
  have c8 : Hid (∀ W k c, Below W0.heap.size W0 W → Lvs W k len c L → Calls Try.prog 15 #[.slice k len c, .slice a len cap] W fun e w' => e = .returned (.bool true) ∧ Below W.heap.size W w') := fun W k c bb h => by
    have := rsame_any k a len c len cap L L W h (HA0.later bb) hw hw
    rwa [decide_eq_true rfl] at this
  replace b0 := hid b0
  replace hok := hid hok
  replace hX := hid hX
  replace hY := hid hY
  replace hW0 := hid hW0
  replace hg0 := hid hg0
  clear HA HA0 hw ho8 k0
  go_enter Try.func5, Try.ntmps5
  go_wp2_with fail
  rw [← hW0.out, ← hg0.out]
  generalize hNY : Y.length = NY at *
  generalize hNX : X.length = NX at *
  replace hNX := hid hNX
  replace hNY := hid hNY
  have hnb : ((NY : Int) != (NY : Int)) = false := bne_self_eq_false _
  go_wp2_with (first
    | (go_at_call 10; refine c1.out.mono ?_; clear q0 q1 q2 q3; rintro e w1 ⟨kb, kc, rfl, K1, b1⟩; obtain ⟨q0, q1, q2, q3⟩ := hq.out _ b1; replace K1 := hid K1; replace b1 := hid b1)
    | (go_at_call 29; refine (c2.out _ _ _ K1.out).mono ?_; clear q0 q1 q2 q3; rintro e w2 ⟨v2, rfl, A2⟩; obtain ⟨xa, xc, rfl⟩ := A2.shape; rw [hNX.out] at A2; rw [hNX.out]; have b2 := Below.up b1.out A2.lo; obtain ⟨q0, q1, q2, q3⟩ := hq.out _ b2; replace A2 := hid A2; replace b2 := hid b2)
    | (go_at_call 30; refine (c3.out _ _ _ (K1.out.later A2.out.lo)).mono ?_; clear q0 q1 q2 q3; rintro e w3 ⟨v3, rfl, A3⟩; obtain ⟨pa, pc, rfl⟩ := A3.shape; rw [hNY.out] at A3; rw [hNY.out]; have b3 := Below.up b2.out A3.lo; obtain ⟨q0, q1, q2, q3⟩ := hq.out _ b3; have t3 := hid A3.lo; replace A3 := hid A3; replace b3 := hid b3)
    | (go_at_call 31; refine (c4.out _ b3.out).mono ?_; clear q0 q1 q2 q3; rintro e w4 ⟨v4, rfl, A4⟩; obtain ⟨qa, qc, rfl⟩ := A4.shape; rw [hNY.out] at A4; rw [hNY.out]; have b4 := Below.up b3.out A4.lo; replace A3 := hid (A3.out.later A4.lo); have t4 := hid (Below.up t3.out A4.lo); replace A4 := hid A4; replace b4 := hid b4)
    | (go_at_call 22; refine (c5.out _).mono ?_; rintro e w5 ⟨rfl, B5⟩; have b5 := Below.up b4.out B5; obtain ⟨q0, q1, q2, q3⟩ := hq.out _ b5; replace A3 := hid (A3.out.later B5); replace A4 := hid (A4.out.later B5); have t5 := hid (Below.up t4.out B5); replace b5 := hid b5; clear B5)
    | (go_at_call 32; refine (c6.out _ b5.out).mono ?_; clear q0 q1 q2 q3; rintro e w6 ⟨v6, rfl, A6⟩; obtain ⟨ya, yc, rfl⟩ := A6.shape; rw [hNX.out] at A6; rw [hNX.out]; have b6 := Below.up b5.out A6.lo; replace A3 := hid (A3.out.later A6.lo); replace A4 := hid (A4.out.later A6.lo); have t6 := hid (Below.up t5.out A6.lo); replace A6 := hid A6; replace b6 := hid b6)
    | (go_at_call 27; refine (c7.out _ _ _ _ _ (Acc.sl (A2.out.later t6.out) hok.out).2 (Acc.sl A6.out hok.out).2).mono ?_; rintro e w7 ⟨rfl, B7⟩; have b7 := Below.up b6.out B7; replace A3 := hid (A3.out.later B7); replace A4 := hid (A4.out.later B7); have t7 := hid (Below.up t6.out B7); replace b7 := hid b7; clear B7))
  have A7 := hid (A2.out.later t7.out)
  have K7 := hid (K1.out.later A7.out.lo)
  clear c1 c2 c3 c4 c5 c6 c7 A6 t3 t4 t5 t6 b2 b3 b4 b5 b6 A2
  obtain ⟨hp1, hpc, hpat⟩ := Acc.pl A3.out
  obtain ⟨hr1, hqc, hqat⟩ := Acc.pl A4.out
  replace hpat := hid hpat
  replace hqat := hid hqat
  rw [hNY.out] at hpc hqc
  clear hp1 hr1 A3 A4
  go_loopw [9] (fun ii wr => ∃ i : Nat, ii = .int .i64 i ∧ i ≤ NY ∧ ∃ q, wr = w7.drewN q) (fun ii _ => NY - (intOf ii).toNat)
  case atStart => exact ⟨0, rfl, by omega, 0, rfl⟩
  case round =>
    obtain ⟨i, rfl, hi, q, rfl⟩ := hrel
    by_cases hil : i < NY
    · obtain ⟨pg, rfl, e1, e2⟩ := hpat.out i (by rw [hNY.out]; exact hil)
      obtain ⟨qg, rfl, f1, f2⟩ := hqat.out i (by rw [hNY.out]; exact hil)
      have hre := run_pneq (Y.getD i zp)
      generalize Y.getD i zp = y at e1 e2 f1 f2 hre
      obtain ⟨yl, yn⟩ := y
      dsimp only at e1 e2 f1 f2 hre
      have ik0 : (i : Int) < (NY : Int) := by omega
      have io0 : (0 : Int) ≤ (i : Int) := by omega
      go_wp2_with fail
      go_quiet (fail)
      go_wp2_with fail
      go_roundw
      case rel => exact ⟨i + 1, by go_num, by omega, q + nq, rfl⟩
      case measure => simp [intOf]; omega
    · have hie : i = NY := by omega
      subst hie
      have hxc := (Do.Acc.cap A7.out).2
      rw [hNX.out] at hxc
      have c9 := hid (wiped_any xa NX xc w1 (w7.drewN q) ho8' hxc (Acc.pad (A7.out.later (drewN_below _ _))) (Below.up A7.out.lo (drewN_below _ _)))
      clear hpat hqat
      go_wp2_with (first
        | (go_at_call 16; refine c9.out.mono ?_; rintro e w8 ⟨rfl, b8⟩; replace b8 := hid b8)
        | (go_at_call 15; refine (c8.out _ _ _ (Below.up b1.out b8.out) (K1.out.later b8.out)).mono ?_; rintro e w9 ⟨rfl, b9⟩; replace b9 := hid b9))
      go_ret
      exact ⟨rfl, Below.up b0.out (Below.up (Below.up b1.out b8.out) b9.out)⟩
end Go.Proofs.Ytkpihibeohjfnaa.La

/- Trail: the way down, as numbers. -/
import Derived.Test.YthnmoidfdojoiaaOi
namespace Go.Proofs.Ythnmoidfdojoiaa.Tl
open Go.ChangeShapes Go.WideShapes Go.ChangeAt Go.RowKit
open Go.Sort (grow)
open Go.Proofs.Ythnmoidfdojoiaa.Ik
open Go.Proofs.Ythnmoidfdojoiaa.Sg
open Go.Proofs.Ythnmoidfdojoiaa.Cm (ik)
open Go.Proofs.Ythnmoidfdojoiaa.Vl
open Go.Proofs.Ythnmoidfdojoiaa.Mm
open Go.Proofs.Ythnmoidfdojoiaa.Tr
open Go.Proofs.Ythnmoidfdojoiaa.Li
open Go.Proofs.Ythnmoidfdojoiaa.In
open Go.Proofs.Ythnmoidfdojoiaa.Oi
set_option linter.unusedVariables false
set_option linter.unusedSimpArgs false

def trl (ns : List N) (ord : List Nat) (k : IK) (j : Nat) : List Nat := (List.range j).map fun i => lastB ns ord k (top ns - 1 - i)
theorem trl_succ (ns : List N) (ord : List Nat) (k : IK) (j : Nat) : trl ns ord k (j + 1) = trl ns ord k j ++ [lastB ns ord k (top ns - 1 - j)] := by simp [trl, List.range_succ]
theorem trl_len (ns : List N) (ord : List Nat) (k : IK) (j : Nat) : (trl ns ord k j).length = j := by simp [trl]
set_option maxHeartbeats 4000000 in
set_option maxRecDepth 100000 in
theorem trailing_any (base g b most : Nat) (ns : List N) (ord : List Nat) (k : ByteArray) (s c : Int) (w : World) (H : SL w base g b most ns ord) :
    Calls Try.prog 32 #[.pointer (some ⟨g, 0, none⟩), .agg #[.string k, .int .u64 s, .int .i64 c]] w fun e w' => ∃ v, e = .returned v ∧ OwnZ w' w.heap.size v (zi (trl ns ord (ik k s c) (top ns))) ∧ Below w.heap.size w w' := by
  obtain ⟨cap, tw, HLs, G, L⟩ := H
  obtain ⟨gk, hgk⟩ : ∃ gk, gk = w.heap.size := ⟨_, rfl⟩
  obtain ⟨W0, hW0⟩ : ∃ W0, W0 = w.alloc (.cells #[.string k, .int .u64 s, .int .i64 c] 36) := ⟨_, rfl⟩
  have B0 : Below w.heap.size w W0 := by rw [hW0]; exact box_below _ _
  have L0 := HLs.later B0
  have HTr := trail_any base g b cap most ns ord tw k s c W0 L0 G L
  rw [hW0] at HTr
  have ht := G.top12
  have hm1 := HLs.m1
  have hm2 := HLs.m2
  have hln := HLs.ln
  obtain ⟨T, hT⟩ : ∃ T, T = lastB ns ord (ik k s c) := ⟨_, rfl⟩
  have HTl : Hid (∀ l, T l ≤ ns.length) := fun l => by rw [hT]; exact lastB_le G _ l
  rw [← hT] at HTr
  have HTr := hid HTr
  have hHH := hid HLs
  have HW0 := hid hW0
  have HTe := hid hT
  have hgk2 := hid hgk
  replace B0 := hid B0
  obtain ⟨t, hto⟩ : ∃ t, t = top ns := ⟨_, rfl⟩
  rw [← hto] at ht
  replace hto := hid hto
  clear hW0 hgk HLs L0 hT G L
  go_enter Try.func32, Try.ntmps32
  go_wp2_with fail
  refine HTr.out.mono ?_
  rw [← HW0.out]
  rintro e w3 ⟨rfl, b3⟩
  have B3 := hid (B0.out.trans (b3.mono B0.out.size))
  clear b3 HTr B0 HW0
  have hZ3 := hid (boxZ w3)
  have hA3 := hid (box_below w3 (.cells #[.int .i32 0, .int .i32 0, .int .i32 0, .int .i32 0, .int .i32 0, .int .i32 0, .int .i32 0, .int .i32 0, .int .i32 0, .int .i32 0, .int .i32 0, .int .i32 0] 90))
  have zF : Hid ((tow T).size = 12) := rfl
  have oF : Hid ((tow T).all (·.oneCell') = true) := tow_one _
  go_wp2_with (first | (refine store_arr rfl _ _ 90 rfl w3.heap.size 90 #[.int .i32 0, .int .i32 0, .int .i32 0, .int .i32 0, .int .i32 0, .int .i32 0, .int .i32 0, .int .i32 0, .int .i32 0, .int .i32 0, .int .i32 0, .int .i32 0] (tow T) rfl rfl info12 hZ3.out rfl zF.out oF.out ?_))
  intro w4 K4 g4
  obtain ⟨gt, hgt⟩ : ∃ gt, gt = w3.heap.size := ⟨_, rfl⟩
  have b4 : Below w3.heap.size w3 w4 := (hA3.out).grown g4 (by rw [size_alloc]; omega) (by intro j hj; simp at hj; omega)
  rw [← hgt] at K4
  have B4 := hid (B3.out.trans (b4.mono B3.out.size))
  have T4 := hid K4
  have hgt0 : gk ≤ gt := by rw [hgk2.out, hgt]; exact B3.out.size
  rw [← hgt]
  clear K4 g4 b4 hA3 hZ3 hgt
  have HH := hid (height_any g most (top ns) b _ cap w4 (hHH.out.later B4.out).hd hm1)
  rw [← hto.out] at HH
  go_wp2_with fail
  refine HH.out.mono ?_
  rintro e w5 ⟨rfl, rfl⟩
  clear HH
  go_wp2_with fail
  go_loopw [5, 7] (fun v lv wr => ∃ j : Nat, j ≤ t ∧ lv = .int .i64 ((t : Int) - 1 - (j : Int)) ∧ Hid (OwnZ wr w.heap.size v (zi (trl ns ord (ik k s c) j))) ∧ Hid (Below w.heap.size w wr) ∧ Hid (Blk wr gt 90 (tow T))) (fun _ lv _ => (intOf lv + 1).toNat)
  case atStart => exact ⟨0, Nat.zero_le _, by simp, OwnZ.nil _ _, B4, T4⟩
  case round =>
    obtain ⟨j, hj, rfl, HO, HB, HT⟩ := hrel
    by_cases hlt : j < t
    · obtain ⟨l, hl⟩ : ∃ l, l = t - 1 - j := ⟨_, rfl⟩
      have hil : (t : Int) - 1 - (j : Int) = (l : Int) := by omega
      have hl12 : l < 12 := by omega
      have i1 : ¬ (l : Int) < 0 := by omega
      have t0 := cell_of HT.out l _ (tow_get T l hl12)
      have hTl := HTl.out l
      obtain ⟨v5, W5, r5, O5, g5⟩ := app_int wr w.heap.size u5 _ (T l : Int) HO.out (by rw [zi_len, trl_len]; omega) HB.out.size
      have B5 : Hid (Below w.heap.size w W5) := HB.out.grown g5 HB.out.size (fun k hk => (World.ownsRow.lt HO.out k hk).1)
      have hne : some gt ≠ u5.ownBlock := by
        intro e
        obtain ⟨c', f', h1⟩ := row_blk HO.out gt e.symm
        have := HT.out
        unfold Blk at this
        rw [h1] at this
        simp at this
      have T5 : Hid (Blk W5 gt 90 (tow T)) := (g5.block gt (blk_lt HT.out) hne).trans HT.out
      have O6 : Hid (OwnZ W5 w.heap.size v5 (zi (trl ns ord (ik k s c) (j + 1)))) := by
        rw [trl_succ, zi_append, ← HTe.out, ← hto.out, ← hl]; exact O5
      have r5 := hid r5
      have hback : (l : Int) - 1 = (t : Int) - 1 - ((j + 1 : Nat) : Int) := by omega
      have hback := hid hback
      rw [hil]
      replace hl := hid hl
      clear hil O5 g5 hne
      go_wp2_with (at_builtin; refine wpList_append_run rfl _ _ _ _ rfl _ _ _ rfl rfl r5.out ?_)
      refine ⟨⟨j + 1, by omega, by simp, O6, B5, T5⟩, ?_⟩
      simp only [intOf]
      omega
    · have ej : j = t := by omega
      subst ej
      have hz1 : (j : Int) - 1 - (j : Int) = -1 := by omega
      rw [hz1]
      go_wp2_with fail
      go_ret
      exact ⟨_, rfl, by rw [← hto.out]; exact HO.out, HB.out⟩
end Go.Proofs.Ythnmoidfdojoiaa.Tl

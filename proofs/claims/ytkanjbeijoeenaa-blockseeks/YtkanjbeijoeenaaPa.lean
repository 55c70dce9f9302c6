/- parts of a block's bytes. -/
import Derived.Test.YtkanjbeijoeenaaRl
import Derived.Test.YtkanjbeijoeenaaRg
namespace Go.Proofs.Ytkanjbeijoeenaa.Pa
open Go.ChangeShapes Go.WideShapes Go.ChangeAt Go.RowKit
open Go.Sort (grow)
open Go.Proofs.Ytkanjbeijoeenaa.By
open Go.Proofs.Ytkanjbeijoeenaa.Bl
open Go.Proofs.Ytkanjbeijoeenaa.Bn
open Go.Proofs.Ytkanjbeijoeenaa.Bm
open Go.Proofs.Ytkanjbeijoeenaa.Bb
open Go.Proofs.Ytkanjbeijoeenaa.Rl
open Go.Proofs.Ytkanjbeijoeenaa.Rg
open Go.Proofs.Ytkanjbeijoeenaa.Mb (hid box_below blk_lt new_at size_alloc cell_of E ze drew_below drewN_below)
set_option linter.unusedVariables false
set_option linter.unusedSimpArgs false

theorem blk_count (S : BS) (h : S.pl.length < 4294967296) : Fx.fread (blk S) ((blk S).length - 4 : Int) 4 = ((S.pl.length : Int), ((blk S).length : Int), 0) := by
  have hl := blk_len S
  unfold bsz at hl
  unfold Fx.fread
  rw [if_neg (by omega), if_neg (by omega)]
  have e : ((blk S).drop ((blk S).length - 4 : Int).toNat).take 4 = lb 4 (S.pl.length : Int) := by
    have e1 : ((blk S).length - 4 : Int).toNat = (S.ent ++ S.pl.flatMap fun n : Nat => lb 4 (n : Int)).length := by
      rw [List.length_append, flat_len]; omega
    rw [e1]
    unfold blk
    rw [List.drop_left]
    exact List.take_of_length_le (by rw [lb_len]; exact Nat.le_refl _)
  rw [e, le_lb4 _ h]
  congr 2
  omega
set_option maxRecDepth 100000 in
set_option maxHeartbeats 1000000 in
theorem parts_ok (bb bo n c : Nat) (S : BS) (w : World) (H : Bytes w (some ⟨bb, bo, none⟩) n c (blk S)) (hc : c ≤ 9223372036854775807) (hnb : n ≤ 1000000000) :
    Calls Try.prog 64 #[.slice (some ⟨bb, bo, none⟩) n c] w fun e w' => e = .returned (.tuple #[.slice (some ⟨bb, bo, none⟩) S.ent.length c, .slice (some ⟨bb, bo + S.ent.length, none⟩) (4 * S.pl.length) (c - S.ent.length)]) ∧ Below w.heap.size w w' := by
  have hl := blk_len S
  unfold bsz at hl
  have hn := H.1
  have hnc := H.2.1
  have HF := fixed32_any (some ⟨bb, bo, none⟩) n c (blk S) ((n : Int) - 4) w H (by omega)
  have hct := blk_count S (by omega)
  rw [hn] at hct
  rw [hct] at HF
  replace HF := hid HF
  clear H hct
  generalize hL : S.ent.length = L at *
  generalize hq : S.pl.length = q at *
  obtain ⟨en, hen⟩ : ∃ en, en = L + 4 * q := ⟨_, rfl⟩
  have m1 : IntKind.i64.wrap ((n : Int) - 4) = (en : Int) := by rw [IntKind.wrap_i64]; omega
  have m1' : (n : Int) - 4 = (en : Int) := by omega
  have m2 : (en : Int).tdiv 4 = ((L / 4 + q : Nat) : Int) := by rw [Int.tdiv_eq_ediv_of_nonneg (by omega)]; omega
  have m2' : (en : Int) / 4 = ((L / 4 + q : Nat) : Int) := by omega
  obtain ⟨ed, hed⟩ : ∃ ed, ed = L / 4 + q := ⟨_, rfl⟩
  rw [← hed] at m2 m2'
  have m3 : IntKind.i64.wrap (ed : Int) = (ed : Int) := by rw [IntKind.wrap_i64]; omega
  have m4 : IntKind.u64.wrap (ed : Int) = (ed : Int) := by rw [IntKind.wrap_u64]; omega
  have m5 : IntKind.u64.wrap (q : Int) = (q : Int) := by rw [IntKind.wrap_u64]; omega
  have m6 : (q : Int) ≤ (ed : Int) := by omega
  have m7 : decide ((q : Int) ≤ (ed : Int)) = true := decide_eq_true m6
  have m8 : IntKind.i64.wrap (q : Int) = (q : Int) := by rw [IntKind.wrap_i64]; omega
  have m9 : IntKind.i64.wrap (4 * (q : Int)) = 4 * (q : Int) := by rw [IntKind.wrap_i64]; omega
  have m10 : IntKind.i64.wrap ((en : Int) - 4 * (q : Int)) = (L : Int) := by rw [IntKind.wrap_i64]; omega
  have n1 : (L : Int) ≤ (en : Int) := by omega
  have n2 : (en : Int) ≤ (c : Int) := by omega
  have n2' : (L : Int) ≤ (c : Int) := by omega
  have n3 : en - L = 4 * q := by omega
  have n4 : L < c := by omega
  have HM : Hid (∀ W, Calls Try.prog 66 #[.bool true] W fun e w' => e = .returned (.tuple #[]) ∧ w' = W) := fun W => must_ok W
  rw [m1'] at HF
  have n5 : (en : Int) = (en : Int) := rfl
  replace hL := hid hL
  replace hq := hid hq
  replace hen := hid hen
  replace hed := hid hed
  replace hl := hid hl
  replace hn := hid hn
  replace n3 := hid n3
  go_enter Try.func64, Try.ntmps64
  go_wp2_with fail
  refine HF.out.mono ?_
  rintro e w ⟨rfl, rfl⟩
  go_wp2_with fail
  refine (HM.out w).mono ?_
  rintro e w ⟨rfl, rfl⟩
  go_wp2_with fail
  refine (HM.out w).mono ?_
  rintro e w ⟨rfl, rfl⟩
  go_wp2_with fail
  go_quiet (fail)
  go_wp2_with fail
  go_ret2
  exact ⟨by rw [n3.out]; rfl, drewN_below _ _⟩
end Go.Proofs.Ytkanjbeijoeenaa.Pa

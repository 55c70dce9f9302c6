/- works: the chapter's first example; among. -/
import Derived.Test.YtefihoohdaegeaaGu
namespace Go.Proofs.Ytefihoohdaegeaa.Wk
open Go.ChangeShapes Go.WideShapes Go.ChangeAt Go.RowKit Go.Shelf
open Go.Sort (grow)
open Go.Proofs.Ytefihoohdaegeaa.Lx (hid)
open Go.Proofs.Ytefihoohdaegeaa.Ee (E ze)
open Go.Proofs.Ytefihoohdaegeaa.Nw (c4)
open Go.Proofs.Ytefihoohdaegeaa.Fm
open Go.Proofs.Ytefihoohdaegeaa.Tb
open Go.Proofs.Ytefihoohdaegeaa.Ad
open Go.Proofs.Ytefihoohdaegeaa.Ae
open Go.Proofs.Ytefihoohdaegeaa.Gt
open Go.Proofs.Ytefihoohdaegeaa.Gu
open Go.Proofs.Ytefihoohdaegeaa.Mm (box_below)
open Go.Proofs.Ytefihoohdaegeaa.Tr (new_at cell_of size_alloc blk_lt)
set_option linter.unusedVariables false
set_option linter.unusedSimpArgs false

def s1 : St := adS (St.new 1) 1 1 ⟨#[97]⟩ ⟨#[120]⟩ 1
def s2 : St := adS s1 2 2 ⟨#[97]⟩ ⟨#[99]⟩ 1
def s3 : St := adS s2 3 1 ⟨#[98]⟩ ⟨#[121]⟩ 4
theorem e1 : adE (St.new 1) 1 1 ⟨#[97]⟩ ⟨#[120]⟩ 1 = 0 := by kernel_rfl
theorem e2 : adE s1 2 2 ⟨#[97]⟩ ⟨#[99]⟩ 1 = 0 := by kernel_rfl
theorem e3 : adE s2 3 1 ⟨#[98]⟩ ⟨#[121]⟩ 4 = 0 := by kernel_rfl
theorem f1 (g : Nat) : fnd [(g, s3)] ⟨#[97]⟩ 1 = (⟨⟨#[97]⟩, 1, 1, ⟨#[120]⟩⟩, true) := by kernel_rfl
theorem f2 (g : Nat) : fnd [(g, s3)] ⟨#[97]⟩ 9 = (⟨⟨#[97]⟩, 2, 2, ⟨#[]⟩⟩, true) := by kernel_rfl
theorem z3 : s3.sz = 54 := by kernel_rfl
theorem t3 : s3.ts.length = 1 ∧ s1.ts.length = 0 ∧ s2.ts.length = 1 := by exact ⟨by kernel_rfl, by kernel_rfl, by kernel_rfl⟩
theorem among_any (x : Int) (n : Nat) (w : World) (hn : 1 ≤ n ∧ n ≤ 4000000000000000000) : Calls Try.prog 11 #[.int .i64 x, .int .i64 (n : Int)] w fun e w' => e = .returned (.int .i64 (x % (n : Int))) ∧ w' = w := by
  obtain ⟨h1, h2, h3⟩ := Fi.tmod_bd x n hn.1
  have e : wrap64 (x.tmod n + n) = x.tmod n + n := by unfold wrap64; omega
  have e2 : (wrap64 (x.tmod n + n)).tmod n = x % n := by rw [e, Int.tmod_eq_emod_of_nonneg (by omega), h3]
  have hn0 : ((n : Int) == 0) = false := by simp; omega
  clear h1 h2 h3 e
  go_enter Try.func11, Try.ntmps11
  go_wp2_with fail
  go_ret
  exact ⟨rfl, rfl⟩
end Go.Proofs.Ytefihoohdaegeaa.Wk

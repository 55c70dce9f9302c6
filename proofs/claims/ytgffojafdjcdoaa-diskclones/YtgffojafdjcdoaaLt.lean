/- List. -/
import Derived.Test.YtgffojafdjcdoaaUs
import Derived.Test.YtgffojafdjcdoaaSh
import Derived.Sort.OwnSorted
namespace Go.Proofs.Ytgffojafdjcdoaa.Lt
open Go.ChangeShapes Go.WideShapes Go.ChangeAt Go.RowKit Go.Maps Go.Sort
open Go.Proofs (encStr)
open Go.Proofs.Ytgffojafdjcdoaa.By
open Go.Proofs.Ytgffojafdjcdoaa.Ln
open Go.Proofs.Ytgffojafdjcdoaa.Mp
open Go.Proofs.Ytgffojafdjcdoaa.Dk
open Go.Proofs.Ytgffojafdjcdoaa.Df
open Go.Proofs.Ytgffojafdjcdoaa.Dh
set_option linter.unusedVariables false
set_option linter.unusedSimpArgs false

theorem info9 : (Try.prog.info? 9).map (fun i => (i.zero, i.size, i.bytes)) = some (some (.string ⟨#[]⟩), 1, 16) := by kernel_rfl
/-- The names in their order. -/
def lst (fs : Fs) : List K := (names fs).mergeSort leB
set_option maxRecDepth 100000 in
set_option maxHeartbeats 1000000 in
theorem list_any {base g b : Nat} {P : Nat → Prop} {S : St} (w : World) (H : Disk w base g b P S) : Calls Try.prog 20 #[.pointer (some ⟨g, 0, none⟩)] w fun e w' => ∃ gl cap : Nat, e = .returned (.slice (some ⟨gl, 0, none⟩) S.fs.length cap) ∧ w'.ownsRow w.heap.size 9 1 (.slice (some ⟨gl, 0, none⟩) S.fs.length cap) S.fs.length ((lst S.fs).map encStr) ∧ Below w.heap.size w w' := by
  obtain ⟨i0, hi, hz0, hz1, hz2⟩ := info_parts info9
  obtain ⟨D, hown, hR⟩ := H.map
  have HH := hid H
  have hbl := hown.lt
  have hgl := H.plow g H.pg
  have c0 : w.cell? ⟨g, 0, none⟩ = some (.map (some b)) := H.cell 0
  have hlen := H.ok.len
  have hsz := hR.size
  have hLn := fun ty => H.run_len ty
  clear H
  go_enter Try.func20, Try.ntmps20
  go_wp2_with fail
  refine (isnone_any w HH.out).mono ?_
  rintro e w00 ⟨rfl, hww⟩
  subst hww
  go_wp2_with (first
    | (at_make; refine wpList_make_own _ rfl _ _ 56 rfl w00.heap.size 9 i0 (.string ⟨#[]⟩) 1 Try.underlying56 hi hz0 hz1 _ _ _ S.fs.length rfl rfl rfl (by rw [hz2]; omega) (by unfold maxLen; omega) (Nat.le_refl _) ?_; intro w1 hrow1 hg1; have c1 : w1.cell? ⟨g, 0, none⟩ = some (.map (some b)) := (World.cell?_of_block (a := ⟨g, 0, none⟩) (hg1.block g hgl (by simp))).trans c0)
    | (at_range; refine wpList_range_own _ rfl _ 46 rfl 9 83 law Try.underlying46 _ b _ _ rfl (hown.kept hg1 (by simp)) ?_; intro w0 hrg0 hg0 hs0))
  go_frame
  go_loopw [3] (fun v wr => ∃ (left : Lit → Bool) (cnt : Nat) (ss : List K), wr.ranges Try.prog 9 heldR b w1.heap.size S.fs.length D left cnt ∧ ss.length + cnt ≤ Maps.size D ∧
      wr.ownsRow w00.heap.size 9 1 v ss.length (ss.map encStr) ∧ v ≠ .slice none 0 0 ∧ Collected D left ss ∧ Below w00.heap.size w00 wr) (fun _ wr => wr.rangeLeft b w1.heap.size)
  case atStart =>
    exact ⟨_, _, [], hrg0, by simp, hrow1.kept hg0 (Or.inr (by simp [Value.ownBlock])), by simp, Collected.start D,
      ((Below.refl _ _).grown hg1 (Nat.le_refl _) (fun j hj => by cases hj)).grown hg0 hg1.size (fun j hj => by cases hj)⟩
  case round =>
    obtain ⟨left, cnt, ss, hrg, hcs, hrow, hnn, hC, hnx⟩ := hrel
    rcases hrg.next law 0 with ⟨h0, hl0, hrun⟩ | ⟨key, v, kl, y, w2, cnt2, hkey, hlk, hv, hat, hrun, hrg2, hlt, hg2, hs2, hen⟩
    · have hperm : ss.Perm (names S.fs) := (hC.perm hown law Try.underlying9 hl0).trans hR.keys
      have hlss : ss.length = S.fs.length := by rw [hperm.length_eq]; simp [names]
      rcases hrow.2 with ⟨hnil, _⟩ | ⟨gl, cap, cur, hsv, hbase, hb, h1, h2, h3, h4⟩
      · exact absurd hnil hnn
      have hH : Holds encStr wr gl 0 ss.toArray := holds_of_block hb (by simpa using h4)
      have hglt : gl < wr.heap.size := (Array.getElem?_eq_some_iff.1 hb).1
      have hc := hid (Sh.sort_names gl 0 cap ss wr hH hglt (by omega))
      have hfin : Hid (∀ n os, ∃ gl' cap' : Nat, Ending.returned (.slice (some ⟨gl, 0, none⟩) ss.length cap) = Ending.returned (.slice (some ⟨gl', 0, none⟩) S.fs.length cap') ∧ (Sort.grow (putRow encStr (Sort.ahead wr n) gl 0 (ss.mergeSort fun x y => decide (x ≤ y)).toArray) os).ownsRow w00.heap.size 9 1 (.slice (some ⟨gl', 0, none⟩) S.fs.length cap') S.fs.length ((lst S.fs).map encStr) ∧ Below w00.heap.size w00 (Sort.grow (putRow encStr (Sort.ahead wr n) gl 0 (ss.mergeSort fun x y => decide (x ≤ y)).toArray) os)) := fun n os => by
        refine ⟨gl, cap, by rw [hlss], ?_, hnx.grown (grownBy_sorted _) hnx.size (fun j hj => by cases hj; exact hbase)⟩
        have := ownsRow_sorted (n := n) (os := os) (ts := ss.mergeSort fun x y => decide (x ≤ y)) (by simp) hbase hb h1 h2 h3
        rw [← hlss]
        unfold lst
        rw [← mergeSort_of_perm hperm]
        exact this
      clear hH hnx hC hrg hrow hb h1 h2 h3 h4 hl0 hperm hlss hcs hsz
      subst hsv
      generalize ss.length = nss at *
      go_wp2_with fail
      refine hc.out.mono ?_
      rintro e w' ⟨rfl, nn, os, rfl⟩
      go_wp2_with fail
      go_ret
      obtain ⟨gl', cap', e1, e2, e3⟩ := hfin.out nn os
      exact ⟨gl', cap', e1, e2, e3⟩
    · obtain ⟨x, rfl, rfl, _⟩ := Maps.keyOf_str Try.underlying9 hkey
      have hrow2 := hrow.kept hg2 (Or.inr (row_ne_iter hrow hrg).symm)
      have hC2 := hid (hC.step hlk hat)
      have hleft := hid hrg.left_eq
      have hltt := hid hlt
      have hnx2 := hnx.grown hg2 hnx.size (fun j hj => by cases hj; exact hg1.size)
      clear hs2 hrg hC hat hv hkey hlk hrow hlt
      go_wp2_with (at_builtin; refine wpList_append_own _ rfl _ _ 56 rfl w00.heap.size 9 i0 (.string ⟨#[]⟩) 1 16 Try.underlying56 hi hz0 hz1 hz2 rfl (by decide) _ _ _ rfl (hrow2.alloc _) ⟨w2.heap.size, 0, none⟩ 1 1 [encStr x] rfl rfl (cell_one_new _ _ _) (by simp [Value.oneCell', encStr]) (by unfold maxLen at *; omega) (by omega) (by have := hnx2.size; simp; omega) ?_; intro v' w3 hown' hg3 hnil3; go_frame)
      have hrg3 := (hrg2.alloc _).kept hg3 (row_ne_low hrow2 hbl) (row_ne_iter hrow2 hrg2)
      go_roundw
      case rel =>
        refine ⟨_, cnt2, ss ++ [x], hrg3, by simp; have := hltt.out; omega, by simpa using hown', fun hv' => by have := (hnil3.1 hv').2; omega, hC2.out, ?_⟩
        exact (hnx2.alloc (by have := hnx2.size; omega) _).grown hg3 (by have := hnx2.size; simp; omega) (fun j hj => (hrow2.lt j hj).1)
      case measure => rw [hrg3.left_eq, hleft.out]; exact hltt.out
end Go.Proofs.Ytgffojafdjcdoaa.Lt

/- Used. -/
import Derived.Test.YtgffojafdjcdoaaDi
namespace Go.Proofs.Ytgffojafdjcdoaa.Us
open Go.ChangeShapes Go.WideShapes Go.ChangeAt Go.RowKit Go.Maps
open Go.Proofs.Ytgffojafdjcdoaa.By
open Go.Proofs.Ytgffojafdjcdoaa.Ln
open Go.Proofs.Ytgffojafdjcdoaa.Mp
open Go.Proofs.Ytgffojafdjcdoaa.Dk
open Go.Proofs.Ytgffojafdjcdoaa.Df
open Go.Proofs.Ytgffojafdjcdoaa.Dh
set_option linter.unusedVariables false
set_option linter.unusedSimpArgs false

def flen (fs : Fs) (s : K) : Nat := match seek fs s with | some f => f.zs.length | none => 0
def sumOf (fs : Fs) (ss : List K) : Nat := (ss.map (flen fs)).sum
theorem used_mem {fs : Fs} {p : K × Fl} (h : p ∈ fs) : p.2.zs.length ≤ used fs := by
  induction fs with
  | nil => simp at h
  | cons q r ih =>
    rw [used_cons]
    rcases List.mem_cons.1 h with rfl | h
    · omega
    · have := ih h; omega
theorem flen_le (fs : Fs) (s : K) : flen fs s ≤ used fs := by
  unfold flen
  cases h : seek fs s with
  | none => simp
  | some f => exact used_mem (seek_mem h)
theorem sum_le (fs : Fs) (ss : List K) : sumOf fs ss ≤ ss.length * used fs := by
  induction ss with
  | nil => simp [sumOf]
  | cons x r ih =>
    have := flen_le fs x
    simp only [sumOf, List.map_cons, List.sum_cons, List.length_cons, Nat.succ_mul] at ih ⊢
    omega
theorem sum_snoc (fs : Fs) (ss : List K) (x : K) : sumOf fs (ss ++ [x]) = sumOf fs ss + flen fs x := by simp [sumOf]
theorem sum_perm {fs : Fs} {ss ts : List K} (h : ss.Perm ts) : sumOf fs ss = sumOf fs ts := (h.map _).sum_nat
theorem sum_names {fs : Fs} (hn : (names fs).Nodup) : sumOf fs (names fs) = used fs := by
  unfold sumOf used names
  rw [List.map_map]
  congr 1
  apply List.map_congr_left
  intro p hp
  show flen fs p.1 = _
  unfold flen
  rw [seek_of_mem hn (show (p.1, p.2) ∈ fs from hp)]
set_option maxRecDepth 10000 in
set_option maxHeartbeats 1000000 in
theorem used_any {base g b : Nat} {P : Nat → Prop} {S : St} (w : World) (H : Disk w base g b P S) : Calls Try.prog 21 #[.pointer (some ⟨g, 0, none⟩)] w fun e w' => e = .returned (.int .i64 (used S.fs : Nat)) ∧ Below w.heap.size w w' := by
  obtain ⟨D, hown, hR⟩ := H.map
  have HH := hid H
  have c0 : w.cell? ⟨g, 0, none⟩ = some (.map (some b)) := H.cell 0
  have hsh := hid (fun p hp => Df.shape (H.mem.row p hp))
  have hu := H.ok.used
  have hlen := H.ok.len
  have hsz := hR.size
  clear H
  go_enter Try.func21, Try.ntmps21
  go_wp2_with fail
  refine (isnone_any w HH.out).mono ?_
  rintro e w1 ⟨rfl, rfl⟩
  go_wp2_with (at_range; refine wpList_range_own _ rfl _ 46 rfl 9 83 law Try.underlying46 _ b _ _ rfl hown ?_; intro w0 hrg0 hg0 hs0)
  go_frame
  go_loopw [3] (fun u wr => ∃ (left : Lit → Bool) (cnt : Nat) (ss : List K), u = .int .i64 (sumOf S.fs ss : Nat) ∧ wr.ranges Try.prog 9 heldR b w1.heap.size S.fs.length D left cnt ∧ ss.length + cnt ≤ Maps.size D ∧ Collected D left ss ∧ Below w1.heap.size w1 wr) (fun _ wr => wr.rangeLeft b w1.heap.size)
  case atStart => exact ⟨_, _, [], rfl, hrg0, by simp, Collected.start D, (Below.refl _ _).grown hg0 (Nat.le_refl _) (fun j hj => by cases hj)⟩
  case round =>
    obtain ⟨left, cnt, ss, rfl, hrg, hcs, hC, hnx⟩ := hrel
    have hsum := sum_le S.fs ss
    have hssl : ss.length ≤ 4096 := by omega
    have hm : ss.length * used S.fs ≤ 4096 * 268435456 := Nat.mul_le_mul hssl hu
    rcases hrg.next law 0 with ⟨h0, hl0, hrun⟩ | ⟨key, v, kl, y, w2, cnt2, hkey, hlk, hv, hat, hrun, hrg2, hlt, hg2, hs2, hen⟩
    · have hfin : Hid (sumOf S.fs ss = used S.fs) := by
        show _ = _
        rw [sum_perm ((hC.perm hown law Try.underlying9 hl0).trans hR.keys), sum_names hR.nodup]
      have hnx := hid hnx
      clear hrg hC hl0
      go_wp2_with fail
      go_ret
      exact ⟨by rw [hfin.out]; rfl, hnx.out⟩
    · obtain ⟨x, rfl, rfl, _⟩ := Maps.keyOf_str Try.underlying9 hkey
      obtain ⟨f, hl, hy⟩ := hR.met hat
      have hvf : v = f.val := by
        have : (DataW.held v, ([] : List MemPlace)) = y := Option.some.inj hv
        rw [← this] at hy
        simpa using hy
      obtain ⟨a, c, hsl⟩ := hsh.out _ (seek_mem hl)
      simp only at hsl
      have hval : f.val = .agg #[.slice a f.zs.length c, .int .i64 f.k] := by rw [← hsl]; rfl
      rw [hvf, hval] at hrun hen
      have hfl : flen S.fs x = f.zs.length := by unfold flen; rw [hl]
      have hflu := flen_le S.fs x
      have hC2 := hid (hC.step hlk hat)
      have hrg3 := hid (hrg2.alloc (.cells #[.slice a f.zs.length c, .int .i64 f.k] 83))
      have hnx3 : Hid (Below w1.heap.size w1 (w2.alloc (.cells #[.slice a f.zs.length c, .int .i64 f.k] 83))) := (hnx.grown hg2 hnx.size (fun j hj => by cases hj; exact Nat.le_refl _)).alloc (by have := hnx.size; have := hg2.size; omega) _
      have hcs3 : Hid ((ss ++ [x]).length + cnt2 ≤ Maps.size D) := by show _ ≤ _; simp; omega
      have hsn : Hid (sumOf S.fs (ss ++ [x]) = sumOf S.fs ss + f.zs.length) := by show _ = _; rw [sum_snoc, hfl]
      have hleft := hid hrg.left_eq
      have hltt := hid hlt
      generalize sumOf S.fs ss = sm at *
      generalize hfz : f.zs.length = n at *
      clear hrg hrg2 hC hat hv hy hvf hval hsl hl hkey hlk hs2 hg2 hnx hfz hlt
      go_wp2_with fail
      go_roundw
      case rel => exact ⟨_, cnt2, ss ++ [x], by rw [hsn.out]; go_num, hrg3.out, hcs3.out, hC2.out, hnx3.out⟩
      case measure => rw [hrg3.out.left_eq, hleft.out]; exact hltt.out
end Go.Proofs.Ytgffojafdjcdoaa.Us

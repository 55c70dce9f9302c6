/- names.Sort by its contract. -/
import Derived.Test.YtcjlgjlediihoaaDoorSo
import Derived.Laws.CopyOwn
namespace Go.Proofs.YtcjlgjlediihoaaDoor.Sy
open Go.ChangeShapes Go.WideShapes Go.ChangeAt Go.RowKit
open Go.Proofs.YtcjlgjlediihoaaDoor.Gr
open Go.Proofs.YtcjlgjlediihoaaDoor.Es
open Go.Proofs.YtcjlgjlediihoaaDoor.Rw (Fm Tb)
open Go.Proofs.YtcjlgjlediihoaaDoor.Cf
open Go.Proofs.YtcjlgjlediihoaaDoor.So
set_option linter.unusedVariables false
set_option linter.unusedSimpArgs false

theorem made_block {W : World} {base g n : Nat} (h : W.ownsRow base 9 1 (.slice (some ⟨g, 0, none⟩) n n) n (List.replicate n (.string ByteArray.empty))) : W.heap[g]? = some (.cells (List.replicate n (Value.string ByteArray.empty)).toArray 9 (0, 0)) ∧ base ≤ g ∧ n ≤ maxLen := by
  rcases h.2 with ⟨h1, _⟩ | ⟨g', cap, cur, h1, hb, hg, hn, hm, hs, ht⟩
  · cases h1
  · cases h1
    refine ⟨?_, hb, hm⟩
    rw [hg]
    congr 2
    apply Array.toList_inj.1
    rw [List.take_of_length_le (by rw [Array.length_toList, hs]; omega)] at ht
    rw [ht]
theorem own_block {W : World} {base g n : Nat} {xs : List ByteArray} (hl : xs.length = n) (hb : W.heap[g]? = some (.cells (xs.map Value.string).toArray 9 (0, 0))) (hg : base ≤ g) (hm : n ≤ maxLen) : eStr.Own W base (.slice (some ⟨g, 0, none⟩) n n) xs := by
  unfold El.Own
  rw [clS]
  subst hl
  refine ⟨by rw [List.length_map]; exact (Nat.mul_one _).symm, .inr ⟨g, xs.length, _, rfl, hg, hb, Nat.le_refl _, hm, by rw [List.size_toArray, List.length_map, show eStr.k = 1 from rfl, Nat.mul_one], ?_⟩⟩
  rw [List.take_of_length_le]
  simp
  exact Nat.le_of_eq (Nat.mul_one _).symm
theorem copy_run {W : World} {g n c : Nat} {a : Option Addr} {xs : List ByteArray} (H : eStr.Sl W a n c xs) (kb : W.heap[g]? = some (.cells (List.replicate n (Value.string ByteArray.empty)).toArray 9 (0, 0))) (ty : TypeId) :
    ∃ W', (Builtin.copy_ #[39, 39] ty #[.slice (some ⟨g, 0, none⟩) n n, .slice a n c]).run Tryd.prog W = .ok (.int .i64 n) W' ∧ W'.heap[g]? = some (.cells (xs.map Value.string).toArray 9 (0, 0)) ∧ W.grownBy W' (some g) := by
  have hl := H.n
  by_cases h0 : n = 0
  · subst h0
    have hx : xs = [] := List.eq_nil_of_length_eq_zero hl
    subst hx
    exact ⟨W, run_copy_none W _ _ ty 9 (some ⟨g, 0, none⟩) a 0 0 0 c Tryd.underlying39 (by kernel_rfl) rfl, kb, ⟨rfl, rfl, rfl, Nat.le_refl _, fun _ _ _ => rfl⟩⟩
  · cases a with
    | none => have := (H.nil rfl).1; omega
    | some ad =>
      have hcl : (xs.map Value.string).length = n := by rw [List.length_map, hl]
      have r := run_copy_row (P := Tryd.prog) W 39 39 ty 9 g 0 n n ad n c _ 9 (xs.map Value.string) Tryd.underlying39 (by kernel_rfl) kb (by rw [hcl]; exact (Nat.min_self n).symm) (fun j v hv => El.Sl.flat H j v (by rw [clS]; exact hv)) (by rw [hcl]; simp) (fun v hv => by obtain ⟨x, _, rfl⟩ := List.mem_map.1 hv; rfl)
      rw [hcl] at r
      have hk := setRow_heap W g _ ((List.replicate n (Value.string ByteArray.empty)).toArray.toList.take 0 ++ xs.map Value.string ++ (List.replicate n (Value.string ByteArray.empty)).toArray.toList.drop (0 + n)).toArray 9 (0, 0) kb
      have ho := fun k (hne : k ≠ g) => setRow_other W g k ((List.replicate n (Value.string ByteArray.empty)).toArray.toList.take 0 ++ xs.map Value.string ++ (List.replicate n (Value.string ByteArray.empty)).toArray.toList.drop (0 + n)).toArray hne
      have hz : (W.setRow g ((List.replicate n (Value.string ByteArray.empty)).toArray.toList.take 0 ++ xs.map Value.string ++ (List.replicate n (Value.string ByteArray.empty)).toArray.toList.drop (0 + n)).toArray).heap.size = W.heap.size := by simp [World.setRow]
      have hf : ∀ cs, (W.setRow g cs).os = W.os ∧ (W.setRow g cs).tape = W.tape ∧ (W.setRow g cs).output = W.output := fun cs => ⟨rfl, rfl, rfl⟩
      have e : ((List.replicate n (Value.string ByteArray.empty)).toArray.toList.take 0 ++ xs.map Value.string ++ (List.replicate n (Value.string ByteArray.empty)).toArray.toList.drop (0 + n)).toArray = (xs.map Value.string).toArray := by
        rw [List.take_zero, List.nil_append, List.drop_of_length_le (by simp), List.append_nil]
      rw [e] at r hk ho hz
      have hf := hf (xs.map Value.string).toArray
      generalize W.setRow g (xs.map Value.string).toArray = W' at *
      exact ⟨W', r, hk, ⟨hf.1, hf.2.1, hf.2.2, Nat.le_of_eq hz.symm, fun k _ hk => ho k (fun e => hk (by rw [e]))⟩⟩
/-- Both: made, and copied. -/
theorem made_copied {w w1 : World} {n c : Nat} {a : Option Addr} {xs : List ByteArray} (HS : ∀ W, Below w.heap.size w W → eStr.Sl W a n c xs) (hrow : w1.ownsRow w.heap.size 9 1 (.slice (some ⟨w.heap.size, 0, none⟩) n n) n (madeCells (Value.string ByteArray.empty).cells (n * 1)).toList) (hg1 : w.grownBy w1 none) (ty : TypeId) :
    ∃ w2, (Builtin.copy_ #[39, 39] ty #[.slice (some ⟨w.heap.size, 0, none⟩) n n, .slice a n c]).run Tryd.prog w1 = .ok (.int .i64 n) w2 ∧ Hid (eStr.Own w2 w.heap.size (.slice (some ⟨w.heap.size, 0, none⟩) n n) xs ∧ Below w.heap.size w w2) := by
  have bw1 : Below w.heap.size w w1 := below_grown (Below.refl _ _) (Nat.le_refl _) hg1 (fun k hk => by cases hk)
  have hm := made_block (by rw [Nat.mul_one] at hrow; rwa [show (madeCells (Value.string ByteArray.empty).cells n).toList = List.replicate n (.string ByteArray.empty) from toList_madeCells_one _ _] at hrow)
  obtain ⟨w2, r2, k2, g2⟩ := copy_run (HS w1 bw1) hm.1 ty
  exact ⟨w2, r2, own_block (HS w1 bw1).n k2 hm.2.1 hm.2.2, below_grown bw1 bw1.size g2 (fun j hj => by cases hj; exact Nat.le_refl _)⟩
set_option maxRecDepth 20000 in
theorem sort_any (a : Option Addr) (n c : Nat) (xs : List ByteArray) (w : World) (H : eStr.Sl w a n c xs) (hn8 : n ≤ 1048576) (F : Hid (Fm w)) (U : Hid (Tb w)) :
    Calls Tryd.prog 17 #[.slice a n c] w fun e w' => ∃ g ys, e = .returned (.slice (some ⟨g, 0, none⟩) n n) ∧ Acc eStr w w' (.slice (some ⟨g, 0, none⟩) n n) ys ∧ Std xs ys := by
  obtain ⟨i0, hi, hz0, hz1, hz2⟩ := info_parts eStr.info
  have hl := H.n
  have hc := H.c
  have hok : Hid (∀ x ∈ xs, x.size ≤ 281474976710656) := H.ok
  have HS : Hid (∀ W, Below w.heap.size w W → eStr.Sl W a n c xs) := fun W b => H.later b
  replace hl := hid hl
  clear H
  go_enter Tryd.func17, Tryd.ntmps17
  go_wp2_with (first
        | (at_make; refine wpList_make_full _ rfl _ _ 39 rfl w.heap.size 9 i0 (.string ByteArray.empty) 1 Tryd.underlying39 hi hz0 hz1 _ _ _ _ n rfl rfl rfl rfl (by rw [hz2]; show 16 * n ≤ _; omega) (by unfold maxLen; omega) (Nat.le_refl _) ?_; intro w1 hrow hg1; obtain ⟨w2, r2, h2⟩ := made_copied HS.out hrow hg1 3; clear hrow hg1))
  obtain ⟨g, hg⟩ : ∃ g, g = w.heap.size := ⟨_, rfl⟩
  have cS := hid (sort_own w w2 w.heap.size w.heap.size n xs (by rw [hl.out]; exact h2.out.1) hok.out (by rw [hl.out]; omega) F.out U.out (Nat.le_refl _) h2.out.2)
  rw [hl.out] at cS
  refine cS.out.mono ?_
  rintro e w3 ⟨rfl, ys, hst, o3, g3⟩
  have hA : Hid (Acc eStr w w3 (.slice (some ⟨w.heap.size, 0, none⟩) n n) ys) := ⟨o3, below_grown h2.out.2 h2.out.2.size g3 (fun j hj => by cases hj; exact Nat.le_refl _)⟩
  replace hst := hid hst
  clear o3 g3 cS
  go_wp2_with fail
  go_ret
  exact ⟨_, ys, rfl, hA.out, hst.out⟩
end Go.Proofs.YtcjlgjlediihoaaDoor.Sy

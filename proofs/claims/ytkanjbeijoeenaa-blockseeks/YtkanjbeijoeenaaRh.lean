/- takeBytes and isBehindLast of a reading. -/
import Derived.Test.YtkanjbeijoeenaaRg
namespace Go.Proofs.Ytkanjbeijoeenaa.Rg
open Go.ChangeShapes Go.WideShapes Go.ChangeAt Go.RowKit
open Go.Sort (grow)
open Go.Proofs.Ytkanjbeijoeenaa.By
open Go.Proofs.Ytkanjbeijoeenaa.Bl
open Go.Proofs.Ytkanjbeijoeenaa.Bm
open Go.Proofs.Ytkanjbeijoeenaa.Ik
open Go.Proofs.Ytkanjbeijoeenaa.Cm (ik)
open Go.Proofs.Ytkanjbeijoeenaa.Mb (hid box_below blk_lt new_at size_alloc cell_of fz_of set_of set_ne Fp own_blocks own_lt E ze At4 Ents OwnE OwnE.ents drew_below drewN_below region_tail compare_below)
set_option linter.unusedVariables false
set_option linter.unusedSimpArgs false

theorem Rg.base {w : World} {base g : Nat} {b : Value} {at' : Nat} {pl vk vn : Value} {key : List Int} {es : List E} (h : Rg w base g b at' pl vk vn key es) : base ≤ w.heap.size := Nat.le_of_lt (Nat.lt_of_le_of_lt h.hb (blk_lt h.blk))
set_option maxRecDepth 100000 in
theorem takeBytes_ok {w : World} {base g : Nat} {bb bo bn bc at' : Nat} {pl vk vn : Value} {key : List Int} {es : List E} (H : Rg w base g (.slice (some ⟨bb, bo, none⟩) bn bc) at' pl vk vn key es) (size : Nat) (hs : at' + size ≤ bn) (hbc : bn < bc) (hbn : bn ≤ 281474976710656) (hbc2 : bc ≤ 9223372036854775807) :
    Calls Try.prog 82 #[.pointer (some ⟨g, 0, none⟩), .int .u64 (size : Int)] w fun e w' => (∃ bo', e = .returned (.slice (some ⟨bb, bo', none⟩) size (bc - at')) ∧ (0 < size → bo' = bo + at')) ∧ Rg w' base g (.slice (some ⟨bb, bo, none⟩) bn bc) (at' + size) pl vk vn key es ∧ Below base w w' ∧ Fp (fun j => j = g) w w' := by
  obtain ⟨rem, hrem⟩ : ∃ rem, rem = bn - at' := ⟨_, rfl⟩
  obtain ⟨at2, hat2⟩ : ∃ at2, at2 = at' + size := ⟨_, rfl⟩
  rw [← hat2]
  have m1 : IntKind.i64.wrap ((bn : Int) - (at' : Int)) = (rem : Int) := by rw [IntKind.wrap_i64]; omega
  have m2 : IntKind.u64.wrap (rem : Int) = (rem : Int) := by rw [IntKind.wrap_u64]; omega
  have m3 : (size : Int) ≤ (rem : Int) := by omega
  have m4 : IntKind.i64.wrap (size : Int) = (size : Int) := by rw [IntKind.wrap_i64]; omega
  have m5 : IntKind.i64.wrap ((at' : Int) + (size : Int)) = (at2 : Int) := by rw [IntKind.wrap_i64]; omega
  have m6 : decide ((size : Int) ≤ (rem : Int)) = true := decide_eq_true m3
  have c0 : w.cell? ⟨g, 0, none⟩ = some (.slice (some ⟨bb, bo, none⟩) bn bc) := cell_of H.blk 0 _ rfl
  have c1 : w.cell? ⟨g, 1, none⟩ = some (.int .i64 (at' : Int)) := cell_of H.blk 1 _ rfl
  have HM : Hid (∀ W, Calls Try.prog 66 #[.bool true] W fun e w' => e = .returned (.tuple #[]) ∧ w' = W) := fun W => must_ok W
  have hbase := H.base
  replace H := hid H
  have n1 : (at' : Int) ≤ (at2 : Int) := by omega
  have n2 : (at2 : Int) ≤ (bn : Int) := by omega
  have n3 : (bn : Int) ≤ (bc : Int) := by omega
  have n4 : at2 - at' = size := by omega
  replace hrem := hid hrem
  replace hs := hid hs
  replace hat2 := hid hat2
  have hz' : at' < bc := by have := hs.out; omega
  go_enter Try.func82, Try.ntmps82
  go_wp2_with fail
  go_quiet (first | (go_at_call 66; exact Calls.quiet_of_same (HM.out _)))
  have b1 := drewN_below w nq
  generalize w.drewN nq = w1 at *
  have H1 := H.out.later b1
  have c1' : w1.cell? ⟨g, 1, none⟩ = some (.int .i64 (at' : Int)) := cell_of H1.blk 1 _ rfl
  have f1 : w1.frozen? ⟨g, 1, none⟩ = false := fz_of H1.blk 1
  have hS := H1.set 1 (.int .i64 (at2 : Int))
  obtain ⟨w2, hw2⟩ : ∃ W, W = w1.setCell ⟨g, 1, none⟩ (.int .i64 (at2 : Int)) := ⟨_, rfl⟩
  rw [← hw2] at hS
  have K1 : Rg w2 base g (.slice (some ⟨bb, bo, none⟩) bn bc) at2 pl vk vn key es := ⟨hS.1, hS.2.1, hS.2.2.1, H.out.hb⟩
  have B2 : Below base w w2 := (b1.mono hbase).trans hS.2.2.2
  have d0 : w2.cell? ⟨g, 0, none⟩ = some (.slice (some ⟨bb, bo, none⟩) bn bc) := cell_of K1.blk 0 _ rfl
  have d1 : w2.cell? ⟨g, 1, none⟩ = some (.int .i64 (at2 : Int)) := cell_of K1.blk 1 _ rfl
  have F2 : Fp (fun j => j = g) w w2 := by rw [hw2]; exact Fp.set (P := fun j => j = g) (Fp.of b1) (.inl rfl) 1 _
  have AFT : Hid (∀ n, Rg (w2.drewN n) base g (.slice (some ⟨bb, bo, none⟩) bn bc) at2 pl vk vn key es ∧ Below base w (w2.drewN n) ∧ Fp (fun j => j = g) w (w2.drewN n)) := fun n => ⟨K1.later (drewN_below _ n), B2.trans ((drewN_below w2 n).mono K1.base), F2.below (drewN_below w2 n)⟩
  replace hw2 := hid hw2
  clear hS K1 B2 F2 H1 b1 c0 c1
  go_wp2_with fail
  rw [← hw2.out]
  go_quiet (fail)
  go_wp2_with fail
  go_ret
  exact ⟨⟨_, rfl, fun _ => rfl⟩, AFT.out _⟩

set_option maxRecDepth 100000 in
set_option maxHeartbeats 1000000 in
theorem behind_yes {w : World} {base g : Nat} {b : Value} {at' : Nat} {pl vk vn : Value} {key : List Int} {es : List E} (H : Rg w base g b at' pl vk vn key es) (hok : ∀ x ∈ es, x.ok) (hes : es.length ≤ 1000000000) (k : ByteArray) (s c : Int) (hb : ∀ y, es.getLast? = some y → cmp y.ik (ik k s c) < 0) :
    Calls Try.prog 83 #[.pointer (some ⟨g, 0, none⟩), .agg #[.string k, .int .u64 s, .int .i64 c]] w fun e w' => e = .returned (.bool true) ∧ Below w.heap.size w w' := by
  obtain ⟨W0, hW0⟩ : ∃ W, W = w.alloc (.cells #[.string k, .int .u64 s, .int .i64 c] 36) := ⟨_, rfl⟩
  obtain ⟨g0, hg0⟩ : ∃ n, n = w.heap.size := ⟨_, rfl⟩
  have B0 : Below w.heap.size w W0 := by rw [hW0]; exact box_below _ _
  have k0 : W0.heap[g0]? = some (.cells #[.string k, .int .u64 s, .int .i64 c] 36) := by rw [hW0, hg0]; exact new_at _ _
  have H0 := H.later B0
  obtain ⟨ea, ec, rfl, hE⟩ := OwnE.ents H0.on hok
  have c4 : W0.cell? ⟨g, 4, none⟩ = some (.slice ea es.length ec) := cell_of H0.blk 4 _ rfl
  have c4' := c4
  rw [hW0] at c4'
  replace B0 := hid B0
  cases hl : es.getLast? with
  | none =>
    have := List.getLast?_eq_none_iff.1 hl
    subst this
    clear H H0 k0 hb hE hok hes
    replace hW0 := hid hW0
    replace hg0 := hid hg0
    have AFT : Hid (∀ n, Below w.heap.size w (W0.drewN n)) := fun n => B0.out.trans ((drewN_below W0 n).mono B0.out.size)
    have d4 := c4
    go_enter Try.func83, Try.ntmps83
    go_wp2_with fail
    rw [← hW0.out, ← hg0.out]
    go_quiet (fail)
    go_wp2_with fail
    go_ret
    exact ⟨rfl, AFT.out _⟩
  | some y =>
    obtain ⟨ys, hys⟩ := List.getLast?_eq_some_iff.1 hl
    have hq : es.length = ys.length + 1 := by rw [hys, List.length_append]; rfl
    have hC0 := hb y hl
    cases ea with
    | none => exact absurd (hE.2.2.1 rfl).1 (by omega)
    | some had =>
      obtain ⟨hb', ho', hp'⟩ := had
      obtain ⟨rfl, hha⟩ := hE.2.2.2.2 hb' ho' hp' rfl (by omega)
      have hlast := hha ys.length (by omega)
      have hgy : es.getD ys.length ze = y := by rw [hys]; simp [List.getD_eq_getElem?_getD]
      rw [hgy] at hlast
      have hC : Hid (∀ W, Calls Try.prog 29 #[.agg #[.string y.k, .int .u64 y.s, .int .i64 y.c], .agg #[.string k, .int .u64 s, .int .i64 c]] W fun e w' => e = .returned (.int .i64 (cmp y.ik (ik k s c))) ∧ Below W.heap.size W w') := fun W => compare_below _ _ _ _ _ _ W
      have l0 := cell_regrown hlast.1
      have l1 := cell_regrown hlast.2.1
      have l2 := cell_regrown hlast.2.2.1
      have x0 := cell_regrown (cell_of k0 0 _ rfl)
      have x1 := cell_regrown (cell_of k0 1 _ rfl)
      have x2 := cell_regrown (cell_of k0 2 _ rfl)
      have c4r := cell_regrown c4
      have hhc := hE.2.1
      generalize hHN : es.length = HN at *
      generalize ys.length = q at *
      have hq1 : IntKind.i64.wrap ((HN : Int) - 1) = (q : Int) := by rw [IntKind.wrap_i64]; omega
      have hq2 : (q : Int) < (HN : Int) := by omega
      have hq3 : ((HN : Int) == 0) = false := by rw [beq_eq_false_iff_ne]; omega
      generalize cmp y.ik (ik k s c) = C at *
      have hCd : decide (C < 0) = true := decide_eq_true hC0
      replace hW0 := hid hW0
      replace hg0 := hid hg0
      replace hHN := hid hHN
      replace hq := hid hq
      clear H H0 hb hE hok hl hys hlast hgy hha k0 c4 hes
      go_enter Try.func83, Try.ntmps83
      go_wp2_with fail
      rw [← hW0.out, ← hg0.out]
      refine wp_region_quiet_below (by kernel_rfl) (by kernel_rfl) ?_
      repeat (first | go_big_quiet_step (first | (go_at_call 29; exact Calls.regrown_of (hC.out _))) | quiet_step (first | (go_at_call 29; exact Calls.regrown_of (hC.out _))))
      refine wpQuiet_nil ?_
      intro w3 hw3
      have b3 : Below W0.heap.size W0 w3 := by
        obtain ⟨⟨dq, osq⟩, hw''⟩ := hw3
        rw [hw'']
        exact below_regrown _ dq osq
      have B3 : Hid (Below w.heap.size w w3) := B0.out.trans (b3.mono B0.out.size)
      clear hw3 b3 l0 l1 l2 x0 x1 x2 c4r c4' hC
      go_wp2_with fail
      go_ret
      exact ⟨rfl, B3.out⟩
end Go.Proofs.Ytkanjbeijoeenaa.Rg

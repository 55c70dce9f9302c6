/- The document's Move and Seek; moves that came in. -/
import Derived.Test.YtgjodfaliajlgaaLm9
import Derived.Test.YtgjodfaliajlgaaOe9
namespace Go.Proofs.Ytgjodfaliajlgaa.Ms9
open Go.ChangeShapes Go.WideShapes Go.ChangeAt Go.RowKit
open Go.Sort (grow)
open Go.Proofs.Ytgjodfaliajlgaa.Gr hiding hid addr_add
open Go.Proofs.Ytgjodfaliajlgaa.Ik
open Go.Proofs.Ytgjodfaliajlgaa.Ee
open Go.Proofs.Ytgjodfaliajlgaa.Sd hiding below_grown
open Go.Proofs.Ytgjodfaliajlgaa.Mi
open Go.Proofs.Ytgjodfaliajlgaa.Cm (ik rcompare_any)
open Go.Proofs.Ytgjodfaliajlgaa.Rcm
open Go.Proofs.Ytgjodfaliajlgaa.Sk9 (Cut)
set_option linter.unusedVariables false
set_option linter.unusedSimpArgs false

/-- Where the walk stands behind a move. -/
def mv (n p k t : Int) : Int :=
  if k = 0 then 0 else if k = 1 then n - 1 else if k = 2 then t else if k = 3 then (if p < n then p + 1 else p) else if k = 4 then (if 0 ≤ p then p - 1 else p) else p
set_option maxHeartbeats 1000000 in
theorem rmove_any (n : Nat) (p k t : Int) (w : World) (hn : n ≤ 1000000000) (hp : -1 ≤ p ∧ p ≤ (n : Int)) :
    Calls Try.prog 13 #[.int .i64 (n : Int), .int .i64 p, .int .i64 k, .int .i64 t] w fun e w' => e = .returned (.int .i64 (mv n p k t)) ∧ w' = w := by
  obtain ⟨M, hM⟩ : ∃ M, M = mv n p k t := ⟨_, rfl⟩
  rw [← hM]
  have hp1 := hp.1
  have hp2 := hp.2
  clear hp
  unfold mv at hM
  by_cases h0 : k = 0
  · subst h0
    rw [if_pos rfl] at hM
    subst hM
    go_enter Try.func13, Try.ntmps13
    go_wp2_with fail
    go_ret
    exact ⟨rfl, rfl⟩
  · rw [if_neg h0] at hM
    have b0 : (k == 0) = false := by rw [beq_eq_false_iff_ne]; exact h0
    by_cases h1 : k = 1
    · subst h1
      rw [if_pos rfl] at hM
      have e1 : IntKind.i64.wrap ((n : Int) - 1) = M := by rw [hM, IntKind.wrap_i64]; omega
      go_enter Try.func13, Try.ntmps13
      go_wp2_with fail
      go_ret
      first | exact ⟨rfl, rfl⟩ | exact ⟨by rw [hM]; rfl, rfl⟩
    · rw [if_neg h1] at hM
      have b1 : (k == 1) = false := by rw [beq_eq_false_iff_ne]; exact h1
      by_cases h2 : k = 2
      · subst h2
        rw [if_pos rfl] at hM
        subst hM
        go_enter Try.func13, Try.ntmps13
        go_wp2_with fail
        go_ret
        exact ⟨rfl, rfl⟩
      · rw [if_neg h2] at hM
        have b2 : (k == 2) = false := by rw [beq_eq_false_iff_ne]; exact h2
        by_cases h3 : k = 3
        · subst h3
          rw [if_pos rfl] at hM
          by_cases hq : p < (n : Int)
          · rw [if_pos hq] at hM
            have e1 : IntKind.i64.wrap (p + 1) = M := by rw [hM, IntKind.wrap_i64]; omega
            go_enter Try.func13, Try.ntmps13
            go_wp2_with fail
            go_ret
            first | exact ⟨rfl, rfl⟩ | exact ⟨by rw [hM]; rfl, rfl⟩
          · rw [if_neg hq] at hM
            subst hM
            go_enter Try.func13, Try.ntmps13
            go_wp2_with fail
            go_ret
            exact ⟨rfl, rfl⟩
        · rw [if_neg h3] at hM
          have b3 : (k == 3) = false := by rw [beq_eq_false_iff_ne]; exact h3
          by_cases h4 : k = 4
          · subst h4
            rw [if_pos rfl] at hM
            by_cases hq : 0 ≤ p
            · rw [if_pos hq] at hM
              have e1 : IntKind.i64.wrap (p - 1) = M := by rw [hM, IntKind.wrap_i64]; omega
              go_enter Try.func13, Try.ntmps13
              go_wp2_with fail
              go_ret
              first | exact ⟨rfl, rfl⟩ | exact ⟨by rw [hM]; rfl, rfl⟩
            · rw [if_neg hq] at hM
              subst hM
              go_enter Try.func13, Try.ntmps13
              go_wp2_with fail
              go_ret
              exact ⟨rfl, rfl⟩
          · rw [if_neg h4] at hM
            have b4 : (k == 4) = false := by rw [beq_eq_false_iff_ne]; exact h4
            subst hM
            go_enter Try.func13, Try.ntmps13
            go_wp2_with fail
            go_ret
            exact ⟨rfl, rfl⟩


set_option maxRecDepth 100000 in
set_option maxHeartbeats 2000000 in
theorem rseek_any (a : Option Addr) (n c m : Nat) (L : List It) (k : ByteArray) (s q : Int) (w : World) (H : eI.Sl w a n c L) (hn : n ≤ 1000000000) (hm : Cut (L.map It.e) (ik k s q) m) :
    Calls Try.prog 14 #[.slice a n c, .agg #[.string k, .int .u64 s, .int .i64 q]] w fun e w' => e = .returned (.int .i64 (m : Int)) ∧ Below w.heap.size w w' := by
  have hlen := H.n
  have hcap := H.c
  have hmn : m ≤ n := by have := hm.1; rw [List.length_map] at this; omega
  obtain ⟨W, hW⟩ : ∃ W, W = w.alloc (.cells #[.string k, .int .u64 s, .int .i64 q] 33) := ⟨_, rfl⟩
  have B : Hid (Below w.heap.size w W) := by show Below _ _ _; rw [hW]; exact box_below _ _
  obtain ⟨g0, hg0⟩ : ∃ g, g = w.heap.size := ⟨_, rfl⟩
  have k0 : Hid (W.heap[g0]? = some (.cells #[.string k, .int .u64 s, .int .i64 q] 33)) := by show _ = _; rw [hW, hg0]; exact new_at _ _
  replace H := hid H
  replace hm := hid hm
  replace hW := hid hW
  replace hg0 := hid hg0
  replace hlen := hid hlen
  go_enter Try.func14, Try.ntmps14
  go_wp2_with fail
  rw [← hW.out, ← hg0.out]
  go_loopw [5] (fun iv wr => ∃ i : Nat, i ≤ m ∧ iv = .int .i64 (i : Int) ∧ Hid (Below W.heap.size W wr)) (fun iv _ => m - (intOf iv).toNat)
  case atStart => exact ⟨0, by omega, rfl, Below.refl _ _⟩
  case round =>
    obtain ⟨i, hi, rfl, HB⟩ := hrel
    have BW : Below w.heap.size w wr := B.out.trans (HB.out.mono B.out.size)
    by_cases hin : i < n
    · have hi2 : (i : Int) < (n : Int) := by omega
      have hi3 : decide ((i : Int) < (n : Int)) = true := decide_eq_true hi2
      obtain ⟨hb, ho, ha, hx⟩ := sl_at (H.out.later BW) i hin
      subst ha
      have hx := it_at hx
      rw [show eI.k = 5 from rfl, show eI.z = zi from rfl] at hx
      obtain ⟨l0, l1, l2, l3, -⟩ := hx
      have k1 := (HB.out.block _ (blk_lt k0.out)).trans k0.out
      have z0 := cell_regrown (cell_of k1 0 _ rfl)
      have z1 := cell_regrown (cell_of k1 1 _ rfl)
      have z2 := cell_regrown (cell_of k1 2 _ rfl)
      replace l0 := cell_regrown l0
      replace l1 := cell_regrown l1
      replace l2 := cell_regrown l2
      replace l3 := cell_regrown l3
      have hge : (L.map It.e).getD i ze = (L.getD i zi).e := by
        rw [List.getD_eq_getElem?_getD, List.getD_eq_getElem?_getD, List.getElem?_map]
        cases L[i]? <;> rfl
      have hlo : i < m → cmp (L.getD i zi).e.ik (ik k s q) < 0 := fun h => by have := hm.out.2.1 i h; rwa [hge] at this
      have hhi : ¬ i < m → ¬ cmp (L.getD i zi).e.ik (ik k s q) < 0 := fun h => by have := hm.out.2.2 i (by omega) (by rw [List.length_map]; have := hlen.out; omega); rwa [hge] at this
      clear hge
      generalize (L.getD i zi).e = y at *
      have hC : Hid (∀ W, Calls Try.prog 37 #[.agg #[.string y.k, .int .u64 y.s, .int .i64 y.c], .agg #[.string k, .int .u64 s, .int .i64 q]] W fun e w' => e = .returned (.int .i64 (cmp y.ik (ik k s q))) ∧ Below W.heap.size W w') := fun W => rcompare_any _ _ _ _ _ _ W
      generalize cmp y.ik (ik k s q) = C at *
      replace hlo := hid hlo
      replace hhi := hid hhi
      replace BW := hid BW
      clear k1
      generalize y.k = yk at *
      generalize y.s = ys at *
      generalize y.c = yc at *
      generalize y.v = yv at *
      go_wp2_with fail
      refine wp_region_quiet_below (by kernel_rfl) (by kernel_rfl) ?_
      repeat (first | go_big_quiet_step (first | (go_at_call 38; exact Calls.regrown_of (rkey_any _ _ _ _ _)) | (go_at_call 37; exact Calls.regrown_of (hC.out _))) | quiet_step (first | (go_at_call 38; exact Calls.regrown_of (rkey_any _ _ _ _ _)) | (go_at_call 37; exact Calls.regrown_of (hC.out _))))
      refine wpQuiet_nil ?_
      intro w5 hw5
      have b5 : Below wr.heap.size wr w5 := by
        obtain ⟨⟨dq, osq⟩, hw''⟩ := hw5
        rw [hw'']
        exact below_regrown _ dq osq
      have B5 := hid (HB.out.trans (b5.mono HB.out.size))
      have BW5 := hid (BW.out.trans (b5.mono BW.out.size))
      clear hw5 b5 z0 z1 z2 l0 l1 l2 l3 hC
      by_cases him : i < m
      · have hC0 := hlo.out him
        have hC2 : decide (C < 0) = true := decide_eq_true hC0
        have hwr : IntKind.i64.wrap ((i : Int) + 1) = ((i + 1 : Nat) : Int) := by rw [IntKind.wrap_i64]; omega
        go_wp2_with fail
        refine ⟨⟨i + 1, by omega, by first | rfl | go_num, B5⟩, ?_⟩
        simp only [intOf]; omega
      · have hC0 := hhi.out him
        have hC2 : decide (C < 0) = false := decide_eq_false (by have := hC0; omega)
        obtain rfl : i = m := by omega
        go_wp2_with fail
        go_ret
        exact ⟨rfl, BW5.out⟩
    · have hi2 : ¬ (i : Int) < (n : Int) := by omega
      have hi3 : decide ((i : Int) < (n : Int)) = false := decide_eq_false hi2
      obtain rfl : i = m := by omega
      have BN : Hid (∀ nn, Below w.heap.size w (wr.drewN nn)) := fun nn => BW.trans ((drewN_below wr nn).mono BW.size)
      clear BW
      go_wp2_with fail
      go_quiet (fail)
      go_wp2_with fail
      go_ret
      exact ⟨rfl, BN.out _⟩
end Go.Proofs.Ytgjodfaliajlgaa.Ms9

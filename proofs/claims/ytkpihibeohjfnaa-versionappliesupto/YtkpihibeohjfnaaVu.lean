/- sort.Search, keep, firstAbove by their contracts. -/
import Derived.Test.YtkpihibeohjfnaaVt
import Derived.Shelf.Abstract
namespace Go.Proofs.Ytkpihibeohjfnaa.Vu
open Go.ChangeShapes Go.WideShapes Go.ChangeAt Go.RowKit
open Go.Proofs.Ytkpihibeohjfnaa.Gr
open Go.Proofs.Ytkpihibeohjfnaa.Ev
open Go.Proofs.Ytkpihibeohjfnaa.Oe
open Go.Proofs.Ytkpihibeohjfnaa.Lv
open Go.Proofs.Ytkpihibeohjfnaa.Vp
open Go.Proofs.Ytkpihibeohjfnaa.Vq
open Go.Proofs.Ytkpihibeohjfnaa.Vr
open Go.Proofs.Ytkpihibeohjfnaa.Vt
open Go.Proofs.Ytkpihibeohjfnaa.Lx (lt)
set_option linter.unusedVariables false
set_option linter.unusedSimpArgs false

/-- What a binary search finds. -/
structure Found (p : Nat → Bool) (n r : Nat) : Prop where
  le : r ≤ n
  lo : ∀ i, i < r → p i = false
  hi : ∀ i, r ≤ i → i < n → p i = true
set_option maxHeartbeats 1000000 in
theorem search_any (g : Nat) (c1 c2 : Value) (p : Nat → Bool) (n : Nat) (w : World) (hn : n ≤ 1048576) (mono : ∀ i j, i ≤ j → j < n → p i = true → p j = true)
    (eg : ∀ args w, (callFunc g args).run Try.prog w = .ok (.enter g args) w)
    (hcall : ∀ i, i < n → ∀ W, Below w.heap.size w W → Calls Try.prog g #[.int .i64 i, c1, c2] W fun e w' => e = .returned (.bool (p i)) ∧ Below W.heap.size W w') :
    Calls Try.prog 51 #[.int .i64 n, .func (.func g) #[] #[c1, c2]] w fun e w' => (∃ r : Nat, e = .returned (.int .i64 r) ∧ Found p n r) ∧ Below w.heap.size w w' := by
  have hc := hid hcall
  replace mono := hid mono
  clear hcall
  go_enter Try.func51, Try.ntmps51
  go_wp2_with fail
  go_loopw [5, 6] (fun a b wr => ∃ i j : Nat, a = .int .i64 i ∧ b = .int .i64 j ∧ i ≤ j ∧ j ≤ n ∧ (∀ k, k < i → p k = false) ∧ (∀ k, j ≤ k → k < n → p k = true) ∧ Below w.heap.size w wr) (fun a b _ => (intOf b).toNat - (intOf a).toNat)
  case atStart => exact ⟨0, n, rfl, rfl, by omega, by omega, fun k hk => by omega, fun k hk hk' => by omega, Below.refl _ _⟩
  case round =>
    obtain ⟨i, j, rfl, rfl, hij, hjn, h1, h2, bw⟩ := hrel
    replace h1 := hid h1
    replace h2 := hid h2
    by_cases hlt : i < j
    · obtain ⟨m, hm⟩ : ∃ m, m = (i + j) / 2 := ⟨_, rfl⟩
      have hm1 : i ≤ m := by omega
      have hm2 : m < j := by omega
      have hcm := hid (hc.out m (by omega) wr bw)
      have hsh : ((i : Int) + (j : Int)) / 2 = (m : Int) := by omega
      replace hm := hid hm
      replace bw := hid bw
      generalize hpm : p m = B at hcm
      cases B with
      | true =>
        have h2' : Hid (∀ k, m ≤ k → k < n → p k = true) := fun k hk hkn => mono.out m k hk hkn hpm
        clear hpm
        go_wp2_with (first | (go_at_fn g; refine hcm.out.mono ?_; rintro e w1 ⟨rfl, b1⟩; replace b1 := hid b1))
        go_roundw
        case rel => exact ⟨i, m, rfl, by first | rfl | go_num, hm1, by omega, h1.out, h2'.out, Below.up bw.out b1.out⟩
        case measure => simp [intOf]; omega
      | false =>
        have h1' : Hid (∀ k, k < m + 1 → p k = false) := by
          intro k hk
          cases hpk : p k with
          | false => rfl
          | true => have := mono.out k m (by omega) (by omega) hpk; rw [hpm] at this; cases this
        clear hpm
        go_wp2_with (first | (go_at_fn g; refine hcm.out.mono ?_; rintro e w1 ⟨rfl, b1⟩; replace b1 := hid b1))
        go_roundw
        case rel => exact ⟨m + 1, j, by go_num, rfl, by omega, by omega, h1'.out, h2.out, Below.up bw.out b1.out⟩
        case measure => simp [intOf]; omega
    · have hie : i = j := by omega
      subst hie
      have hF : Hid (Found p n i) := ⟨hjn, h1.out, fun k hk hkn => h2.out k hk hkn⟩
      replace bw := hid bw
      go_wp2_with fail
      go_ret
      exact ⟨⟨i, rfl, hF.out⟩, bw.out⟩
set_option maxHeartbeats 1000000 in
theorem above1 (g1 g2 : Nat) (la : Option Addr) (ln lc : Nat) (fs : List Fi) (key : ByteArray) (w : World) (k1 : w.cell? ⟨g1, 0, none⟩ = some (.slice la ln lc)) (k2 : w.cell? ⟨g2, 0, none⟩ = some (.string key)) (H : eFi.Sl w la ln lc fs) (i : Nat) (hi : i < ln) (hn : ln ≤ 1048576) :
    Calls Try.prog 64 #[.int .i64 i, .pointer (some ⟨g1, 0, none⟩), .pointer (some ⟨g2, 0, none⟩)] w fun e w' => e = .returned (.bool (lt key (fs.getD i zf).b)) ∧ Below w.heap.size w w' := by
  obtain ⟨b, o, rfl, hat⟩ := get1 H i hi
  have hA := (fi_at (hat i hi)).2.2.2.1
  have hlc := H.c
  rw [show eFi.z = zf from rfl, show eFi.k = 6 from rfl] at hA
  clear hat H
  generalize (fs.getD i zf).b = s at *
  have gs := Lx.gtr_s 9 s key
  change binOp .gtr 9 (.string s) (.string key) = pure (.bool (lt key s)) at gs
  generalize lt key s = B at *
  have ik0 : (i : Int) < (ln : Int) := by omega
  have ok0 : (0 : Int) ≤ (i : Int) := by omega
  go_enter Try.func64, Try.ntmps64
  go_wp2_with fail
  go_quiet (fail)
  go_wp2_with fail
  go_ret
  exact ⟨rfl, drewN_below _ _⟩
theorem boxes2 (w : World) (A B : Array Value) (t u : TypeId) : ∃ W g1 g2, W = (w.alloc (.cells A t)).alloc (.cells B u) ∧ g1 = w.heap.size ∧ g2 = g1 + 1 ∧ W.heap[g1]? = some (.cells A t) ∧ W.heap[g2]? = some (.cells B u) ∧ Below w.heap.size w W := by
  refine ⟨_, _, _, rfl, rfl, rfl, ?_, ?_, Below.up (box_below _ _) (box_below _ _)⟩
  · exact ((box_below (w.alloc (.cells A t)) (.cells B u)).block _ (by rw [size_alloc]; omega)).trans (new_at _ _)
  · have := new_at (w.alloc (.cells A t)) (.cells B u)
    rwa [size_alloc] at this
theorem cell_later {w W : World} {a : Addr} {v : Value} (h : w.cell? a = some v) (b : Below w.heap.size w W) : W.cell? a = some v := (b.cell (block_lt_of_cell h)).trans h
/-- Where a key's file may be: the first one whose Limit is above it. -/
abbrev above (key : ByteArray) (fs : List Fi) (i : Nat) : Bool := lt key (fs.getD i zf).b
set_option maxHeartbeats 1000000 in
theorem first_any (la : Option Addr) (ln lc : Nat) (fs : List Fi) (key : ByteArray) (w : World) (H : eFi.Sl w la ln lc fs) (hn : ln ≤ 1048576) (mono : ∀ i j, i ≤ j → j < ln → above key fs i = true → above key fs j = true) :
    Calls Try.prog 50 #[.slice la ln lc, .string key] w fun e w' => (∃ r : Nat, e = .returned (.int .i64 r) ∧ Found (above key fs) ln r) ∧ Below w.heap.size w w' := by
  obtain ⟨W, g1, g2, hW, hg1, hg2, k1, k2, bW⟩ := boxes2 w #[.slice la ln lc] #[.string key] 39 9
  have hlc := H.c
  have q1 := cell_of k1 0 _ rfl
  have q2 := cell_of k2 0 _ rfl
  have HS := hid (search_any 64 (.pointer (some ⟨g1, 0, none⟩)) (.pointer (some ⟨g2, 0, none⟩)) (above key fs) ln W hn mono (enters_of Try.func64 (by kernel_rfl) rfl) (fun i hi W' b => above1 g1 g2 la ln lc fs key W' (cell_later q1 b) (cell_later q2 b) (H.later (Below.up bW b)) i hi hn))
  replace hW := hid hW
  replace hg1 := hid hg1
  replace hg2 := hid hg2
  replace bW := hid bW
  clear k1 k2 H mono
  go_enter Try.func50, Try.ntmps50
  go_wp2_with (first | (go_at_call 51; rw [← hW.out, ← hg1.out, ← hg2.out]; refine HS.out.mono ?_; rintro e w1 ⟨⟨r, rfl, hF⟩, b1⟩; replace hF := hid hF; replace b1 := hid b1))
  go_ret
  exact ⟨⟨r, rfl, hF.out⟩, Below.up bW.out b1.out⟩
end Go.Proofs.Ytkpihibeohjfnaa.Vu

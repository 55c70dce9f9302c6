/- Check and Size: by the program and by the document's definition. -/
import Derived.Test.YtmceanfgcehfeabOs
namespace Go.Proofs.Ytmceanfgcehfeab.Ob
open Go.ChangeShapes Go.WideShapes Go.ChangeAt Go.RowKit
open Go.Proofs.Ytmceanfgcehfeab.By (ret_int)
set_option linter.unusedVariables false

/-- What Check tells. -/
def chk (xs : List O) : Int × Int := if 4096 < xs.length then (0, 3) else match bad xs with
  | some i => ((i : Int), 40)
  | none => if 1048576 < bsz xs then (0, 3) else (0, 0)
theorem ret2 {k1 k2 : IntKind} {a b : Int} {t : Int × Int} (h : (a, b) = t) : Ending.returned (.tuple #[.int k1 a, .int k2 b]) = .returned (.tuple #[.int k1 t.1, .int k2 t.2]) := by rw [← h]
theorem chk_long {xs : List O} (h : 4096 < xs.length) : chk xs = (0, 3) := by unfold chk; rw [if_pos h]
theorem chk_bad {xs : List O} {i : Nat} (h : ¬ 4096 < xs.length) (hb : bad xs = some i) : chk xs = ((i : Int), 40) := by unfold chk; rw [if_neg h, hb]
theorem chk_big {xs : List O} (h : ¬ 4096 < xs.length) (hb : bad xs = none) (hs : 1048576 < bsz xs) : chk xs = (0, 3) := by unfold chk; rw [if_neg h, hb]; simp only; rw [if_pos hs]
theorem chk_ok {xs : List O} (h : ¬ 4096 < xs.length) (hb : bad xs = none) (hs : ¬ 1048576 < bsz xs) : chk xs = (0, 0) := by unfold chk; rw [if_neg h, hb]; simp only; rw [if_neg hs]
theorem chk_parts {xs : List O} (h : (chk xs).2 = 0) : xs.length ≤ 4096 ∧ bad xs = none ∧ bsz xs ≤ 1048576 ∧ chk xs = (0, 0) := by
  by_cases h1 : 4096 < xs.length
  · rw [chk_long h1] at h; simp at h
  · cases hb : bad xs with
    | some i => rw [chk_bad h1 hb] at h; simp at h
    | none =>
      by_cases h2 : 1048576 < bsz xs
      · rw [chk_big h1 hb h2] at h; simp at h
      · exact ⟨by omega, rfl, by omega, chk_ok h1 hb h2⟩
theorem chk_cases (xs : List O) : chk xs = (0, 0) ∨ (chk xs).2 = 3 ∨ (chk xs).2 = 40 := by
  by_cases h1 : 4096 < xs.length
  · rw [chk_long h1]; exact .inr (.inl rfl)
  · cases hb : bad xs with
    | some i => rw [chk_bad h1 hb]; exact .inr (.inr rfl)
    | none =>
      by_cases h2 : 1048576 < bsz xs
      · rw [chk_big h1 hb h2]; exact .inr (.inl rfl)
      · exact .inl (chk_ok h1 hb h2)
set_option maxHeartbeats 1000000 in
theorem check_any (a : Option Addr) (len cap : Nat) (xs : List O) (w : World) (H : Ops w a len cap xs) (hl : len ≤ 140737488351232) :
    Calls Try.prog 43 #[.slice a len cap] w fun e w' => e = .returned (.tuple #[.int .i64 (chk xs).1, .int .i64 (chk xs).2]) ∧ Below w.heap.size w w' := by
  have hx := H.1
  by_cases h1 : 4096 < len
  · have HC : Hid (chk xs = (0, 3)) := chk_long (by omega)
    have i1 : (4096 : Int) < (len : Int) := by omega
    clear hx h1
    go_enter Try.func43, Try.ntmps43
    go_wp2_with fail
    go_ret2
    exact ⟨ret2 HC.out.symm, Below.refl _ _⟩
  · have i1 : ¬ (4096 : Int) < (len : Int) := by omega
    have FI := hid (index_any a len cap xs w H hl)
    have HH := hid H
    clear H
    cases hb : bad xs with
    | some i =>
      have HC : Hid (chk xs = ((i : Int), 40)) := chk_bad (by omega) hb
      have hi : idx xs = i := by unfold idx; rw [hb]
      have FI2 : Hid (Calls Try.prog 56 #[.slice a len cap, .func (.func 57) #[] #[]] w fun e w' => e = .returned (.int .i64 (i : Int)) ∧ Below w.heap.size w w') := by rw [← hi]; exact FI.out
      have i2 : (0 : Int) ≤ (i : Int) := by omega
      clear FI hi hb hx h1
      go_enter Try.func43, Try.ntmps43
      go_wp2_with fail
      refine FI2.out.mono ?_
      rintro e w1 ⟨rfl, b1⟩
      go_wp2_with fail
      go_ret2
      exact ⟨ret2 HC.out.symm, b1⟩
    | none =>
      have hi : idx xs = -1 := by unfold idx; rw [hb]
      have FI2 : Hid (Calls Try.prog 56 #[.slice a len cap, .func (.func 57) #[] #[]] w fun e w' => e = .returned (.int .i64 (-1)) ∧ Below w.heap.size w w') := by rw [← hi]; exact FI.out
      obtain ⟨N, hN⟩ : ∃ N, N = bsz xs := ⟨_, rfl⟩
      have HN : Hid (N = bsz xs) := hN
      have HM : Hid (∀ x ∈ xs, may x = true) := all_may xs hb
      by_cases h2 : 1048576 < N
      · have HC : Hid (chk xs = (0, 3)) := chk_big (by omega) hb (by omega)
        have i2 : (1048576 : Int) < (N : Int) := by omega
        clear FI hi hb hN hx h2
        go_enter Try.func43, Try.ntmps43
        go_wp2_with fail
        refine FI2.out.mono ?_
        rintro e w1 ⟨rfl, b1⟩
        go_wp2_with fail
        refine (sizeof_any a len cap xs w1 (HH.out.later b1) (by omega) HM.out).mono ?_
        rintro e w2 ⟨rfl, b2⟩
        rw [← HN.out]
        have HB2 : Hid (Below w.heap.size w w2) := b1.trans (b2.mono b1.size)
        clear b1 b2
        go_wp2_with fail
        go_ret2
        exact ⟨ret2 HC.out.symm, HB2.out⟩
      · have HC : Hid (chk xs = (0, 0)) := chk_ok (by omega) hb (by omega)
        have i2 : ¬ (1048576 : Int) < (N : Int) := by omega
        clear FI hi hb hN hx h2
        go_enter Try.func43, Try.ntmps43
        go_wp2_with fail
        refine FI2.out.mono ?_
        rintro e w1 ⟨rfl, b1⟩
        go_wp2_with fail
        refine (sizeof_any a len cap xs w1 (HH.out.later b1) (by omega) HM.out).mono ?_
        rintro e w2 ⟨rfl, b2⟩
        rw [← HN.out]
        have HB2 : Hid (Below w.heap.size w w2) := b1.trans (b2.mono b1.size)
        clear b1 b2
        go_wp2_with fail
        go_ret2
        exact ⟨ret2 HC.out.symm, HB2.out⟩
set_option maxHeartbeats 2000000 in
theorem rcheck_any (a : Option Addr) (len cap : Nat) (xs : List O) (w : World) (H : Ops w a len cap xs) (hl : len ≤ 140737488351232) :
    Calls Try.prog 32 #[.slice a len cap] w fun e w' => e = .returned (.tuple #[.int .i64 (chk xs).1, .int .i64 (chk xs).2]) ∧ Below w.heap.size w w' := by
  have hx := H.1
  by_cases h1 : 4096 < len
  · have HC : Hid (chk xs = (0, 3)) := chk_long (by omega)
    have i1 : (4096 : Int) < (len : Int) := by omega
    clear hx h1
    go_enter Try.func32, Try.ntmps32
    go_wp2_with fail
    go_ret2
    exact ⟨ret2 HC.out.symm, Below.refl _ _⟩
  · have i1 : ¬ (4096 : Int) < (len : Int) := by omega
    have HX : Hid (xs.length = len) := hx
    have HH := hid H
    clear H hx
    go_enter Try.func32, Try.ntmps32
    go_wp2_with fail
    go_loopw [4] (fun i wr => ∃ k : Nat, i = .int .i64 k ∧ k ≤ len ∧ Hid (∀ j, j < k → may (xs.getD j zo) = true) ∧ Hid (Below w.heap.size w wr)) (fun i _ => len - (intOf i).toNat)
    case atStart => exact ⟨0, rfl, by omega, fun j hj => by omega, Below.refl _ _⟩
    case round =>
      obtain ⟨k, rfl, hk, hj, hbel⟩ := hrel
      by_cases hlt : k < len
      · cases a with
        | none => have := (HH.out.2.2.1 rfl).1; omega
        | some ad =>
          obtain ⟨b, off, sp⟩ := ad
          obtain ⟨rfl, hat⟩ := HH.out.2.2.2.2 b off sp rfl (by omega)
          have hat := (hat k hlt).later hbel.out
          obtain ⟨x, hx⟩ : ∃ x, x = xs.getD k zo := ⟨_, rfl⟩
          rw [← hx] at hat
          have HX2 : Hid (x = xs.getD k zo) := hx
          clear hx
          obtain ⟨xc, xk, xv⟩ := x
          obtain ⟨a1, a2, a3⟩ := hat
          simp only at a1 a2 a3
          have ik0 : (k : Int) < (len : Int) := by omega
          have hlc := HH.out.2.1
          have M := rmay_any xc xk xv wr
          cases hm : may ⟨xc, xk, xv⟩ with
          | true =>
            rw [hm] at M
            have HM := hid M
            have HX3 : Hid (∀ j, j < k + 1 → may (xs.getD j zo) = true) := fun j h => by
              by_cases e : j = k
              · subst e; rw [← HX2.out]; exact hm
              · exact hj.out j (by omega)
            clear M hm HX2 hj
            go_wp2_with fail
            refine HM.out.mono ?_
            rintro e w2 ⟨rfl, b2⟩
            have HB2 : Hid (Below w.heap.size w w2) := hbel.out.trans (b2.mono hbel.out.size)
            clear HM b2 hbel a1 a2 a3
            go_wp2_with fail
            go_roundw
            case rel => exact ⟨k + 1, by go_num, by omega, HX3, HB2⟩
            case measure => simp [intOf]; omega
          | false =>
            rw [hm] at M
            have HM := hid M
            have HC : Hid (chk xs = ((k : Int), 40)) := chk_bad (by have := HX.out; omega) (bad_some xs k hj.out (by have := HX.out; omega) (by rw [← HX2.out]; exact hm))
            clear M hm HX2 hj
            go_wp2_with fail
            refine HM.out.mono ?_
            rintro e w2 ⟨rfl, b2⟩
            have HB2 : Hid (Below w.heap.size w w2) := hbel.out.trans (b2.mono hbel.out.size)
            clear HM b2 hbel a1 a2 a3
            go_wp2_with fail
            go_ret2
            exact ⟨ret2 HC.out.symm, HB2.out⟩
      · have hb := bad_none xs (fun j h => hj.out j (by have := HX.out; omega))
        have HM : Hid (∀ x ∈ xs, may x = true) := all_may xs hb
        obtain ⟨N, hN⟩ : ∃ N, N = bsz xs := ⟨_, rfl⟩
        have HN : Hid (N = bsz xs) := hN
        have FS := rsize_any a len cap xs wr (HH.out.later (hbel.out)) (by omega) HM.out
        rw [← hN] at FS
        have HFS := hid FS
        have hl2 : ¬ 4096 < xs.length := by have := HX.out; omega
        by_cases h2 : 1048576 < N
        · have HC : Hid (chk xs = (0, 3)) := chk_big hl2 hb (by omega)
          have i2 : (1048576 : Int) < (N : Int) := by omega
          clear hb hN h2 FS hj hl2
          go_wp2_with fail
          refine HFS.out.mono ?_
          rintro e w2 ⟨rfl, b2⟩
          have HB2 : Hid (Below w.heap.size w w2) := hbel.out.trans (b2.mono hbel.out.size)
          clear b2 hbel
          go_wp2_with fail
          go_ret2
          exact ⟨ret2 HC.out.symm, HB2.out⟩
        · have HC : Hid (chk xs = (0, 0)) := chk_ok hl2 hb (by omega)
          have i2 : ¬ (1048576 : Int) < (N : Int) := by omega
          clear hb hN h2 FS hj hl2
          go_wp2_with fail
          refine HFS.out.mono ?_
          rintro e w2 ⟨rfl, b2⟩
          have HB2 : Hid (Below w.heap.size w w2) := hbel.out.trans (b2.mono hbel.out.size)
          clear b2 hbel
          go_wp2_with fail
          go_ret2
          exact ⟨ret2 HC.out.symm, HB2.out⟩
/-- What Size tells. -/
def szr (xs : List O) : Int × Int := if (chk xs).2 = 0 then ((bsz xs : Int), 0) else (0, (chk xs).2)
set_option maxHeartbeats 1000000 in
theorem size_any (a : Option Addr) (len cap : Nat) (xs : List O) (w : World) (H : Ops w a len cap xs) (hl : len ≤ 140737488351232) :
    Calls Try.prog 26 #[.slice a len cap] w fun e w' => e = .returned (.tuple #[.int .i64 (szr xs).1, .int .i64 (szr xs).2]) ∧ Below w.heap.size w w' := by
  have FI := check_any a len cap xs w H hl
  have HH := hid H
  clear H
  by_cases h : (chk xs).2 = 0
  · obtain ⟨p1, p2, p3, p4⟩ := chk_parts h
    have HR : Hid (((bsz xs : Int), 0) = szr xs) := by show _ = _; unfold szr; rw [if_pos h]
    obtain ⟨N, hN⟩ : ∃ N, N = bsz xs := ⟨_, rfl⟩
    rw [← hN] at HR
    have HN : Hid (N = bsz xs) := hN
    rw [p4] at FI
    have HF := hid FI
    have HM : Hid (∀ x ∈ xs, may x = true) := all_may xs p2
    have hlen : len ≤ 8192 := by have := HH.out.1; omega
    clear FI h p1 p2 p3 p4 hN
    go_enter Try.func26, Try.ntmps26
    go_wp2_with fail
    refine HF.out.mono ?_
    rintro e w1 ⟨rfl, b1⟩
    go_wp2_with fail
    refine (sizeof_any a len cap xs w1 (HH.out.later b1) hlen HM.out).mono ?_
    rintro e w2 ⟨rfl, b2⟩
    rw [← HN.out]
    have HB2 : Hid (Below w.heap.size w w2) := b1.trans (b2.mono b1.size)
    clear b1 b2
    go_wp2_with fail
    go_ret2
    exact ⟨ret2 HR.out, HB2.out⟩
  · have HR : Hid ((0, (chk xs).2) = szr xs) := by show _ = _; unfold szr; rw [if_neg h]
    generalize chk xs = c at FI h HR
    obtain ⟨c1, c2⟩ := c
    simp only at FI h HR
    have HF := hid FI
    have d0 : (c2 == 0) = false := by simp [h]
    have d1 : (c2 != 0) = true := by simp [h]
    clear FI h
    go_enter Try.func26, Try.ntmps26
    go_wp2_with fail
    refine HF.out.mono ?_
    rintro e w1 ⟨rfl, b1⟩
    go_wp2_with fail
    go_ret2
    exact ⟨ret2 HR.out, b1⟩
end Go.Proofs.Ytmceanfgcehfeab.Ob

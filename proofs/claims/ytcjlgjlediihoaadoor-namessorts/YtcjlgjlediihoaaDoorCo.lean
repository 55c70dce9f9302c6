/- cmp.Or, names.compare by their contracts. -/
import Derived.Test.YtcjlgjlediihoaaDoorCf
import Derived.Test.YtcjlgjlediihoaaDoorEs
namespace Go.Proofs.YtcjlgjlediihoaaDoor.Co
open Go.ChangeShapes Go.WideShapes Go.ChangeAt Go.RowKit
open Go.Proofs.YtcjlgjlediihoaaDoor.Gr
open Go.Proofs.YtcjlgjlediihoaaDoor.Es
open Go.Proofs.YtcjlgjlediihoaaDoor.Rw (Fm Tb pr rank_any)
open Go.Proofs.YtcjlgjlediihoaaDoor.Cf
open Go.Lib (compareBytes compareInt)
set_option linter.unusedVariables false
set_option linter.unusedSimpArgs false

/-- The first that is not 0. -/
def nz : List Int → Int
  | [] => 0
  | x :: r => if x ≠ 0 then x else nz r
theorem drop_get {α : Type} {xs : List α} {k : Nat} {d : α} (h : k < xs.length) : xs.drop k = xs.getD k d :: xs.drop (k + 1) := by
  rw [List.getD_eq_getElem?_getD, List.getElem?_eq_getElem h]
  exact List.drop_eq_getElem_cons h
theorem or_any (a : Option Addr) (n c : Nat) (xs : List Int) (w : World) (H : eInt.Sl w a n c xs) (hn8 : n ≤ 1048576) : Calls Tryd.prog 56 #[.slice a n c] w fun e w' => e = .returned (.int .i64 (nz xs)) ∧ w' = w := by
  have hl := H.n
  have hc := H.c
  have H2 := hid H
  replace hl := hid hl
  clear H
  go_enter Tryd.func56, Tryd.ntmps56
  go_wp2_with fail
  go_loopw [8] (fun kk wr => ∃ k : Nat, kk = .int .i64 k ∧ k ≤ n ∧ Hid (nz xs = nz (xs.drop k)) ∧ wr = w) (fun kk _ => n - (intOf kk).toNat)
  case atStart => exact ⟨0, rfl, by omega, rfl, rfl⟩
  case round =>
    obtain ⟨k, rfl, hk, hz, rfl⟩ := hrel
    by_cases hlt : k < n
    · obtain ⟨b, o, rfl, hat⟩ := get1 H2.out k hlt
      have q := hat k hlt 0 _ rfl
      have hd : Hid (xs.drop k = xs.getD k 0 :: xs.drop (k + 1)) := drop_get (by rw [hl.out]; exact hlt)
      have jk0 : (k : Int) < (n : Int) := by omega
      have jo0 : (0 : Int) ≤ (k : Int) := by omega
      simp only [show eInt.k = 1 from rfl, Nat.mul_one, Nat.add_zero, show eInt.z = 0 from rfl] at q
      clear hat
      generalize xs.getD k 0 = x at *
      by_cases hx : x = 0
      · subst hx
        have ne0 : ((0 : Int) != 0) = false := rfl
        have hz' : Hid (nz xs = nz (xs.drop (k + 1))) := by show _ = _; rw [hz.out, hd.out]; rfl
        go_wp2_with fail
        go_roundw
        case rel => exact ⟨k + 1, by go_num, by omega, hz', trivial⟩
        case measure => simp [intOf]; omega
      · have ne1 : (x != 0) = true := by simpa using hx
        have hz' : Hid (nz xs = x) := by show _ = _; rw [hz.out, hd.out]; unfold nz; rw [if_pos hx]
        clear hx
        go_wp2_with fail
        go_ret
        exact ⟨by rw [hz'.out]; rfl, rfl⟩
    · have hke : k = n := by omega
      subst hke
      have hz' : Hid (nz xs = 0) := by show _ = _; rw [hz.out, List.drop_of_length_le (by rw [hl.out]; exact Nat.le_refl _)]; rfl
      go_wp2_with fail
      go_ret
      exact ⟨by rw [hz'.out]; rfl, rfl⟩
theorem three_sl {W : World} {g : Nat} {x y z : Int} (h : W.heap[g]? = some (.cells #[.int .i64 x, .int .i64 y, .int .i64 z] 3)) : eInt.Sl W (some ⟨g, 0, none⟩) 3 3 [x, y, z] := by
  refine ⟨rfl, Nat.le_refl _, (fun e => by cases e), (fun _ _ => trivial), ?_⟩
  intro b o p e hl
  cases e
  refine ⟨rfl, fun i hi q u hq => ?_⟩
  match q, hq with
  | 0, hq =>
    match i, hi with
    | 0, _ => simp [eInt] at hq; subst hq; exact cell_of h 0 _ rfl
    | 1, _ => simp [eInt] at hq; subst hq; exact cell_of h 1 _ rfl
    | 2, _ => simp [eInt] at hq; subst hq; exact cell_of h 2 _ rfl
theorem nz_cf (a b : ByteArray) : nz [compareInt (pr a).1 (pr b).1, compareInt (pr a).2 (pr b).2, compareBytes a.data.toList b.data.toList] = cf a b := by
  unfold cf nz nz nz nz
  generalize compareInt (pr a).1 (pr b).1 = x
  generalize compareInt (pr a).2 (pr b).2 = y
  generalize compareBytes a.data.toList b.data.toList = z
  by_cases h : z = 0
  · simp [h]
  · simp [h]
set_option maxRecDepth 100000 in
theorem compare_any (a b : ByteArray) (ha : a.size ≤ 281474976710656) (hb : b.size ≤ 281474976710656) (w : World) (F : Hid (Fm w)) (U : Hid (Tb w)) : Calls Tryd.prog 36 #[.string a, .string b] w fun e w' => e = .returned (.int .i64 (cf a b)) ∧ Below w.heap.size w w' := by
  have c1 := hid (rank_any a ha w F U)
  have c2 : Hid (∀ W, Below w.heap.size w W → Calls Tryd.prog 55 #[.string b] W fun e w' => e = .returned (.tuple #[.int .i64 (pr b).1, .int .i64 (pr b).2]) ∧ Below W.heap.size W w') := fun W h => rank_any b hb W (hid (F.out.later h)) (hid (U.out.later h))
  have hcf := hid (nz_cf a b)
  clear F U
  generalize pr a = A at *
  generalize pr b = B at *
  obtain ⟨a1, a2⟩ := A
  obtain ⟨b1, b2⟩ := B
  dsimp only at c1 c2 hcf
  have d1 := hid (Sf.cmp_Compare_int a1 b1)
  have d2 := hid (Sf.cmp_Compare_int a2 b2)
  have d3 := hid (Sf.strings_Compare a b)
  generalize compareInt a1 b1 = x at *
  generalize compareInt a2 b2 = y at *
  generalize compareBytes a.data.toList b.data.toList = z at *
  go_enter Tryd.func36, Tryd.ntmps36
  go_wp2_with fail
  refine c1.out.mono ?_
  rintro e w1 ⟨rfl, B1⟩
  replace B1 := hid B1
  go_wp2_with fail
  refine (c2.out w1 B1.out).mono ?_
  rintro e w2 ⟨rfl, B2⟩
  replace B2 := hid B2
  go_wp2_with fail
  refine (d1.out w2).mono ?_
  rintro e w' ⟨rfl, hw'⟩
  subst hw'
  go_wp2_with fail
  refine (d2.out _).mono ?_
  rintro e w' ⟨rfl, hw'⟩
  subst hw'
  go_wp2_with fail
  refine (d3.out _).mono ?_
  rintro e w' ⟨rfl, hw'⟩
  subst hw'
  obtain ⟨g3, hg3⟩ : ∃ g, g = w'.heap.size := ⟨_, rfl⟩
  obtain ⟨W3, hW3⟩ : ∃ W, W = w'.alloc (.cells #[.int .i64 x, .int .i64 y, .int .i64 z] 3) := ⟨_, rfl⟩
  have k3 : W3.heap[g3]? = some (.cells #[.int .i64 x, .int .i64 y, .int .i64 z] 3) := by rw [hW3, hg3]; exact new_at _ _
  have B3 : Hid (Below w'.heap.size w' W3) := by rw [hW3]; exact box_below _ _
  have c3 := hid (or_any (some ⟨g3, 0, none⟩) 3 3 _ W3 (three_sl k3) (by decide))
  replace hW3 := hid hW3
  replace hg3 := hid hg3
  clear k3
  go_wp2_with fail
  rw [← hW3.out, ← hg3.out]
  refine c3.out.mono ?_
  rintro e w4 ⟨rfl, hw4⟩
  subst hw4
  go_wp2_with fail
  go_ret
  exact ⟨by rw [← hcf.out]; rfl, Below.up (Below.up B1.out B2.out) B3.out⟩
end Go.Proofs.YtcjlgjlediihoaaDoor.Co

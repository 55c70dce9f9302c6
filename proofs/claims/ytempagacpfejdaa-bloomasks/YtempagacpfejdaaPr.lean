/- Probes of both, by one contract; the names; the laws BloomProbes and BloomHashes walked. -/
import Derived.Test.YtempagacpfejdaaHs
import Derived.Test.YtempagacpfejdaaRh
namespace Go.Proofs.Ytempagacpfejdaa.Pr
open Go.ChangeShapes Go.WideShapes Go.ChangeAt Go.RowKit
open Go.Proofs.Ytempagacpfejdaa.Wd
open Go.Proofs.Ytempagacpfejdaa.Hs
set_option linter.unusedVariables false
set_option linter.unusedSimpArgs false

/-- How many bits a key sets. -/
def pb (b : Nat) : Nat := min (max (b * 69 / 100) 1) 30
theorem pb_bd (b : Nat) : 1 ≤ pb b ∧ pb b ≤ 30 := by unfold pb; omega
theorem pb_i (b : Int) (n : Nat) (h : b = n) : min (max (b * 69 / 100) 1) 30 = (pb n : Int) := by
  subst h; unfold pb; omega
set_option maxRecDepth 100000 in
theorem probes_ok (b : Nat) (h1 : 1 ≤ b) (h2 : b ≤ 64) (w : World) : Calls Try.prog 12 #[.int .i64 (b : Int)] w fun e w' => e = .returned (.tuple #[.int .i64 (pb b : Int), .int .i64 0]) ∧ w' = w := by
  have E := hid (pb_i (b : Int) b rfl)
  go_enter Try.func12, Try.ntmps12
  go_wp2
  go_ret2
  exact ⟨by rw [← E.out]; rfl, rfl⟩
set_option maxRecDepth 100000 in
theorem probes_no (b : Int) (h : b < 1 ∨ 64 < b) (w : World) : Calls Try.prog 12 #[.int .i64 b] w fun e w' => e = .returned (.tuple #[.int .i64 0, .int .i64 2]) ∧ w' = w := by
  rcases h with h | h
  · go_enter Try.func12, Try.ntmps12
    go_wp2
    go_ret2
    exact ⟨rfl, rfl⟩
  · have h1 : ¬ b < 1 := by omega
    go_enter Try.func12, Try.ntmps12
    go_wp2
    go_ret2
    exact ⟨rfl, rfl⟩
set_option maxRecDepth 100000 in
theorem rprobes_ok (b : Nat) (h1 : 1 ≤ b) (h2 : b ≤ 64) (w : World) : Calls Try.prog 13 #[.int .i64 (b : Int)] w fun e w' => e = .returned (.tuple #[.int .i64 (pb b : Int), .int .i64 0]) ∧ w' = w := by
  have E := hid (pb_i (b : Int) b rfl)
  go_enter Try.func13, Try.ntmps13
  go_wp2
  go_ret2
  exact ⟨by rw [← E.out]; rfl, rfl⟩
set_option maxRecDepth 100000 in
theorem rprobes_no (b : Int) (h : b < 1 ∨ 64 < b) (w : World) : Calls Try.prog 13 #[.int .i64 b] w fun e w' => e = .returned (.tuple #[.int .i64 0, .int .i64 2]) ∧ w' = w := by
  rcases h with h | h
  · go_enter Try.func13, Try.ntmps13
    go_wp2
    go_ret2
    exact ⟨rfl, rfl⟩
  · have h1 : ¬ b < 1 := by omega
    go_enter Try.func13, Try.ntmps13
    go_wp2
    go_ret2
    exact ⟨rfl, rfl⟩
theorem names_any (w : World) : Calls Try.prog 9 #[] w fun e w' => e = .returned (.bool true) ∧ w' = w := by
  go_enter Try.func9, Try.ntmps9
  go_wp2
  go_ret
  exact ⟨rfl, rfl⟩
theorem pb10 : pb 10 = 6 := by decide
set_option maxRecDepth 100000 in
theorem lprobes_any (b : Int) (_ : -9223372036854775808 ≤ b ∧ b ≤ 9223372036854775807) (w : World) : Calls Try.prog 4 #[.int .i64 b] w fun e w' => e = .returned (.bool true) ∧ Below w.heap.size w w' := by
  by_cases h : b < 1 ∨ 64 < b
  · go_enter Try.func4, Try.ntmps4
    go_wp2_with fail
    refine (probes_no b h _).mono ?_
    rintro e w' ⟨rfl, rfl⟩
    go_wp2_with fail
    refine (rprobes_no b h _).mono ?_
    rintro e w' ⟨rfl, rfl⟩
    go_wp2_with fail
    refine (probes_ok 10 (by omega) (by omega) _).mono ?_
    rintro e w' ⟨rfl, rfl⟩
    rw [pb10]
    go_wp2_with fail
    refine (names_any _).mono ?_
    rintro e w' ⟨rfl, rfl⟩
    go_wp2_with fail
    go_ret
    exact ⟨rfl, Below.refl _ _⟩
  · obtain ⟨n, rfl⟩ := Int.eq_ofNat_of_zero_le (show 0 ≤ b by omega)
    have h1 : 1 ≤ n := by omega
    have h2 : n ≤ 64 := by omega
    go_enter Try.func4, Try.ntmps4
    go_wp2_with fail
    refine (probes_ok n h1 h2 _).mono ?_
    rintro e w' ⟨rfl, rfl⟩
    go_wp2_with fail
    refine (rprobes_ok n h1 h2 _).mono ?_
    rintro e w' ⟨rfl, rfl⟩
    go_wp2_with fail
    refine (probes_ok 10 (by omega) (by omega) _).mono ?_
    rintro e w' ⟨rfl, rfl⟩
    rw [pb10]
    go_wp2_with fail
    refine (names_any _).mono ?_
    rintro e w' ⟨rfl, rfl⟩
    go_wp2_with fail
    go_ret
    exact ⟨by first | rfl | simp, Below.refl _ _⟩
def sd : BitVec 32 := 0xbc9f1d34#32
theorem sd_i : (3164544308 : Int) = toI sd := by decide
theorem hsh0 : toI (hsh ⟨#[]⟩ sd) = 3164544308 := by decide +kernel
set_option maxRecDepth 100000 in
theorem lhashes_any (s : ByteArray) (x : Int) (hs0 : s.size ≤ 9223372036854775807) (hx : 0 ≤ x ∧ x ≤ 4294967295) (w : World) : Calls Try.prog 3 #[.string s, .int .u32 x] w fun e w' => e = .returned (.bool true) ∧ Below w.heap.size w w' := by
  obtain ⟨y, rfl⟩ : ∃ y, x = toI y := ⟨_, (toI_ofI x hx).symm⟩
  clear hx
  have HE := hid (fun W => by have := hash_any ⟨#[]⟩ sd (by decide) W; rw [← sd_i, hsh0] at this; exact this : ∀ W, Calls Try.prog 10 #[.string ⟨#[]⟩, .int .u32 3164544308] W fun e w' => e = .returned (.int .u32 3164544308) ∧ ∃ n, w' = W.drewN n)
  go_enter Try.func3, Try.ntmps3
  go_wp2_with fail
  refine (names_any _).mono ?_
  rintro e w' ⟨rfl, rfl⟩
  go_wp2_with fail
  refine (hash_any s y hs0 _).mono ?_
  rintro e w' ⟨rfl, n, rfl⟩
  go_wp2_with fail
  refine (Rh.rhash_any s y hs0 _).mono ?_
  rintro e w' ⟨rfl, rfl⟩
  generalize toI (hsh s y) = z
  go_wp2_with fail
  refine (HE.out _).mono ?_
  rintro e w' ⟨rfl, m, rfl⟩
  go_wp2_with fail
  go_ret
  exact ⟨rfl, below_drewN (Below.refl _ _) _⟩
end Go.Proofs.Ytempagacpfejdaa.Pr

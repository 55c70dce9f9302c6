/- Contracts of the laws' helpers: the sum that everybody knows, a number from 0 to n - 1; bytes copied into memory of the call's own. -/
import Derived.Test.YtkgmdhldongloabDoorCk
import Derived.Laws.AppendOwnNone
import Derived.Lib.SlBytesConst
namespace Go.Proofs.YtkgmdhldongloabDoor.Wk
open Go.ChangeShapes Go.WideShapes Go.ChangeAt Go.RowKit
open Go.Proofs.YtkgmdhldongloabDoor.Crc
open Go.Proofs.YtkgmdhldongloabDoor.Ck
set_option linter.unusedVariables false

theorem tab_later {w w' : World} (T : Hid (Tab w)) (hb : Below w.heap.size w w') : Hid (Tab w') := fun i hi => cell_later hb (T.out i hi)
def nine : List Int := [49, 50, 51, 52, 53, 54, 55, 56, 57]
theorem sum_nine : toI (sum nine) = 3808858755 := by decide +kernel
abbrev row9 : Array Value := #[.int .u8 49, .int .u8 50, .int .u8 51, .int .u8 52, .int .u8 53, .int .u8 54, .int .u8 55, .int .u8 56, .int .u8 57]
theorem nine_bytes (w : World) : Bytes (w.alloc (.cells row9 5 (9, 10))) (some ⟨w.heap.size, 0, none⟩) 9 9 nine := by
  refine ⟨rfl, by omega, fun e => by simp at e, by decide, ?_⟩
  intro x hx i hi
  simp at hx
  subst hx
  rw [addr_add, World.cell?_alloc_mark]
  match i, hi with
  | 0, _ | 1, _ | 2, _ | 3, _ | 4, _ | 5, _ | 6, _ | 7, _ | 8, _ => rfl
theorem works_any (w : World) (T : Hid (Tab w)) : Calls Tryd.prog 7 #[] w fun e w' => e = .returned (.bool true) ∧ Below w.heap.size w w' := by
  have B0 : Below w.heap.size w (w.alloc (.cells row9 5 (9, 10))) := (Below.refl _ _).alloc (Nat.le_refl _) _
  have HB : Hid (Below w.heap.size w (w.alloc (.cells row9 5 (9, 10)))) := B0
  have K := Sum_any (some ⟨w.heap.size, 0, none⟩) 9 9 nine _ (tab_later T B0) (nine_bytes w) (by omega)
  rw [sum_nine] at K
  clear B0
  have HK : Hid (Calls Tryd.prog 9 #[.slice (some ⟨w.heap.size, 0, none⟩) 9 9] (w.alloc (.cells row9 5 (9, 10))) fun e w' => e = .returned (.int .u32 3808858755) ∧ w' = w.alloc (.cells row9 5 (9, 10))) := K
  clear K
  have kc := Lib.run_convert_bytes_const (P := Tryd.prog) w 22 5 row9 9 9 Tryd.underlying22 Tryd.underlying5
  go_enter Tryd.func7, Tryd.ntmps7
  go_wp2_with fail
  clear kc
  refine HK.out.mono ?_
  rintro e w' ⟨rfl, rfl⟩
  go_wp2
  go_ret
  exact ⟨rfl, HB.out⟩

theorem among_any (x n : Int) (w : World) (hn : 0 < n) (hm : n ≤ 4611686018427387904) : Calls Tryd.prog 8 #[.int .i64 x, .int .i64 n] w fun e w' => e = .returned (.int .i64 (x % n)) ∧ w' = w := by
  have h1 : -n < x.tmod n ∧ x.tmod n < n := by
    have h := Int.tmod_lt_of_pos x hn
    have h' := Int.tmod_lt_of_pos (-x) hn
    rw [Int.neg_tmod] at h'
    omega
  have E : Hid ((x.tmod n + n) % n = x % n) := by
    show _ = _
    rw [Int.add_emod_right]
    rw [Int.tmod_def]
    have : x - n * x.tdiv n = x + n * (-x.tdiv n) := by rw [Int.mul_neg]; omega
    rw [this, Int.add_mul_emod_self_left]
  have hz : ¬ n = 0 := by omega
  go_enter Tryd.func8, Tryd.ntmps8
  go_wp2
  go_ret
  exact ⟨ret_int E.out, rfl⟩
end Go.Proofs.YtkgmdhldongloabDoor.Wk

/- A piece's sum; a piece put behind a buffer; what is left of a block, what a record costs, a writer's size. -/
import Derived.Test.YtgkoopciajjonaaDoorWt
import Derived.Deep.RegionWith
namespace Go.Proofs.YtgkoopciajjonaaDoor.Wp
open Go.ChangeShapes Go.WideShapes Go.ChangeAt Go.RowKit
open Go.Proofs.YtgkoopciajjonaaDoor.Crc
open Go.Proofs.YtgkoopciajjonaaDoor.Jm
open Go.Proofs.YtgkoopciajjonaaDoor.Ck
open Go.Proofs.YtgkoopciajjonaaDoor.Wt
set_option linter.unusedVariables false
set_option linter.unusedSimpArgs false

theorem drew_alloc2 (w : World) (o p : Obj) : Below w.heap.size w ((w.alloc o).alloc p).drew := (((Below.refl _ _).alloc (Nat.le_refl _) o).alloc (by simp) p).drew
theorem ks_ext (k : Int) (d : List Int) : mask (extend (sum [k]) d) = ks k d := by rw [extend_sum]; rfl
theorem one_bytes (w : World) (k : Int) (hk : 0 ≤ k ∧ k ≤ 255) : Bytes (w.alloc (.cells #[.int .u8 k] 5)) (some ⟨w.heap.size, 0, none⟩) 1 1 [k] := built_bytes w [k] (by intro y hy; simp at hy; omega)
set_option maxHeartbeats 1000000 in
theorem sum_any (k : Int) (a : Option Addr) (len cap : Nat) (d : List Int) (w : World) (T : Hid (Tab w)) (H : Bytes w a len cap d) (hm : len ≤ 281474976710656) (hk : 0 ≤ k ∧ k ≤ 255) :
    Calls Tryd.prog 40 #[.agg #[.int .u8 k, .slice a len cap]] w fun e w' => e = .returned (.int .u32 (toI (ks k d))) ∧ Below w.heap.size w w' := by
  have B := hid (drew_alloc2 w (.cells #[.int .u8 k, .slice a len cap] 69) (.cells #[.int .u8 k] 5))
  have T1 := tab_later T B.out
  have H1 := hid (bytes_kept H B.out)
  have O1 : Hid (Bytes ((w.alloc (.cells #[.int .u8 k, .slice a len cap] 69)).alloc (.cells #[.int .u8 k] 5)).drew (some ⟨w.heap.size + 1, 0, none⟩) 1 1 [k]) := by
    have := one_bytes (w.alloc (.cells #[.int .u8 k, .slice a len cap] 69)) k hk
    simp at this
    exact this
  have S1 := hid (Sum_any (some ⟨w.heap.size + 1, 0, none⟩) 1 1 [k] _ T1 O1.out (by omega))
  have S2 := hid (Extend_any (sum [k]) a len cap d _ T1 H1.out hm)
  have S3 := hid (mask_any (extend (sum [k]) d))
  have E : Hid (mask (extend (sum [k]) d) = ks k d) := ks_ext k d
  rw [E.out] at S3
  generalize extend (sum [k]) d = x2 at *
  generalize sum [k] = x1 at *
  generalize ks k d = x3 at *
  clear T H T1 H1 O1
  go_enter Tryd.func40, Tryd.ntmps40
  go_wp2_with fail
  go_region_with (first | (go_at_call 49; refine S1.out.mono ?_; rintro e w' ⟨rfl, rfl⟩) | (go_at_call 48; refine S2.out.mono ?_; rintro e w' ⟨rfl, rfl⟩) | (go_at_call 47; refine (S3.out _).mono ?_; rintro e w' ⟨rfl, rfl⟩))
  all_goals
    go_wp2_with fail
    go_ret
    exact ⟨rfl, B.out⟩
end Go.Proofs.YtgkoopciajjonaaDoor.Wp

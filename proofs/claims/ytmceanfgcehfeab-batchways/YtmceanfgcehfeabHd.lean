/- Head of the program. -/
import Derived.Test.YtmceanfgcehfeabCt
import Derived.Test.YtmceanfgcehfeabOb
namespace Go.Proofs.Ytmceanfgcehfeab.Hd
open Go.ChangeShapes Go.WideShapes Go.ChangeAt Go.RowKit
open Go.Proofs.Ytmceanfgcehfeab.By
open Go.Proofs.Ytmceanfgcehfeab.Ob (hid)
set_option linter.unusedVariables false

def hseq (zs : List Int) : Int := Fx.le (zs.take 8)
def hcnt (zs : List Int) : Nat := (Fx.le ((zs.drop 8).take 4)).toNat
theorem fread8 (zs : List Int) (h : 12 ≤ zs.length) : Fx.fread zs 0 8 = (hseq zs, 8, 0) := by
  unfold Fx.fread hseq
  rw [if_neg (by omega), if_neg (by omega)]
  simp
theorem cnt_bd (zs : List Int) (hb : ∀ y ∈ zs, 0 ≤ y ∧ y ≤ 255) : 0 ≤ Fx.le ((zs.drop 8).take 4) ∧ Fx.le ((zs.drop 8).take 4) < 4294967296 := by
  have h := Fx.le_bd ((zs.drop 8).take 4) (fun y hy => hb y (List.mem_of_mem_drop (List.mem_of_mem_take hy)))
  have hl : ((zs.drop 8).take 4).length ≤ 4 := by rw [List.length_take]; omega
  have hp : (256 : Int) ^ ((zs.drop 8).take 4).length ≤ 256 ^ 4 := by
    have e : ∀ k : Nat, (256 : Int) ^ k = ((256 ^ k : Nat) : Int) := fun k => by simp
    rw [e, e]
    have := Nat.pow_le_pow_right (n := 256) (by omega) hl
    omega
  have := Fx.p256_4
  omega
theorem seq_bd (zs : List Int) (hb : ∀ y ∈ zs, 0 ≤ y ∧ y ≤ 255) : 0 ≤ hseq zs ∧ hseq zs ≤ 18446744073709551615 := by
  have h := Fx.le_bd (zs.take 8) (fun y hy => hb y (List.mem_of_mem_take hy))
  have hl : (zs.take 8).length ≤ 8 := by rw [List.length_take]; omega
  have := Fx.p256_8 _ hl
  unfold hseq
  omega
theorem fread4 (zs : List Int) (hb : ∀ y ∈ zs, 0 ≤ y ∧ y ≤ 255) (h : 12 ≤ zs.length) : Fx.fread zs 8 4 = ((hcnt zs : Int), 12, 0) := by
  have := cnt_bd zs hb
  unfold Fx.fread hcnt
  rw [if_neg (by omega), if_neg (by omega)]
  rw [Int.toNat_of_nonneg this.1]
  simp
theorem cnt_lt (zs : List Int) (hb : ∀ y ∈ zs, 0 ≤ y ∧ y ≤ 255) : hcnt zs < 4294967296 := by
  have := cnt_bd zs hb
  unfold hcnt
  omega
theorem head_no (a : Option Addr) (len cap : Nat) (w : World) (h : len < 12) :
    Calls Try.prog 27 #[.slice a len cap] w fun e w' => e = .returned (.tuple #[.int .u64 0, .int .i64 0, .int .i64 41]) ∧ w' = w := by
  have ip : (len : Int) < 12 := by omega
  go_enter Try.func27, Try.ntmps27
  go_wp2_with fail
  go_ret3
  exact ⟨rfl, rfl⟩
set_option maxHeartbeats 1000000 in
theorem head_ok (a : Option Addr) (len cap : Nat) (zs : List Int) (w : World) (H : Bytes w a len cap zs) (hcap : len ≤ 140737488351232) (h : 12 ≤ len) :
    Calls Try.prog 27 #[.slice a len cap] w fun e w' => e = .returned (.tuple #[.int .u64 (hseq zs), .int .i64 (hcnt zs), .int .i64 0]) ∧ w' = w := by
  have ip : ¬ (len : Int) < 12 := by omega
  have hl := H.1
  have F8 := fixed64_any a len cap zs 0 w H (by omega)
  rw [fread8 zs (by omega)] at F8
  have F4 := fixed32_any a len cap zs 8 w H (by omega)
  rw [fread4 zs H.2.2.2.1 (by omega)] at F4
  have hc := cnt_lt zs H.2.2.2.1
  have HF8 := hid F8
  have HF4 := hid F4
  clear F8 F4 H
  generalize hseq zs = S at *
  generalize hcnt zs = C at *
  go_enter Try.func27, Try.ntmps27
  go_wp2_with fail
  refine HF8.out.mono ?_
  rintro e w' ⟨rfl, rfl⟩
  go_wp2_with fail
  refine HF4.out.mono ?_
  rintro e w' ⟨rfl, rfl⟩
  go_wp2_with fail
  go_ret3
  exact ⟨rfl, rfl⟩
end Go.Proofs.Ytmceanfgcehfeab.Hd

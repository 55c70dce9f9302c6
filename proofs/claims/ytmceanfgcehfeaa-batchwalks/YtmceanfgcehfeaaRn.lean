/- The document's number of bytes, and its Head. -/
import Derived.Test.YtmceanfgcehfeaaHd
namespace Go.Proofs.Ytmceanfgcehfeaa.Hd
open Go.ChangeShapes Go.WideShapes Go.ChangeAt Go.RowKit
open Go.Proofs.Ytmceanfgcehfeaa.By
open Go.Proofs.Ytmceanfgcehfeaa.Ob (hid)
set_option linter.unusedVariables false

theorem or_comm' (k : IntKind) (a b : Int) : bits .or k a b = bits .or k b a := by
  unfold bits
  simp only [BitVec.or_comm]
theorem or8 (u y : Int) (hu : 0 ≤ u) (hy : 0 ≤ y ∧ y ≤ 255) (h : u * 256 + y ≤ 18446744073709551615) : bits .or .u64 (u * 256) y = u * 256 + y := by
  obtain ⟨c, rfl⟩ : ∃ c : Nat, u = (c : Int) := ⟨u.toNat, by omega⟩
  obtain ⟨n, rfl⟩ : ∃ n : Nat, y = (n : Int) := ⟨y.toNat, by omega⟩
  have := Vb.or_disj n c 8 (by omega) (by omega)
  rw [or_comm', show (c : Int) * 256 = ((c * 2 ^ 8 : Nat) : Int) from by omega, this]
  omega
set_option maxHeartbeats 1000000 in
theorem number_some (b off len cap p n : Nat) (ys : List Int) (w : World) (hl : len ≤ cap) (hcap : len ≤ 281474976710656) (hp : p + n ≤ len) (hn : n ≤ 8) (hy : ys.length = n)
    (hb : ∀ y ∈ ys, 0 ≤ y ∧ y ≤ 255) (hc : ∀ k, k < n → w.cell? ⟨b, off + (p + k), none⟩ = some (.int .u8 (ys.getD k 0))) :
    Calls Try.prog 45 #[.slice (some ⟨b, off, none⟩) len cap, .int .i64 p, .int .i64 n] w fun e w' => e = .returned (.int .u64 (Fx.le ys)) ∧ w' = w := by
  have HC : Hid (∀ k, k < n → w.cell? ⟨b, off + (p + k), none⟩ = some (.int .u8 (ys.getD k 0))) := hc
  have HB : Hid (∀ y ∈ ys, 0 ≤ y ∧ y ≤ 255) := hb
  have HY : Hid (ys.length = n) := hy
  clear hc hb hy
  go_enter Try.func45, Try.ntmps45
  go_wp2
  go_loop [7, 8] (fun v i => ∃ k : Nat, k ≤ n ∧ i = .int .i64 ((k : Int) - 1) ∧ v = .int .u64 (Fx.le (ys.drop k))) (fun _ i => (intOf i + 1).toNat)
  case atStart => exact ⟨n, by omega, rfl, by rw [List.drop_eq_nil_of_le (by rw [HY.out]; omega)]; rfl⟩
  case round =>
    obtain ⟨k, hk, rfl, rfl⟩ := hrel
    by_cases hlt : 0 < k
    · obtain ⟨j, rfl⟩ : ∃ j, k = j + 1 := ⟨k - 1, by omega⟩
      have hcell := HC.out j (by omega)
      have hin : j < ys.length := by rw [HY.out]; omega
      have hYk := HB.out (ys.getD j 0) (by rw [List.getD_eq_getElem?_getD, List.getElem?_eq_getElem hin]; exact List.getElem_mem hin)
      have HE : Hid (Fx.le (ys.drop j) = ys.getD j 0 + 256 * Fx.le (ys.drop (j + 1))) := Fx.le_drop ys j hin
      have HB2 : Hid (Fx.le (ys.drop j) < 18446744073709551616) := by
        show _ < _
        have h1 := (Fx.le_drop_bd ys HB.out j).2
        have h2 := Fx.p256_8 (ys.length - j) (by rw [HY.out]; omega)
        omega
      have hu0 : 0 ≤ Fx.le (ys.drop (j + 1)) := (Fx.le_drop_bd ys HB.out (j + 1)).1
      clear HC HB HY hin
      generalize ys.getD j 0 = y at hcell hYk HE
      generalize hu : Fx.le (ys.drop (j + 1)) = u at hu0 HE
      clear hu
      have hu1 : u * 256 + y ≤ 18446744073709551615 := by have := HB2.out; rw [HE.out] at this; omega
      have ej : ((j + 1 : Nat) : Int) - 1 = (j : Int) := by omega
      rw [ej]
      clear ej
      have HO : Hid (bits .or .u64 (u * 256) y = u * 256 + y) := or8 u y hu0 hYk hu1
      go_wp2
      go_round
      case rel => exact ⟨j, by omega, by go_num, by rw [HE.out, HO.out]; go_num⟩
      case measure => simp [intOf]
    · have hk0 : k = 0 := by omega
      subst hk0
      clear HC HB HY
      have ej : ((0 : Nat) : Int) - 1 = -1 := by omega
      rw [ej, List.drop_zero]
      clear ej
      go_wp2
      go_ret
      exact ⟨rfl, rfl⟩
theorem number_any (a : Option Addr) (len cap : Nat) (zs : List Int) (p n : Nat) (w : World) (H : Bytes w a len cap zs) (hcap : len ≤ 281474976710656) (hp : p + n ≤ len) (hn : 1 ≤ n ∧ n ≤ 8) :
    Calls Try.prog 45 #[.slice a len cap, .int .i64 p, .int .i64 n] w fun e w' => e = .returned (.int .u64 (Fx.le ((zs.drop p).take n))) ∧ w' = w := by
  have hz := H.1
  cases a with
  | none => have := H.2.2.1 rfl; omega
  | some ad =>
    have h0 := H.2.2.2.2 ad rfl 0 (by omega)
    obtain ⟨b, off, spot⟩ := ad
    have hspot : spot = none := by simpa [Addr.add] using World.cell?_spot h0
    subst hspot
    refine number_some b off len cap p n _ w H.2.1 hcap hp hn.2 (by rw [List.length_take, List.length_drop]; omega) (fun y hy => H.2.2.2.1 y (List.mem_of_mem_drop (List.mem_of_mem_take hy))) ?_
    intro k hk
    have := H.2.2.2.2 _ rfl (p + k) (by omega)
    rw [By.addr_add] at this
    rw [this]
    simp [List.getD_eq_getElem?_getD, hk]
theorem rhead_no (a : Option Addr) (len cap : Nat) (w : World) (h : len < 12) :
    Calls Try.prog 22 #[.slice a len cap] w fun e w' => e = .returned (.tuple #[.int .u64 0, .int .i64 0, .int .i64 41]) ∧ w' = w := by
  have ip : (len : Int) < 12 := by omega
  go_enter Try.func22, Try.ntmps22
  go_wp2_with fail
  go_ret3
  exact ⟨rfl, rfl⟩
theorem num8 (a : Option Addr) (len cap : Nat) (zs : List Int) (w : World) (H : Bytes w a len cap zs) (hcap : len ≤ 281474976710656) (h : 12 ≤ len) :
    Calls Try.prog 45 #[.slice a len cap, .int .i64 0, .int .i64 8] w fun e w' => e = .returned (.int .u64 (hseq zs)) ∧ w' = w := by
  have := number_any a len cap zs 0 8 w H hcap (by omega) (by omega)
  simpa [hseq] using this
theorem num4 (a : Option Addr) (len cap : Nat) (zs : List Int) (w : World) (H : Bytes w a len cap zs) (hcap : len ≤ 281474976710656) (h : 12 ≤ len) :
    Calls Try.prog 45 #[.slice a len cap, .int .i64 8, .int .i64 4] w fun e w' => e = .returned (.int .u64 (hcnt zs)) ∧ w' = w := by
  have := number_any a len cap zs 8 4 w H hcap (by omega) (by omega)
  have hc := cnt_bd zs H.2.2.2.1
  unfold hcnt
  rw [Int.toNat_of_nonneg hc.1]
  simpa using this
set_option maxHeartbeats 1000000 in
theorem rhead_ok (a : Option Addr) (len cap : Nat) (zs : List Int) (w : World) (H : Bytes w a len cap zs) (hcap : len ≤ 281474976710656) (h : 12 ≤ len) :
    Calls Try.prog 22 #[.slice a len cap] w fun e w' => e = .returned (.tuple #[.int .u64 (hseq zs), .int .i64 (hcnt zs), .int .i64 0]) ∧ w' = w := by
  have ip : ¬ (len : Int) < 12 := by omega
  have HF8 := hid (num8 a len cap zs w H hcap h)
  have HF4 := hid (num4 a len cap zs w H hcap h)
  have hc := cnt_lt zs H.2.2.2.1
  clear H
  generalize hseq zs = S at *
  generalize hcnt zs = C at *
  go_enter Try.func22, Try.ntmps22
  go_wp2_with fail
  refine HF8.out.mono ?_
  rintro e w' ⟨rfl, rfl⟩
  go_wp2_with fail
  refine HF4.out.mono ?_
  rintro e w' ⟨rfl, rfl⟩
  go_wp2_with fail
  go_ret3
  exact ⟨rfl, rfl⟩
end Go.Proofs.Ytmceanfgcehfeaa.Hd

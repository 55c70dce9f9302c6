/- Contracts of the calls that read numbers of four and eight bytes, of the program and of the document's definition: what each returns, for all arguments, and that memory stays as it was. -/
import Derived.Test.YtpinknkdcecajaaWr
import Derived.Test.YtpinknkdcecajaaFx
namespace Go.Proofs.Ytpinknkdcecajaa.Rx
open Go.ChangeShapes Go.WideShapes Go.ChangeAt Go.RowKit
open Go.Proofs.Ytpinknkdcecajaa.Rd (Bytes ret_int ret3 addr_add)
set_option linter.unusedVariables false

theorem fixed_arg (a : Option Addr) (len cap : Nat) (p n : Int) (w : World) (h : p < 0 ∨ (len : Int) < p) :
    Calls Try.prog 50 #[.slice a len cap, .int .i64 p, .int .i64 n] w fun e w' => e = .returned (.tuple #[.int .u64 0, .int .i64 0, .int .i64 2]) ∧ w' = w := by
  by_cases h0 : p < 0
  · clear h
    go_enter Try.func50, Try.ntmps50
    go_wp2
    go_ret3
    exact ⟨rfl, rfl⟩
  · have h1 : (len : Int) < p := by omega
    clear h
    go_enter Try.func50, Try.ntmps50
    go_wp2
    go_ret3
    exact ⟨rfl, rfl⟩
theorem fixed_short (a : Option Addr) (len cap p n : Nat) (w : World) (hp : p ≤ len) (hcap : len ≤ 281474976710656) (h : (len : Int) - p < n) :
    Calls Try.prog 50 #[.slice a len cap, .int .i64 p, .int .i64 n] w fun e w' => e = .returned (.tuple #[.int .u64 0, .int .i64 0, .int .i64 10]) ∧ w' = w := by
  have h0 : ¬ (p : Int) < 0 := by omega
  have h1 : ¬ (len : Int) < (p : Int) := by omega
  go_enter Try.func50, Try.ntmps50
  go_wp2
  go_ret3
  exact ⟨rfl, rfl⟩
set_option maxHeartbeats 1000000 in
theorem fixed_some (b off len cap p n : Nat) (ys : List Int) (w : World) (hl : len ≤ cap) (hcap : len ≤ 281474976710656) (hp : p + n ≤ len) (hn : n ≤ 8) (hy : ys.length = n)
    (hb : ∀ y ∈ ys, 0 ≤ y ∧ y ≤ 255) (hc : ∀ k, k < n → w.cell? ⟨b, off + (p + k), none⟩ = some (.int .u8 (ys.getD k 0))) :
    Calls Try.prog 50 #[.slice (some ⟨b, off, none⟩) len cap, .int .i64 p, .int .i64 n] w fun e w' => e = .returned (.tuple #[.int .u64 (Fx.le ys), .int .i64 (p + n), .int .i64 0]) ∧ w' = w := by
  have h0 : ¬ (p : Int) < 0 := by omega
  have h1 : ¬ (len : Int) < (p : Int) := by omega
  have h2 : ¬ (len : Int) - (p : Int) < (n : Int) := by omega
  have HC : Hid (∀ k, k < n → w.cell? ⟨b, off + (p + k), none⟩ = some (.int .u8 (ys.getD k 0))) := hc
  have HB : Hid (∀ y ∈ ys, 0 ≤ y ∧ y ≤ 255) := hb
  have HY : Hid (ys.length = n) := hy
  clear hc hb hy
  go_enter Try.func50, Try.ntmps50
  go_wp2
  go_loop [6, 20] (fun v i => ∃ k : Nat, k ≤ n ∧ i = .int .i64 k ∧ v = .int .u64 (Fx.le (ys.take k))) (fun _ i => n - (intOf i).toNat)
  case atStart => exact ⟨0, by omega, rfl, rfl⟩
  case round =>
    obtain ⟨k, hk, rfl, rfl⟩ := hrel
    by_cases hlt : k < n
    · have hcell := HC.out k hlt
      have hin : k < ys.length := by rw [HY.out]; exact hlt
      have hYk := HB.out (ys.getD k 0) (by rw [List.getD_eq_getElem?_getD, List.getElem?_eq_getElem hin]; exact List.getElem_mem hin)
      have hu : Hid (0 ≤ Fx.le (ys.take k) ∧ Fx.le (ys.take k) < 256 ^ k) := Fx.le_take_bd ys HB.out k (by omega)
      have HE : Hid (Fx.le (ys.take (k + 1)) = Fx.le (ys.take k) + ys.getD k 0 * 256 ^ k) := Fx.le_take ys k hin
      clear HC HB HY hin
      generalize ys.getD k 0 = y at hcell hYk HE
      generalize Fx.le (ys.take k) = u at hu HE
      have HO : Hid (bits .or .u64 u (IntKind.u64.wrap (y * 2 ^ (8 * k))) = u + y * 256 ^ k) := Fx.or_eq u y k hu.out hYk (by omega)
      clear hu
      go_wp2
      go_round
      case rel => exact ⟨k + 1, by omega, by go_num, by rw [HE.out, ← HO.out]⟩
      case measure => simp [intOf]; omega
    · have hkn : Hid (k = n) := by show _ = _; omega
      have HE : Hid (Fx.le (ys.take k) = Fx.le ys) := by show _ = _; rw [List.take_of_length_le (by rw [HY.out]; omega)]
      clear HC HB
      go_wp2
      go_ret3
      exact ⟨by rw [HE.out]; rfl, rfl⟩
theorem fixed_any (a : Option Addr) (len cap : Nat) (zs : List Int) (p : Int) (n : Nat) (w : World) (H : Bytes w a len cap zs) (hcap : len ≤ 281474976710656) (hn : 1 ≤ n ∧ n ≤ 8) :
    Calls Try.prog 50 #[.slice a len cap, .int .i64 p, .int .i64 n] w fun e w' => e = .returned (.tuple #[.int .u64 (Fx.fread zs p n).1, .int .i64 (Fx.fread zs p n).2.1, .int .i64 (Fx.fread zs p n).2.2]) ∧ w' = w := by
  obtain ⟨hz, hl, hno, hb, hc⟩ := H
  unfold Fx.fread
  by_cases h : p < 0 ∨ (len : Int) < p
  · rw [if_pos (by rw [hz]; exact h)]
    exact fixed_arg a len cap p n w h
  · rw [if_neg (by rw [hz]; exact h)]
    obtain ⟨q, rfl⟩ : ∃ q : Nat, p = (q : Int) := ⟨p.toNat, by omega⟩
    rw [Int.toNat_natCast]
    by_cases hs : (len : Int) - q < n
    · rw [if_pos (by rw [hz]; exact hs)]
      exact fixed_short a len cap q n w (by omega) (by omega) hs
    · rw [if_neg (by rw [hz]; exact hs)]
      cases a with
      | none => have := hno rfl; omega
      | some x =>
        have h0 := hc x rfl 0 (by omega)
        obtain ⟨b, off, spot⟩ := x
        have hspot : spot = none := by simpa [Addr.add] using World.cell?_spot h0
        subst hspot
        refine fixed_some b off len cap q n ((zs.drop q).take n) w hl hcap (by omega) hn.2 (by simp; omega) (fun y hy => hb y (List.mem_of_mem_drop (List.mem_of_mem_take hy))) ?_
        intro k hk
        have := hc _ rfl (q + k) (by omega)
        rw [addr_add] at this
        rw [this]
        simp [List.getD_eq_getElem?_getD, hk]

/-! ### The document's definition: four and eight bytes -/
theorem rfixed_arg (a : Option Addr) (len cap : Nat) (p n : Int) (w : World) (h : p < 0 ∨ (len : Int) < p) :
    Calls Try.prog 24 #[.slice a len cap, .int .i64 p, .int .i64 n] w fun e w' => e = .returned (.tuple #[.int .u64 0, .int .i64 0, .int .i64 2]) ∧ w' = w := by
  by_cases h0 : p < 0
  · clear h
    go_enter Try.func24, Try.ntmps24
    go_wp2
    go_ret3
    exact ⟨rfl, rfl⟩
  · have h1 : (len : Int) < p := by omega
    clear h
    go_enter Try.func24, Try.ntmps24
    go_wp2
    go_ret3
    exact ⟨rfl, rfl⟩
theorem rfixed_short (a : Option Addr) (len cap p n : Nat) (w : World) (hp : p ≤ len) (hcap : len ≤ 281474976710656) (h : (len : Int) - p < n) :
    Calls Try.prog 24 #[.slice a len cap, .int .i64 p, .int .i64 n] w fun e w' => e = .returned (.tuple #[.int .u64 0, .int .i64 0, .int .i64 10]) ∧ w' = w := by
  have h0 : ¬ (p : Int) < 0 := by omega
  have h1 : ¬ (len : Int) < (p : Int) := by omega
  go_enter Try.func24, Try.ntmps24
  go_wp2
  go_ret3
  exact ⟨rfl, rfl⟩
set_option maxHeartbeats 1000000 in
theorem rfixed_some (b off len cap p n : Nat) (ys : List Int) (w : World) (hl : len ≤ cap) (hcap : len ≤ 281474976710656) (hp : p + n ≤ len) (hn : n ≤ 8) (hy : ys.length = n)
    (hb : ∀ y ∈ ys, 0 ≤ y ∧ y ≤ 255) (hc : ∀ k, k < n → w.cell? ⟨b, off + (p + k), none⟩ = some (.int .u8 (ys.getD k 0))) :
    Calls Try.prog 24 #[.slice (some ⟨b, off, none⟩) len cap, .int .i64 p, .int .i64 n] w fun e w' => e = .returned (.tuple #[.int .u64 (Fx.le ys), .int .i64 (p + n), .int .i64 0]) ∧ w' = w := by
  have h0 : ¬ (p : Int) < 0 := by omega
  have h1 : ¬ (len : Int) < (p : Int) := by omega
  have h2 : ¬ (len : Int) - (p : Int) < (n : Int) := by omega
  have HC : Hid (∀ k, k < n → w.cell? ⟨b, off + (p + k), none⟩ = some (.int .u8 (ys.getD k 0))) := hc
  have HB : Hid (∀ y ∈ ys, 0 ≤ y ∧ y ≤ 255) := hb
  have HY : Hid (ys.length = n) := hy
  clear hc hb hy
  go_enter Try.func24, Try.ntmps24
  go_wp2
  go_loop [9, 10] (fun v i => ∃ k : Nat, k ≤ n ∧ i = .int .i64 ((k : Int) - 1) ∧ v = .int .u64 (Fx.le (ys.drop k))) (fun _ i => (intOf i + 1).toNat)
  case atStart => exact ⟨n, by omega, rfl, by rw [List.drop_eq_nil_of_le (by rw [HY.out]; omega)]; rfl⟩
  case round =>
    obtain ⟨k, hk, rfl, rfl⟩ := hrel
    by_cases hlt : 0 < k
    · obtain ⟨j, rfl⟩ : ∃ j, k = j + 1 := ⟨k - 1, by omega⟩
      have hcell := HC.out j (by omega)
      have hin : j < ys.length := by rw [HY.out]; omega
      have hYk := HB.out (ys.getD j 0) (by rw [List.getD_eq_getElem?_getD, List.getElem?_eq_getElem hin]; exact List.getElem_mem hin)
      have HE : Hid (Fx.le (ys.drop j) = ys.getD j 0 + 256 * Fx.le (ys.drop (j + 1))) := Fx.le_drop ys j hin
      have HB2 : Hid (Fx.le (ys.drop j) < 18446744073709551616) := by
        show _ < _
        have h1 := (Fx.le_drop_bd ys HB.out j).2
        have h2 := Fx.p256_8 (ys.length - j) (by rw [HY.out]; omega)
        omega
      have hu0 : 0 ≤ Fx.le (ys.drop (j + 1)) := (Fx.le_drop_bd ys HB.out (j + 1)).1
      clear HC HB HY hin
      generalize ys.getD j 0 = y at hcell hYk HE
      generalize hu : Fx.le (ys.drop (j + 1)) = u at hu0 HE
      clear hu
      have hu1 : u * 256 + y ≤ 18446744073709551615 := by have := HB2.out; rw [HE.out] at this; omega
      have ej : ((j + 1 : Nat) : Int) - 1 = (j : Int) := by omega
      rw [ej]
      clear ej
      go_wp2
      go_round
      case rel => exact ⟨j, by omega, by go_num, by rw [HE.out]; first | done | go_num⟩
      case measure => simp [intOf]
    · have hk0 : k = 0 := by omega
      subst hk0
      clear HC HB HY
      have ej : ((0 : Nat) : Int) - 1 = -1 := by omega
      rw [ej, List.drop_zero]
      clear ej
      go_wp2
      go_ret3
      exact ⟨rfl, rfl⟩
theorem rfixed_any (a : Option Addr) (len cap : Nat) (zs : List Int) (p : Int) (n : Nat) (w : World) (H : Bytes w a len cap zs) (hcap : len ≤ 281474976710656) (hn : 1 ≤ n ∧ n ≤ 8) :
    Calls Try.prog 24 #[.slice a len cap, .int .i64 p, .int .i64 n] w fun e w' => e = .returned (.tuple #[.int .u64 (Fx.fread zs p n).1, .int .i64 (Fx.fread zs p n).2.1, .int .i64 (Fx.fread zs p n).2.2]) ∧ w' = w := by
  obtain ⟨hz, hl, hno, hb, hc⟩ := H
  unfold Fx.fread
  by_cases h : p < 0 ∨ (len : Int) < p
  · rw [if_pos (by rw [hz]; exact h)]
    exact rfixed_arg a len cap p n w h
  · rw [if_neg (by rw [hz]; exact h)]
    obtain ⟨q, rfl⟩ : ∃ q : Nat, p = (q : Int) := ⟨p.toNat, by omega⟩
    rw [Int.toNat_natCast]
    by_cases hs : (len : Int) - q < n
    · rw [if_pos (by rw [hz]; exact hs)]
      exact rfixed_short a len cap q n w (by omega) (by omega) hs
    · rw [if_neg (by rw [hz]; exact hs)]
      cases a with
      | none => have := hno rfl; omega
      | some x =>
        have h0 := hc x rfl 0 (by omega)
        obtain ⟨b, off, spot⟩ := x
        have hspot : spot = none := by simpa [Addr.add] using World.cell?_spot h0
        subst hspot
        refine rfixed_some b off len cap q n ((zs.drop q).take n) w hl hcap (by omega) hn.2 (by simp; omega) (fun y hy => hb y (List.mem_of_mem_drop (List.mem_of_mem_take hy))) ?_
        intro k hk
        have := hc _ rfl (q + k) (by omega)
        rw [addr_add] at this
        rw [this]
        simp [List.getD_eq_getElem?_getD, hk]

/-! ### Fixed32, Fixed64 -/
theorem fixed32_any (a : Option Addr) (len cap : Nat) (zs : List Int) (p : Int) (w : World) (H : Bytes w a len cap zs) (hcap : len ≤ 281474976710656) :
    Calls Try.prog 23 #[.slice a len cap, .int .i64 p] w fun e w' => e = .returned (.tuple #[.int .u32 (Fx.fread zs p 4).1, .int .i64 (Fx.fread zs p 4).2.1, .int .i64 (Fx.fread zs p 4).2.2]) ∧ w' = w := by
  have hb := Fx.fread_lt4 zs p H.2.2.2.1
  have HF : Hid (Calls Try.prog 50 #[.slice a len cap, .int .i64 p, .int .i64 (4 : Nat)] w fun e w' => e = .returned (.tuple #[.int .u64 (Fx.fread zs p 4).1, .int .i64 (Fx.fread zs p 4).2.1, .int .i64 (Fx.fread zs p 4).2.2]) ∧ w' = w) := fixed_any a len cap zs p 4 w H hcap (by omega)
  generalize Fx.fread zs p 4 = r at HF hb ⊢
  obtain ⟨x, y, z⟩ := r
  obtain ⟨hb0, hb1⟩ := hb
  simp only at hb0 hb1
  go_enter Try.func23, Try.ntmps23
  go_wp2_with fail
  refine HF.out.mono ?_
  rintro e w' ⟨rfl, rfl⟩
  clear HF
  go_wp2
  go_ret3
  exact ⟨rfl, rfl⟩
theorem fixed64_any (a : Option Addr) (len cap : Nat) (zs : List Int) (p : Int) (w : World) (H : Bytes w a len cap zs) (hcap : len ≤ 281474976710656) :
    Calls Try.prog 25 #[.slice a len cap, .int .i64 p] w fun e w' => e = .returned (.tuple #[.int .u64 (Fx.fread zs p 8).1, .int .i64 (Fx.fread zs p 8).2.1, .int .i64 (Fx.fread zs p 8).2.2]) ∧ w' = w := by
  have HF : Hid (Calls Try.prog 50 #[.slice a len cap, .int .i64 p, .int .i64 (8 : Nat)] w fun e w' => e = .returned (.tuple #[.int .u64 (Fx.fread zs p 8).1, .int .i64 (Fx.fread zs p 8).2.1, .int .i64 (Fx.fread zs p 8).2.2]) ∧ w' = w) := fixed_any a len cap zs p 8 w H hcap (by omega)
  generalize Fx.fread zs p 8 = r at HF ⊢
  obtain ⟨x, y, z⟩ := r
  go_enter Try.func25, Try.ntmps25
  go_wp2_with fail
  refine HF.out.mono ?_
  rintro e w' ⟨rfl, rfl⟩
  clear HF
  go_wp2
  go_ret3
  exact ⟨rfl, rfl⟩
end Go.Proofs.Ytpinknkdcecajaa.Rx

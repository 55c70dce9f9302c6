/- The document's numbers of eight bytes: laid and read. -/
import Derived.Test.YtkanjbeijoeenaaBy
namespace Go.Proofs.Ytkanjbeijoeenaa.By
open Go.ChangeShapes Go.WideShapes Go.ChangeAt Go.RowKit
set_option linter.unusedVariables false

set_option maxHeartbeats 1000000 in
theorem rfix_any (v : Int) (n : Nat) (w : World) (hv : 0 ≤ v ∧ v ≤ 18446744073709551615) (hn : 1 ≤ n ∧ n ≤ 8) :
    Calls Try.prog 31 #[.int .u64 v, .int .i64 n] w fun e w' => ∃ g c : Nat, e = .returned (.slice (some ⟨g, 0, none⟩) n c) ∧ Row w' w.heap.size g n c (lb n v) ∧ Below w.heap.size w w' := by
  obtain ⟨i0, hi, hz0, hz1, hz2⟩ := info_parts info5
  go_enter Try.func31, Try.ntmps31
  go_wp2
  go_loopw [5, 6, 0] (fun b i x wr => ∃ k : Nat, ∃ u : Int, ∃ acc : List Int, k ≤ n ∧ i = .int .i64 k ∧ x = .int .u64 u ∧ 0 ≤ u ∧ u ≤ 18446744073709551615 ∧ Hid (acc.length = k) ∧ Hid (acc ++ lb (n - k) u = lb n v) ∧ Hid (wr.ownsRow w.heap.size 5 1 b k (acc.map (Value.int .u8))) ∧ Hid (Below w.heap.size w wr)) (fun _ i _ _ => n - (intOf i).toNat)
  case atStart => exact ⟨0, v, [], by omega, rfl, rfl, hv.1, hv.2, rfl, rfl, World.ownsRow_nil _ _ _ _, Below.refl _ _⟩
  case round =>
    obtain ⟨k, u, acc, hk, rfl, rfl, hu0, hu1, hj, hacc, hrow, hbel⟩ := hrel
    by_cases h : k < n
    · have e1 : Hid (acc ++ (u % 256) :: lb (n - (k + 1)) (u / 256) = lb n v) := by
        have := hacc.out
        rw [show n - k = (n - (k + 1)) + 1 by omega] at this
        exact this
      clear hacc
      go_wp2_with (at_builtin; refine wpList_append_own _ rfl _ _ 28 rfl w.heap.size 5 i0 (.int .u8 0) 1 1 Try.underlying28 hi hz0 hz1 hz2 rfl (by decide) _ _ _ rfl (World.ownsRow.alloc hrow.out _) ⟨wr.heap.size, 0, none⟩ 1 1 [.int .u8 (u % 256)] rfl rfl ?c1 ?c2 ?c3 ?c4 ?c5 ?_)
      case c1 => exact cell_one_new _ _ _
      case c2 => intro u hu; simp at hu; subst hu; rfl
      case c3 => unfold maxLen; omega
      case c4 => omega
      case c5 => have := hbel.out.size; simp; omega
      intro v1 w1 own1 g1 _
      have R1 : Hid (w1.ownsRow w.heap.size 5 1 v1 (k + 1) ((acc ++ [u % 256]).map (Value.int .u8))) := by
        show World.ownsRow _ _ _ _ _ _ _
        simpa using own1
      have B1 : Hid (Below w.heap.size w w1) := below_own (hbel.out.alloc hbel.out.size _) (World.ownsRow.alloc hrow.out _) g1 (by have := hbel.out.size; simp; omega)
      clear own1 g1 hrow hbel
      go_wp2
      go_roundw
      case rel => exact ⟨k + 1, u / 256, acc ++ [u % 256], by omega, by go_num, by go_num, by omega, by omega, by show _ = _; have := hj.out; simp; omega, by show _ = _; rw [← e1.out]; simp, R1, B1⟩
      case measure => simp [intOf]; omega
    · have hkn : k = n := by omega
      subst hkn
      obtain ⟨g, c, hv1, R1⟩ := shape hrow.out (by omega)
      have e1 : acc = lb k v := by have := hacc.out; simp [lb] at this; exact this
      rw [e1] at R1
      have HR : Hid (Row wr w.heap.size g k c (lb k v)) := R1
      rw [hv1]
      clear R1 hrow hacc hv1 e1
      go_wp2
      go_ret
      exact ⟨g, c, rfl, HR.out, hbel.out⟩

theorem rfixed_arg (a : Option Addr) (len cap : Nat) (p n : Int) (w : World) (h : p < 0 ∨ (len : Int) < p) :
    Calls Try.prog 42 #[.slice a len cap, .int .i64 p, .int .i64 n] w fun e w' => e = .returned (.tuple #[.int .u64 0, .int .i64 0, .int .i64 2]) ∧ w' = w := by
  by_cases h0 : p < 0
  · clear h
    go_enter Try.func42, Try.ntmps42
    go_wp2
    go_ret3
    exact ⟨rfl, rfl⟩
  · have h1 : (len : Int) < p := by omega
    clear h
    go_enter Try.func42, Try.ntmps42
    go_wp2
    go_ret3
    exact ⟨rfl, rfl⟩
theorem rfixed_short (a : Option Addr) (len cap p n : Nat) (w : World) (hp : p ≤ len) (hcap : len ≤ 281474976710656) (h : (len : Int) - p < n) :
    Calls Try.prog 42 #[.slice a len cap, .int .i64 p, .int .i64 n] w fun e w' => e = .returned (.tuple #[.int .u64 0, .int .i64 0, .int .i64 10]) ∧ w' = w := by
  have h0 : ¬ (p : Int) < 0 := by omega
  have h1 : ¬ (len : Int) < (p : Int) := by omega
  go_enter Try.func42, Try.ntmps42
  go_wp2
  go_ret3
  exact ⟨rfl, rfl⟩
set_option maxHeartbeats 1000000 in
theorem rfixed_some (b off len cap p n : Nat) (ys : List Int) (w : World) (hl : len ≤ cap) (hcap : len ≤ 281474976710656) (hp : p + n ≤ len) (hn : n ≤ 8) (hy : ys.length = n)
    (hb : ∀ y ∈ ys, 0 ≤ y ∧ y ≤ 255) (hc : ∀ k, k < n → w.cell? ⟨b, off + (p + k), none⟩ = some (.int .u8 (ys.getD k 0))) :
    Calls Try.prog 42 #[.slice (some ⟨b, off, none⟩) len cap, .int .i64 p, .int .i64 n] w fun e w' => e = .returned (.tuple #[.int .u64 (Fx.le ys), .int .i64 (p + n), .int .i64 0]) ∧ w' = w := by
  have h0 : ¬ (p : Int) < 0 := by omega
  have h1 : ¬ (len : Int) < (p : Int) := by omega
  have h2 : ¬ (len : Int) - (p : Int) < (n : Int) := by omega
  have HC : Hid (∀ k, k < n → w.cell? ⟨b, off + (p + k), none⟩ = some (.int .u8 (ys.getD k 0))) := hc
  have HB : Hid (∀ y ∈ ys, 0 ≤ y ∧ y ≤ 255) := hb
  have HY : Hid (ys.length = n) := hy
  clear hc hb hy
  go_enter Try.func42, Try.ntmps42
  go_wp2
  go_loop [9, 10] (fun v i => ∃ k : Nat, k ≤ n ∧ i = .int .i64 ((k : Int) - 1) ∧ v = .int .u64 (Fx.le (ys.drop k))) (fun _ i => (intOf i + 1).toNat)
  case atStart => exact ⟨n, by omega, rfl, by rw [List.drop_eq_nil_of_le (by rw [HY.out]; omega)]; rfl⟩
  case round =>
    obtain ⟨k, hk, rfl, rfl⟩ := hrel
    by_cases hlt : 0 < k
    · obtain ⟨j, rfl⟩ : ∃ j, k = j + 1 := ⟨k - 1, by omega⟩
      have hcell := HC.out j (by omega)
      have hin : j < ys.length := by rw [HY.out]; omega
      have hYk := HB.out (ys.getD j 0) (by rw [List.getD_eq_getElem?_getD, List.getElem?_eq_getElem hin]; exact List.getElem_mem hin)
      have HE : Hid (Fx.le (ys.drop j) = ys.getD j 0 + 256 * Fx.le (ys.drop (j + 1))) := Fx.le_drop ys j hin
      have HB2 : Hid (Fx.le (ys.drop j) < 18446744073709551616) := by
        show _ < _
        have h1 := (Fx.le_drop_bd ys HB.out j).2
        have h2 := Fx.p256_8 (ys.length - j) (by rw [HY.out]; omega)
        omega
      have hu0 : 0 ≤ Fx.le (ys.drop (j + 1)) := (Fx.le_drop_bd ys HB.out (j + 1)).1
      clear HC HB HY hin
      generalize ys.getD j 0 = y at hcell hYk HE
      generalize hu : Fx.le (ys.drop (j + 1)) = u at hu0 HE
      clear hu
      have hu1 : u * 256 + y ≤ 18446744073709551615 := by have := HB2.out; rw [HE.out] at this; omega
      have ej : ((j + 1 : Nat) : Int) - 1 = (j : Int) := by omega
      rw [ej]
      clear ej
      go_wp2
      go_round
      case rel => exact ⟨j, by omega, by go_num, by rw [HE.out]; first | done | go_num⟩
      case measure => simp [intOf]
    · have hk0 : k = 0 := by omega
      subst hk0
      clear HC HB HY
      have ej : ((0 : Nat) : Int) - 1 = -1 := by omega
      rw [ej, List.drop_zero]
      clear ej
      go_wp2
      go_ret3
      exact ⟨rfl, rfl⟩
theorem rfixed_any (a : Option Addr) (len cap : Nat) (zs : List Int) (p : Int) (n : Nat) (w : World) (H : Bytes w a len cap zs) (hcap : len ≤ 281474976710656) (hn : 1 ≤ n ∧ n ≤ 8) :
    Calls Try.prog 42 #[.slice a len cap, .int .i64 p, .int .i64 n] w fun e w' => e = .returned (.tuple #[.int .u64 (Fx.fread zs p n).1, .int .i64 (Fx.fread zs p n).2.1, .int .i64 (Fx.fread zs p n).2.2]) ∧ w' = w := by
  obtain ⟨hz, hl, hno, hb, hc⟩ := H
  unfold Fx.fread
  by_cases h : p < 0 ∨ (len : Int) < p
  · rw [if_pos (by rw [hz]; exact h)]
    exact rfixed_arg a len cap p n w h
  · rw [if_neg (by rw [hz]; exact h)]
    obtain ⟨q, rfl⟩ : ∃ q : Nat, p = (q : Int) := ⟨p.toNat, by omega⟩
    rw [Int.toNat_natCast]
    by_cases hs : (len : Int) - q < n
    · rw [if_pos (by rw [hz]; exact hs)]
      exact rfixed_short a len cap q n w (by omega) (by omega) hs
    · rw [if_neg (by rw [hz]; exact hs)]
      cases a with
      | none => have := hno rfl; omega
      | some x =>
        have h0 := hc x rfl 0 (by omega)
        obtain ⟨b, off, spot⟩ := x
        have hspot : spot = none := by simpa [Addr.add] using World.cell?_spot h0
        subst hspot
        refine rfixed_some b off len cap q n ((zs.drop q).take n) w hl hcap (by omega) hn.2 (by simp; omega) (fun y hy => hb y (List.mem_of_mem_drop (List.mem_of_mem_take hy))) ?_
        intro k hk
        have := hc _ rfl (q + k) (by omega)
        rw [addr_add] at this
        rw [this]
        simp [List.getD_eq_getElem?_getD, hk]

end Go.Proofs.Ytkanjbeijoeenaa.By

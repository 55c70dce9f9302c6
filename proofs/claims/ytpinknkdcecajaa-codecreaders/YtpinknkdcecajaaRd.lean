/- Contracts of the calls that tell how many bytes a number has and that read a number at a place: what each returns, for all arguments, and that memory stays as it was. -/
import Derived.Test.YtpinknkdcecajaaRows
import Derived.WalkKit
import Derived.ProofKit
import Derived.OpenShut
import Derived.WalkSpells
import Derived.WalkLawsBesides
import Derived.Test.YtpinknkdcecajaaVb
namespace Go.Proofs.Ytpinknkdcecajaa.Rd
open Go.ChangeShapes Go.WideShapes Go.ChangeAt Go.RowKit
set_option linter.unusedVariables false

theorem ret_int {k : IntKind} {a b : Int} (h : a = b) : Ending.returned (.int k a) = .returned (.int k b) := by rw [h]
theorem ret3 {k1 k2 k3 : IntKind} {a b c : Int} {t : Int × Int × Int} (h : (a, b, c) = t) : Ending.returned (.tuple #[.int k1 a, .int k2 b, .int k3 c]) = .returned (.tuple #[.int k1 t.1, .int k2 t.2.1, .int k3 t.2.2]) := by rw [← h]

theorem addr_add (b off n : Nat) : (⟨b, off, none⟩ : Addr).add n = ⟨b, off + n, none⟩ := by
  unfold Addr.add; split <;> simp_all

/-- A slice of bytes that can be read: its bytes are 'zs'. -/
def Bytes (w : World) (a : Option Addr) (len cap : Nat) (zs : List Int) : Prop :=
  zs.length = len ∧ len ≤ cap ∧ (a = none → len = 0 ∧ cap = 0) ∧ (∀ y ∈ zs, 0 ≤ y ∧ y ≤ 255) ∧ (∀ x, a = some x → ∀ i, i < len → w.cell? (x.add i) = some (.int .u8 (zs.getD i 0)))

set_option maxHeartbeats 1000000 in
set_option maxRecDepth 100000 in
theorem len64_any (x : Int) (w : World) (h0 : 0 ≤ x) (h1 : x ≤ 18446744073709551615) :
    Calls Try.prog 45 #[.int .u64 x] w fun e w' => e = .returned (.int .i64 (bitLen x.toNat)) ∧ w' = w := by
  have K : Hid (∀ (y n : Int) (b : Nat), n = b → y.toNat = x.toNat / 2 ^ b → y.toNat < 256 → (b = 0 ∨ y.toNat ≠ 0) → b ≤ 64 → wrap64 (n + wrap64 (bitLen y.toNat : Int)) = bitLen x.toNat) := fun y n b => Vb.len_close x y n b ⟨h0, h1⟩
  by_cases h2 : 4294967296 ≤ x
  · by_cases h3 : 65536 ≤ x / 4294967296
    · by_cases h4 : 256 ≤ x / 4294967296 / 65536
      · go_enter Try.func45, Try.ntmps45
        go_wp2
        go_ret
        refine ⟨ret_int ?_, rfl⟩
        rw [len8tab_get]
        exact K.out _ _ 56 rfl (by omega) (by omega) (by omega) (by omega)
      · go_enter Try.func45, Try.ntmps45
        go_wp2
        go_ret
        refine ⟨ret_int ?_, rfl⟩
        rw [len8tab_get]
        exact K.out _ _ 48 rfl (by omega) (by omega) (by omega) (by omega)
    · by_cases h4 : 256 ≤ x / 4294967296
      · go_enter Try.func45, Try.ntmps45
        go_wp2
        go_ret
        refine ⟨ret_int ?_, rfl⟩
        rw [len8tab_get]
        exact K.out _ _ 40 rfl (by omega) (by omega) (by omega) (by omega)
      · go_enter Try.func45, Try.ntmps45
        go_wp2
        go_ret
        refine ⟨ret_int ?_, rfl⟩
        rw [len8tab_get]
        exact K.out _ _ 32 rfl (by omega) (by omega) (by omega) (by omega)
  · by_cases h3 : 65536 ≤ x
    · by_cases h4 : 256 ≤ x / 65536
      · go_enter Try.func45, Try.ntmps45
        go_wp2
        go_ret
        refine ⟨ret_int ?_, rfl⟩
        rw [len8tab_get]
        exact K.out _ _ 24 rfl (by omega) (by omega) (by omega) (by omega)
      · go_enter Try.func45, Try.ntmps45
        go_wp2
        go_ret
        refine ⟨ret_int ?_, rfl⟩
        rw [len8tab_get]
        exact K.out _ _ 16 rfl (by omega) (by omega) (by omega) (by omega)
    · by_cases h4 : 256 ≤ x
      · go_enter Try.func45, Try.ntmps45
        go_wp2
        go_ret
        refine ⟨ret_int ?_, rfl⟩
        rw [len8tab_get]
        exact K.out _ _ 8 rfl (by omega) (by omega) (by omega) (by omega)
      · go_enter Try.func45, Try.ntmps45
        go_wp2
        go_ret
        refine ⟨ret_int ?_, rfl⟩
        rw [len8tab_get]
        have k := K.out x 0 0 rfl (by simp) (by omega) (by omega) (by omega)
        rw [Int.zero_add] at k
        exact k

theorem size_any (v : Int) (w : World) (h : 0 ≤ v ∧ v ≤ 18446744073709551615) :
    Calls Try.prog 11 #[.int .u64 v] w fun e w' => e = .returned (.int .i64 (Vb.vb v).length) ∧ w' = w := by
  have E : Hid (wrap64 ((wrap64 ((bitLen (if v % 2 = 0 then v + 1 else v).toNat : Int) + 6)).tdiv 7) = (Vb.vb v).length) := (Vb.size_eq v h).1
  have O : Hid (bits .or .u64 v 1 = if v % 2 = 0 then v + 1 else v) := Vb.or1 v h
  have X : 0 ≤ (if v % 2 = 0 then v + 1 else v) ∧ (if v % 2 = 0 then v + 1 else v) ≤ 18446744073709551615 := by split <;> omega
  generalize (if v % 2 = 0 then v + 1 else v) = x at E O X
  go_enter Try.func11, Try.ntmps11
  go_wp2_with fail
  rw [O.out]
  refine (len64_any x _ X.1 X.2).mono ?_
  rintro e w' ⟨rfl, rfl⟩
  generalize (bitLen x.toNat : Int) = B at E
  go_wp2
  go_ret
  exact ⟨ret_int E.out, rfl⟩

theorem varint_arg (a : Option Addr) (len cap : Nat) (p : Int) (w : World) (h : p < 0 ∨ (len : Int) < p) :
    Calls Try.prog 21 #[.slice a len cap, .int .i64 p] w fun e w' => e = .returned (.tuple #[.int .u64 0, .int .i64 0, .int .i64 2]) ∧ w' = w := by
  by_cases h0 : p < 0
  · clear h
    go_enter Try.func21, Try.ntmps21
    go_wp2
    go_ret3
    exact ⟨rfl, rfl⟩
  · have h1 : (len : Int) < p := by omega
    clear h
    go_enter Try.func21, Try.ntmps21
    go_wp2
    go_ret3
    exact ⟨rfl, rfl⟩

/-- Nothing stands at the place right behind the last byte. -/
theorem varint_none (a : Option Addr) (len cap : Nat) (w : World) (hl : len ≤ cap) (hn : a = none → len = 0 ∧ cap = 0) (hcap : len ≤ 281474976710656) :
    Calls Try.prog 21 #[.slice a len cap, .int .i64 len] w fun e w' => e = .returned (.tuple #[.int .u64 0, .int .i64 0, .int .i64 10]) ∧ w' = w := by
  cases a with
  | none =>
    obtain ⟨rfl, rfl⟩ := hn rfl
    go_enter Try.func21, Try.ntmps21
    go_wp2
    refine wp_loop_rounds 1 ?_
    rw [rounds_succ]
    go_wp2
    go_ret3
    exact ⟨rfl, rfl⟩
  | some x =>
    clear hn
    have h0 : ¬ (len : Int) < 0 := by omega
    by_cases hc : cap = len
    · subst hc
      go_enter Try.func21, Try.ntmps21
      go_wp2
      refine wp_loop_rounds 1 ?_
      rw [rounds_succ]
      go_wp2
      go_ret3
      exact ⟨rfl, rfl⟩
    · go_enter Try.func21, Try.ntmps21
      go_wp2
      refine wp_loop_rounds 1 ?_
      rw [rounds_succ]
      go_wp2
      go_ret3
      exact ⟨rfl, rfl⟩

set_option maxHeartbeats 2000000 in
theorem varint_some (b off len cap p : Nat) (ys : List Int) (w : World) (hl : len ≤ cap) (hcap : len ≤ 281474976710656) (hp : p < len) (hy : ys.length = len - p)
    (hb : ∀ y ∈ ys, 0 ≤ y ∧ y ≤ 255) (hc : ∀ k, k < len - p → w.cell? ⟨b, off + p + k, none⟩ = some (.int .u8 (ys.getD k 0))) :
    Calls Try.prog 21 #[.slice (some ⟨b, off, none⟩) len cap, .int .i64 p] w fun e w' => e = .returned (.tuple #[.int .u64 (Vb.rd p 0 0 ys).1, .int .i64 (Vb.rd p 0 0 ys).2.1, .int .i64 (Vb.rd p 0 0 ys).2.2]) ∧ w' = w := by
  have h0 : ¬ (p : Int) < 0 := by omega
  have h1 : ¬ (len : Int) < (p : Int) := by omega
  have h2 : ¬ cap = p := by omega
  have HC : Hid (∀ k, k < len - p → w.cell? ⟨b, off + p + k, none⟩ = some (.int .u8 (ys.getD k 0))) := hc
  have HB : Hid (∀ y ∈ ys, 0 ≤ y ∧ y ≤ 255) := hb
  have HY : Hid (ys.length = len - p) := hy
  clear hc hb hy
  obtain ⟨R, hR⟩ : ∃ R, R = Vb.rd p 0 0 ys := ⟨_, rfl⟩
  rw [← hR]
  have HR : Hid (R = Vb.rd p 0 0 ys) := hR
  clear hR
  go_enter Try.func21, Try.ntmps21
  go_wp2
  go_loop [4, 16] (fun v i => ∃ k : Nat, ∃ u : Int, k ≤ len - p ∧ k ≤ 9 ∧ Hid (0 ≤ u ∧ u < 128 ^ k) ∧ Hid (R = Vb.rd p k u (ys.drop k)) ∧ i = .int .i64 k ∧ v = .int .u64 u) (fun _ i => len - p - (intOf i).toNat)
  case atStart => exact ⟨0, 0, by omega, by omega, by show _ ∧ _; simp, by show _ = _; simpa using HR.out, rfl, rfl⟩
  case round =>
    obtain ⟨k, u, hk, hk9, hu, hr, rfl, rfl⟩ := hrel
    by_cases hlt : k < len - p
    · have hcell := HC.out k hlt
      have hin : k < ys.length := by rw [HY.out]; exact hlt
      have hYk := HB.out (ys.getD k 0) (by rw [List.getD_eq_getElem?_getD, List.getElem?_eq_getElem hin]; exact List.getElem_mem hin)
      have hr2 : R = Vb.rd p k u (ys.getD k 0 :: ys.drop (k + 1)) := by
        rw [hr.out]; congr 1
        rw [List.getD_eq_getElem?_getD, List.getElem?_eq_getElem hin]; exact List.drop_eq_getElem_cons hin
      clear HC hr hin HY HB
      generalize ys.getD k 0 = y at hcell hYk hr2
      have HO : Hid (∀ (_ : k = 9 → y ≤ 1), bits .or .u64 u (IntKind.u64.wrap (IntKind.u64.wrap (bits .and .u8 y 127) * 2 ^ (7 * k))) = u + y % 128 * 128 ^ k) := fun h9 => Vb.or_eq u y k hu.out hYk hk9 h9
      have HA : Hid (0 ≤ u + y % 128 * 128 ^ k ∧ u + y % 128 * 128 ^ k < 128 ^ (k + 1)) := Vb.acc_lt u y k hu.out hYk.1
      clear hu
      unfold Vb.rd at hr2
      have HR2 : Hid (R = if k = 9 ∧ 1 < y then (0, 0, 11) else if 128 ≤ y then Vb.rd p (k + 1) (u + y % 128 * 128 ^ k) (ys.drop (k + 1)) else if y = 0 ∧ 0 < k then (0, 0, 11) else (u + y % 128 * 128 ^ k, p + k + 1, 0)) := hr2
      clear hr2
      by_cases h9 : k = 9 ∧ 1 < y
      · obtain ⟨h9, hy1⟩ := h9
        have h9' : ((k : Int) == 9) = true := by simp; omega
        have H9 : Hid (k = 9) := h9
        clear h9
        go_wp2
        go_ret3
        exact ⟨ret3 (by rw [HR2.out, if_pos ⟨H9.out, hy1⟩]), rfl⟩
      · have HN : Hid (¬ (k = 9 ∧ 1 < y)) := h9
        have h9a : Hid (k = 9 → y ≤ 1) := by show _ → _; omega
        have HOr := HO.out h9a.out
        have HO2 : Hid (bits .or .u64 u (IntKind.u64.wrap (IntKind.u64.wrap (bits .and .u8 y 127) * 2 ^ (7 * k))) = u + y % 128 * 128 ^ k) := HOr
        clear HOr HO
        by_cases h128 : 128 ≤ y
        · have h9' : ((k : Int) == 9) = false := by simp; omega
          clear h9
          have hk8 : k < 9 := by have := h9a.out; omega
          go_wp2
          go_round
          case rel => exact ⟨k + 1, u + y % 128 * 128 ^ k, by omega, by omega, HA, by show _ = _; rw [HR2.out, if_neg HN.out, if_pos h128], by go_num, by rw [HO2.out]⟩
          case measure => simp [intOf]; omega
        · have hz : ∀ b9 : Bool, ((k : Int) == 9) = b9 → (b9 = true → y ≤ 1) → True := fun _ _ _ => trivial
          clear hz h9
          have HE : Hid (R = if y = 0 ∧ 0 < k then (0, 0, 11) else (u + y % 128 * 128 ^ k, (p : Int) + k + 1, 0)) := by show _ = _; rw [HR2.out, if_neg HN.out, if_neg h128]
          clear HR2 HN HA
          by_cases hy0 : y = 0
          · have hy0b : (y == 0) = true := by simp [hy0]
            have hy1 : y ≤ 1 := by omega
            have HY0 : Hid (y = 0) := hy0
            clear hy0
            by_cases hk0 : 0 < k
            · have HF : Hid (R = (0, 0, 11)) := by show _ = _; rw [HE.out, if_pos ⟨HY0.out, hk0⟩]
              clear HE
              by_cases h9 : k = 9
              · have h9' : ((k : Int) == 9) = true := by simp; omega
                clear h9
                go_wp2
                go_ret3
                exact ⟨ret3 (by rw [HF.out]), rfl⟩
              · have h9' : ((k : Int) == 9) = false := by simp; omega
                clear h9
                go_wp2
                go_ret3
                exact ⟨ret3 (by rw [HF.out]), rfl⟩
            · have HF : Hid (R = (u + y % 128 * 128 ^ k, (p : Int) + k + 1, 0)) := by show _ = _; rw [HE.out, if_neg (fun h => hk0 h.2)]
              have h9' : ((k : Int) == 9) = false := by simp; omega
              clear HE
              go_wp2
              go_ret3
              exact ⟨ret3 (by rw [HF.out, ← HO2.out]), rfl⟩
          · have hy0b : (y == 0) = false := by simp [hy0]
            have HF : Hid (R = (u + y % 128 * 128 ^ k, (p : Int) + k + 1, 0)) := by show _ = _; rw [HE.out, if_neg (fun h => hy0 h.1)]
            clear HE hy0
            by_cases h9 : k = 9
            · have h9' : ((k : Int) == 9) = true := by simp; omega
              have hy1 : y ≤ 1 := h9a.out h9
              clear h9
              go_wp2
              go_ret3
              exact ⟨ret3 (by rw [HF.out, ← HO2.out]), rfl⟩
            · have h9' : ((k : Int) == 9) = false := by simp; omega
              clear h9
              go_wp2
              go_ret3
              exact ⟨ret3 (by rw [HF.out, ← HO2.out]), rfl⟩
    · have hke : k = len - p := by omega
      have hr2 : R = (0, 0, 10) := by
        rw [hr.out, List.drop_eq_nil_of_le (by rw [HY.out]; omega)]; rfl
      have HR2 : Hid (R = (0, 0, 10)) := hr2
      clear hr2 hr
      go_wp2
      go_ret3
      exact ⟨ret3 (by rw [HR2.out]), rfl⟩

theorem varint_any (a : Option Addr) (len cap : Nat) (zs : List Int) (p : Int) (w : World) (H : Bytes w a len cap zs) (hcap : len ≤ 281474976710656) :
    Calls Try.prog 21 #[.slice a len cap, .int .i64 p] w fun e w' => e = .returned (.tuple #[.int .u64 (Vb.vread zs p).1, .int .i64 (Vb.vread zs p).2.1, .int .i64 (Vb.vread zs p).2.2]) ∧ w' = w := by
  obtain ⟨hz, hl, hn, hb, hc⟩ := H
  unfold Vb.vread
  by_cases h : p < 0 ∨ (len : Int) < p
  · rw [if_pos (by rw [hz]; exact h)]
    exact varint_arg a len cap p w h
  · rw [if_neg (by rw [hz]; exact h)]
    obtain ⟨q, rfl⟩ : ∃ q : Nat, p = (q : Int) := ⟨p.toNat, by omega⟩
    rw [Int.toNat_natCast]
    by_cases hq : q = len
    · subst hq
      rw [List.drop_eq_nil_of_le (by omega)]
      exact varint_none a q cap w hl hn hcap
    · cases a with
      | none => have := hn rfl; omega
      | some x =>
        have h0 := hc x rfl 0 (by omega)
        obtain ⟨b, off, spot⟩ := x
        have hspot : spot = none := by simpa [Addr.add] using World.cell?_spot h0
        subst hspot
        refine varint_some b off len cap q (zs.drop q) w hl hcap (by omega) (by simp; omega) (fun y hy => hb y (List.mem_of_mem_drop hy)) ?_
        intro k hk
        have := hc _ rfl (q + k) (by omega)
        rw [addr_add] at this
        rw [show off + q + k = off + (q + k) by omega, this]
        simp
end Go.Proofs.Ytpinknkdcecajaa.Rd

/- The codec's reads: numbers of fixed length, numbers in their shortest form, texts. -/
import Derived.Test.YtnpeocoipodmfaaBy
namespace Go.Proofs.Ytnpeocoipodmfaa.By
open Go.ChangeShapes Go.WideShapes Go.ChangeAt Go.RowKit
set_option linter.unusedVariables false

theorem varint_arg (a : Option Addr) (len cap : Nat) (p : Int) (w : World) (h : p < 0 ∨ (len : Int) < p) :
    Calls Try.prog 36 #[.slice a len cap, .int .i64 p] w fun e w' => e = .returned (.tuple #[.int .u64 0, .int .i64 0, .int .i64 2]) ∧ w' = w := by
  by_cases h0 : p < 0
  · clear h
    go_enter Try.func36, Try.ntmps36
    go_wp2
    go_ret3
    exact ⟨rfl, rfl⟩
  · have h1 : (len : Int) < p := by omega
    clear h
    go_enter Try.func36, Try.ntmps36
    go_wp2
    go_ret3
    exact ⟨rfl, rfl⟩

/-- Nothing stands at the place right behind the last byte. -/
theorem varint_none (a : Option Addr) (len cap : Nat) (w : World) (hl : len ≤ cap) (hn : a = none → len = 0 ∧ cap = 0) (hcap : len ≤ 281474976710656) :
    Calls Try.prog 36 #[.slice a len cap, .int .i64 len] w fun e w' => e = .returned (.tuple #[.int .u64 0, .int .i64 0, .int .i64 10]) ∧ w' = w := by
  cases a with
  | none =>
    obtain ⟨rfl, rfl⟩ := hn rfl
    go_enter Try.func36, Try.ntmps36
    go_wp2
    refine wp_loop_rounds 1 ?_
    rw [rounds_succ]
    go_wp2
    go_ret3
    exact ⟨rfl, rfl⟩
  | some x =>
    clear hn
    have h0 : ¬ (len : Int) < 0 := by omega
    by_cases hc : cap = len
    · subst hc
      go_enter Try.func36, Try.ntmps36
      go_wp2
      refine wp_loop_rounds 1 ?_
      rw [rounds_succ]
      go_wp2
      go_ret3
      exact ⟨rfl, rfl⟩
    · go_enter Try.func36, Try.ntmps36
      go_wp2
      refine wp_loop_rounds 1 ?_
      rw [rounds_succ]
      go_wp2
      go_ret3
      exact ⟨rfl, rfl⟩

set_option maxHeartbeats 2000000 in
theorem varint_some (b off len cap p : Nat) (ys : List Int) (w : World) (hl : len ≤ cap) (hcap : len ≤ 281474976710656) (hp : p < len) (hy : ys.length = len - p)
    (hb : ∀ y ∈ ys, 0 ≤ y ∧ y ≤ 255) (hc : ∀ k, k < len - p → w.cell? ⟨b, off + p + k, none⟩ = some (.int .u8 (ys.getD k 0))) :
    Calls Try.prog 36 #[.slice (some ⟨b, off, none⟩) len cap, .int .i64 p] w fun e w' => e = .returned (.tuple #[.int .u64 (Vb.rd p 0 0 ys).1, .int .i64 (Vb.rd p 0 0 ys).2.1, .int .i64 (Vb.rd p 0 0 ys).2.2]) ∧ w' = w := by
  have h0 : ¬ (p : Int) < 0 := by omega
  have h1 : ¬ (len : Int) < (p : Int) := by omega
  have h2 : ¬ cap = p := by omega
  have HC : Hid (∀ k, k < len - p → w.cell? ⟨b, off + p + k, none⟩ = some (.int .u8 (ys.getD k 0))) := hc
  have HB : Hid (∀ y ∈ ys, 0 ≤ y ∧ y ≤ 255) := hb
  have HY : Hid (ys.length = len - p) := hy
  clear hc hb hy
  obtain ⟨R, hR⟩ : ∃ R, R = Vb.rd p 0 0 ys := ⟨_, rfl⟩
  rw [← hR]
  have HR : Hid (R = Vb.rd p 0 0 ys) := hR
  clear hR
  go_enter Try.func36, Try.ntmps36
  go_wp2
  go_loop [4, 16] (fun v i => ∃ k : Nat, ∃ u : Int, k ≤ len - p ∧ k ≤ 9 ∧ Hid (0 ≤ u ∧ u < 128 ^ k) ∧ Hid (R = Vb.rd p k u (ys.drop k)) ∧ i = .int .i64 k ∧ v = .int .u64 u) (fun _ i => len - p - (intOf i).toNat)
  case atStart => exact ⟨0, 0, by omega, by omega, by show _ ∧ _; simp, by show _ = _; simpa using HR.out, rfl, rfl⟩
  case round =>
    obtain ⟨k, u, hk, hk9, hu, hr, rfl, rfl⟩ := hrel
    by_cases hlt : k < len - p
    · have hcell := HC.out k hlt
      have hin : k < ys.length := by rw [HY.out]; exact hlt
      have hYk := HB.out (ys.getD k 0) (by rw [List.getD_eq_getElem?_getD, List.getElem?_eq_getElem hin]; exact List.getElem_mem hin)
      have hr2 : R = Vb.rd p k u (ys.getD k 0 :: ys.drop (k + 1)) := by
        rw [hr.out]; congr 1
        rw [List.getD_eq_getElem?_getD, List.getElem?_eq_getElem hin]; exact List.drop_eq_getElem_cons hin
      clear HC hr hin HY HB
      generalize ys.getD k 0 = y at hcell hYk hr2
      have HO : Hid (∀ (_ : k = 9 → y ≤ 1), bits .or .u64 u (IntKind.u64.wrap (IntKind.u64.wrap (bits .and .u8 y 127) * 2 ^ (7 * k))) = u + y % 128 * 128 ^ k) := fun h9 => Vb.or_eq u y k hu.out hYk hk9 h9
      have HA : Hid (0 ≤ u + y % 128 * 128 ^ k ∧ u + y % 128 * 128 ^ k < 128 ^ (k + 1)) := Vb.acc_lt u y k hu.out hYk.1
      clear hu
      unfold Vb.rd at hr2
      have HR2 : Hid (R = if k = 9 ∧ 1 < y then (0, 0, 11) else if 128 ≤ y then Vb.rd p (k + 1) (u + y % 128 * 128 ^ k) (ys.drop (k + 1)) else if y = 0 ∧ 0 < k then (0, 0, 11) else (u + y % 128 * 128 ^ k, p + k + 1, 0)) := hr2
      clear hr2
      by_cases h9 : k = 9 ∧ 1 < y
      · obtain ⟨h9, hy1⟩ := h9
        have h9' : ((k : Int) == 9) = true := by simp; omega
        have H9 : Hid (k = 9) := h9
        clear h9
        go_wp2
        go_ret3
        exact ⟨ret3 (by rw [HR2.out, if_pos ⟨H9.out, hy1⟩]), rfl⟩
      · have HN : Hid (¬ (k = 9 ∧ 1 < y)) := h9
        have h9a : Hid (k = 9 → y ≤ 1) := by show _ → _; omega
        have HOr := HO.out h9a.out
        have HO2 : Hid (bits .or .u64 u (IntKind.u64.wrap (IntKind.u64.wrap (bits .and .u8 y 127) * 2 ^ (7 * k))) = u + y % 128 * 128 ^ k) := HOr
        clear HOr HO
        by_cases h128 : 128 ≤ y
        · have h9' : ((k : Int) == 9) = false := by simp; omega
          clear h9
          have hk8 : k < 9 := by have := h9a.out; omega
          go_wp2
          go_round
          case rel => exact ⟨k + 1, u + y % 128 * 128 ^ k, by omega, by omega, HA, by show _ = _; rw [HR2.out, if_neg HN.out, if_pos h128], by go_num, by rw [HO2.out]⟩
          case measure => simp [intOf]; omega
        · have hz : ∀ b9 : Bool, ((k : Int) == 9) = b9 → (b9 = true → y ≤ 1) → True := fun _ _ _ => trivial
          clear hz h9
          have HE : Hid (R = if y = 0 ∧ 0 < k then (0, 0, 11) else (u + y % 128 * 128 ^ k, (p : Int) + k + 1, 0)) := by show _ = _; rw [HR2.out, if_neg HN.out, if_neg h128]
          clear HR2 HN HA
          by_cases hy0 : y = 0
          · have hy0b : (y == 0) = true := by simp [hy0]
            have hy1 : y ≤ 1 := by omega
            have HY0 : Hid (y = 0) := hy0
            clear hy0
            by_cases hk0 : 0 < k
            · have HF : Hid (R = (0, 0, 11)) := by show _ = _; rw [HE.out, if_pos ⟨HY0.out, hk0⟩]
              clear HE
              by_cases h9 : k = 9
              · have h9' : ((k : Int) == 9) = true := by simp; omega
                clear h9
                go_wp2
                go_ret3
                exact ⟨ret3 (by rw [HF.out]), rfl⟩
              · have h9' : ((k : Int) == 9) = false := by simp; omega
                clear h9
                go_wp2
                go_ret3
                exact ⟨ret3 (by rw [HF.out]), rfl⟩
            · have HF : Hid (R = (u + y % 128 * 128 ^ k, (p : Int) + k + 1, 0)) := by show _ = _; rw [HE.out, if_neg (fun h => hk0 h.2)]
              have h9' : ((k : Int) == 9) = false := by simp; omega
              clear HE
              go_wp2
              go_ret3
              exact ⟨ret3 (by rw [HF.out, ← HO2.out]), rfl⟩
          · have hy0b : (y == 0) = false := by simp [hy0]
            have HF : Hid (R = (u + y % 128 * 128 ^ k, (p : Int) + k + 1, 0)) := by show _ = _; rw [HE.out, if_neg (fun h => hy0 h.1)]
            clear HE hy0
            by_cases h9 : k = 9
            · have h9' : ((k : Int) == 9) = true := by simp; omega
              have hy1 : y ≤ 1 := h9a.out h9
              clear h9
              go_wp2
              go_ret3
              exact ⟨ret3 (by rw [HF.out, ← HO2.out]), rfl⟩
            · have h9' : ((k : Int) == 9) = false := by simp; omega
              clear h9
              go_wp2
              go_ret3
              exact ⟨ret3 (by rw [HF.out, ← HO2.out]), rfl⟩
    · have hke : k = len - p := by omega
      have hr2 : R = (0, 0, 10) := by
        rw [hr.out, List.drop_eq_nil_of_le (by rw [HY.out]; omega)]; rfl
      have HR2 : Hid (R = (0, 0, 10)) := hr2
      clear hr2 hr
      go_wp2
      go_ret3
      exact ⟨ret3 (by rw [HR2.out]), rfl⟩

theorem varint_any (a : Option Addr) (len cap : Nat) (zs : List Int) (p : Int) (w : World) (H : Bytes w a len cap zs) (hcap : len ≤ 281474976710656) :
    Calls Try.prog 36 #[.slice a len cap, .int .i64 p] w fun e w' => e = .returned (.tuple #[.int .u64 (Vb.vread zs p).1, .int .i64 (Vb.vread zs p).2.1, .int .i64 (Vb.vread zs p).2.2]) ∧ w' = w := by
  obtain ⟨hz, hl, hn, hb, hc⟩ := H
  unfold Vb.vread
  by_cases h : p < 0 ∨ (len : Int) < p
  · rw [if_pos (by rw [hz]; exact h)]
    exact varint_arg a len cap p w h
  · rw [if_neg (by rw [hz]; exact h)]
    obtain ⟨q, rfl⟩ : ∃ q : Nat, p = (q : Int) := ⟨p.toNat, by omega⟩
    rw [Int.toNat_natCast]
    by_cases hq : q = len
    · subst hq
      rw [List.drop_eq_nil_of_le (by omega)]
      exact varint_none a q cap w hl hn hcap
    · cases a with
      | none => have := hn rfl; omega
      | some x =>
        have h0 := hc x rfl 0 (by omega)
        obtain ⟨b, off, spot⟩ := x
        have hspot : spot = none := by simpa [Addr.add] using World.cell?_spot h0
        subst hspot
        refine varint_some b off len cap q (zs.drop q) w hl hcap (by omega) (by simp; omega) (fun y hy => hb y (List.mem_of_mem_drop hy)) ?_
        intro k hk
        have := hc _ rfl (q + k) (by omega)
        rw [addr_add] at this
        rw [show off + q + k = off + (q + k) by omega, this]
        simp
def tread (zs : List Int) (p : Int) : List Int × Int × Int :=
  if (Vb.vread zs p).2.2 ≠ 0 then ([], 0, (Vb.vread zs p).2.2) else if (zs.length : Int) - (Vb.vread zs p).2.1 < (Vb.vread zs p).1 then ([], 0, 10) else ((zs.drop (Vb.vread zs p).2.1.toNat).take (Vb.vread zs p).1.toNat, (Vb.vread zs p).2.1 + (Vb.vread zs p).1, 0)
theorem vread_ok (zs : List Int) (p : Int) (hb : ∀ y ∈ zs, 0 ≤ y ∧ y ≤ 255) (h : (Vb.vread zs p).2.2 = 0) :
    ∃ q : Nat, (Vb.vread zs p).2.1 = q ∧ 0 ≤ p ∧ p < q ∧ q ≤ zs.length ∧ 0 ≤ (Vb.vread zs p).1 ∧ (Vb.vread zs p).1 ≤ 18446744073709551615 := by
  unfold Vb.vread at h ⊢
  by_cases hp : p < 0 ∨ (zs.length : Int) < p
  · rw [if_pos hp] at h; simp at h
  · rw [if_neg hp] at h ⊢
    obtain ⟨x, m, e1, x0, _, xlt, m1, ml, e2, e3⟩ := Vb.rd_form p (zs.drop p.toNat) 0 0 (by omega) (fun y hy => hb y (List.mem_of_mem_drop hy)) h
    have hx : x < 18446744073709551616 := by rw [show 9 - 0 = 9 from rfl, Vb.two9] at xlt; exact xlt
    rw [List.length_drop] at ml
    refine ⟨p.toNat + m, by rw [e2]; omega, by omega, by omega, by omega, ?_, ?_⟩
    · rw [e1]; simpa using x0
    · rw [e1]; simp; omega
theorem ret_t {zs : List Int} {b c : Int} {t : List Int × Int × Int} (h : (zs, b, c) = t) : Ending.returned (.tuple #[.string (str zs), .int .i64 b, .int .i64 c]) = .returned (.tuple #[.string (str t.1), .int .i64 t.2.1, .int .i64 t.2.2]) := by rw [← h]
theorem ret_e {b c : Int} {t : List Int × Int × Int} (h : ([], b, c) = t) : Ending.returned (.tuple #[.string ⟨#[]⟩, .int .i64 b, .int .i64 c]) = .returned (.tuple #[.string (str t.1), .int .i64 t.2.1, .int .i64 t.2.2]) := by rw [← h]; rfl

--[ab
set_option maxRecDepth 100000 in
--]ab
set_option maxHeartbeats 1000000 in
theorem text_any (a : Option Addr) (len cap : Nat) (zs : List Int) (p : Int) (w : World) (H : Bytes w a len cap zs) (hcap : len ≤ 281474976710656) :
    Calls Try.prog 56 #[.slice a len cap, .int .i64 p] w fun e w' => e = .returned (.tuple #[.string (str (tread zs p).1), .int .i64 (tread zs p).2.1, .int .i64 (tread zs p).2.2]) ∧ w' = w := by
  have HF : Hid (Calls Try.prog 36 #[.slice a len cap, .int .i64 p] w fun e w' => e = .returned (.tuple #[.int .u64 (Vb.vread zs p).1, .int .i64 (Vb.vread zs p).2.1, .int .i64 (Vb.vread zs p).2.2]) ∧ w' = w) := varint_any a len cap zs p w H hcap
  obtain ⟨T, hT⟩ : ∃ T, T = tread zs p := ⟨_, rfl⟩
  rw [← hT]
  have hok := vread_ok zs p H.2.2.2.1
  have hlc := H.2.1
  have hz := H.1
  unfold tread at hT
  rw [hz] at hT hok
  generalize Vb.vread zs p = r at HF hT hok
  obtain ⟨x, q, E⟩ := r
  simp only at hT hok HF
  by_cases hE : E = 0
  · subst hE
    obtain ⟨q', rfl, hp0, hpq, hql, hx0, hx1⟩ := hok rfl
    rw [if_neg (by simp)] at hT
    obtain ⟨m, rfl⟩ : ∃ m : Nat, x = (m : Int) := ⟨x.toNat, by omega⟩
    by_cases hlt : (len : Int) - (q' : Int) < (m : Int)
    · rw [if_pos hlt] at hT
      have HT : Hid (T = ([], 0, 10)) := hT
      clear hT hok
      go_enter Try.func56, Try.ntmps56
      go_wp2_with fail
      refine HF.out.mono ?_
      rintro e w' ⟨rfl, rfl⟩
      clear HF
      go_wp2
      go_ret3
      exact ⟨ret_e (by rw [HT.out]), rfl⟩
    · rw [if_neg hlt] at hT
      simp only [Int.toNat_natCast] at hT
      cases a with
      | none => have := H.2.2.1 rfl; omega
      | some ad =>
        have h0 := H.2.2.2.2 ad rfl 0 (by omega)
        obtain ⟨b, off, spot⟩ := ad
        have hspot : spot = none := by simpa [Addr.add] using World.cell?_spot h0
        subst hspot
        have HT : Hid (T = ((zs.drop q').take m, (q' : Int) + m, 0)) := hT
        have hqm : (q' : Int) + (m : Int) ≤ (len : Int) := by omega
        by_cases hcq : cap = q'
        · have hm0 : m = 0 := by omega
          subst hm0
          have k0 : Sem.run Try.prog (convert 27 9 (.slice (some ⟨b, off, none⟩) 0 0)) w = .ok (.string ⟨#[]⟩) w := conv_run w _ 0 0 [] rfl (fun e => by simp at e) (fun x hx i hi => by omega)
          subst hcq
          have hcl : len = cap := by omega
          subst hcl
          clear hT hok H h0
          go_enter Try.func56, Try.ntmps56
          go_wp2_with fail
          refine HF.out.mono ?_
          rintro e w' ⟨rfl, rfl⟩
          clear HF
          go_wp2
          go_ret3
          exact ⟨ret_e (by rw [HT.out]; simp), rfl⟩
        · have k0 : Sem.run Try.prog (convert 27 9 (.slice (some ⟨b, off + q', none⟩) m (cap - q'))) w = .ok (.string (str ((zs.drop q').take m))) w := by
            refine conv_run w _ m _ _ (by simp; omega) (fun e => by simp at e) ?_
            intro x hx i hi
            simp at hx
            subst hx
            rw [addr_add, Nat.add_assoc, ← addr_add, H.2.2.2.2 _ rfl (q' + i) (by omega)]
            simp [List.getD_eq_getElem?_getD, hi]
          clear hT hok H h0
          go_enter Try.func56, Try.ntmps56
          go_wp2_with fail
          refine HF.out.mono ?_
          rintro e w' ⟨rfl, rfl⟩
          clear HF
          go_wp2
          go_ret3
          exact ⟨ret_t (by rw [HT.out]), rfl⟩
  · rw [if_pos hE] at hT
    have HT : Hid (T = ([], 0, E)) := hT
    have hE' : (E == 0) = false := by simp [hE]
    clear hT hok hE
    go_enter Try.func56, Try.ntmps56
    go_wp2_with fail
    refine HF.out.mono ?_
    rintro e w' ⟨rfl, rfl⟩
    clear HF
    go_wp2
    go_ret3
    exact ⟨ret_e (by rw [HT.out]), rfl⟩
end Go.Proofs.Ytnpeocoipodmfaa.By

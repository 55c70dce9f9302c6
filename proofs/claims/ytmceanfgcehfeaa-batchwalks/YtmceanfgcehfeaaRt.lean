/- The document's reading of a text: as far as it goes, what the codec reads. -/
import Derived.Test.YtmceanfgcehfeaaPu
import Derived.Test.YtmceanfgcehfeaaRn
namespace Go.Proofs.Ytmceanfgcehfeaa.Rt
open Go.ChangeShapes Go.WideShapes Go.ChangeAt Go.RowKit
open Go.Proofs.Ytmceanfgcehfeaa.By
open Go.Proofs.Ytmceanfgcehfeaa.Ob (hid ret2)
set_option linter.unusedVariables false

/-- A text of at most so many bytes. -/
def rdt (zs : List Int) (p : Int) (most : Nat) : Option (List Int × Nat) := if (tread zs p).2.2 = 0 ∧ (tread zs p).1.length ≤ most then some ((tread zs p).1, (tread zs p).2.1.toNat) else none
theorem or_i (u y : Int) (k : Nat) (hu : 0 ≤ u ∧ u < 128 ^ k) (hy : 0 ≤ y ∧ y ≤ 255) (hk : k ≤ 3) :
    bits .or .i64 u (wrap64 (y % 128 * 2 ^ (7 * k))) = u + y % 128 * 128 ^ k := by
  obtain ⟨c, hc⟩ : ∃ c : Nat, y % 128 = (c : Int) := ⟨(y % 128).toNat, by omega⟩
  obtain ⟨n, hn⟩ : ∃ n : Nat, u = (n : Int) := ⟨u.toNat, by omega⟩
  have hP : ((128 : Int) ^ k) = ((128 ^ k : Nat) : Int) := by simp
  have hP2 : ((2 : Int) ^ (7 * k)) = ((128 ^ k : Nat) : Int) := by rw [Vb.pow7]; simp
  rw [hc, hn, hP, hP2]
  rw [hn, hP] at hu
  have hk3 : 128 ^ k ≤ 128 ^ 3 := Nat.pow_le_pow_right (by omega) hk
  have hc1 : c ≤ 127 := by omega
  have hm : c * 128 ^ k ≤ 127 * 128 ^ k := Nat.mul_le_mul_right _ hc1
  have h1 : (BitVec.ofInt 64 (n : Int)).toNat = n := by
    rw [BitVec.ofInt_natCast, BitVec.toNat_ofNat]; exact Nat.mod_eq_of_lt (by omega)
  have h2 : (BitVec.ofInt 64 ((c * 128 ^ k : Nat) : Int)).toNat = c * 128 ^ k := by
    rw [BitVec.ofInt_natCast, BitVec.toNat_ofNat]; exact Nat.mod_eq_of_lt (by omega)
  rw [← Int.natCast_mul, show wrap64 ((c * 128 ^ k : Nat) : Int) = ((c * 128 ^ k : Nat) : Int) from by unfold wrap64; omega]
  show IntKind.i64.wrap ((BitVec.ofInt 64 (n : Int) ||| BitVec.ofInt 64 ((c * 128 ^ k : Nat) : Int)).toNat : Int) = _
  rw [BitVec.toNat_or, h1, h2, Nat.or_comm]
  have e : c * 128 ^ k ||| n = c * 128 ^ k + n := by
    have hu' : n < 2 ^ (7 * k) := by rw [Vb.npow7]; omega
    have := Nat.shiftLeft_add_eq_or_of_lt hu' c
    rw [Nat.shiftLeft_eq, Vb.npow7] at this
    exact this.symm
  rw [e]
  have hlt : c * 128 ^ k + n < 1000000000 := by omega
  generalize c * 128 ^ k = m at *
  rw [IntKind.wrap_i64]
  omega
theorem rd_big (p : Int) (ys : List Int) (k : Nat) (u : Int) (hk : 1 ≤ k) (hk9 : k ≤ 9) (hu : 0 ≤ u) (hb : ∀ y ∈ ys, 0 ≤ y ∧ y ≤ 255) (h : (Vb.rd p k u ys).2.2 = 0) : (128 : Int) ^ k ≤ (Vb.rd p k u ys).1 := by
  obtain ⟨x, m, e1, x0, xp, _⟩ := Vb.rd_form p ys k u hk9 hb h
  have hx := xp (by omega)
  rw [e1]
  have hp : (0 : Int) < 128 ^ k := by
    exact Int.pow_pos (by decide)
  have : 1 * (128 : Int) ^ k ≤ x * 128 ^ k := Int.mul_le_mul_of_nonneg_right (by omega) (by omega)
  omega
/-- Where the number cannot be read, or is too great, nothing is told. -/
theorem rdt_none (zs : List Int) (p : Nat) (most : Nat) (hb : ∀ y ∈ zs, 0 ≤ y ∧ y ≤ 255) (h : (Vb.vread zs p).2.2 ≠ 0 ∨ (most : Int) < (Vb.vread zs p).1 ∨ (zs.length : Int) - (Vb.vread zs p).2.1 < (Vb.vread zs p).1) : rdt zs p most = none := by
  unfold rdt
  rw [if_neg]
  rintro ⟨h1, h2⟩
  unfold tread at h1 h2
  by_cases e : (Vb.vread zs p).2.2 ≠ 0
  · rw [if_pos e] at h1; exact e h1
  · rw [if_neg e] at h1 h2
    by_cases e2 : (zs.length : Int) - (Vb.vread zs p).2.1 < (Vb.vread zs p).1
    · rw [if_pos e2] at h1; simp at h1
    · rw [if_neg e2] at h1 h2
      obtain ⟨q, hq, _, _, hql, hx0, hx1⟩ := vread_ok zs p hb (Decidable.of_not_not e)
      simp only at h2
      rw [List.length_take, List.length_drop] at h2
      rcases h with h | h | h
      · exact e h
      · omega
      · exact e2 h
theorem rdt_some (zs : List Int) (p : Nat) (most : Nat) (hb : ∀ y ∈ zs, 0 ≤ y ∧ y ≤ 255) (u q : Nat) (h : Vb.vread zs p = ((u : Int), (q : Int), 0)) (h1 : u ≤ most) (h2 : q + u ≤ zs.length) : rdt zs p most = some ((zs.drop q).take u, q + u) := by
  have ht : tread zs p = ((zs.drop q).take u, ((q + u : Nat) : Int), 0) := by
    unfold tread
    rw [h, if_neg (by simp), if_neg (by simp only; omega)]
    simp
  unfold rdt
  rw [ht, if_pos ⟨rfl, by simp only; rw [List.length_take]; omega⟩]
  simp only [Int.toNat_natCast]
theorem ret_si {a b : ByteArray} {x y : Int} (h : a = b) (h' : x = y) : Ending.returned (.tuple #[.string a, .int .i64 x]) = .returned (.tuple #[.string b, .int .i64 y]) := by rw [h, h']
/-- What read hands back. -/
def outR (r : Option (List Int × Nat)) : Value := match r with
  | none => .tuple #[.string ⟨#[]⟩, .int .i64 (-1)]
  | some (t, q) => .tuple #[.string (str t), .int .i64 q]
set_option maxRecDepth 100000 in
set_option maxHeartbeats 4000000 in
theorem rread_some (b off len cap p most : Nat) (zs : List Int) (w : World) (H : Bytes w (some ⟨b, off, none⟩) len cap zs) (hcap : len ≤ 140737488351232) (hp : p ≤ len) (hm : most ≤ 1000000) :
    Calls Try.prog 59 #[.slice (some ⟨b, off, none⟩) len cap, .int .i64 p, .int .i64 most] w fun e w' => e = .returned (outR (rdt zs p most)) ∧ w' = w := by
  have hzl := H.1
  have hlc := H.2.1
  have HB := hid H.2.2.2.1
  have HC : Hid (∀ k, k < len → w.cell? ⟨b, off + k, none⟩ = some (.int .u8 (zs.getD k 0))) := fun k hk => by have := H.2.2.2.2 _ rfl k hk; rwa [By.addr_add] at this
  have HBy := hid H
  have HR : Hid (Vb.vread zs p = Vb.rd p 0 0 (zs.drop p)) := by show _ = _; unfold Vb.vread; rw [if_neg (by omega)]; simp
  clear H
  go_enter Try.func59, Try.ntmps59
  go_wp2
  go_loop [1, 8, 9] (fun at' v sh => ∃ k u : Nat, p + k ≤ len ∧ k ≤ 4 ∧ Hid ((u : Int) < 128 ^ k) ∧ Hid (Vb.vread zs p = Vb.rd p k u (zs.drop (p + k))) ∧ at' = .int .i64 ((p + k : Nat) : Int) ∧ v = .int .i64 u ∧ sh = .int .i64 ((7 * k : Nat) : Int)) (fun at' _ _ => len - (intOf at').toNat)
  case atStart => exact ⟨0, 0, by omega, by omega, by show _ < _; simp, HR, rfl, rfl, rfl⟩
  case round =>
    obtain ⟨k, u, hk, hk4, hu, hr, rfl, rfl, rfl⟩ := hrel
    by_cases hlt : p + k < len
    · have i1 : ¬ (len : Int) ≤ ((p + k : Nat) : Int) := by omega
      by_cases h4 : k = 4
      · subst h4
        have HN : Hid (rdt zs p most = none) := by
          show _ = _
          apply rdt_none zs p most HB.out
          by_cases he : (Vb.vread zs p).2.2 = 0
          · refine .inr (.inl ?_)
            rw [hr.out] at he ⊢
            have := rd_big p (zs.drop (p + 4)) 4 u (by omega) (by omega) (by omega) (fun y hy => HB.out y (List.mem_of_mem_drop hy)) he
            have e : (128 : Int) ^ 4 = 268435456 := by decide
            omega
          · exact .inl he
        clear hr hu
        go_wp2
        go_ret2
        exact ⟨by rw [HN.out]; rfl, rfl⟩
      · have hk3 : k ≤ 3 := by omega
        have hcell := HC.out (p + k) hlt
        have hin : p + k < zs.length := by omega
        have hYk := HB.out (zs.getD (p + k) 0) (by rw [List.getD_eq_getElem?_getD, List.getElem?_eq_getElem hin]; exact List.getElem_mem hin)
        have hr2 : Vb.vread zs p = Vb.rd p k u (zs.getD (p + k) 0 :: zs.drop (p + (k + 1))) := by
          rw [hr.out]; congr 1
          rw [List.getD_eq_getElem?_getD, List.getElem?_eq_getElem hin]; exact List.drop_eq_getElem_cons hin
        clear hr
        generalize zs.getD (p + k) 0 = y at hcell hYk hr2
        obtain ⟨hy0, hy1⟩ := hYk
        have HO : Hid (bits .or .i64 (u : Int) (wrap64 (y % 128 * 2 ^ (7 * k))) = u + y % 128 * 128 ^ k) := or_i u y k ⟨by omega, hu.out⟩ ⟨hy0, hy1⟩ hk3
        have HA := Vb.acc_lt u y k ⟨by omega, hu.out⟩ hy0
        obtain ⟨u', hu'⟩ : ∃ u' : Nat, (u' : Int) = u + y % 128 * 128 ^ k := ⟨(u + y % 128 * 128 ^ k).toNat, by omega⟩
        rw [← hu'] at HA
        have HA2 : Hid ((u' : Int) < 128 ^ (k + 1)) := HA.2
        have HO2 : Hid (bits .or .i64 (u : Int) (wrap64 (y % 128 * 2 ^ (7 * k))) = u') := by show _ = _; rw [HO.out, hu']
        have hb28 : u' < 268435456 := by
          have h1 : (128 : Int) ^ (k + 1) ≤ 128 ^ 4 := by
            have e : ∀ j : Nat, (128 : Int) ^ j = ((128 ^ j : Nat) : Int) := fun j => by simp
            rw [e, e]
            have := Nat.pow_le_pow_right (n := 128) (by omega) (show k + 1 ≤ 4 by omega)
            omega
          have e : (128 : Int) ^ 4 = 268435456 := by decide
          omega
        unfold Vb.rd at hr2
        rw [if_neg (by omega), ← hu'] at hr2
        have HR2 := hid hr2
        clear hr2 HO HA hu' hu HR
        have ix : ((7 * k : Nat) : Int) ≤ 21 := by omega
        by_cases h128 : 128 ≤ y
        · have HR3 : Hid (Vb.vread zs p = Vb.rd p (k + 1) u' (zs.drop (p + (k + 1)))) := by show _ = _; rw [HR2.out, if_pos h128]
          go_wp2
          go_round
          case rel => exact ⟨k + 1, u', by omega, by omega, HA2, HR3, by go_num, by rw [HO2.out], by go_num⟩
          case measure => simp [intOf]; omega
        · by_cases hz : y = 0 ∧ 0 < k
          · have HN : Hid (rdt zs p most = none) := by
              show _ = _
              apply rdt_none zs p most HB.out
              refine .inl ?_
              rw [HR2.out, if_neg h128, if_pos hz]
              simp
            obtain ⟨hz1, hz2⟩ := hz
            have e0 : (y == 0) = true := by simp [hz1]
            have e1 : (0 : Int) < ((7 * k : Nat) : Int) := by omega
            clear HR2 hz1
            go_wp2
            go_ret2
            exact ⟨by rw [HN.out]; rfl, rfl⟩
          · have HV : Hid (Vb.vread zs p = ((u' : Int), ((p + k + 1 : Nat) : Int), 0)) := by
              show _ = _; rw [HR2.out, if_neg h128, if_neg hz]; simp
            clear HR2
            have Hend : Hid (∀ b0 : Bool, b0 = (y == 0) → b0 = true → k = 0) := fun b0 hb hb2 => by
              rw [hb] at hb2
              have : y = 0 := by simpa using hb2
              by_cases k0 : k = 0
              · exact k0
              · exact absurd ⟨this, by omega⟩ hz
            have HO3 := HO2.out
            clear HO2 HA2 hz
            by_cases g1 : (most : Int) < (u' : Int)
            · have HN : Hid (rdt zs p most = none) := by
                show _ = _; apply rdt_none zs p most HB.out; rw [HV.out]; exact .inr (.inl g1)
              by_cases y0 : y = 0
              · have e0 : (y == 0) = true := by simp [y0]
                have e1 : ¬ (0 : Int) < ((7 * k : Nat) : Int) := by have := Hend.out _ rfl e0; omega
                clear y0
                go_wp2
                go_ret2
                exact ⟨by rw [HN.out]; rfl, rfl⟩
              · have e0 : (y == 0) = false := by simp [y0]
                clear y0
                go_wp2
                go_ret2
                exact ⟨by rw [HN.out]; rfl, rfl⟩
            · by_cases g2 : (len : Int) - ((p + k + 1 : Nat) : Int) < (u' : Int)
              · have HN : Hid (rdt zs p most = none) := by
                  show _ = _; apply rdt_none zs p most HB.out; rw [HV.out]; exact .inr (.inr (by rw [hzl]; exact g2))
                by_cases y0 : y = 0
                · have e0 : (y == 0) = true := by simp [y0]
                  have e1 : ¬ (0 : Int) < ((7 * k : Nat) : Int) := by have := Hend.out _ rfl e0; omega
                  clear y0
                  go_wp2
                  go_ret2
                  exact ⟨by rw [HN.out]; rfl, rfl⟩
                · have e0 : (y == 0) = false := by simp [y0]
                  clear y0
                  go_wp2
                  go_ret2
                  exact ⟨by rw [HN.out]; rfl, rfl⟩
              · have HS : Hid (rdt zs p most = some ((zs.drop (p + k + 1)).take u', p + k + 1 + u')) := rdt_some zs p most HB.out u' (p + k + 1) HV.out (by omega) (by omega)
                by_cases hcq : cap = p + k + 1
                · have hm0 : u' = 0 := by omega
                  have k0 : Sem.run Try.prog (convert 33 9 (.slice (some ⟨b, off, none⟩) 0 0)) w = .ok (.string ⟨#[]⟩) w := conv_run w _ 0 0 [] rfl (fun e => by simp at e) (fun x hx i hi => by omega)
                  subst hm0
                  by_cases y0 : y = 0
                  · have e0 : (y == 0) = true := by simp [y0]
                    have e1 : ¬ (0 : Int) < ((7 * k : Nat) : Int) := by have := Hend.out _ rfl e0; omega
                    clear y0
                    go_wp2
                    go_ret2
                    refine ⟨?_, rfl⟩
                    rw [HS.out]
                    exact ret_si (a := ⟨#[]⟩) (x := (p : Int) + k + 1) rfl (by omega)
                  · have e0 : (y == 0) = false := by simp [y0]
                    clear y0
                    go_wp2
                    go_ret2
                    refine ⟨?_, rfl⟩
                    rw [HS.out]
                    exact ret_si (a := ⟨#[]⟩) (x := (p : Int) + k + 1) rfl (by omega)
                · have k0 : Sem.run Try.prog (convert 33 9 (.slice (some ⟨b, off + (p + k + 1), none⟩) u' (cap - (p + k + 1)))) w = .ok (.string (str ((zs.drop (p + k + 1)).take u'))) w := by
                    refine conv_run w _ u' _ _ (by rw [List.length_take, List.length_drop]; omega) (fun e => by simp at e) ?_
                    intro x hx i hi
                    simp at hx
                    subst hx
                    rw [By.addr_add, Nat.add_assoc, HC.out (p + k + 1 + i) (by omega)]
                    simp [List.getD_eq_getElem?_getD, hi]
                  by_cases y0 : y = 0
                  · have e0 : (y == 0) = true := by simp [y0]
                    have e1 : ¬ (0 : Int) < ((7 * k : Nat) : Int) := by have := Hend.out _ rfl e0; omega
                    clear y0
                    go_wp2
                    go_ret2
                    refine ⟨?_, rfl⟩
                    rw [HS.out]
                    exact ret_si (a := str ((zs.drop (p + k + 1)).take u')) (x := (p : Int) + k + 1 + u') rfl (by omega)
                  · have e0 : (y == 0) = false := by simp [y0]
                    clear y0
                    go_wp2
                    go_ret2
                    refine ⟨?_, rfl⟩
                    rw [HS.out]
                    exact ret_si (a := str ((zs.drop (p + k + 1)).take u')) (x := (p : Int) + k + 1 + u') rfl (by omega)
    · have i1 : (len : Int) ≤ ((p + k : Nat) : Int) := by omega
      have HN : Hid (rdt zs p most = none) := by
        show _ = _
        apply rdt_none zs p most HB.out
        refine .inl ?_
        rw [hr.out, List.drop_eq_nil_of_le (by omega)]
        simp [Vb.rd]
      clear hr hu
      go_wp2
      go_ret2
      exact ⟨by rw [HN.out]; rfl, rfl⟩
theorem rread_any (a : Option Addr) (len cap p most : Nat) (zs : List Int) (w : World) (H : Bytes w a len cap zs) (hcap : len ≤ 140737488351232) (hp : p ≤ len) (hl0 : 0 < len) (hm : most ≤ 1000000) :
    Calls Try.prog 59 #[.slice a len cap, .int .i64 p, .int .i64 most] w fun e w' => e = .returned (outR (rdt zs p most)) ∧ w' = w := by
  cases a with
  | none => have := H.2.2.1 rfl; omega
  | some ad =>
    have h0 := H.2.2.2.2 ad rfl 0 hl0
    obtain ⟨b, off, spot⟩ := ad
    have hspot : spot = none := by simpa [Addr.add] using World.cell?_spot h0
    subst hspot
    exact rread_some b off len cap p most zs w H hcap hp hm
end Go.Proofs.Ytmceanfgcehfeaa.Rt

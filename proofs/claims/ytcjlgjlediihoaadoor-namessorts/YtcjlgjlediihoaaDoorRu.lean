/- The rune at a place: what the document's Rune tells. -/
--[a6
import Derived.Test.YtcjlgjlediihoaaDoorQq
--]a6
import Derived.Laws.BitsAllLaws
namespace Go.Proofs.YtcjlgjlediihoaaDoor.Rw
open Go.ChangeShapes Go.WideShapes Go.ChangeAt Go.RowKit
open Go.Proofs.YtcjlgjlediihoaaDoor.Ut
open Go.Proofs.YtcjlgjlediihoaaDoor.By
set_option linter.unusedVariables false
set_option linter.unusedSimpArgs false

/-- A stray byte is no rune. -/
def rn (d : Nat × Nat) : Nat × Nat := if d = (65533, 1) then (0, 0) else d
def badr (least v : Nat) : Prop := v < least ∨ 1114111 < v ∨ (55296 ≤ v ∧ v ≤ 57343)
instance (least v : Nat) : Decidable (badr least v) := by unfold badr; infer_instance
theorem rn_1 (N b0 b1 b2 b3 : Nat) (h : b0 < 128) : rn (Lib.decodeN N b0 b1 b2 b3) = (b0, 1) := by
  rw [Lib.decodeN, if_pos h, rn, if_neg]
  simp; omega
theorem rn_0 (N b0 b1 b2 b3 : Nat) (h : 128 ≤ b0) (h1 : ¬ (192 ≤ b0 ∧ b0 < 248)) : rn (Lib.decodeN N b0 b1 b2 b3) = (0, 0) := by
  rw [Lib.decodeN, if_neg (by omega), if_neg (by omega), if_neg (by omega), if_neg (by omega)]
  rfl
theorem rn_2 (N b0 b1 b2 b3 : Nat) (h : 192 ≤ b0 ∧ b0 < 224) : rn (Lib.decodeN N b0 b1 b2 b3) = if 2 ≤ N ∧ b1 / 64 = 2 ∧ ¬ badr 128 (b0 % 32 * 64 + b1 % 64) then (b0 % 32 * 64 + b1 % 64, 2) else (0, 0) := by
  rw [Lib.decodeN, if_neg (by omega)]
  by_cases hc : 2 ≤ N ∧ b1 / 64 = 2
  · rw [if_pos ⟨by omega, by omega, hc.2⟩]
    by_cases hb : badr 128 (b0 % 32 * 64 + b1 % 64)
    · rw [if_neg (by unfold badr at hb; omega), if_neg (fun x => x.2.2 hb)]
      rfl
    · rw [if_pos (by unfold badr at hb; omega), if_pos ⟨hc.1, hc.2, hb⟩, rn, if_neg (by simp)]
  · rw [if_neg (by omega), if_neg (by omega), if_neg (by omega), if_neg (fun x => hc ⟨x.1, x.2.1⟩)]
    rfl
theorem rn_3 (N b0 b1 b2 b3 : Nat) (h : 224 ≤ b0 ∧ b0 < 240) : rn (Lib.decodeN N b0 b1 b2 b3) = if 3 ≤ N ∧ (b1 / 64 = 2 ∧ b2 / 64 = 2) ∧ ¬ badr 2048 ((b0 % 16 * 64 + b1 % 64) * 64 + b2 % 64) then ((b0 % 16 * 64 + b1 % 64) * 64 + b2 % 64, 3) else (0, 0) := by
  rw [Lib.decodeN, if_neg (by omega), if_neg (by omega)]
  have e : b0 % 16 * 4096 + b1 % 64 * 64 + b2 % 64 = (b0 % 16 * 64 + b1 % 64) * 64 + b2 % 64 := by omega
  rw [e]
  by_cases hc : 3 ≤ N ∧ (b1 / 64 = 2 ∧ b2 / 64 = 2)
  · rw [if_pos ⟨by omega, ⟨by omega, hc.2.1⟩, ⟨by omega, hc.2.2⟩⟩]
    by_cases hb : badr 2048 ((b0 % 16 * 64 + b1 % 64) * 64 + b2 % 64)
    · rw [if_neg (by unfold badr at hb; omega), if_neg (fun x => x.2.2 hb)]
      rfl
    · rw [if_pos (by unfold badr at hb; omega), if_pos ⟨hc.1, hc.2, hb⟩, rn, if_neg (by simp)]
  · rw [if_neg (by omega), if_neg (by omega), if_neg (fun x => hc ⟨x.1, x.2.1⟩)]
    rfl
theorem rn_4 (N b0 b1 b2 b3 : Nat) (h : 240 ≤ b0 ∧ b0 < 248) : rn (Lib.decodeN N b0 b1 b2 b3) = if 4 ≤ N ∧ (b1 / 64 = 2 ∧ b2 / 64 = 2 ∧ b3 / 64 = 2) ∧ ¬ badr 65536 (((b0 % 8 * 64 + b1 % 64) * 64 + b2 % 64) * 64 + b3 % 64) then (((b0 % 8 * 64 + b1 % 64) * 64 + b2 % 64) * 64 + b3 % 64, 4) else (0, 0) := by
  rw [Lib.decodeN, if_neg (by omega), if_neg (by omega), if_neg (by omega)]
  have e : b0 % 8 * 262144 + b1 % 64 * 4096 + b2 % 64 * 64 + b3 % 64 = ((b0 % 8 * 64 + b1 % 64) * 64 + b2 % 64) * 64 + b3 % 64 := by omega
  rw [e]
  by_cases hc : 4 ≤ N ∧ (b1 / 64 = 2 ∧ b2 / 64 = 2 ∧ b3 / 64 = 2)
  · rw [if_pos ⟨by omega, ⟨by omega, hc.2.1⟩, ⟨by omega, hc.2.2.1⟩, ⟨by omega, hc.2.2.2⟩⟩]
    by_cases hb : badr 65536 (((b0 % 8 * 64 + b1 % 64) * 64 + b2 % 64) * 64 + b3 % 64)
    · rw [if_neg (by unfold badr at hb; omega), if_neg (fun x => x.2.2 hb)]
      rfl
    · rw [if_pos (by unfold badr at hb; omega), if_pos ⟨hc.1, hc.2, hb⟩, rn, if_neg (by simp)]
  · rw [if_neg (by omega), if_neg (fun x => hc ⟨x.1, x.2.1⟩)]
    rfl
theorem and_32 (c : Nat) (h : c < 256) : bits .and .u32 (c : Int) 31 = ((c % 32 : Nat) : Int) := by
  rw [show (31 : Int) = ((31 : Nat) : Int) from rfl, u32_and_nat c 31 (by omega) (by omega), Nat.and_two_pow_sub_one_eq_mod c 5]
theorem and_16 (c : Nat) (h : c < 256) : bits .and .u32 (c : Int) 15 = ((c % 16 : Nat) : Int) := by
  rw [show (15 : Int) = ((15 : Nat) : Int) from rfl, u32_and_nat c 15 (by omega) (by omega), Nat.and_two_pow_sub_one_eq_mod c 4]
theorem and_8 (c : Nat) (h : c < 256) : bits .and .u32 (c : Int) 7 = ((c % 8 : Nat) : Int) := by
  rw [show (7 : Int) = ((7 : Nat) : Int) from rfl, u32_and_nat c 7 (by omega) (by omega), Nat.and_two_pow_sub_one_eq_mod c 3]
theorem and_64 (c : Nat) (h : c < 256) : bits .and .u8 (c : Int) 63 = ((c % 64 : Nat) : Int) := by
  rw [show (63 : Int) = ((63 : Nat) : Int) from rfl, u8_and_nat c 63 (by omega) (by omega), Nat.and_two_pow_sub_one_eq_mod c 6]
set_option maxRecDepth 100000 in
theorem and_192 (c : Nat) (h : c < 256) : bits .and .u8 (c : Int) 192 = ((c / 64 * 64 : Nat) : Int) := by
  rw [show (192 : Int) = ((192 : Nat) : Int) from rfl, u8_and_nat c 192 (by omega) (by omega)]
  have : ∀ c : Fin 256, c.val &&& 192 = c.val / 64 * 64 := by decide
  rw [this ⟨c, h⟩]
theorem or_64 (r y : Nat) (hr : r < 33554432) (hy : y < 64) : bits .or .u32 ((r * 64 : Nat) : Int) (y : Int) = ((r * 64 + y : Nat) : Int) := by
  rw [u32_or_nat (r * 64) y (by omega) (by omega)]
  have := Nat.shiftLeft_add_eq_or_of_lt (i := 6) (b := y) hy r
  rw [Nat.shiftLeft_eq] at this
  rw [← this]
/-- What has been read of a rune behind some bytes. -/
def acc (r0 : Nat) (f : Nat → Nat) : Nat → Nat
  | 0 => r0
  | k + 1 => acc r0 f k * 64 + f (k + 1) % 64
theorem acc_lt (r0 : Nat) (f : Nat → Nat) (h : r0 < 32) : ∀ k, k ≤ 3 → acc r0 f k < 33554432
  | 0, _ => by simp [acc]; omega
  | 1, _ => by simp [acc]; omega
  | 2, _ => by simp [acc]; omega
  | 3, _ => by simp [acc]; omega

theorem cont_2 {f : Nat → Nat} (h : f 1 / 64 = 2) : ∀ k, k + 1 < 2 → f (k + 1) / 64 = 2 := fun k hk => by
  have : k = 0 := by omega
  subst this; exact h
theorem cont_3 {f : Nat → Nat} (h : f 1 / 64 = 2 ∧ f 2 / 64 = 2) : ∀ k, k + 1 < 3 → f (k + 1) / 64 = 2 := fun k hk => by
  rcases (by omega : k = 0 ∨ k = 1) with rfl | rfl
  · exact h.1
  · exact h.2
theorem cont_4 {f : Nat → Nat} (h : f 1 / 64 = 2 ∧ f 2 / 64 = 2 ∧ f 3 / 64 = 2) : ∀ k, k + 1 < 4 → f (k + 1) / 64 = 2 := fun k hk => by
  rcases (by omega : k = 0 ∨ k = 1 ∨ k = 2) with rfl | rfl | rfl
  · exact h.1
  · exact h.2.1
  · exact h.2.2
set_option maxRecDepth 1000000 in
set_option maxHeartbeats 4000000 in
theorem rune_2 (b off len cap p : Nat) (f : Nat → Nat) (w : World) (hlen : len ≤ 281474976710656) (hp : p < len) (hl : len ≤ cap)
    (HC : Hid (∀ k, p + k < len → w.cell? ⟨b, off + (p + k), none⟩ = some (.int .u8 (f k : Int)) ∧ f k < 256)) (k1 : 192 ≤ f 0) (k2 : f 0 < 224) :
    Calls Tryd.prog 40 #[.slice (some ⟨b, off, none⟩) len cap, .int .i64 p] w fun e w' => e = .returned (.tuple #[.int .u32 ((rn (Lib.decodeN (len - p) (f 0) (f 1) (f 2) (f 3))).1 : Nat), .int .i64 ((rn (Lib.decodeN (len - p) (f 0) (f 1) (f 2) (f 3))).2 : Nat)]) ∧ w' = w := by
  have c0 := (HC.out 0 (by omega)).1
  have h0 := (HC.out 0 (by omega)).2
  rw [Nat.add_zero] at c0
  have HR := hid (rn_2 (len - p) (f 0) (f 1) (f 2) (f 3) ⟨k1, k2⟩)
  generalize hX : rn (Lib.decodeN (len - p) (f 0) (f 1) (f 2) (f 3)) = X at HR
  clear hX
  obtain ⟨X1, X2⟩ := X
  have hand := and_32 (f 0) h0
  by_cases hshort : len - p < 2
  · obtain ⟨rfl, rfl⟩ : X1 = 0 ∧ X2 = 0 := by
      have h := HR.out
      rw [if_neg (fun x => by omega)] at h
      simpa using h
    clear HR HC
    go_enter Tryd.func40, Tryd.ntmps40
    go_wp2
    go_ret2
    exact ⟨rfl, rfl⟩
  · go_enter Tryd.func40, Tryd.ntmps40
    go_wp2
    clear c0
    go_loop [4, 5, 8, 10] (fun x4 x5 r i => ∃ k : Nat, x4 = .int .u32 0 ∧ x5 = .int .i64 0 ∧ k < 2 ∧ i = .int .i64 ((k + 1 : Nat) : Int) ∧ r = .int .u32 (acc (f 0 % 32) f k : Nat) ∧ Hid (∀ j, 1 ≤ j → j ≤ k → f j / 64 = 2)) (fun _ _ _ i => 2 - (intOf i).toNat)
    case atStart => exact ⟨0, rfl, rfl, by omega, rfl, by first | rfl | simp [acc], fun j h1 h2 => by omega⟩
    case round =>
      obtain ⟨k, rfl, rfl, hk, rfl, rfl, hall⟩ := hrel
      clear hand
      by_cases hlt : k + 1 < 2
      · have cc := HC.out (k + 1) (by omega)
        have c1 := cc.1
        have c2 := cc.2
        clear cc
        have ha := acc_lt (f 0 % 32) f (by omega) k (by omega)
        have h64 := and_64 (f (k + 1)) c2
        have h192 := and_192 (f (k + 1)) c2
        have hE : Hid (acc (f 0 % 32) f (k + 1) = acc (f 0 % 32) f k * 64 + f (k + 1) % 64) := rfl
        by_cases hcont : f (k + 1) / 64 = 2
        · have hall2 : Hid (∀ j, 1 ≤ j → j ≤ k + 1 → f j / 64 = 2) := fun j h1 h2 => by
            by_cases hj : j = k + 1
            · rw [hj]; exact hcont
            · exact hall.out j h1 (by omega)
          rw [hcont] at h192
          have hor := or_64 (acc (f 0 % 32) f k) (f (k + 1) % 64) ha (by omega)
          clear hall HR HC hcont
          generalize acc (f 0 % 32) f k = A at *
          generalize f (k + 1) = y at *
          have horr : Hid (bits .or .u32 ((A : Int) * 64) ((y : Int) % 64) = ((A * 64 + y % 64 : Nat) : Int)) := by
            show _ = _
            rw [show ((A : Int) * 64) = ((A * 64 : Nat) : Int) from by omega, show ((y : Int) % 64) = ((y % 64 : Nat) : Int) from by omega]
            exact hor
          have hw : IntKind.u32.wrap ((A : Int) * 64) = ((A * 64 : Nat) : Int) := by rw [IntKind.wrap_u32']; omega
          go_wp2
          go_round
          case rel => exact ⟨k + 1, rfl, rfl, by omega, by go_num, by rw [hE.out, horr.out], hall2.out⟩
          case measure => simp [intOf]; omega
        · obtain ⟨rfl, rfl⟩ : X1 = 0 ∧ X2 = 0 := by
            have h := HR.out
            rw [if_neg (fun x => hcont (cont_2 x.2.1 k (by omega)))] at h
            simpa using h
          have hne : (((f (k + 1) / 64 * 64 : Nat) : Int) != 128) = true := by simp; omega
          clear hall HR HC
          go_wp2
          go_ret2
          exact ⟨rfl, rfl⟩
      · have hkn : k = 1 := by omega
        subst hkn
        have HR2 : Hid ((X1, X2) = if ¬ badr 128 (acc (f 0 % 32) f 1) then (acc (f 0 % 32) f 1, 2) else (0, 0)) := by
          show _ = _
          have h := HR.out
          have hcs : f 1 / 64 = 2 := by
            have h1 := hall.out
            exact h1 1 (by omega) (by omega)
          by_cases hbd : badr 128 (acc (f 0 % 32) f 1)
          · rw [if_neg (fun x => x.2.2 (by exact hbd))] at h
            rw [if_neg (fun x => x hbd), h]
          · rw [if_pos ⟨by omega, hcs, by exact hbd⟩] at h
            rw [if_pos hbd, h]
            rfl
        have ha := acc_lt (f 0 % 32) f (by omega) 1 (by omega)
        clear HR HC hall
        generalize acc (f 0 % 32) f 1 = A at *
        by_cases b1 : A < 128
        · obtain ⟨rfl, rfl⟩ : X1 = 0 ∧ X2 = 0 := by
            have h := HR2.out
            rw [if_neg (fun x => x (by unfold badr; omega))] at h
            simpa using h
          clear HR2
          go_wp2
          all_goals go_ret2
          all_goals exact ⟨rfl, rfl⟩
        · by_cases b2 : 1114111 < A
          · obtain ⟨rfl, rfl⟩ : X1 = 0 ∧ X2 = 0 := by
              have h := HR2.out
              rw [if_neg (fun x => x (by unfold badr; omega))] at h
              simpa using h
            clear HR2
            go_wp2
            all_goals go_ret2
            all_goals exact ⟨rfl, rfl⟩
          · by_cases b3 : A < 55296
            · obtain ⟨rfl, rfl⟩ : X1 = A ∧ X2 = 2 := by
                have h := HR2.out
                rw [if_pos (by unfold badr; omega)] at h
                simpa using h
              clear HR2
              go_wp2
              all_goals go_ret2
              all_goals exact ⟨rfl, rfl⟩
            · by_cases b4 : A ≤ 57343
              · obtain ⟨rfl, rfl⟩ : X1 = 0 ∧ X2 = 0 := by
                  have h := HR2.out
                  rw [if_neg (fun x => x (by unfold badr; omega))] at h
                  simpa using h
                clear HR2
                go_wp2
                all_goals go_ret2
                all_goals exact ⟨rfl, rfl⟩
              · obtain ⟨rfl, rfl⟩ : X1 = A ∧ X2 = 2 := by
                  have h := HR2.out
                  rw [if_pos (by unfold badr; omega)] at h
                  simpa using h
                clear HR2
                go_wp2
                all_goals go_ret2
                all_goals exact ⟨rfl, rfl⟩
set_option maxRecDepth 1000000 in
set_option maxHeartbeats 4000000 in
theorem rune_3 (b off len cap p : Nat) (f : Nat → Nat) (w : World) (hlen : len ≤ 281474976710656) (hp : p < len) (hl : len ≤ cap)
    (HC : Hid (∀ k, p + k < len → w.cell? ⟨b, off + (p + k), none⟩ = some (.int .u8 (f k : Int)) ∧ f k < 256)) (k1 : 224 ≤ f 0) (k2 : f 0 < 240) :
    Calls Tryd.prog 40 #[.slice (some ⟨b, off, none⟩) len cap, .int .i64 p] w fun e w' => e = .returned (.tuple #[.int .u32 ((rn (Lib.decodeN (len - p) (f 0) (f 1) (f 2) (f 3))).1 : Nat), .int .i64 ((rn (Lib.decodeN (len - p) (f 0) (f 1) (f 2) (f 3))).2 : Nat)]) ∧ w' = w := by
  have c0 := (HC.out 0 (by omega)).1
  have h0 := (HC.out 0 (by omega)).2
  rw [Nat.add_zero] at c0
  have HR := hid (rn_3 (len - p) (f 0) (f 1) (f 2) (f 3) ⟨k1, k2⟩)
  generalize hX : rn (Lib.decodeN (len - p) (f 0) (f 1) (f 2) (f 3)) = X at HR
  clear hX
  obtain ⟨X1, X2⟩ := X
  have hand := and_16 (f 0) h0
  by_cases hshort : len - p < 3
  · obtain ⟨rfl, rfl⟩ : X1 = 0 ∧ X2 = 0 := by
      have h := HR.out
      rw [if_neg (fun x => by omega)] at h
      simpa using h
    clear HR HC
    go_enter Tryd.func40, Tryd.ntmps40
    go_wp2
    go_ret2
    exact ⟨rfl, rfl⟩
  · go_enter Tryd.func40, Tryd.ntmps40
    go_wp2
    clear c0
    go_loop [4, 5, 8, 10] (fun x4 x5 r i => ∃ k : Nat, x4 = .int .u32 0 ∧ x5 = .int .i64 0 ∧ k < 3 ∧ i = .int .i64 ((k + 1 : Nat) : Int) ∧ r = .int .u32 (acc (f 0 % 16) f k : Nat) ∧ Hid (∀ j, 1 ≤ j → j ≤ k → f j / 64 = 2)) (fun _ _ _ i => 3 - (intOf i).toNat)
    case atStart => exact ⟨0, rfl, rfl, by omega, rfl, by first | rfl | simp [acc], fun j h1 h2 => by omega⟩
    case round =>
      obtain ⟨k, rfl, rfl, hk, rfl, rfl, hall⟩ := hrel
      clear hand
      by_cases hlt : k + 1 < 3
      · have cc := HC.out (k + 1) (by omega)
        have c1 := cc.1
        have c2 := cc.2
        clear cc
        have ha := acc_lt (f 0 % 16) f (by omega) k (by omega)
        have h64 := and_64 (f (k + 1)) c2
        have h192 := and_192 (f (k + 1)) c2
        have hE : Hid (acc (f 0 % 16) f (k + 1) = acc (f 0 % 16) f k * 64 + f (k + 1) % 64) := rfl
        by_cases hcont : f (k + 1) / 64 = 2
        · have hall2 : Hid (∀ j, 1 ≤ j → j ≤ k + 1 → f j / 64 = 2) := fun j h1 h2 => by
            by_cases hj : j = k + 1
            · rw [hj]; exact hcont
            · exact hall.out j h1 (by omega)
          rw [hcont] at h192
          have hor := or_64 (acc (f 0 % 16) f k) (f (k + 1) % 64) ha (by omega)
          clear hall HR HC hcont
          generalize acc (f 0 % 16) f k = A at *
          generalize f (k + 1) = y at *
          have horr : Hid (bits .or .u32 ((A : Int) * 64) ((y : Int) % 64) = ((A * 64 + y % 64 : Nat) : Int)) := by
            show _ = _
            rw [show ((A : Int) * 64) = ((A * 64 : Nat) : Int) from by omega, show ((y : Int) % 64) = ((y % 64 : Nat) : Int) from by omega]
            exact hor
          have hw : IntKind.u32.wrap ((A : Int) * 64) = ((A * 64 : Nat) : Int) := by rw [IntKind.wrap_u32']; omega
          go_wp2
          go_round
          case rel => exact ⟨k + 1, rfl, rfl, by omega, by go_num, by rw [hE.out, horr.out], hall2.out⟩
          case measure => simp [intOf]; omega
        · obtain ⟨rfl, rfl⟩ : X1 = 0 ∧ X2 = 0 := by
            have h := HR.out
            rw [if_neg (fun x => hcont (cont_3 x.2.1 k (by omega)))] at h
            simpa using h
          have hne : (((f (k + 1) / 64 * 64 : Nat) : Int) != 128) = true := by simp; omega
          clear hall HR HC
          go_wp2
          go_ret2
          exact ⟨rfl, rfl⟩
      · have hkn : k = 2 := by omega
        subst hkn
        have HR2 : Hid ((X1, X2) = if ¬ badr 2048 (acc (f 0 % 16) f 2) then (acc (f 0 % 16) f 2, 3) else (0, 0)) := by
          show _ = _
          have h := HR.out
          have hcs : f 1 / 64 = 2 ∧ f 2 / 64 = 2 := by
            have h1 := hall.out
            exact ⟨h1 1 (by omega) (by omega), h1 2 (by omega) (by omega)⟩
          by_cases hbd : badr 2048 (acc (f 0 % 16) f 2)
          · rw [if_neg (fun x => x.2.2 (by exact hbd))] at h
            rw [if_neg (fun x => x hbd), h]
          · rw [if_pos ⟨by omega, hcs, by exact hbd⟩] at h
            rw [if_pos hbd, h]
            rfl
        have ha := acc_lt (f 0 % 16) f (by omega) 2 (by omega)
        clear HR HC hall
        generalize acc (f 0 % 16) f 2 = A at *
        by_cases b1 : A < 2048
        · obtain ⟨rfl, rfl⟩ : X1 = 0 ∧ X2 = 0 := by
            have h := HR2.out
            rw [if_neg (fun x => x (by unfold badr; omega))] at h
            simpa using h
          clear HR2
          go_wp2
          all_goals go_ret2
          all_goals exact ⟨rfl, rfl⟩
        · by_cases b2 : 1114111 < A
          · obtain ⟨rfl, rfl⟩ : X1 = 0 ∧ X2 = 0 := by
              have h := HR2.out
              rw [if_neg (fun x => x (by unfold badr; omega))] at h
              simpa using h
            clear HR2
            go_wp2
            all_goals go_ret2
            all_goals exact ⟨rfl, rfl⟩
          · by_cases b3 : A < 55296
            · obtain ⟨rfl, rfl⟩ : X1 = A ∧ X2 = 3 := by
                have h := HR2.out
                rw [if_pos (by unfold badr; omega)] at h
                simpa using h
              clear HR2
              go_wp2
              all_goals go_ret2
              all_goals exact ⟨rfl, rfl⟩
            · by_cases b4 : A ≤ 57343
              · obtain ⟨rfl, rfl⟩ : X1 = 0 ∧ X2 = 0 := by
                  have h := HR2.out
                  rw [if_neg (fun x => x (by unfold badr; omega))] at h
                  simpa using h
                clear HR2
                go_wp2
                all_goals go_ret2
                all_goals exact ⟨rfl, rfl⟩
              · obtain ⟨rfl, rfl⟩ : X1 = A ∧ X2 = 3 := by
                  have h := HR2.out
                  rw [if_pos (by unfold badr; omega)] at h
                  simpa using h
                clear HR2
                go_wp2
                all_goals go_ret2
                all_goals exact ⟨rfl, rfl⟩
set_option maxRecDepth 1000000 in
set_option maxHeartbeats 4000000 in
theorem rune_4 (b off len cap p : Nat) (f : Nat → Nat) (w : World) (hlen : len ≤ 281474976710656) (hp : p < len) (hl : len ≤ cap)
    (HC : Hid (∀ k, p + k < len → w.cell? ⟨b, off + (p + k), none⟩ = some (.int .u8 (f k : Int)) ∧ f k < 256)) (k1 : 240 ≤ f 0) (k2 : f 0 < 248) :
    Calls Tryd.prog 40 #[.slice (some ⟨b, off, none⟩) len cap, .int .i64 p] w fun e w' => e = .returned (.tuple #[.int .u32 ((rn (Lib.decodeN (len - p) (f 0) (f 1) (f 2) (f 3))).1 : Nat), .int .i64 ((rn (Lib.decodeN (len - p) (f 0) (f 1) (f 2) (f 3))).2 : Nat)]) ∧ w' = w := by
  have c0 := (HC.out 0 (by omega)).1
  have h0 := (HC.out 0 (by omega)).2
  rw [Nat.add_zero] at c0
  have HR := hid (rn_4 (len - p) (f 0) (f 1) (f 2) (f 3) ⟨k1, k2⟩)
  generalize hX : rn (Lib.decodeN (len - p) (f 0) (f 1) (f 2) (f 3)) = X at HR
  clear hX
  obtain ⟨X1, X2⟩ := X
  have hand := and_8 (f 0) h0
  by_cases hshort : len - p < 4
  · obtain ⟨rfl, rfl⟩ : X1 = 0 ∧ X2 = 0 := by
      have h := HR.out
      rw [if_neg (fun x => by omega)] at h
      simpa using h
    clear HR HC
    go_enter Tryd.func40, Tryd.ntmps40
    go_wp2
    go_ret2
    exact ⟨rfl, rfl⟩
  · go_enter Tryd.func40, Tryd.ntmps40
    go_wp2
    clear c0
    go_loop [4, 5, 8, 10] (fun x4 x5 r i => ∃ k : Nat, x4 = .int .u32 0 ∧ x5 = .int .i64 0 ∧ k < 4 ∧ i = .int .i64 ((k + 1 : Nat) : Int) ∧ r = .int .u32 (acc (f 0 % 8) f k : Nat) ∧ Hid (∀ j, 1 ≤ j → j ≤ k → f j / 64 = 2)) (fun _ _ _ i => 4 - (intOf i).toNat)
    case atStart => exact ⟨0, rfl, rfl, by omega, rfl, by first | rfl | simp [acc], fun j h1 h2 => by omega⟩
    case round =>
      obtain ⟨k, rfl, rfl, hk, rfl, rfl, hall⟩ := hrel
      clear hand
      by_cases hlt : k + 1 < 4
      · have cc := HC.out (k + 1) (by omega)
        have c1 := cc.1
        have c2 := cc.2
        clear cc
        have ha := acc_lt (f 0 % 8) f (by omega) k (by omega)
        have h64 := and_64 (f (k + 1)) c2
        have h192 := and_192 (f (k + 1)) c2
        have hE : Hid (acc (f 0 % 8) f (k + 1) = acc (f 0 % 8) f k * 64 + f (k + 1) % 64) := rfl
        by_cases hcont : f (k + 1) / 64 = 2
        · have hall2 : Hid (∀ j, 1 ≤ j → j ≤ k + 1 → f j / 64 = 2) := fun j h1 h2 => by
            by_cases hj : j = k + 1
            · rw [hj]; exact hcont
            · exact hall.out j h1 (by omega)
          rw [hcont] at h192
          have hor := or_64 (acc (f 0 % 8) f k) (f (k + 1) % 64) ha (by omega)
          clear hall HR HC hcont
          generalize acc (f 0 % 8) f k = A at *
          generalize f (k + 1) = y at *
          have horr : Hid (bits .or .u32 ((A : Int) * 64) ((y : Int) % 64) = ((A * 64 + y % 64 : Nat) : Int)) := by
            show _ = _
            rw [show ((A : Int) * 64) = ((A * 64 : Nat) : Int) from by omega, show ((y : Int) % 64) = ((y % 64 : Nat) : Int) from by omega]
            exact hor
          have hw : IntKind.u32.wrap ((A : Int) * 64) = ((A * 64 : Nat) : Int) := by rw [IntKind.wrap_u32']; omega
          go_wp2
          go_round
          case rel => exact ⟨k + 1, rfl, rfl, by omega, by go_num, by rw [hE.out, horr.out], hall2.out⟩
          case measure => simp [intOf]; omega
        · obtain ⟨rfl, rfl⟩ : X1 = 0 ∧ X2 = 0 := by
            have h := HR.out
            rw [if_neg (fun x => hcont (cont_4 x.2.1 k (by omega)))] at h
            simpa using h
          have hne : (((f (k + 1) / 64 * 64 : Nat) : Int) != 128) = true := by simp; omega
          clear hall HR HC
          go_wp2
          go_ret2
          exact ⟨rfl, rfl⟩
      · have hkn : k = 3 := by omega
        subst hkn
        have HR2 : Hid ((X1, X2) = if ¬ badr 65536 (acc (f 0 % 8) f 3) then (acc (f 0 % 8) f 3, 4) else (0, 0)) := by
          show _ = _
          have h := HR.out
          have hcs : f 1 / 64 = 2 ∧ f 2 / 64 = 2 ∧ f 3 / 64 = 2 := by
            have h1 := hall.out
            exact ⟨h1 1 (by omega) (by omega), h1 2 (by omega) (by omega), h1 3 (by omega) (by omega)⟩
          by_cases hbd : badr 65536 (acc (f 0 % 8) f 3)
          · rw [if_neg (fun x => x.2.2 (by exact hbd))] at h
            rw [if_neg (fun x => x hbd), h]
          · rw [if_pos ⟨by omega, hcs, by exact hbd⟩] at h
            rw [if_pos hbd, h]
            rfl
        have ha := acc_lt (f 0 % 8) f (by omega) 3 (by omega)
        clear HR HC hall
        generalize acc (f 0 % 8) f 3 = A at *
        by_cases b1 : A < 65536
        · obtain ⟨rfl, rfl⟩ : X1 = 0 ∧ X2 = 0 := by
            have h := HR2.out
            rw [if_neg (fun x => x (by unfold badr; omega))] at h
            simpa using h
          clear HR2
          go_wp2
          all_goals go_ret2
          all_goals exact ⟨rfl, rfl⟩
        · by_cases b2 : 1114111 < A
          · obtain ⟨rfl, rfl⟩ : X1 = 0 ∧ X2 = 0 := by
              have h := HR2.out
              rw [if_neg (fun x => x (by unfold badr; omega))] at h
              simpa using h
            clear HR2
            go_wp2
            all_goals go_ret2
            all_goals exact ⟨rfl, rfl⟩
          · by_cases b3 : A < 55296
            · obtain ⟨rfl, rfl⟩ : X1 = A ∧ X2 = 4 := by
                have h := HR2.out
                rw [if_pos (by unfold badr; omega)] at h
                simpa using h
              clear HR2
              go_wp2
              all_goals go_ret2
              all_goals exact ⟨rfl, rfl⟩
            · by_cases b4 : A ≤ 57343
              · obtain ⟨rfl, rfl⟩ : X1 = 0 ∧ X2 = 0 := by
                  have h := HR2.out
                  rw [if_neg (fun x => x (by unfold badr; omega))] at h
                  simpa using h
                clear HR2
                go_wp2
                all_goals go_ret2
                all_goals exact ⟨rfl, rfl⟩
              · obtain ⟨rfl, rfl⟩ : X1 = A ∧ X2 = 4 := by
                  have h := HR2.out
                  rw [if_pos (by unfold badr; omega)] at h
                  simpa using h
                clear HR2
                go_wp2
                all_goals go_ret2
                all_goals exact ⟨rfl, rfl⟩
set_option maxRecDepth 1000000 in
set_option maxHeartbeats 4000000 in
theorem rune_any (a : Option Addr) (len cap : Nat) (zs : List Int) (p : Nat) (w : World) (H : Bytes w a len cap zs) (hlen : len ≤ 281474976710656) (hp : p < len) :
    Calls Tryd.prog 40 #[.slice a len cap, .int .i64 p] w fun e w' => e = .returned (.tuple #[.int .u32 ((rn (Lib.decodeN (len - p) (zs.getD p 0).toNat (zs.getD (p + 1) 0).toNat (zs.getD (p + 2) 0).toNat (zs.getD (p + 3) 0).toNat)).1 : Nat), .int .i64 ((rn (Lib.decodeN (len - p) (zs.getD p 0).toNat (zs.getD (p + 1) 0).toNat (zs.getD (p + 2) 0).toNat (zs.getD (p + 3) 0).toNat)).2 : Nat)]) ∧ w' = w := by
  obtain ⟨hz, hl, hno, hb, hc⟩ := H
  cases a with
  | none => have := (hno rfl).1; omega
  | some ad =>
  obtain ⟨b, off, spt⟩ := ad
  have hsp : spt = none := by
    have q0 := hc _ rfl 0 (by omega)
    simpa [Addr.add] using World.cell?_spot q0
  subst hsp
  have hf : ∃ f : Nat → Nat, Hid (∀ k, p + k < len → w.cell? ⟨b, off + (p + k), none⟩ = some (.int .u8 (f k : Int)) ∧ f k < 256) ∧ Hid ((zs.getD p 0).toNat = f 0 ∧ (zs.getD (p + 1) 0).toNat = f 1 ∧ (zs.getD (p + 2) 0).toNat = f 2 ∧ (zs.getD (p + 3) 0).toNat = f 3) := by
    refine ⟨fun k => (zs.getD (p + k) 0).toNat, ?_, rfl, rfl, rfl, rfl⟩
    intro k hk
    have h1 : zs.getD (p + k) 0 ∈ zs := by
      rw [List.getD_eq_getElem?_getD, List.getElem?_eq_getElem (by omega)]
      exact List.getElem_mem _
    have h2 := hb _ h1
    refine ⟨?_, by show (zs.getD (p + k) 0).toNat < 256; omega⟩
    have h3 := hc _ rfl (p + k) hk
    rw [addr_add] at h3
    rw [h3]
    congr 2
    show zs.getD (p + k) 0 = ((zs.getD (p + k) 0).toNat : Int)
    omega
  obtain ⟨f, HC, HV⟩ := hf
  rw [HV.out.1, HV.out.2.1, HV.out.2.2.1, HV.out.2.2.2]
  clear HV hz hb hc hno
  have c0 := (HC.out 0 (by omega)).1
  have h0 := (HC.out 0 (by omega)).2
  rw [Nat.add_zero] at c0
  by_cases k1 : f 0 < 128
  · rw [rn_1 _ _ _ _ _ k1]
    clear HC
    go_enter Tryd.func40, Tryd.ntmps40
    go_wp2
    go_ret2
    exact ⟨rfl, rfl⟩
  · by_cases k2 : f 0 < 192
    · rw [rn_0 _ _ _ _ _ (by omega) (by omega)]
      clear HC
      go_enter Tryd.func40, Tryd.ntmps40
      go_wp2
      go_ret2
      exact ⟨rfl, rfl⟩
    · by_cases k3 : f 0 < 224
      · exact rune_2 b off len cap p f w hlen hp hl HC (by omega) (by omega)
      · by_cases k4 : f 0 < 240
        · exact rune_3 b off len cap p f w hlen hp hl HC (by omega) (by omega)
        · by_cases k5 : f 0 < 248
          · exact rune_4 b off len cap p f w hlen hp hl HC (by omega) (by omega)
          · rw [rn_0 _ _ _ _ _ (by omega) (by omega)]
            clear HC
            go_enter Tryd.func40, Tryd.ntmps40
            go_wp2
            go_ret2
            exact ⟨rfl, rfl⟩
end Go.Proofs.YtcjlgjlediihoaaDoor.Rw

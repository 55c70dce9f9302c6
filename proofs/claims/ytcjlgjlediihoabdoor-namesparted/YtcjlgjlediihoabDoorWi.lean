/- How many pieces two texts joined have. -/
import Derived.Test.YtcjlgjlediihoabDoorUt
namespace Go.Proofs.YtcjlgjlediihoabDoor.Ut
set_option linter.unusedVariables false
set_option linter.unusedSimpArgs false

theorem app_size (a b : ByteArray) : (a ++ b).size = a.size + b.size := by simp
theorem app_left (a b : ByteArray) (j : Nat) (h : j < a.size) : bt (a ++ b) j = bt a j := by
  rw [← bt_eq (a ++ b) j (by rw [app_size]; omega), ← bt_eq a j h]
  congr 1
  simp [ByteArray.getElem_append_left, h]
theorem app_right (a b : ByteArray) (j : Nat) : bt (a ++ b) (a.size + j) = bt b j := by
  by_cases h : j < b.size
  · rw [← bt_eq (a ++ b) (a.size + j) (by rw [app_size]; omega), ← bt_eq b j h]
    congr 1
    rw [ByteArray.getElem_append_right (by omega)]
    simp
  · rw [bt_end _ _ (by rw [app_size]; omega), bt_end b j (by omega)]
theorem dec_right (a b : ByteArray) (q : Nat) : Utf8.decode (a ++ b) (a.size + q) = Utf8.decode b q := by
  rw [dec_at, dec_at, app_size, Nat.add_assoc, Nat.add_assoc, Nat.add_assoc, app_right, app_right, app_right, app_right]
  congr 1
  omega
theorem decN_cont (N b0 b1 b2 b3 : Nat) : (1 < (Lib.decodeN N b0 b1 b2 b3).2 → b1 / 64 = 2) ∧ (2 < (Lib.decodeN N b0 b1 b2 b3).2 → b2 / 64 = 2) ∧ (3 < (Lib.decodeN N b0 b1 b2 b3).2 → b3 / 64 = 2) ∧ (Lib.decodeN N b0 b1 b2 b3).2 ≤ 4 := by
  unfold Lib.decodeN
  repeat' split
  all_goals (refine ⟨fun h => ?_, fun h => ?_, fun h => ?_, ?_⟩ <;> simp at * <;> omega)
theorem dec_cont (s : ByteArray) (p k : Nat) (h1 : 1 ≤ k) (h2 : k < (Utf8.decode s p).2) : bt s (p + k) / 64 = 2 := by
  rw [dec_at] at h2
  obtain ⟨a, b, c, d⟩ := decN_cont (s.size - p) (bt s p) (bt s (p + 1)) (bt s (p + 2)) (bt s (p + 3))
  rcases (by omega : k = 1 ∨ k = 2 ∨ k = 3) with rfl | rfl | rfl
  · exact a h2
  · exact b h2
  · exact c h2
theorem dec_mid (s : ByteArray) (p : Nat) (h : bt s p / 64 = 2) : Utf8.decode s p = (65533, 1) := by
  rw [dec_at, Lib.decodeN, if_neg (by omega), if_neg (by omega), if_neg (by omega), if_neg (by omega)]
/-- What lies behind the bytes of a rune doesn't matter. -/
theorem decN_cut (M N b0 b1 b2 b3 c1 c2 c3 : Nat) (hM : 1 ≤ M) (hMN : M ≤ N) (e1 : 1 < M → c1 = b1) (e2 : 2 < M → c2 = b2) (e3 : 3 < M → c3 = b3) (h : (Lib.decodeN N b0 b1 b2 b3).2 ≤ M) :
    Lib.decodeN M b0 c1 c2 c3 = Lib.decodeN N b0 b1 b2 b3 := by
  unfold Lib.decodeN at h ⊢
  by_cases k1 : b0 < 128
  · rw [if_pos k1, if_pos k1]
  · rw [if_neg k1] at h
    conv => lhs; rw [if_neg k1]
    conv => rhs; rw [if_neg k1]
    by_cases k2 : b0 / 32 = 6
    · have x3 : ¬ b0 / 16 = 14 := by omega
      have x4 : ¬ b0 / 8 = 30 := by omega
      by_cases k2' : 1 < N ∧ b1 / 64 = 2
      · rw [if_pos ⟨k2, k2'⟩] at h
        conv => rhs; rw [if_pos ⟨k2, k2'⟩]
        by_cases k2'' : b0 % 32 * 64 + b1 % 64 ≥ 128
        · rw [if_pos k2''] at h
          conv => rhs; rw [if_pos k2'']
          have h : 2 ≤ M := h
          rw [e1 (by omega), if_pos ⟨k2, by omega, k2'.2⟩, if_pos k2'']
        · conv => rhs; rw [if_neg k2'']
          by_cases m : 1 < M
          · rw [e1 m, if_pos ⟨k2, m, k2'.2⟩, if_neg k2'']
          · rw [if_neg (fun x => m x.2.1), if_neg (fun x => x3 x.1), if_neg (fun x => x4 x.1)]
      · conv => rhs; rw [if_neg (fun x => k2' x.2), if_neg (fun x => x3 x.1), if_neg (fun x => x4 x.1)]
        rw [if_neg (fun x => k2' ⟨by omega, by rw [← e1 x.2.1]; exact x.2.2⟩), if_neg (fun x => x3 x.1), if_neg (fun x => x4 x.1)]
    · rw [if_neg (fun x => k2 x.1)] at h
      conv => lhs; rw [if_neg (fun x => k2 x.1)]
      conv => rhs; rw [if_neg (fun x => k2 x.1)]
      by_cases k3 : b0 / 16 = 14
      · have x4 : ¬ b0 / 8 = 30 := by omega
        by_cases k3' : (1 < N ∧ b1 / 64 = 2) ∧ (2 < N ∧ b2 / 64 = 2)
        · rw [if_pos ⟨k3, k3'⟩] at h
          conv => rhs; rw [if_pos ⟨k3, k3'⟩]
          by_cases k3'' : b0 % 16 * 4096 + b1 % 64 * 64 + b2 % 64 ≥ 2048 ∧ (b0 % 16 * 4096 + b1 % 64 * 64 + b2 % 64 < 55296 ∨ (57344 ≤ b0 % 16 * 4096 + b1 % 64 * 64 + b2 % 64 ∧ b0 % 16 * 4096 + b1 % 64 * 64 + b2 % 64 ≤ 1114111))
          · rw [if_pos k3''] at h
            conv => rhs; rw [if_pos k3'']
            have h : 3 ≤ M := h
            rw [e1 (by omega), e2 (by omega), if_pos ⟨k3, ⟨by omega, k3'.1.2⟩, ⟨by omega, k3'.2.2⟩⟩, if_pos k3'']
          · conv => rhs; rw [if_neg k3'']
            by_cases m : 2 < M
            · rw [e1 (by omega), e2 m, if_pos ⟨k3, ⟨by omega, k3'.1.2⟩, ⟨m, k3'.2.2⟩⟩, if_neg k3'']
            · rw [if_neg (fun x => m x.2.2.1), if_neg (fun x => x4 x.1)]
        · conv => rhs; rw [if_neg (fun x => k3' x.2), if_neg (fun x => x4 x.1)]
          rw [if_neg (fun x => k3' ⟨⟨by omega, by rw [← e1 x.2.1.1]; exact x.2.1.2⟩, ⟨by omega, by rw [← e2 x.2.2.1]; exact x.2.2.2⟩⟩), if_neg (fun x => x4 x.1)]
      · rw [if_neg (fun x => k3 x.1)] at h
        conv => lhs; rw [if_neg (fun x => k3 x.1)]
        conv => rhs; rw [if_neg (fun x => k3 x.1)]
        by_cases k4 : b0 / 8 = 30 ∧ (1 < N ∧ b1 / 64 = 2) ∧ (2 < N ∧ b2 / 64 = 2) ∧ (3 < N ∧ b3 / 64 = 2)
        · rw [if_pos k4] at h
          conv => rhs; rw [if_pos k4]
          by_cases k4'' : b0 % 8 * 262144 + b1 % 64 * 4096 + b2 % 64 * 64 + b3 % 64 ≥ 65536 ∧ (b0 % 8 * 262144 + b1 % 64 * 4096 + b2 % 64 * 64 + b3 % 64 < 55296 ∨ (57344 ≤ b0 % 8 * 262144 + b1 % 64 * 4096 + b2 % 64 * 64 + b3 % 64 ∧ b0 % 8 * 262144 + b1 % 64 * 4096 + b2 % 64 * 64 + b3 % 64 ≤ 1114111))
          · rw [if_pos k4''] at h
            conv => rhs; rw [if_pos k4'']
            have h : 4 ≤ M := h
            rw [e1 (by omega), e2 (by omega), e3 (by omega), if_pos ⟨k4.1, ⟨by omega, k4.2.1.2⟩, ⟨by omega, k4.2.2.1.2⟩, ⟨by omega, k4.2.2.2.2⟩⟩, if_pos k4'']
          · conv => rhs; rw [if_neg k4'']
            by_cases m : 3 < M
            · rw [e1 (by omega), e2 (by omega), e3 m, if_pos ⟨k4.1, ⟨by omega, k4.2.1.2⟩, ⟨by omega, k4.2.2.1.2⟩, ⟨m, k4.2.2.2.2⟩⟩, if_neg k4'']
            · rw [if_neg (fun x => m x.2.2.2.1)]
        · conv => rhs; rw [if_neg k4]
          rw [if_neg (fun x => k4 ⟨x.1, ⟨by omega, by rw [← e1 x.2.1.1]; exact x.2.1.2⟩, ⟨by omega, by rw [← e2 x.2.2.1.1]; exact x.2.2.1.2⟩, ⟨by omega, by rw [← e3 x.2.2.2.1]; exact x.2.2.2.2⟩⟩)]
theorem dec_left (a b : ByteArray) (p : Nat) (hp : p < a.size) (h : p + (Utf8.decode (a ++ b) p).2 ≤ a.size) : Utf8.decode a p = Utf8.decode (a ++ b) p := by
  rw [dec_at] at h
  rw [dec_at, dec_at, ← app_left a b p hp]
  refine decN_cut _ _ _ _ _ _ _ _ _ (by omega) (by rw [app_size]; omega) (fun x => (app_left a b _ (by omega)).symm) (fun x => (app_left a b _ (by omega)).symm) (fun x => (app_left a b _ (by omega)).symm) (by omega)
theorem cnt_fuel (s : ByteArray) : ∀ f g p, s.size ≤ p + f → s.size ≤ p + g → Lib.runeCountFrom s f p = Lib.runeCountFrom s g p := by
  intro f
  induction f with
  | zero =>
    intro g p h1 h2
    rw [Lib.runeCountFrom_end s 0 p (by omega), Lib.runeCountFrom_end s g p (by omega)]
  | succ f ih =>
    intro g p h1 h2
    by_cases hp : p < s.size
    · obtain ⟨g', rfl⟩ : ∃ g', g = g' + 1 := ⟨g - 1, by omega⟩
      have hw := dec_wd s p hp
      rw [Lib.runeCountFrom, Lib.runeCountFrom, if_pos hp, if_pos hp, ih g' _ (by omega) (by omega)]
    · rw [Lib.runeCountFrom_end s _ p hp, Lib.runeCountFrom_end s _ p hp]
/-- How many pieces there are from a place on. -/
def cn (s : ByteArray) (p : Nat) : Nat := Lib.runeCountFrom s s.size p
theorem cn_step (s : ByteArray) (p : Nat) (hp : p < s.size) : cn s p = 1 + cn s (p + (Utf8.decode s p).2) := by
  have hw := dec_wd s p hp
  unfold cn
  obtain ⟨f, hf⟩ : ∃ f, s.size = f + 1 := ⟨s.size - 1, by omega⟩
  rw [hf, Lib.runeCountFrom, if_pos (by omega), ← hf]
  rw [cnt_fuel s f s.size _ (by omega) (by omega)]
theorem cn_end (s : ByteArray) (p : Nat) (hp : ¬ p < s.size) : cn s p = 0 := Lib.runeCountFrom_end s _ p hp
theorem cn_right (a b : ByteArray) : ∀ k q, b.size - q = k → cn (a ++ b) (a.size + q) = cn b q := by
  intro k
  induction k using Nat.strongRecOn with
  | ind k ih =>
  intro q hk
  by_cases hq : q < b.size
  · have hw := dec_wd b q hq
    rw [cn_step (a ++ b) _ (by rw [app_size]; omega), cn_step b q hq, dec_right, Nat.add_assoc, ih (b.size - (q + (Utf8.decode b q).2)) (by omega) _ rfl]
  · rw [cn_end _ _ (by rw [app_size]; omega), cn_end b q hq]
theorem cn_mid (b : ByteArray) : ∀ q, q ≤ b.size → (∀ j, j < q → bt b j / 64 = 2) → cn b 0 = q + cn b q := by
  intro q
  induction q with
  | zero => intro _ _; omega
  | succ q ih =>
    intro h1 h2
    rw [ih (by omega) (fun j hj => h2 j (by omega)), cn_step b q (by omega), dec_mid b q (h2 q (by omega))]
    show q + (1 + cn b (q + 1)) = _
    omega
theorem cn_join (a b : ByteArray) : ∀ k p, a.size - p = k → p ≤ a.size → cn (a ++ b) p ≤ cn a p + cn b 0 := by
  intro k
  induction k using Nat.strongRecOn with
  | ind k ih =>
  intro p hk hp
  by_cases hlt : p < a.size
  · have hps : p < (a ++ b).size := by rw [app_size]; omega
    have hw := dec_wd (a ++ b) p hps
    by_cases hin : p + (Utf8.decode (a ++ b) p).2 ≤ a.size
    · have e := dec_left a b p hlt hin
      have := ih (a.size - (p + (Utf8.decode (a ++ b) p).2)) (by omega) _ rfl hin
      rw [cn_step (a ++ b) p hps, cn_step a p hlt, e]
      omega
    · obtain ⟨q, hq⟩ : ∃ q, p + (Utf8.decode (a ++ b) p).2 = a.size + q := ⟨p + (Utf8.decode (a ++ b) p).2 - a.size, by omega⟩
      have hsz := app_size a b
      have hc := cn_mid b q (by omega) (fun j hj => by
        have := dec_cont (a ++ b) p (a.size + j - p) (by omega) (by omega)
        rw [Nat.add_sub_cancel' (by omega), app_right] at this
        exact this)
      have h1 := cn_step a p hlt
      rw [cn_step (a ++ b) p hps, hq, cn_right a b _ q rfl]
      omega
  · have : p = a.size := by omega
    subst this
    have := cn_right a b _ 0 rfl
    rw [Nat.add_zero] at this
    rw [this]
    omega
theorem wide (a b : ByteArray) : Lib.runeCount (a ++ b) ≤ Lib.runeCount a + Lib.runeCount b := cn_join a b _ 0 rfl (by omega)
theorem wide_pos (a : ByteArray) : 0 < Lib.runeCount a ↔ a.size ≠ 0 := by
  constructor
  · intro h e
    have : cn a 0 = 0 := cn_end a 0 (by omega)
    have h' : 0 < cn a 0 := h
    omega
  · intro h
    show 0 < cn a 0
    rw [cn_step a 0 (by omega)]
    omega
end Go.Proofs.YtcjlgjlediihoabDoor.Ut

/- How texts are quoted, and read again: in plain lists. -/
import Derived.Test.YtcjlgjlediihoaaDoorUt
import Derived.Test.YtcjlgjlediihoaaDoorBy
import Derived.WalkKit
namespace Go.Proofs.YtcjlgjlediihoaaDoor.Rw
open Go.Proofs.YtcjlgjlediihoaaDoor.Ut
open Go.Proofs.YtcjlgjlediihoaaDoor.By
set_option linter.unusedVariables false
set_option linter.unusedSimpArgs false

theorem ext_size (s : ByteArray) (b e : Nat) (h : e ≤ s.size) : (s.extract b e).size = e - b := by
  rw [ByteArray.size_extract]
  omega
theorem ext_bt (s : ByteArray) (b e j : Nat) (he : e ≤ s.size) (hj : b + j < e) : bt (s.extract b e) j = bt s (b + j) := by
  have h1 : j < (s.extract b e).size := by rw [ext_size s b e he]; omega
  rw [← bt_eq _ j h1, ← bt_eq s (b + j) (by omega)]
  congr 1
  simp [ByteArray.getElem_eq_getElem_data, ByteArray.data_extract]
theorem ext_at (s : ByteArray) (b j : Nat) (hb : b ≤ s.size) : bt (s.extract b s.size) j = bt s (b + j) := by
  by_cases h : b + j < s.size
  · exact ext_bt s b s.size j (Nat.le_refl _) h
  · rw [bt_end _ j (by rw [ext_size s b s.size (Nat.le_refl _)]; omega), bt_end s (b + j) (by omega)]
theorem decN_min (N M b0 b1 b2 b3 : Nat) (h1 : 1 < N ↔ 1 < M) (h2 : 2 < N ↔ 2 < M) (h3 : 3 < N ↔ 3 < M) : Lib.decodeN N b0 b1 b2 b3 = Lib.decodeN M b0 b1 b2 b3 := by
  unfold Lib.decodeN
  simp only [h1, h2, h3]
theorem dec_ext (s : ByteArray) (p : Nat) (hp : p ≤ s.size) : Utf8.decode (s.extract p s.size) 0 = Utf8.decode s p := by
  have hsz := ext_size s p s.size (Nat.le_refl _)
  rw [dec_at, dec_at, ext_at s p 0 hp, ext_at s p (0 + 1) hp, ext_at s p (0 + 2) hp, ext_at s p (0 + 3) hp, hsz]
  rfl
theorem ext_ext (s : ByteArray) (p n : Nat) (h : p + n ≤ s.size) : (s.extract p s.size).extract 0 n = s.extract p (p + n) := by
  apply ByteArray.ext
  rw [ByteArray.data_extract, ByteArray.data_extract, ByteArray.data_extract]
  have : s.data.size = s.size := rfl
  rw [Array.extract_extract]
  congr 1
  omega
theorem tx_ext (s : ByteArray) (p e : Nat) : tx (s.extract p e) = ((tx s).drop p).take (e - p) := by
  unfold tx
  rw [ByteArray.data_extract, Array.toList_extract]
  simp [List.map_take, List.map_drop, List.extract]
theorem tx_get (t : ByteArray) (j : Nat) : (tx t).getD j 0 = ((bt t j : Nat) : Int) := by
  unfold tx
  by_cases h : j < t.size
  · have h' : j < t.data.toList.length := by rw [Array.length_toList]; exact h
    rw [List.getD_eq_getElem?_getD, List.getElem?_map, List.getElem?_eq_getElem h']
    simp only [Option.map_some, Option.getD_some]
    rw [bt_data]
  · have h' : ¬ j < t.data.toList.length := by rw [Array.length_toList]; exact h
    rw [bt_end t j (by omega), List.getD_eq_getElem?_getD, List.getElem?_map, List.getElem?_eq_none (by omega)]
    rfl
/-- A digit to the base 16. -/
def hd (n : Nat) : Int := if n < 10 then 48 + n else 87 + n
/-- A byte to the base 16, with its escape. -/
def hx (b : Nat) : List Int := [92, 120, hd (b / 16), hd (b % 16)]
def hxs : List Int → List Int
  | [] => []
  | y :: r => hx y.toNat ++ hxs r
theorem hxs_append (a b : List Int) : hxs (a ++ b) = hxs a ++ hxs b := by
  induction a with
  | nil => rfl
  | cons y r ih => simp [hxs, ih]
theorem hxs_len (a : List Int) : (hxs a).length = 4 * a.length := by
  induction a with
  | nil => rfl
  | cons y r ih => simp [hxs, hx, ih]; omega
def plain (r : Nat) : Bool := decide (32 < r) && (r != 34) && (r != 92) && (decide (r < 127) || decide (160 < r))
/-- How the piece at a place is written. -/
def pc (s : ByteArray) (p : Nat) : List Int :=
  if Utf8.decode s p = (65533, 1) then hx (bt s p)
  else if (Utf8.decode s p).1 = 10 then [92, 110]
  else if (Utf8.decode s p).1 = 9 then [92, 116]
  else if (Utf8.decode s p).1 = 32 then [92, 115]
  else if (Utf8.decode s p).1 = 34 then [92, 34]
  else if (Utf8.decode s p).1 = 92 then [92, 92]
  else if plain (Utf8.decode s p).1 = true then tx (s.extract p (p + (Utf8.decode s p).2))
  else hxs (tx (s.extract p (p + (Utf8.decode s p).2)))
def qf (s : ByteArray) : Nat → Nat → List Int
  | 0, _ => []
  | f + 1, p => if p < s.size then pc s p ++ qf s f (p + (Utf8.decode s p).2) else []
/-- A text, quoted. -/
def qt (s : ByteArray) : List Int := 34 :: (qf s s.size 0 ++ [34])
theorem qf_end (s : ByteArray) (f p : Nat) (h : ¬ p < s.size) : qf s f p = [] := by cases f <;> simp [qf, h]
theorem qf_step (s : ByteArray) (f p : Nat) (hp : p < s.size) (hf : s.size ≤ p + f) : qf s f p = pc s p ++ qf s (f - 1) (p + (Utf8.decode s p).2) := by
  obtain ⟨g, rfl⟩ : ∃ g, f = g + 1 := ⟨f - 1, by omega⟩
  rw [qf, if_pos hp]
  rfl
theorem hd_bd (n : Nat) (h : n < 16) : 0 ≤ hd n ∧ hd n ≤ 255 := by unfold hd; split <;> omega
theorem hx_bytes (b : Nat) (h : b < 256) : ∀ y ∈ hx b, 0 ≤ y ∧ y ≤ 255 := by
  intro y hy
  have h1 := hd_bd (b / 16) (by omega)
  have h2 := hd_bd (b % 16) (by omega)
  simp [hx] at hy
  rcases hy with rfl | rfl | rfl | rfl <;> omega
theorem hxs_bytes (l : List Int) (h : ∀ y ∈ l, 0 ≤ y ∧ y ≤ 255) : ∀ y ∈ hxs l, 0 ≤ y ∧ y ≤ 255 := by
  induction l with
  | nil => intro y hy; simp [hxs] at hy
  | cons x r ih =>
    intro y hy
    rcases List.mem_append.1 hy with hy | hy
    · have := h x (by simp)
      exact hx_bytes _ (by omega) y hy
    · exact ih (fun z hz => h z (by simp [hz])) y hy
theorem pc_bytes (s : ByteArray) (p : Nat) : ∀ y ∈ pc s p, 0 ≤ y ∧ y ≤ 255 := by
  intro y hy
  unfold pc at hy
  repeat' split at hy
  · exact hx_bytes _ (bt_lt s p) y hy
  all_goals first | (simp at hy; omega) | skip
  · exact tx_bytes _ y hy
  · exact hxs_bytes _ (tx_bytes _) y hy
theorem pc_len (s : ByteArray) (p : Nat) (hp : p < s.size) : (pc s p).length ≤ 4 * (Utf8.decode s p).2 := by
  have h := dec_wd s p hp
  unfold pc
  repeat' split
  · simp [hx]; omega
  all_goals first | (simp; omega) | skip
  · rw [tx_len, ext_size s _ _ (by omega)]; omega
  · rw [hxs_len, tx_len, ext_size s _ _ (by omega)]; omega
theorem pc_ext (s : ByteArray) (p : Nat) (hp : p < s.size) : pc (s.extract p s.size) 0 = pc s p := by
  have h := dec_wd s p hp
  unfold pc
  rw [dec_ext s p (by omega), ext_at s p 0 (by omega), Nat.zero_add, ext_ext s p _ h.2.1]
  rfl
/-- A rune that is none of the stray ones has the length of its own. -/
def rlen (r : Nat) : Nat := if r < 128 then 1 else if r < 2048 then 2 else if r < 65536 then 3 else 4
set_option maxHeartbeats 1000000 in
theorem dec_rlen (s : ByteArray) (p : Nat) (h : Utf8.decode s p ≠ (65533, 1)) : (Utf8.decode s p).2 = rlen (Utf8.decode s p).1 ∧ ¬ (55296 ≤ (Utf8.decode s p).1 ∧ (Utf8.decode s p).1 ≤ 57343) ∧ (Utf8.decode s p).1 ≤ 1114111 := by
  rw [dec_at] at h ⊢
  have h0 := bt_lt s p
  have h1 := bt_lt s (p + 1)
  have h2 := bt_lt s (p + 2)
  have h3 := bt_lt s (p + 3)
  generalize bt s p = b0 at *
  generalize bt s (p + 1) = b1 at *
  generalize bt s (p + 2) = b2 at *
  generalize bt s (p + 3) = b3 at *
  unfold Lib.decodeN at h ⊢
  unfold rlen
  by_cases c1 : b0 < 128
  · rw [if_pos c1]
    show 1 = (if b0 < 128 then 1 else _) ∧ ¬ (55296 ≤ b0 ∧ b0 ≤ 57343) ∧ b0 ≤ 1114111
    rw [if_pos c1]
    omega
  · simp only [if_neg c1] at h ⊢
    by_cases c2 : b0 / 32 = 6 ∧ (1 < s.size - p ∧ b1 / 64 = 2)
    · simp only [if_pos c2] at h ⊢
      by_cases d2 : b0 % 32 * 64 + b1 % 64 ≥ 128
      · simp only [if_pos d2]
        rw [if_neg (by omega), if_pos (by omega)]
        omega
      · simp [if_neg d2] at h
    · simp only [if_neg c2] at h ⊢
      by_cases c3 : b0 / 16 = 14 ∧ (1 < s.size - p ∧ b1 / 64 = 2) ∧ (2 < s.size - p ∧ b2 / 64 = 2)
      · simp only [if_pos c3] at h ⊢
        have hv : b0 % 16 * 4096 + b1 % 64 * 64 + b2 % 64 < 65536 := by omega
        generalize b0 % 16 * 4096 + b1 % 64 * 64 + b2 % 64 = v at *
        by_cases d3 : v ≥ 2048 ∧ (v < 55296 ∨ (57344 ≤ v ∧ v ≤ 1114111))
        · simp only [if_pos d3] at h ⊢
          rw [if_neg (by omega), if_neg (by omega), if_pos (by omega)]
          omega
        · simp [if_neg d3] at h
      · simp only [if_neg c3] at h ⊢
        by_cases c4 : b0 / 8 = 30 ∧ (1 < s.size - p ∧ b1 / 64 = 2) ∧ (2 < s.size - p ∧ b2 / 64 = 2) ∧ (3 < s.size - p ∧ b3 / 64 = 2)
        · simp only [if_pos c4] at h ⊢
          generalize b0 % 8 * 262144 + b1 % 64 * 4096 + b2 % 64 * 64 + b3 % 64 = v at *
          by_cases d4 : v ≥ 65536 ∧ (v < 55296 ∨ (57344 ≤ v ∧ v ≤ 1114111))
          · simp only [if_pos d4]
            rw [if_neg (by omega), if_neg (by omega), if_neg (by omega)]
            omega
          · simp [if_neg d4] at h
        · simp [if_neg c4] at h
/-- The rune that a stray byte is told as, standing there itself. -/
theorem dec_bad (s : ByteArray) (p : Nat) (hp : p < s.size) (h : (Utf8.decode s p).1 = 65533) : Utf8.decode s p = (65533, 1) ↔ ¬ (p + 3 ≤ s.size ∧ bt s p = 239 ∧ bt s (p + 1) = 191 ∧ bt s (p + 2) = 189) := by
  rw [dec_at] at h ⊢
  have h0 := bt_lt s p
  have h1 := bt_lt s (p + 1)
  have h2 := bt_lt s (p + 2)
  have h3 := bt_lt s (p + 3)
  generalize bt s p = b0 at *
  generalize bt s (p + 1) = b1 at *
  generalize bt s (p + 2) = b2 at *
  generalize bt s (p + 3) = b3 at *
  unfold Lib.decodeN at h ⊢
  by_cases c1 : b0 < 128
  · rw [if_pos c1] at h
    have h : b0 = 65533 := h
    omega
  · simp only [if_neg c1] at h ⊢
    by_cases c2 : b0 / 32 = 6 ∧ (1 < s.size - p ∧ b1 / 64 = 2)
    · simp only [if_pos c2] at h ⊢
      by_cases d2 : b0 % 32 * 64 + b1 % 64 ≥ 128
      · rw [if_pos d2] at h
        have h : b0 % 32 * 64 + b1 % 64 = 65533 := h
        omega
      · rw [if_neg d2]
        exact ⟨fun _ => by omega, fun _ => rfl⟩
    · simp only [if_neg c2] at h ⊢
      by_cases c3 : b0 / 16 = 14 ∧ (1 < s.size - p ∧ b1 / 64 = 2) ∧ (2 < s.size - p ∧ b2 / 64 = 2)
      · simp only [if_pos c3] at h ⊢
        have hv : b0 % 16 * 4096 + b1 % 64 * 64 + b2 % 64 = 65533 ↔ (b0 = 239 ∧ b1 = 191 ∧ b2 = 189) := by omega
        generalize b0 % 16 * 4096 + b1 % 64 * 64 + b2 % 64 = v at *
        by_cases d3 : v ≥ 2048 ∧ (v < 55296 ∨ (57344 ≤ v ∧ v ≤ 1114111))
        · rw [if_pos d3] at h ⊢
          have h : v = 65533 := h
          have := hv.1 h
          exact ⟨fun e => by simp at e, fun e => absurd ⟨by omega, this.1, this.2.1, this.2.2⟩ e⟩
        · rw [if_neg d3]
          exact ⟨fun _ e => by have := hv.2 ⟨e.2.1, e.2.2.1, e.2.2.2⟩; omega, fun _ => rfl⟩
      · simp only [if_neg c3] at h ⊢
        by_cases c4 : b0 / 8 = 30 ∧ (1 < s.size - p ∧ b1 / 64 = 2) ∧ (2 < s.size - p ∧ b2 / 64 = 2) ∧ (3 < s.size - p ∧ b3 / 64 = 2)
        · simp only [if_pos c4] at h ⊢
          generalize b0 % 8 * 262144 + b1 % 64 * 4096 + b2 % 64 * 64 + b3 % 64 = v at *
          by_cases d4 : v ≥ 65536 ∧ (v < 55296 ∨ (57344 ≤ v ∧ v ≤ 1114111))
          · rw [if_pos d4] at h
            have h : v = 65533 := h
            omega
          · rw [if_neg d4]
            exact ⟨fun _ => by omega, fun _ => rfl⟩
        · rw [if_neg c4]
          exact ⟨fun _ => by omega, fun _ => rfl⟩
end Go.Proofs.YtcjlgjlediihoaaDoor.Rw

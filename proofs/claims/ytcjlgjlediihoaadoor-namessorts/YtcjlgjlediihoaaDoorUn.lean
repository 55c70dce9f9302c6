/- How a quoted text is read: in plain lists; strings.IndexByte. -/
import Derived.Test.YtcjlgjlediihoaaDoorQr
import Derived.Lib.Bytealg
namespace Go.Proofs.YtcjlgjlediihoaaDoor.Rw
open Go.ChangeShapes Go.WideShapes Go.ChangeAt Go.RowKit
open Go.Proofs.YtcjlgjlediihoaaDoor.Ut
open Go.Proofs.YtcjlgjlediihoaaDoor.By
set_option linter.unusedVariables false
set_option linter.unusedSimpArgs false

/-- strings.IndexByte's answer. -/
def ib (s : ByteArray) (c : Nat) : Int := if fb (· == c) s 0 < s.size then (fb (· == c) s 0 : Int) else -1
theorem index_list : ∀ (l : List UInt8) (c : UInt8), (Lib.indexByte l c = -1 ∧ ∀ j (h : j < l.length), l[j] ≠ c) ∨ ∃ (k : Nat) (h : k < l.length), Lib.indexByte l c = k ∧ l[k] = c ∧ ∀ j (h' : j < k), l[j] ≠ c
  | [], c => .inl ⟨rfl, fun j h => by simp at h⟩
  | b :: l, c => by
    unfold Lib.indexByte
    by_cases hb : b = c
    · exact .inr ⟨0, by simp, by simp [hb], by simp [hb], fun j h => by omega⟩
    · rw [if_neg (by simpa using hb)]
      rcases index_list l c with ⟨h1, h2⟩ | ⟨k, hk, h1, h2, h3⟩
      · left
        refine ⟨by simp [h1], ?_⟩
        intro j hj
        cases j with
        | zero => simpa using hb
        | succ j => simpa using h2 j (by simpa using hj)
      · right
        refine ⟨k + 1, by simpa using hk, ?_, by simpa using h2, ?_⟩
        · rw [if_neg (by rw [h1]; simp), h1]
          simp
        · intro j hj
          cases j with
          | zero => simpa using hb
          | succ j => simpa using h3 j (by omega)
theorem index_ib (s : ByteArray) (c : Nat) (hc : c < 256) : Lib.indexByte s.data.toList ((c : Int).toNat.toUInt8) = ib s c := by
  have hlen : s.data.toList.length = s.size := by rw [Array.length_toList]; rfl
  have hcc : ∀ b : UInt8, b = (c : Int).toNat.toUInt8 ↔ b.toNat = c := by
    intro b
    rw [Int.toNat_natCast]
    constructor
    · intro h
      rw [h]
      show (UInt8.ofNat c).toNat = c
      rw [UInt8.toNat_ofNat']
      omega
    · intro h
      apply UInt8.toNat_inj.1
      show _ = (UInt8.ofNat c).toNat
      rw [UInt8.toNat_ofNat', h]
      omega
  unfold ib
  rcases index_list s.data.toList ((c : Int).toNat.toUInt8) with ⟨h1, h2⟩ | ⟨k, hk, h1, h2, h3⟩
  · have hf : fb (· == c) s 0 = s.size := fb_is _ s 0 s.size (by omega) (by omega) (fun j _ hj => by
      have := h2 j (by omega)
      rw [Ne, hcc, bt_data] at this
      simpa using this) (fun h => by omega)
    rw [hf, if_neg (by omega), h1]
  · have hf : fb (· == c) s 0 = k := fb_is _ s 0 k (by omega) (by omega) (fun j _ hj => by
      have := h3 j hj
      rw [Ne, hcc, bt_data] at this
      simpa using this) (fun h => by
      rw [hcc, bt_data] at h2
      simpa using h2)
    rw [hf, if_pos (by omega), h1]
set_option maxRecDepth 1000000 in
theorem ib_lite (s : ByteArray) (c : Nat) (hc : c < 256) (w : World) : Calls Tryd.prog 107 #[.string s, .int .u8 c] w fun e w' => e = .returned (.int .i64 (ib s c)) ∧ w' = w := by
  go_enter Tryd.func107, Tryd.ntmps107
  go_wp2
  rw [run_callFunc_extern Tryd.func112 (by kernel_rfl) (by kernel_rfl) (by kernel_rfl) (e := Extern.BytealgIndexByte.indexByte) (by kernel_rfl), Lib.run_indexByteString, index_ib s c hc]
  simp only [Result.andThen]
  rw [Oper.upon_value]
  go_wp2
  go_ret
  exact ⟨rfl, rfl⟩
set_option maxRecDepth 1000000 in
theorem ib_any (s : ByteArray) (c : Nat) (hc : c < 256) (w : World) : Calls Tryd.prog 99 #[.string s, .int .u8 c] w fun e w' => e = .returned (.int .i64 (ib s c)) ∧ w' = w := by
  go_enter Tryd.func99, Tryd.ntmps99
  go_wp2_with fail
  refine (ib_lite s c hc w).mono ?_
  rintro e w ⟨rfl, rfl⟩
  go_wp2_with fail
  go_ret
  exact ⟨rfl, rfl⟩
/-- A digit's value; 16: it is none. -/
def hv (c : Nat) : Nat := if 48 ≤ c ∧ c ≤ 57 then c - 48 else if 97 ≤ c ∧ c ≤ 102 then c - 87 else 16
theorem hv_le (c : Nat) : hv c ≤ 16 := by unfold hv; split; omega; split <;> omega
set_option maxRecDepth 100000 in
theorem ib_hex0 : ∀ c, c < 256 → ib hexs c = if hv c < 16 then (hv c : Int) else -1 := by decide +kernel
theorem ib_hex (c : Nat) (h : c < 256) : ib hexs c = if hv c < 16 then (hv c : Int) else -1 := ib_hex0 c h
/-- What an escape writes, and how long it is; 0: it is none. -/
def esc (s : ByteArray) (p : Nat) : List Int × Nat :=
  if p + 1 < s.size then
    if bt s (p + 1) = 110 then ([10], 2) else if bt s (p + 1) = 116 then ([9], 2) else if bt s (p + 1) = 115 then ([32], 2) else if bt s (p + 1) = 34 then ([34], 2) else if bt s (p + 1) = 92 then ([92], 2)
    else if bt s (p + 1) = 120 ∧ p + 3 < s.size ∧ hv (bt s (p + 2)) < 16 ∧ hv (bt s (p + 3)) < 16 then ([((hv (bt s (p + 2)) * 16 + hv (bt s (p + 3)) : Nat) : Int)], 4) else ([], 0)
  else ([], 0)
/-- What is written at a place, and how long that is; 0: nothing can be written so. -/
def rd (s : ByteArray) (p : Nat) : List Int × Nat :=
  if bt s p = 92 then esc s p
  else if Utf8.decode s p = (65533, 1) ∨ plain (Utf8.decode s p).1 = false then ([], 0)
  else (tx (s.extract p (p + (Utf8.decode s p).2)), (Utf8.decode s p).2)
def un (s : ByteArray) : Nat → Nat → List Int → Bool × Nat × List Int
  | 0, p, _ => (false, p, [])
  | f + 1, p, acc =>
    if p < s.size then
      if bt s p = 34 then (decide (p + 1 = s.size), p + 1, acc)
      else if (rd s p).2 = 0 then (false, p, [])
      else un s f (p + (rd s p).2) (acc ++ (rd s p).1)
    else (false, s.size, [])
theorem hv_asc (c : Nat) (h : hv c < 16) : c < 128 := by
  unfold hv at h
  by_cases h1 : 48 ≤ c ∧ c ≤ 57
  · omega
  · rw [if_neg h1] at h
    by_cases h2 : 97 ≤ c ∧ c ≤ 102
    · omega
    · rw [if_neg h2] at h; omega
theorem esc_spec (s : ByteArray) (p : Nat) (h92 : bt s p = 92) (h : (esc s p).2 ≠ 0) : 2 ≤ (esc s p).2 ∧ p + (esc s p).2 ≤ s.size ∧ (∀ j, j < (esc s p).2 → bt s (p + j) < 128) ∧ (esc s p).1.length = 1 ∧ ∀ y ∈ (esc s p).1, 0 ≤ y ∧ y ≤ 255 := by
  unfold esc at h ⊢
  by_cases h1 : p + 1 < s.size
  · rw [if_pos h1] at h ⊢
    have two : ∀ (y : Int), 0 ≤ y ∧ y ≤ 255 → bt s (p + 1) < 128 → 2 ≤ 2 ∧ p + 2 ≤ s.size ∧ (∀ j, j < 2 → bt s (p + j) < 128) ∧ [y].length = 1 ∧ ∀ z ∈ [y], 0 ≤ z ∧ z ≤ 255 := by
      intro y hy hb
      refine ⟨by omega, by omega, ?_, rfl, fun z hz => by simp at hz; rw [hz]; exact hy⟩
      intro j hj
      rcases (by omega : j = 0 ∨ j = 1) with rfl | rfl
      · rw [Nat.add_zero]; omega
      · exact hb
    by_cases a1 : bt s (p + 1) = 110
    · rw [if_pos a1]; exact two 10 (by omega) (by omega)
    · rw [if_neg a1] at h ⊢
      by_cases a2 : bt s (p + 1) = 116
      · rw [if_pos a2]; exact two 9 (by omega) (by omega)
      · rw [if_neg a2] at h ⊢
        by_cases a3 : bt s (p + 1) = 115
        · rw [if_pos a3]; exact two 32 (by omega) (by omega)
        · rw [if_neg a3] at h ⊢
          by_cases a4 : bt s (p + 1) = 34
          · rw [if_pos a4]; exact two 34 (by omega) (by omega)
          · rw [if_neg a4] at h ⊢
            by_cases a5 : bt s (p + 1) = 92
            · rw [if_pos a5]; exact two 92 (by omega) (by omega)
            · rw [if_neg a5] at h ⊢
              by_cases a6 : bt s (p + 1) = 120 ∧ p + 3 < s.size ∧ hv (bt s (p + 2)) < 16 ∧ hv (bt s (p + 3)) < 16
              · rw [if_pos a6]
                have b2 := hv_asc _ a6.2.2.1
                have b3 := hv_asc _ a6.2.2.2
                refine ⟨by show 2 ≤ 4; omega, by show p + 4 ≤ _; omega, ?_, rfl, ?_⟩
                · intro j hj
                  have hj : j < 4 := hj
                  rcases (by omega : j = 0 ∨ j = 1 ∨ j = 2 ∨ j = 3) with rfl | rfl | rfl | rfl
                  · rw [Nat.add_zero]; omega
                  · omega
                  · exact b2
                  · exact b3
                · intro y hy
                  simp at hy
                  omega
              · rw [if_neg a6] at h
                exact absurd rfl h
  · rw [if_neg h1] at h
    exact absurd rfl h
theorem esc_nil (s : ByteArray) (p : Nat) (h : (esc s p).2 = 0) : (esc s p).1 = [] := by
  revert h
  unfold esc
  repeat' split
  all_goals simp
theorem rd_nil (s : ByteArray) (p : Nat) (hp : p < s.size) (h : (rd s p).2 = 0) : (rd s p).1 = [] := by
  unfold rd at h ⊢
  by_cases a : bt s p = 92
  · rw [if_pos a] at h ⊢; exact esc_nil s p h
  · rw [if_neg a] at h ⊢
    by_cases b : Utf8.decode s p = (65533, 1) ∨ plain (Utf8.decode s p).1 = false
    · rw [if_pos b]
    · rw [if_neg b] at h
      have := (dec_wd s p hp).1
      have h : (Utf8.decode s p).2 = 0 := h
      omega
theorem rd_spec (s : ByteArray) (p : Nat) (hp : p < s.size) (h : (rd s p).2 ≠ 0) : 1 ≤ (rd s p).2 ∧ p + (rd s p).2 ≤ s.size ∧ (Utf8.decode s p).2 ≤ (rd s p).2 ∧ (∀ j, p + (Utf8.decode s p).2 ≤ j → j < p + (rd s p).2 → bt s j < 128) ∧ (rd s p).1.length ≤ (rd s p).2 := by
  have hw := dec_wd s p hp
  unfold rd at h ⊢
  by_cases a : bt s p = 92
  · rw [if_pos a] at h ⊢
    obtain ⟨e1, e2, e3, e4, e5⟩ := esc_spec s p a h
    rw [dec_small s p (by omega)]
    refine ⟨by omega, e2, by show 1 ≤ _; omega, fun j h1 h2 => ?_, by omega⟩
    have := e3 (j - p) (by omega)
    rw [Nat.add_sub_cancel' (by have : p + 1 ≤ j := h1; omega)] at this
    exact this
  · rw [if_neg a] at h ⊢
    by_cases b : Utf8.decode s p = (65533, 1) ∨ plain (Utf8.decode s p).1 = false
    · rw [if_pos b] at h; exact absurd rfl h
    · rw [if_neg b] at h ⊢
      refine ⟨hw.1, hw.2.1, Nat.le_refl _, fun j h1 h2 => ?_, ?_⟩
      · have h2 : j < p + (Utf8.decode s p).2 := h2
        omega
      · show (tx (s.extract p (p + (Utf8.decode s p).2))).length ≤ _
        rw [tx_len, ext_size s _ _ hw.2.1]; omega
theorem esc_ext (s : ByteArray) (p : Nat) (hp : p ≤ s.size) : esc (s.extract p s.size) 0 = esc s p := by
  have hsz := ext_size s p s.size (Nat.le_refl _)
  unfold esc
  rw [ext_at s p (0 + 1) hp, ext_at s p (0 + 2) hp, ext_at s p (0 + 3) hp, hsz]
  have e1 : (0 + 1 < s.size - p) = (p + 1 < s.size) := propext (by omega)
  have e2 : (0 + 3 < s.size - p) = (p + 3 < s.size) := propext (by omega)
  simp only [e1, e2, Nat.zero_add]
theorem rd_ext (s : ByteArray) (p : Nat) (hp : p < s.size) : rd (s.extract p s.size) 0 = rd s p := by
  have hw := dec_wd s p hp
  unfold rd
  rw [ext_at s p 0 (by omega), esc_ext s p (by omega), dec_ext s p (by omega), Nat.zero_add, ext_ext s p _ hw.2.1, Nat.add_zero]
end Go.Proofs.YtcjlgjlediihoaaDoor.Rw

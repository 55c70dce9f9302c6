/- strings.IndexByte; where a word ends. -/
import Derived.Test.YtcjlgjlediihoabDoorRq
namespace Go.Proofs.YtcjlgjlediihoabDoor.Sq
open Go.ChangeShapes Go.WideShapes Go.ChangeAt Go.RowKit
open Go.Proofs.YtcjlgjlediihoabDoor.Ut
open Go.Proofs.YtcjlgjlediihoabDoor.Sp
open Go.Proofs.YtcjlgjlediihoabDoor.By
set_option linter.unusedVariables false
set_option linter.unusedSimpArgs false

theorem ext_size (s : ByteArray) (b e : Nat) (h : e ≤ s.size) : (s.extract b e).size = e - b := by
  rw [ByteArray.size_extract]
  omega
theorem ext_bt (s : ByteArray) (b e j : Nat) (he : e ≤ s.size) (hj : b + j < e) : bt (s.extract b e) j = bt s (b + j) := by
  have h1 : j < (s.extract b e).size := by rw [ext_size s b e he]; omega
  rw [← bt_eq _ j h1, ← bt_eq s (b + j) (by omega)]
  congr 1
  simp [ByteArray.getElem_eq_getElem_data, ByteArray.data_extract]
theorem qe_fuel (s : ByteArray) : ∀ f f' p al, s.size ≤ p + f → s.size ≤ p + f' → qe s f p al = qe s f' p al := by
  intro f
  induction f with
  | zero =>
    intro f' p al h1 h2
    cases f' with
    | zero => rfl
    | succ g => rw [qe, qe, if_neg (by omega)]
  | succ f ih =>
    intro f' p al h1 h2
    cases f' with
    | zero => rw [qe, qe, if_neg (by omega)]
    | succ g =>
      rw [qe, qe]
      by_cases hp : p < s.size
      · rw [if_pos hp, if_pos hp, ih g (p + 1) false (by omega) (by omega), ih g (p + 1) true (by omega) (by omega)]
      · rw [if_neg hp, if_neg hp]
theorem qe_ext (s : ByteArray) (b : Nat) (hb : b ≤ s.size) : ∀ f p al, b + (qe (s.extract b s.size) f p al).1 = (qe s f (b + p) al).1 ∧ (qe (s.extract b s.size) f p al).2 = (qe s f (b + p) al).2 := by
  have hsz := ext_size s b s.size (Nat.le_refl _)
  intro f
  induction f with
  | zero => intro p al; exact ⟨rfl, rfl⟩
  | succ f ih =>
    intro p al
    rw [qe, qe]
    by_cases hp : b + p < s.size
    · rw [if_pos hp, if_pos (by rw [hsz]; omega), ext_bt s b s.size p (Nat.le_refl _) hp]
      have i1 := ih (p + 1) false
      have i2 := ih (p + 1) true
      rw [← Nat.add_assoc] at i1 i2
      split
      · exact i1
      · split
        · exact i2
        · split
          · exact ⟨rfl, rfl⟩
          · exact i1
    · rw [if_neg hp, if_neg (by rw [hsz]; omega)]
      exact ⟨rfl, rfl⟩
theorem fb_ext (Q : Nat → Bool) (s : ByteArray) (b : Nat) (hb : b ≤ s.size) : fb Q (s.extract b s.size) 0 + b = fb Q s b := by
  have hsz := ext_size s b s.size (Nat.le_refl _)
  obtain ⟨a1, a2, a3, a4⟩ := fb_spec Q (s.extract b s.size) 0 (by omega)
  rw [hsz] at a2 a4
  refine (fb_is Q s b _ (by omega) (by omega) ?_ ?_).symm
  · intro j h1 h2
    have := a3 (j - b) (by omega) (by omega)
    rw [ext_bt s b s.size (j - b) (Nat.le_refl _) (by omega)] at this
    rw [Nat.add_sub_cancel' h1] at this
    exact this
  · intro h
    have := a4 (by omega)
    rw [ext_bt s b s.size _ (Nat.le_refl _) (by omega)] at this
    rw [Nat.add_comm]
    exact this
/-- strings.IndexByte's answer. -/
def ib (s : ByteArray) (c : Nat) : Int := if fb (· == c) s 0 < s.size then (fb (· == c) s 0 : Int) else -1
theorem index_list : ∀ (l : List UInt8) (c : UInt8), (Lib.indexByte l c = -1 ∧ ∀ j (h : j < l.length), l[j] ≠ c) ∨ ∃ (k : Nat) (h : k < l.length), Lib.indexByte l c = k ∧ l[k] = c ∧ ∀ j (h' : j < k), l[j] ≠ c
  | [], c => .inl ⟨rfl, fun j h => by simp at h⟩
  | b :: l, c => by
    unfold Lib.indexByte
    by_cases hb : b = c
    · exact .inr ⟨0, by simp, by simp [hb], by simp [hb], fun j h => by omega⟩
    · rw [if_neg (by simpa using hb)]
      rcases index_list l c with ⟨h1, h2⟩ | ⟨k, hk, h1, h2, h3⟩
      · left
        refine ⟨by simp [h1], ?_⟩
        intro j hj
        cases j with
        | zero => simpa using hb
        | succ j => simpa using h2 j (by simpa using hj)
      · right
        refine ⟨k + 1, by simpa using hk, ?_, by simpa using h2, ?_⟩
        · rw [if_neg (by rw [h1]; simp), h1]
          simp
        · intro j hj
          cases j with
          | zero => simpa using hb
          | succ j => simpa using h3 j (by omega)
theorem index_ib (s : ByteArray) (c : Nat) (hc : c < 256) : Lib.indexByte s.data.toList ((c : Int).toNat.toUInt8) = ib s c := by
  have hlen : s.data.toList.length = s.size := by rw [Array.length_toList]; rfl
  have hcc : ∀ b : UInt8, b = (c : Int).toNat.toUInt8 ↔ b.toNat = c := by
    intro b
    rw [Int.toNat_natCast]
    constructor
    · intro h
      rw [h]
      show (UInt8.ofNat c).toNat = c
      rw [UInt8.toNat_ofNat']
      omega
    · intro h
      apply UInt8.toNat_inj.1
      show _ = (UInt8.ofNat c).toNat
      rw [UInt8.toNat_ofNat', h]
      omega
  unfold ib
  rcases index_list s.data.toList ((c : Int).toNat.toUInt8) with ⟨h1, h2⟩ | ⟨k, hk, h1, h2, h3⟩
  · have hf : fb (· == c) s 0 = s.size := fb_is _ s 0 s.size (by omega) (by omega) (fun j _ hj => by
      have := h2 j (by omega)
      rw [Ne, hcc, bt_data] at this
      simpa using this) (fun h => by omega)
    rw [hf, if_neg (by omega), h1]
  · have hf : fb (· == c) s 0 = k := fb_is _ s 0 k (by omega) (by omega) (fun j _ hj => by
      have := h3 j hj
      rw [Ne, hcc, bt_data] at this
      simpa using this) (fun h => by
      rw [hcc, bt_data] at h2
      simpa using h2)
    rw [hf, if_pos (by omega), h1]
set_option maxRecDepth 1000000 in
theorem ib_lite (s : ByteArray) (c : Nat) (hc : c < 256) (w : World) : Calls Tryd.prog 35 #[.string s, .int .u8 c] w fun e w' => e = .returned (.int .i64 (ib s c)) ∧ w' = w := by
  go_enter Tryd.func35, Tryd.ntmps35
  go_wp2
  rw [run_callFunc_extern Tryd.func42 (by kernel_rfl) (by kernel_rfl) (by kernel_rfl) (e := Extern.BytealgIndexByte.indexByte) (by kernel_rfl), Lib.run_indexByteString, index_ib s c hc]
  simp only [Result.andThen]
  rw [Oper.upon_value]
  go_wp2
  go_ret
  exact ⟨rfl, rfl⟩
set_option maxRecDepth 1000000 in
theorem ib_any (s : ByteArray) (c : Nat) (hc : c < 256) (w : World) : Calls Tryd.prog 31 #[.string s, .int .u8 c] w fun e w' => e = .returned (.int .i64 (ib s c)) ∧ w' = w := by
  go_enter Tryd.func31, Tryd.ntmps31
  go_wp2_with fail
  refine (ib_lite s c hc w).mono ?_
  rintro e w ⟨rfl, rfl⟩
  go_wp2_with fail
  go_ret
  exact ⟨rfl, rfl⟩
theorem we_parts (s : ByteArray) (b : Nat) (hb : b < s.size) : (bt s b = 34 → (we s b) = ((qe (s.extract b s.size) (s.extract b s.size).size 0 true).1 + b, (qe (s.extract b s.size) (s.extract b s.size).size 0 true).2)) ∧
    (bt s b ≠ 34 → 0 ≤ ib (s.extract b s.size) 32 → ((we s b).1 : Int) = b + ib (s.extract b s.size) 32 ∧ (we s b).2 = true) ∧ (bt s b ≠ 34 → ib (s.extract b s.size) 32 < 0 → we s b = (s.size, true)) := by
  have hsz := ext_size s b s.size (Nat.le_refl _)
  refine ⟨?_, ?_, ?_⟩
  · intro h
    obtain ⟨h1, h2⟩ := qe_ext s b (by omega) (s.extract b s.size).size 0 true
    unfold we
    rw [if_pos h, qe_fuel s s.size (s.extract b s.size).size b true (by omega) (by rw [hsz]; omega)]
    rw [Nat.add_zero] at h1 h2
    rw [Prod.ext_iff]
    exact ⟨by rw [Nat.add_comm]; exact h1.symm, h2.symm⟩
  · intro h h0
    have e := fb_ext isb s b (by omega)
    have e' : fb (fun x => x == 32) (s.extract b s.size) 0 + b = fb isb s b := e
    unfold we
    rw [if_neg h]
    unfold ib at h0 ⊢
    by_cases hh : fb (fun x => x == 32) (s.extract b s.size) 0 < (s.extract b s.size).size
    · rw [if_pos hh]
      exact ⟨by show ((fb isb s b : Nat) : Int) = _; rw [← e']; omega, rfl⟩
    · rw [if_neg hh] at h0
      omega
  · intro h h0
    have e' : fb (fun x => x == 32) (s.extract b s.size) 0 + b = fb isb s b := fb_ext isb s b (by omega)
    unfold we
    rw [if_neg h]
    unfold ib at h0
    by_cases hh : fb (fun x => x == 32) (s.extract b s.size) 0 < (s.extract b s.size).size
    · rw [if_pos hh] at h0
      omega
    · obtain ⟨a1, a2, a3, a4⟩ := fb_spec isb s b (by omega)
      have : fb isb s b = s.size := by omega
      rw [this]
set_option maxRecDepth 1000000 in
set_option maxHeartbeats 1000000 in
theorem we_any (s : ByteArray) (hs : s.size ≤ 281474976710656) (b : Nat) (hb : b < s.size) (w : World) :
    Calls Tryd.prog 21 #[.string s, .int .i64 b] w fun e w' => e = .returned (.tuple #[.int .i64 ((we s b).1 : Nat), .bool (we s b).2]) ∧ Below w.heap.size w w' := by
  obtain ⟨h1, h2, h3⟩ := we_parts s b hb
  have hsz := ext_size s b s.size (Nat.le_refl _)
  have h0 : 0 < (s.extract b s.size).size := by omega
  have hx : bt (s.extract b s.size) 0 = bt s b := ext_bt s b s.size 0 (Nat.le_refl _) (by omega)
  have hi : ((s.extract b s.size)[0]'h0).toNat = bt s b := by rw [bt_eq]; exact hx
  have hx := hid hx
  have HQ := hid (quoted_any (s.extract b s.size) (by omega) w)
  have HI := hid (ib_any (s.extract b s.size) 32 (by omega) w)
  have H1 := hid h1
  have H2 := hid h2
  have H3 := hid h3
  clear h1 h2 h3
  by_cases h34 : bt s b = 34
  · have H := hid (H1.out h34)
    have hle := hid (qe_le (s.extract b s.size) (s.extract b s.size).size 0 true (by omega))
    rw [H.out]
    clear H1 H2 H3 HI H
    generalize qe (s.extract b s.size) (s.extract b s.size).size 0 true = q at *
    obtain ⟨q1, q2⟩ := q
    have hq1 : q1 ≤ 281474976710656 := by have := hle.out.2; rw [hsz] at this; have : q1 ≤ s.size - b := this; omega
    clear hle
    go_enter Tryd.func21, Tryd.ntmps21
    go_wp2_with fail
    refine HQ.out.mono ?_
    rintro e w1 ⟨rfl, b1⟩
    clear HQ
    go_wp2_with fail
    go_ret2
    refine ⟨?_, b1⟩
    show Ending.returned (.tuple #[.int .i64 ((b : Int) + (q1 : Int)), .bool q2]) = .returned (.tuple #[.int .i64 ((q1 + b : Nat) : Int), .bool q2])
    rw [Int.natCast_add, Int.add_comm]
  · by_cases hI : 0 ≤ ib (s.extract b s.size) 32
    · have H := hid (H2.out h34 hI)
      have hle : (we s b).1 ≤ s.size := by
        by_cases h32 : bt s b = 32
        · unfold we; rw [if_neg h34]; exact (fb_spec isb s b (by omega)).2.1
        · exact (we_gt s b hb h32).2
      clear H1 H2 H3 HQ
      generalize we s b = q at *
      generalize ib (s.extract b s.size) 32 = z at *
      obtain ⟨q1, q2⟩ := q
      obtain ⟨rfl⟩ : q2 = true := H.out.2
      have hq1 : q1 ≤ s.size := hle
      have hq : (q1 : Int) = b + z := H.out.1
      have hz : z ≤ 281474976710656 := by omega
      have hq := hid hq
      clear hle H
      go_enter Tryd.func21, Tryd.ntmps21
      go_wp2_with fail
      refine HI.out.mono ?_
      rintro e w1 ⟨rfl, rfl⟩
      clear HI
      go_wp2_with fail
      go_ret2
      refine ⟨?_, Below.refl _ _⟩
      show Ending.returned (.tuple #[.int .i64 ((b : Int) + z), .bool true]) = .returned (.tuple #[.int .i64 (q1 : Int), .bool true])
      rw [hq.out]
    · rw [H3.out h34 (by omega)]
      clear H1 H2 H3 HQ
      generalize ib (s.extract b s.size) 32 = z at *
      go_enter Tryd.func21, Tryd.ntmps21
      go_wp2_with fail
      refine HI.out.mono ?_
      rintro e w1 ⟨rfl, rfl⟩
      clear HI
      go_wp2_with fail
      go_ret2
      exact ⟨rfl, Below.refl _ _⟩
end Go.Proofs.YtcjlgjlediihoabDoor.Sq

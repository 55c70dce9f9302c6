/- Proved: for every internal key and all bytes IkeyBack returns true: Encode answers OK just of a valid one, Decode of Encode is the internal key, Encode of what is decoded is the bytes, and what is refused is the zero value. -/
import Derived.Test.YtbpgifpplnmjmabEb
import Derived.ShutString
import Derived.ChangeOld
import Derived.Below
import Derived.SizedLaws
import Derived.Deep.RegionWith
import Derived.Lib.SmallJoins
namespace Go.Proofs.Ytbpgifpplnmjmab.ikeyBack
open Go.ChangeShapes Go.WideShapes Go.ChangeAt Go.RowKit Go.Joins
open Go.ChangeMaps (open_string shut_string)
set_option linter.unusedVariables false
open Go.Proofs.Ytbpgifpplnmjmab.Kd (size_true)
open Go.Proofs.Ytbpgifpplnmjmab.By
open Go.Proofs.Ytbpgifpplnmjmab.Mr
open Go.Proofs.Ytbpgifpplnmjmab.En

set_option maxHeartbeats 2000000 in
theorem walk_nn (a : ByteArray) (s k : Int) (p : Option Addr) (len cap : Nat) (zs : List Int) (w : World) (ha : a.size ≤ maxLen) (hs : 0 ≤ s) (H : Bytes w p len cap zs) (hcap : len ≤ 281474976710656) (V : vld a s k = false) (X : decB zs = false) :
    Calls Try.prog 3 #[.agg #[.string a, .int .u64 s, .int .i64 k], .slice p len cap] w fun e w' => e = .returned (.bool true) ∧ Below w.heap.size w w' := by
  obtain ⟨W, hW⟩ : ∃ W, W = w.alloc (.cells #[.string a, .int .u64 s, .int .i64 k] 24) := ⟨_, rfl⟩
  have hbW : Below w.heap.size w W := by rw [hW]; exact one_below _ _
  obtain ⟨g, hg⟩ : ∃ g, g = w.heap.size := ⟨_, rfl⟩
  have c1 : W.cell? ⟨g, 0, none⟩ = some (.string a) := by rw [hW, hg]; go_simp
  have c2 : W.cell? ⟨g, 1, none⟩ = some (.int .u64 s) := by rw [hW, hg]; go_simp
  have c3 : W.cell? ⟨g, 2, none⟩ = some (.int .i64 k) := by rw [hW, hg]; go_simp
  have HB : Hid (Below w.heap.size w W) := hbW
  have HW : Hid (w.alloc (.cells #[.string a, .int .u64 s, .int .i64 k] 24) = W) := hW.symm
  have HG : Hid (w.heap.size = g) := hg.symm
  have H0 : Hid (Bytes w p len cap zs) := H
  have M : Hid (a.size ≤ maxLen) := ha
  unfold maxLen at ha
  clear hW hg hbW H
  go_enter Try.func3, Try.ntmps3
  go_wp2_with fail
  rw [HW.out, HG.out]
  refine (encode_no a s k _ M.out hs V).mono ?_
  rintro e w1 ⟨rfl, b1⟩
  have f1 := (b1.cell (block_lt_of_cell c1)).trans c1
  have f2 := (b1.cell (block_lt_of_cell c2)).trans c2
  have f3 := (b1.cell (block_lt_of_cell c3)).trans c3
  have HB1 : Hid (Below w.heap.size w w1) := HB.out.trans (b1.mono HB.out.size)
  clear b1 c1 c2 c3
  go_wp2_with fail
  refine (valid_any a s k _ M.out).mono ?_
  rw [V]
  rintro e w2 ⟨rfl, b2⟩
  have HB2 : Hid (Below w.heap.size w w2) := HB1.out.trans (b2.mono HB1.out.size)
  clear b2 f1 f2 f3
  go_wp2_with fail
  have D := decode_no p len cap zs _ (bytes_kept H0.out HB2.out) hcap X
  refine D.mono ?_
  rintro e w5 ⟨rfl, b5⟩
  have HB5 : Hid (Below w.heap.size w w5) := HB2.out.trans (b5.mono HB2.out.size)
  clear b5
  go_wp2_with fail
  go_ret
  exact ⟨rfl, HB5.out.alloc HB5.out.size _⟩

set_option maxHeartbeats 2000000 in
theorem walk_ny (a : ByteArray) (s k : Int) (p : Option Addr) (len cap : Nat) (zs : List Int) (w : World) (ha : a.size ≤ maxLen) (hs : 0 ≤ s) (H : Bytes w p len cap zs) (hcap : len ≤ 281474976710656) (V : vld a s k = false) (X : decB zs = true) :
    Calls Try.prog 3 #[.agg #[.string a, .int .u64 s, .int .i64 k], .slice p len cap] w fun e w' => e = .returned (.bool true) ∧ Below w.heap.size w w' := by
  obtain ⟨W, hW⟩ : ∃ W, W = w.alloc (.cells #[.string a, .int .u64 s, .int .i64 k] 24) := ⟨_, rfl⟩
  have hbW : Below w.heap.size w W := by rw [hW]; exact one_below _ _
  obtain ⟨g, hg⟩ : ∃ g, g = w.heap.size := ⟨_, rfl⟩
  have c1 : W.cell? ⟨g, 0, none⟩ = some (.string a) := by rw [hW, hg]; go_simp
  have c2 : W.cell? ⟨g, 1, none⟩ = some (.int .u64 s) := by rw [hW, hg]; go_simp
  have c3 : W.cell? ⟨g, 2, none⟩ = some (.int .i64 k) := by rw [hW, hg]; go_simp
  have HB : Hid (Below w.heap.size w W) := hbW
  have HW : Hid (w.alloc (.cells #[.string a, .int .u64 s, .int .i64 k] 24) = W) := hW.symm
  have HG : Hid (w.heap.size = g) := hg.symm
  have H0 : Hid (Bytes w p len cap zs) := H
  have M : Hid (a.size ≤ maxLen) := ha
  unfold maxLen at ha
  clear hW hg hbW H
  go_enter Try.func3, Try.ntmps3
  go_wp2_with fail
  rw [HW.out, HG.out]
  refine (encode_no a s k _ M.out hs V).mono ?_
  rintro e w1 ⟨rfl, b1⟩
  have f1 := (b1.cell (block_lt_of_cell c1)).trans c1
  have f2 := (b1.cell (block_lt_of_cell c2)).trans c2
  have f3 := (b1.cell (block_lt_of_cell c3)).trans c3
  have HB1 : Hid (Below w.heap.size w w1) := HB.out.trans (b1.mono HB.out.size)
  clear b1 c1 c2 c3
  go_wp2_with fail
  refine (valid_any a s k _ M.out).mono ?_
  rw [V]
  rintro e w2 ⟨rfl, b2⟩
  have HB2 : Hid (Below w.heap.size w w2) := HB1.out.trans (b2.mono HB1.out.size)
  clear b2 f1 f2 f3
  go_wp2_with fail
  have D := decode_yes p len cap zs _ (bytes_kept H0.out HB2.out) hcap X
  have DE := dec_enc H0.out.2.2.2.1 X
  rw [H0.out.1] at DE
  obtain ⟨r, hr⟩ : ∃ r, r = str (zs.take (len - 8)) := ⟨_, rfl⟩
  obtain ⟨x, hx⟩ : ∃ x, x = dv zs / 256 := ⟨_, rfl⟩
  obtain ⟨y, hy⟩ : ∃ x, x = dv zs % 256 := ⟨_, rfl⟩
  rw [← hr, ← hx, ← hy] at D DE
  refine D.mono ?_
  rintro e w5 ⟨rfl, b5⟩
  have HB5 : Hid (Below w.heap.size w w5) := HB2.out.trans (b5.mono HB2.out.size)
  obtain ⟨DV, D0, DT, DS⟩ := DE
  have HV : Hid (vld r x y = true) := DV
  have H0x : Hid (0 ≤ x) := D0
  have HT : Hid (tx r ++ lb 8 (x * 256 + y) = zs) := DT
  have HS : Hid (r.size + 8 = len) := DS
  clear b5 D DV D0 DT DS hr hx hy
  go_wp2_with fail
  refine (encode_yes r x y _ (by unfold maxLen; have := HS.out; omega) H0x.out HV.out).mono ?_
  rintro e w6 ⟨g6, rfl, R6, b6⟩
  rw [HS.out, HT.out] at R6
  have HB6 : Hid (Below w.heap.size w w6) := (HB5.out.alloc HB5.out.size _).trans (b6.mono (HB5.out.alloc HB5.out.size _).size)
  have cv1 := R6.conv
  have cv2 := (bytes_kept H0.out HB6.out).conv
  rw [HS.out]
  clear b6 R6
  go_wp2_with fail
  go_ret
  exact ⟨rfl, HB6.out⟩

set_option maxHeartbeats 2000000 in
theorem walk_yn (a : ByteArray) (s k : Int) (p : Option Addr) (len cap : Nat) (zs : List Int) (w : World) (ha : a.size ≤ maxLen) (hs : 0 ≤ s) (H : Bytes w p len cap zs) (hcap : len ≤ 281474976710656) (V : vld a s k = true) (X : decB zs = false) :
    Calls Try.prog 3 #[.agg #[.string a, .int .u64 s, .int .i64 k], .slice p len cap] w fun e w' => e = .returned (.bool true) ∧ Below w.heap.size w w' := by
  obtain ⟨W, hW⟩ : ∃ W, W = w.alloc (.cells #[.string a, .int .u64 s, .int .i64 k] 24) := ⟨_, rfl⟩
  have hbW : Below w.heap.size w W := by rw [hW]; exact one_below _ _
  obtain ⟨g, hg⟩ : ∃ g, g = w.heap.size := ⟨_, rfl⟩
  have c1 : W.cell? ⟨g, 0, none⟩ = some (.string a) := by rw [hW, hg]; go_simp
  have c2 : W.cell? ⟨g, 1, none⟩ = some (.int .u64 s) := by rw [hW, hg]; go_simp
  have c3 : W.cell? ⟨g, 2, none⟩ = some (.int .i64 k) := by rw [hW, hg]; go_simp
  have HB : Hid (Below w.heap.size w W) := hbW
  have HW : Hid (w.alloc (.cells #[.string a, .int .u64 s, .int .i64 k] 24) = W) := hW.symm
  have HG : Hid (w.heap.size = g) := hg.symm
  have H0 : Hid (Bytes w p len cap zs) := H
  have M : Hid (a.size ≤ maxLen) := ha
  unfold maxLen at ha
  clear hW hg hbW H
  go_enter Try.func3, Try.ntmps3
  go_wp2_with fail
  rw [HW.out, HG.out]
  refine (encode_yes a s k _ M.out hs V).mono ?_
  rintro e w1 ⟨g1, rfl, R1, b1⟩
  have HR1 : Hid (Row w1 W.heap.size g1 (a.size + 8) (a.size + 8) (tx a ++ lb 8 (s * 256 + k))) := R1
  have f1 := (b1.cell (block_lt_of_cell c1)).trans c1
  have f2 := (b1.cell (block_lt_of_cell c2)).trans c2
  have f3 := (b1.cell (block_lt_of_cell c3)).trans c3
  have HB1 : Hid (Below w.heap.size w w1) := HB.out.trans (b1.mono HB.out.size)
  clear b1 c1 c2 c3 R1
  go_wp2_with fail
  refine (valid_any a s k _ M.out).mono ?_
  rw [V]
  rintro e w2 ⟨rfl, b2⟩
  have HY2 : Hid (Bytes w2 (some ⟨g1, 0, none⟩) (a.size + 8) (a.size + 8) (tx a ++ lb 8 (s * 256 + k))) := (row_below HR1.out b2).bytes (enc_bytes a _)
  have e1 := (b2.cell (block_lt_of_cell f1)).trans f1
  have e2 := (b2.cell (block_lt_of_cell f2)).trans f2
  have e3 := (b2.cell (block_lt_of_cell f3)).trans f3
  have HB2' : Hid (Below w.heap.size w w2) := HB1.out.trans (b2.mono HB1.out.size)
  clear b2 f1 f2 f3 HR1
  have ED := enc_dec hs V
  have D := decode_yes _ _ _ _ w2 HY2.out (by have := M.out; have := size_true (vld_true V).1; omega) ED.1
  rw [ED.2.1, ED.2.2.1, ED.2.2.2] at D
  have HD : Hid (Calls Try.prog 8 #[.slice (some ⟨g1, 0, none⟩) (a.size + 8) (a.size + 8)] w2 fun e w' => e = .returned (.tuple #[.agg #[.string a, .int .u64 s, .int .i64 k], .int .i64 0]) ∧ Below w2.heap.size w2 w') := D
  clear D ED HY2
  have hl := size_true (vld_true V).1
  go_wp2_with fail
  refine HD.out.mono ?_
  rintro e w3 ⟨rfl, b3⟩
  have d1 := (b3.cell (block_lt_of_cell e1)).trans e1
  have d2 := (b3.cell (block_lt_of_cell e2)).trans e2
  have d3 := (b3.cell (block_lt_of_cell e3)).trans e3
  have HB3 : Hid (Below w.heap.size w w3) := HB2'.out.trans (b3.mono HB2'.out.size)
  have hlt : g < w3.heap.size := block_lt_of_cell d1
  have hne : w3.heap.size ≠ g := by omega
  clear b3 HD e1 e2 e3
  go_wp2_with fail
  obtain ⟨W4, hW4⟩ : ∃ W4, W4 = w3.alloc (.cells #[.string a, .int .u64 s, .int .i64 k] 24) := ⟨_, rfl⟩
  have HB2 : Hid (Below w.heap.size w W4) := by rw [hW4]; exact HB3.out.alloc HB3.out.size _
  rw [← hW4]
  clear hW4 d1 d2 d3 hlt hne
  have D := decode_no p len cap zs _ (bytes_kept H0.out HB2.out) hcap X
  refine D.mono ?_
  rintro e w5 ⟨rfl, b5⟩
  have HB5 : Hid (Below w.heap.size w w5) := HB2.out.trans (b5.mono HB2.out.size)
  clear b5
  go_wp2_with fail
  go_ret
  exact ⟨rfl, HB5.out.alloc HB5.out.size _⟩

set_option maxHeartbeats 2000000 in
theorem walk_yy (a : ByteArray) (s k : Int) (p : Option Addr) (len cap : Nat) (zs : List Int) (w : World) (ha : a.size ≤ maxLen) (hs : 0 ≤ s) (H : Bytes w p len cap zs) (hcap : len ≤ 281474976710656) (V : vld a s k = true) (X : decB zs = true) :
    Calls Try.prog 3 #[.agg #[.string a, .int .u64 s, .int .i64 k], .slice p len cap] w fun e w' => e = .returned (.bool true) ∧ Below w.heap.size w w' := by
  obtain ⟨W, hW⟩ : ∃ W, W = w.alloc (.cells #[.string a, .int .u64 s, .int .i64 k] 24) := ⟨_, rfl⟩
  have hbW : Below w.heap.size w W := by rw [hW]; exact one_below _ _
  obtain ⟨g, hg⟩ : ∃ g, g = w.heap.size := ⟨_, rfl⟩
  have c1 : W.cell? ⟨g, 0, none⟩ = some (.string a) := by rw [hW, hg]; go_simp
  have c2 : W.cell? ⟨g, 1, none⟩ = some (.int .u64 s) := by rw [hW, hg]; go_simp
  have c3 : W.cell? ⟨g, 2, none⟩ = some (.int .i64 k) := by rw [hW, hg]; go_simp
  have HB : Hid (Below w.heap.size w W) := hbW
  have HW : Hid (w.alloc (.cells #[.string a, .int .u64 s, .int .i64 k] 24) = W) := hW.symm
  have HG : Hid (w.heap.size = g) := hg.symm
  have H0 : Hid (Bytes w p len cap zs) := H
  have M : Hid (a.size ≤ maxLen) := ha
  unfold maxLen at ha
  clear hW hg hbW H
  go_enter Try.func3, Try.ntmps3
  go_wp2_with fail
  rw [HW.out, HG.out]
  refine (encode_yes a s k _ M.out hs V).mono ?_
  rintro e w1 ⟨g1, rfl, R1, b1⟩
  have HR1 : Hid (Row w1 W.heap.size g1 (a.size + 8) (a.size + 8) (tx a ++ lb 8 (s * 256 + k))) := R1
  have f1 := (b1.cell (block_lt_of_cell c1)).trans c1
  have f2 := (b1.cell (block_lt_of_cell c2)).trans c2
  have f3 := (b1.cell (block_lt_of_cell c3)).trans c3
  have HB1 : Hid (Below w.heap.size w w1) := HB.out.trans (b1.mono HB.out.size)
  clear b1 c1 c2 c3 R1
  go_wp2_with fail
  refine (valid_any a s k _ M.out).mono ?_
  rw [V]
  rintro e w2 ⟨rfl, b2⟩
  have HY2 : Hid (Bytes w2 (some ⟨g1, 0, none⟩) (a.size + 8) (a.size + 8) (tx a ++ lb 8 (s * 256 + k))) := (row_below HR1.out b2).bytes (enc_bytes a _)
  have e1 := (b2.cell (block_lt_of_cell f1)).trans f1
  have e2 := (b2.cell (block_lt_of_cell f2)).trans f2
  have e3 := (b2.cell (block_lt_of_cell f3)).trans f3
  have HB2' : Hid (Below w.heap.size w w2) := HB1.out.trans (b2.mono HB1.out.size)
  clear b2 f1 f2 f3 HR1
  have ED := enc_dec hs V
  have D := decode_yes _ _ _ _ w2 HY2.out (by have := M.out; have := size_true (vld_true V).1; omega) ED.1
  rw [ED.2.1, ED.2.2.1, ED.2.2.2] at D
  have HD : Hid (Calls Try.prog 8 #[.slice (some ⟨g1, 0, none⟩) (a.size + 8) (a.size + 8)] w2 fun e w' => e = .returned (.tuple #[.agg #[.string a, .int .u64 s, .int .i64 k], .int .i64 0]) ∧ Below w2.heap.size w2 w') := D
  clear D ED HY2
  have hl := size_true (vld_true V).1
  go_wp2_with fail
  refine HD.out.mono ?_
  rintro e w3 ⟨rfl, b3⟩
  have d1 := (b3.cell (block_lt_of_cell e1)).trans e1
  have d2 := (b3.cell (block_lt_of_cell e2)).trans e2
  have d3 := (b3.cell (block_lt_of_cell e3)).trans e3
  have HB3 : Hid (Below w.heap.size w w3) := HB2'.out.trans (b3.mono HB2'.out.size)
  have hlt : g < w3.heap.size := block_lt_of_cell d1
  have hne : w3.heap.size ≠ g := by omega
  clear b3 HD e1 e2 e3
  go_wp2_with fail
  obtain ⟨W4, hW4⟩ : ∃ W4, W4 = w3.alloc (.cells #[.string a, .int .u64 s, .int .i64 k] 24) := ⟨_, rfl⟩
  have HB2 : Hid (Below w.heap.size w W4) := by rw [hW4]; exact HB3.out.alloc HB3.out.size _
  rw [← hW4]
  clear hW4 d1 d2 d3 hlt hne
  have D := decode_yes p len cap zs _ (bytes_kept H0.out HB2.out) hcap X
  have DE := dec_enc H0.out.2.2.2.1 X
  rw [H0.out.1] at DE
  obtain ⟨r, hr⟩ : ∃ r, r = str (zs.take (len - 8)) := ⟨_, rfl⟩
  obtain ⟨x, hx⟩ : ∃ x, x = dv zs / 256 := ⟨_, rfl⟩
  obtain ⟨y, hy⟩ : ∃ x, x = dv zs % 256 := ⟨_, rfl⟩
  rw [← hr, ← hx, ← hy] at D DE
  refine D.mono ?_
  rintro e w5 ⟨rfl, b5⟩
  have HB5 : Hid (Below w.heap.size w w5) := HB2.out.trans (b5.mono HB2.out.size)
  obtain ⟨DV, D0, DT, DS⟩ := DE
  have HV : Hid (vld r x y = true) := DV
  have H0x : Hid (0 ≤ x) := D0
  have HT : Hid (tx r ++ lb 8 (x * 256 + y) = zs) := DT
  have HS : Hid (r.size + 8 = len) := DS
  clear b5 D DV D0 DT DS hr hx hy
  go_wp2_with fail
  refine (encode_yes r x y _ (by unfold maxLen; have := HS.out; omega) H0x.out HV.out).mono ?_
  rintro e w6 ⟨g6, rfl, R6, b6⟩
  rw [HS.out, HT.out] at R6
  have HB6 : Hid (Below w.heap.size w w6) := (HB5.out.alloc HB5.out.size _).trans (b6.mono (HB5.out.alloc HB5.out.size _).size)
  have cv1 := R6.conv
  have cv2 := (bytes_kept H0.out HB6.out).conv
  rw [HS.out]
  clear b6 R6
  go_wp2_with fail
  go_ret
  exact ⟨rfl, HB6.out⟩

theorem walk (a : ByteArray) (s k : Int) (p : Option Addr) (len cap : Nat) (zs : List Int) (w : World) (ha : a.size ≤ maxLen) (hs : 0 ≤ s ∧ s ≤ 18446744073709551615) (hk : -9223372036854775808 ≤ k ∧ k ≤ 9223372036854775807) (H : Bytes w p len cap zs) (hc : cap ≤ 140737488351232) :
    Calls Try.prog 3 #[.agg #[.string a, .int .u64 s, .int .i64 k], .slice p len cap] w fun e w' => e = .returned (.bool true) ∧ Below w.heap.size w w' := by
  have hl : len ≤ 281474976710656 := by have := H.2.1; omega
  cases V : vld a s k <;> cases X : decB zs
  · exact walk_nn a s k p len cap zs w ha hs.1 H hl V X
  · exact walk_ny a s k p len cap zs w ha hs.1 H hl V X
  · exact walk_yn a s k p len cap zs w ha hs.1 H hl V X
  · exact walk_yy a s k p len cap zs w ha hs.1 H hl V X

theorem own : ownKnob Try.prog.godebug = none := by kernel_rfl
theorem laidOut : laidOutB Try.prog = true := by kernel_rfl
theorem bytes5 : Try.prog.bytesOf 5 = 1 := by kernel_rfl
theorem u8_bd {y : Int} (h : (Lit.int .u8 y).wf = true) : 0 ≤ y ∧ y ≤ 255 := by
  simpa [Lit.wf, IntKind.min, IntKind.max, IntKind.signed, IntKind.bits] using h
theorem u64_bd {v : Int} (h : (Lit.int .u64 v).wf = true) : 0 ≤ v ∧ v ≤ 18446744073709551615 := by
  simpa [Lit.wf, IntKind.min, IntKind.max, IntKind.signed, IntKind.bits] using h
theorem i64_bd {v : Int} (h : (Lit.int .i64 v).wf = true) : -9223372036854775808 ≤ v ∧ v ≤ 9223372036854775807 := by
  simpa [Lit.wf, IntKind.min, IntKind.max, IntKind.signed, IntKind.bits] using h
theorem cells24 : Try.prog.cellsOf 24 = 3 := by kernel_rfl

/-! ### The row's step -/
set_option maxRecDepth 100000 in
theorem lifted (os : Os) (started : os.Started) (H : Type) (enc : TypeId × Value → H) :
    ReturnsInHanded {} Try.checked os 3 .any (Rows.ikeyBackSpec.pre6 enc Try.prog Try.f3 Rows.ikeyBackRow.domain false) (Rows.ikeyBackSpec.post enc Try.prog Try.f3 false true false false) := by
  refine returnsInHanded_of_change_sized (C := Try.checked) own started (by kernel_rfl) Try.func3
    (ChangeSpec.witness6 (enc := enc) (C := Try.checked) false ⟨#[], #[.agg #[.string ByteArray.empty, .int .u64 0, .int .i64 0], .slice none 0 0], []⟩ 8 (by kernel_rfl) (by kernel_rfl) (by kernel_rfl) (by kernel_rfl)) ?_
  intro W base args ds gs before hval0 hW hcnd hsz0 _
  have hval : ∀ (j : Nat) t v, Try.f3.params[j]? = some t → args[j]? = some v → Value.okWide Try.prog W .any base t v := hval0
  have hsz : (DataW.weightsEach Try.prog (Try.f3.params.toList ++ Rows.ikeyBackSpec.plain.varTypes Try.prog) (ds ++ gs)).all (· ≤ reachBytes) = true := hsz0
  have hW' := hW
  obtain ⟨p, q, hA0, hV, rfl, hfz, hnd⟩ := hW
  have hA : DataW.TrodAll enc Try.prog W 0 (fun _ => true) true Try.f3.params.toList args.toList ds p := hA0
  rw [Try.params3] at hA hval hsz
  obtain ⟨v0, vs0, d0, ds0, p0, q0, hargs, rfl, rfl, h0, r0⟩ := trodAll_cons hA
  obtain ⟨v1, vs1, d1, ds1, p1, q1, rfl, rfl, rfl, h1, r1⟩ := trodAll_cons r0
  obtain ⟨rfl, rfl, rfl⟩ := trodAll_nil r1
  obtain rfl : args = #[v0, v1] := by cases args; simp_all
  obtain ⟨rfl, rfl⟩ := trodVars_none hV
  have k0 := h0
  have lt0 : ∀ x ∈ p0, x.block < W.heap.size := by obtain ⟨m, hm⟩ := k0; exact DataW.trod_lt m _ _ _ hm
  obtain ⟨c00, c01, c02, y00, y01, y02, m0, rfl, hd0, hp0, hy00, hy01, hy02⟩ := open_agg3 Try.underlying24 (by kernel_rfl) cells24 (hval 0 24 v0 rfl rfl) h0
  obtain ⟨a00, e00, f00, w00⟩ := DataW.trod_string Try.underlying9 hy00
  obtain ⟨a01, e01, f01, w01⟩ := DataW.trod_int Try.underlying22 hy01
  obtain ⟨a02, e02, f02, w02⟩ := DataW.trod_int Try.underlying3 hy02
  simp only [List.cons.injEq, and_true] at e00 e01 e02
  subst e00 e01 e02
  obtain ⟨a1, len1, cap1, rfl⟩ := okWide_slice Try.underlying25 (hval 1 25 v1 rfl rfl)
  have k1 := h1
  have lt1 : ∀ x ∈ p1, x.block < W.heap.size := by obtain ⟨m, hm⟩ := k1; exact DataW.trod_lt m _ _ _ hm
  obtain ⟨z1, w1, c1⟩ : ∃ zs, By.Bytes W a1 len1 cap1 zs ∧ cap1 ≤ 140737488351232 := by
    obtain ⟨fuel, hf⟩ := h1
    rcases open_ints Try.underlying25 Try.underlying5 (by kernel_rfl) hf with ⟨hcs, _⟩ | ⟨x, l, c, zs, hcs, _, hl, hm, hz, hx, hcell, hwz⟩
    · simp [Value.cells] at hcs
      obtain ⟨rfl, rfl, rfl⟩ := hcs
      exact ⟨[], By.nil_bytes W, by omega⟩
    · simp [Value.cells] at hcs
      obtain ⟨rfl, rfl, rfl⟩ := hcs
      have hd : d1 = .slice (lits .u8 (zs.take len1)) (lits .u8 (zs.drop len1)) := (Prod.mk.inj hx).1
      have hz' : zs.length = cap1 := by simpa using hz
      have sz := sized_slice hsz (j := 1) (t := 25) (e := 5) rfl (by rw [hd]; rfl) Try.underlying25
      rw [bytes5] at sz
      simp only [lits, List.length_map, List.length_take, List.length_drop, reachBytes] at sz
      refine ⟨zs.take len1, ⟨by rw [List.length_take]; omega, hl, fun e => by simp at e, fun y hy => u8_bd (hwz y (List.mem_of_mem_take hy)), ?_⟩, by omega⟩
      intro x' hx' j hj
      simp at hx'
      subst hx'
      rw [hcell j (by omega)]
      simp [List.getD_eq_getElem?_getD, hj]
  clear hA0 hval0
  refine (walk a00 a01 a02 a1 len1 cap1 z1 W w00 (u64_bd w01) (i64_bd w02) w1 c1).mono fun e W' ⟨he, bel⟩ => ?_
  subst he
  exact ⟨_, rfl, _, _, _, [], _, [], hW', trodAll_mk1 (shut_bool Try.underlying4 _), (trodAll_cons_mk (Below.trod laidOut (by kernel_rfl) (of_decide_eq_true (by kernel_rfl)) k0 bel lt0) (trodAll_cons_mk (Below.trod laidOut (by kernel_rfl) (of_decide_eq_true (by kernel_rfl)) k1 bel lt1) trodAll_mk0)), rfl, bel.frame _, fun h => by cases h⟩

theorem over : Rows.ikeyBackRow.holds Try.pinned (OpenSpec.ofChange Rows.ikeyBackSpec) :=
  OpenClaim.holds_of_wide 3 Try.f3 rfl rfl rfl rfl rfl rfl rfl ⟨rfl, rfl, rfl, rfl, rfl⟩ rfl rfl rfl rfl rfl (by kernel_rfl) Try.func3 (by kernel_rfl)
    (of_decide_eq_true (by kernel_rfl)) (by unfold Func.isWrapper; first | (rw [if_pos (by decide +kernel)]; kernel_rfl) | (rw [if_neg (by decide +kernel)]; exact ⟨rfl, rfl⟩))
    (fun os started H enc _ => lifted os started H enc)
end Go.Proofs.Ytbpgifpplnmjmab.ikeyBack
namespace Go.Proofs.Ytbpgifpplnmjmab
theorem ikeyBack_holds : Rows.IkeyBackSaid := ikeyBack.over
#print axioms ikeyBack_holds
end Go.Proofs.Ytbpgifpplnmjmab

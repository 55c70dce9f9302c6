/- Encode and Decode of the program, and Valid: what they answer, where the answer lies. -/
import Derived.Test.YtkanjbeijoeenaaMr
import Derived.Test.YtkanjbeijoeenaaCp
import Derived.Test.YtkanjbeijoeenaaCt
import Derived.Test.YtkanjbeijoeenaaKd
namespace Go.Proofs.Ytkanjbeijoeenaa.En
open Go.ChangeShapes Go.WideShapes Go.ChangeAt Go.RowKit
open Go.Proofs.Ytkanjbeijoeenaa.Kd (kindB sizeB seqB kind_true kind_false size_true size_false seq_true seq_false ret_bool isSeq_any isKeySize_any isKind_any pk pkE pack_any un0 un1 unE unpack_any)
open Go.Proofs.Ytkanjbeijoeenaa.By
open Go.Proofs.Ytkanjbeijoeenaa.Mr
set_option linter.unusedVariables false

theorem Row_mono {w : World} {base base' g n cap : Nat} {xs : List Int} (h : Row w base g n cap xs) (hb : base' ≤ base) : Row w base' g n cap xs := by
  refine ⟨h.1, ?_⟩
  rcases h.2 with ⟨e, h'⟩ | ⟨g', cap', cur, e, h1, h2⟩
  · exact .inl ⟨e, h'⟩
  · exact .inr ⟨g', cap', cur, e, Nat.le_trans hb h1, h2⟩
theorem one_below (w : World) (o : Obj) : Below w.heap.size w (w.alloc o) := (Below.refl _ _).alloc (Nat.le_refl _) _

/-- What Valid answers. -/
def vld (a : ByteArray) (s k : Int) : Bool := sizeB (a.size : Int) && seqB s && kindB k
theorem vld_true {a : ByteArray} {s k : Int} (h : vld a s k = true) : sizeB (a.size : Int) = true ∧ seqB s = true ∧ kindB k = true := by
  unfold vld at h; simp only [Bool.and_eq_true] at h; exact ⟨h.1.1, h.1.2, h.2⟩
theorem vld_false {a : ByteArray} {s k : Int} (h : vld a s k = false) : sizeB (a.size : Int) = false ∨ (sizeB (a.size : Int) = true ∧ pkE s k = 2) := by
  unfold vld at h
  cases h1 : sizeB (a.size : Int)
  · exact .inl rfl
  · refine .inr ⟨rfl, ?_⟩
    unfold pkE
    rw [if_neg]
    rintro ⟨h2, h3⟩
    simp [h1, h2, h3] at h
theorem pk_of {a : ByteArray} {s k : Int} (h : vld a s k = true) : pk s k = s * 256 + k ∧ pkE s k = 0 := by
  obtain ⟨_, h2, h3⟩ := vld_true h
  unfold pk pkE
  rw [if_pos ⟨h2, h3⟩, if_pos ⟨h2, h3⟩]
  exact ⟨rfl, rfl⟩

theorem valid_any (a : ByteArray) (s k : Int) (w : World) (ha : a.size ≤ maxLen) :
    Calls Try.prog 51 #[.agg #[.string a, .int .u64 s, .int .i64 k]] w fun e w' => e = .returned (.bool (vld a s k)) ∧ Below w.heap.size w w' := by
  unfold maxLen at ha
  cases h1 : sizeB (a.size : Int)
  · have E : Hid (false = vld a s k) := by show _ = _; unfold vld; simp [h1]
    go_enter Try.func51, Try.ntmps51
    go_wp2_with fail
    refine (isKeySize_any _ _).mono ?_
    rw [h1]
    rintro e w' ⟨rfl, rfl⟩
    go_wp2_with fail
    go_ret
    exact ⟨ret_bool E.out, one_below _ _⟩
  · cases h2 : seqB s
    · have E : Hid (false = vld a s k) := by show _ = _; unfold vld; simp [h2]
      go_enter Try.func51, Try.ntmps51
      go_wp2_with fail
      refine (isKeySize_any _ _).mono ?_
      rw [h1]
      rintro e w' ⟨rfl, rfl⟩
      go_wp2_with fail
      refine (isSeq_any _ _).mono ?_
      rw [h2]
      rintro e w' ⟨rfl, rfl⟩
      go_wp2_with fail
      go_ret
      exact ⟨ret_bool E.out, one_below _ _⟩
    · have E : Hid (kindB k = vld a s k) := by show _ = _; unfold vld; simp [h1, h2]
      go_enter Try.func51, Try.ntmps51
      go_wp2_with fail
      refine (isKeySize_any _ _).mono ?_
      rw [h1]
      rintro e w' ⟨rfl, rfl⟩
      go_wp2_with fail
      refine (isSeq_any _ _).mono ?_
      rw [h2]
      rintro e w' ⟨rfl, rfl⟩
      go_wp2_with fail
      refine (isKind_any _ _).mono ?_
      rintro e w' ⟨rfl, rfl⟩
      go_wp2_with fail
      go_ret
      exact ⟨ret_bool E.out, one_below _ _⟩
theorem encode_no (a : ByteArray) (s k : Int) (w : World) (ha : a.size ≤ maxLen) (hs : 0 ≤ s) (h : vld a s k = false) :
    Calls Try.prog 37 #[.agg #[.string a, .int .u64 s, .int .i64 k]] w fun e w' => e = .returned (.tuple #[.slice none 0 0, .int .i64 2]) ∧ Below w.heap.size w w' := by
  unfold maxLen at ha
  rcases vld_false h with h1 | ⟨h1, h2⟩
  · clear h
    go_enter Try.func37, Try.ntmps37
    go_wp2_with fail
    refine (isKeySize_any _ _).mono ?_
    rw [h1]
    rintro e w' ⟨rfl, rfl⟩
    go_wp2_with fail
    go_ret2
    exact ⟨rfl, one_below _ _⟩
  · clear h
    have HP := fun w => pack_any s k hs w
    rw [h2] at HP
    generalize pk s k = p at HP
    have HP' : Hid (∀ w, Calls Try.prog 58 #[.int .u64 s, .int .i64 k] w fun e w' => e = .returned (.tuple #[.int .u64 p, .int .i64 2]) ∧ w' = w) := HP
    clear HP h2
    go_enter Try.func37, Try.ntmps37
    go_wp2_with fail
    refine (isKeySize_any _ _).mono ?_
    rw [h1]
    rintro e w' ⟨rfl, rfl⟩
    go_wp2_with fail
    refine (HP'.out _).mono ?_
    rintro e w' ⟨rfl, rfl⟩
    go_wp2_with fail
    go_ret2
    exact ⟨rfl, one_below _ _⟩

set_option maxHeartbeats 1000000 in
theorem encode_yes (a : ByteArray) (s k : Int) (w : World) (ha : a.size ≤ maxLen) (hs : 0 ≤ s) (h : vld a s k = true) :
    Calls Try.prog 37 #[.agg #[.string a, .int .u64 s, .int .i64 k]] w fun e w' => ∃ g, e = .returned (.tuple #[.slice (some ⟨g, 0, none⟩) (a.size + 8) (a.size + 8), .int .i64 0]) ∧ Row w' w.heap.size g (a.size + 8) (a.size + 8) (tx a ++ lb 8 (s * 256 + k)) ∧ Below w.heap.size w w' := by
  unfold maxLen at ha
  obtain ⟨h1, h2, h3⟩ := vld_true h
  obtain ⟨p1, p2⟩ := pk_of h
  have hsz := size_true h1
  have hsq := seq_true h2
  have hkd := kind_true h3
  have HP := fun w => pack_any s k hs w
  rw [p1, p2] at HP
  obtain ⟨p, hp⟩ : ∃ p, p = s * 256 + k := ⟨_, rfl⟩
  have hpb : 0 ≤ p ∧ p ≤ 18446744073709551615 := by omega
  rw [← hp] at HP ⊢
  have HP' : Hid (∀ w, Calls Try.prog 58 #[.int .u64 s, .int .i64 k] w fun e w' => e = .returned (.tuple #[.int .u64 p, .int .i64 0]) ∧ w' = w) := HP
  obtain ⟨W1, hW1⟩ : ∃ W1, W1 = w.alloc (.cells #[.string a, .int .u64 s, .int .i64 k] 36) := ⟨_, rfl⟩
  obtain ⟨W2, cap, run2, row2, b2, z2, c2⟩ := conv_bytes a W1 (by unfold maxLen; omega)
  have hb1 : Below w.heap.size w W1 := by rw [hW1]; exact one_below _ _
  have B : Bytes W2 (some ⟨W1.heap.size, 0, none⟩) a.size cap (tx a) := by
    have := row2.bytes (tx_bytes a)
    rwa [tx_len] at this
  have HB : Hid (Bytes W2 (some ⟨W1.heap.size, 0, none⟩) a.size cap (tx a)) := B
  have hb2 : Below w.heap.size w W2 := hb1.trans (b2.mono hb1.size)
  have HB2 : Hid (Below w.heap.size w W2) := hb2
  have n2 : a.size + 8 ≤ 281474976710656 := by omega
  have hz1 : W1.heap.size = w.heap.size + 1 := by rw [hW1]; simp
  rw [hz1] at run2 HB
  rw [hW1] at run2
  have N2 : Hid (a.size + 8 ≤ 281474976710656 ∧ 0 ≤ p ∧ p ≤ 18446744073709551615) := ⟨n2, hpb⟩
  clear HP h h2 h3 p1 p2 hsz hsq hkd hp hpb hW1 row2 b2 z2 c2 hb1 B hb2 n2 hz1
  go_enter Try.func37, Try.ntmps37
  go_wp2_with fail
  refine (isKeySize_any _ _).mono ?_
  rw [h1]
  rintro e w' ⟨rfl, rfl⟩
  go_wp2_with fail
  refine (HP'.out _).mono ?_
  rintro e w' ⟨rfl, rfl⟩
  go_wp2_with fail
  refine (putf64_any _ a.size cap (tx a) p _ HB.out N2.out.2 N2.out.1).mono ?_
  rintro e w3 ⟨rfl, R, b3⟩
  have HR : Hid (Row w3 w.heap.size W2.heap.size (a.size + 8) (a.size + 8) (tx a ++ lb 8 p)) := Row_mono R HB2.out.size
  have HB3 : Hid (Below w.heap.size w w3) := HB2.out.trans (b3.mono HB2.out.size)
  clear R b3
  go_wp2_with fail
  go_ret2
  exact ⟨_, rfl, HR.out, HB3.out⟩

/-! ### Decode -/
def dv (zs : List Int) : Int := Fx.le (zs.drop (zs.length - 8))
def decB (zs : List Int) : Bool := decide (9 ≤ zs.length ∧ zs.length ≤ 1032) && kindB (dv zs % 256)
theorem retA {a b : ByteArray} {s s' k k' e e' : Int} (h1 : a = b) (h2 : s = s') (h3 : k = k') (h4 : e = e') : Ending.returned (.tuple #[.agg #[.string a, .int .u64 s, .int .i64 k], .int .i64 e]) = .returned (.tuple #[.agg #[.string b, .int .u64 s', .int .i64 k'], .int .i64 e']) := by
  rw [h1, h2, h3, h4]
theorem dv_bd (zs : List Int) (hb : ∀ y ∈ zs, 0 ≤ y ∧ y ≤ 255) (hl : 8 ≤ zs.length) : 0 ≤ dv zs ∧ dv zs ≤ 18446744073709551615 := by
  have h := Fx.le_bd (zs.drop (zs.length - 8)) (fun y hy => hb y (List.mem_of_mem_drop hy))
  have e : (zs.drop (zs.length - 8)).length = 8 := by rw [List.length_drop]; omega
  rw [e] at h
  have : (256 : Int) ^ 8 = 18446744073709551616 := by decide
  unfold dv
  omega
theorem fread_dv (zs : List Int) (hl : 8 ≤ zs.length) : Fx.fread zs ((zs.length : Int) - 8) 8 = (dv zs, (zs.length : Int), 0) := by
  unfold Fx.fread dv
  rw [if_neg (by omega), if_neg (by omega)]
  have e1 : ((zs.length : Int) - 8).toNat = zs.length - 8 := by omega
  have e2 : (zs.drop (zs.length - 8)).length = 8 := by rw [List.length_drop]; omega
  rw [e1, List.take_of_length_le (by omega)]
  congr 2
  omega
theorem dec_false {zs : List Int} (h : decB zs = false) : zs.length < 8 ∨ (8 ≤ zs.length ∧ sizeB ((zs.length : Int) - 8) = false) ∨ (8 ≤ zs.length ∧ sizeB ((zs.length : Int) - 8) = true ∧ kindB (dv zs % 256) = false) := by
  unfold decB at h
  by_cases h1 : zs.length < 8
  · exact .inl h1
  · cases h2 : sizeB ((zs.length : Int) - 8)
    · exact .inr (.inl ⟨by omega, rfl⟩)
    · have := size_true h2
      refine .inr (.inr ⟨by omega, rfl, ?_⟩)
      have e : decide (9 ≤ zs.length ∧ zs.length ≤ 1032) = true := decide_eq_true (by omega)
      rw [e] at h
      simpa using h
theorem dec_true {zs : List Int} (h : decB zs = true) : 9 ≤ zs.length ∧ zs.length ≤ 1032 ∧ sizeB ((zs.length : Int) - 8) = true ∧ kindB (dv zs % 256) = true := by
  unfold decB at h
  rw [Bool.and_eq_true, decide_eq_true_eq] at h
  refine ⟨h.1.1, h.1.2, ?_, h.2⟩
  unfold sizeB
  exact decide_eq_true (by omega)

set_option maxHeartbeats 1000000 in
theorem decode_no (a : Option Addr) (len cap : Nat) (zs : List Int) (w : World) (H : Bytes w a len cap zs) (hcap : len ≤ 281474976710656) (h : decB zs = false) :
    Calls Try.prog 60 #[.slice a len cap] w fun e w' => e = .returned (.tuple #[.agg #[.string ⟨#[]⟩, .int .u64 0, .int .i64 0], .int .i64 30]) ∧ Below w.heap.size w w' := by
  have hz := H.1
  have F : ∀ w1, Below w.heap.size w w1 → Calls Try.prog 74 #[.slice a len cap, .int .i64 ((len : Int) - 8)] w1 fun e w' => e = .returned (.tuple #[.int .u64 (Fx.fread zs ((len : Int) - 8) 8).1, .int .i64 (Fx.fread zs ((len : Int) - 8) 8).2.1, .int .i64 (Fx.fread zs ((len : Int) - 8) 8).2.2]) ∧ w' = w1 :=
    fun w1 hb => fixed64_any a len cap zs _ w1 (bytes_kept H hb) hcap
  rcases dec_false h with h1 | ⟨h1, h2⟩ | ⟨h1, h2, h3⟩
  · have e : Fx.fread zs ((len : Int) - 8) 8 = (0, 0, 2) := by
      unfold Fx.fread
      rw [if_pos (by omega)]
    rw [e] at F
    have HF : Hid (∀ w1, Below w.heap.size w w1 → Calls Try.prog 74 #[.slice a len cap, .int .i64 ((len : Int) - 8)] w1 fun e w' => e = .returned (.tuple #[.int .u64 0, .int .i64 0, .int .i64 2]) ∧ w' = w1) := F
    clear F e h H hz h1
    go_enter Try.func60, Try.ntmps60
    go_wp2_with fail
    refine (HF.out _ (one_below _ _)).mono ?_
    rintro e w' ⟨rfl, rfl⟩
    go_wp2_with fail
    exact bodyPost_ret (v := .tuple #[.agg #[.string ⟨#[]⟩, .int .u64 0, .int .i64 0], .int .i64 30]) (by simp [results, Try.results60, go_sem]) rfl ⟨rfl, one_below _ _⟩
  · have e := fread_dv zs h1
    rw [hz] at e h2
    rw [e] at F
    have HF : Hid (∀ w1, Below w.heap.size w w1 → Calls Try.prog 74 #[.slice a len cap, .int .i64 ((len : Int) - 8)] w1 fun e w' => e = .returned (.tuple #[.int .u64 (dv zs), .int .i64 (len : Int), .int .i64 0]) ∧ w' = w1) := F
    clear F e h H hz h1
    generalize dv zs = v at HF
    go_enter Try.func60, Try.ntmps60
    go_wp2_with fail
    refine (HF.out _ (one_below _ _)).mono ?_
    rintro e w' ⟨rfl, rfl⟩
    go_wp2_with fail
    refine (isKeySize_any _ _).mono ?_
    rw [h2]
    rintro e w' ⟨rfl, rfl⟩
    go_wp2_with fail
    exact bodyPost_ret (v := .tuple #[.agg #[.string ⟨#[]⟩, .int .u64 0, .int .i64 0], .int .i64 30]) (by simp [results, Try.results60, go_sem]) rfl ⟨rfl, one_below _ _⟩
  · have e := fread_dv zs h1
    rw [hz] at e h2
    rw [e] at F
    have HF : Hid (∀ w1, Below w.heap.size w w1 → Calls Try.prog 74 #[.slice a len cap, .int .i64 ((len : Int) - 8)] w1 fun e w' => e = .returned (.tuple #[.int .u64 (dv zs), .int .i64 (len : Int), .int .i64 0]) ∧ w' = w1) := F
    have hd := dv_bd zs H.2.2.2.1 h1
    clear F e h H hz h1
    generalize dv zs = v at HF hd h3
    have U := fun w => unpack_any v hd.1 hd.2 w
    have e0 : un0 v = 0 ∧ un1 v = 0 ∧ unE v = 30 := by unfold un0 un1 unE; simp [h3]
    rw [e0.1, e0.2.1, e0.2.2] at U
    have HU : Hid (∀ w, Calls Try.prog 75 #[.int .u64 v] w fun e w' => e = .returned (.tuple #[.int .u64 0, .int .i64 0, .int .i64 30]) ∧ w' = w) := U
    clear U e0 h3
    go_enter Try.func60, Try.ntmps60
    go_wp2_with fail
    refine (HF.out _ (one_below _ _)).mono ?_
    rintro e w' ⟨rfl, rfl⟩
    go_wp2_with fail
    refine (isKeySize_any _ _).mono ?_
    rw [h2]
    rintro e w' ⟨rfl, rfl⟩
    go_wp2_with fail
    refine (HU.out _).mono ?_
    rintro e w' ⟨rfl, rfl⟩
    go_wp2_with fail
    exact bodyPost_ret (v := .tuple #[.agg #[.string ⟨#[]⟩, .int .u64 0, .int .i64 0], .int .i64 30]) (by simp [results, Try.results60, go_sem]) rfl ⟨rfl, one_below _ _⟩

set_option maxHeartbeats 1000000 in
theorem decode_yes (a : Option Addr) (len cap : Nat) (zs : List Int) (w : World) (H : Bytes w a len cap zs) (hcap : len ≤ 281474976710656) (h : decB zs = true) :
    Calls Try.prog 60 #[.slice a len cap] w fun e w' => e = .returned (.tuple #[.agg #[.string (str (zs.take (len - 8))), .int .u64 (dv zs / 256), .int .i64 (dv zs % 256)], .int .i64 0]) ∧ Below w.heap.size w w' := by
  obtain ⟨h1, h1', h2, h3⟩ := dec_true h
  have hz := H.1
  have hlc := H.2.1
  have F : ∀ w1, Below w.heap.size w w1 → Calls Try.prog 74 #[.slice a len cap, .int .i64 ((len : Int) - 8)] w1 fun e w' => e = .returned (.tuple #[.int .u64 (Fx.fread zs ((len : Int) - 8) 8).1, .int .i64 (Fx.fread zs ((len : Int) - 8) 8).2.1, .int .i64 (Fx.fread zs ((len : Int) - 8) 8).2.2]) ∧ w' = w1 :=
    fun w1 hb => fixed64_any a len cap zs _ w1 (bytes_kept H hb) hcap
  have e := fread_dv zs (by omega)
  rw [hz] at e h2
  rw [e] at F
  have HF : Hid (∀ w1, Below w.heap.size w w1 → Calls Try.prog 74 #[.slice a len cap, .int .i64 ((len : Int) - 8)] w1 fun e w' => e = .returned (.tuple #[.int .u64 (dv zs), .int .i64 (len : Int), .int .i64 0]) ∧ w' = w1) := F
  have hd := dv_bd zs H.2.2.2.1 (by omega)
  have conv : ∀ w1, Below w.heap.size w w1 → Sem.run Try.prog (convert 28 9 (.slice a (len - 8) cap)) w1 = .ok (.string (str (zs.take (len - 8)))) w1 := fun w1 hb =>
    (bytes_take (bytes_kept H hb) (len - 8) (by omega) (fun e => by have := H.2.2.1 e; omega)).conv
  generalize dv zs = v at HF hd h3 ⊢
  generalize str (zs.take (len - 8)) = r at conv ⊢
  have cv := conv _ (one_below w (.cells #[.string ⟨#[]⟩, .int .u64 0, .int .i64 0] 36))
  have U := fun w => unpack_any v hd.1 hd.2 w
  have e0 : un0 v = v / 256 ∧ un1 v = v % 256 ∧ unE v = 0 := by unfold un0 un1 unE; simp [h3]
  rw [e0.1, e0.2.1, e0.2.2] at U
  obtain ⟨v1, hv1⟩ : ∃ x, x = v / 256 := ⟨_, rfl⟩
  obtain ⟨v2, hv2⟩ : ∃ x, x = v % 256 := ⟨_, rfl⟩
  rw [← hv1, ← hv2] at U ⊢
  have HU : Hid (∀ w, Calls Try.prog 75 #[.int .u64 v] w fun e w' => e = .returned (.tuple #[.int .u64 v1, .int .i64 v2, .int .i64 0]) ∧ w' = w) := U
  have L8 : (8 : Int) ≤ (len : Int) := by omega
  cases a with
  | none => exact absurd (H.2.2.1 rfl) (by omega)
  | some x =>
    clear U e0 h3 hv1 hv2 conv F e h H hz
    go_enter Try.func60, Try.ntmps60
    go_wp2_with fail
    refine (HF.out _ (one_below _ _)).mono ?_
    rintro e w' ⟨rfl, rfl⟩
    go_wp2_with fail
    refine (isKeySize_any _ _).mono ?_
    rw [h2]
    rintro e w' ⟨rfl, rfl⟩
    go_wp2_with fail
    refine (HU.out _).mono ?_
    rintro e w' ⟨rfl, rfl⟩
    go_wp2_with fail
    exact bodyPost_ret (v := .tuple #[.agg #[.string r, .int .u64 v1, .int .i64 v2], .int .i64 0]) (by simp [results, Try.results60, go_sem]) rfl ⟨rfl, one_below _ _⟩
end Go.Proofs.Ytkanjbeijoeenaa.En

/- Encode: numbers that fit, the bytes of operations and of batches: by the program and by the document's definition. -/
import Derived.Test.YtmceanfgcehfeabCk
import Derived.Test.YtmceanfgcehfeabCp
namespace Go.Proofs.Ytmceanfgcehfeab.En
open Go.ChangeShapes Go.WideShapes Go.ChangeAt Go.RowKit
open Go.Proofs.Ytmceanfgcehfeab.By
open Go.Proofs.Ytmceanfgcehfeab.Ob
set_option linter.unusedVariables false

/-! ### Numbers that fit -/
def fit (s n : Int) : Bool := decide (s ≤ 72057594037927935) && (decide (n = 0) || decide (n - 1 ≤ 72057594037927935 - s))
set_option maxHeartbeats 1000000 in
theorem fits_any (s n : Int) (w : World) (hs : 0 ≤ s ∧ s ≤ 18446744073709551615) (hn : 0 ≤ n ∧ n ≤ 4611686018427387904) : Calls Try.prog 37 #[.int .u64 s, .int .i64 n] w fun e w' => e = .returned (.bool (fit s n)) ∧ w' = w := by
  obtain ⟨hs0, hs1⟩ := hs
  obtain ⟨hn0, hn1⟩ := hn
  by_cases h1 : s ≤ 72057594037927935
  · by_cases h2 : n = 0
    · subst h2
      have HF : Hid (fit s 0 = true) := by show _ = _; unfold fit; simp [h1]
      go_enter Try.func37, Try.ntmps37
      go_wp2
      go_ret
      exact ⟨ret_bool HF.out.symm, rfl⟩
    · have d0 : (n == 0) = false := by simp [h2]
      by_cases h3 : n - 1 ≤ 72057594037927935 - s
      · have HF : Hid (fit s n = true) := by show _ = _; unfold fit; simp [h1, h3]
        go_enter Try.func37, Try.ntmps37
        go_wp2
        go_ret
        refine ⟨ret_bool ?_, rfl⟩
        rw [HF.out]
      · have HF : Hid (fit s n = false) := by
          show _ = _; unfold fit
          rw [show decide (n = 0) = false from by simp [h2], show decide (n - 1 ≤ 72057594037927935 - s) = false from by simpa using h3]
          simp
        go_enter Try.func37, Try.ntmps37
        go_wp2
        go_ret
        refine ⟨ret_bool ?_, rfl⟩
        rw [HF.out]
  · have HF : Hid (fit s n = false) := by show _ = _; unfold fit; rw [show decide (s ≤ 72057594037927935) = false from by simpa using h1]; rfl
    go_enter Try.func37, Try.ntmps37
    go_wp2
    go_ret
    exact ⟨ret_bool HF.out.symm, rfl⟩
set_option maxHeartbeats 1000000 in
theorem rfit_any (s n : Int) (w : World) (hs : 0 ≤ s ∧ s ≤ 18446744073709551615) (hn : 0 ≤ n ∧ n ≤ 4611686018427387904) : Calls Try.prog 33 #[.int .u64 s, .int .i64 n] w fun e w' => e = .returned (.bool (fit s n)) ∧ w' = w := by
  obtain ⟨hs0, hs1⟩ := hs
  obtain ⟨hn0, hn1⟩ := hn
  by_cases h1 : s ≤ 72057594037927935
  · by_cases h2 : n = 0
    · subst h2
      have HF : Hid (fit s 0 = true) := by show _ = _; unfold fit; simp [h1]
      go_enter Try.func33, Try.ntmps33
      go_wp2
      go_ret
      exact ⟨ret_bool HF.out.symm, rfl⟩
    · have d0 : (n == 0) = false := by simp [h2]
      by_cases h3 : n - 1 ≤ 72057594037927935 - s
      · have HF : Hid (fit s n = true) := by show _ = _; unfold fit; simp [h1, h3]
        go_enter Try.func33, Try.ntmps33
        go_wp2
        go_ret
        refine ⟨ret_bool ?_, rfl⟩
        rw [HF.out]
      · have HF : Hid (fit s n = false) := by
          show _ = _; unfold fit
          rw [show decide (n = 0) = false from by simp [h2], show decide (n - 1 ≤ 72057594037927935 - s) = false from by simpa using h3]
          simp
        go_enter Try.func33, Try.ntmps33
        go_wp2
        go_ret
        refine ⟨ret_bool ?_, rfl⟩
        rw [HF.out]
  · have HF : Hid (fit s n = false) := by show _ = _; unfold fit; rw [show decide (s ≤ 72057594037927935) = false from by simpa using h1]; rfl
    go_enter Try.func33, Try.ntmps33
    go_wp2
    go_ret
    exact ⟨ret_bool HF.out.symm, rfl⟩

/-! ### The bytes of operations -/
def tb (s : ByteArray) : List Int := Vb.vb s.size ++ tx s
def ob (x : O) : List Int := x.c :: (tb x.k ++ (if x.c = 0 then [] else tb x.v))
def obs : List O → List Int
  | [] => []
  | x :: r => ob x ++ obs r
def enc (s : Int) (xs : List O) : List Int := lb 8 s ++ (lb 4 xs.length ++ obs xs)
theorem tb_len (s : ByteArray) : (tb s).length = tsz s.size := by unfold tb tsz; rw [List.length_append, tx_len]
theorem ob_len (x : O) : (ob x).length = osz x := by
  unfold ob osz
  rw [List.length_cons, List.length_append, tb_len]
  split <;> simp [tb_len] <;> omega
theorem obs_len : ∀ xs, (obs xs).length = osum xs
  | [] => rfl
  | x :: r => by rw [obs, osum, List.length_append, ob_len, obs_len r]
theorem obs_append : ∀ xs ys, obs (xs ++ ys) = obs xs ++ obs ys
  | [], ys => rfl
  | x :: r, ys => by simp [obs, obs_append r ys]
theorem obs_take (xs : List O) (k : Nat) (h : k < xs.length) : obs (xs.take (k + 1)) = obs (xs.take k) ++ ob (xs.getD k zo) := by
  rw [List.take_succ_eq_append_getElem h, obs_append, List.getD_eq_getElem?_getD, List.getElem?_eq_getElem h]
  simp [obs]
theorem enc_len (s : Int) (xs : List O) : (enc s xs).length = bsz xs := by
  unfold enc bsz; simp [lb_len, obs_len]; omega
theorem tb_bytes (s : ByteArray) (h : s.size ≤ 281474976710656) : ∀ y ∈ tb s, 0 ≤ y ∧ y ≤ 255 := by
  intro y hy
  rcases List.mem_append.1 hy with h' | h'
  · exact Vb.vb_bytes s.size (by omega) y h'
  · exact tx_bytes s y h'
theorem ob_bytes {x : O} (h : may x = true) : ∀ y ∈ ob x, 0 ≤ y ∧ y ≤ 255 := by
  have hs := may_sizes h
  intro y hy
  unfold ob at hy
  rcases List.mem_cons.1 hy with rfl | hy
  · omega
  · rcases List.mem_append.1 hy with hy | hy
    · exact tb_bytes x.k (by omega) y hy
    · split at hy
      · simp at hy
      · exact tb_bytes x.v (by omega) y hy
theorem obs_bytes : ∀ (xs : List O), (∀ x ∈ xs, may x = true) → ∀ y ∈ obs xs, 0 ≤ y ∧ y ≤ 255
  | [], _, y, hy => by simp [obs] at hy
  | x :: r, h, y, hy => by
    rcases List.mem_append.1 hy with hy | hy
    · exact ob_bytes (h x (by simp)) y hy
    · exact obs_bytes r (fun z hz => h z (by simp [hz])) y hy
theorem enc_bytes (s : Int) (xs : List O) (h : ∀ x ∈ xs, may x = true) : ∀ y ∈ enc s xs, 0 ≤ y ∧ y ≤ 255 := by
  intro y hy
  rcases List.mem_append.1 hy with hy | hy
  · exact lb_bytes 8 s y hy
  · rcases List.mem_append.1 hy with hy | hy
    · exact lb_bytes 4 _ y hy
    · exact obs_bytes xs h y hy

/-! ### A buffer of the call's own, to which is appended -/
def Own (w : World) (base : Nat) (v : Value) (n : Nat) (xs : List Int) : Prop := w.ownsRow base 5 1 v n (xs.map (Value.int .u8))
theorem Own.later {w w' : World} {base : Nat} {v : Value} {n : Nat} {xs : List Int} (h : Own w base v n xs) (b : Below w.heap.size w w') : Own w' base v n xs := by
  refine ⟨h.1, ?_⟩
  rcases h.2 with ⟨e, h0⟩ | ⟨g', cap', cur, rfl, hb, hg, hr⟩
  · exact .inl ⟨e, h0⟩
  · exact .inr ⟨g', cap', cur, rfl, hb, by rw [b.block g' (Array.getElem?_eq_some_iff.1 hg).1]; exact hg, hr⟩
theorem Own.len {w : World} {base : Nat} {v : Value} {n : Nat} {xs : List Int} (h : Own w base v n xs) : xs.length = n := by
  have := h.1; simpa using this
set_option maxHeartbeats 1000000 in
theorem rfixed_any (v : Value) (m : Nat) (xs : List Int) (y : Int) (n : Nat) (base : Nat) (w : World) (H : Own w base v m xs) (hbase : base ≤ w.heap.size) (hy : 0 ≤ y ∧ y ≤ 18446744073709551615) (hn : 1 ≤ n ∧ n ≤ 8) (hm : m ≤ 1000000000) :
    Calls Try.prog 34 #[v, .int .u64 y, .int .i64 n] w fun e w' => ∃ v', e = .returned v' ∧ Own w' base v' (m + n) (xs ++ lb n y) ∧ Below base w w' := by
  obtain ⟨i0, hi, hz0, hz1, hz2⟩ := info_parts info5
  have HO := hid H
  clear H
  go_enter Try.func34, Try.ntmps34
  go_wp2_with fail
  go_loopw [0, 7] (fun b i wr => ∃ k : Nat, k ≤ n ∧ i = .int .i64 k ∧ Hid (Own wr base b (m + k) (xs ++ (lb n y).take k)) ∧ Hid (Below base w wr)) (fun _ i _ => n - (intOf i).toNat)
  case atStart => exact ⟨0, by omega, rfl, by show Own _ _ _ _ _; simpa using HO.out, Below.refl _ _⟩
  case round =>
    obtain ⟨k, hk, rfl, hrow, hbel⟩ := hrel
    by_cases h : k < n
    · have e1 : Hid ((lb n y).take (k + 1) = (lb n y).take k ++ [y / 256 ^ k % 256]) := lb_take n k y h
      have e2 : Hid (y / 2 ^ (8 * k) % 256 = y / 256 ^ k % 256) := by show _ = _; rw [Fx.ipow256]
      go_wp2_with (at_builtin; refine wpList_append_own _ rfl _ _ 33 rfl base 5 i0 (.int .u8 0) 1 1 Try.underlying33 hi hz0 hz1 hz2 rfl (by decide) _ _ _ rfl (World.ownsRow.alloc hrow.out _) ⟨wr.heap.size, 0, none⟩ 1 1 [.int .u8 (y / 2 ^ (8 * k) % 256)] rfl rfl ?c1 ?c2 ?c3 ?c4 ?c5 ?_)
      case c1 => exact cell_one_new _ _ _
      case c2 => intro u hu; simp at hu; subst hu; rfl
      case c3 => unfold maxLen; omega
      case c4 => omega
      case c5 => have := hbel.out.size; simp; omega
      intro v1 w1 own1 g1 _
      have R1 : Hid (Own w1 base v1 (m + (k + 1)) (xs ++ (lb n y).take (k + 1))) := by
        show Own _ _ _ _ _
        rw [e1.out, ← e2.out]
        unfold Own
        simpa [Nat.add_assoc] using own1
      have B1 : Hid (Below base w w1) := below_own (hbel.out.alloc (by have := hbel.out.size; omega) _) (World.ownsRow.alloc hrow.out _) g1 (by have := hbel.out.size; simp; omega)
      clear own1 g1 hrow hbel e1 e2
      go_wp2_with fail
      go_roundw
      case rel => exact ⟨k + 1, by omega, by go_num, R1, B1⟩
      case measure => simp [intOf]; omega
    · have hkn : k = n := by omega
      subst hkn
      have R0 := hrow.out
      rw [List.take_of_length_le (by rw [lb_len]; omega)] at R0
      have R1 := hid R0
      clear hrow R0
      go_wp2_with fail
      go_ret
      exact ⟨_, rfl, R1.out, hbel.out⟩
set_option maxHeartbeats 2000000 in
theorem rtext_any (v : Value) (m : Nat) (xs : List Int) (s : ByteArray) (base : Nat) (w : World) (H : Own w base v m xs) (hbase : base ≤ w.heap.size) (hs : s.size ≤ 1000000) (hm : m ≤ 1000000000) :
    Calls Try.prog 35 #[v, .string s] w fun e w' => ∃ v', e = .returned v' ∧ Own w' base v' (m + tsz s.size) (xs ++ tb s) ∧ Below base w w' := by
  obtain ⟨i0, hi, hz0, hz1, hz2⟩ := info_parts info5
  have HO := hid H
  have hV10 := Vb.vb_le s.size
  obtain ⟨V, hV⟩ : ∃ V, V = Vb.vb s.size := ⟨_, rfl⟩
  have HT : Hid (tb s = V ++ tx s) := by show _ = _; unfold tb; rw [hV]
  have HZ : Hid (tsz s.size = V.length + s.size) := by show _ = _; unfold tsz; rw [hV]
  rw [← hV] at hV10
  have HV : Hid (V = Vb.vb s.size) := hV
  rw [HT.out, HZ.out]
  clear hV H HT HZ
  go_enter Try.func35, Try.ntmps35
  go_wp2_with fail
  go_loopw [0, 5] (fun b x wr => ∃ k j u : Nat, ∃ acc : List Int, x = .int .i64 u ∧ u ≤ 1000000 ∧ Hid ((u : Int) < 2 * 128 ^ k) ∧ Hid (acc.length = j) ∧ Hid (acc ++ Vb.vbF k u = V) ∧ Hid (Own wr base b (m + j) (xs ++ acc)) ∧ Hid (Below base w wr)) (fun _ x _ => (intOf x).toNat)
  case atStart => exact ⟨9, 0, s.size, [], rfl, hs, by show _ < _; rw [Vb.two9]; omega, rfl, by (have h := HV.out; unfold Vb.vb at h; show _ = _; rw [List.nil_append]; exact h.symm), by show Own _ _ _ _ _; simpa using HO.out, Below.refl _ _⟩
  case round =>
    obtain ⟨k, j, u, acc, rfl, hu1, hk, hj, hacc, hrow, hbel⟩ := hrel
    by_cases h : (128 : Int) ≤ u
    · obtain ⟨k', hk'⟩ : ∃ k', k = k' + 1 := by
        cases k with
        | zero => have := hk.out; simp at this; omega
        | succ k => exact ⟨k, rfl⟩
      subst hk'
      have e1 : Hid (acc ++ ((u : Int) % 128 + 128) :: Vb.vbF k' ((u / 128 : Nat) : Int) = V) := by
        have := hacc.out
        rw [Vb.vbF_step _ _ h] at this
        show _ = _
        rw [show (((u / 128 : Nat) : Int)) = (u : Int) / 128 from by omega]
        exact this
      have hjl : j < V.length := by have := congrArg List.length e1.out; simp at this; have := hj.out; omega
      clear hacc
      have hk2 : Hid (((u / 128 : Nat) : Int) < 2 * 128 ^ k') := by show _ < _; have := hk.out; rw [Int.pow_succ] at this; omega
      clear hk
      go_wp2_with (at_builtin; refine wpList_append_own _ rfl _ _ 33 rfl base 5 i0 (.int .u8 0) 1 1 Try.underlying33 hi hz0 hz1 hz2 rfl (by decide) _ _ _ rfl (World.ownsRow.alloc hrow.out _) ⟨wr.heap.size, 0, none⟩ 1 1 [.int .u8 ((u : Int) % 128 + 128)] rfl rfl ?c1 ?c2 ?c3 ?c4 ?c5 ?_)
      case c1 => exact cell_one_new _ _ _
      case c2 => intro u hu; simp at hu; subst hu; rfl
      case c3 => unfold maxLen; omega
      case c4 => omega
      case c5 => have := hbel.out.size; simp; omega
      intro v1 w1 own1 g1 _
      have R1 : Hid (Own w1 base v1 (m + (j + 1)) (xs ++ (acc ++ [(u : Int) % 128 + 128]))) := by
        show Own _ _ _ _ _
        unfold Own
        simpa [Nat.add_assoc] using own1
      have B1 : Hid (Below base w w1) := below_own (hbel.out.alloc (by have := hbel.out.size; omega) _) (World.ownsRow.alloc hrow.out _) g1 (by have := hbel.out.size; simp; omega)
      clear own1 g1 hrow hbel
      go_wp2_with fail
      go_roundw
      case rel => exact ⟨k', j + 1, u / 128, acc ++ [(u : Int) % 128 + 128], by go_num, by omega, hk2, by show _ = _; have := hj.out; simp; omega, by show _ = _; rw [← e1.out]; simp, R1, B1⟩
      case measure => simp [intOf]; omega
    · have e1 : Hid (acc ++ [(u : Int)] = V) := by
        have := hacc.out
        rw [Vb.vbF_small _ _ (by omega)] at this
        exact this
      have hjv : Hid (j + 1 = V.length) := by show _ = _; have := congrArg List.length e1.out; simp at this; have := hj.out; omega
      have hjl : j < V.length := by have := hjv.out; omega
      clear hacc hk
      go_wp2_with (at_builtin; refine wpList_append_own _ rfl _ _ 33 rfl base 5 i0 (.int .u8 0) 1 1 Try.underlying33 hi hz0 hz1 hz2 rfl (by decide) _ _ _ rfl (World.ownsRow.alloc hrow.out _) ⟨wr.heap.size, 0, none⟩ 1 1 [.int .u8 ((u : Int))] rfl rfl ?d1 ?d2 ?d3 ?d4 ?d5 ?_)
      case d2 => rfl
      case d3 => unfold maxLen; omega
      case d4 => omega
      case d5 => have := hbel.out.size; simp; omega
      intro v1 w1 own1 g1 _
      have hb1 : base ≤ w1.heap.size := by have := g1.size; have := hbel.out.size; simp at *; omega
      have B1 : Below base w w1 := below_own (hbel.out.alloc (by have := hbel.out.size; omega) _) (World.ownsRow.alloc hrow.out _) g1 (by have := hbel.out.size; simp; omega)
      obtain ⟨g, c, hv1, R1⟩ : ∃ g c, v1 = .slice (some ⟨g, 0, none⟩) (m + j + 1) c ∧ Row w1 base g (m + j + 1) c (xs ++ (acc ++ [(u : Int)]))   := By.shape (by simpa using own1) (by omega)
      subst hv1
      rw [e1.out, show m + j + 1 = m + V.length from by have := hjv.out; omega] at R1
      rw [show m + j + 1 = m + V.length from by have := hjv.out; omega]
      by_cases hf : m + V.length + s.size ≤ c
      · obtain ⟨w3, hrun, R3, g3⟩ := app_fits R1 s hf
        have B3 : Hid (Below base w w3) := B1.grown g3 hb1 (by intro k hk; simp at hk; have := R1.lt; omega)
        have HRun : Hid ((Builtin.append_ #[33, 9] 33 #[.slice (some ⟨g, 0, none⟩) (m + V.length) c, .string s]).run Try.prog w1 = .ok (.slice (some ⟨g, 0, none⟩) (m + V.length + s.size) c) w3) := hrun
        have HR3 : Hid (Own w3 base (.slice (some ⟨g, 0, none⟩) (m + V.length + s.size) c) (m + (V.length + s.size)) (xs ++ (V ++ tx s))) := by
          show Own _ _ _ _ _
          rw [← Nat.add_assoc, ← List.append_assoc]
          exact R3
        clear own1 g1 hrow hbel R1 B1 hrun R3 g3 e1 hjv
        go_wp2_with (at_builtin; refine wpList_append_run rfl _ _ 33 9 rfl _ _ _ rfl rfl HRun.out ?_)
        go_ret
        exact ⟨_, rfl, HR3.out, B3.out⟩
      · obtain ⟨c', w3, hrun, R3, g3⟩ := app_grows R1 s hf (by omega) hb1
        have B3 : Hid (Below base w w3) := B1.grown g3 hb1 (by simp)
        have HRun : Hid ((Builtin.append_ #[33, 9] 33 #[.slice (some ⟨g, 0, none⟩) (m + V.length) c, .string s]).run Try.prog w1 = .ok (.slice (some ⟨w1.heap.size, 0, none⟩) (m + V.length + s.size) c') w3) := hrun
        have HR3 : Hid (Own w3 base (.slice (some ⟨w1.heap.size, 0, none⟩) (m + V.length + s.size) c') (m + (V.length + s.size)) (xs ++ (V ++ tx s))) := by
          show Own _ _ _ _ _
          rw [← Nat.add_assoc, ← List.append_assoc]
          exact R3
        clear own1 g1 hrow hbel R1 B1 hrun R3 g3 e1 hjv
        go_wp2_with (at_builtin; refine wpList_append_run rfl _ _ 33 9 rfl _ _ _ rfl rfl HRun.out ?_)
        go_ret
        exact ⟨_, rfl, HR3.out, B3.out⟩
end Go.Proofs.Ytmceanfgcehfeab.En

/- The document's Fixed, piece, Cost and Add. -/
import Derived.Test.YtgkoopciajjonaaDoorRf
import Derived.Test.YtgkoopciajjonaaDoorRc
namespace Go.Proofs.YtgkoopciajjonaaDoor.Rp
open Go.ChangeShapes Go.WideShapes Go.ChangeAt Go.RowKit
open Go.Proofs.YtgkoopciajjonaaDoor.Crc
open Go.Proofs.YtgkoopciajjonaaDoor.Jm
open Go.Proofs.YtgkoopciajjonaaDoor.Ck
open Go.Proofs.YtgkoopciajjonaaDoor.Rf
open Go.Proofs.YtgkoopciajjonaaDoor.Wt
open Go.Proofs.YtgkoopciajjonaaDoor.Wc
open Go.Proofs.YtgkoopciajjonaaDoor.Wa
open Go.Proofs.YtgkoopciajjonaaDoor.Rc
set_option linter.unusedVariables false
set_option linter.unusedSimpArgs false

def fx (v k : Nat) : List Int := (List.range k).map fun i => ((v / 256 ^ i % 256 : Nat) : Int)
theorem own_base7 {w : World} {base base' e size : Nat} {v : Value} {n : Nat} {xs : List Value} (h : w.ownsRow base e size v n xs) (hb : base' ≤ base) : w.ownsRow base' e size v n xs := by
  refine ⟨h.1, ?_⟩
  rcases h.2 with h | ⟨g, c, cur, h1, h2, h3⟩
  · exact .inl h
  · exact .inr ⟨g, c, cur, h1, Nat.le_trans hb h2, h3⟩
theorem fx_succ (v k : Nat) : fx v (k + 1) = fx v k ++ [((v / 256 ^ k % 256 : Nat) : Int)] := by simp [fx, List.range_succ]
theorem fx4 (x : BitVec 32) : fx x.toNat 4 = le4 x := by
  unfold fx le4
  simp [List.range_succ, List.range_zero]
theorem fx2 (n : Nat) : fx n 2 = le2 n := by
  unfold fx le2
  simp [List.range_succ, List.range_zero]
theorem fx_bd (v k : Nat) : ∀ y ∈ fx v k, 0 ≤ y ∧ y ≤ 255 := by
  intro y hy
  obtain ⟨i, _, rfl⟩ := List.mem_map.1 hy
  omega
theorem built_one (w : World) (base : Nat) (x : Int) (hb : base ≤ w.heap.size) : Wt.Own (w.alloc (.cells #[.int .u8 x] 5)) base (.slice (some ⟨w.heap.size, 0, none⟩) 1 1) [x] :=
  ⟨rfl, .inr ⟨w.heap.size, 1, #[.int .u8 x], rfl, hb, by show (w.heap.push _)[w.heap.size]? = _; simp, Nat.le_refl _, by unfold maxLen; omega, rfl, rfl⟩⟩
set_option maxHeartbeats 1000000 in
theorem fixed_any (v n : Nat) (w : World) (hv : v < 18446744073709551616) (hn : n ≤ 8) : Calls Tryd.prog 41 #[.int .u64 (v : Int), .int .i64 (n : Int)] w fun e w' => ∃ u, e = .returned u ∧ Wt.Own w' w.heap.size u (fx v n) ∧ Below w.heap.size w w' := by
  go_enter Tryd.func41, Tryd.ntmps41
  go_wp2_with fail
  go_loopw [0, 5, 6] (fun q u i wr => ∃ k : Nat, i = .int .i64 (k : Int) ∧ k ≤ n ∧ q = .int .u64 ((v / 256 ^ k : Nat) : Int) ∧ Hid (Wt.Own wr w.heap.size u (fx v k)) ∧ Hid (Below w.heap.size w wr)) (fun _ _ i _ => n - (intOf i).toNat)
  case atStart => exact ⟨0, rfl, Nat.zero_le _, by simp, World.ownsRow_nil _ _ _ _, Below.refl _ _⟩
  case round =>
    obtain ⟨k, rfl, hk, rfl, hO, hB⟩ := hrel
    by_cases hlt : k < n
    · have i1 : (k : Int) < (n : Int) := by omega
      have hq : v / 256 ^ k < 18446744073709551616 := Nat.lt_of_le_of_lt (Nat.div_le_self _ _) hv
      have hq2 : v / 256 ^ (k + 1) = v / 256 ^ k / 256 := by rw [Nat.pow_succ, Nat.div_div_eq_div_mul]
      have hF := fx_succ v k
      have hfl : (fx v k).length = k := by simp [fx]
      generalize v / 256 ^ k = q at *
      have b1 := box_below wr (.cells #[.int .u8 ((q : Int) % 256)] 5)
      have hw : IntKind.u8.wrap (q : Int) = (q : Int) % 256 := by simp [IntKind.wrap, IntKind.bits, IntKind.signed]
      have O1 := hO.out.later b1
      have B1 := hB.out.trans (b1.mono hB.out.size)
      obtain ⟨u2, w2, r2, O2, g2⟩ := app_bytes _ w.heap.size u5 (fx v k) [(q : Int) % 256] _ 1 1 O1 (built_bytes wr [(q : Int) % 256] (by intro y hy; simp at hy; omega)) (by omega) B1.size
      have B2 := hid (B1.trans (own_below O1 g2 B1.size))
      have O2 : Hid (Wt.Own w2 w.heap.size u2 (fx v (k + 1))) := by show Wt.Own _ _ _ _; rw [hF]; simpa using O2
      replace r2 := hid r2
      clear b1 O1 B1 g2 hO hB hF hw
      go_wp2_with (first | (at_builtin; refine wpList_append_run rfl _ _ _ _ rfl _ _ _ rfl rfl r2.out ?_))
      refine ⟨⟨k + 1, by push_cast; rfl, by omega, by rw [hq2, Int.natCast_ediv]; rfl, O2, B2⟩, ?_⟩
      simp [intOf]; omega
    · have hkn : k = n := by omega
      subst hkn
      go_wp2_with fail
      go_ret
      exact ⟨_, rfl, hO.out, hB.out⟩
theorem rmask_any (x : BitVec 32) (w : World) : Calls Tryd.prog 38 #[.int .u32 (toI x)] w fun e w' => e = .returned (.int .u32 (toI (mask x))) ∧ w' = w := by
  have E : Hid ((bits .or .u32 (toI x / 32768) (toI x * 131072 % 4294967296) + 2726488792) % 4294967296 = toI (mask x)) := by
    show _ = _
    rw [shr15, shl17, or_i, plus_i, add_m]; rfl
  go_enter Tryd.func38, Tryd.ntmps38
  go_wp2
  go_ret
  exact ⟨ret_int E.out, rfl⟩
set_option maxHeartbeats 1000000 in
theorem rpiece_any (k : Int) (a : Option Addr) (len cap : Nat) (d : List Int) (w : World) (H : Bytes w a len cap d) (hk : 0 ≤ k ∧ k ≤ 255) (hm : len ≤ 1000000000) : Calls Tryd.prog 31 #[.int .i64 k, .slice a len cap] w fun e w' => ∃ u, e = .returned u ∧ Wt.Own w' w.heap.size u (pc k d) ∧ Below w.heap.size w w' := by
  have hl := H.1
  have hw8 : IntKind.u8.wrap k = k := by simp [IntKind.wrap, IntKind.bits, IntKind.signed]; omega
  have b1 := box_below w (.cells #[.int .u8 k] 5)
  have O1 := built_one w w.heap.size k (Nat.le_refl _)
  obtain ⟨u2, w2, r2, O2, g2⟩ := app_bytes _ w.heap.size _ [k] d a len cap O1 (bytes_kept H b1) (by simp; omega) b1.size
  have B2 : Below w.heap.size w w2 := b1.trans (own_below O1 g2 b1.size)
  obtain ⟨ab, cb, hvb, _⟩ := O2.shape
  subst hvb
  have hdb : ∀ y ∈ [k] ++ d, 0 ≤ y ∧ y ≤ 255 := fun y hy => by
    rcases List.mem_append.1 hy with h | h
    · simp at h; omega
    · exact H.2.2.2.1 y h
  have HS := hid (rSum_any ab ([k] ++ d).length cb ([k] ++ d) w2 (O2.bytes hdb) (by simp; omega))
  have HM := hid (fun w => rmask_any (sum ([k] ++ d)) w)
  have hkd : mask (sum ([k] ++ d)) = ks k d := rfl
  rw [hkd] at HM
  have HF4 := hid (fun w => fixed_any (ks k d).toNat 4 w (by have := (ks k d).isLt; omega) (by omega))
  rw [fx4] at HF4
  have HF2 := hid (fun w => fixed_any len 2 w (by omega) (by omega))
  rw [fx2] at HF2
  have hpc : Hid (le4 (ks k d) ++ le2 len ++ ([k] ++ d) = pc k d) := by show _ = _; unfold pc; rw [hl]; simp
  have hdb := hid hdb
  have hbl : ([k] ++ d).length = len + 1 := by simp; omega
  have l4 : (le4 (ks k d)).length = 4 := rfl
  have l2 : (le2 len).length = 2 := rfl
  have l4b : Hid (∀ y ∈ le2 len, 0 ≤ y ∧ y ≤ 255) := by rw [← fx2]; exact fx_bd _ _
  have htoI : IntKind.u64.wrap (toI (ks k d)) = (((ks k d).toNat : Nat) : Int) := by unfold toI; have := (ks k d).isLt; simp [IntKind.wrap, IntKind.bits, IntKind.signed]; omega
  have htoI2 : toI (ks k d) = (((ks k d).toNat : Nat) : Int) := rfl
  rw [htoI2] at HM
  generalize ks k d = s at *
  generalize sum ([k] ++ d) = sm' at *
  generalize [k] ++ d = body at *
  rw [hbl] at HS O2 r2
  replace r2 := hid r2
  replace O2 := hid O2
  replace B2 := hid B2
  have hsl := s.isLt
  clear b1 O1 g2 H hkd htoI2 htoI
  go_enter Tryd.func31, Tryd.ntmps31
  go_wp2_with (first | (at_builtin; refine wpList_append_run rfl _ _ _ _ rfl _ _ _ rfl rfl r2.out ?_))
  refine HS.out.mono ?_
  rintro e w3 ⟨rfl, rfl⟩
  go_wp2_with fail
  refine (HM.out _).mono ?_
  rintro e w3 ⟨rfl, rfl⟩
  go_wp2_with fail
  refine (HF4.out _).mono ?_
  rintro e w4 ⟨u4, rfl, O4, B4⟩
  have O24 := hid (O2.out.later B4)
  have B24 := hid (B2.out.trans (B4.mono B2.out.size))
  have H4 : Hid (∀ j, u4.ownBlock = some j → w3.heap.size ≤ j) := fun j hj => (O4.lt j hj).1
  have H2 : Hid (∀ j, (Value.slice ab (len + 1) cb).ownBlock = some j → j < w3.heap.size) := fun j hj => (O2.out.lt j hj).2
  have O4 : Hid (Wt.Own w4 w.heap.size u4 (le4 s)) := own_base7 O4 B2.out.size
  clear B4
  go_wp2_with fail
  refine (HF2.out _).mono ?_
  rintro e w5 ⟨u5, rfl, O5, B5⟩
  have O45 := O4.out.later B5
  have O25 := O24.out.later B5
  have B25 := B24.out.trans (B5.mono B24.out.size)
  obtain ⟨a5, c5, hv5, _⟩ := O5.shape
  subst hv5
  obtain ⟨u6, w6, r6, O6, g6⟩ := app_bytes w5 w.heap.size u4 _ _ a5 _ c5 O45 (O5.bytes l4b.out) (by omega) B25.size
  have B6 := B25.trans (own_below O45 g6 B25.size)
  have O26 : Wt.Own w6 w.heap.size (.slice ab (len + 1) cb) body := by
    by_cases hn : (Value.slice ab (len + 1) cb).ownBlock = none
    · exact World.ownsRow.kept O25 g6 (.inl hn)
    · refine World.ownsRow.kept O25 g6 (.inr (fun e => ?_))
      cases hj : (Value.slice ab (len + 1) cb).ownBlock with
      | none => exact hn hj
      | some j =>
        have h1 := H2.out j hj
        have h2 := H4.out j (by rw [← e, hj])
        omega
  obtain ⟨u7, w7, r7, O7, g7⟩ := app_bytes w6 w.heap.size u6 _ body ab (len + 1) cb O6 (O26.bytes hdb.out) (by simp [l4, l2]; omega) B6.size
  have B7 := hid (B6.trans (own_below O6 g7 B6.size))
  rw [hpc.out] at O7
  replace O7 := hid O7
  replace r6 := hid r6
  replace r7 := hid r7
  clear O45 O25 B25 O5 B5 g6 B6 O26 g7 O6
  go_wp2_with (first | (at_builtin; refine wpList_append_run rfl _ _ _ _ rfl _ _ _ rfl rfl r6.out ?_) | (at_builtin; refine wpList_append_run rfl _ _ _ _ rfl _ _ _ rfl rfl r7.out ?_))
  go_ret
  exact ⟨_, rfl, O7.out, B7.out⟩
end Go.Proofs.YtgkoopciajjonaaDoor.Rp

/- Contracts of the document's own linear maps: what a map makes of a register, one map behind another, and noughts by squaring. -/
import Derived.Test.YtkgmdhldongloaaDoorLm
import Derived.Test.YtkgmdhldongloaaDoorRf
namespace Go.Proofs.YtkgmdhldongloaaDoor.Rl
open Go.ChangeShapes Go.WideShapes Go.ChangeAt Go.RowKit
open Go.Proofs.YtkgmdhldongloaaDoor.Crc
open Go.Proofs.YtkgmdhldongloaaDoor.Ck
open Go.Proofs.YtkgmdhldongloaaDoor.Lm
open Go.Proofs.YtkgmdhldongloaaDoor.Rf
set_option linter.unusedVariables false
theorem info75 : (Tryd.prog.info? 75).map (·.size) = some 32 := by kernel_rfl

set_option maxHeartbeats 1000000 in
theorem mof_any (c : Array Value) (f : Nat → BitVec 32) (x : BitVec 32) (w : World) (A : Hid (Arr c f)) :
    Calls Tryd.prog 50 #[.agg c, .int .u32 (toI x)] w fun e w' => e = .returned (.int .u32 (toI (lin f 32 x))) ∧ Below w.heap.size w w' := by
  have B : Hid (Below w.heap.size w (w.alloc (.cells c 75))) := (Below.refl _ _).alloc (Nat.le_refl _) _
  go_enter Tryd.func50, Tryd.ntmps50
  go_wp2
  go_loop [5, 6] (fun r i => ∃ k : Nat, k ≤ 32 ∧ i = .int .i64 k ∧ r = .int .u32 (toI (lin f k x))) (fun _ i => 32 - (intOf i).toNat)
  case atStart => exact ⟨0, Nat.zero_le _, rfl, rfl⟩
  case round =>
    obtain ⟨k, hk, rfl, rfl⟩ := hrel
    by_cases h : k < 32
    · have BK := bit_k x k
      obtain ⟨y, hy⟩ : ∃ y, Hid (y = lin f (k + 1) x) := ⟨_, rfl⟩
      have U : Hid (y = lin f k x ^^^ (if x.getLsbD k = true then f k else 0#32)) := by show _ = _; rw [hy.out]; rfl
      have C := A.out.cell w 75 k h
      have X : Hid (bits .xor .u32 (toI (lin f k x)) (toI (f k)) = toI (lin f k x ^^^ f k)) := xor_i _ _
      generalize lin f k x = b at U X ⊢
      generalize f k = fk at U X C
      cases hf : x.getLsbD k
      · rw [hf] at BK U
        simp only [Bool.false_eq_true, if_false, BitVec.xor_zero] at BK U
        go_wp2_with fail
        go_round
        case rel => exact ⟨k + 1, by omega, by go_num, by rw [← hy.out, U.out]⟩
        case measure => simp [intOf]; omega
      · rw [hf] at BK U
        simp only [if_true] at BK U
        go_wp2_with fail
        go_round
        case rel => exact ⟨k + 1, by omega, by go_num, by rw [X.out, ← hy.out, U.out]⟩
        case measure => simp [intOf]; omega
    · have : k = 32 := by omega
      subst this
      go_wp2
      go_ret
      exact ⟨rfl, B.out⟩

abbrev W4 (w : World) (cm co : Array Value) : World := (((w.alloc (.cells cm 75)).alloc (.cells co 75)).alloc (.cells zeros32 75)).alloc (.cells zeros32 75)
set_option maxHeartbeats 8000000 in
set_option maxRecDepth 100000 in
theorem then_any (cm co : Array Value) (fm fo : Nat → BitVec 32) (w : World) (AM : Hid (Arr cm fm)) (AO : Hid (Arr co fo)) :
    Calls Tryd.prog 51 #[.agg cm, .agg co] w fun e w' => ∃ c, e = .returned (.agg c) ∧ Hid (Arr c (fun i => lin fo 32 (fm i))) ∧ Below w.heap.size w w' := by
  obtain ⟨f, HFe⟩ : ∃ f : Nat → BitVec 32, Hid (f = fun i => lin fo 32 (fm i)) := ⟨_, rfl⟩
  have HF : Hid (∀ k, lin fo 32 (fm k) = f k) := fun k => by rw [HFe.out]
  rw [← HFe.out]
  have ZO := hid AO.out.1
  have b1 : Below w.heap.size w (w.alloc (.cells cm 75)) := (Below.refl _ _).alloc (Nat.le_refl _) _
  have B0 : Hid (Below w.heap.size w (W4 w cm co)) := ((b1.alloc b1.size _).alloc (by simp; omega) _).alloc (by simp; omega) _
  have K0 : Hid (Blk (W4 w cm co) (w.heap.size + 3) 75 zeros32) := by
    have := Blk.new (((w.alloc (.cells cm 75)).alloc (.cells co 75)).alloc (.cells zeros32 75)) 75 zeros32
    show Blk _ _ _ _
    simpa using this
  have K1 : Hid (Blk (W4 w cm co) (w.heap.size + 2) 75 zeros32) := by
    have := (Blk.new ((w.alloc (.cells cm 75)).alloc (.cells co 75)) 75 zeros32).later ((Below.refl _ _).alloc (Nat.le_refl _) (.cells zeros32 75))
    show Blk _ _ _ _
    simpa using this
  have K2 : Hid (Blk (W4 w cm co) (w.heap.size + 1) 75 co) := by
    have := ((Blk.new (w.alloc (.cells cm 75)) 75 co).later ((Below.refl _ _).alloc (Nat.le_refl _) (.cells zeros32 75))).later ((Below.refl _ _).alloc (Nat.le_refl _) (.cells zeros32 75))
    show Blk _ _ _ _
    simpa using this
  have K3 : Hid (Blk (W4 w cm co) w.heap.size 75 cm) := (((Blk.new w 75 cm).later ((Below.refl _ _).alloc (Nat.le_refl _) (.cells co 75))).later ((Below.refl _ _).alloc (Nat.le_refl _) (.cells zeros32 75))).later ((Below.refl _ _).alloc (Nat.le_refl _) (.cells zeros32 75))
  obtain ⟨m, Hm⟩ : ∃ m, Hid (m = w.heap.size) := ⟨_, rfl⟩
  obtain ⟨o, Ho⟩ : ∃ o, Hid (o = w.heap.size + 1) := ⟨_, rfl⟩
  obtain ⟨t, Ht⟩ : ∃ t, Hid (t = w.heap.size + 2) := ⟨_, rfl⟩
  obtain ⟨r, Hr⟩ : ∃ r, Hid (r = w.heap.size + 3) := ⟨_, rfl⟩
  rw [← Hm.out] at K3
  rw [← Ho.out] at K2
  rw [← Ht.out] at K1
  rw [← Hr.out] at K0
  have hmr : m < o ∧ o < t ∧ t < r := by have := Hm.out; have := Ho.out; have := Ht.out; have := Hr.out; omega
  have hwm : w.heap.size ≤ m := by have := Hm.out; omega
  go_enter Tryd.func51, Tryd.ntmps51
  go_wp2
  change Code.wp _ _ _ _ (W4 w cm co)
  rw [← Hr.out, ← Ht.out, ← Ho.out, ← Hm.out]
  go_loopw [6] (fun i wr => ∃ k : Nat, ∃ c : Array Value, k ≤ 32 ∧ i = .int .i64 k ∧ Hid (Part c k f) ∧ Hid (Blk wr r 75 c) ∧ Hid (Blk wr m 75 cm) ∧ Hid (Blk wr o 75 co) ∧ Hid (Blk wr t 75 zeros32) ∧ Hid (Below w.heap.size w wr)) (fun i _ => 32 - (intOf i).toNat)
  case atStart => exact ⟨0, zeros32, by omega, rfl, part0 _, K0, K3, K2, K1, B0⟩
  case round =>
    obtain ⟨k, c, hk, rfl, hp, hb, hm, ho, ht, hbel⟩ := hrel
    clear K0 K1 K2 K3 B0
    by_cases h : k < 32
    · have KR : Hid (Blk wr.drew r 75 c) := hb
      have KM : Hid (Blk wr.drew m 75 cm) := hm
      have KO : Hid (Blk wr.drew o 75 co) := ho
      have KT : Hid (Blk wr.drew t 75 zeros32) := ht
      have BB : Hid (Below w.heap.size w wr.drew) := hbel.out.drew
      have CM := hm.out.cell k
      rw [AM.out.2 k h] at CM
      clear hb hm hbel ho ht
      go_wp2_with fail
      refine wp_region_any (by kernel_rfl) ?_
      change wpAny _ _ _ _ _ _ _ (World.drew _)
      refine wpAny_take (i := 0) (v := ?v1) rfl (by kernel_rfl) (by kernel_rfl) (by kernel_rfl) (fun _ _ _ h => h) (Or.inl ⟨by rfl, ?h1⟩) ?_
      case h1 => (intro w; go_simp; try (with_reducible rfl))
      go_simp
      refine wpAny_take (i := 2) (v := ?v2) rfl (by kernel_rfl) (by kernel_rfl) (by kernel_rfl) (fun _ _ _ h => h) (Or.inl ⟨by rfl, ?h2⟩) ?_
      case h2 => (intro w; go_simp; try (with_reducible rfl))
      go_simp
      refine wpAny_take (i := 3) (v := ?v3) rfl (by kernel_rfl) (by kernel_rfl) (by kernel_rfl) (fun _ _ _ h => h) (Or.inl ⟨by rfl, ?h3⟩) ?_
      case h3 => (intro w; go_simp; try (with_reducible rfl))
      go_simp
      refine wpAny_ready (rs := [1, 4]) (by kernel_rfl) (by simp) ?_
      refine AllReady.cons rfl (fun K hK => ?_) ?_
      · refine load_wp _ 75 rfl 23 o 75 co rfl Tryd.underlying75 info75 KO.out ZO.out ?_
        refine hK _ _ ?_
        clear hK K
        go_simp
        refine wpAny_ready (rs := [4]) (by kernel_rfl) (by simp) ?_
        refine AllReady.cons rfl (fun K hK => ?_) ?_
        · go_simp
          refine hK _ _ ?_
          clear hK K
          refine wpAny_ready (rs := [5]) (by kernel_rfl) (by simp) ?_
          refine AllReady.cons rfl (fun K hK => ?_) ?_
          · go_simp
            go_wp2_with fail
            refine (mof_any co fo (fm k) _ AO).mono ?_
            rintro e W5 ⟨rfl, b5⟩
            have KR5 := hid (KR.out.later b5)
            have KM5 := hid (KM.out.later b5)
            have KO5 := hid (KO.out.later b5)
            have KT5 := hid (KT.out.later b5)
            have BB5 := hid (BB.out.trans (b5.mono BB.out.size))
            obtain ⟨z, hz⟩ := hp.out.2.1 k h
            have C5 := KR5.out.cell k
            rw [hz] at C5
            have F5 := KR5.out.fz k
            have V5 : Hid (lin fo 32 (fm k) = f k) := HF.out k
            rw [V5.out]
            have P6 := hid (hp.out.set h)
            have K6 := hid (KR5.out.set k (.int .u32 (toI (f k))))
            have G6 := hid (grown_set W5 r k (.int .u32 (toI (f k))))
            have M6 := hid (KM5.out.kept G6.out (by simp; omega))
            have O6 := hid (KO5.out.kept G6.out (by simp; omega))
            have T6 := hid (KT5.out.kept G6.out (by simp; omega))
            have B6 : Hid (Below w.heap.size w (W5.setCell ⟨r, k, none⟩ (.int .u32 (toI (f k))))) := BB5.out.grown G6.out BB5.out.size (by intro a ha; simp at ha; omega)
            clear b5 hz
            go_wp2_with fail
            refine wpAny_take (i := 6) (v := ?v4) rfl (by kernel_rfl) (by kernel_rfl) (by kernel_rfl) (fun _ _ _ h => h) (Or.inl ⟨by rfl, ?h4⟩) ?_
            case h4 => (intro w; go_simp; try (with_reducible rfl))
            go_simp
            refine wpAny_ready (rs := [7]) (by kernel_rfl) (by simp) ?_
            refine AllReady.cons rfl (fun K hK => ?_) ?_
            · go_simp
              refine hK _ _ ?_
              clear hK K
              refine wpAny_done (by kernel_rfl) ?_ _
              generalize W5.setCell ⟨r, k, none⟩ (.int .u32 (toI (f k))) = W6 at K6 M6 O6 T6 B6 G6 ⊢
              go_wp2_with fail
              go_roundw
              case rel => exact ⟨k + 1, _, by omega, by go_num, P6, K6, M6, O6, T6, B6⟩
              case measure => simp [intOf]; omega
            exact AllReady.nil
          exact AllReady.nil
        exact AllReady.nil
      refine AllReady.cons rfl (fun K hK => ?_) ?_
      · go_simp
        refine hK _ _ ?_
        clear hK K
        refine wpAny_ready (rs := [1]) (by kernel_rfl) (by simp) ?_
        refine AllReady.cons rfl (fun K hK => ?_) ?_
        · refine load_wp _ 75 rfl 23 o 75 co rfl Tryd.underlying75 info75 KO.out ZO.out ?_
          refine hK _ _ ?_
          clear hK K
          go_simp
          refine wpAny_ready (rs := [5]) (by kernel_rfl) (by simp) ?_
          refine AllReady.cons rfl (fun K hK => ?_) ?_
          · go_simp
            go_wp2_with fail
            refine (mof_any co fo (fm k) _ AO).mono ?_
            rintro e W5 ⟨rfl, b5⟩
            have KR5 := hid (KR.out.later b5)
            have KM5 := hid (KM.out.later b5)
            have KO5 := hid (KO.out.later b5)
            have KT5 := hid (KT.out.later b5)
            have BB5 := hid (BB.out.trans (b5.mono BB.out.size))
            obtain ⟨z, hz⟩ := hp.out.2.1 k h
            have C5 := KR5.out.cell k
            rw [hz] at C5
            have F5 := KR5.out.fz k
            have V5 : Hid (lin fo 32 (fm k) = f k) := HF.out k
            rw [V5.out]
            have P6 := hid (hp.out.set h)
            have K6 := hid (KR5.out.set k (.int .u32 (toI (f k))))
            have G6 := hid (grown_set W5 r k (.int .u32 (toI (f k))))
            have M6 := hid (KM5.out.kept G6.out (by simp; omega))
            have O6 := hid (KO5.out.kept G6.out (by simp; omega))
            have T6 := hid (KT5.out.kept G6.out (by simp; omega))
            have B6 : Hid (Below w.heap.size w (W5.setCell ⟨r, k, none⟩ (.int .u32 (toI (f k))))) := BB5.out.grown G6.out BB5.out.size (by intro a ha; simp at ha; omega)
            clear b5 hz
            go_wp2_with fail
            refine wpAny_take (i := 6) (v := ?v5) rfl (by kernel_rfl) (by kernel_rfl) (by kernel_rfl) (fun _ _ _ h => h) (Or.inl ⟨by rfl, ?h5⟩) ?_
            case h5 => (intro w; go_simp; try (with_reducible rfl))
            go_simp
            refine wpAny_ready (rs := [7]) (by kernel_rfl) (by simp) ?_
            refine AllReady.cons rfl (fun K hK => ?_) ?_
            · go_simp
              refine hK _ _ ?_
              clear hK K
              refine wpAny_done (by kernel_rfl) ?_ _
              generalize W5.setCell ⟨r, k, none⟩ (.int .u32 (toI (f k))) = W6 at K6 M6 O6 T6 B6 G6 ⊢
              go_wp2_with fail
              go_roundw
              case rel => exact ⟨k + 1, _, by omega, by go_num, P6, K6, M6, O6, T6, B6⟩
              case measure => simp [intOf]; omega
            exact AllReady.nil
          exact AllReady.nil
        exact AllReady.nil
      exact AllReady.nil
    · have : k = 32 := by omega
      subst this
      have A := hid hp.out.arr
      have O := hid (arr_one A.out)
      have Z := hid hp.out.1
      have Z0 : Hid (zeros32.size = 32) := by show _ = _; simp [zeros32]
      go_wp2_with (first | (refine load_arr rfl _ 75 rfl 23 r 75 c rfl Tryd.underlying75 info75 hb.out Z.out ?_) | (refine store_arr rfl _ _ 75 rfl t 75 zeros32 c rfl rfl info75 ht.out Z0.out Z.out O.out ?_))
      intro W2 K2 G2
      have HK2 := hid K2
      have B2 : Hid (Below w.heap.size w W2) := hbel.out.grown G2 hbel.out.size (by intro a ha; simp at ha; omega)
      clear K2 G2
      go_wp2_with fail
      have hld := run_loadVar_row W2 t 75 75 c (0, 0) _ HK2.out Tryd.underlying75 rfl (by rw [info75, Z.out])
      refine bodyPost_ret (v := .agg c) ?_ rfl ⟨c, rfl, A, B2.out⟩
      rw [results_cell1 rfl]
      simp [asAddr, Result.andThen, hld]

theorem over_nought (x : BitVec 32) : over x [0] = shiftZ 8 x := over_zeros 1 x
theorem rem_two (m : Nat) : (m : Int).tmod 2 = ((m % 2 : Nat) : Int) := by
  rw [Int.tmod_eq_emod_of_nonneg (by omega)]; simp
theorem nought_bytes (w : World) : Bytes (w.alloc (.cells #[.int .u8 0] 5)) (some ⟨w.heap.size, 0, none⟩) 1 1 [0] := by
  refine ⟨rfl, by omega, fun e => by simp at e, by decide, ?_⟩
  intro x hx i hi
  simp at hx
  subst hx
  rw [addr_add, World.cell?_alloc_mark]
  match i, hi with
  | 0, _ => rfl

set_option maxHeartbeats 2000000 in
theorem Shift_any (x : BitVec 32) (n : Nat) (w : World) (hn : n ≤ 9223372036854775807) :
    Calls Tryd.prog 34 #[.int .u32 (toI x), .int .i64 n] w fun e w' => e = .returned (.int .u32 (toI (shiftZ (8 * n) x))) ∧ Below w.heap.size w w' := by
  obtain ⟨X, HX⟩ : ∃ X, Hid (X = shiftZ (8 * n) x) := ⟨_, rfl⟩
  rw [← HX.out]
  obtain ⟨f, HFe⟩ : ∃ f : Nat → BitVec 32, Hid (f = fun i => shiftZ 8 (BitVec.twoPow 32 i)) := ⟨_, rfl⟩
  have B0 : Hid (Below w.heap.size w (w.alloc (.cells zeros32 75))) := (Below.refl _ _).alloc (Nat.le_refl _) _
  have K0 := hid (Blk.new w 75 zeros32)
  obtain ⟨g, HG⟩ : ∃ g, Hid (g = w.heap.size) := ⟨_, rfl⟩
  rw [← HG.out] at K0
  have hgw : w.heap.size ≤ g := by have := HG.out; omega
  go_enter Tryd.func34, Tryd.ntmps34
  go_wp2
  change Code.wp _ _ _ _ (w.alloc (.cells zeros32 75))
  rw [← HG.out]
  go_loopw [6] (fun i wr => ∃ k : Nat, ∃ c : Array Value, k ≤ 32 ∧ i = .int .i64 k ∧ Hid (Part c k f) ∧ Hid (Blk wr g 75 c) ∧ Hid (Below w.heap.size w wr)) (fun i _ => 32 - (intOf i).toNat)
  case atStart => exact ⟨0, zeros32, by omega, rfl, part0 _, K0, B0⟩
  case round =>
    obtain ⟨k, c, hk, rfl, hp, hb, hbel⟩ := hrel
    clear K0 B0
    by_cases h : k < 32
    · have S := hid (shl_one k h)
      have NB := hid (nought_bytes wr)
      have VO : Hid (over (BitVec.twoPow 32 k) [0] = f k) := by show _ = _; rw [over_nought, HFe.out]
      go_wp2_with fail
      rw [S.out]
      refine (over_any (BitVec.twoPow 32 k) _ _ _ [0] _ NB.out (by omega)).mono ?_
      rintro e W1 ⟨rfl, rfl⟩
      rw [VO.out]
      have ba : Below wr.heap.size wr (wr.alloc (.cells #[.int .u8 0] 5)) := (Below.refl _ _).alloc (Nat.le_refl _) _
      have hb1 := hid (hb.out.later ba)
      have hbel1 := hid (hbel.out.trans (ba.mono hbel.out.size))
      obtain ⟨z, hz⟩ := hp.out.2.1 k h
      have C := hb1.out.cell k
      rw [hz] at C
      have F := hb1.out.fz k
      have P2 := hid (hp.out.set h)
      have K2 := hid (hb1.out.set k (.int .u32 (toI (f k))))
      have B2 : Hid (Below w.heap.size w ((wr.alloc (.cells #[.int .u8 0] 5)).setCell ⟨g, k, none⟩ (.int .u32 (toI (f k))))) := hbel1.out.grown (grown_set _ _ _ _) hbel1.out.size (by intro a ha; simp at ha; omega)
      clear hp hb hbel hb1 hbel1 ba hz NB
      generalize wr.alloc (.cells #[.int .u8 0] 5) = W1 at C F K2 B2 ⊢
      go_wp2_with fail
      go_roundw
      case rel => exact ⟨k + 1, _, by omega, by go_num, P2, K2, B2⟩
      case measure => simp [intOf]; omega
    · have : k = 32 := by omega
      subst this
      have A : Hid (Arr c (fun i => shiftZ 8 (BitVec.twoPow 32 i))) := by
        have := hp.out.arr
        rw [HFe.out] at this
        exact this
      clear hp
      rw [show ((32 : Nat) : Int) = 32 from rfl]
      go_wp2_with fail
      go_loopw [0, 1] (fun r i wr => ∃ m P : Nat, ∃ y : BitVec 32, ∃ c : Array Value, m ≤ 9223372036854775807 ∧ i = .int .i64 m ∧ r = .int .u32 (toI y) ∧ Hid (shiftZ (P * m) y = X) ∧ Hid (Arr c (fun i => shiftZ P (BitVec.twoPow 32 i))) ∧ Hid (Blk wr g 75 c) ∧ Hid (Below w.heap.size w wr)) (fun _ i _ => (intOf i).toNat)
      case atStart => exact ⟨n, 8, x, c, hn, rfl, rfl, HX.out.symm, A, hb, hbel⟩
      case round =>
        clear A hb hbel
        obtain ⟨m, P, y, c, hm, rfl, rfl, hX, hA, hb, hbel⟩ := hrel
        by_cases h : 0 < m
        · have Z := hid hA.out.1
          have hsq := shift_sq P
          have RM := rem_two m
          by_cases ho : m % 2 = 1
          · rw [ho] at RM
            have hX2 : Hid (shiftZ ((P + P) * (m / 2)) (shiftZ P y) = X) := by
              show _ = _
              rw [← shiftZ_add, ← hX.out]
              congr 1
              have : m = 1 + (m / 2 + m / 2) := by omega
              conv => rhs; rw [this]
              rw [Nat.mul_add, Nat.mul_one, Nat.mul_add, Nat.add_mul]
            have L := hid (lin_shift P y)
            have HSQ := hid hsq
            clear hsq RM
            have hI : (m : Int) % 2 = 1 := by omega
            clear ho
            go_wp2_with (refine load_arr rfl _ 75 rfl 23 g 75 c rfl Tryd.underlying75 info75 hb.out Z.out ?_)
            refine (mof_any c _ y _ hA).mono ?_
            rintro e W3 ⟨rfl, b3⟩
            have hb3 := hid (hb.out.later b3)
            have hbel3 := hid (hbel.out.trans (b3.mono hbel.out.size))
            clear b3
            rw [L.out]
            go_wp2_with (refine load_arr rfl _ 75 rfl 23 g 75 c rfl Tryd.underlying75 info75 hb3.out Z.out ?_)
            refine (then_any c c _ _ _ hA hA).mono ?_
            rintro e W4 ⟨c4, rfl, A4, b4⟩
            rw [HSQ.out] at A4
            have hb4 := hid (hb3.out.later b4)
            have hbel4 := hid (hbel3.out.trans (b4.mono hbel3.out.size))
            have Z4 := hid A4.out.1
            have O4 := hid (arr_one A4.out)
            clear b4
            go_wp2_with (refine store_arr rfl _ _ 75 rfl g 75 c c4 rfl rfl info75 hb4.out Z.out Z4.out O4.out ?_)
            intro W5 K5 G5
            have HK5 := hid K5
            have B5 : Hid (Below w.heap.size w W5) := hbel4.out.grown G5 hbel4.out.size (by intro a ha; simp at ha; omega)
            clear K5 G5 hb3 hb4 hbel3 hbel4 hb hbel
            go_wp2_with fail
            go_roundw
            case rel => exact ⟨m / 2, P + P, _, c4, by omega, by go_num, rfl, hX2, A4, HK5, B5⟩
            case measure => simp [intOf]; omega
          · have hX2 : Hid (shiftZ ((P + P) * (m / 2)) y = X) := by
              show _ = _
              rw [← hX.out]
              congr 1
              have : m = m / 2 + m / 2 := by omega
              conv => rhs; rw [this]
              rw [Nat.mul_add, Nat.add_mul]
            have HSQ := hid hsq
            clear hsq RM
            have hI : (m : Int) % 2 = 0 := by omega
            clear ho
            go_wp2_with (refine load_arr rfl _ 75 rfl 23 g 75 c rfl Tryd.underlying75 info75 hb.out Z.out ?_)
            refine (then_any c c _ _ _ hA hA).mono ?_
            rintro e W4 ⟨c4, rfl, A4, b4⟩
            rw [HSQ.out] at A4
            have hb4 := hid (hb.out.later b4)
            have hbel4 := hid (hbel.out.trans (b4.mono hbel.out.size))
            have Z4 := hid A4.out.1
            have O4 := hid (arr_one A4.out)
            clear b4
            go_wp2_with (refine store_arr rfl _ _ 75 rfl g 75 c c4 rfl rfl info75 hb4.out Z.out Z4.out O4.out ?_)
            intro W5 K5 G5
            have HK5 := hid K5
            have B5 : Hid (Below w.heap.size w W5) := hbel4.out.grown G5 hbel4.out.size (by intro a ha; simp at ha; omega)
            clear K5 G5 hb4 hbel4 hb hbel
            go_wp2_with fail
            go_roundw
            case rel => exact ⟨m / 2, P + P, _, c4, by omega, by go_num, rfl, hX2, A4, HK5, B5⟩
            case measure => simp [intOf]; omega
        · have : m = 0 := by omega
          subst this
          have e : y = X := hX.out
          subst e
          go_wp2_with fail
          go_ret
          exact ⟨rfl, hbel.out⟩
theorem rZeros_neg (x : BitVec 32) (n : Int) (w : World) (hn : n < 0) : Calls Tryd.prog 16 #[.int .u32 (toI x), .int .i64 n] w fun e w' => e = .returned (.tuple #[.int .u32 0, .int .i64 2]) ∧ Below w.heap.size w w' := by
  go_enter Tryd.func16, Tryd.ntmps16
  go_wp2
  go_ret2
  exact ⟨rfl, Below.refl _ _⟩
theorem rZeros_any (x : BitVec 32) (n : Nat) (w : World) (hn : n ≤ 9223372036854775807) : Calls Tryd.prog 16 #[.int .u32 (toI x), .int .i64 n] w fun e w' => e = .returned (.tuple #[.int .u32 (toI (~~~shiftZ (8 * n) (~~~x))), .int .i64 0]) ∧ Below w.heap.size w w' := by
  have N1 := not_w x
  have N2 := not_w (shiftZ (8 * n) (~~~x))
  have S := sgn
  have h0 : ¬ (n : Int) < 0 := by omega
  go_enter Tryd.func16, Tryd.ntmps16
  go_wp2_with fail
  refine (Shift_any (~~~x) n _ hn).mono ?_
  rintro e w1 ⟨rfl, b1⟩
  have B1 := hid b1
  clear b1
  go_wp2
  go_ret2
  exact ⟨rfl, B1.out⟩
theorem rCombine_neg (x y : BitVec 32) (n : Int) (w : World) (hn : n < 0) : Calls Tryd.prog 18 #[.int .u32 (toI x), .int .u32 (toI y), .int .i64 n] w fun e w' => e = .returned (.tuple #[.int .u32 0, .int .i64 2]) ∧ Below w.heap.size w w' := by
  go_enter Tryd.func18, Tryd.ntmps18
  go_wp2
  go_ret2
  exact ⟨rfl, Below.refl _ _⟩
theorem rCombine_any (x y : BitVec 32) (n : Nat) (w : World) (hn : n ≤ 9223372036854775807) : Calls Tryd.prog 18 #[.int .u32 (toI x), .int .u32 (toI y), .int .i64 n] w fun e w' => e = .returned (.tuple #[.int .u32 (toI (shiftZ (8 * n) x ^^^ y)), .int .i64 0]) ∧ Below w.heap.size w w' := by
  have X := xor_i (shiftZ (8 * n) x) y
  have h0 : ¬ (n : Int) < 0 := by omega
  go_enter Tryd.func18, Tryd.ntmps18
  go_wp2_with fail
  refine (Shift_any x n _ hn).mono ?_
  rintro e w1 ⟨rfl, b1⟩
  have B1 := hid b1
  clear b1
  go_wp2
  go_ret2
  exact ⟨rfl, B1.out⟩
end Go.Proofs.YtkgmdhldongloaaDoor.Rl

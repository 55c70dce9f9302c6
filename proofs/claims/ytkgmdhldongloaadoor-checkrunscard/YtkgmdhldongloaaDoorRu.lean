/- The walk of CheckRuns: for all calls of three Runnings it returns true, and writes nothing that was there before. -/
import Derived.Test.YtkgmdhldongloaaDoorDj
import Derived.Test.YtkgmdhldongloaaDoorNn
import Derived.RegionTactic
import Derived.BigRegion
namespace Go.Proofs.YtkgmdhldongloaaDoor.Ru
open Go.ChangeShapes Go.WideShapes Go.ChangeAt Go.RowKit
open Go.Proofs.YtkgmdhldongloaaDoor.Crc
open Go.Proofs.YtkgmdhldongloaaDoor.Ck
open Go.Proofs.YtkgmdhldongloaaDoor.Lm (grown_set tab_later)
open Go.Proofs.YtkgmdhldongloaaDoor.Rn
open Go.Proofs.YtkgmdhldongloaaDoor.Rs
open Go.Proofs.YtkgmdhldongloaaDoor.Ln
open Go.Proofs.YtkgmdhldongloaaDoor.Dz
open Go.Proofs.YtkgmdhldongloaaDoor.Dj
open Go.Proofs.YtkgmdhldongloaaDoor.Nn
set_option linter.unusedVariables false

/-! ### Any call of both -/
theorem does_any (w : World) (r : Nat → Nat) (rs ms : Nat) (s : Nat → BitVec 32) (n : Nat → Nat) (kd on of : Int) (a : Option Addr) (len cap : Nat) (zs : List Int) (W : World) (G : Hid (Geo w r rs ms)) (I : Hid (Inv w r rs ms s n s n W)) (T : Hid (Tab w)) (HB : Hid (Bytes w a len cap zs)) (hcap : cap ≤ 140737488351232) :
    Calls Tryd.prog 22 #[.slice (some ⟨rs, 0, none⟩) 3 3, .slice (some ⟨ms, 0, none⟩) 3 3, .agg #[.int .i64 kd, .int .i64 on, .int .i64 of, .slice a len cap]] W fun e W' => ∃ v s' n', e = .returned (.tuple #[.int .i64 v, .int .i64 v]) ∧ Hid (Inv w r rs ms s' n' s' n' W') := by
  obtain ⟨o, ho⟩ : ∃ o : Nat, on % 3 = o := ⟨(on % 3).toNat, by omega⟩
  have ho3 : o < 3 := by omega
  have h4 : kd % 4 = 0 ∨ kd % 4 = 1 ∨ kd % 4 = 2 ∨ kd % 4 = 3 := by omega
  rcases h4 with h | h | h | h
  · by_cases hs : n o + len ≤ 9007199254740992
    · exact does0_ok w r rs ms s n kd on of a len cap zs W G I T HB hcap h o ho3 (hid ho) hs
    · exact does0_big w r rs ms s n kd on of a len cap zs W G I T HB hcap h o ho3 (hid ho) hs
  · by_cases hs : n o + len ≤ 9007199254740992
    · exact does1_ok w r rs ms s n kd on of a len cap zs W G I T HB hcap h o ho3 (hid ho) hs
    · exact does1_big w r rs ms s n kd on of a len cap zs W G I T HB hcap h o ho3 (hid ho) hs
  · obtain ⟨g, hg⟩ : ∃ g : Nat, of % 4 = g := ⟨(of % 4).toNat, by omega⟩
    by_cases h3 : g < 3
    · by_cases hs : n o + n g ≤ 9007199254740992
      · exact does2_ok w r rs ms s n kd on of a len cap zs W G I T HB hcap h o ho3 (hid ho) g h3 (hid hg) hs
      · exact does2_big w r rs ms s n kd on of a len cap zs W G I T HB hcap h o ho3 (hid ho) g h3 (hid hg) hs
    · exact does2_nil w r rs ms s n kd on of a len cap zs W G I T HB hcap h o ho3 (hid ho) (hid (show of % 4 = 3 by omega))
  · exact does3 w r rs ms s n kd on of a len cap zs W G I T HB hcap h o ho3 (hid ho)

/-- What the walk is told of the calls. -/
def Acts (w : World) (a : Option Addr) (n : Nat) : Prop :=
  n ≤ 9223372036854775807 ∧ ∀ i, i < n → ∃ (b off : Nat) (kd on of : Int) (a' : Option Addr) (len cap : Nat) (zs : List Int), a = some ⟨b, off, none⟩ ∧ w.cell? ⟨b, off + i * 4, none⟩ = some (.int .i64 kd) ∧ w.cell? ⟨b, off + i * 4 + 1, none⟩ = some (.int .i64 on) ∧ w.cell? ⟨b, off + i * 4 + 2, none⟩ = some (.int .i64 of) ∧ w.cell? ⟨b, off + i * 4 + 3, none⟩ = some (.slice a' len cap) ∧ Bytes w a' len cap zs ∧ cap ≤ 140737488351232
theorem info52b : (Tryd.prog.info? 52).map (fun i => (i.zero, i.size, i.bytes)) = some (some (.agg #[.int .u32 0, .int .i64 0]), 2, 16) := by kernel_rfl
theorem nought : toI 0#32 = 0 := by decide
theorem made_mb {W : World} {base g : Nat} {xs : List Value} (h : W.ownsRow base 52 2 (.slice (some ⟨g, 0, none⟩) 3 3) 3 xs) (hx : xs = [.int .u32 0, .int .i64 0, .int .u32 0, .int .i64 0, .int .u32 0, .int .i64 0]) : MB W g (fun _ => 0#32) (fun _ => 0) := by
  rcases h.2 with ⟨h, _⟩ | ⟨g0, cap, cur, hv, hbg, hg, hnc, hcm, hcs, htake⟩
  · simp at h
  simp at hv
  obtain ⟨rfl, rfl⟩ := hv
  refine ⟨cur, hg, hcs, fun k hk => ?_⟩
  have hl : cur.toList = xs := by
    have : cur.toList.length = 6 := by simpa using hcs
    rw [← htake, List.take_of_length_le (by omega)]
  have hc : ∀ i, cur[i]? = xs[i]? := fun i => by rw [← hl, Array.getElem?_toList]
  rw [hc, hc, hx, nought]
  match k, hk with
  | 0, _ | 1, _ | 2, _ => exact ⟨rfl, rfl⟩
theorem made6 : (madeCells #[Value.int .u32 0, Value.int .i64 0] 6).toList = [.int .u32 0, .int .i64 0, .int .u32 0, .int .i64 0, .int .u32 0, .int .i64 0] := by
  apply List.ext_getElem?
  intro i
  match i with
  | 0 | 1 | 2 | 3 | 4 | 5 => simp [madeCells]
  | n + 6 => simp [madeCells]
def pick (r0 r1 r2 : Nat) : Nat → Nat := fun k => if k = 0 then r0 else if k = 1 then r1 else r2

set_option maxHeartbeats 16000000 in
set_option maxRecDepth 100000 in
theorem runs (a : Option Addr) (L cap : Nat) (w : World) (T : Hid (Tab w)) (H : Hid (Acts w a L)) :
    Calls Tryd.prog 7 #[.slice a L cap] w fun e w' => e = .returned (.bool true) ∧ Below w.heap.size w w' := by
  obtain ⟨i2, hi, hz0, hz1, hz2⟩ := info_parts info52b
  go_enter Tryd.func7, Tryd.ntmps7
  go_wp2_with fail
  refine (names_any _).mono ?_
  rintro e w ⟨rfl, rfl⟩
  go_wp2_with fail
  refine (New_any _).mono ?_
  rintro e w1 ⟨rfl, A1, b1⟩
  obtain ⟨r0, H0⟩ : ∃ r0, Hid (r0 = w.heap.size) := ⟨_, rfl⟩
  rw [← H0.out] at A1 ⊢
  have HA1 := hid A1
  have B1 := hid b1
  clear A1 b1
  go_wp2_with fail
  refine (New_any _).mono ?_
  rintro e w2 ⟨rfl, A2, b2⟩
  obtain ⟨r1, H1⟩ : ∃ r1, Hid (r1 = w1.heap.size) := ⟨_, rfl⟩
  rw [← H1.out] at A2 ⊢
  have HA2 := hid A2
  have A1b := hid (HA1.out.kept (below_grown b2) (by simp))
  have B2 := hid (B1.out.trans (b2.mono B1.out.size))
  have h01 : r0 < r1 := by have := HA1.out.lt; have := H1.out; omega
  clear A2 b2 HA1 B1
  go_wp2_with fail
  refine (New_any _).mono ?_
  rintro e w3 ⟨rfl, A3, b3⟩
  obtain ⟨r2, H2⟩ : ∃ r2, Hid (r2 = w2.heap.size) := ⟨_, rfl⟩
  rw [← H2.out] at A3 ⊢
  have h12 : r1 < r2 := by have := HA2.out.lt; have := H2.out; omega
  have R0 := hid (A1b.out.kept (below_grown b3) (by simp))
  have R1 := hid (HA2.out.kept (below_grown b3) (by simp))
  have R2 := hid A3
  have B3 := hid (B2.out.trans (b3.mono B2.out.size))
  have h2s : r2 < w3.heap.size := A3.lt
  clear A3 b3 HA2 A1b B2
  have hb4 := (Below.refl w3.heap.size w3).alloc (Nat.le_refl _) (.cells #[.pointer (some ⟨r0, 0, none⟩), .pointer (some ⟨r1, 0, none⟩), .pointer (some ⟨r2, 0, none⟩)] 42)
  have HB4 := hid hb4
  have HSz : Hid (w3.heap.size + 1 ≤ (w3.alloc (.cells #[.pointer (some ⟨r0, 0, none⟩), .pointer (some ⟨r1, 0, none⟩), .pointer (some ⟨r2, 0, none⟩)] 42)).heap.size) := by show _ ≤ _; simp
  have K4 := hid (Lm.Blk.new w3 42 #[.pointer (some ⟨r0, 0, none⟩), .pointer (some ⟨r1, 0, none⟩), .pointer (some ⟨r2, 0, none⟩)])
  clear hb4
  go_wp2_with (at_make; refine wpList_make_full _ rfl _ _ 45 rfl (w3.heap.size + 1) 52 i2 (.agg #[.int .u32 0, .int .i64 0]) 2 Tryd.underlying45 hi hz0 hz1 .i64 .i64 _ _ 3 rfl rfl rfl rfl (by rw [hz2]; omega) (by unfold maxLen; omega) HSz.out ?_)
  intro w5 own5 g5
  have hmb := made_mb own5 made6
  have b5 : Below w3.heap.size w3 w5 := (HB4.out.grown g5 HB4.out.size (by simp))
  have K5 := K4.out.kept g5 (by simp)
  obtain ⟨rs, Hrs⟩ : ∃ rs, Hid (rs = w3.heap.size) := ⟨_, rfl⟩
  obtain ⟨ms, Hms⟩ : ∃ ms, Hid (ms = w3.heap.size + 1) := ⟨_, rfl⟩
  rw [← Hms.out] at hmb
  rw [← Hrs.out] at K5
  have hrm : rs < ms := by have := Hrs.out; have := Hms.out; omega
  have h2r : r2 < rs := by have := Hrs.out; omega
  have hw0 : w.heap.size ≤ r0 := by have := H0.out; omega
  obtain ⟨r, HR⟩ : ∃ r, Hid (r = pick r0 r1 r2) := ⟨_, rfl⟩
  have G : Hid (Geo w r rs ms) := by
    show Geo _ _ _ _
    rw [HR.out]
    refine ⟨fun k hk => ?_, fun j k hj hk h => ?_, by omega, hrm⟩
    · unfold pick; split
      · omega
      · split <;> omega
    · unfold pick at h
      split at h <;> split at h <;> first | omega | (split at h <;> first | omega | (split at h <;> omega))
  have I5 : Hid (Inv w r rs ms (fun _ => 0#32) (fun _ => 0) (fun _ => 0#32) (fun _ => 0) w5) := by
    refine ⟨fun k hk => ?_, fun k hk => ?_, hmb, B3.out.trans (b5.mono B3.out.size), fun k hk => Nat.zero_le _⟩
    · rw [HR.out]
      match k, hk with
      | 0, _ => exact R0.out.kept (below_grown b5) (by simp)
      | 1, _ => exact R1.out.kept (below_grown b5) (by simp)
      | 2, _ => exact R2.out.kept (below_grown b5) (by simp)
    · rw [HR.out, K5.cell]
      match k, hk with
      | 0, _ | 1, _ | 2, _ => rfl
  rw [← Hms.out, ← Hrs.out]
  have q0 := I5.out.2.1 0 (by omega)
  have q1 := I5.out.2.1 1 (by omega)
  have q2 := I5.out.2.1 2 (by omega)
  have Hr0 : Hid (r0 = r 0) := by show _ = _; rw [HR.out]; rfl
  have Hr1 : Hid (r1 = r 1) := by show _ = _; rw [HR.out]; rfl
  have Hr2 : Hid (r2 = r 2) := by show _ = _; rw [HR.out]; rfl
  clear own5 g5 hmb b5 K5 K4 HB4 HSz R0 R1 R2 B3
  rw [Hr0.out, Hr1.out, Hr2.out]
  clear Hr0 Hr1 Hr2 HR H0 H1 H2 h01 h12 h2s h2r hw0 hi hz0 hz1 hz2
  go_wp2_with fail
  clear q0 q1 q2
  have hL : L ≤ 9223372036854775807 := H.out.1
  go_loopw [5] (fun i wr => ∃ k : Nat, ∃ s : Nat → BitVec 32, ∃ n : Nat → Nat, k ≤ L ∧ i = .int .i64 k ∧ Hid (Inv w r rs ms s n s n wr)) (fun i _ => L - (intOf i).toNat)
  case atStart => exact ⟨0, _, _, by omega, rfl, I5⟩
  case round =>
    clear I5
    obtain ⟨k, s, n, hk, rfl, I⟩ := hrel
    by_cases h : k < L
    · obtain ⟨b, off, kd, on, of, a', len, cap', zs, ha, e0, e1, e2, e3, HBy, hcap⟩ := H.out.2 k h
      subst ha
      have HB := hid HBy
      have c0 := cell_later I.out.2.2.2.1 e0
      have c1 := cell_later I.out.2.2.2.1 e1
      have c2 := cell_later I.out.2.2.2.1 e2
      have c3 := cell_later I.out.2.2.2.1 e3
      clear e0 e1 e2 e3 HBy
      go_wp2_with fail
      refine (does_any w r rs ms s n kd on of a' len cap' zs _ G I T HB hcap).mono ?_
      rintro e W2 ⟨v, s', n', rfl, I2⟩
      clear c0 c1 c2 c3 I
      go_wp2_with fail
      go_loopw [8] (fun i wx => ∃ j : Nat, j ≤ 3 ∧ i = .int .i64 j ∧ Hid (Inv w r rs ms s' n' s' n' wx)) (fun i _ => 3 - (intOf i).toNat)
      case atStart => exact ⟨0, by omega, rfl, I2⟩
      case round =>
        clear I2
        obtain ⟨j, hj, rfl, Ix⟩ := hrel
        by_cases hj3 : j < 3
        · have hjI : (j : Int) < 3 := by omega
          have p0 := Ix.out.2.1 j hj3
          have m0 := (Ix.out.2.2.1.cells j hj3).1
          have m1 := (Ix.out.2.2.1.cells j hj3).2
          have ID := hid (inv_drew Ix.out)
          go_wp2_with fail
          refine wp_region_any (by kernel_rfl) ?_
          change wpAny _ _ _ _ _ _ _ (World.drew _)
          refine wpAny_take (i := 0) (v := ?v1) rfl (by kernel_rfl) (by kernel_rfl) (by kernel_rfl) (fun _ _ _ h => h) (Or.inl ⟨by rfl, ?h1⟩) ?_
          case h1 => (intro w; go_simp; try (with_reducible rfl))
          go_simp
          refine wpAny_take (i := 1) (v := ?v2) rfl (by kernel_rfl) (by kernel_rfl) (by kernel_rfl) (fun _ _ _ h => h) (Or.inl ⟨by rfl, ?h2⟩) ?_
          case h2 => (intro w; go_simp; try (with_reducible rfl))
          go_simp
          refine wpAny_take (i := 2) (v := ?v3) rfl (by kernel_rfl) (by kernel_rfl) (by kernel_rfl) (fun _ _ _ h => h) (Or.inl ⟨by rfl, ?h3⟩) ?_
          case h3 => (intro w; go_simp; try (with_reducible rfl))
          go_simp
          refine wpAny_take (i := 4) (v := ?v4) rfl (by kernel_rfl) (by kernel_rfl) (by kernel_rfl) (fun _ _ _ h => h) (Or.inl ⟨by rfl, ?h4⟩) ?_
          case h4 => (intro w; go_simp; try (with_reducible rfl))
          go_simp
          refine wpAny_take (i := 5) (v := ?v5) rfl (by kernel_rfl) (by kernel_rfl) (by kernel_rfl) (fun _ _ _ h => h) (Or.inl ⟨by rfl, ?h5⟩) ?_
          case h5 => (intro w; go_simp; try (with_reducible rfl))
          go_simp
          refine wpAny_take (i := 6) (v := ?v6) rfl (by kernel_rfl) (by kernel_rfl) (by kernel_rfl) (fun _ _ _ h => h) (Or.inl ⟨by rfl, ?h6⟩) ?_
          case h6 => (intro w; go_simp; try (with_reducible rfl))
          go_simp
          refine wpAny_ready (rs := [3, 7]) (by kernel_rfl) (by simp) ?_
          refine AllReady.cons rfl (fun K hK => ?_) ?_
          · go_simp
            refine hK _ _ ?_
            clear hK K
            refine wpAny_ready (rs := [7]) (by kernel_rfl) (by simp) ?_
            refine AllReady.cons rfl (fun K hK => ?_) ?_
            · go_simp
              refine hK _ _ ?_
              clear hK K
              refine wpAny_ready (rs := [8]) (by kernel_rfl) (by simp) ?_
              refine AllReady.cons rfl (fun K hK => ?_) ?_
              · go_simp
                go_wp2_with fail
                refine (stands_any (r j) (s' j) (n' j) _ (hid (ID.out.1 j hj3))).mono ?_
                rintro e V5 ⟨rfl, b5⟩
                have I5 := hid (inv_later ID.out b5)
                clear b5
                go_wp2_with fail
                refine wpAny_take (i := 9) (v := ?v7) rfl (by kernel_rfl) (by kernel_rfl) (by kernel_rfl) (fun _ _ _ h => h) (Or.inl ⟨by rfl, ?h7⟩) ?_
                case h7 => (intro w; go_simp; try (with_reducible rfl))
                go_simp
                refine wpAny_done (by kernel_rfl) ?_ _
                go_wp2_with fail
                go_roundw
                case rel => exact ⟨j + 1, by omega, by go_num, I5⟩
                case measure => simp [intOf]; omega
              exact AllReady.nil
            exact AllReady.nil
          refine AllReady.cons rfl (fun K hK => ?_) ?_
          · go_simp
            refine hK _ _ ?_
            clear hK K
            refine wpAny_ready (rs := [3]) (by kernel_rfl) (by simp) ?_
            refine AllReady.cons rfl (fun K hK => ?_) ?_
            · go_simp
              refine hK _ _ ?_
              clear hK K
              refine wpAny_ready (rs := [8]) (by kernel_rfl) (by simp) ?_
              refine AllReady.cons rfl (fun K hK => ?_) ?_
              · go_simp
                go_wp2_with fail
                refine (stands_any (r j) (s' j) (n' j) _ (hid (ID.out.1 j hj3))).mono ?_
                rintro e V5 ⟨rfl, b5⟩
                have I5 := hid (inv_later ID.out b5)
                clear b5
                go_wp2_with fail
                refine wpAny_take (i := 9) (v := ?v8) rfl (by kernel_rfl) (by kernel_rfl) (by kernel_rfl) (fun _ _ _ h => h) (Or.inl ⟨by rfl, ?h8⟩) ?_
                case h8 => (intro w; go_simp; try (with_reducible rfl))
                go_simp
                refine wpAny_done (by kernel_rfl) ?_ _
                go_wp2_with fail
                go_roundw
                case rel => exact ⟨j + 1, by omega, by go_num, I5⟩
                case measure => simp [intOf]; omega
              exact AllReady.nil
            exact AllReady.nil
          exact AllReady.nil
        · have hj4 : j = 3 := by omega
          subst hj4
          rw [show ((3 : Nat) : Int) = 3 from rfl]
          go_wp2_with fail
          go_roundw
          case rel => exact ⟨k + 1, _, _, by omega, by go_num, Ix⟩
          case measure => simp [intOf]; omega
    · have hkL : k = L := by omega
      subst hkL
      have b1 := (Below.refl wr.heap.size wr).alloc (Nat.le_refl _) (.cells #[.bool false, .int .u32 0, .int .i64 0] 54)
      have b2 := b1.alloc b1.size (.cells #[.pointer none, .pointer (some ⟨wr.heap.size, 0, none⟩)] 42)
      have IV := hid (inv_later I.out b2)
      have k1 : ((wr.alloc (.cells #[.bool false, .int .u32 0, .int .i64 0] 54)).alloc (.cells #[.pointer none, .pointer (some ⟨wr.heap.size, 0, none⟩)] 42)).cell? ⟨wr.heap.size, 0, none⟩ = some (.bool false) := by
        have c := cell_later ((Below.refl _ _).alloc (Nat.le_refl _) (.cells #[.pointer none, .pointer (some ⟨wr.heap.size, 0, none⟩)] 42)) ((Lm.Blk.new wr 54 #[.bool false, .int .u32 0, .int .i64 0]).cell 0)
        exact c
      have k2 : ((wr.alloc (.cells #[.bool false, .int .u32 0, .int .i64 0] 54)).alloc (.cells #[.pointer none, .pointer (some ⟨wr.heap.size, 0, none⟩)] 42)).cell? ⟨wr.heap.size + 1, 0, none⟩ = some (.pointer none) := by simp [go_sem]
      have k3 : ((wr.alloc (.cells #[.bool false, .int .u32 0, .int .i64 0] 54)).alloc (.cells #[.pointer none, .pointer (some ⟨wr.heap.size, 0, none⟩)] 42)).cell? ⟨wr.heap.size + 1, 1, none⟩ = some (.pointer (some ⟨wr.heap.size, 0, none⟩)) := by simp [go_sem]
      clear b1 b2
      go_wp2_with fail
      generalize (wr.alloc (.cells #[.bool false, .int .u32 0, .int .i64 0] 54)).alloc (.cells #[.pointer none, .pointer (some ⟨wr.heap.size, 0, none⟩)] 42) = V at IV k1 k2 k3 ⊢
      generalize wr.heap.size = pl at k1 k2 k3 ⊢
      have N1 : Hid (No V (.pointer none)) := Or.inl rfl
      have N2 : Hid (No V (.pointer (some ⟨pl, 0, none⟩))) := Or.inr ⟨pl, rfl, k1⟩
      have p0 := IV.out.2.1 0 (by omega)
      have A0 := hid (IV.out.1 0 (by omega))
      clear I k1
      refine wp_loop_rounds 3 ?_
      rw [rounds_succ]
      go_wp2_with fail
      refine (Clear_no (.pointer none) _ N1).mono ?_
      rintro e V ⟨rfl, rfl⟩
      go_wp2_with fail
      refine (Add_no (.pointer none) _ _ N1).mono ?_
      rintro e V ⟨rfl, rfl⟩
      go_wp2_with fail
      refine (AddText_no (.pointer none) _ _ N1).mono ?_
      rintro e V ⟨rfl, rfl⟩
      go_wp2_with fail
      refine (Join_no (.pointer none) _ _ N1).mono ?_
      rintro e V ⟨rfl, rfl⟩
      go_wp2_with fail
      refine (Join_of_no (r 0) (s 0) (n 0) (.pointer none) _ A0 N1).mono ?_
      rintro e V ⟨rfl, rfl⟩
      go_wp2_with fail
      refine (Sum_no (.pointer none) _ N1).mono ?_
      rintro e V ⟨rfl, rfl⟩
      go_wp2_with fail
      refine (Masked_no (.pointer none) _ N1).mono ?_
      rintro e V ⟨rfl, rfl⟩
      go_wp2_with fail
      refine (Len_no (.pointer none) _ N1).mono ?_
      rintro e V ⟨rfl, rfl⟩
      go_wp2_with fail
      rw [rounds_succ]
      go_wp2_with fail
      refine (Clear_no (.pointer (some ⟨pl, 0, none⟩)) _ N2).mono ?_
      rintro e V ⟨rfl, rfl⟩
      go_wp2_with fail
      refine (Add_no (.pointer (some ⟨pl, 0, none⟩)) _ _ N2).mono ?_
      rintro e V ⟨rfl, rfl⟩
      go_wp2_with fail
      refine (AddText_no (.pointer (some ⟨pl, 0, none⟩)) _ _ N2).mono ?_
      rintro e V ⟨rfl, rfl⟩
      go_wp2_with fail
      refine (Join_no (.pointer (some ⟨pl, 0, none⟩)) _ _ N2).mono ?_
      rintro e V ⟨rfl, rfl⟩
      go_wp2_with fail
      refine (Join_of_no (r 0) (s 0) (n 0) (.pointer (some ⟨pl, 0, none⟩)) _ A0 N2).mono ?_
      rintro e V ⟨rfl, rfl⟩
      go_wp2_with fail
      refine (Sum_no (.pointer (some ⟨pl, 0, none⟩)) _ N2).mono ?_
      rintro e V ⟨rfl, rfl⟩
      go_wp2_with fail
      refine (Masked_no (.pointer (some ⟨pl, 0, none⟩)) _ N2).mono ?_
      rintro e V ⟨rfl, rfl⟩
      go_wp2_with fail
      refine (Len_no (.pointer (some ⟨pl, 0, none⟩)) _ N2).mono ?_
      rintro e V ⟨rfl, rfl⟩
      go_wp2_with fail
      rw [rounds_succ]
      have m0 := (IV.out.2.2.1.cells 0 (by omega)).1
      have m1 := (IV.out.2.2.1.cells 0 (by omega)).2
      have ID := hid (inv_drew IV.out)
      go_wp2_with fail
      refine wp_region_any (by kernel_rfl) ?_
      change wpAny _ _ _ _ _ _ _ (World.drew _)
      refine wpAny_take (i := 0) (v := ?v9) rfl (by kernel_rfl) (by kernel_rfl) (by kernel_rfl) (fun _ _ _ h => h) (Or.inl ⟨by rfl, ?h9⟩) ?_
      case h9 => (intro w; go_simp; try (with_reducible rfl))
      go_simp
      refine wpAny_take (i := 1) (v := ?v10) rfl (by kernel_rfl) (by kernel_rfl) (by kernel_rfl) (fun _ _ _ h => h) (Or.inl ⟨by rfl, ?h10⟩) ?_
      case h10 => (intro w; go_simp; try (with_reducible rfl))
      go_simp
      refine wpAny_take (i := 3) (v := ?v11) rfl (by kernel_rfl) (by kernel_rfl) (by kernel_rfl) (fun _ _ _ h => h) (Or.inl ⟨by rfl, ?h11⟩) ?_
      case h11 => (intro w; go_simp; try (with_reducible rfl))
      go_simp
      refine wpAny_take (i := 4) (v := ?v12) rfl (by kernel_rfl) (by kernel_rfl) (by kernel_rfl) (fun _ _ _ h => h) (Or.inl ⟨by rfl, ?h12⟩) ?_
      case h12 => (intro w; go_simp; try (with_reducible rfl))
      go_simp
      refine wpAny_ready (rs := [2, 5]) (by kernel_rfl) (by simp) ?_
      refine AllReady.cons rfl (fun K hK => ?_) ?_
      · go_simp
        refine hK _ _ ?_
        clear hK K
        refine wpAny_ready (rs := [5]) (by kernel_rfl) (by simp) ?_
        refine AllReady.cons rfl (fun K hK => ?_) ?_
        · go_simp
          refine hK _ _ ?_
          clear hK K
          refine wpAny_ready (rs := [6]) (by kernel_rfl) (by simp) ?_
          refine AllReady.cons rfl (fun K hK => ?_) ?_
          · go_simp
            go_wp2_with fail
            refine (stands_any (r 0) (s 0) (n 0) _ (hid (ID.out.1 0 (by omega)))).mono ?_
            rintro e V5 ⟨rfl, b5⟩
            have B5 := hid (ID.out.2.2.2.1.trans (b5.mono ID.out.2.2.2.1.size))
            clear b5
            go_wp2_with fail
            refine wpAny_take (i := 7) (v := ?v13) rfl (by kernel_rfl) (by kernel_rfl) (by kernel_rfl) (fun _ _ _ h => h) (Or.inl ⟨by rfl, ?h13⟩) ?_
            case h13 => (intro w; go_simp; try (with_reducible rfl))
            go_simp
            refine wpAny_take (i := 9) (v := ?v14) rfl (by kernel_rfl) (by kernel_rfl) (by kernel_rfl) (fun _ _ _ h => h) (Or.inl ⟨by rfl, ?h14⟩) ?_
            case h14 => (intro w; go_simp; try (with_reducible rfl))
            go_simp
            refine wpAny_ready (rs := [8]) (by kernel_rfl) (by simp) ?_
            refine AllReady.cons rfl (fun K hK => ?_) ?_
            · go_simp
              go_wp2_with fail
              refine (New_any _).mono ?_
              rintro e V6 ⟨rfl, A6, b6⟩
              have HA6 := hid A6
              have B6 := hid (B5.out.trans (b6.mono B5.out.size))
              clear A6 b6
              go_wp2_with fail
              refine wpAny_ready (rs := [10]) (by kernel_rfl) (by simp) ?_
              refine AllReady.cons rfl (fun K hK => ?_) ?_
              · go_simp
                go_wp2_with fail
                refine (stands_any V5.heap.size 0#32 0 _ HA6).mono ?_
                rintro e V7 ⟨rfl, b7⟩
                have B7 := hid (B6.out.trans (b7.mono B6.out.size))
                clear b7
                go_wp2_with fail
                refine wpAny_take (i := 11) (v := ?v15) rfl (by kernel_rfl) (by kernel_rfl) (by kernel_rfl) (fun _ _ _ h => h) (Or.inl ⟨by rfl, ?h15⟩) ?_
                case h15 => (intro w; go_simp; try (with_reducible rfl))
                go_simp
                refine wpAny_take (i := 12) (v := ?v16) rfl (by kernel_rfl) (by kernel_rfl) (by kernel_rfl) (fun _ _ _ h => h) (Or.inl ⟨by rfl, ?h16⟩) ?_
                case h16 => (intro w; go_simp; try (with_reducible rfl))
                go_simp
                refine wpAny_done (by kernel_rfl) ?_ _
                go_wp2_with fail
                go_ret
                exact ⟨rfl, B7.out⟩
              exact AllReady.nil
            exact AllReady.nil
          exact AllReady.nil
        exact AllReady.nil
      refine AllReady.cons rfl (fun K hK => ?_) ?_
      · go_simp
        refine hK _ _ ?_
        clear hK K
        refine wpAny_ready (rs := [2]) (by kernel_rfl) (by simp) ?_
        refine AllReady.cons rfl (fun K hK => ?_) ?_
        · go_simp
          refine hK _ _ ?_
          clear hK K
          refine wpAny_ready (rs := [6]) (by kernel_rfl) (by simp) ?_
          refine AllReady.cons rfl (fun K hK => ?_) ?_
          · go_simp
            go_wp2_with fail
            refine (stands_any (r 0) (s 0) (n 0) _ (hid (ID.out.1 0 (by omega)))).mono ?_
            rintro e V5 ⟨rfl, b5⟩
            have B5 := hid (ID.out.2.2.2.1.trans (b5.mono ID.out.2.2.2.1.size))
            clear b5
            go_wp2_with fail
            refine wpAny_take (i := 7) (v := ?v17) rfl (by kernel_rfl) (by kernel_rfl) (by kernel_rfl) (fun _ _ _ h => h) (Or.inl ⟨by rfl, ?h17⟩) ?_
            case h17 => (intro w; go_simp; try (with_reducible rfl))
            go_simp
            refine wpAny_take (i := 9) (v := ?v18) rfl (by kernel_rfl) (by kernel_rfl) (by kernel_rfl) (fun _ _ _ h => h) (Or.inl ⟨by rfl, ?h18⟩) ?_
            case h18 => (intro w; go_simp; try (with_reducible rfl))
            go_simp
            refine wpAny_ready (rs := [8]) (by kernel_rfl) (by simp) ?_
            refine AllReady.cons rfl (fun K hK => ?_) ?_
            · go_simp
              go_wp2_with fail
              refine (New_any _).mono ?_
              rintro e V6 ⟨rfl, A6, b6⟩
              have HA6 := hid A6
              have B6 := hid (B5.out.trans (b6.mono B5.out.size))
              clear A6 b6
              go_wp2_with fail
              refine wpAny_ready (rs := [10]) (by kernel_rfl) (by simp) ?_
              refine AllReady.cons rfl (fun K hK => ?_) ?_
              · go_simp
                go_wp2_with fail
                refine (stands_any V5.heap.size 0#32 0 _ HA6).mono ?_
                rintro e V7 ⟨rfl, b7⟩
                have B7 := hid (B6.out.trans (b7.mono B6.out.size))
                clear b7
                go_wp2_with fail
                refine wpAny_take (i := 11) (v := ?v19) rfl (by kernel_rfl) (by kernel_rfl) (by kernel_rfl) (fun _ _ _ h => h) (Or.inl ⟨by rfl, ?h19⟩) ?_
                case h19 => (intro w; go_simp; try (with_reducible rfl))
                go_simp
                refine wpAny_take (i := 12) (v := ?v20) rfl (by kernel_rfl) (by kernel_rfl) (by kernel_rfl) (fun _ _ _ h => h) (Or.inl ⟨by rfl, ?h20⟩) ?_
                case h20 => (intro w; go_simp; try (with_reducible rfl))
                go_simp
                refine wpAny_done (by kernel_rfl) ?_ _
                go_wp2_with fail
                go_ret
                exact ⟨rfl, B7.out⟩
              exact AllReady.nil
            exact AllReady.nil
          exact AllReady.nil
        exact AllReady.nil
      exact AllReady.nil

end Go.Proofs.YtkgmdhldongloaaDoor.Ru

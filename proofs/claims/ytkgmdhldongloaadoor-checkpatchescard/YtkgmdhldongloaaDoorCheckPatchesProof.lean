/- Proved: for every sum and every sum that is wanted, CheckPatches returns true: the four bytes that Patch tells are those of the document's definition, they bring the sum there, and each answer is new memory. The listed variable (the table of half bytes) is tied to the program's text. -/
import Derived.Test.YtkgmdhldongloaaDoorRp
import Derived.RegionTactic
import Derived.BigRegion
import Derived.BigQuiet
import Derived.Test.YtkgmdhldongloaaDoorLd
import Derived.Test.YtkgmdhldongloaaDoorCards
import Derived.Test.YtkgmdhldongloaaDoorTie
import Derived.SevenTiedAt
import Derived.ShutString
import Derived.ChangeOld
import Derived.Below
import Derived.SizedLaws
import Derived.Deep.RegionWith
namespace Go.Proofs.YtkgmdhldongloaaDoor.checkPatches
open Go.ChangeShapes Go.WideShapes Go.ChangeAt Go.RowKit
open Go.ChangeMaps (open_string shut_string)
open Go.Proofs.YtkgmdhldongloaaDoor.Crc
open Go.Proofs.YtkgmdhldongloaaDoor.Ck
open Go.Proofs.YtkgmdhldongloaaDoor.Pt
open Go.Proofs.YtkgmdhldongloaaDoor.Rp
set_option linter.unusedVariables false
theorem bu32 {v : Int} (h : (Lit.int .u32 v).wf = true) : 0 ≤ v ∧ v ≤ 4294967295 := by
  simpa [Lit.wf, IntKind.min, IntKind.max, IntKind.signed, IntKind.bits] using h
theorem ret_bool {a b : Bool} (h : a = b) : Ending.returned (.bool a) = .returned (.bool b) := by rw [h]
theorem tab_later {w w' : World} (T : Hid (Tab w)) (hb : Below w.heap.size w w') : Hid (Tab w') := fun i hi => cell_later hb (T.out i hi)
theorem row_below {w w' : World} {base g n cap : Nat} {xs : List Int} (R : Row w base g n cap xs) (b : Below w.heap.size w w') : Row w' base g n cap xs := by
  have hlt := R.lt
  refine World.ownsRow.kept (row := none) R ⟨b.os, b.tape, b.output, b.size, fun k hk _ => b.block k hk⟩ (.inr (by simp [Value.ownBlock]))
/-- What stays true of every world on the way: the first answer, the second one, the table. -/
def Env (w : World) (X : BitVec 32) (k q : Nat) (W : World) : Prop :=
  Row W k k 4 4 (pb X) ∧ Row W q q 4 4 (pb X) ∧ Hid (Tab W) ∧ Below w.heap.size w W
theorem env_later {w : World} {X : BitVec 32} {k q : Nat} {W W' : World} (h : Env w X k q W) (b : Below W.heap.size W W') : Env w X k q W' :=
  ⟨row_below h.1 b, row_below h.2.1 b, tab_later h.2.2.1 b, h.2.2.2.trans (b.mono h.2.2.2.size)⟩
theorem env_drew {w : World} {X : BitVec 32} {k q : Nat} {W : World} (h : Env w X k q W) : Env w X k q W.drew :=
  env_later h (Below.refl _ _).drew

set_option maxHeartbeats 8000000 in
set_option maxRecDepth 100000 in
theorem patches (s want : BitVec 32) (w : World) (T : Hid (Tab w)) :
    Calls Tryd.prog 6 #[.int .u32 (toI s), .int .u32 (toI want)] w fun e w' => e = .returned (.bool true) ∧ Below w.heap.size w w' := by
  obtain ⟨X, HX⟩ : ∃ X, Hid (X = word s want) := ⟨_, rfl⟩
  have HXW : Hid (extend s (pb X) = want) := by show _ = _; rw [pb_iff]; exact HX.out
  go_enter Tryd.func6, Tryd.ntmps6
  go_wp2_with fail
  refine (Patch_any s want _).mono ?_
  rintro e w1 ⟨rfl, R1, b1⟩
  rw [← HX.out] at R1
  have HR1 := hid R1
  have B1 := hid b1
  clear R1 b1
  obtain ⟨k, HK⟩ : ∃ k, Hid (k = w.heap.size) := ⟨_, rfl⟩
  rw [← HK.out] at HR1 ⊢
  go_wp2_with fail
  refine (Patch_any s want _).mono ?_
  rintro e w2 ⟨rfl, R2, b2⟩
  rw [← HX.out] at R2
  obtain ⟨q, HQ⟩ : ∃ q, Hid (q = w1.heap.size) := ⟨_, rfl⟩
  rw [← HQ.out] at R2 ⊢
  have hkq : k < q := by have := HR1.out.lt; have := HQ.out; omega
  have E2 : Hid (Env w X k q w2) := ⟨row_below HR1.out b2, R2, tab_later (tab_later T B1.out) b2, B1.out.trans (b2.mono B1.out.size)⟩
  have E3 : Hid (Env w X k q w2.drew) := env_drew E2.out
  have cA2 := Bytes.conv (E3.out.1.bytes (pb_bytes X))
  clear R2 b2 HR1 B1 T E2
  go_wp2_with fail
  refine wp_region_any (by kernel_rfl) ?_
  change wpAny _ _ _ _ _ _ _ (World.drew _)
  refine wpAny_take (i := 0) (v := ?v1) rfl (by kernel_rfl) (by kernel_rfl) (by kernel_rfl) (fun _ _ _ h => h) (Or.inl ⟨by rfl, ?h1⟩) ?_
  case h1 => (intro w; go_simp; try (with_reducible rfl))
  go_simp
  refine wpAny_take (i := 2) (v := ?v2) rfl (by kernel_rfl) (by kernel_rfl) (by kernel_rfl) (fun _ _ _ h => h) (Or.inl ⟨by rfl, ?h2⟩) ?_
  case h2 => (intro w; go_simp; try (with_reducible rfl))
  go_simp
  refine wpAny_take (i := 3) (v := ?v3) rfl (by kernel_rfl) (by kernel_rfl) (by kernel_rfl) (fun _ _ _ h => h) (Or.inl ⟨by rfl, ?h3⟩) ?_
  case h3 => (intro w; go_simp; try (with_reducible rfl))
  go_simp
  refine wpAny_ready (rs := [1, 4]) (by kernel_rfl) (by simp) ?_
  refine AllReady.cons rfl (fun K hK => ?_) ?_
  · go_simp
    refine hK _ _ ?_
    clear hK K
    refine wpAny_ready (rs := [4]) (by kernel_rfl) (by simp) ?_
    refine AllReady.cons rfl (fun K hK => ?_) ?_
    · go_simp
      go_wp2_with fail
      refine (rPatch_any s want _).mono ?_
      rintro e W4 ⟨rfl, Y4, by4⟩
      rw [← HX.out] at Y4
      have HY4 : Hid (Bytes W4 (some ⟨w2.heap.size, 0, none⟩) 4 4 (pb X)) := Y4
      have E4 := hid (env_later E3.out by4)
      have cA4 := Bytes.conv (E4.out.1.bytes (pb_bytes X))
      have cB4 := Bytes.conv HY4.out
      clear Y4 by4
      go_wp2_with fail
      refine wpAny_ready (rs := [5]) (by kernel_rfl) (by simp) ?_
      refine AllReady.cons rfl (fun K hK => ?_) ?_
      · go_simp
        refine hK _ _ ?_
        clear hK K
        refine wpAny_take (i := 6) (v := ?v4) rfl (by kernel_rfl) (by kernel_rfl) (by kernel_rfl) (fun _ _ _ h => h) (Or.inl ⟨by rfl, ?h4⟩) ?_
        case h4 => (intro w; go_simp; try (with_reducible rfl))
        go_simp
        refine wpAny_take (i := 7) (v := ?v5) rfl (by kernel_rfl) (by kernel_rfl) (by kernel_rfl) (fun _ _ _ h => h) (Or.inl ⟨by rfl, ?h5⟩) ?_
        case h5 => (intro w; go_simp; try (with_reducible rfl))
        go_simp
        refine wpAny_take (i := 8) (v := ?v6) rfl (by kernel_rfl) (by kernel_rfl) (by kernel_rfl) (fun _ _ _ h => h) (Or.inl ⟨by rfl, ?h6⟩) ?_
        case h6 => (intro w; go_simp; try (with_reducible rfl))
        go_simp
        refine wpAny_take (i := 9) (v := ?v7) rfl (by kernel_rfl) (by kernel_rfl) (by kernel_rfl) (fun _ _ _ h => h) (Or.inl ⟨by rfl, ?h7⟩) ?_
        case h7 => (intro w; go_simp; try (with_reducible rfl))
        go_simp
        refine wpAny_take (i := 11) (v := ?v8) rfl (by kernel_rfl) (by kernel_rfl) (by kernel_rfl) (fun _ _ _ h => h) (Or.inl ⟨by rfl, ?h8⟩) ?_
        case h8 => (intro w; go_simp; try (with_reducible rfl))
        go_simp
        refine wpAny_ready (rs := [10]) (by kernel_rfl) (by simp) ?_
        refine AllReady.cons rfl (fun K hK => ?_) ?_
        · go_simp
          go_wp2_with fail
          refine (Extend_any s _ _ _ _ _ E4.out.2.2.1 (E4.out.1.bytes (pb_bytes X)) (by omega)).mono ?_
          rintro e W9 ⟨rfl, rfl⟩
          rw [HXW.out]
          clear cA4 cB4
          go_wp2_with fail
          refine wpAny_take (i := 12) (v := ?v9) rfl (by kernel_rfl) (by kernel_rfl) (by kernel_rfl) (fun _ _ _ h => h) (Or.inl ⟨by rfl, ?h9⟩) ?_
          case h9 => (intro w; go_simp; try (with_reducible rfl))
          go_simp
          refine wpAny_take (i := 13) (v := ?v10) rfl (by kernel_rfl) (by kernel_rfl) (by kernel_rfl) (fun _ _ _ h => h) (Or.inl ⟨by rfl, ?h10⟩) ?_
          case h10 => (intro w; go_simp; try (with_reducible rfl))
          go_simp
          refine wpAny_done (by kernel_rfl) ?_ _
          clear HY4
          go_wp2_with fail
          have hq0 : k ≠ q := by omega
          go_loopw [7] (fun i wr => ∃ j : Nat, ∃ xs : List Int, j ≤ 4 ∧ i = .int .i64 j ∧ Hid (Row wr k k 4 4 xs) ∧ Hid (Row wr q q 4 4 (pb X)) ∧ Hid (Below w.heap.size w wr)) (fun i _ => 4 - (intOf i).toNat)
          case atStart => exact ⟨0, pb X, by omega, rfl, E4.out.1, E4.out.2.1, E4.out.2.2.2⟩
          case round =>
            obtain ⟨j, xs, hj, rfl, hrow, hq, hbel⟩ := hrel
            clear E4 E3 cA2
            by_cases h : j < 4
            · have kr := hrow.out.cell j h
              have hfz : wr.frozen? ⟨k, j, none⟩ = false := World.ownsRow.frozenAt hrow.out j
              generalize xs.getD j 0 = y at kr
              have RS := row_set hrow.out j ((y + 1) % 256)
              have R3 := hid RS.1
              have Q3 := hid (hq.out.kept RS.2 (by simp; exact hq0))
              have B3 : Hid (Below w.heap.size w (wr.setCell ⟨k, j, none⟩ (.int .u8 ((y + 1) % 256)))) := hbel.out.grown RS.2 hbel.out.size (by intro a ha; simp at ha; have := HK.out; omega)
              clear RS hrow hbel hq
              go_wp2_with fail
              go_roundw
              case rel => exact ⟨j + 1, _, by omega, by go_num, R3, Q3, B3⟩
              case measure => simp [intOf]; omega
            · have : j = 4 := by omega
              subst this
              have QB : Hid (Row wr.drew q q 4 4 (pb X) ∧ Below w.heap.size w wr.drew) := ⟨World.ownsRow.drew hq.out, hbel.out.drew⟩
              have cE := Bytes.conv (QB.out.1.bytes (pb_bytes X))
              clear hrow hq hbel
              go_wp2_with fail
              refine wp_region_any (by kernel_rfl) ?_
              change wpAny _ _ _ _ _ _ _ (World.drew _)
              refine wpAny_take (i := 0) (v := ?v11) rfl (by kernel_rfl) (by kernel_rfl) (by kernel_rfl) (fun _ _ _ h => h) (Or.inl ⟨by rfl, ?h11⟩) ?_
              case h11 => (intro w; go_simp; try (with_reducible rfl))
              go_simp
              refine wpAny_take (i := 2) (v := ?v12) rfl (by kernel_rfl) (by kernel_rfl) (by kernel_rfl) (fun _ _ _ h => h) (Or.inl ⟨by rfl, ?h12⟩) ?_
              case h12 => (intro w; go_simp; try (with_reducible rfl))
              go_simp
              refine wpAny_take (i := 3) (v := ?v13) rfl (by kernel_rfl) (by kernel_rfl) (by kernel_rfl) (fun _ _ _ h => h) (Or.inl ⟨by rfl, ?h13⟩) ?_
              case h13 => (intro w; go_simp; try (with_reducible rfl))
              go_simp
              refine wpAny_ready (rs := [1, 4]) (by kernel_rfl) (by simp) ?_
              refine AllReady.cons rfl (fun K hK => ?_) ?_
              · go_simp
                refine hK _ _ ?_
                clear hK K
                refine wpAny_ready (rs := [4]) (by kernel_rfl) (by simp) ?_
                refine AllReady.cons rfl (fun K hK => ?_) ?_
                · go_simp
                  go_wp2_with fail
                  refine (rPatch_any s want _).mono ?_
                  rintro e V4 ⟨rfl, Z4, bz4⟩
                  rw [← HX.out] at Z4
                  have HZ4 : Hid (Bytes V4 (some ⟨wr.heap.size, 0, none⟩) 4 4 (pb X)) := Z4
                  have Q4 := hid (row_below QB.out.1 bz4)
                  have BB4 := hid (QB.out.2.trans (bz4.mono QB.out.2.size))
                  have cC := Bytes.conv (Q4.out.bytes (pb_bytes X))
                  have cD := Bytes.conv HZ4.out
                  clear Z4 bz4
                  go_wp2_with fail
                  refine wpAny_ready (rs := [5]) (by kernel_rfl) (by simp) ?_
                  refine AllReady.cons rfl (fun K hK => ?_) ?_
                  · go_simp
                    refine hK _ _ ?_
                    clear hK K
                    refine wpAny_take (i := 6) (v := ?v14) rfl (by kernel_rfl) (by kernel_rfl) (by kernel_rfl) (fun _ _ _ h => h) (Or.inl ⟨by rfl, ?h14⟩) ?_
                    case h14 => (intro w; go_simp; try (with_reducible rfl))
                    go_simp
                    refine wpAny_take (i := 7) (v := ?v15) rfl (by kernel_rfl) (by kernel_rfl) (by kernel_rfl) (fun _ _ _ h => h) (Or.inl ⟨by rfl, ?h15⟩) ?_
                    case h15 => (intro w; go_simp; try (with_reducible rfl))
                    go_simp
                    refine wpAny_done (by kernel_rfl) ?_ _
                    go_wp2_with fail
                    go_ret
                    exact ⟨rfl, BB4.out⟩
                  exact AllReady.nil
                exact AllReady.nil
              refine AllReady.cons rfl (fun K hK => ?_) ?_
              · go_simp
                go_wp2_with fail
                refine (rPatch_any s want _).mono ?_
                rintro e V4 ⟨rfl, Z4, bz4⟩
                rw [← HX.out] at Z4
                have HZ4 : Hid (Bytes V4 (some ⟨wr.heap.size, 0, none⟩) 4 4 (pb X)) := Z4
                have Q4 := hid (row_below QB.out.1 bz4)
                have BB4 := hid (QB.out.2.trans (bz4.mono QB.out.2.size))
                have cC := Bytes.conv (Q4.out.bytes (pb_bytes X))
                have cD := Bytes.conv HZ4.out
                clear Z4 bz4
                go_wp2_with fail
                refine wpAny_ready (rs := [1, 5]) (by kernel_rfl) (by simp) ?_
                refine AllReady.cons rfl (fun K hK => ?_) ?_
                · go_simp
                  refine hK _ _ ?_
                  clear hK K
                  refine wpAny_ready (rs := [5]) (by kernel_rfl) (by simp) ?_
                  refine AllReady.cons rfl (fun K hK => ?_) ?_
                  · go_simp
                    refine hK _ _ ?_
                    clear hK K
                    refine wpAny_take (i := 6) (v := ?v16) rfl (by kernel_rfl) (by kernel_rfl) (by kernel_rfl) (fun _ _ _ h => h) (Or.inl ⟨by rfl, ?h16⟩) ?_
                    case h16 => (intro w; go_simp; try (with_reducible rfl))
                    go_simp
                    refine wpAny_take (i := 7) (v := ?v17) rfl (by kernel_rfl) (by kernel_rfl) (by kernel_rfl) (fun _ _ _ h => h) (Or.inl ⟨by rfl, ?h17⟩) ?_
                    case h17 => (intro w; go_simp; try (with_reducible rfl))
                    go_simp
                    refine wpAny_done (by kernel_rfl) ?_ _
                    go_wp2_with fail
                    go_ret
                    exact ⟨rfl, BB4.out⟩
                  exact AllReady.nil
                refine AllReady.cons rfl (fun K hK => ?_) ?_
                · go_simp
                  refine hK _ _ ?_
                  clear hK K
                  refine wpAny_ready (rs := [1]) (by kernel_rfl) (by simp) ?_
                  refine AllReady.cons rfl (fun K hK => ?_) ?_
                  · go_simp
                    refine hK _ _ ?_
                    clear hK K
                    refine wpAny_take (i := 6) (v := ?v18) rfl (by kernel_rfl) (by kernel_rfl) (by kernel_rfl) (fun _ _ _ h => h) (Or.inl ⟨by rfl, ?h18⟩) ?_
                    case h18 => (intro w; go_simp; try (with_reducible rfl))
                    go_simp
                    refine wpAny_take (i := 7) (v := ?v19) rfl (by kernel_rfl) (by kernel_rfl) (by kernel_rfl) (fun _ _ _ h => h) (Or.inl ⟨by rfl, ?h19⟩) ?_
                    case h19 => (intro w; go_simp; try (with_reducible rfl))
                    go_simp
                    refine wpAny_done (by kernel_rfl) ?_ _
                    go_wp2_with fail
                    go_ret
                    exact ⟨rfl, BB4.out⟩
                  exact AllReady.nil
                exact AllReady.nil
              exact AllReady.nil
        exact AllReady.nil
      exact AllReady.nil
    exact AllReady.nil
  refine AllReady.cons rfl (fun K hK => ?_) ?_
  · go_simp
    go_wp2_with fail
    refine (rPatch_any s want _).mono ?_
    rintro e W4 ⟨rfl, Y4, by4⟩
    rw [← HX.out] at Y4
    have HY4 : Hid (Bytes W4 (some ⟨w2.heap.size, 0, none⟩) 4 4 (pb X)) := Y4
    have E4 := hid (env_later E3.out by4)
    have cA4 := Bytes.conv (E4.out.1.bytes (pb_bytes X))
    have cB4 := Bytes.conv HY4.out
    clear Y4 by4
    go_wp2_with fail
    refine wpAny_ready (rs := [1, 5]) (by kernel_rfl) (by simp) ?_
    refine AllReady.cons rfl (fun K hK => ?_) ?_
    · go_simp
      refine hK _ _ ?_
      clear hK K
      refine wpAny_ready (rs := [5]) (by kernel_rfl) (by simp) ?_
      refine AllReady.cons rfl (fun K hK => ?_) ?_
      · go_simp
        refine hK _ _ ?_
        clear hK K
        refine wpAny_take (i := 6) (v := ?v20) rfl (by kernel_rfl) (by kernel_rfl) (by kernel_rfl) (fun _ _ _ h => h) (Or.inl ⟨by rfl, ?h20⟩) ?_
        case h20 => (intro w; go_simp; try (with_reducible rfl))
        go_simp
        refine wpAny_take (i := 7) (v := ?v21) rfl (by kernel_rfl) (by kernel_rfl) (by kernel_rfl) (fun _ _ _ h => h) (Or.inl ⟨by rfl, ?h21⟩) ?_
        case h21 => (intro w; go_simp; try (with_reducible rfl))
        go_simp
        refine wpAny_take (i := 8) (v := ?v22) rfl (by kernel_rfl) (by kernel_rfl) (by kernel_rfl) (fun _ _ _ h => h) (Or.inl ⟨by rfl, ?h22⟩) ?_
        case h22 => (intro w; go_simp; try (with_reducible rfl))
        go_simp
        refine wpAny_take (i := 9) (v := ?v23) rfl (by kernel_rfl) (by kernel_rfl) (by kernel_rfl) (fun _ _ _ h => h) (Or.inl ⟨by rfl, ?h23⟩) ?_
        case h23 => (intro w; go_simp; try (with_reducible rfl))
        go_simp
        refine wpAny_take (i := 11) (v := ?v24) rfl (by kernel_rfl) (by kernel_rfl) (by kernel_rfl) (fun _ _ _ h => h) (Or.inl ⟨by rfl, ?h24⟩) ?_
        case h24 => (intro w; go_simp; try (with_reducible rfl))
        go_simp
        refine wpAny_ready (rs := [10]) (by kernel_rfl) (by simp) ?_
        refine AllReady.cons rfl (fun K hK => ?_) ?_
        · go_simp
          go_wp2_with fail
          refine (Extend_any s _ _ _ _ _ E4.out.2.2.1 (E4.out.1.bytes (pb_bytes X)) (by omega)).mono ?_
          rintro e W9 ⟨rfl, rfl⟩
          rw [HXW.out]
          clear cA4 cB4
          go_wp2_with fail
          refine wpAny_take (i := 12) (v := ?v25) rfl (by kernel_rfl) (by kernel_rfl) (by kernel_rfl) (fun _ _ _ h => h) (Or.inl ⟨by rfl, ?h25⟩) ?_
          case h25 => (intro w; go_simp; try (with_reducible rfl))
          go_simp
          refine wpAny_take (i := 13) (v := ?v26) rfl (by kernel_rfl) (by kernel_rfl) (by kernel_rfl) (fun _ _ _ h => h) (Or.inl ⟨by rfl, ?h26⟩) ?_
          case h26 => (intro w; go_simp; try (with_reducible rfl))
          go_simp
          refine wpAny_done (by kernel_rfl) ?_ _
          clear HY4
          go_wp2_with fail
          have hq0 : k ≠ q := by omega
          go_loopw [7] (fun i wr => ∃ j : Nat, ∃ xs : List Int, j ≤ 4 ∧ i = .int .i64 j ∧ Hid (Row wr k k 4 4 xs) ∧ Hid (Row wr q q 4 4 (pb X)) ∧ Hid (Below w.heap.size w wr)) (fun i _ => 4 - (intOf i).toNat)
          case atStart => exact ⟨0, pb X, by omega, rfl, E4.out.1, E4.out.2.1, E4.out.2.2.2⟩
          case round =>
            obtain ⟨j, xs, hj, rfl, hrow, hq, hbel⟩ := hrel
            clear E4 E3 cA2
            by_cases h : j < 4
            · have kr := hrow.out.cell j h
              have hfz : wr.frozen? ⟨k, j, none⟩ = false := World.ownsRow.frozenAt hrow.out j
              generalize xs.getD j 0 = y at kr
              have RS := row_set hrow.out j ((y + 1) % 256)
              have R3 := hid RS.1
              have Q3 := hid (hq.out.kept RS.2 (by simp; exact hq0))
              have B3 : Hid (Below w.heap.size w (wr.setCell ⟨k, j, none⟩ (.int .u8 ((y + 1) % 256)))) := hbel.out.grown RS.2 hbel.out.size (by intro a ha; simp at ha; have := HK.out; omega)
              clear RS hrow hbel hq
              go_wp2_with fail
              go_roundw
              case rel => exact ⟨j + 1, _, by omega, by go_num, R3, Q3, B3⟩
              case measure => simp [intOf]; omega
            · have : j = 4 := by omega
              subst this
              have QB : Hid (Row wr.drew q q 4 4 (pb X) ∧ Below w.heap.size w wr.drew) := ⟨World.ownsRow.drew hq.out, hbel.out.drew⟩
              have cE := Bytes.conv (QB.out.1.bytes (pb_bytes X))
              clear hrow hq hbel
              go_wp2_with fail
              refine wp_region_any (by kernel_rfl) ?_
              change wpAny _ _ _ _ _ _ _ (World.drew _)
              refine wpAny_take (i := 0) (v := ?v27) rfl (by kernel_rfl) (by kernel_rfl) (by kernel_rfl) (fun _ _ _ h => h) (Or.inl ⟨by rfl, ?h27⟩) ?_
              case h27 => (intro w; go_simp; try (with_reducible rfl))
              go_simp
              refine wpAny_take (i := 2) (v := ?v28) rfl (by kernel_rfl) (by kernel_rfl) (by kernel_rfl) (fun _ _ _ h => h) (Or.inl ⟨by rfl, ?h28⟩) ?_
              case h28 => (intro w; go_simp; try (with_reducible rfl))
              go_simp
              refine wpAny_take (i := 3) (v := ?v29) rfl (by kernel_rfl) (by kernel_rfl) (by kernel_rfl) (fun _ _ _ h => h) (Or.inl ⟨by rfl, ?h29⟩) ?_
              case h29 => (intro w; go_simp; try (with_reducible rfl))
              go_simp
              refine wpAny_ready (rs := [1, 4]) (by kernel_rfl) (by simp) ?_
              refine AllReady.cons rfl (fun K hK => ?_) ?_
              · go_simp
                refine hK _ _ ?_
                clear hK K
                refine wpAny_ready (rs := [4]) (by kernel_rfl) (by simp) ?_
                refine AllReady.cons rfl (fun K hK => ?_) ?_
                · go_simp
                  go_wp2_with fail
                  refine (rPatch_any s want _).mono ?_
                  rintro e V4 ⟨rfl, Z4, bz4⟩
                  rw [← HX.out] at Z4
                  have HZ4 : Hid (Bytes V4 (some ⟨wr.heap.size, 0, none⟩) 4 4 (pb X)) := Z4
                  have Q4 := hid (row_below QB.out.1 bz4)
                  have BB4 := hid (QB.out.2.trans (bz4.mono QB.out.2.size))
                  have cC := Bytes.conv (Q4.out.bytes (pb_bytes X))
                  have cD := Bytes.conv HZ4.out
                  clear Z4 bz4
                  go_wp2_with fail
                  refine wpAny_ready (rs := [5]) (by kernel_rfl) (by simp) ?_
                  refine AllReady.cons rfl (fun K hK => ?_) ?_
                  · go_simp
                    refine hK _ _ ?_
                    clear hK K
                    refine wpAny_take (i := 6) (v := ?v30) rfl (by kernel_rfl) (by kernel_rfl) (by kernel_rfl) (fun _ _ _ h => h) (Or.inl ⟨by rfl, ?h30⟩) ?_
                    case h30 => (intro w; go_simp; try (with_reducible rfl))
                    go_simp
                    refine wpAny_take (i := 7) (v := ?v31) rfl (by kernel_rfl) (by kernel_rfl) (by kernel_rfl) (fun _ _ _ h => h) (Or.inl ⟨by rfl, ?h31⟩) ?_
                    case h31 => (intro w; go_simp; try (with_reducible rfl))
                    go_simp
                    refine wpAny_done (by kernel_rfl) ?_ _
                    go_wp2_with fail
                    go_ret
                    exact ⟨rfl, BB4.out⟩
                  exact AllReady.nil
                exact AllReady.nil
              refine AllReady.cons rfl (fun K hK => ?_) ?_
              · go_simp
                go_wp2_with fail
                refine (rPatch_any s want _).mono ?_
                rintro e V4 ⟨rfl, Z4, bz4⟩
                rw [← HX.out] at Z4
                have HZ4 : Hid (Bytes V4 (some ⟨wr.heap.size, 0, none⟩) 4 4 (pb X)) := Z4
                have Q4 := hid (row_below QB.out.1 bz4)
                have BB4 := hid (QB.out.2.trans (bz4.mono QB.out.2.size))
                have cC := Bytes.conv (Q4.out.bytes (pb_bytes X))
                have cD := Bytes.conv HZ4.out
                clear Z4 bz4
                go_wp2_with fail
                refine wpAny_ready (rs := [1, 5]) (by kernel_rfl) (by simp) ?_
                refine AllReady.cons rfl (fun K hK => ?_) ?_
                · go_simp
                  refine hK _ _ ?_
                  clear hK K
                  refine wpAny_ready (rs := [5]) (by kernel_rfl) (by simp) ?_
                  refine AllReady.cons rfl (fun K hK => ?_) ?_
                  · go_simp
                    refine hK _ _ ?_
                    clear hK K
                    refine wpAny_take (i := 6) (v := ?v32) rfl (by kernel_rfl) (by kernel_rfl) (by kernel_rfl) (fun _ _ _ h => h) (Or.inl ⟨by rfl, ?h32⟩) ?_
                    case h32 => (intro w; go_simp; try (with_reducible rfl))
                    go_simp
                    refine wpAny_take (i := 7) (v := ?v33) rfl (by kernel_rfl) (by kernel_rfl) (by kernel_rfl) (fun _ _ _ h => h) (Or.inl ⟨by rfl, ?h33⟩) ?_
                    case h33 => (intro w; go_simp; try (with_reducible rfl))
                    go_simp
                    refine wpAny_done (by kernel_rfl) ?_ _
                    go_wp2_with fail
                    go_ret
                    exact ⟨rfl, BB4.out⟩
                  exact AllReady.nil
                refine AllReady.cons rfl (fun K hK => ?_) ?_
                · go_simp
                  refine hK _ _ ?_
                  clear hK K
                  refine wpAny_ready (rs := [1]) (by kernel_rfl) (by simp) ?_
                  refine AllReady.cons rfl (fun K hK => ?_) ?_
                  · go_simp
                    refine hK _ _ ?_
                    clear hK K
                    refine wpAny_take (i := 6) (v := ?v34) rfl (by kernel_rfl) (by kernel_rfl) (by kernel_rfl) (fun _ _ _ h => h) (Or.inl ⟨by rfl, ?h34⟩) ?_
                    case h34 => (intro w; go_simp; try (with_reducible rfl))
                    go_simp
                    refine wpAny_take (i := 7) (v := ?v35) rfl (by kernel_rfl) (by kernel_rfl) (by kernel_rfl) (fun _ _ _ h => h) (Or.inl ⟨by rfl, ?h35⟩) ?_
                    case h35 => (intro w; go_simp; try (with_reducible rfl))
                    go_simp
                    refine wpAny_done (by kernel_rfl) ?_ _
                    go_wp2_with fail
                    go_ret
                    exact ⟨rfl, BB4.out⟩
                  exact AllReady.nil
                exact AllReady.nil
              exact AllReady.nil
        exact AllReady.nil
      exact AllReady.nil
    refine AllReady.cons rfl (fun K hK => ?_) ?_
    · go_simp
      refine hK _ _ ?_
      clear hK K
      refine wpAny_ready (rs := [1]) (by kernel_rfl) (by simp) ?_
      refine AllReady.cons rfl (fun K hK => ?_) ?_
      · go_simp
        refine hK _ _ ?_
        clear hK K
        refine wpAny_take (i := 6) (v := ?v36) rfl (by kernel_rfl) (by kernel_rfl) (by kernel_rfl) (fun _ _ _ h => h) (Or.inl ⟨by rfl, ?h36⟩) ?_
        case h36 => (intro w; go_simp; try (with_reducible rfl))
        go_simp
        refine wpAny_take (i := 7) (v := ?v37) rfl (by kernel_rfl) (by kernel_rfl) (by kernel_rfl) (fun _ _ _ h => h) (Or.inl ⟨by rfl, ?h37⟩) ?_
        case h37 => (intro w; go_simp; try (with_reducible rfl))
        go_simp
        refine wpAny_take (i := 8) (v := ?v38) rfl (by kernel_rfl) (by kernel_rfl) (by kernel_rfl) (fun _ _ _ h => h) (Or.inl ⟨by rfl, ?h38⟩) ?_
        case h38 => (intro w; go_simp; try (with_reducible rfl))
        go_simp
        refine wpAny_take (i := 9) (v := ?v39) rfl (by kernel_rfl) (by kernel_rfl) (by kernel_rfl) (fun _ _ _ h => h) (Or.inl ⟨by rfl, ?h39⟩) ?_
        case h39 => (intro w; go_simp; try (with_reducible rfl))
        go_simp
        refine wpAny_take (i := 11) (v := ?v40) rfl (by kernel_rfl) (by kernel_rfl) (by kernel_rfl) (fun _ _ _ h => h) (Or.inl ⟨by rfl, ?h40⟩) ?_
        case h40 => (intro w; go_simp; try (with_reducible rfl))
        go_simp
        refine wpAny_ready (rs := [10]) (by kernel_rfl) (by simp) ?_
        refine AllReady.cons rfl (fun K hK => ?_) ?_
        · go_simp
          go_wp2_with fail
          refine (Extend_any s _ _ _ _ _ E4.out.2.2.1 (E4.out.1.bytes (pb_bytes X)) (by omega)).mono ?_
          rintro e W9 ⟨rfl, rfl⟩
          rw [HXW.out]
          clear cA4 cB4
          go_wp2_with fail
          refine wpAny_take (i := 12) (v := ?v41) rfl (by kernel_rfl) (by kernel_rfl) (by kernel_rfl) (fun _ _ _ h => h) (Or.inl ⟨by rfl, ?h41⟩) ?_
          case h41 => (intro w; go_simp; try (with_reducible rfl))
          go_simp
          refine wpAny_take (i := 13) (v := ?v42) rfl (by kernel_rfl) (by kernel_rfl) (by kernel_rfl) (fun _ _ _ h => h) (Or.inl ⟨by rfl, ?h42⟩) ?_
          case h42 => (intro w; go_simp; try (with_reducible rfl))
          go_simp
          refine wpAny_done (by kernel_rfl) ?_ _
          clear HY4
          go_wp2_with fail
          have hq0 : k ≠ q := by omega
          go_loopw [7] (fun i wr => ∃ j : Nat, ∃ xs : List Int, j ≤ 4 ∧ i = .int .i64 j ∧ Hid (Row wr k k 4 4 xs) ∧ Hid (Row wr q q 4 4 (pb X)) ∧ Hid (Below w.heap.size w wr)) (fun i _ => 4 - (intOf i).toNat)
          case atStart => exact ⟨0, pb X, by omega, rfl, E4.out.1, E4.out.2.1, E4.out.2.2.2⟩
          case round =>
            obtain ⟨j, xs, hj, rfl, hrow, hq, hbel⟩ := hrel
            clear E4 E3 cA2
            by_cases h : j < 4
            · have kr := hrow.out.cell j h
              have hfz : wr.frozen? ⟨k, j, none⟩ = false := World.ownsRow.frozenAt hrow.out j
              generalize xs.getD j 0 = y at kr
              have RS := row_set hrow.out j ((y + 1) % 256)
              have R3 := hid RS.1
              have Q3 := hid (hq.out.kept RS.2 (by simp; exact hq0))
              have B3 : Hid (Below w.heap.size w (wr.setCell ⟨k, j, none⟩ (.int .u8 ((y + 1) % 256)))) := hbel.out.grown RS.2 hbel.out.size (by intro a ha; simp at ha; have := HK.out; omega)
              clear RS hrow hbel hq
              go_wp2_with fail
              go_roundw
              case rel => exact ⟨j + 1, _, by omega, by go_num, R3, Q3, B3⟩
              case measure => simp [intOf]; omega
            · have : j = 4 := by omega
              subst this
              have QB : Hid (Row wr.drew q q 4 4 (pb X) ∧ Below w.heap.size w wr.drew) := ⟨World.ownsRow.drew hq.out, hbel.out.drew⟩
              have cE := Bytes.conv (QB.out.1.bytes (pb_bytes X))
              clear hrow hq hbel
              go_wp2_with fail
              refine wp_region_any (by kernel_rfl) ?_
              change wpAny _ _ _ _ _ _ _ (World.drew _)
              refine wpAny_take (i := 0) (v := ?v43) rfl (by kernel_rfl) (by kernel_rfl) (by kernel_rfl) (fun _ _ _ h => h) (Or.inl ⟨by rfl, ?h43⟩) ?_
              case h43 => (intro w; go_simp; try (with_reducible rfl))
              go_simp
              refine wpAny_take (i := 2) (v := ?v44) rfl (by kernel_rfl) (by kernel_rfl) (by kernel_rfl) (fun _ _ _ h => h) (Or.inl ⟨by rfl, ?h44⟩) ?_
              case h44 => (intro w; go_simp; try (with_reducible rfl))
              go_simp
              refine wpAny_take (i := 3) (v := ?v45) rfl (by kernel_rfl) (by kernel_rfl) (by kernel_rfl) (fun _ _ _ h => h) (Or.inl ⟨by rfl, ?h45⟩) ?_
              case h45 => (intro w; go_simp; try (with_reducible rfl))
              go_simp
              refine wpAny_ready (rs := [1, 4]) (by kernel_rfl) (by simp) ?_
              refine AllReady.cons rfl (fun K hK => ?_) ?_
              · go_simp
                refine hK _ _ ?_
                clear hK K
                refine wpAny_ready (rs := [4]) (by kernel_rfl) (by simp) ?_
                refine AllReady.cons rfl (fun K hK => ?_) ?_
                · go_simp
                  go_wp2_with fail
                  refine (rPatch_any s want _).mono ?_
                  rintro e V4 ⟨rfl, Z4, bz4⟩
                  rw [← HX.out] at Z4
                  have HZ4 : Hid (Bytes V4 (some ⟨wr.heap.size, 0, none⟩) 4 4 (pb X)) := Z4
                  have Q4 := hid (row_below QB.out.1 bz4)
                  have BB4 := hid (QB.out.2.trans (bz4.mono QB.out.2.size))
                  have cC := Bytes.conv (Q4.out.bytes (pb_bytes X))
                  have cD := Bytes.conv HZ4.out
                  clear Z4 bz4
                  go_wp2_with fail
                  refine wpAny_ready (rs := [5]) (by kernel_rfl) (by simp) ?_
                  refine AllReady.cons rfl (fun K hK => ?_) ?_
                  · go_simp
                    refine hK _ _ ?_
                    clear hK K
                    refine wpAny_take (i := 6) (v := ?v46) rfl (by kernel_rfl) (by kernel_rfl) (by kernel_rfl) (fun _ _ _ h => h) (Or.inl ⟨by rfl, ?h46⟩) ?_
                    case h46 => (intro w; go_simp; try (with_reducible rfl))
                    go_simp
                    refine wpAny_take (i := 7) (v := ?v47) rfl (by kernel_rfl) (by kernel_rfl) (by kernel_rfl) (fun _ _ _ h => h) (Or.inl ⟨by rfl, ?h47⟩) ?_
                    case h47 => (intro w; go_simp; try (with_reducible rfl))
                    go_simp
                    refine wpAny_done (by kernel_rfl) ?_ _
                    go_wp2_with fail
                    go_ret
                    exact ⟨rfl, BB4.out⟩
                  exact AllReady.nil
                exact AllReady.nil
              refine AllReady.cons rfl (fun K hK => ?_) ?_
              · go_simp
                go_wp2_with fail
                refine (rPatch_any s want _).mono ?_
                rintro e V4 ⟨rfl, Z4, bz4⟩
                rw [← HX.out] at Z4
                have HZ4 : Hid (Bytes V4 (some ⟨wr.heap.size, 0, none⟩) 4 4 (pb X)) := Z4
                have Q4 := hid (row_below QB.out.1 bz4)
                have BB4 := hid (QB.out.2.trans (bz4.mono QB.out.2.size))
                have cC := Bytes.conv (Q4.out.bytes (pb_bytes X))
                have cD := Bytes.conv HZ4.out
                clear Z4 bz4
                go_wp2_with fail
                refine wpAny_ready (rs := [1, 5]) (by kernel_rfl) (by simp) ?_
                refine AllReady.cons rfl (fun K hK => ?_) ?_
                · go_simp
                  refine hK _ _ ?_
                  clear hK K
                  refine wpAny_ready (rs := [5]) (by kernel_rfl) (by simp) ?_
                  refine AllReady.cons rfl (fun K hK => ?_) ?_
                  · go_simp
                    refine hK _ _ ?_
                    clear hK K
                    refine wpAny_take (i := 6) (v := ?v48) rfl (by kernel_rfl) (by kernel_rfl) (by kernel_rfl) (fun _ _ _ h => h) (Or.inl ⟨by rfl, ?h48⟩) ?_
                    case h48 => (intro w; go_simp; try (with_reducible rfl))
                    go_simp
                    refine wpAny_take (i := 7) (v := ?v49) rfl (by kernel_rfl) (by kernel_rfl) (by kernel_rfl) (fun _ _ _ h => h) (Or.inl ⟨by rfl, ?h49⟩) ?_
                    case h49 => (intro w; go_simp; try (with_reducible rfl))
                    go_simp
                    refine wpAny_done (by kernel_rfl) ?_ _
                    go_wp2_with fail
                    go_ret
                    exact ⟨rfl, BB4.out⟩
                  exact AllReady.nil
                refine AllReady.cons rfl (fun K hK => ?_) ?_
                · go_simp
                  refine hK _ _ ?_
                  clear hK K
                  refine wpAny_ready (rs := [1]) (by kernel_rfl) (by simp) ?_
                  refine AllReady.cons rfl (fun K hK => ?_) ?_
                  · go_simp
                    refine hK _ _ ?_
                    clear hK K
                    refine wpAny_take (i := 6) (v := ?v50) rfl (by kernel_rfl) (by kernel_rfl) (by kernel_rfl) (fun _ _ _ h => h) (Or.inl ⟨by rfl, ?h50⟩) ?_
                    case h50 => (intro w; go_simp; try (with_reducible rfl))
                    go_simp
                    refine wpAny_take (i := 7) (v := ?v51) rfl (by kernel_rfl) (by kernel_rfl) (by kernel_rfl) (fun _ _ _ h => h) (Or.inl ⟨by rfl, ?h51⟩) ?_
                    case h51 => (intro w; go_simp; try (with_reducible rfl))
                    go_simp
                    refine wpAny_done (by kernel_rfl) ?_ _
                    go_wp2_with fail
                    go_ret
                    exact ⟨rfl, BB4.out⟩
                  exact AllReady.nil
                exact AllReady.nil
              exact AllReady.nil
        exact AllReady.nil
      exact AllReady.nil
    exact AllReady.nil
  exact AllReady.nil

theorem walk (a0 a1 : Int) (w : World) (T : Hid (Tab w)) (w0 : (Lit.int .u32 a0).wf = true) (w1 : (Lit.int .u32 a1).wf = true) :
    Calls Tryd.prog 6 #[.int .u32 a0, .int .u32 a1] w fun e w' => e = .returned (.bool true) ∧ Below w.heap.size w w' := by
  have := patches (BitVec.ofInt 32 a0) (BitVec.ofInt 32 a1) w T
  rwa [toI_ofI a0 (bu32 w0), toI_ofI a1 (bu32 w1)] at this

theorem own : ownKnob Tryd.prog.godebug = none := by kernel_rfl
theorem laidOut : laidOutB Tryd.prog = true := by kernel_rfl
theorem bytes5 : Tryd.prog.bytesOf 5 = 1 := by kernel_rfl
theorem u8_bd {y : Int} (h : (Lit.int .u8 y).wf = true) : 0 ≤ y ∧ y ≤ 255 := by
  simpa [Lit.wf, IntKind.min, IntKind.max, IntKind.signed, IntKind.bits] using h

/-! ### The row's step -/
set_option maxRecDepth 100000 in
theorem lifted (os : Os) (started : os.Started) (H : Type) (enc : TypeId × Value → H) :
    ReturnsInHanded {} Tryd.checked os 6 .any (fun w args => (Rows.checkPatchesSpec.pre enc Tryd.prog Tryd.f6 [] false w args ∧ laidMetH Tryd.prog Ld.laid w) ∧ sizedMet enc Tryd.prog Tryd.f6 (OpenSpec.ofChange Rows.checkPatchesSpec) false w args)
      (Rows.checkPatchesSpec.post enc Tryd.prog Tryd.f6 false true false false) := by
  refine returnsInHanded_of_change_and (C := Tryd.checked) (X := fun w _ => laidMetH Tryd.prog Ld.laid w) (fun _ _ _ hh h => h.of_heap hh) own started (by kernel_rfl) Tryd.func6
    (ChangeSpec.witness_shaped (enc := enc) (C := Tryd.checked) (os := os) (X := fun w _ => laidMetH Tryd.prog Ld.laid w) false (World.doorLaid Tryd.prog 400 os) #[.int .u32 0, .int .u32 0] 8 rfl (World.shaped_of_RefB (by kernel_rfl) (by kernel_rfl)) (by kernel_rfl) (by kernel_rfl) (by kernel_rfl) (Ld.door_met os _)) ?_
  intro W base args ds gs before hval0 hW hcnd hsz0 hL _
  have T : Hid (Ck.Tab W) := Ld.tab_of hL
  have hval : ∀ (j : Nat) t v, Tryd.f6.params[j]? = some t → args[j]? = some v → Value.okWide Tryd.prog W .any base t v := hval0
  have hsz : (DataW.weightsEach Tryd.prog (Tryd.f6.params.toList ++ Rows.checkPatchesSpec.plain.varTypes Tryd.prog) (ds ++ gs)).all (· ≤ reachBytes) = true := hsz0
  have hW' := hW
  obtain ⟨p, q, hA0, hV, rfl, hfz, hnd⟩ := hW
  have hA : DataW.TrodAll enc Tryd.prog W 0 (fun _ => true) true Tryd.f6.params.toList args.toList ds p := hA0
  rw [Tryd.params6] at hA hval hsz
  obtain ⟨v0, vs0, d0, ds0, p0, q0, hargs, rfl, rfl, h0, r0⟩ := trodAll_cons hA
  obtain ⟨v1, vs1, d1, ds1, p1, q1, rfl, rfl, rfl, h1, r1⟩ := trodAll_cons r0
  obtain ⟨rfl, rfl, rfl⟩ := trodAll_nil r1
  obtain rfl : args = #[v0, v1] := by cases args; simp_all
  obtain ⟨rfl, rfl⟩ := trodVars_none hV
  obtain ⟨a0, rfl, rfl, rfl, w0⟩ := open_int Tryd.underlying23 (hval 0 23 v0 rfl rfl) h0
  obtain ⟨a1, rfl, rfl, rfl, w1⟩ := open_int Tryd.underlying23 (hval 1 23 v1 rfl rfl) h1
  clear hA0 hval0
  refine (walk a0 a1 W T w0 w1).mono fun e W' ⟨he, bel⟩ => ?_
  subst he
  exact ⟨_, rfl, _, _, _, [], _, [], hW', trodAll_mk1 (shut_bool Tryd.underlying4 _), (trodAll_cons_mk (shut_int Tryd.underlying23 w0) (trodAll_cons_mk (shut_int Tryd.underlying23 w1) trodAll_mk0)), rfl, bel.frame _, fun h => by cases h⟩

theorem over : Rows.CheckPatchesSaid :=
  OpenClaim.holds_of_wide 6 Tryd.f6 rfl rfl rfl rfl rfl rfl rfl ⟨rfl, rfl, rfl, rfl, rfl⟩ rfl rfl rfl rfl rfl (by kernel_rfl) Tryd.func6 (by kernel_rfl)
    (of_decide_eq_true (by kernel_rfl)) (by unfold Func.isWrapper; first | (rw [if_pos (by decide +kernel)]; kernel_rfl) | (rw [if_neg (by decide +kernel)]; exact ⟨rfl, rfl⟩))
    (fun os started H enc _ => lifted os started H enc)

/-! ### The card: the variable tied to the program's text -/
theorem carded : Rows.CheckPatchesCardSaid :=
  Claim7.holds_tied_plain_at .later [] [.data] true (true, "51014f933b6a304fb52b06b85b447afa68da5d6989d86cb1b9bdab67b084d305") false
    over (fun _ h => by cases h) (by kernel_rfl) (fun _ h => by cases h) checkPatches_row_tie rfl ⟨rfl, rfl⟩ (by kernel_rfl) rfl
    (fun f fn hf hfn => by
      obtain rfl : f = 6 := Option.some.inj ((show Tryd.prog.funcNamed "moraine/morainelaw02.CheckPatches" = some 6 by kernel_rfl).symm.trans hf) |>.symm
      obtain rfl : fn = Tryd.f6 := (Option.some.inj (Tryd.func6.symm.trans hfn)).symm
      exact ⟨by kernel_rfl, fun j t ht => by
        rw [Tryd.params6] at ht
        have hm : t ∈ [23] := by
          have := Array.mem_of_getElem? ht
          simp at this ⊢
          omega
        have hall : ([23].all fun u => !Tryd.prog.wantsStandIn u) = true := by kernel_rfl
        exact (show Tryd.prog.wantsStandIn t = false by simpa using List.all_eq_true.1 hall t hm)⟩)
    (by kernel_rfl)
end Go.Proofs.YtkgmdhldongloaaDoor.checkPatches
namespace Go.Proofs.YtkgmdhldongloaaDoor
theorem checkPatches_holds : Rows.CheckPatchesCardSaid := checkPatches.carded
#print axioms checkPatches_holds
end Go.Proofs.YtkgmdhldongloaaDoor

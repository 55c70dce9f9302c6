/- Contract of the law's call of both where one Running is joined by another one, by itself, or by none. -/
import Derived.Test.YtkgmdhldongloaaDoorDz
namespace Go.Proofs.YtkgmdhldongloaaDoor.Dj
open Go.ChangeShapes Go.WideShapes Go.ChangeAt Go.RowKit
open Go.Proofs.YtkgmdhldongloaaDoor.Crc
open Go.Proofs.YtkgmdhldongloaaDoor.Ck
open Go.Proofs.YtkgmdhldongloaaDoor.Lm (grown_set tab_later)
open Go.Proofs.YtkgmdhldongloaaDoor.Rn
open Go.Proofs.YtkgmdhldongloaaDoor.Rs
open Go.Proofs.YtkgmdhldongloaaDoor.Ln
open Go.Proofs.YtkgmdhldongloaaDoor.Dz
set_option linter.unusedVariables false

theorem isNone_nil (w : World) : Calls Tryd.prog 40 #[.pointer none] w fun e w' => e = .returned (.bool true) ∧ w' = w := by
  go_enter Tryd.func40, Tryd.ntmps40
  go_wp2
  go_ret
  exact ⟨rfl, rfl⟩
theorem Join_nil (r : Nat) (s : BitVec 32) (n : Int) (w : World) (A : Hid (At w r s n)) : Calls Tryd.prog 27 #[.pointer (some ⟨r, 0, none⟩), .pointer none] w fun e w' => e = .returned (.int .i64 1) ∧ w' = w := by
  go_enter Tryd.func27, Tryd.ntmps27
  go_wp2_with fail
  refine (isNone_at r s n _ A).mono ?_
  rintro e w' ⟨rfl, rfl⟩
  go_wp2_with fail
  refine (isNone_nil _).mono ?_
  rintro e w' ⟨rfl, rfl⟩
  go_wp2_with fail
  go_ret
  exact ⟨rfl, rfl⟩

set_option maxHeartbeats 16000000 in
set_option maxRecDepth 100000 in
theorem does2_nil (w : World) (r : Nat → Nat) (rs ms : Nat) (s : Nat → BitVec 32) (n : Nat → Nat) (kd on of : Int) (a : Option Addr) (len cap : Nat) (zs : List Int) (W : World) (G : Hid (Geo w r rs ms)) (I : Hid (Inv w r rs ms s n s n W)) (T : Hid (Tab w)) (HB : Hid (Bytes w a len cap zs)) (hcap : cap ≤ 140737488351232) (hk : kd % 4 = 2) (o : Nat) (ho3 : o < 3) (HO : Hid (on % 3 = (o : Int))) (HF : Hid (of % 4 = 3)) :
    Calls Tryd.prog 22 #[.slice (some ⟨rs, 0, none⟩) 3 3, .slice (some ⟨ms, 0, none⟩) 3 3, .agg #[.int .i64 kd, .int .i64 on, .int .i64 of, .slice a len cap]] W fun e W' => ∃ v s' n', e = .returned (.tuple #[.int .i64 v, .int .i64 v]) ∧ Hid (Inv w r rs ms s' n' s' n' W') := by
  have HK := hid hk
  have hoI : (o : Int) < 3 := by omega
  have hlc : len ≤ cap := HB.out.2.1
  have b1 := (Below.refl W.heap.size W).alloc (Nat.le_refl _) (.cells #[.int .i64 kd, .int .i64 on, .int .i64 of, .slice a len cap] 49)
  have I1 := hid (inv_later I.out b1)
  have X1 := hid (Lm.Blk.new W 49 #[.int .i64 kd, .int .i64 on, .int .i64 of, .slice a len cap])
  have hrb : ∀ k, k < 3 → r k < W.heap.size := fun k hk => (I.out.1 k hk).lt
  have hmb : ms < W.heap.size := I.out.2.2.1.lt
  obtain ⟨bx, HX⟩ : ∃ bx, Hid (bx = W.heap.size) := ⟨_, rfl⟩
  have hrb2 : r o < bx := by rw [HX.out]; exact hrb o ho3
  have hmb2 : ms < bx := by rw [HX.out]; exact hmb
  rw [← HX.out] at X1
  have C1 := I1.out.2.1 o ho3
  have hwb : w.heap.size ≤ bx := by rw [HX.out]; exact I.out.2.2.2.1.size
  have hG := G.out.2.2
  have HG3 := hid hG
  clear b1 I hk hrb hmb hG
  go_enter Tryd.func22, Tryd.ntmps22
  go_wp2_with fail
  rw [← HX.out]
  generalize W.alloc (.cells #[.int .i64 kd, .int .i64 on, .int .i64 of, .slice a len cap] 49) = W1 at I1 X1 C1 ⊢
  have y0 : W1.cell? ⟨bx, 0, none⟩ = some (.int .i64 kd) := X1.out.cell 0
  have y2 : W1.cell? ⟨bx, 2, none⟩ = some (.int .i64 of) := X1.out.cell 2
  have y3 : W1.cell? ⟨bx, 3, none⟩ = some (.slice a len cap) := X1.out.cell 3
  refine (among_any on 3 _ (by omega) (by omega)).mono ?_
  rintro e W1 ⟨rfl, rfl⟩
  rw [HO.out]
  go_wp2_with fail
  refine (among_any kd 4 _ (by omega) (by omega)).mono ?_
  rintro e W1 ⟨rfl, rfl⟩
  rw [HK.out]
  go_wp2_with fail
  refine (among_any of 4 _ (by omega) (by omega)).mono ?_
  rintro e W1 ⟨rfl, rfl⟩
  rw [HF.out]
  go_wp2_with fail
  refine (Join_nil (r o) (s o) (n o) _ (hid (I1.out.1 o ho3))).mono ?_
  rintro e W1 ⟨rfl, rfl⟩
  go_wp2_with fail
  go_ret2
  exact ⟨1, s, n, rfl, I1⟩
set_option maxHeartbeats 16000000 in
set_option maxRecDepth 100000 in
theorem does2_big (w : World) (r : Nat → Nat) (rs ms : Nat) (s : Nat → BitVec 32) (n : Nat → Nat) (kd on of : Int) (a : Option Addr) (len cap : Nat) (zs : List Int) (W : World) (G : Hid (Geo w r rs ms)) (I : Hid (Inv w r rs ms s n s n W)) (T : Hid (Tab w)) (HB : Hid (Bytes w a len cap zs)) (hcap : cap ≤ 140737488351232) (hk : kd % 4 = 2) (o : Nat) (ho3 : o < 3) (HO : Hid (on % 3 = (o : Int))) (f : Nat) (hf3 : f < 3) (HF : Hid (of % 4 = (f : Int))) (hs : ¬ n o + n f ≤ 9007199254740992) :
    Calls Tryd.prog 22 #[.slice (some ⟨rs, 0, none⟩) 3 3, .slice (some ⟨ms, 0, none⟩) 3 3, .agg #[.int .i64 kd, .int .i64 on, .int .i64 of, .slice a len cap]] W fun e W' => ∃ v s' n', e = .returned (.tuple #[.int .i64 v, .int .i64 v]) ∧ Hid (Inv w r rs ms s' n' s' n' W') := by
  have HK := hid hk
  have hoI : (o : Int) < 3 := by omega
  have hlc : len ≤ cap := HB.out.2.1
  have b1 := (Below.refl W.heap.size W).alloc (Nat.le_refl _) (.cells #[.int .i64 kd, .int .i64 on, .int .i64 of, .slice a len cap] 49)
  have I1 := hid (inv_later I.out b1)
  have X1 := hid (Lm.Blk.new W 49 #[.int .i64 kd, .int .i64 on, .int .i64 of, .slice a len cap])
  have hrb : ∀ k, k < 3 → r k < W.heap.size := fun k hk => (I.out.1 k hk).lt
  have hmb : ms < W.heap.size := I.out.2.2.1.lt
  obtain ⟨bx, HX⟩ : ∃ bx, Hid (bx = W.heap.size) := ⟨_, rfl⟩
  have hrb2 : r o < bx := by rw [HX.out]; exact hrb o ho3
  have hmb2 : ms < bx := by rw [HX.out]; exact hmb
  rw [← HX.out] at X1
  have hfI : (f : Int) < 3 := by omega
  have hf3' : ((f : Int) == 3) = false := by simp; omega
  have C1 := I1.out.2.1 o ho3
  have hwb : w.heap.size ≤ bx := by rw [HX.out]; exact I.out.2.2.2.1.size
  have hG := G.out.2.2
  have HG3 := hid hG
  clear b1 I hk hrb hmb hG
  go_enter Tryd.func22, Tryd.ntmps22
  go_wp2_with fail
  rw [← HX.out]
  generalize W.alloc (.cells #[.int .i64 kd, .int .i64 on, .int .i64 of, .slice a len cap] 49) = W1 at I1 X1 C1 ⊢
  have y0 : W1.cell? ⟨bx, 0, none⟩ = some (.int .i64 kd) := X1.out.cell 0
  have y2 : W1.cell? ⟨bx, 2, none⟩ = some (.int .i64 of) := X1.out.cell 2
  have y3 : W1.cell? ⟨bx, 3, none⟩ = some (.slice a len cap) := X1.out.cell 3
  refine (among_any on 3 _ (by omega) (by omega)).mono ?_
  rintro e W1 ⟨rfl, rfl⟩
  rw [HO.out]
  go_wp2_with fail
  refine (among_any kd 4 _ (by omega) (by omega)).mono ?_
  rintro e W1 ⟨rfl, rfl⟩
  rw [HK.out]
  have C2 := I1.out.2.1 f hf3
  go_wp2_with fail
  refine (among_any of 4 _ (by omega) (by omega)).mono ?_
  rintro e W1 ⟨rfl, rfl⟩
  rw [HF.out]
  have ID := hid (inv_drew I1.out)
  go_wp2_with fail
  refine wp_region_any (by kernel_rfl) ?_
  change wpAny _ _ _ _ _ _ _ (World.drew _)
  refine wpAny_take (i := 0) (v := ?v1) rfl (by kernel_rfl) (by kernel_rfl) (by kernel_rfl) (fun _ _ _ h => h) (Or.inl ⟨by rfl, ?h1⟩) ?_
  case h1 => (intro w; go_simp; try (with_reducible rfl))
  go_simp
  refine wpAny_take (i := 1) (v := ?v2) rfl (by kernel_rfl) (by kernel_rfl) (by kernel_rfl) (fun _ _ _ h => h) (Or.inl ⟨by rfl, ?h2⟩) ?_
  case h2 => (intro w; go_simp; try (with_reducible rfl))
  go_simp
  refine wpAny_take (i := 2) (v := ?v3) rfl (by kernel_rfl) (by kernel_rfl) (by kernel_rfl) (fun _ _ _ h => h) (Or.inl ⟨by rfl, ?h3⟩) ?_
  case h3 => (intro w; go_simp; try (with_reducible rfl))
  go_simp
  refine wpAny_take (i := 4) (v := ?v4) rfl (by kernel_rfl) (by kernel_rfl) (by kernel_rfl) (fun _ _ _ h => h) (Or.inl ⟨by rfl, ?h4⟩) ?_
  case h4 => (intro w; go_simp; try (with_reducible rfl))
  go_simp
  refine wpAny_take (i := 5) (v := ?v5) rfl (by kernel_rfl) (by kernel_rfl) (by kernel_rfl) (fun _ _ _ h => h) (Or.inl ⟨by rfl, ?h5⟩) ?_
  case h5 => (intro w; go_simp; try (with_reducible rfl))
  go_simp
  refine wpAny_take (i := 6) (v := ?v6) rfl (by kernel_rfl) (by kernel_rfl) (by kernel_rfl) (fun _ _ _ h => h) (Or.inl ⟨by rfl, ?h6⟩) ?_
  case h6 => (intro w; go_simp; try (with_reducible rfl))
  go_simp
  refine wpAny_ready (rs := [3, 7]) (by kernel_rfl) (by simp) ?_
  refine AllReady.cons rfl (fun K hK => ?_) ?_
  · go_simp
    refine hK _ _ ?_
    clear hK K
    refine wpAny_ready (rs := [7]) (by kernel_rfl) (by simp) ?_
    refine AllReady.cons rfl (fun K hK => ?_) ?_
    · go_simp
      refine hK _ _ ?_
      clear hK K
      refine wpAny_ready (rs := [8]) (by kernel_rfl) (by simp) ?_
      refine AllReady.cons rfl (fun K hK => ?_) ?_
      · go_simp
        go_wp2_with fail
        refine (Join_big (r o) (r f) (s o) (s f) (n o) (n f) _ (hid (ID.out.1 o ho3)) (hid (ID.out.1 f hf3)) (ID.out.2.2.2.2 o ho3) hs).mono ?_
        rintro e W3 ⟨rfl, rfl⟩
        have I3 := ID
        have m03 := (I3.out.2.2.1.cells o ho3).1
        have m13 := (I3.out.2.2.1.cells o ho3).2
        have k03 := (I3.out.2.2.1.cells f hf3).1
        have k13 := (I3.out.2.2.1.cells f hf3).2
        go_wp2_with fail
        refine wpAny_take (i := 9) (v := ?v7) rfl (by kernel_rfl) (by kernel_rfl) (by kernel_rfl) (fun _ _ _ h => h) (Or.inl ⟨by rfl, ?h7⟩) ?_
        case h7 => (intro w; go_simp; try (with_reducible rfl))
        go_simp
        refine wpAny_done (by kernel_rfl) ?_ _
        go_wp2_with fail
        refine wp_region_any (by kernel_rfl) ?_
        change wpAny _ _ _ _ _ _ _ (World.drew _)
        refine wpAny_take (i := 0) (v := ?v8) rfl (by kernel_rfl) (by kernel_rfl) (by kernel_rfl) (fun _ _ _ h => h) (Or.inl ⟨by rfl, ?h8⟩) ?_
        case h8 => (intro w; go_simp; try (with_reducible rfl))
        go_simp
        refine wpAny_take (i := 1) (v := ?v9) rfl (by kernel_rfl) (by kernel_rfl) (by kernel_rfl) (fun _ _ _ h => h) (Or.inl ⟨by rfl, ?h9⟩) ?_
        case h9 => (intro w; go_simp; try (with_reducible rfl))
        go_simp
        refine wpAny_take (i := 2) (v := ?v10) rfl (by kernel_rfl) (by kernel_rfl) (by kernel_rfl) (fun _ _ _ h => h) (Or.inl ⟨by rfl, ?h10⟩) ?_
        case h10 => (intro w; go_simp; try (with_reducible rfl))
        go_simp
        refine wpAny_take (i := 3) (v := ?v11) rfl (by kernel_rfl) (by kernel_rfl) (by kernel_rfl) (fun _ _ _ h => h) (Or.inl ⟨by rfl, ?h11⟩) ?_
        case h11 => (intro w; go_simp; try (with_reducible rfl))
        go_simp
        refine wpAny_take (i := 4) (v := ?v12) rfl (by kernel_rfl) (by kernel_rfl) (by kernel_rfl) (fun _ _ _ h => h) (Or.inl ⟨by rfl, ?h12⟩) ?_
        case h12 => (intro w; go_simp; try (with_reducible rfl))
        go_simp
        refine wpAny_take (i := 6) (v := ?v13) rfl (by kernel_rfl) (by kernel_rfl) (by kernel_rfl) (fun _ _ _ h => h) (Or.inl ⟨by rfl, ?h13⟩) ?_
        case h13 => (intro w; go_simp; try (with_reducible rfl))
        go_simp
        refine wpAny_take (i := 7) (v := ?v14) rfl (by kernel_rfl) (by kernel_rfl) (by kernel_rfl) (fun _ _ _ h => h) (Or.inl ⟨by rfl, ?h14⟩) ?_
        case h14 => (intro w; go_simp; try (with_reducible rfl))
        go_simp
        refine wpAny_take (i := 8) (v := ?v15) rfl (by kernel_rfl) (by kernel_rfl) (by kernel_rfl) (fun _ _ _ h => h) (Or.inl ⟨by rfl, ?h15⟩) ?_
        case h15 => (intro w; go_simp; try (with_reducible rfl))
        go_simp
        refine wpAny_ready (rs := [5, 9]) (by kernel_rfl) (by simp) ?_
        refine AllReady.cons rfl (fun K hK => ?_) ?_
        · go_simp
          refine hK _ _ ?_
          clear hK K
          refine wpAny_ready (rs := [9]) (by kernel_rfl) (by simp) ?_
          refine AllReady.cons rfl (fun K hK => ?_) ?_
          · go_simp
            refine hK _ _ ?_
            clear hK K
            refine wpAny_ready (rs := [10]) (by kernel_rfl) (by simp) ?_
            refine AllReady.cons rfl (fun K hK => ?_) ?_
            · go_simp
              go_wp2_with fail
              refine (rjoin_big (s o) (s f) (n o) (n f) W1.drew.drew (I3.out.2.2.2.2 o ho3) (I3.out.2.2.2.2 f hf3) hs).mono ?_
              rintro e V5 ⟨rfl, b5⟩
              have I5 := hid (inv_later (inv_drew I3.out) b5)
              have m05 := (I5.out.2.2.1.cells o ho3).1
              have m15 := (I5.out.2.2.1.cells o ho3).2
              have f05 := I5.out.2.2.1.fz (o * 2)
              have f15 := I5.out.2.2.1.fz (o * 2 + 1)
              have I6 := hid (inv_mem G.out I5.out o ho3 (s o) (n o))
              clear b5
              go_wp2_with fail
              refine wpAny_take (i := 11) (v := ?v16) rfl (by kernel_rfl) (by kernel_rfl) (by kernel_rfl) (fun _ _ _ h => h) (Or.inl ⟨by rfl, ?h16⟩) ?_
              case h16 => (intro w; go_simp; try (with_reducible rfl))
              go_simp
              refine wpAny_take (i := 12) (v := ?v17) rfl (by kernel_rfl) (by kernel_rfl) (by kernel_rfl) (fun _ _ _ h => h) (Or.inl ⟨by rfl, ?h17⟩) ?_
              case h17 => (intro w; go_simp; try (with_reducible rfl))
              go_simp
              refine wpAny_take (i := 13) (v := ?v18) rfl (by kernel_rfl) (by kernel_rfl) (by kernel_rfl) (fun _ _ _ h => h) (Or.inl ⟨by rfl, ?h18⟩) ?_
              case h18 => (intro w; go_simp; try (with_reducible rfl))
              go_simp
              refine wpAny_take (i := 14) (v := ?v19) rfl (by kernel_rfl) (by kernel_rfl) (by kernel_rfl) (fun _ _ _ h => h) (Or.inl ⟨by rfl, ?h19⟩) ?_
              case h19 => (intro w; go_simp; try (with_reducible rfl))
              go_simp
              refine wpAny_ready (rs := [15]) (by kernel_rfl) (by simp) ?_
              refine AllReady.cons rfl (fun K hK => ?_) ?_
              · go_simp
                refine hK _ _ ?_
                clear hK K
                refine wpAny_take (i := 16) (v := ?v20) rfl (by kernel_rfl) (by kernel_rfl) (by kernel_rfl) (fun _ _ _ h => h) (Or.inl ⟨by rfl, ?h20⟩) ?_
                case h20 => (intro w; go_simp; try (with_reducible rfl))
                go_simp
                refine wpAny_done (by kernel_rfl) ?_ _
                generalize (V5.setCell ⟨ms, o * 2, none⟩ (.int .u32 (toI (s o)))).setCell ⟨ms, o * 2 + 1, none⟩ (.int .i64 ((n o) : Int)) = V6 at I6 ⊢
                clear m05 m15 f05 f15 I5
                go_wp2_with fail
                go_ret2
                exact ⟨3, s, n, rfl, by rw [upd_self, upd_self] at I6; exact I6⟩
              exact AllReady.nil
            exact AllReady.nil
          exact AllReady.nil
        refine AllReady.cons rfl (fun K hK => ?_) ?_
        · go_simp
          refine hK _ _ ?_
          clear hK K
          refine wpAny_ready (rs := [5]) (by kernel_rfl) (by simp) ?_
          refine AllReady.cons rfl (fun K hK => ?_) ?_
          · go_simp
            refine hK _ _ ?_
            clear hK K
            refine wpAny_ready (rs := [10]) (by kernel_rfl) (by simp) ?_
            refine AllReady.cons rfl (fun K hK => ?_) ?_
            · go_simp
              go_wp2_with fail
              refine (rjoin_big (s o) (s f) (n o) (n f) W1.drew.drew (I3.out.2.2.2.2 o ho3) (I3.out.2.2.2.2 f hf3) hs).mono ?_
              rintro e V5 ⟨rfl, b5⟩
              have I5 := hid (inv_later (inv_drew I3.out) b5)
              have m05 := (I5.out.2.2.1.cells o ho3).1
              have m15 := (I5.out.2.2.1.cells o ho3).2
              have f05 := I5.out.2.2.1.fz (o * 2)
              have f15 := I5.out.2.2.1.fz (o * 2 + 1)
              have I6 := hid (inv_mem G.out I5.out o ho3 (s o) (n o))
              clear b5
              go_wp2_with fail
              refine wpAny_take (i := 11) (v := ?v21) rfl (by kernel_rfl) (by kernel_rfl) (by kernel_rfl) (fun _ _ _ h => h) (Or.inl ⟨by rfl, ?h21⟩) ?_
              case h21 => (intro w; go_simp; try (with_reducible rfl))
              go_simp
              refine wpAny_take (i := 12) (v := ?v22) rfl (by kernel_rfl) (by kernel_rfl) (by kernel_rfl) (fun _ _ _ h => h) (Or.inl ⟨by rfl, ?h22⟩) ?_
              case h22 => (intro w; go_simp; try (with_reducible rfl))
              go_simp
              refine wpAny_take (i := 13) (v := ?v23) rfl (by kernel_rfl) (by kernel_rfl) (by kernel_rfl) (fun _ _ _ h => h) (Or.inl ⟨by rfl, ?h23⟩) ?_
              case h23 => (intro w; go_simp; try (with_reducible rfl))
              go_simp
              refine wpAny_take (i := 14) (v := ?v24) rfl (by kernel_rfl) (by kernel_rfl) (by kernel_rfl) (fun _ _ _ h => h) (Or.inl ⟨by rfl, ?h24⟩) ?_
              case h24 => (intro w; go_simp; try (with_reducible rfl))
              go_simp
              refine wpAny_ready (rs := [15]) (by kernel_rfl) (by simp) ?_
              refine AllReady.cons rfl (fun K hK => ?_) ?_
              · go_simp
                refine hK _ _ ?_
                clear hK K
                refine wpAny_take (i := 16) (v := ?v25) rfl (by kernel_rfl) (by kernel_rfl) (by kernel_rfl) (fun _ _ _ h => h) (Or.inl ⟨by rfl, ?h25⟩) ?_
                case h25 => (intro w; go_simp; try (with_reducible rfl))
                go_simp
                refine wpAny_done (by kernel_rfl) ?_ _
                generalize (V5.setCell ⟨ms, o * 2, none⟩ (.int .u32 (toI (s o)))).setCell ⟨ms, o * 2 + 1, none⟩ (.int .i64 ((n o) : Int)) = V6 at I6 ⊢
                clear m05 m15 f05 f15 I5
                go_wp2_with fail
                go_ret2
                exact ⟨3, s, n, rfl, by rw [upd_self, upd_self] at I6; exact I6⟩
              exact AllReady.nil
            exact AllReady.nil
          exact AllReady.nil
        exact AllReady.nil
      exact AllReady.nil
    exact AllReady.nil
  refine AllReady.cons rfl (fun K hK => ?_) ?_
  · go_simp
    refine hK _ _ ?_
    clear hK K
    refine wpAny_ready (rs := [3]) (by kernel_rfl) (by simp) ?_
    refine AllReady.cons rfl (fun K hK => ?_) ?_
    · go_simp
      refine hK _ _ ?_
      clear hK K
      refine wpAny_ready (rs := [8]) (by kernel_rfl) (by simp) ?_
      refine AllReady.cons rfl (fun K hK => ?_) ?_
      · go_simp
        go_wp2_with fail
        refine (Join_big (r o) (r f) (s o) (s f) (n o) (n f) _ (hid (ID.out.1 o ho3)) (hid (ID.out.1 f hf3)) (ID.out.2.2.2.2 o ho3) hs).mono ?_
        rintro e W3 ⟨rfl, rfl⟩
        have I3 := ID
        have m03 := (I3.out.2.2.1.cells o ho3).1
        have m13 := (I3.out.2.2.1.cells o ho3).2
        have k03 := (I3.out.2.2.1.cells f hf3).1
        have k13 := (I3.out.2.2.1.cells f hf3).2
        go_wp2_with fail
        refine wpAny_take (i := 9) (v := ?v26) rfl (by kernel_rfl) (by kernel_rfl) (by kernel_rfl) (fun _ _ _ h => h) (Or.inl ⟨by rfl, ?h26⟩) ?_
        case h26 => (intro w; go_simp; try (with_reducible rfl))
        go_simp
        refine wpAny_done (by kernel_rfl) ?_ _
        go_wp2_with fail
        refine wp_region_any (by kernel_rfl) ?_
        change wpAny _ _ _ _ _ _ _ (World.drew _)
        refine wpAny_take (i := 0) (v := ?v27) rfl (by kernel_rfl) (by kernel_rfl) (by kernel_rfl) (fun _ _ _ h => h) (Or.inl ⟨by rfl, ?h27⟩) ?_
        case h27 => (intro w; go_simp; try (with_reducible rfl))
        go_simp
        refine wpAny_take (i := 1) (v := ?v28) rfl (by kernel_rfl) (by kernel_rfl) (by kernel_rfl) (fun _ _ _ h => h) (Or.inl ⟨by rfl, ?h28⟩) ?_
        case h28 => (intro w; go_simp; try (with_reducible rfl))
        go_simp
        refine wpAny_take (i := 2) (v := ?v29) rfl (by kernel_rfl) (by kernel_rfl) (by kernel_rfl) (fun _ _ _ h => h) (Or.inl ⟨by rfl, ?h29⟩) ?_
        case h29 => (intro w; go_simp; try (with_reducible rfl))
        go_simp
        refine wpAny_take (i := 3) (v := ?v30) rfl (by kernel_rfl) (by kernel_rfl) (by kernel_rfl) (fun _ _ _ h => h) (Or.inl ⟨by rfl, ?h30⟩) ?_
        case h30 => (intro w; go_simp; try (with_reducible rfl))
        go_simp
        refine wpAny_take (i := 4) (v := ?v31) rfl (by kernel_rfl) (by kernel_rfl) (by kernel_rfl) (fun _ _ _ h => h) (Or.inl ⟨by rfl, ?h31⟩) ?_
        case h31 => (intro w; go_simp; try (with_reducible rfl))
        go_simp
        refine wpAny_take (i := 6) (v := ?v32) rfl (by kernel_rfl) (by kernel_rfl) (by kernel_rfl) (fun _ _ _ h => h) (Or.inl ⟨by rfl, ?h32⟩) ?_
        case h32 => (intro w; go_simp; try (with_reducible rfl))
        go_simp
        refine wpAny_take (i := 7) (v := ?v33) rfl (by kernel_rfl) (by kernel_rfl) (by kernel_rfl) (fun _ _ _ h => h) (Or.inl ⟨by rfl, ?h33⟩) ?_
        case h33 => (intro w; go_simp; try (with_reducible rfl))
        go_simp
        refine wpAny_take (i := 8) (v := ?v34) rfl (by kernel_rfl) (by kernel_rfl) (by kernel_rfl) (fun _ _ _ h => h) (Or.inl ⟨by rfl, ?h34⟩) ?_
        case h34 => (intro w; go_simp; try (with_reducible rfl))
        go_simp
        refine wpAny_ready (rs := [5, 9]) (by kernel_rfl) (by simp) ?_
        refine AllReady.cons rfl (fun K hK => ?_) ?_
        · go_simp
          refine hK _ _ ?_
          clear hK K
          refine wpAny_ready (rs := [9]) (by kernel_rfl) (by simp) ?_
          refine AllReady.cons rfl (fun K hK => ?_) ?_
          · go_simp
            refine hK _ _ ?_
            clear hK K
            refine wpAny_ready (rs := [10]) (by kernel_rfl) (by simp) ?_
            refine AllReady.cons rfl (fun K hK => ?_) ?_
            · go_simp
              go_wp2_with fail
              refine (rjoin_big (s o) (s f) (n o) (n f) W1.drew.drew (I3.out.2.2.2.2 o ho3) (I3.out.2.2.2.2 f hf3) hs).mono ?_
              rintro e V5 ⟨rfl, b5⟩
              have I5 := hid (inv_later (inv_drew I3.out) b5)
              have m05 := (I5.out.2.2.1.cells o ho3).1
              have m15 := (I5.out.2.2.1.cells o ho3).2
              have f05 := I5.out.2.2.1.fz (o * 2)
              have f15 := I5.out.2.2.1.fz (o * 2 + 1)
              have I6 := hid (inv_mem G.out I5.out o ho3 (s o) (n o))
              clear b5
              go_wp2_with fail
              refine wpAny_take (i := 11) (v := ?v35) rfl (by kernel_rfl) (by kernel_rfl) (by kernel_rfl) (fun _ _ _ h => h) (Or.inl ⟨by rfl, ?h35⟩) ?_
              case h35 => (intro w; go_simp; try (with_reducible rfl))
              go_simp
              refine wpAny_take (i := 12) (v := ?v36) rfl (by kernel_rfl) (by kernel_rfl) (by kernel_rfl) (fun _ _ _ h => h) (Or.inl ⟨by rfl, ?h36⟩) ?_
              case h36 => (intro w; go_simp; try (with_reducible rfl))
              go_simp
              refine wpAny_take (i := 13) (v := ?v37) rfl (by kernel_rfl) (by kernel_rfl) (by kernel_rfl) (fun _ _ _ h => h) (Or.inl ⟨by rfl, ?h37⟩) ?_
              case h37 => (intro w; go_simp; try (with_reducible rfl))
              go_simp
              refine wpAny_take (i := 14) (v := ?v38) rfl (by kernel_rfl) (by kernel_rfl) (by kernel_rfl) (fun _ _ _ h => h) (Or.inl ⟨by rfl, ?h38⟩) ?_
              case h38 => (intro w; go_simp; try (with_reducible rfl))
              go_simp
              refine wpAny_ready (rs := [15]) (by kernel_rfl) (by simp) ?_
              refine AllReady.cons rfl (fun K hK => ?_) ?_
              · go_simp
                refine hK _ _ ?_
                clear hK K
                refine wpAny_take (i := 16) (v := ?v39) rfl (by kernel_rfl) (by kernel_rfl) (by kernel_rfl) (fun _ _ _ h => h) (Or.inl ⟨by rfl, ?h39⟩) ?_
                case h39 => (intro w; go_simp; try (with_reducible rfl))
                go_simp
                refine wpAny_done (by kernel_rfl) ?_ _
                generalize (V5.setCell ⟨ms, o * 2, none⟩ (.int .u32 (toI (s o)))).setCell ⟨ms, o * 2 + 1, none⟩ (.int .i64 ((n o) : Int)) = V6 at I6 ⊢
                clear m05 m15 f05 f15 I5
                go_wp2_with fail
                go_ret2
                exact ⟨3, s, n, rfl, by rw [upd_self, upd_self] at I6; exact I6⟩
              exact AllReady.nil
            exact AllReady.nil
          exact AllReady.nil
        refine AllReady.cons rfl (fun K hK => ?_) ?_
        · go_simp
          refine hK _ _ ?_
          clear hK K
          refine wpAny_ready (rs := [5]) (by kernel_rfl) (by simp) ?_
          refine AllReady.cons rfl (fun K hK => ?_) ?_
          · go_simp
            refine hK _ _ ?_
            clear hK K
            refine wpAny_ready (rs := [10]) (by kernel_rfl) (by simp) ?_
            refine AllReady.cons rfl (fun K hK => ?_) ?_
            · go_simp
              go_wp2_with fail
              refine (rjoin_big (s o) (s f) (n o) (n f) W1.drew.drew (I3.out.2.2.2.2 o ho3) (I3.out.2.2.2.2 f hf3) hs).mono ?_
              rintro e V5 ⟨rfl, b5⟩
              have I5 := hid (inv_later (inv_drew I3.out) b5)
              have m05 := (I5.out.2.2.1.cells o ho3).1
              have m15 := (I5.out.2.2.1.cells o ho3).2
              have f05 := I5.out.2.2.1.fz (o * 2)
              have f15 := I5.out.2.2.1.fz (o * 2 + 1)
              have I6 := hid (inv_mem G.out I5.out o ho3 (s o) (n o))
              clear b5
              go_wp2_with fail
              refine wpAny_take (i := 11) (v := ?v40) rfl (by kernel_rfl) (by kernel_rfl) (by kernel_rfl) (fun _ _ _ h => h) (Or.inl ⟨by rfl, ?h40⟩) ?_
              case h40 => (intro w; go_simp; try (with_reducible rfl))
              go_simp
              refine wpAny_take (i := 12) (v := ?v41) rfl (by kernel_rfl) (by kernel_rfl) (by kernel_rfl) (fun _ _ _ h => h) (Or.inl ⟨by rfl, ?h41⟩) ?_
              case h41 => (intro w; go_simp; try (with_reducible rfl))
              go_simp
              refine wpAny_take (i := 13) (v := ?v42) rfl (by kernel_rfl) (by kernel_rfl) (by kernel_rfl) (fun _ _ _ h => h) (Or.inl ⟨by rfl, ?h42⟩) ?_
              case h42 => (intro w; go_simp; try (with_reducible rfl))
              go_simp
              refine wpAny_take (i := 14) (v := ?v43) rfl (by kernel_rfl) (by kernel_rfl) (by kernel_rfl) (fun _ _ _ h => h) (Or.inl ⟨by rfl, ?h43⟩) ?_
              case h43 => (intro w; go_simp; try (with_reducible rfl))
              go_simp
              refine wpAny_ready (rs := [15]) (by kernel_rfl) (by simp) ?_
              refine AllReady.cons rfl (fun K hK => ?_) ?_
              · go_simp
                refine hK _ _ ?_
                clear hK K
                refine wpAny_take (i := 16) (v := ?v44) rfl (by kernel_rfl) (by kernel_rfl) (by kernel_rfl) (fun _ _ _ h => h) (Or.inl ⟨by rfl, ?h44⟩) ?_
                case h44 => (intro w; go_simp; try (with_reducible rfl))
                go_simp
                refine wpAny_done (by kernel_rfl) ?_ _
                generalize (V5.setCell ⟨ms, o * 2, none⟩ (.int .u32 (toI (s o)))).setCell ⟨ms, o * 2 + 1, none⟩ (.int .i64 ((n o) : Int)) = V6 at I6 ⊢
                clear m05 m15 f05 f15 I5
                go_wp2_with fail
                go_ret2
                exact ⟨3, s, n, rfl, by rw [upd_self, upd_self] at I6; exact I6⟩
              exact AllReady.nil
            exact AllReady.nil
          exact AllReady.nil
        exact AllReady.nil
      exact AllReady.nil
    exact AllReady.nil
  exact AllReady.nil
set_option maxHeartbeats 16000000 in
set_option maxRecDepth 100000 in
theorem does2_ok (w : World) (r : Nat → Nat) (rs ms : Nat) (s : Nat → BitVec 32) (n : Nat → Nat) (kd on of : Int) (a : Option Addr) (len cap : Nat) (zs : List Int) (W : World) (G : Hid (Geo w r rs ms)) (I : Hid (Inv w r rs ms s n s n W)) (T : Hid (Tab w)) (HB : Hid (Bytes w a len cap zs)) (hcap : cap ≤ 140737488351232) (hk : kd % 4 = 2) (o : Nat) (ho3 : o < 3) (HO : Hid (on % 3 = (o : Int))) (f : Nat) (hf3 : f < 3) (HF : Hid (of % 4 = (f : Int))) (hs : n o + n f ≤ 9007199254740992) :
    Calls Tryd.prog 22 #[.slice (some ⟨rs, 0, none⟩) 3 3, .slice (some ⟨ms, 0, none⟩) 3 3, .agg #[.int .i64 kd, .int .i64 on, .int .i64 of, .slice a len cap]] W fun e W' => ∃ v s' n', e = .returned (.tuple #[.int .i64 v, .int .i64 v]) ∧ Hid (Inv w r rs ms s' n' s' n' W') := by
  have HK := hid hk
  have hoI : (o : Int) < 3 := by omega
  have hlc : len ≤ cap := HB.out.2.1
  have b1 := (Below.refl W.heap.size W).alloc (Nat.le_refl _) (.cells #[.int .i64 kd, .int .i64 on, .int .i64 of, .slice a len cap] 49)
  have I1 := hid (inv_later I.out b1)
  have X1 := hid (Lm.Blk.new W 49 #[.int .i64 kd, .int .i64 on, .int .i64 of, .slice a len cap])
  have hrb : ∀ k, k < 3 → r k < W.heap.size := fun k hk => (I.out.1 k hk).lt
  have hmb : ms < W.heap.size := I.out.2.2.1.lt
  obtain ⟨bx, HX⟩ : ∃ bx, Hid (bx = W.heap.size) := ⟨_, rfl⟩
  have hrb2 : r o < bx := by rw [HX.out]; exact hrb o ho3
  have hmb2 : ms < bx := by rw [HX.out]; exact hmb
  rw [← HX.out] at X1
  have hfI : (f : Int) < 3 := by omega
  have hf3' : ((f : Int) == 3) = false := by simp; omega
  obtain ⟨E, HE⟩ : ∃ E, Hid (E = shiftZ (8 * n f) (s o) ^^^ s f) := ⟨_, rfl⟩
  obtain ⟨N, HN⟩ : ∃ N, Hid (N = n o + n f) := ⟨_, rfl⟩
  have C1 := I1.out.2.1 o ho3
  have hwb : w.heap.size ≤ bx := by rw [HX.out]; exact I.out.2.2.2.1.size
  have hG := G.out.2.2
  have HG3 := hid hG
  clear b1 I hk hrb hmb hG
  go_enter Tryd.func22, Tryd.ntmps22
  go_wp2_with fail
  rw [← HX.out]
  generalize W.alloc (.cells #[.int .i64 kd, .int .i64 on, .int .i64 of, .slice a len cap] 49) = W1 at I1 X1 C1 ⊢
  have y0 : W1.cell? ⟨bx, 0, none⟩ = some (.int .i64 kd) := X1.out.cell 0
  have y2 : W1.cell? ⟨bx, 2, none⟩ = some (.int .i64 of) := X1.out.cell 2
  have y3 : W1.cell? ⟨bx, 3, none⟩ = some (.slice a len cap) := X1.out.cell 3
  refine (among_any on 3 _ (by omega) (by omega)).mono ?_
  rintro e W1 ⟨rfl, rfl⟩
  rw [HO.out]
  go_wp2_with fail
  refine (among_any kd 4 _ (by omega) (by omega)).mono ?_
  rintro e W1 ⟨rfl, rfl⟩
  rw [HK.out]
  have C2 := I1.out.2.1 f hf3
  go_wp2_with fail
  refine (among_any of 4 _ (by omega) (by omega)).mono ?_
  rintro e W1 ⟨rfl, rfl⟩
  rw [HF.out]
  have ID := hid (inv_drew I1.out)
  go_wp2_with fail
  refine wp_region_any (by kernel_rfl) ?_
  change wpAny _ _ _ _ _ _ _ (World.drew _)
  refine wpAny_take (i := 0) (v := ?v45) rfl (by kernel_rfl) (by kernel_rfl) (by kernel_rfl) (fun _ _ _ h => h) (Or.inl ⟨by rfl, ?h45⟩) ?_
  case h45 => (intro w; go_simp; try (with_reducible rfl))
  go_simp
  refine wpAny_take (i := 1) (v := ?v46) rfl (by kernel_rfl) (by kernel_rfl) (by kernel_rfl) (fun _ _ _ h => h) (Or.inl ⟨by rfl, ?h46⟩) ?_
  case h46 => (intro w; go_simp; try (with_reducible rfl))
  go_simp
  refine wpAny_take (i := 2) (v := ?v47) rfl (by kernel_rfl) (by kernel_rfl) (by kernel_rfl) (fun _ _ _ h => h) (Or.inl ⟨by rfl, ?h47⟩) ?_
  case h47 => (intro w; go_simp; try (with_reducible rfl))
  go_simp
  refine wpAny_take (i := 4) (v := ?v48) rfl (by kernel_rfl) (by kernel_rfl) (by kernel_rfl) (fun _ _ _ h => h) (Or.inl ⟨by rfl, ?h48⟩) ?_
  case h48 => (intro w; go_simp; try (with_reducible rfl))
  go_simp
  refine wpAny_take (i := 5) (v := ?v49) rfl (by kernel_rfl) (by kernel_rfl) (by kernel_rfl) (fun _ _ _ h => h) (Or.inl ⟨by rfl, ?h49⟩) ?_
  case h49 => (intro w; go_simp; try (with_reducible rfl))
  go_simp
  refine wpAny_take (i := 6) (v := ?v50) rfl (by kernel_rfl) (by kernel_rfl) (by kernel_rfl) (fun _ _ _ h => h) (Or.inl ⟨by rfl, ?h50⟩) ?_
  case h50 => (intro w; go_simp; try (with_reducible rfl))
  go_simp
  refine wpAny_ready (rs := [3, 7]) (by kernel_rfl) (by simp) ?_
  refine AllReady.cons rfl (fun K hK => ?_) ?_
  · go_simp
    refine hK _ _ ?_
    clear hK K
    refine wpAny_ready (rs := [7]) (by kernel_rfl) (by simp) ?_
    refine AllReady.cons rfl (fun K hK => ?_) ?_
    · go_simp
      refine hK _ _ ?_
      clear hK K
      refine wpAny_ready (rs := [8]) (by kernel_rfl) (by simp) ?_
      refine AllReady.cons rfl (fun K hK => ?_) ?_
      · go_simp
        go_wp2_with fail
        refine (Join_ok (r o) (r f) (s o) (s f) (n o) (n f) _ (hid (ID.out.1 o ho3)) (hid (ID.out.1 f hf3)) (tab_later T ID.out.2.2.2.1) hs).mono ?_
        rintro e W3 ⟨rfl, A3, g3⟩
        have A3' : At W3 (r o) E (N : Int) := by rw [HE.out, HN.out]; simpa using A3
        have I3 := hid (inv_run G.out ID.out o ho3 E N g3 A3' (by rw [HN.out]; exact hs))
        clear A3 A3' g3
        have m03 := (I3.out.2.2.1.cells o ho3).1
        have m13 := (I3.out.2.2.1.cells o ho3).2
        have k03 := (I3.out.2.2.1.cells f hf3).1
        have k13 := (I3.out.2.2.1.cells f hf3).2
        go_wp2_with fail
        refine wpAny_take (i := 9) (v := ?v51) rfl (by kernel_rfl) (by kernel_rfl) (by kernel_rfl) (fun _ _ _ h => h) (Or.inl ⟨by rfl, ?h51⟩) ?_
        case h51 => (intro w; go_simp; try (with_reducible rfl))
        go_simp
        refine wpAny_done (by kernel_rfl) ?_ _
        go_wp2_with fail
        refine wp_region_any (by kernel_rfl) ?_
        change wpAny _ _ _ _ _ _ _ (World.drew _)
        refine wpAny_take (i := 0) (v := ?v52) rfl (by kernel_rfl) (by kernel_rfl) (by kernel_rfl) (fun _ _ _ h => h) (Or.inl ⟨by rfl, ?h52⟩) ?_
        case h52 => (intro w; go_simp; try (with_reducible rfl))
        go_simp
        refine wpAny_take (i := 1) (v := ?v53) rfl (by kernel_rfl) (by kernel_rfl) (by kernel_rfl) (fun _ _ _ h => h) (Or.inl ⟨by rfl, ?h53⟩) ?_
        case h53 => (intro w; go_simp; try (with_reducible rfl))
        go_simp
        refine wpAny_take (i := 2) (v := ?v54) rfl (by kernel_rfl) (by kernel_rfl) (by kernel_rfl) (fun _ _ _ h => h) (Or.inl ⟨by rfl, ?h54⟩) ?_
        case h54 => (intro w; go_simp; try (with_reducible rfl))
        go_simp
        refine wpAny_take (i := 3) (v := ?v55) rfl (by kernel_rfl) (by kernel_rfl) (by kernel_rfl) (fun _ _ _ h => h) (Or.inl ⟨by rfl, ?h55⟩) ?_
        case h55 => (intro w; go_simp; try (with_reducible rfl))
        go_simp
        refine wpAny_take (i := 4) (v := ?v56) rfl (by kernel_rfl) (by kernel_rfl) (by kernel_rfl) (fun _ _ _ h => h) (Or.inl ⟨by rfl, ?h56⟩) ?_
        case h56 => (intro w; go_simp; try (with_reducible rfl))
        go_simp
        refine wpAny_take (i := 6) (v := ?v57) rfl (by kernel_rfl) (by kernel_rfl) (by kernel_rfl) (fun _ _ _ h => h) (Or.inl ⟨by rfl, ?h57⟩) ?_
        case h57 => (intro w; go_simp; try (with_reducible rfl))
        go_simp
        refine wpAny_take (i := 7) (v := ?v58) rfl (by kernel_rfl) (by kernel_rfl) (by kernel_rfl) (fun _ _ _ h => h) (Or.inl ⟨by rfl, ?h58⟩) ?_
        case h58 => (intro w; go_simp; try (with_reducible rfl))
        go_simp
        refine wpAny_take (i := 8) (v := ?v59) rfl (by kernel_rfl) (by kernel_rfl) (by kernel_rfl) (fun _ _ _ h => h) (Or.inl ⟨by rfl, ?h59⟩) ?_
        case h59 => (intro w; go_simp; try (with_reducible rfl))
        go_simp
        refine wpAny_ready (rs := [5, 9]) (by kernel_rfl) (by simp) ?_
        refine AllReady.cons rfl (fun K hK => ?_) ?_
        · go_simp
          refine hK _ _ ?_
          clear hK K
          refine wpAny_ready (rs := [9]) (by kernel_rfl) (by simp) ?_
          refine AllReady.cons rfl (fun K hK => ?_) ?_
          · go_simp
            refine hK _ _ ?_
            clear hK K
            refine wpAny_ready (rs := [10]) (by kernel_rfl) (by simp) ?_
            refine AllReady.cons rfl (fun K hK => ?_) ?_
            · go_simp
              go_wp2_with fail
              refine (rjoin_ok (s o) (s f) (n o) (n f) W3.drew hs).mono ?_
              rintro e V5 ⟨rfl, b5⟩
              rw [← HE.out, ← HN.out]
              have I5 := hid (inv_later (inv_drew I3.out) b5)
              have m05 := (I5.out.2.2.1.cells o ho3).1
              have m15 := (I5.out.2.2.1.cells o ho3).2
              have f05 := I5.out.2.2.1.fz (o * 2)
              have f15 := I5.out.2.2.1.fz (o * 2 + 1)
              have I6 := hid (inv_mem G.out I5.out o ho3 E N)
              clear b5
              go_wp2_with fail
              refine wpAny_take (i := 11) (v := ?v60) rfl (by kernel_rfl) (by kernel_rfl) (by kernel_rfl) (fun _ _ _ h => h) (Or.inl ⟨by rfl, ?h60⟩) ?_
              case h60 => (intro w; go_simp; try (with_reducible rfl))
              go_simp
              refine wpAny_take (i := 12) (v := ?v61) rfl (by kernel_rfl) (by kernel_rfl) (by kernel_rfl) (fun _ _ _ h => h) (Or.inl ⟨by rfl, ?h61⟩) ?_
              case h61 => (intro w; go_simp; try (with_reducible rfl))
              go_simp
              refine wpAny_take (i := 13) (v := ?v62) rfl (by kernel_rfl) (by kernel_rfl) (by kernel_rfl) (fun _ _ _ h => h) (Or.inl ⟨by rfl, ?h62⟩) ?_
              case h62 => (intro w; go_simp; try (with_reducible rfl))
              go_simp
              refine wpAny_take (i := 14) (v := ?v63) rfl (by kernel_rfl) (by kernel_rfl) (by kernel_rfl) (fun _ _ _ h => h) (Or.inl ⟨by rfl, ?h63⟩) ?_
              case h63 => (intro w; go_simp; try (with_reducible rfl))
              go_simp
              refine wpAny_ready (rs := [15]) (by kernel_rfl) (by simp) ?_
              refine AllReady.cons rfl (fun K hK => ?_) ?_
              · go_simp
                refine hK _ _ ?_
                clear hK K
                refine wpAny_take (i := 16) (v := ?v64) rfl (by kernel_rfl) (by kernel_rfl) (by kernel_rfl) (fun _ _ _ h => h) (Or.inl ⟨by rfl, ?h64⟩) ?_
                case h64 => (intro w; go_simp; try (with_reducible rfl))
                go_simp
                refine wpAny_done (by kernel_rfl) ?_ _
                generalize (V5.setCell ⟨ms, o * 2, none⟩ (.int .u32 (toI E))).setCell ⟨ms, o * 2 + 1, none⟩ (.int .i64 (N : Int)) = V6 at I6 ⊢
                clear m05 m15 f05 f15 I5
                go_wp2_with fail
                go_ret2
                exact ⟨0, _, _, rfl, I6⟩
              exact AllReady.nil
            exact AllReady.nil
          exact AllReady.nil
        refine AllReady.cons rfl (fun K hK => ?_) ?_
        · go_simp
          refine hK _ _ ?_
          clear hK K
          refine wpAny_ready (rs := [5]) (by kernel_rfl) (by simp) ?_
          refine AllReady.cons rfl (fun K hK => ?_) ?_
          · go_simp
            refine hK _ _ ?_
            clear hK K
            refine wpAny_ready (rs := [10]) (by kernel_rfl) (by simp) ?_
            refine AllReady.cons rfl (fun K hK => ?_) ?_
            · go_simp
              go_wp2_with fail
              refine (rjoin_ok (s o) (s f) (n o) (n f) W3.drew hs).mono ?_
              rintro e V5 ⟨rfl, b5⟩
              rw [← HE.out, ← HN.out]
              have I5 := hid (inv_later (inv_drew I3.out) b5)
              have m05 := (I5.out.2.2.1.cells o ho3).1
              have m15 := (I5.out.2.2.1.cells o ho3).2
              have f05 := I5.out.2.2.1.fz (o * 2)
              have f15 := I5.out.2.2.1.fz (o * 2 + 1)
              have I6 := hid (inv_mem G.out I5.out o ho3 E N)
              clear b5
              go_wp2_with fail
              refine wpAny_take (i := 11) (v := ?v65) rfl (by kernel_rfl) (by kernel_rfl) (by kernel_rfl) (fun _ _ _ h => h) (Or.inl ⟨by rfl, ?h65⟩) ?_
              case h65 => (intro w; go_simp; try (with_reducible rfl))
              go_simp
              refine wpAny_take (i := 12) (v := ?v66) rfl (by kernel_rfl) (by kernel_rfl) (by kernel_rfl) (fun _ _ _ h => h) (Or.inl ⟨by rfl, ?h66⟩) ?_
              case h66 => (intro w; go_simp; try (with_reducible rfl))
              go_simp
              refine wpAny_take (i := 13) (v := ?v67) rfl (by kernel_rfl) (by kernel_rfl) (by kernel_rfl) (fun _ _ _ h => h) (Or.inl ⟨by rfl, ?h67⟩) ?_
              case h67 => (intro w; go_simp; try (with_reducible rfl))
              go_simp
              refine wpAny_take (i := 14) (v := ?v68) rfl (by kernel_rfl) (by kernel_rfl) (by kernel_rfl) (fun _ _ _ h => h) (Or.inl ⟨by rfl, ?h68⟩) ?_
              case h68 => (intro w; go_simp; try (with_reducible rfl))
              go_simp
              refine wpAny_ready (rs := [15]) (by kernel_rfl) (by simp) ?_
              refine AllReady.cons rfl (fun K hK => ?_) ?_
              · go_simp
                refine hK _ _ ?_
                clear hK K
                refine wpAny_take (i := 16) (v := ?v69) rfl (by kernel_rfl) (by kernel_rfl) (by kernel_rfl) (fun _ _ _ h => h) (Or.inl ⟨by rfl, ?h69⟩) ?_
                case h69 => (intro w; go_simp; try (with_reducible rfl))
                go_simp
                refine wpAny_done (by kernel_rfl) ?_ _
                generalize (V5.setCell ⟨ms, o * 2, none⟩ (.int .u32 (toI E))).setCell ⟨ms, o * 2 + 1, none⟩ (.int .i64 (N : Int)) = V6 at I6 ⊢
                clear m05 m15 f05 f15 I5
                go_wp2_with fail
                go_ret2
                exact ⟨0, _, _, rfl, I6⟩
              exact AllReady.nil
            exact AllReady.nil
          exact AllReady.nil
        exact AllReady.nil
      exact AllReady.nil
    exact AllReady.nil
  refine AllReady.cons rfl (fun K hK => ?_) ?_
  · go_simp
    refine hK _ _ ?_
    clear hK K
    refine wpAny_ready (rs := [3]) (by kernel_rfl) (by simp) ?_
    refine AllReady.cons rfl (fun K hK => ?_) ?_
    · go_simp
      refine hK _ _ ?_
      clear hK K
      refine wpAny_ready (rs := [8]) (by kernel_rfl) (by simp) ?_
      refine AllReady.cons rfl (fun K hK => ?_) ?_
      · go_simp
        go_wp2_with fail
        refine (Join_ok (r o) (r f) (s o) (s f) (n o) (n f) _ (hid (ID.out.1 o ho3)) (hid (ID.out.1 f hf3)) (tab_later T ID.out.2.2.2.1) hs).mono ?_
        rintro e W3 ⟨rfl, A3, g3⟩
        have A3' : At W3 (r o) E (N : Int) := by rw [HE.out, HN.out]; simpa using A3
        have I3 := hid (inv_run G.out ID.out o ho3 E N g3 A3' (by rw [HN.out]; exact hs))
        clear A3 A3' g3
        have m03 := (I3.out.2.2.1.cells o ho3).1
        have m13 := (I3.out.2.2.1.cells o ho3).2
        have k03 := (I3.out.2.2.1.cells f hf3).1
        have k13 := (I3.out.2.2.1.cells f hf3).2
        go_wp2_with fail
        refine wpAny_take (i := 9) (v := ?v70) rfl (by kernel_rfl) (by kernel_rfl) (by kernel_rfl) (fun _ _ _ h => h) (Or.inl ⟨by rfl, ?h70⟩) ?_
        case h70 => (intro w; go_simp; try (with_reducible rfl))
        go_simp
        refine wpAny_done (by kernel_rfl) ?_ _
        go_wp2_with fail
        refine wp_region_any (by kernel_rfl) ?_
        change wpAny _ _ _ _ _ _ _ (World.drew _)
        refine wpAny_take (i := 0) (v := ?v71) rfl (by kernel_rfl) (by kernel_rfl) (by kernel_rfl) (fun _ _ _ h => h) (Or.inl ⟨by rfl, ?h71⟩) ?_
        case h71 => (intro w; go_simp; try (with_reducible rfl))
        go_simp
        refine wpAny_take (i := 1) (v := ?v72) rfl (by kernel_rfl) (by kernel_rfl) (by kernel_rfl) (fun _ _ _ h => h) (Or.inl ⟨by rfl, ?h72⟩) ?_
        case h72 => (intro w; go_simp; try (with_reducible rfl))
        go_simp
        refine wpAny_take (i := 2) (v := ?v73) rfl (by kernel_rfl) (by kernel_rfl) (by kernel_rfl) (fun _ _ _ h => h) (Or.inl ⟨by rfl, ?h73⟩) ?_
        case h73 => (intro w; go_simp; try (with_reducible rfl))
        go_simp
        refine wpAny_take (i := 3) (v := ?v74) rfl (by kernel_rfl) (by kernel_rfl) (by kernel_rfl) (fun _ _ _ h => h) (Or.inl ⟨by rfl, ?h74⟩) ?_
        case h74 => (intro w; go_simp; try (with_reducible rfl))
        go_simp
        refine wpAny_take (i := 4) (v := ?v75) rfl (by kernel_rfl) (by kernel_rfl) (by kernel_rfl) (fun _ _ _ h => h) (Or.inl ⟨by rfl, ?h75⟩) ?_
        case h75 => (intro w; go_simp; try (with_reducible rfl))
        go_simp
        refine wpAny_take (i := 6) (v := ?v76) rfl (by kernel_rfl) (by kernel_rfl) (by kernel_rfl) (fun _ _ _ h => h) (Or.inl ⟨by rfl, ?h76⟩) ?_
        case h76 => (intro w; go_simp; try (with_reducible rfl))
        go_simp
        refine wpAny_take (i := 7) (v := ?v77) rfl (by kernel_rfl) (by kernel_rfl) (by kernel_rfl) (fun _ _ _ h => h) (Or.inl ⟨by rfl, ?h77⟩) ?_
        case h77 => (intro w; go_simp; try (with_reducible rfl))
        go_simp
        refine wpAny_take (i := 8) (v := ?v78) rfl (by kernel_rfl) (by kernel_rfl) (by kernel_rfl) (fun _ _ _ h => h) (Or.inl ⟨by rfl, ?h78⟩) ?_
        case h78 => (intro w; go_simp; try (with_reducible rfl))
        go_simp
        refine wpAny_ready (rs := [5, 9]) (by kernel_rfl) (by simp) ?_
        refine AllReady.cons rfl (fun K hK => ?_) ?_
        · go_simp
          refine hK _ _ ?_
          clear hK K
          refine wpAny_ready (rs := [9]) (by kernel_rfl) (by simp) ?_
          refine AllReady.cons rfl (fun K hK => ?_) ?_
          · go_simp
            refine hK _ _ ?_
            clear hK K
            refine wpAny_ready (rs := [10]) (by kernel_rfl) (by simp) ?_
            refine AllReady.cons rfl (fun K hK => ?_) ?_
            · go_simp
              go_wp2_with fail
              refine (rjoin_ok (s o) (s f) (n o) (n f) W3.drew hs).mono ?_
              rintro e V5 ⟨rfl, b5⟩
              rw [← HE.out, ← HN.out]
              have I5 := hid (inv_later (inv_drew I3.out) b5)
              have m05 := (I5.out.2.2.1.cells o ho3).1
              have m15 := (I5.out.2.2.1.cells o ho3).2
              have f05 := I5.out.2.2.1.fz (o * 2)
              have f15 := I5.out.2.2.1.fz (o * 2 + 1)
              have I6 := hid (inv_mem G.out I5.out o ho3 E N)
              clear b5
              go_wp2_with fail
              refine wpAny_take (i := 11) (v := ?v79) rfl (by kernel_rfl) (by kernel_rfl) (by kernel_rfl) (fun _ _ _ h => h) (Or.inl ⟨by rfl, ?h79⟩) ?_
              case h79 => (intro w; go_simp; try (with_reducible rfl))
              go_simp
              refine wpAny_take (i := 12) (v := ?v80) rfl (by kernel_rfl) (by kernel_rfl) (by kernel_rfl) (fun _ _ _ h => h) (Or.inl ⟨by rfl, ?h80⟩) ?_
              case h80 => (intro w; go_simp; try (with_reducible rfl))
              go_simp
              refine wpAny_take (i := 13) (v := ?v81) rfl (by kernel_rfl) (by kernel_rfl) (by kernel_rfl) (fun _ _ _ h => h) (Or.inl ⟨by rfl, ?h81⟩) ?_
              case h81 => (intro w; go_simp; try (with_reducible rfl))
              go_simp
              refine wpAny_take (i := 14) (v := ?v82) rfl (by kernel_rfl) (by kernel_rfl) (by kernel_rfl) (fun _ _ _ h => h) (Or.inl ⟨by rfl, ?h82⟩) ?_
              case h82 => (intro w; go_simp; try (with_reducible rfl))
              go_simp
              refine wpAny_ready (rs := [15]) (by kernel_rfl) (by simp) ?_
              refine AllReady.cons rfl (fun K hK => ?_) ?_
              · go_simp
                refine hK _ _ ?_
                clear hK K
                refine wpAny_take (i := 16) (v := ?v83) rfl (by kernel_rfl) (by kernel_rfl) (by kernel_rfl) (fun _ _ _ h => h) (Or.inl ⟨by rfl, ?h83⟩) ?_
                case h83 => (intro w; go_simp; try (with_reducible rfl))
                go_simp
                refine wpAny_done (by kernel_rfl) ?_ _
                generalize (V5.setCell ⟨ms, o * 2, none⟩ (.int .u32 (toI E))).setCell ⟨ms, o * 2 + 1, none⟩ (.int .i64 (N : Int)) = V6 at I6 ⊢
                clear m05 m15 f05 f15 I5
                go_wp2_with fail
                go_ret2
                exact ⟨0, _, _, rfl, I6⟩
              exact AllReady.nil
            exact AllReady.nil
          exact AllReady.nil
        refine AllReady.cons rfl (fun K hK => ?_) ?_
        · go_simp
          refine hK _ _ ?_
          clear hK K
          refine wpAny_ready (rs := [5]) (by kernel_rfl) (by simp) ?_
          refine AllReady.cons rfl (fun K hK => ?_) ?_
          · go_simp
            refine hK _ _ ?_
            clear hK K
            refine wpAny_ready (rs := [10]) (by kernel_rfl) (by simp) ?_
            refine AllReady.cons rfl (fun K hK => ?_) ?_
            · go_simp
              go_wp2_with fail
              refine (rjoin_ok (s o) (s f) (n o) (n f) W3.drew hs).mono ?_
              rintro e V5 ⟨rfl, b5⟩
              rw [← HE.out, ← HN.out]
              have I5 := hid (inv_later (inv_drew I3.out) b5)
              have m05 := (I5.out.2.2.1.cells o ho3).1
              have m15 := (I5.out.2.2.1.cells o ho3).2
              have f05 := I5.out.2.2.1.fz (o * 2)
              have f15 := I5.out.2.2.1.fz (o * 2 + 1)
              have I6 := hid (inv_mem G.out I5.out o ho3 E N)
              clear b5
              go_wp2_with fail
              refine wpAny_take (i := 11) (v := ?v84) rfl (by kernel_rfl) (by kernel_rfl) (by kernel_rfl) (fun _ _ _ h => h) (Or.inl ⟨by rfl, ?h84⟩) ?_
              case h84 => (intro w; go_simp; try (with_reducible rfl))
              go_simp
              refine wpAny_take (i := 12) (v := ?v85) rfl (by kernel_rfl) (by kernel_rfl) (by kernel_rfl) (fun _ _ _ h => h) (Or.inl ⟨by rfl, ?h85⟩) ?_
              case h85 => (intro w; go_simp; try (with_reducible rfl))
              go_simp
              refine wpAny_take (i := 13) (v := ?v86) rfl (by kernel_rfl) (by kernel_rfl) (by kernel_rfl) (fun _ _ _ h => h) (Or.inl ⟨by rfl, ?h86⟩) ?_
              case h86 => (intro w; go_simp; try (with_reducible rfl))
              go_simp
              refine wpAny_take (i := 14) (v := ?v87) rfl (by kernel_rfl) (by kernel_rfl) (by kernel_rfl) (fun _ _ _ h => h) (Or.inl ⟨by rfl, ?h87⟩) ?_
              case h87 => (intro w; go_simp; try (with_reducible rfl))
              go_simp
              refine wpAny_ready (rs := [15]) (by kernel_rfl) (by simp) ?_
              refine AllReady.cons rfl (fun K hK => ?_) ?_
              · go_simp
                refine hK _ _ ?_
                clear hK K
                refine wpAny_take (i := 16) (v := ?v88) rfl (by kernel_rfl) (by kernel_rfl) (by kernel_rfl) (fun _ _ _ h => h) (Or.inl ⟨by rfl, ?h88⟩) ?_
                case h88 => (intro w; go_simp; try (with_reducible rfl))
                go_simp
                refine wpAny_done (by kernel_rfl) ?_ _
                generalize (V5.setCell ⟨ms, o * 2, none⟩ (.int .u32 (toI E))).setCell ⟨ms, o * 2 + 1, none⟩ (.int .i64 (N : Int)) = V6 at I6 ⊢
                clear m05 m15 f05 f15 I5
                go_wp2_with fail
                go_ret2
                exact ⟨0, _, _, rfl, I6⟩
              exact AllReady.nil
            exact AllReady.nil
          exact AllReady.nil
        exact AllReady.nil
      exact AllReady.nil
    exact AllReady.nil
  exact AllReady.nil
end Go.Proofs.YtkgmdhldongloaaDoor.Dj

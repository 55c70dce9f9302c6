/- live's put by its contract. -/
import Derived.Test.YtcpnmpepcpcahaaGreatDoorCy
import Derived.Test.YtcpnmpepcpcahaaGreatDoorMv
namespace Go.Proofs.YtcpnmpepcpcahaaGreatDoor.Pt
open Go.ChangeShapes Go.WideShapes Go.ChangeAt Go.RowKit
open Go.Proofs.YtcpnmpepcpcahaaGreatDoor.Gr
open Go.Proofs.YtcpnmpepcpcahaaGreatDoor.Ev
open Go.Proofs.YtcpnmpepcpcahaaGreatDoor.Oe
open Go.Proofs.YtcpnmpepcpcahaaGreatDoor.Lv
open Go.Proofs.YtcpnmpepcpcahaaGreatDoor.Vr
open Go.Proofs.YtcpnmpepcpcahaaGreatDoor.Lu
open Go.Proofs.YtcpnmpepcpcahaaGreatDoor.Cy
set_option linter.unusedVariables false
set_option linter.unusedSimpArgs false

theorem wp_map_run {P : Program} {w w' : World} {o : Oper} {a : Act} {K : Act → World → Prop} {Q : Exit → Act → World → Prop} (m k v : Operand) (t : TypeId) (hop : o.op = Op.mapUpdate t m k v)
    (x y z : Value) (hm : a.eval m = x) (hk : a.eval k = y) (hv : a.eval v = z) (hrun : (Instr.mapUpdate t x y z).run P w = .ok () w') (hK : K (a.put o.dst (.tuple #[])) w') : o.wp P a w K Q := by
  unfold Oper.wp
  simp [execOp, hop, hm, hk, hv, hrun, Result.andThen]
  exact hK
set_option maxHeartbeats 1000000 in
theorem put_any (gs gm gw : Nat) (cur : Int) (l : List (Int × Value)) (a : Option Addr) (len cap : Nat) (L : List (List Fi)) (w : World) (hs : w.heap[gs]? = some (.cells #[.int .i64 cur, .map (some gm), .map (some gw)] 45)) (hm : Mv.Mp w gm l) (hc : 0 ≤ cur ∧ cur ≤ 1099511627776) (HL : Hid (∀ W, Fp (fun j => j = gs ∨ j = gm) w W → Lvs W a len cap L)) (hw : wL L ≤ 1048576) :
    Calls Tryz.prog 34 #[.pointer (some ⟨gs, 0, none⟩), .slice a len cap] w fun e w' => e = .returned (.tuple #[]) ∧ ∃ gi gx xs, w'.heap[gs]? = some (.cells #[.int .i64 (cur + 1), .map (some gm), .map (some gw)] 45) ∧ Mv.Mp w' gm (Mv.put l (cur + 1) (.pointer (some ⟨gi, 0, none⟩))) ∧ w'.heap[gi]? = some (.cells #[.slice (some ⟨gx, 0, none⟩) len len, .int .i64 0] 82) ∧ w.heap.size ≤ gi ∧ Ot w.heap.size w' gx xs ∧ xs.map Lf.fs = L ∧ Fp (fun j => j = gs ∨ j = gm) w w' := by
  obtain ⟨c0, c1⟩ := hc
  have q0 := cell_of hs 0 _ rfl
  have f0 := fz_of hs 0
  have hmg : gm ≠ gs := hm.nocell hs
  obtain ⟨W1, hW1⟩ : ∃ W, W = w.setCell ⟨gs, 0, none⟩ (.int .i64 (cur + 1)) := ⟨_, rfl⟩
  have k1 : W1.heap[gs]? = some (.cells #[.int .i64 (cur + 1), .map (some gm), .map (some gw)] 45) := by rw [hW1]; exact (set_of hs 0 _).trans rfl
  have F1 : Fp (fun j => j = gs ∨ j = gm) w W1 := by rw [hW1]; exact (Fp.refl _ w).set (.inl (.inl rfl)) _ _
  have BX : Hid (∀ W, Fp (fun j => j = gm) W1 W → W.heap[gs]? = some (.cells #[.int .i64 (cur + 1), .map (some gm), .map (some gw)] 45)) := fun W b => (b.block _ (blk_lt k1) (fun e => hmg e.symm)).trans k1
  have m1 : Mv.Mp W1 gm l := hm.blk (by rw [hW1]; exact set_ne _ _ _ _ _ hmg)
  have MM : Hid (∀ W, Below W1.heap.size W1 W → Mv.Mp W gm l) := fun W b => m1.later b
  have CP : Hid (∀ W, Below W1.heap.size W1 W → Calls Tryz.prog 49 #[.slice a len cap] W fun e w' => ∃ g xs, e = .returned (.slice (some ⟨g, 0, none⟩) len len) ∧ Ou W w' g xs ∧ xs.map Lf.fs = L) := fun W b => copied_any a len cap L W (HL.out W (F1.below b)) hw
  have hgm : gm < W1.heap.size := m1.lt
  have hgs : gs < W1.heap.size := blk_lt k1
  have hwz : w.heap.size = W1.heap.size := by rw [hW1]; simp
  replace hW1 := hid hW1
  replace F1 := hid F1
  replace hgm := hid hgm
  replace hgs := hid hgs
  replace hmg := hid hmg
  replace hwz := hid hwz
  clear hm m1 k1 HL hw
  go_enter Tryz.func34, Tryz.ntmps34
  go_wp2_with fail
  rw [← hW1.out]
  clear hs q0 f0 c0 c1
  refine wp_region_held_drew (S := fun W => Fp (fun j => j = gm) W1 W) (by kernel_rfl) (Fp.of (drew_below W1)) (fun hS => ?_)
  have hB := drew_below W1
  generalize hV0 : World.drew W1 = V0 at *
  replace hV0 := hid hV0
  refine wpAnyH_take (i := 0) (v := ?v1) rfl (by kernel_rfl) (by kernel_rfl) (by kernel_rfl) (fun _ _ _ h => h) (Or.inl ⟨by rfl, ?h1⟩) hS ?_
  case h1 => (intro W hW; go_simp; try (with_reducible rfl))
  go_simp
  refine wpAnyH_take (i := 1) (v := ?v2) rfl (by kernel_rfl) (by kernel_rfl) (by kernel_rfl) (fun _ _ _ h => h) (Or.inl ⟨by rfl, ?h2⟩) hS ?_
  case h2 => (intro W hW; go_simp; try (with_reducible rfl))
  go_simp
  refine wpAnyH_take (i := 2) (v := ?v3) rfl (by kernel_rfl) (by kernel_rfl) (by kernel_rfl) (fun _ _ _ h => h) (Or.inl ⟨by rfl, ?h3⟩) hS ?_
  case h3 => (intro W hW; go_simp; try (with_reducible rfl))
  go_simp
  refine wpAnyH_take (i := 3) (v := ?v4) rfl (by kernel_rfl) (by kernel_rfl) (by kernel_rfl) (fun _ _ _ h => h) (Or.inl ⟨by rfl, ?h4⟩) hS ?_
  case h4 => (intro W hW; have c1 := cell_of (BX.out W hW) 1 _ rfl; go_simp; try (with_reducible rfl))
  go_simp
  refine wpAnyH_take (i := 4) (v := ?v5) rfl (by kernel_rfl) (by kernel_rfl) (by kernel_rfl) (fun _ _ _ h => h) (Or.inl ⟨by rfl, ?h5⟩) hS ?_
  case h5 => (intro W hW; go_simp; try (with_reducible rfl))
  go_simp
  refine wpAnyH_take (i := 5) (v := ?v6) rfl (by kernel_rfl) (by kernel_rfl) (by kernel_rfl) (fun _ _ _ h => h) (Or.inl ⟨by rfl, ?h6⟩) hS ?_
  case h6 => (intro W hW; go_simp; try (with_reducible rfl))
  go_simp
  refine wpAnyH_take (i := 6) (v := ?v7) rfl (by kernel_rfl) (by kernel_rfl) (by kernel_rfl) (fun _ _ _ h => h) (Or.inl ⟨by rfl, ?h7⟩) hS ?_
  case h7 => (intro W hW; go_simp; try (with_reducible rfl))
  go_simp
  refine wpAnyH_take (i := 7) (v := ?v8) rfl (by kernel_rfl) (by kernel_rfl) (by kernel_rfl) (fun _ _ _ h => h) (Or.inl ⟨by rfl, ?h8⟩) hS ?_
  case h8 => (intro W hW; have c1 := cell_of (BX.out W hW) 0 _ rfl; go_simp; try (with_reducible rfl))
  go_simp
  refine wpAnyH_take (i := 8) (v := ?v9) rfl (by kernel_rfl) (by kernel_rfl) (by kernel_rfl) (fun _ _ _ h => h) (Or.inl ⟨by rfl, ?h9⟩) hS ?_
  case h9 => (intro W hW; go_simp; try (with_reducible rfl))
  go_simp
  refine wpAnyH_ready (rs := [9]) (by kernel_rfl) (by simp) ?_
  refine AllReadyH.cons rfl (fun K hK => ?_) ?_
  · go_simp
    go_wp2_with fail
    refine (CP.out V0 hB).mono ?_
    rintro e V1 ⟨gx, xs, rfl, O1, hL⟩
    have hB1 : Below W1.heap.size W1 V1 := Below.up hB O1.lo
    have hz1 : V0.heap.size ≤ V1.heap.size := O1.lo.size
    replace O1 := hid O1
    replace hL := hid hL
    refine hK.out _ _ (Fp.of hB1) (fun hS => ?_)
    clear hK K
    refine wpAnyH_take (i := 10) (v := ?v10) rfl (by kernel_rfl) (by kernel_rfl) (by kernel_rfl) (fun _ _ _ h => h) (Or.inl ⟨by rfl, ?h10⟩) hS ?_
    case h10 => (intro W hW; go_simp; try (with_reducible rfl))
    go_simp
    refine wpAnyH_ready (rs := [11]) (by kernel_rfl) (by simp) ?_
    refine AllReadyH.cons rfl (fun K hK => ?_) ?_
    · go_simp
      have B2 := box_below V1 (.cells #[.slice (some ⟨gx, 0, none⟩) len len, .int .i64 0] 82)
      have N2 := new_at V1 (.cells #[.slice (some ⟨gx, 0, none⟩) len len, .int .i64 0] 82)
      have hB2 := Below.up hB1 B2
      refine hK.out _ _ (Fp.of hB2) (fun hS => ?_)
      clear hK K
      obtain ⟨gi, hgi⟩ : ∃ g, g = V1.heap.size := ⟨_, rfl⟩
      have hgi1 : Hid (W1.heap.size ≤ gi) := by show _ ≤ _; rw [hgi]; exact hB1.size
      have O2 := hid (O1.out.later B2)
      generalize V1.alloc (.cells #[.slice (some ⟨gx, 0, none⟩) len len, .int .i64 0] 82) = V2 at *
      rw [← hgi] at N2 ⊢
      replace hgi := hid hgi
      clear B2 O1 hB1
      obtain ⟨W', r', M', G'⟩ := Mv.Mp.put Mv.und_v (MM.out V2 hB2) (cur + 1) (.pointer (some ⟨gi, 0, none⟩))
      replace M' := hid M'
      replace N2 := hid N2
      refine wpAnyH_ready (rs := [12]) (by kernel_rfl) (by simp) ?_
      refine AllReadyH.cons rfl (fun K hK => ?_) ?_
      · go_simp
        have F3 : Fp (fun j => j = gm) W1 W' := (Fp.of hB2).grown G' (fun j hj => .inl (by cases hj; rfl))
        have kx : Hid (W'.heap[gs]? = some (.cells #[.int .i64 (cur + 1), .map (some gm), .map (some gw)] 45)) := (G'.block gs (Nat.lt_of_lt_of_le hgs.out hB2.size) (fun e => hmg.out (Option.some.inj e).symm)).trans (BX.out V2 (Fp.of hB2))
        have ki : Hid (W'.heap[gi]? = some (.cells #[.slice (some ⟨gx, 0, none⟩) len len, .int .i64 0] 82)) := (G'.block gi (blk_lt N2.out) (fun e => by have h1 := hgi1.out; have h2 := hgm.out; have := Option.some.inj e; omega)).trans N2.out
        have O3 : Hid (Ot V0.heap.size W' gx xs) := O2.out.ot.kept (fun j h1 h2 => G'.block j h2 (fun e => by have h3 := hgm.out; have h4 := hB.size; have h5 := Option.some.inj e; omega))
        replace F3 := hid F3
        clear r' G'
        refine hK.out _ _ F3.out (fun hS => ?_)
        refine wpAnyH_done (by kernel_rfl) ?_ _
        clear hK K
        have F4 : Hid (Fp (fun j => j = gs ∨ j = gm) w W') := F1.out.tr (F3.out.wide (fun j _ h => .inl (.inr h)))
        have O4 : Hid (Ot w.heap.size W' gx xs) := by have h := O3.out; rwa [show V0.heap.size = w.heap.size by rw [hwz.out, ← hV0.out]; rfl] at h
        have hg4 : Hid (w.heap.size ≤ gi) := by show _ ≤ _; rw [hwz.out]; exact hgi1.out
        go_wp2_with fail
        exact bodyPost_end (results_none rfl _ _ _) rfl ⟨rfl, gi, gx, xs, kx.out, M'.out, ki.out, hg4.out, O4.out, hL.out, F4.out⟩
      exact AllReadyH.nil
    exact AllReadyH.nil
  exact AllReadyH.nil
end Go.Proofs.YtcpnmpepcpcahaaGreatDoor.Pt

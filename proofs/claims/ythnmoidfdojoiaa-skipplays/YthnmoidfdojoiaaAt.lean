/- What the law asks of both lists. -/
import Derived.Test.YthnmoidfdojoiaaAs
import Derived.Deep.RegionHeld
import Derived.Test.YthnmoidfdojoiaaLsS
namespace Go.Proofs.Ythnmoidfdojoiaa.At
open Go.ChangeShapes Go.WideShapes Go.ChangeAt Go.RowKit
open Go.Sort (grow)
open Go.Proofs.Ythnmoidfdojoiaa.Ik
open Go.Proofs.Ythnmoidfdojoiaa.Sg
open Go.Proofs.Ythnmoidfdojoiaa.Cm (ik)
open Go.Proofs.Ythnmoidfdojoiaa.Vl
open Go.Proofs.Ythnmoidfdojoiaa.Mm
open Go.Proofs.Ythnmoidfdojoiaa.Tr
open Go.Proofs.Ythnmoidfdojoiaa.Li
open Go.Proofs.Ythnmoidfdojoiaa.In (thr first_mem)
open Go.Proofs.Ythnmoidfdojoiaa.Oi
open Go.Proofs.Ythnmoidfdojoiaa.Tl (trl)
open Go.Proofs.Ythnmoidfdojoiaa.Fi (among_any)
open Go.Proofs.Ythnmoidfdojoiaa.Rc
open Go.Proofs.Ythnmoidfdojoiaa.Rl
open Go.Proofs.Ythnmoidfdojoiaa.Rn
open Go.Proofs.Ythnmoidfdojoiaa.Rk
open Go.Proofs.Ythnmoidfdojoiaa.Rt
open Go.Proofs.Ythnmoidfdojoiaa.As
open Go.Proofs.Ythnmoidfdojoiaa.InS (SL)
set_option linter.unusedVariables false
set_option linter.unusedSimpArgs false
set_option maxHeartbeats 4000000 in
set_option maxRecDepth 100000 in
theorem asked_5 (base bs g b most : Nat) (an ao : Option Addr) (cn co : Nat) (ns : List N) (ord : List Nat) (kd ht n : Int) (k : ByteArray) (s c : Int) (v : ByteArray) (w : World) (S : SL w bs g b most ns ord) (H : RL w base an ao cn co ns ord) (hl : ns.length ≤ 1048576) (hst : Strs ns) (hkd : kd % 8 = 5) :
    Calls Try.prog 13 #[.pointer (some ⟨g, 0, none⟩), .agg #[.int .i64 (most : Int), .slice an ns.length cn, .slice ao ord.length co], .agg #[.int .i64 kd, .int .i64 ht, .int .i64 n, .string k, .int .u64 s, .int .i64 c, .string v]] w fun e w' => e = .returned (.bool true) ∧ Below w.heap.size w w' := by
  obtain ⟨gk, hgk⟩ : ∃ gk, gk = w.heap.size := ⟨_, rfl⟩
  obtain ⟨wa, hwa⟩ : ∃ wa, wa = w.alloc (.cells #[.int .i64 (most : Int), .slice an ns.length cn, .slice ao ord.length co] 30) := ⟨_, rfl⟩
  obtain ⟨wr, hwr⟩ : ∃ wr, wr = wa.alloc (.cells #[.int .i64 kd, .int .i64 ht, .int .i64 n, .string k, .int .u64 s, .int .i64 c, .string v] 38) := ⟨_, rfl⟩
  have b1 : Below w.heap.size w wa := by rw [hwa]; exact box_below _ _
  have b2 : Below wa.heap.size wa wr := by rw [hwr]; exact box_below _ _
  have s1 : wa.heap.size = gk + 1 := by rw [hwa, size_alloc, hgk]
  have B0 : Below w.heap.size w wr := b1.trans (b2.mono b1.size)
  have R0 : RB wr gk most an ao cn co ns.length ord.length := (b2.block _ (by omega)).trans (by rw [hwa, hgk]; exact new_at _ _)
  have A0 : wr.heap[gk + 1]? = some (.cells #[.int .i64 kd, .int .i64 ht, .int .i64 n, .string k, .int .u64 s, .int .i64 c, .string v] 38) := by rw [← s1, hwr]; exact new_at _ _
  rw [hwa] at hwr
  clear b1 b2 s1 hwa
  have S0 := S.later B0
  have H0 := H.later B0
  have hol := H.G.len
  have G := H.G
  have HAm : Hid (∀ W, Calls Try.prog 12 #[.int .i64 kd, .int .i64 8] W fun e w' => e = .returned (.int .i64 5) ∧ w' = W) := fun W => by
    have := among_any kd 8 W (by omega)
    rwa [show kd % ((8 : Nat) : Int) = 5 from hkd] at this
  have a0 := cell_of A0 0 (.int .i64 kd) rfl
  have a2 := cell_of A0 2 (.int .i64 n) rfl
  have a3 := cell_of A0 3 (.string k) rfl
  have a4 := cell_of A0 4 (.int .u64 s) rfl
  have a5 := cell_of A0 5 (.int .i64 c) rfl
  have hzl : Hid ((zi (lnk ns ord n)).length ≤ 1000000000) := by
    show _ ≤ _
    rw [zi_len]
    unfold lnk
    split
    · simp
    · have : (chain ns ord n.toNat).length ≤ ord.length := List.length_filter_le _ _
      omega
  replace hwr := hid hwr
  replace hgk := hid hgk
  replace B0 := hid B0
  replace S0 := hid S0
  replace H0 := hid H0
  replace R0 := hid R0
  replace A0 := hid A0
  replace hol := hid hol
  replace G := hid G
  replace hst := hid hst
  clear S H hkd
  go_enter Try.func13, Try.ntmps13
  go_wp2_with fail
  rw [← hwr.out, ← hgk.out]
  go_wp2_with fail
  refine (HAm.out _).mono ?_
  rintro e w' ⟨rfl, rfl⟩
  clear HAm
  go_wp2_with fail
  have cd : Below w'.heap.size w' w'.drew := (Below.refl _ _).drew
  refine wp_region_held_drew (S := fun W => RB W gk most an ao cn co ns.length ord.length ∧ W.heap[gk + 1]? = some (.cells #[.int .i64 kd, .int .i64 ht, .int .i64 n, .string k, .int .u64 s, .int .i64 c, .string v] 38)) (by kernel_rfl) ⟨R0.out.later cd, (cd.block _ (blk_lt A0.out)).trans A0.out⟩ (fun hS => ?_)
  have S4 := hid (S0.out.later cd)
  have H4 := hid (H0.out.later cd)
  have B4 := hid (B0.out.drew)
  clear cd R0 A0 S0 H0 B0 a0 a2 a3 a4 a5
  generalize w'.drew = v4 at *
  refine wpAnyH_take (i := 0) (v := ?v0) rfl (by kernel_rfl) (by kernel_rfl) (by kernel_rfl) (fun _ _ _ h => h) (Or.inl ⟨by rfl, ?h0⟩) hS ?_
  case h0 => (intro W hW; go_simp; try (with_reducible rfl))
  go_simp
  refine wpAnyH_take (i := 1) (v := ?v1) rfl (by kernel_rfl) (by kernel_rfl) (by kernel_rfl) (fun _ _ _ h => h) (Or.inl ⟨by rfl, ?h1⟩) hS ?_
  case h1 => (intro W hW; have c2 := cell_of hW.2 2 (.int .i64 n) rfl; have c3 := cell_of hW.2 3 (.string k) rfl; have c4 := cell_of hW.2 4 (.int .u64 s) rfl; have c5 := cell_of hW.2 5 (.int .i64 c) rfl; go_simp; try (with_reducible rfl))
  go_simp
  refine wpAnyH_take (i := 2) (v := ?v2) rfl (by kernel_rfl) (by kernel_rfl) (by kernel_rfl) (fun _ _ _ h => h) (Or.inl ⟨by rfl, ?h2⟩) hS ?_
  case h2 => (intro W hW; have c2 := cell_of hW.2 2 (.int .i64 n) rfl; have c3 := cell_of hW.2 3 (.string k) rfl; have c4 := cell_of hW.2 4 (.int .u64 s) rfl; have c5 := cell_of hW.2 5 (.int .i64 c) rfl; go_simp; try (with_reducible rfl))
  go_simp
  refine wpAnyH_take (i := 4) (v := ?v4) rfl (by kernel_rfl) (by kernel_rfl) (by kernel_rfl) (fun _ _ _ h => h) (Or.inl ⟨by rfl, ?h4⟩) hS ?_
  case h4 => (intro W hW; have c0 := hW.1.c0; have c1 := hW.1.c1; have c2 := hW.1.c2; go_simp; try (with_reducible rfl))
  go_simp
  refine wpAnyH_take (i := 5) (v := ?v5) rfl (by kernel_rfl) (by kernel_rfl) (by kernel_rfl) (fun _ _ _ h => h) (Or.inl ⟨by rfl, ?h5⟩) hS ?_
  case h5 => (intro W hW; have c2 := cell_of hW.2 2 (.int .i64 n) rfl; have c3 := cell_of hW.2 3 (.string k) rfl; have c4 := cell_of hW.2 4 (.int .u64 s) rfl; have c5 := cell_of hW.2 5 (.int .i64 c) rfl; go_simp; try (with_reducible rfl))
  go_simp
  refine wpAnyH_take (i := 6) (v := ?v6) rfl (by kernel_rfl) (by kernel_rfl) (by kernel_rfl) (fun _ _ _ h => h) (Or.inl ⟨by rfl, ?h6⟩) hS ?_
  case h6 => (intro W hW; have c2 := cell_of hW.2 2 (.int .i64 n) rfl; have c3 := cell_of hW.2 3 (.string k) rfl; have c4 := cell_of hW.2 4 (.int .u64 s) rfl; have c5 := cell_of hW.2 5 (.int .i64 c) rfl; go_simp; try (with_reducible rfl))
  go_simp
  refine wpAnyH_ready (rs := [3]) (by kernel_rfl) (by simp) ?_
  refine AllReadyH.cons rfl (fun K hK => ?_) AllReadyH.nil
  have H5 := OiS.links_any bs g b most ns ord n v4 S4.out
  replace H5 := hid H5
  go_simp
  go_wp2_with fail
  refine H5.out.mono ?_
  rintro e y5 ⟨x5, rfl, O5, c5⟩
  refine hK.out _ _ ⟨hS.1.later c5, (c5.block _ (blk_lt hS.2)).trans hS.2⟩ (fun hS => ?_)
  have H6' := hid (H4.out.later c5)
  have B5 := hid (B4.out.trans (c5.mono B4.out.size))
  have z5 := c5.size
  clear hK K H5
  replace c5 := hid c5
  replace O5 := hid O5
  refine wpAnyH_ready (rs := [7]) (by kernel_rfl) (by simp) ?_
  refine AllReadyH.cons rfl (fun K hK => ?_) AllReadyH.nil
  have H6 := rlinks_any base most an ao cn co ns ord n y5 H6'.out hl
  replace H6 := hid H6
  go_simp
  go_wp2_with fail
  refine H6.out.mono ?_
  rintro e y6 ⟨x6, rfl, O6, c6⟩
  refine hK.out _ _ ⟨hS.1.later c6, (c6.block _ (blk_lt hS.2)).trans hS.2⟩ (fun hS => ?_)
  have B6 := hid (B5.out.trans (c6.mono B5.out.size))
  have z6 := c6.size
  have O5' := hid (OwnZ.later (show OwnZ y5 _ x5 _ from O5.out) c6)
  clear hK K H6
  refine wpAnyH_ready (rs := [8]) (by kernel_rfl) (by simp) ?_
  refine AllReadyH.cons rfl (fun K hK => ?_) AllReadyH.nil
  have H7 := ints_eq x5 x6 _ _ _ y6 O5'.out O6 (hzl.out)
  replace H7 := hid H7
  go_simp
  go_wp2_with fail
  refine H7.out.mono ?_
  rintro e y7 ⟨rfl, c7⟩
  refine hK.out _ _ ⟨hS.1.later c7, (c7.block _ (blk_lt hS.2)).trans hS.2⟩ (fun hS => ?_)
  have B7 := hid (B6.out.trans (c7.mono B6.out.size))
  clear hK K H7
  refine wpAnyH_take (i := 9) (v := ?v9) rfl (by kernel_rfl) (by kernel_rfl) (by kernel_rfl) (fun _ _ _ h => h) (Or.inl ⟨by rfl, ?h9⟩) hS ?_
  case h9 => (intro W hW; go_simp; try (with_reducible rfl))
  go_simp
  refine wpAnyH_done (by kernel_rfl) ?_ _
  go_wp2_with fail
  go_ret
  exact ⟨rfl, B7.out⟩
set_option maxHeartbeats 4000000 in
set_option maxRecDepth 100000 in
theorem asked_6 (base bs g b most : Nat) (an ao : Option Addr) (cn co : Nat) (ns : List N) (ord : List Nat) (kd ht n : Int) (k : ByteArray) (s c : Int) (v : ByteArray) (w : World) (S : SL w bs g b most ns ord) (H : RL w base an ao cn co ns ord) (hl : ns.length ≤ 1048576) (hst : Strs ns) (hkd : kd % 8 = 6) :
    Calls Try.prog 13 #[.pointer (some ⟨g, 0, none⟩), .agg #[.int .i64 (most : Int), .slice an ns.length cn, .slice ao ord.length co], .agg #[.int .i64 kd, .int .i64 ht, .int .i64 n, .string k, .int .u64 s, .int .i64 c, .string v]] w fun e w' => e = .returned (.bool true) ∧ Below w.heap.size w w' := by
  obtain ⟨gk, hgk⟩ : ∃ gk, gk = w.heap.size := ⟨_, rfl⟩
  obtain ⟨wa, hwa⟩ : ∃ wa, wa = w.alloc (.cells #[.int .i64 (most : Int), .slice an ns.length cn, .slice ao ord.length co] 30) := ⟨_, rfl⟩
  obtain ⟨wr, hwr⟩ : ∃ wr, wr = wa.alloc (.cells #[.int .i64 kd, .int .i64 ht, .int .i64 n, .string k, .int .u64 s, .int .i64 c, .string v] 38) := ⟨_, rfl⟩
  have b1 : Below w.heap.size w wa := by rw [hwa]; exact box_below _ _
  have b2 : Below wa.heap.size wa wr := by rw [hwr]; exact box_below _ _
  have s1 : wa.heap.size = gk + 1 := by rw [hwa, size_alloc, hgk]
  have B0 : Below w.heap.size w wr := b1.trans (b2.mono b1.size)
  have R0 : RB wr gk most an ao cn co ns.length ord.length := (b2.block _ (by omega)).trans (by rw [hwa, hgk]; exact new_at _ _)
  have A0 : wr.heap[gk + 1]? = some (.cells #[.int .i64 kd, .int .i64 ht, .int .i64 n, .string k, .int .u64 s, .int .i64 c, .string v] 38) := by rw [← s1, hwr]; exact new_at _ _
  rw [hwa] at hwr
  clear b1 b2 s1 hwa
  have S0 := S.later B0
  have H0 := H.later B0
  have hol := H.G.len
  have G := H.G
  have HAm : Hid (∀ W, Calls Try.prog 12 #[.int .i64 kd, .int .i64 8] W fun e w' => e = .returned (.int .i64 6) ∧ w' = W) := fun W => by
    have := among_any kd 8 W (by omega)
    rwa [show kd % ((8 : Nat) : Int) = 6 from hkd] at this
  have a0 := cell_of A0 0 (.int .i64 kd) rfl
  have a2 := cell_of A0 2 (.int .i64 n) rfl
  have a3 := cell_of A0 3 (.string k) rfl
  have a4 := cell_of A0 4 (.int .u64 s) rfl
  have a5 := cell_of A0 5 (.int .i64 c) rfl
  have hzl : Hid ((zi (trl ns ord (ik k s c) (top ns))).length ≤ 1000000000) := by
    show _ ≤ _
    rw [zi_len, Tl.trl_len]
    have := G.top12
    omega
  replace hwr := hid hwr
  replace hgk := hid hgk
  replace B0 := hid B0
  replace S0 := hid S0
  replace H0 := hid H0
  replace R0 := hid R0
  replace A0 := hid A0
  replace hol := hid hol
  replace G := hid G
  replace hst := hid hst
  clear S H hkd
  go_enter Try.func13, Try.ntmps13
  go_wp2_with fail
  rw [← hwr.out, ← hgk.out]
  go_wp2_with fail
  refine (HAm.out _).mono ?_
  rintro e w' ⟨rfl, rfl⟩
  clear HAm
  go_wp2_with fail
  have cd : Below w'.heap.size w' w'.drew := (Below.refl _ _).drew
  refine wp_region_held_drew (S := fun W => RB W gk most an ao cn co ns.length ord.length ∧ W.heap[gk + 1]? = some (.cells #[.int .i64 kd, .int .i64 ht, .int .i64 n, .string k, .int .u64 s, .int .i64 c, .string v] 38)) (by kernel_rfl) ⟨R0.out.later cd, (cd.block _ (blk_lt A0.out)).trans A0.out⟩ (fun hS => ?_)
  have S4 := hid (S0.out.later cd)
  have H4 := hid (H0.out.later cd)
  have B4 := hid (B0.out.drew)
  clear cd R0 A0 S0 H0 B0 a0 a2 a3 a4 a5
  generalize w'.drew = v4 at *
  refine wpAnyH_take (i := 0) (v := ?v0) rfl (by kernel_rfl) (by kernel_rfl) (by kernel_rfl) (fun _ _ _ h => h) (Or.inl ⟨by rfl, ?h0⟩) hS ?_
  case h0 => (intro W hW; go_simp; try (with_reducible rfl))
  go_simp
  refine wpAnyH_take (i := 1) (v := ?v1) rfl (by kernel_rfl) (by kernel_rfl) (by kernel_rfl) (fun _ _ _ h => h) (Or.inl ⟨by rfl, ?h1⟩) hS ?_
  case h1 => (intro W hW; have c2 := cell_of hW.2 2 (.int .i64 n) rfl; have c3 := cell_of hW.2 3 (.string k) rfl; have c4 := cell_of hW.2 4 (.int .u64 s) rfl; have c5 := cell_of hW.2 5 (.int .i64 c) rfl; go_simp; try (with_reducible rfl))
  go_simp
  refine wpAnyH_take (i := 2) (v := ?v2) rfl (by kernel_rfl) (by kernel_rfl) (by kernel_rfl) (fun _ _ _ h => h) (Or.inl ⟨by rfl, ?h2⟩) hS ?_
  case h2 => (intro W hW; have c2 := cell_of hW.2 2 (.int .i64 n) rfl; have c3 := cell_of hW.2 3 (.string k) rfl; have c4 := cell_of hW.2 4 (.int .u64 s) rfl; have c5 := cell_of hW.2 5 (.int .i64 c) rfl; go_simp; try (with_reducible rfl))
  go_simp
  refine wpAnyH_take (i := 4) (v := ?v4) rfl (by kernel_rfl) (by kernel_rfl) (by kernel_rfl) (fun _ _ _ h => h) (Or.inl ⟨by rfl, ?h4⟩) hS ?_
  case h4 => (intro W hW; have c0 := hW.1.c0; have c1 := hW.1.c1; have c2 := hW.1.c2; go_simp; try (with_reducible rfl))
  go_simp
  refine wpAnyH_take (i := 5) (v := ?v5) rfl (by kernel_rfl) (by kernel_rfl) (by kernel_rfl) (fun _ _ _ h => h) (Or.inl ⟨by rfl, ?h5⟩) hS ?_
  case h5 => (intro W hW; have c2 := cell_of hW.2 2 (.int .i64 n) rfl; have c3 := cell_of hW.2 3 (.string k) rfl; have c4 := cell_of hW.2 4 (.int .u64 s) rfl; have c5 := cell_of hW.2 5 (.int .i64 c) rfl; go_simp; try (with_reducible rfl))
  go_simp
  refine wpAnyH_take (i := 6) (v := ?v6) rfl (by kernel_rfl) (by kernel_rfl) (by kernel_rfl) (fun _ _ _ h => h) (Or.inl ⟨by rfl, ?h6⟩) hS ?_
  case h6 => (intro W hW; have c2 := cell_of hW.2 2 (.int .i64 n) rfl; have c3 := cell_of hW.2 3 (.string k) rfl; have c4 := cell_of hW.2 4 (.int .u64 s) rfl; have c5 := cell_of hW.2 5 (.int .i64 c) rfl; go_simp; try (with_reducible rfl))
  go_simp
  refine wpAnyH_ready (rs := [3]) (by kernel_rfl) (by simp) ?_
  refine AllReadyH.cons rfl (fun K hK => ?_) AllReadyH.nil
  have H5 := TlS.trailing_any bs g b most ns ord k s c v4 S4.out
  replace H5 := hid H5
  go_simp
  go_wp2_with fail
  refine H5.out.mono ?_
  rintro e y5 ⟨x5, rfl, O5, c5⟩
  refine hK.out _ _ ⟨hS.1.later c5, (c5.block _ (blk_lt hS.2)).trans hS.2⟩ (fun hS => ?_)
  have H6' := hid (H4.out.later c5)
  have B5 := hid (B4.out.trans (c5.mono B4.out.size))
  have z5 := c5.size
  clear hK K H5
  replace c5 := hid c5
  replace O5 := hid O5
  refine wpAnyH_ready (rs := [7]) (by kernel_rfl) (by simp) ?_
  refine AllReadyH.cons rfl (fun K hK => ?_) AllReadyH.nil
  have H6 := rtrail_any base most an ao cn co ns ord k s c y5 H6'.out hl
  replace H6 := hid H6
  go_simp
  go_wp2_with fail
  refine H6.out.mono ?_
  rintro e y6 ⟨x6, rfl, O6, c6⟩
  refine hK.out _ _ ⟨hS.1.later c6, (c6.block _ (blk_lt hS.2)).trans hS.2⟩ (fun hS => ?_)
  have B6 := hid (B5.out.trans (c6.mono B5.out.size))
  have z6 := c6.size
  have O5' := hid (OwnZ.later (show OwnZ y5 _ x5 _ from O5.out) c6)
  clear hK K H6
  refine wpAnyH_ready (rs := [8]) (by kernel_rfl) (by simp) ?_
  refine AllReadyH.cons rfl (fun K hK => ?_) AllReadyH.nil
  have H7 := ints_eq x5 x6 _ _ _ y6 O5'.out O6 (hzl.out)
  replace H7 := hid H7
  go_simp
  go_wp2_with fail
  refine H7.out.mono ?_
  rintro e y7 ⟨rfl, c7⟩
  refine hK.out _ _ ⟨hS.1.later c7, (c7.block _ (blk_lt hS.2)).trans hS.2⟩ (fun hS => ?_)
  have B7 := hid (B6.out.trans (c7.mono B6.out.size))
  clear hK K H7
  refine wpAnyH_take (i := 9) (v := ?v9) rfl (by kernel_rfl) (by kernel_rfl) (by kernel_rfl) (fun _ _ _ h => h) (Or.inl ⟨by rfl, ?h9⟩) hS ?_
  case h9 => (intro W hW; go_simp; try (with_reducible rfl))
  go_simp
  refine wpAnyH_done (by kernel_rfl) ?_ _
  go_wp2_with fail
  go_ret
  exact ⟨rfl, B7.out⟩
end Go.Proofs.Ythnmoidfdojoiaa.At

/- SkipMemory walked. -/
import Derived.Test.YthnmoidfdojoiabWk
import Derived.Deep.RegionHeld
namespace Go.Proofs.Ythnmoidfdojoiab.Sm
open Go.ChangeShapes Go.WideShapes Go.ChangeAt Go.RowKit
open Go.Sort (grow)
open Go.Proofs.Ythnmoidfdojoiab.Ik
open Go.Proofs.Ythnmoidfdojoiab.Sg
open Go.Proofs.Ythnmoidfdojoiab.Cm (ik)
open Go.Proofs.Ythnmoidfdojoiab.Vl
open Go.Proofs.Ythnmoidfdojoiab.Mm
open Go.Proofs.Ythnmoidfdojoiab.Tr
open Go.Proofs.Ythnmoidfdojoiab.Li
open Go.Proofs.Ythnmoidfdojoiab.In
open Go.Proofs.Ythnmoidfdojoiab.Oi
set_option linter.unusedVariables false
set_option linter.unusedSimpArgs false

open Go.Proofs.Ythnmoidfdojoiab.Tl
open Go.Proofs.Ythnmoidfdojoiab.Fi

open Go.Proofs.Ythnmoidfdojoiab.Pu

open Go.Proofs.Ythnmoidfdojoiab.Wk (key_any works_any)

theorem Bx.kept {w w' : World} {g : Nat} {k : ByteArray} {s c : Int} {row : Option Nat} (H : Bx w g k s c) (K : w.grownBy w' row) (hr : ∀ j, row = some j → ∃ c t f, w.heap[j]? = some (.cells c t f) ∧ t ≠ 25) : Bx w' g k s c := by
  refine (K.block g (blk_lt H) ?_).trans H
  intro e
  obtain ⟨c', t, f, h1, h2⟩ := hr g e.symm
  have := H
  unfold Bx at this
  rw [h1] at this
  simp at this
  exact h2 this.2.1
theorem gset {w W : World} {gg n c : Nat} (h : w.grownBy W (Value.slice (some ⟨gg, 0, none⟩) n c).ownBlock) (j' : Nat) (u : Value) : w.grownBy (W.setCell ⟨gg, j', none⟩ u) (Value.slice (some ⟨gg, 0, none⟩) n c).ownBlock :=
  ⟨h.os, h.tape, h.output, by simpa using h.size, fun k hk hne => (set_ne W gg k j' u (by intro e; exact hne (by rw [e]; rfl))).trans (h.block k hk hne)⟩
theorem row_int {w : World} {base : Nat} {v : Value} {xs : List Int} (O : OwnZ w base v xs) : ∀ j, v.ownBlock = some j → ∃ c t f, w.heap[j]? = some (.cells c t f) ∧ t = 3 := fun j hj => by
  obtain ⟨c, f, h⟩ := row_blk O j hj
  exact ⟨c, _, f, h, rfl⟩
theorem row_lt {w : World} {base : Nat} {v : Value} {xs : List Int} (O : OwnZ w base v xs) : ∀ j, v.ownBlock = some j → base ≤ j ∧ j < w.heap.size := fun j hj => World.ownsRow.lt O j hj
theorem apart {w1 w2 : World} {b1 b2 : Nat} {u v : Value} {xs ys : List Int} (O1 : OwnZ w1 b1 u xs) (O2 : OwnZ w2 b2 v ys) (h : w1.heap.size ≤ b2) : v.ownBlock = none ∨ u.ownBlock ≠ v.ownBlock := by
  cases hv : v.ownBlock with
  | none => exact .inl rfl
  | some j =>
    refine .inr fun e => ?_
    have := row_lt O1 j e
    have := row_lt O2 j hv
    omega
theorem apart' {w1 w2 : World} {b1 b2 : Nat} {u v : Value} {xs ys : List Int} (O1 : OwnZ w1 b1 u xs) (O2 : OwnZ w2 b2 v ys) (h : w1.heap.size ≤ b2) : u.ownBlock = none ∨ v.ownBlock ≠ u.ownBlock := by
  cases hv : u.ownBlock with
  | none => exact .inl rfl
  | some j =>
    refine .inr fun e => ?_
    have := row_lt O1 j hv
    have := row_lt O2 j e
    omega
set_option maxHeartbeats 8000000 in
set_option maxRecDepth 100000 in
theorem memory_any (a : Option Addr) (len cap : Nat) (ps : List P4) (k : ByteArray) (s c : Int) (w : World) (H : Puts w a len cap ps) (hlen : len ≤ 140737488355328) :
    Calls Try.prog 3 #[.slice a len cap, .agg #[.string k, .int .u64 s, .int .i64 c]] w fun e w' => e = .returned (.bool true) ∧ Below w.heap.size w w' := by
  obtain ⟨gk, hgk⟩ : ∃ gk, gk = w.heap.size := ⟨_, rfl⟩
  obtain ⟨W0, hW0⟩ : ∃ W0, W0 = w.alloc (.cells #[.string k, .int .u64 s, .int .i64 c] 25) := ⟨_, rfl⟩
  have B0 : Below w.heap.size w W0 := by rw [hW0]; exact box_below _ _
  have K0 : Bx W0 gk k s c := by rw [hW0, hgk]; exact new_at _ _
  have HWk := hid (works_any W0)
  have HP := hid (H.later B0)
  replace hW0 := hid hW0
  replace hgk := hid hgk
  replace B0 := hid B0
  replace K0 := hid K0
  obtain ⟨ns, hns⟩ : ∃ ns, ns = (mk 0 ps len).ns := ⟨_, rfl⟩
  obtain ⟨ord, hord⟩ : ∃ ord, ord = (mk 0 ps len).ord := ⟨_, rfl⟩
  obtain ⟨tk, htk⟩ : ∃ tk, tk = (mk 0 ps len).tk := ⟨_, rfl⟩
  have hml : tk.length = ns.length ∧ ns.length ≤ 1048576 := by rw [htk, hns]; exact mk_len 0 ps len
  obtain ⟨hml, hml2⟩ := hml
  have HM : Hid (∀ W, Puts W a len cap ps → Calls Try.prog 5 #[.slice a len cap, .int .i64 0] W fun e w' => ∃ v, e = .returned (.tuple #[.pointer (some ⟨W.heap.size + 1, 0, none⟩), v]) ∧ (∃ b, SL w' W.heap.size (W.heap.size + 1) b 1048576 ns ord) ∧ OwnZ w' W.heap.size v (zi tk) ∧ Below W.heap.size W w') := fun W hW => by rw [hns, hord, htk]; exact made_any a len cap ps 0 W hW (by omega) hlen
  clear H hns hord htk
  replace hml := hid hml
  go_enter Try.func3, Try.ntmps3
  go_wp2_with fail
  rw [← hW0.out, ← hgk.out]
  refine HWk.out.mono ?_
  rintro e v1 ⟨rfl, c1⟩
  have K1 := hid (K0.out.later c1)
  have B1 := hid (B0.out.trans (c1.mono B0.out.size))
  have HM1 := HM.out v1 (HP.out.later c1)
  clear c1 HWk hW0 K0 B0 HM
  replace HM1 := hid HM1
  obtain ⟨g, hg⟩ : ∃ g, g = v1.heap.size + 1 := ⟨_, rfl⟩
  rw [← hg] at HM1
  replace hg := hid hg
  go_wp2_with fail
  refine HM1.out.mono ?_
  rintro e v2 ⟨vt, rfl, ⟨b, S2⟩, OT, c2⟩
  obtain ⟨at', ct, ht', _⟩ := OT.shape
  subst ht'
  have K2 := hid (K1.out.later c2)
  have B2 := hid (B1.out.trans (c2.mono B1.out.size))
  have HN2 := new_ok 1 v2 (by omega) (by omega)
  obtain ⟨base, hbs⟩ : ∃ base, base = v1.heap.size := ⟨_, rfl⟩
  rw [← hbs] at S2
  obtain ⟨go, hgo⟩ : ∃ go, go = v2.heap.size + 1 := ⟨_, rfl⟩
  obtain ⟨bo, hbo⟩ : ∃ bo, bo = v2.heap.size := ⟨_, rfl⟩
  rw [← hgo, ← hbo] at HN2
  clear c2 OT HM1 K1 B1 hbs hgo
  replace HN2 := hid HN2
  replace S2 := hid S2
  go_wp2_with fail
  refine HN2.out.mono ?_
  rintro e v3 ⟨rfl, N3, c3⟩
  rw [hbo] at c3
  have K3 := K2.out.later c3
  have L3 := hid (S2.out.later c3)
  have B3 := hid (B2.out.trans (c3.mono B2.out.size))
  replace N3 := hid N3
  clear c3 HN2 S2 K2 B2 hbo
  have hK3 := hid K3
  clear K3
  go_wp2_with fail
  refine wp_region_held_drew (S := fun W => Bx W gk k s c) (by kernel_rfl) (hK3.out.later (Below.refl _ _).drew) (fun hS => ?_)
  have cd : Below v3.heap.size v3 v3.drew := (Below.refl _ _).drew
  have L4 := hid (L3.out.later cd)
  have N4 := hid (N3.out.later cd)
  have B4 := hid (B3.out.drew)
  clear cd L3 N3 B3 hK3
  generalize v3.drew = v4 at *
  refine wpAnyH_take (i := 0) (v := ?v0) rfl (by kernel_rfl) (by kernel_rfl) (by kernel_rfl) (fun _ _ _ h => h) (Or.inl ⟨by rfl, ?h0⟩) hS ?_
  case h0 => (intro W hW; go_simp; try (with_reducible rfl))
  go_simp
  refine wpAnyH_take (i := 2) (v := ?v2) rfl (by kernel_rfl) (by kernel_rfl) (by kernel_rfl) (fun _ _ _ h => h) (Or.inl ⟨by rfl, ?h2⟩) hS ?_
  case h2 => (intro W hW; go_simp; try (with_reducible rfl))
  go_simp
  refine wpAnyH_take (i := 4) (v := ?v4) rfl (by kernel_rfl) (by kernel_rfl) (by kernel_rfl) (fun _ _ _ h => h) (Or.inl ⟨by rfl, ?h4⟩) hS ?_
  case h4 => (intro W hW; go_simp; try (with_reducible rfl))
  go_simp
  refine wpAnyH_take (i := 5) (v := ?v5) rfl (by kernel_rfl) (by kernel_rfl) (by kernel_rfl) (fun _ _ _ h => h) (Or.inl ⟨by rfl, ?h5⟩) hS ?_
  case h5 => (intro W hW; have c0 := hW.c0; have c1 := hW.c1; have c2 := hW.c2; go_simp; try (with_reducible rfl))
  go_simp
  refine wpAnyH_take (i := 7) (v := ?v7) rfl (by kernel_rfl) (by kernel_rfl) (by kernel_rfl) (fun _ _ _ h => h) (Or.inl ⟨by rfl, ?h7⟩) hS ?_
  case h7 => (intro W hW; go_simp; try (with_reducible rfl))
  go_simp
  refine wpAnyH_take (i := 8) (v := ?v8) rfl (by kernel_rfl) (by kernel_rfl) (by kernel_rfl) (fun _ _ _ h => h) (Or.inl ⟨by rfl, ?h8⟩) hS ?_
  case h8 => (intro W hW; have c0 := hW.c0; have c1 := hW.c1; have c2 := hW.c2; go_simp; try (with_reducible rfl))
  go_simp
  refine wpAnyH_ready (rs := [1]) (by kernel_rfl) (by simp) ?_
  refine AllReadyH.cons rfl (fun K hK => ?_) AllReadyH.nil
  have H5 := links_any base g b 1048576 ns ord 0 v4 L4.out
  replace H5 := hid H5
  go_simp
  go_wp2_with fail
  refine H5.out.mono ?_
  rintro e y5 ⟨x5, rfl, O5, c5⟩
  refine hK.out _ _ (Bx.later hS c5) (fun hS => ?_)
  have L5 := hid (L4.out.later c5)
  have N5 := hid (N4.out.later c5)
  have B5 := hid (B4.out.trans (c5.mono B4.out.size))
  have z5 := c5.size
  clear hK K H5
  replace c5 := hid c5
  replace O5 := hid O5
  refine wpAnyH_ready (rs := [3]) (by kernel_rfl) (by simp) ?_
  refine AllReadyH.cons rfl (fun K hK => ?_) AllReadyH.nil
  have H6 := links_any base g b 1048576 ns ord 0 y5 L5.out
  replace H6 := hid H6
  go_simp
  go_wp2_with fail
  refine H6.out.mono ?_
  rintro e y6 ⟨x6, rfl, O6, c6⟩
  refine hK.out _ _ (Bx.later hS c6) (fun hS => ?_)
  have L6 := hid (L5.out.later c6)
  have N6 := hid (N5.out.later c6)
  have B6 := hid (B5.out.trans (c6.mono B5.out.size))
  have z6 := c6.size
  clear hK K H6
  replace c6 := hid c6
  replace O6 := hid O6
  refine wpAnyH_ready (rs := [6]) (by kernel_rfl) (by simp) ?_
  refine AllReadyH.cons rfl (fun K hK => ?_) AllReadyH.nil
  have H7 := trailing_any base g b 1048576 ns ord k s c y6 L6.out
  replace H7 := hid H7
  go_simp
  go_wp2_with fail
  refine H7.out.mono ?_
  rintro e y7 ⟨x7, rfl, O7, c7⟩
  refine hK.out _ _ (Bx.later hS c7) (fun hS => ?_)
  have L7 := hid (L6.out.later c7)
  have N7 := hid (N6.out.later c7)
  have B7 := hid (B6.out.trans (c7.mono B6.out.size))
  have z7 := c7.size
  clear hK K H7
  replace c7 := hid c7
  replace O7 := hid O7
  refine wpAnyH_ready (rs := [9]) (by kernel_rfl) (by simp) ?_
  refine AllReadyH.cons rfl (fun K hK => ?_) AllReadyH.nil
  have H8 := trailing_any base g b 1048576 ns ord k s c y7 L7.out
  replace H8 := hid H8
  go_simp
  go_wp2_with fail
  refine H8.out.mono ?_
  rintro e y8 ⟨x8, rfl, O8, c8⟩
  refine hK.out _ _ (Bx.later hS c8) (fun hS => ?_)
  have L8 := hid (L7.out.later c8)
  have N8 := hid (N7.out.later c8)
  have B8 := hid (B7.out.trans (c8.mono B7.out.size))
  have z8 := c8.size
  clear hK K H8
  replace c8 := hid c8
  replace O8 := hid O8
  refine wpAnyH_take (i := 10) (v := ?v10) rfl (by kernel_rfl) (by kernel_rfl) (by kernel_rfl) (fun _ _ _ h => h) (Or.inl ⟨by rfl, ?h10⟩) hS ?_
  case h10 => (intro W hW; go_simp; try (with_reducible rfl))
  go_simp
  refine wpAnyH_take (i := 11) (v := ?v11) rfl (by kernel_rfl) (by kernel_rfl) (by kernel_rfl) (fun _ _ _ h => h) (Or.inl ⟨by rfl, ?h11⟩) hS ?_
  case h11 => (intro W hW; go_simp; try (with_reducible rfl))
  go_simp
  refine wpAnyH_take (i := 12) (v := ?v12) rfl (by kernel_rfl) (by kernel_rfl) (by kernel_rfl) (fun _ _ _ h => h) (Or.inl ⟨by rfl, ?h12⟩) hS ?_
  case h12 => (intro W hW; go_simp; try (with_reducible rfl))
  go_simp
  refine wpAnyH_take (i := 13) (v := ?v13) rfl (by kernel_rfl) (by kernel_rfl) (by kernel_rfl) (fun _ _ _ h => h) (Or.inl ⟨by rfl, ?h13⟩) hS ?_
  case h13 => (intro W hW; go_simp; try (with_reducible rfl))
  go_simp
  refine wpAnyH_done (by kernel_rfl) ?_ _
  obtain ⟨a5, q5, rfl, ha5⟩ := O5.out.shape
  obtain ⟨a6, q6, rfl, ha6⟩ := O6.out.shape
  obtain ⟨a7, q7, rfl, ha7⟩ := O7.out.shape
  obtain ⟨a8, q8, rfl, ha8⟩ := O8.out.shape
  have hl0 : (zi (lnk ns ord 0)).length = ns.length := by
    rw [zi_len]
    obtain ⟨_, _, _, G, _⟩ := L8.out
    have : lnk ns ord 0 = ord := by unfold lnk; rw [if_neg (by omega)]; exact G.chain0
    rw [this]; exact G.len
  have ht0 : (zi (trl ns ord (ik k s c) (top ns))).length ≤ 12 := by
    rw [zi_len, trl_len]
    obtain ⟨_, _, _, G, _⟩ := L8.out
    exact G.top12
  have HI1 := ints_eq _ _ _ _ _ y8 (((O5.out.later c6.out).later c7.out).later c8.out) ((O6.out.later c7.out).later c8.out) (by omega)
  have HI2 : ∀ W, Below y8.heap.size y8 W → Calls Try.prog 9 #[.slice a7 (zi (trl ns ord (ik k s c) (top ns))).length q7, .slice a8 (zi (trl ns ord (ik k s c) (top ns))).length q8] W fun e w' => e = .returned (.bool true) ∧ Below W.heap.size W w' := fun W hW => ints_eq _ _ _ _ _ W ((O7.out.later c8.out).later hW) (O8.out.later hW) (by omega)
  have hap56 := apart' O5.out O6.out (Nat.le_refl _)
  have hap56' := apart O5.out O6.out (Nat.le_refl _)
  have hap57 := apart O5.out O7.out (show y5.heap.size ≤ y6.heap.size from z6)
  have hap58 := apart O5.out O8.out (show y5.heap.size ≤ y7.heap.size by omega)
  have hap67 := apart' O6.out O7.out (Nat.le_refl _)
  have hap78 := apart O7.out O8.out (Nat.le_refl _)
  obtain ⟨m5, hm5⟩ : ∃ m, m = v4.heap.size := ⟨_, rfl⟩
  obtain ⟨m6, hm6⟩ : ∃ m, m = y5.heap.size := ⟨_, rfl⟩
  obtain ⟨m7, hm7⟩ : ∃ m, m = y6.heap.size := ⟨_, rfl⟩
  obtain ⟨m8, hm8⟩ : ∃ m, m = y7.heap.size := ⟨_, rfl⟩
  have P5 : OwnZ y8 m5 (.slice a5 (zi (lnk ns ord 0)).length q5) (zi (lnk ns ord 0)) := by rw [hm5]; exact ((O5.out.later c6.out).later c7.out).later c8.out
  have P6 : OwnZ y8 m6 (.slice a6 (zi (lnk ns ord 0)).length q6) (zi (lnk ns ord 0)) := by rw [hm6]; exact (O6.out.later c7.out).later c8.out
  have P7 : OwnZ y8 m7 (.slice a7 (zi (trl ns ord (ik k s c) (top ns))).length q7) (zi (trl ns ord (ik k s c) (top ns))) := by rw [hm7]; exact O7.out.later c8.out
  have P8 : OwnZ y8 m8 (.slice a8 (zi (trl ns ord (ik k s c) (top ns))).length q8) (zi (trl ns ord (ik k s c) (top ns))) := by rw [hm8]; exact O8.out
  have hmb : gk ≤ m5 ∧ gk ≤ m6 ∧ gk ≤ m7 ∧ gk ≤ m8 := by
    have := B4.out.size
    have := B5.out.size
    have := B6.out.size
    have := B7.out.size
    have := hgk.out
    omega
  have HLi : ∀ W, SL W base g b 1048576 ns ord → Calls Try.prog 7 #[.pointer (some ⟨g, 0, none⟩), .int .i64 0] W fun e w' => ∃ v, e = .returned v ∧ OwnZ w' W.heap.size v (zi (lnk ns ord 0)) ∧ Below W.heap.size W w' := fun W hW => links_any base g b 1048576 ns ord 0 W hW
  have HTi : ∀ W, SL W base g b 1048576 ns ord → Calls Try.prog 8 #[.pointer (some ⟨g, 0, none⟩), .agg #[.string k, .int .u64 s, .int .i64 c]] W fun e w' => ∃ v, e = .returned v ∧ OwnZ w' W.heap.size v (zi (trl ns ord (ik k s c) (top ns))) ∧ Below W.heap.size W w' := fun W hW => trailing_any base g b 1048576 ns ord k s c W hW
  clear O5 O6 O7 O8 c6 c7 c8 L4 L5 L6 L7 N4 N5 N6 N7 B4 B5 B6 B7 hm5 hm6 hm7 hm8 z5 z6 z7 z8 c5 ha6 ha8
  have hzt : (zi tk).length = ns.length := by rw [zi_len]; exact hml.out
  rw [hzt]
  generalize hX : zi (lnk ns ord 0) = X at *
  generalize hY : zi (trl ns ord (ik k s c) (top ns)) = Y at *
  clear hX hY
  obtain ⟨n5, hn5⟩ : ∃ n, X.length = n := ⟨_, rfl⟩
  obtain ⟨n7, hn7⟩ : ∃ n, Y.length = n := ⟨_, rfl⟩
  rw [hn5] at hl0 HI1 P5 P6 hap56 hap56' hap57 hap58 hap67 ⊢
  rw [hn7] at ht0 HI2 P7 P8 hap57 hap58 hap67 hap78 ⊢
  replace hl0 := hid hl0
  replace hn5 := hid hn5
  replace hn7 := hid hn7
  replace HI1 := hid HI1
  replace HI2 := hid HI2
  replace HLi := hid HLi
  replace HTi := hid HTi
  replace P5 := hid P5
  replace P6 := hid P6
  replace P7 := hid P7
  replace P8 := hid P8
  replace hmb := hid hmb
  replace hap56 := hid hap56
  replace hap56' := hid hap56'
  replace hap57 := hid hap57
  replace hap58 := hid hap58
  replace hap67 := hid hap67
  replace hap78 := hid hap78
  replace hzt := hid hzt
  have hK8 := hid hS
  clear hS
  have hnb : n5 ≤ 1048576 := by rw [hl0.out]; exact hml2
  go_wp2_with fail
  refine HI1.out.mono ?_
  rintro e v9 ⟨rfl, c9⟩
  replace c9 := hid c9
  go_wp2_with fail
  refine (HI2.out v9 c9.out).mono ?_
  rintro e v10 ⟨rfl, c10⟩
  have cx := c9.out.trans (c10.mono c9.out.size)
  have Q5 := hid (P5.out.later cx)
  have Q6 := hid (P6.out.later cx)
  have Q7 := hid (P7.out.later cx)
  have Q8 := hid (P8.out.later cx)
  have L10 := hid (L8.out.later cx)
  have N10 := hid (N8.out.later cx)
  have B10 := hid (B8.out.trans (cx.mono B8.out.size))
  have K10 := hid (hK8.out.later cx)
  clear cx c10 c9 P5 P6 P7 P8 L8 N8 B8 hK8 HI1 HI2
  go_wp2_with fail
  go_loopw [13] (fun iv wr => ∃ (j : Nat) (xs : List Int), iv = .int .i64 (j : Int) ∧ j ≤ n5 ∧ Hid (xs.length = n5) ∧ Hid (OwnZ wr m5 (.slice a5 n5 q5) xs) ∧ Hid (World.grownBy v10 wr (Value.slice a5 n5 q5).ownBlock)) (fun iv _ => n5 - (intOf iv).toNat)
  case atStart => exact ⟨0, _, rfl, Nat.zero_le _, hn5, Q5, World.grownBy.refl _ _⟩
  case round =>
    obtain ⟨j, xs, rfl, hj, hxl, HO, HG⟩ := hrel
    by_cases hlt : j < n5
    · obtain ⟨gg, rfl⟩ : ∃ gg, a5 = some ⟨gg, 0, none⟩ := by
        rcases ha5 with rfl | h
        · rcases HO.out.2 with ⟨_, h0⟩ | ⟨_, _, _, e, _⟩
          · have := hxl.out; omega
          · simp at e
        · exact h
      have cc := HO.out.cell j (by rw [hxl.out]; exact hlt)
      obtain ⟨O2, ff⟩ := HO.out.set j (by rw [hxl.out]; exact hlt) (-1)
      have G2 : Hid (World.grownBy v10 (wr.setCell ⟨gg, j, none⟩ (.int .i64 (-1))) (Value.slice (some ⟨gg, 0, none⟩) n5 q5).ownBlock) := gset HG.out _ _
      have hxl2 : Hid ((xs.set j (-1)).length = n5) := by show _ = _; rw [List.length_set]; exact hxl.out
      have i1 : (j : Int) < (n5 : Int) := by omega
      replace O2 := hid O2
      go_wp2_with fail
      refine ⟨⟨j + 1, xs.set j (-1), by simp, by omega, hxl2, O2, G2⟩, ?_⟩
      simp only [intOf]; omega
    · have i1 : ¬ (j : Int) < (n5 : Int) := by omega
      have hr : ∀ q, (Value.slice a5 n5 q5).ownBlock = some q → ∃ c t f, v10.heap[q]? = some (.cells c t f) ∧ t = 3 := row_int Q5.out
      have ty : ∀ (T : TypeId), T ≠ 3 → ∀ q, (Value.slice a5 n5 q5).ownBlock = some q → ∃ c t f, v10.heap[q]? = some (.cells c t f) ∧ t ≠ T := fun T hT q hq => by obtain ⟨c, t, f, h1, h2⟩ := hr q hq; exact ⟨c, t, f, h1, by rw [h2]; exact fun e => hT e.symm⟩
      have R6 := hid (Q6.out.kept HG.out hap56'.out)
      have R7 := hid (Q7.out.kept HG.out hap57.out)
      have R8 := hid (Q8.out.kept HG.out hap58.out)
      have L11 := hid (SL.kept L10.out HG.out (fun q hq => by obtain ⟨c, t, f, h1, h2⟩ := hr q hq; exact ⟨c, t, f, h1, by rw [h2]; decide, by rw [h2]; decide⟩))
      have N11 := hid (SL.kept N10.out HG.out (fun q hq => by obtain ⟨c, t, f, h1, h2⟩ := hr q hq; exact ⟨c, t, f, h1, by rw [h2]; decide, by rw [h2]; decide⟩))
      have K11 := hid (Bx.kept K10.out HG.out (ty 25 (by decide)))
      have B11 := hid (B10.out.grown HG.out B10.out.size (fun q hq => by have := (row_lt Q5.out q hq).1; have := hmb.out.1; have := hgk.out; omega))
      clear hr ty HO HG hxl
      obtain ⟨w11, hw11⟩ : ∃ W, W = wr := ⟨_, rfl⟩
      rw [← hw11] at R6 R7 R8 L11 N11 K11 B11
      rw [← hw11]
      clear hw11
      go_wp2_with fail
      go_loopw [14] (fun iv wr => ∃ (j : Nat) (xs : List Int), iv = .int .i64 (j : Int) ∧ j ≤ n7 ∧ Hid (xs.length = n7) ∧ Hid (OwnZ wr m7 (.slice a7 n7 q7) xs) ∧ Hid (World.grownBy w11 wr (Value.slice a7 n7 q7).ownBlock)) (fun iv _ => n7 - (intOf iv).toNat)
      case atStart => exact ⟨0, _, rfl, Nat.zero_le _, hn7, R7, World.grownBy.refl _ _⟩
      case round =>
        obtain ⟨j, xs, rfl, hj, hxl, HO, HG⟩ := hrel
        by_cases hlt : j < n7
        · obtain ⟨gg, rfl⟩ : ∃ gg, a7 = some ⟨gg, 0, none⟩ := by
            rcases ha7 with rfl | h
            · rcases HO.out.2 with ⟨_, h0⟩ | ⟨_, _, _, e, _⟩
              · have := hxl.out; omega
              · simp at e
            · exact h
          have cc := HO.out.cell j (by rw [hxl.out]; exact hlt)
          obtain ⟨O2, ff⟩ := HO.out.set j (by rw [hxl.out]; exact hlt) (-2)
          have G2 : Hid (World.grownBy w11 (wr.setCell ⟨gg, j, none⟩ (.int .i64 (-2))) (Value.slice (some ⟨gg, 0, none⟩) n7 q7).ownBlock) := gset HG.out _ _
          have hxl2 : Hid ((xs.set j (-2)).length = n7) := by show _ = _; rw [List.length_set]; exact hxl.out
          have i1 : (j : Int) < (n7 : Int) := by omega
          replace O2 := hid O2
          go_wp2_with fail
          refine ⟨⟨j + 1, xs.set j (-2), by simp, by omega, hxl2, O2, G2⟩, ?_⟩
          simp only [intOf]; omega
        · have i1 : ¬ (j : Int) < (n7 : Int) := by omega
          have hr : ∀ q, (Value.slice a7 n7 q7).ownBlock = some q → ∃ c t f, w11.heap[q]? = some (.cells c t f) ∧ t = 3 := row_int R7.out
          have ty : ∀ (T : TypeId), T ≠ 3 → ∀ q, (Value.slice a7 n7 q7).ownBlock = some q → ∃ c t f, w11.heap[q]? = some (.cells c t f) ∧ t ≠ T := fun T hT q hq => by obtain ⟨c, t, f, h1, h2⟩ := hr q hq; exact ⟨c, t, f, h1, by rw [h2]; exact fun e => hT e.symm⟩
          have T6 := hid (R6.out.kept HG.out hap67.out)
          have T8 := hid (R8.out.kept HG.out hap78.out)
          have L12 := hid (SL.kept L11.out HG.out (fun q hq => by obtain ⟨c, t, f, h1, h2⟩ := hr q hq; exact ⟨c, t, f, h1, by rw [h2]; decide, by rw [h2]; decide⟩))
          have N12 := hid (SL.kept N11.out HG.out (fun q hq => by obtain ⟨c, t, f, h1, h2⟩ := hr q hq; exact ⟨c, t, f, h1, by rw [h2]; decide, by rw [h2]; decide⟩))
          have K12 := hid (Bx.kept K11.out HG.out (ty 25 (by decide)))
          have B12 := hid (B11.out.grown HG.out B11.out.size (fun q hq => by have := (row_lt R7.out q hq).1; have := hmb.out.2.2.1; have := hgk.out; omega))
          clear hr ty HO HG hxl
          go_wp2_with fail
          have HL13 := hid (HLi.out _ L12.out)
          go_wp2_with fail
          refine HL13.out.mono ?_
          rintro e y13 ⟨x13, rfl, O13, c13⟩
          have L13 := hid (L12.out.later c13)
          have N13 := hid (N12.out.later c13)
          have K13 := hid (K12.out.later c13)
          have B13 := hid (B12.out.trans (c13.mono B12.out.size))
          have T13 := hid (T8.out.later c13)
          have HE13 := ints_eq _ _ _ _ _ y13 (T6.out.later c13) O13 (by rw [hn5.out]; omega)
          clear c13 O13 T6 T8 L12 N12 K12 B12 HL13
          replace HE13 := hid HE13
          go_wp2_with fail
          refine HE13.out.mono ?_
          rintro e y14 ⟨rfl, c14⟩
          have L14 := L13.out.later c14
          have N14 := hid (N13.out.later c14)
          have K14 := hid (K13.out.later c14)
          have B14 := hid (B13.out.trans (c14.mono B13.out.size))
          have T14 := hid (T13.out.later c14)
          have HT14 := hid (HTi.out y14 L14)
          have k0 := K14.out.c0
          have k1 := K14.out.c1
          have k2 := K14.out.c2
          clear c14 L14 L13 N13 K13 B13 T13 HE13
          go_wp2_with fail
          refine HT14.out.mono ?_
          rintro e y15 ⟨x15, rfl, O15, c15⟩
          have N15 := hid (N14.out.later c15)
          have B15 := hid (B14.out.trans (c15.mono B14.out.size))
          have HE15 := ints_eq _ _ _ _ _ y15 (T14.out.later c15) O15 (by rw [hn7.out]; omega)
          clear c15 O15 T14 N14 B14 K14 k0 k1 k2 HT14
          replace HE15 := hid HE15
          go_wp2_with fail
          refine HE15.out.mono ?_
          rintro e y16 ⟨rfl, c16⟩
          have N16 := N15.out.later c16
          have B16 := hid (B15.out.trans (c16.mono B15.out.size))
          obtain ⟨capo, two, hLo, _, _⟩ := N16
          have HLen := hid (len_any go 1 (top []) bo 0 capo y16 hLo.hd (by omega) (by omega))
          have HHei := hid (height_any go 1 (top []) bo _ capo y16 hLo.hd (by omega))
          have heq : n5 = ns.length := hl0.out
          subst heq
          clear c16 N15 B15 HE15
          go_wp2_with fail
          refine HLen.out.mono ?_
          rintro e y17 ⟨rfl, rfl⟩
          go_wp2_with fail
          refine HHei.out.mono ?_
          rintro e y18 ⟨rfl, rfl⟩
          go_wp2_with fail
          go_ret
          exact ⟨rfl, B16.out⟩
end Go.Proofs.Ythnmoidfdojoiab.Sm

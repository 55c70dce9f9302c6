/- DiskClones walked, where no disk is. -/
import Derived.Test.YtgffojafdjcdoaaQq
namespace Go.Proofs.Ytgffojafdjcdoaa.Qr
open Go.ChangeShapes Go.WideShapes Go.ChangeAt Go.RowKit Go.Maps
open Go.Sort (grow)
open Go.Proofs.Ytgffojafdjcdoaa.By
open Go.Proofs.Ytgffojafdjcdoaa.Ac
open Go.Proofs.Ytgffojafdjcdoaa.Dk
open Go.Proofs.Ytgffojafdjcdoaa.Df (isN isQ isN_size fnd)
open Go.Proofs.Ytgffojafdjcdoaa.Dg (new_ok new_no)
open Go.Proofs.Ytgffojafdjcdoaa.Ll (Acts za)
open Go.Proofs.Ytgffojafdjcdoaa.Pd
open Go.Proofs.Ytgffojafdjcdoaa.Qa
open Go.Proofs.Ytgffojafdjcdoaa.Qb
open Go.Proofs.Ytgffojafdjcdoaa.Qp
open Go.Proofs.Ytgffojafdjcdoaa.Qq (act_at)
set_option linter.unusedVariables false
set_option linter.unusedSimpArgs false
set_option maxHeartbeats 16000000 in
set_option maxRecDepth 100000 in
theorem clones_no (q : Int) (a : Option Addr) (len cap : Nat) (xs : List A) (am : Option Addr) (lm cm : Nat) (ms : List A) (ao_ : Option Addr) (lo_ co_ : Nat) (os : List A) (w : World) (H : Acts w a len cap xs) (hl : len ≤ 140737488351232) (HM : Acts w am lm cm ms) (hlm : lm ≤ 140737488351232) (HO : Acts w ao_ lo_ co_ os) (hlo : lo_ ≤ 140737488351232) (h : isQ q = false) :
    Calls Try.prog 4 #[.int .i64 q, .slice a len cap, .agg #[.slice am lm cm, .slice ao_ lo_ co_]] w fun e w' => e = .returned (.bool true) ∧ Below w.heap.size w w' := by
  have HN := hid (fun W => new_no q h W)
  have HR := hid (fun W => rnew_no q h W)
  have H3 : Hid (∀ W, Calls Try.prog 10 #[] W fun e w' => e = .returned (.bool true) ∧ w' = W) := fun W => Ln.names_any W
  have HCl := hid (fun W => Nb.clone_non none W (non_nil W))
  have HCr := hid (fun W => rclone_nil W)
  have HS := hid (fun W => Nb.same_nil W)
  have HSr := hid (fun W => rsame_nil W)
  have hE : ∀ (w : World), Sem.run Try.prog (binOp .eql 23 (.pointer none) (.pointer none)) w = .ok (.bool true) w := fun w => rfl
  have hE2 : ∀ (w : World), Sem.run Try.prog (binOp .eql 27 (.pointer none) (.pointer none)) w = .ok (.bool true) w := fun w => rfl
  obtain ⟨n0, hn0⟩ : ∃ n0, n0 = w.heap.size := ⟨_, rfl⟩
  replace H := hid H
  replace HM := hid HM
  replace HO := hid HO
  obtain ⟨W0, eW0⟩ : ∃ W, w.alloc (.cells #[.slice am lm cm, .slice ao_ lo_ co_] 40) = W := ⟨_, rfl⟩
  have b0 : Hid (Below n0 w W0) := by show Below n0 w W0; rw [← eW0, hn0]; exact box_below _ _
  have kb := new_at w (.cells #[.slice am lm cm, .slice ao_ lo_ co_] 40)
  rw [eW0] at kb
  have t0 := cell_of kb 0 _ rfl
  have t1 := cell_of kb 1 _ rfl
  rw [← hn0] at t0 t1 ⊢
  have egx := hn0.symm
  replace hn0 := hid hn0
  clear h kb
  go_enter Try.func4, Try.ntmps4
  go_wp2_with fail
  go_quiet (fail)
  generalize hq : World.drewN W0 _ = w0 at *
  have bq : Hid (Below n0 w w0) := by show Below n0 w w0; rw [← hq]; exact b0.out.trans ((drewN_below _ _).mono (by rw [hn0.out]; exact b0.out.size))
  clear hq t0 t1 eW0 egx
  go_wp2_with fail
  refine (HN.out w0).mono ?_
  rintro e w1 ⟨rfl, hw⟩
  replace hw := hw.symm
  subst hw
  go_wp2_with fail
  refine (HR.out w0).mono ?_
  rintro e w1 ⟨rfl, hw⟩
  replace hw := hw.symm
  subst hw
  clear HN HR
  go_wp2_with fail
  go_loopw [13] (fun iv wr => ∃ (i : Nat), iv = .int .i64 (i : Int) ∧ i ≤ len ∧ Hid (Below n0 w wr)) (fun iv _ => len - (intOf iv).toNat)
  case atStart => exact ⟨0, rfl, Nat.zero_le _, bq⟩
  case round =>
    obtain ⟨i, rfl, hi, HB⟩ := hrel
    have hnw : Hid (n0 ≤ wr.heap.size) := by show _ ≤ _; rw [hn0.out]; exact HB.out.size
    by_cases hlt : i < len
    · have ik : (i : Int) < (len : Int) := by omega
      have hwr : IntKind.i64.wrap ((i : Int) + 1) = ((i + 1 : Nat) : Int) := by rw [IntKind.wrap_i64]; omega
      obtain ⟨ab, ao, x, rfl, HCx, -, -⟩ := act_at hn0.out H.out i hlt
      have HC : Hid (∀ W, Below n0 w W → (W.cell? ⟨ab, ao + i * 7, none⟩ = some (.int .i64 x.kind) ∧ W.cell? ⟨ab, ao + i * 7 + 1, none⟩ = some (.string x.name) ∧ W.cell? ⟨ab, ao + i * 7 + 2, none⟩ = some (.string x.to) ∧ W.cell? ⟨ab, ao + i * 7 + 3, none⟩ = some (.slice x.ba x.bl x.bc) ∧ W.cell? ⟨ab, ao + i * 7 + 4, none⟩ = some (.int .i64 x.at_) ∧ W.cell? ⟨ab, ao + i * 7 + 5, none⟩ = some (.int .i64 x.n) ∧ W.cell? ⟨ab, ao + i * 7 + 6, none⟩ = some (.slice x.ka x.kl x.kc)) ∧ x.ok W ∧ x.name.size ≤ 9223372036854775807 ∧ x.to.size ≤ 9223372036854775807) := HCx
      clear HCx
      obtain ⟨⟨a0, a1, a2, a3, a4, a5, a6⟩, xo, xn, xt⟩ := HC.out wr HB.out
      go_wp2_with fail
      refine (does_nil x wr xo).mono ?_
      rintro e w4 ⟨rfl, b4⟩
      have S4 : Hid (Below n0 w w4) := HB.out.trans (b4.mono hnw.out)
      clear a0 a1 a2 a3 a4 a5 a6 xo xn xt b4
      have hn4 : Hid (n0 ≤ w4.heap.size) := by show _ ≤ _; rw [hn0.out]; exact S4.out.size
      obtain ⟨⟨a0, a1, a2, a3, a4, a5, a6⟩, xo, xn, xt⟩ := HC.out w4 S4.out
      go_wp2_with fail
      refine (done_nil x w4 xo).mono ?_
      rintro e w5 ⟨rfl, b5⟩
      have S5 : Hid (Below n0 w w5) := S4.out.trans (b5.mono hn4.out)
      clear a0 a1 a2 a3 a4 a5 a6 xo xn xt b5
      go_wp2_with fail
      refine ⟨⟨i + 1, by first | rfl | go_num, by omega, S5⟩, ?_⟩
      simp only [intOf]; omega
    · have ik : ¬ (i : Int) < (len : Int) := by omega
      go_wp2_with fail
      refine (HCl.out wr).mono ?_
      rintro e w4 ⟨rfl, hw⟩
      replace hw := hw.symm
      subst hw
      go_wp2_with fail
      refine (HCr.out wr).mono ?_
      rintro e w4 ⟨rfl, hw⟩
      replace hw := hw.symm
      subst hw
      go_wp2_with fail
      refine (HS.out wr).mono ?_
      rintro e w4 ⟨rfl, hw⟩
      replace hw := hw.symm
      subst hw
      go_wp2_with fail
      refine (HS.out wr).mono ?_
      rintro e w4 ⟨rfl, hw⟩
      replace hw := hw.symm
      subst hw
      clear HCl HCr H bq b0
      go_wp2_with fail
      obtain ⟨mx, hmx⟩ : ∃ mx, mx = max lm lo_ := ⟨_, rfl⟩
      have hmx1 : lm ≤ mx := by omega
      have hmx2 : lo_ ≤ mx := by omega
      have hmx3 : mx ≤ 140737488351232 := by omega
      have hmx4 : ∀ k, k < mx → k < lm ∨ k < lo_ := fun k hk => by omega
      replace hmx := hid hmx
      replace hmx4 := hid hmx4
      go_loopw [16] (fun iv wr => ∃ (k : Nat), iv = .int .i64 (k : Int) ∧ k ≤ mx ∧ Hid (Below n0 w wr)) (fun iv _ => mx - (intOf iv).toNat)
      case atStart => exact ⟨0, rfl, Nat.zero_le _, HB⟩
      case round =>
        clear HB hnw
        obtain ⟨k, rfl, hk, HB⟩ := hrel
        have hnw : Hid (n0 ≤ wr.heap.size) := by show _ ≤ _; rw [hn0.out]; exact HB.out.size
        have hwr : IntKind.i64.wrap ((k : Int) + 1) = ((k + 1 : Nat) : Int) := by rw [IntKind.wrap_i64]; omega
        by_cases hm : k < lm
        · have jm : (k : Int) < (lm : Int) := by omega
          go_wp2_with fail
          obtain ⟨ab, ao, x, hab, HCx, -, -⟩ := act_at hn0.out HM.out k hm
          have HC : Hid (∀ W, Below n0 w W → (W.cell? ⟨ab, ao + k * 7, none⟩ = some (.int .i64 x.kind) ∧ W.cell? ⟨ab, ao + k * 7 + 1, none⟩ = some (.string x.name) ∧ W.cell? ⟨ab, ao + k * 7 + 2, none⟩ = some (.string x.to) ∧ W.cell? ⟨ab, ao + k * 7 + 3, none⟩ = some (.slice x.ba x.bl x.bc) ∧ W.cell? ⟨ab, ao + k * 7 + 4, none⟩ = some (.int .i64 x.at_) ∧ W.cell? ⟨ab, ao + k * 7 + 5, none⟩ = some (.int .i64 x.n) ∧ W.cell? ⟨ab, ao + k * 7 + 6, none⟩ = some (.slice x.ka x.kl x.kc)) ∧ x.ok W ∧ x.name.size ≤ 9223372036854775807 ∧ x.to.size ≤ 9223372036854775807) := HCx
          clear HCx
          subst hab
          have HBd : Hid (Below n0 w (World.drew wr)) := HB.out.drew
          have hnD : Hid (n0 ≤ (World.drew wr).heap.size) := hnw
          clear HB
          refine wp_region_held_drew (S := fun W => Below n0 w W) (by kernel_rfl) (HBd.out) (fun hS => ?_)
          generalize World.drew wr = D_ at *
          refine wpAnyH_take (i := 0) (v := ?v1) rfl (by kernel_rfl) (by kernel_rfl) (by kernel_rfl) (fun _ _ _ h => h) (Or.inl ⟨by rfl, ?h1⟩) hS ?_
          case h1 => (intro W hW; go_simp; try (with_reducible rfl))
          go_simp
          refine wpAnyH_take (i := 1) (v := ?v2) rfl (by kernel_rfl) (by kernel_rfl) (by kernel_rfl) (fun _ _ _ h => h) (Or.inl ⟨by rfl, ?h2⟩) hS ?_
          case h2 => (intro W hW; go_simp; try (with_reducible rfl))
          go_simp
          refine wpAnyH_take (i := 2) (v := ?v3) rfl (by kernel_rfl) (by kernel_rfl) (by kernel_rfl) (fun _ _ _ h => h) (Or.inl ⟨by rfl, ?h3⟩) hS ?_
          case h3 => (intro W hW; go_simp; try (with_reducible rfl))
          go_simp
          refine wpAnyH_take (i := 3) (v := ?v4) rfl (by kernel_rfl) (by kernel_rfl) (by kernel_rfl) (fun _ _ _ h => h) (Or.inl ⟨by rfl, ?h4⟩) hS ?_
          case h4 => (intro W hW; go_simp; try (with_reducible rfl))
          go_simp
          refine wpAnyH_take (i := 4) (v := ?v5) rfl (by kernel_rfl) (by kernel_rfl) (by kernel_rfl) (fun _ _ _ h => h) (Or.inl ⟨by rfl, ?h5⟩) hS ?_
          case h5 => (intro W hW; go_simp; try (with_reducible rfl))
          go_simp
          refine wpAnyH_take (i := 5) (v := ?v6) rfl (by kernel_rfl) (by kernel_rfl) (by kernel_rfl) (fun _ _ _ h => h) (Or.inl ⟨by rfl, ?h6⟩) hS ?_
          case h6 => (intro W hW; go_simp; try (with_reducible rfl))
          go_simp
          refine wpAnyH_take (i := 6) (v := ?v7) rfl (by kernel_rfl) (by kernel_rfl) (by kernel_rfl) (fun _ _ _ h => h) (Or.inl ⟨by rfl, ?h7⟩) hS ?_
          case h7 => (intro W hW; go_simp; try (with_reducible rfl))
          go_simp
          refine wpAnyH_take (i := 7) (v := ?v8) rfl (by kernel_rfl) (by kernel_rfl) (by kernel_rfl) (fun _ _ _ h => h) (Or.inl ⟨by rfl, ?h8⟩) hS ?_
          case h8 => (intro W hW; go_simp; try (with_reducible rfl))
          go_simp
          refine wpAnyH_take (i := 8) (v := ?v9) rfl (by kernel_rfl) (by kernel_rfl) (by kernel_rfl) (fun _ _ _ h => h) (Or.inl ⟨by rfl, ?h9⟩) hS ?_
          case h9 => (intro W hW; go_simp; try (with_reducible rfl))
          go_simp
          refine wpAnyH_take (i := 9) (v := ?v10) rfl (by kernel_rfl) (by kernel_rfl) (by kernel_rfl) (fun _ _ _ h => h) (Or.inl ⟨by rfl, ?h10⟩) hS ?_
          case h10 => (intro W hW; obtain ⟨⟨a0, a1, a2, a3, a4, a5, a6⟩, _⟩ := HC.out W hW; go_simp; try (with_reducible rfl))
          go_simp
          refine wpAnyH_take (i := 11) (v := ?v11) rfl (by kernel_rfl) (by kernel_rfl) (by kernel_rfl) (fun _ _ _ h => h) (Or.inl ⟨by rfl, ?h11⟩) hS ?_
          case h11 => (intro W hW; go_simp; try (with_reducible rfl))
          go_simp
          refine wpAnyH_take (i := 12) (v := ?v12) rfl (by kernel_rfl) (by kernel_rfl) (by kernel_rfl) (fun _ _ _ h => h) (Or.inl ⟨by rfl, ?h12⟩) hS ?_
          case h12 => (intro W hW; go_simp; try (with_reducible rfl))
          go_simp
          refine wpAnyH_take (i := 13) (v := ?v13) rfl (by kernel_rfl) (by kernel_rfl) (by kernel_rfl) (fun _ _ _ h => h) (Or.inl ⟨by rfl, ?h13⟩) hS ?_
          case h13 => (intro W hW; go_simp; try (with_reducible rfl))
          go_simp
          refine wpAnyH_take (i := 14) (v := ?v14) rfl (by kernel_rfl) (by kernel_rfl) (by kernel_rfl) (fun _ _ _ h => h) (Or.inl ⟨by rfl, ?h14⟩) hS ?_
          case h14 => (intro W hW; go_simp; try (with_reducible rfl))
          go_simp
          refine wpAnyH_take (i := 15) (v := ?v15) rfl (by kernel_rfl) (by kernel_rfl) (by kernel_rfl) (fun _ _ _ h => h) (Or.inl ⟨by rfl, ?h15⟩) hS ?_
          case h15 => (intro W hW; obtain ⟨⟨a0, a1, a2, a3, a4, a5, a6⟩, _⟩ := HC.out W hW; go_simp; try (with_reducible rfl))
          go_simp
          refine wpAnyH_ready (rs := [10]) (by kernel_rfl) (by simp) ?_
          refine AllReadyH.cons rfl (fun K hK => ?_) ?_
          · go_simp
            go_wp2_with fail
            obtain ⟨_, xo, xn, xt⟩ := HC.out D_ hS
            refine (does_nil x D_ xo).mono ?_
            rintro e y5 ⟨rfl, b5⟩
            clear xo xn xt
            refine hK.out _ _ (hS.trans (b5.mono hnD.out)) (fun hS => ?_)
            clear hK K
            refine wpAnyH_ready (rs := [16]) (by kernel_rfl) (by simp) ?_
            refine AllReadyH.cons rfl (fun K hK => ?_) ?_
            · go_simp
              go_wp2_with fail
              obtain ⟨_, xo, xn, xt⟩ := HC.out y5 hS
              refine (done_nil x y5 xo).mono ?_
              rintro e y16 ⟨rfl, b16⟩
              have HB' : Hid (Below n0 w y16) := hS.trans (b16.mono (by rw [hn0.out]; exact hS.size))
              clear xo xn xt
              refine hK.out _ _ HB'.out (fun hS => ?_)
              clear hK K
              refine wpAnyH_take (i := 17) (v := ?v16) rfl (by kernel_rfl) (by kernel_rfl) (by kernel_rfl) (fun _ _ _ h => h) (Or.inl ⟨by rfl, ?h16⟩) hS ?_
              case h16 => (intro W hW; go_simp; try (with_reducible rfl))
              go_simp
              refine wpAnyH_take (i := 18) (v := ?v17) rfl (by kernel_rfl) (by kernel_rfl) (by kernel_rfl) (fun _ _ _ h => h) (Or.inl ⟨by rfl, ?h17⟩) hS ?_
              case h17 => (intro W hW; go_simp; try (with_reducible rfl))
              go_simp
              refine wpAnyH_done (by kernel_rfl) ?_ _
              clear hS HBd hnD hnw b5 b16
              have hnw : Hid (n0 ≤ y16.heap.size) := by show _ ≤ _; rw [hn0.out]; exact HB'.out.size
              have HB := HB'
              clear HB' HC
              clear wr
              obtain ⟨wr, hsw⟩ : ∃ W, W = y16 := ⟨_, rfl⟩
              subst hsw
              by_cases ho : k < lo_
              · have jo : (k : Int) < (lo_ : Int) := by omega
                go_wp2_with fail
                obtain ⟨ab, ao, x, hab, HCx, -, -⟩ := act_at hn0.out HO.out k ho
                have HC : Hid (∀ W, Below n0 w W → (W.cell? ⟨ab, ao + k * 7, none⟩ = some (.int .i64 x.kind) ∧ W.cell? ⟨ab, ao + k * 7 + 1, none⟩ = some (.string x.name) ∧ W.cell? ⟨ab, ao + k * 7 + 2, none⟩ = some (.string x.to) ∧ W.cell? ⟨ab, ao + k * 7 + 3, none⟩ = some (.slice x.ba x.bl x.bc) ∧ W.cell? ⟨ab, ao + k * 7 + 4, none⟩ = some (.int .i64 x.at_) ∧ W.cell? ⟨ab, ao + k * 7 + 5, none⟩ = some (.int .i64 x.n) ∧ W.cell? ⟨ab, ao + k * 7 + 6, none⟩ = some (.slice x.ka x.kl x.kc)) ∧ x.ok W ∧ x.name.size ≤ 9223372036854775807 ∧ x.to.size ≤ 9223372036854775807) := HCx
                clear HCx
                subst hab
                have HBd : Hid (Below n0 w (World.drew wr)) := HB.out.drew
                have hnD : Hid (n0 ≤ (World.drew wr).heap.size) := hnw
                clear HB
                refine wp_region_held_drew (S := fun W => Below n0 w W) (by kernel_rfl) (HBd.out) (fun hS => ?_)
                generalize World.drew wr = D_ at *
                refine wpAnyH_take (i := 0) (v := ?v18) rfl (by kernel_rfl) (by kernel_rfl) (by kernel_rfl) (fun _ _ _ h => h) (Or.inl ⟨by rfl, ?h18⟩) hS ?_
                case h18 => (intro W hW; go_simp; try (with_reducible rfl))
                go_simp
                refine wpAnyH_take (i := 1) (v := ?v19) rfl (by kernel_rfl) (by kernel_rfl) (by kernel_rfl) (fun _ _ _ h => h) (Or.inl ⟨by rfl, ?h19⟩) hS ?_
                case h19 => (intro W hW; go_simp; try (with_reducible rfl))
                go_simp
                refine wpAnyH_take (i := 2) (v := ?v20) rfl (by kernel_rfl) (by kernel_rfl) (by kernel_rfl) (fun _ _ _ h => h) (Or.inl ⟨by rfl, ?h20⟩) hS ?_
                case h20 => (intro W hW; go_simp; try (with_reducible rfl))
                go_simp
                refine wpAnyH_take (i := 3) (v := ?v21) rfl (by kernel_rfl) (by kernel_rfl) (by kernel_rfl) (fun _ _ _ h => h) (Or.inl ⟨by rfl, ?h21⟩) hS ?_
                case h21 => (intro W hW; go_simp; try (with_reducible rfl))
                go_simp
                refine wpAnyH_take (i := 4) (v := ?v22) rfl (by kernel_rfl) (by kernel_rfl) (by kernel_rfl) (fun _ _ _ h => h) (Or.inl ⟨by rfl, ?h22⟩) hS ?_
                case h22 => (intro W hW; go_simp; try (with_reducible rfl))
                go_simp
                refine wpAnyH_take (i := 5) (v := ?v23) rfl (by kernel_rfl) (by kernel_rfl) (by kernel_rfl) (fun _ _ _ h => h) (Or.inl ⟨by rfl, ?h23⟩) hS ?_
                case h23 => (intro W hW; go_simp; try (with_reducible rfl))
                go_simp
                refine wpAnyH_take (i := 6) (v := ?v24) rfl (by kernel_rfl) (by kernel_rfl) (by kernel_rfl) (fun _ _ _ h => h) (Or.inl ⟨by rfl, ?h24⟩) hS ?_
                case h24 => (intro W hW; go_simp; try (with_reducible rfl))
                go_simp
                refine wpAnyH_take (i := 7) (v := ?v25) rfl (by kernel_rfl) (by kernel_rfl) (by kernel_rfl) (fun _ _ _ h => h) (Or.inl ⟨by rfl, ?h25⟩) hS ?_
                case h25 => (intro W hW; go_simp; try (with_reducible rfl))
                go_simp
                refine wpAnyH_take (i := 8) (v := ?v26) rfl (by kernel_rfl) (by kernel_rfl) (by kernel_rfl) (fun _ _ _ h => h) (Or.inl ⟨by rfl, ?h26⟩) hS ?_
                case h26 => (intro W hW; go_simp; try (with_reducible rfl))
                go_simp
                refine wpAnyH_take (i := 9) (v := ?v27) rfl (by kernel_rfl) (by kernel_rfl) (by kernel_rfl) (fun _ _ _ h => h) (Or.inl ⟨by rfl, ?h27⟩) hS ?_
                case h27 => (intro W hW; obtain ⟨⟨a0, a1, a2, a3, a4, a5, a6⟩, _⟩ := HC.out W hW; go_simp; try (with_reducible rfl))
                go_simp
                refine wpAnyH_take (i := 11) (v := ?v28) rfl (by kernel_rfl) (by kernel_rfl) (by kernel_rfl) (fun _ _ _ h => h) (Or.inl ⟨by rfl, ?h28⟩) hS ?_
                case h28 => (intro W hW; go_simp; try (with_reducible rfl))
                go_simp
                refine wpAnyH_take (i := 12) (v := ?v29) rfl (by kernel_rfl) (by kernel_rfl) (by kernel_rfl) (fun _ _ _ h => h) (Or.inl ⟨by rfl, ?h29⟩) hS ?_
                case h29 => (intro W hW; go_simp; try (with_reducible rfl))
                go_simp
                refine wpAnyH_take (i := 13) (v := ?v30) rfl (by kernel_rfl) (by kernel_rfl) (by kernel_rfl) (fun _ _ _ h => h) (Or.inl ⟨by rfl, ?h30⟩) hS ?_
                case h30 => (intro W hW; go_simp; try (with_reducible rfl))
                go_simp
                refine wpAnyH_take (i := 14) (v := ?v31) rfl (by kernel_rfl) (by kernel_rfl) (by kernel_rfl) (fun _ _ _ h => h) (Or.inl ⟨by rfl, ?h31⟩) hS ?_
                case h31 => (intro W hW; go_simp; try (with_reducible rfl))
                go_simp
                refine wpAnyH_take (i := 15) (v := ?v32) rfl (by kernel_rfl) (by kernel_rfl) (by kernel_rfl) (fun _ _ _ h => h) (Or.inl ⟨by rfl, ?h32⟩) hS ?_
                case h32 => (intro W hW; obtain ⟨⟨a0, a1, a2, a3, a4, a5, a6⟩, _⟩ := HC.out W hW; go_simp; try (with_reducible rfl))
                go_simp
                refine wpAnyH_ready (rs := [10]) (by kernel_rfl) (by simp) ?_
                refine AllReadyH.cons rfl (fun K hK => ?_) ?_
                · go_simp
                  go_wp2_with fail
                  obtain ⟨_, xo, xn, xt⟩ := HC.out D_ hS
                  refine (does_nil x D_ xo).mono ?_
                  rintro e y5 ⟨rfl, b5⟩
                  clear xo xn xt
                  refine hK.out _ _ (hS.trans (b5.mono hnD.out)) (fun hS => ?_)
                  clear hK K
                  refine wpAnyH_ready (rs := [16]) (by kernel_rfl) (by simp) ?_
                  refine AllReadyH.cons rfl (fun K hK => ?_) ?_
                  · go_simp
                    go_wp2_with fail
                    obtain ⟨_, xo, xn, xt⟩ := HC.out y5 hS
                    refine (done_nil x y5 xo).mono ?_
                    rintro e y16 ⟨rfl, b16⟩
                    have HB' : Hid (Below n0 w y16) := hS.trans (b16.mono (by rw [hn0.out]; exact hS.size))
                    clear xo xn xt
                    refine hK.out _ _ HB'.out (fun hS => ?_)
                    clear hK K
                    refine wpAnyH_take (i := 17) (v := ?v33) rfl (by kernel_rfl) (by kernel_rfl) (by kernel_rfl) (fun _ _ _ h => h) (Or.inl ⟨by rfl, ?h33⟩) hS ?_
                    case h33 => (intro W hW; go_simp; try (with_reducible rfl))
                    go_simp
                    refine wpAnyH_take (i := 18) (v := ?v34) rfl (by kernel_rfl) (by kernel_rfl) (by kernel_rfl) (fun _ _ _ h => h) (Or.inl ⟨by rfl, ?h34⟩) hS ?_
                    case h34 => (intro W hW; go_simp; try (with_reducible rfl))
                    go_simp
                    refine wpAnyH_done (by kernel_rfl) ?_ _
                    clear hS HBd hnD hnw b5 b16
                    have hnw : Hid (n0 ≤ y16.heap.size) := by show _ ≤ _; rw [hn0.out]; exact HB'.out.size
                    have HB := HB'
                    clear HB' HC
                    clear wr
                    obtain ⟨wr, hsw⟩ : ∃ W, W = y16 := ⟨_, rfl⟩
                    subst hsw
                    go_wp2_with fail
                    refine (HS.out wr).mono ?_
                    rintro e z1 ⟨rfl, hw⟩
                    replace hw := hw.symm
                    subst hw
                    go_wp2_with fail
                    refine (HSr.out wr).mono ?_
                    rintro e z1 ⟨rfl, hw⟩
                    replace hw := hw.symm
                    subst hw
                    go_wp2_with fail
                    refine (HS.out wr).mono ?_
                    rintro e z1 ⟨rfl, hw⟩
                    replace hw := hw.symm
                    subst hw
                    go_wp2_with fail
                    refine (HSr.out wr).mono ?_
                    rintro e z1 ⟨rfl, hw⟩
                    replace hw := hw.symm
                    subst hw
                    go_wp2_with fail
                    refine ⟨⟨k + 1, by first | rfl | go_num, by omega, HB⟩, ?_⟩
                    simp only [intOf]; omega
                  exact AllReadyH.nil
                exact AllReadyH.nil
              · have jo : ¬ (k : Int) < (lo_ : Int) := by omega
                go_wp2_with fail
                have HB' : Hid (Below n0 w (World.drew wr)) := HB.out.drew
                have hnw' : Hid (n0 ≤ (World.drew wr).heap.size) := hnw
                clear HB hnw
                refine wp_region_any (by kernel_rfl) ?_
                change wpAny _ _ _ _ _ _ _ (World.drew _)
                generalize World.drew wr = D_ at *
                refine wpAny_take (i := 0) (v := ?v35) rfl (by kernel_rfl) (by kernel_rfl) (by kernel_rfl) (fun _ _ _ h => h) (Or.inl ⟨by rfl, ?h35⟩) ?_
                case h35 => (intro w; go_simp; try (with_reducible rfl))
                go_simp
                refine wpAny_take (i := 1) (v := ?v36) rfl (by kernel_rfl) (by kernel_rfl) (by kernel_rfl) (fun _ _ _ h => h) (Or.inl ⟨by rfl, ?h36⟩) ?_
                case h36 => (intro w; go_simp; try (with_reducible rfl))
                go_simp
                refine wpAny_take (i := 2) (v := ?v37) rfl (by kernel_rfl) (by kernel_rfl) (by kernel_rfl) (fun _ _ _ h => h) (Or.inl ⟨by rfl, ?h37⟩) ?_
                case h37 => (intro w; go_simp; try (with_reducible rfl))
                go_simp
                refine wpAny_take (i := 3) (v := ?v38) rfl (by kernel_rfl) (by kernel_rfl) (by kernel_rfl) (fun _ _ _ h => h) (Or.inl ⟨by rfl, ?h38⟩) ?_
                case h38 => (intro w; go_simp; try (with_reducible rfl))
                go_simp
                refine wpAny_take (i := 4) (v := ?v39) rfl (by kernel_rfl) (by kernel_rfl) (by kernel_rfl) (fun _ _ _ h => h) (Or.inl ⟨by rfl, ?h39⟩) ?_
                case h39 => (intro w; go_simp; try (with_reducible rfl))
                go_simp
                refine wpAny_take (i := 5) (v := undef) rfl (by kernel_rfl) (by kernel_rfl) (by kernel_rfl) (fun _ _ _ h => h) (Or.inr ⟨by rfl, rfl⟩) ?_
                go_simp
                refine wpAny_take (i := 6) (v := undef) rfl (by kernel_rfl) (by kernel_rfl) (by kernel_rfl) (fun _ _ _ h => h) (Or.inr ⟨by rfl, rfl⟩) ?_
                go_simp
                refine wpAny_take (i := 7) (v := undef) rfl (by kernel_rfl) (by kernel_rfl) (by kernel_rfl) (fun _ _ _ h => h) (Or.inr ⟨by rfl, rfl⟩) ?_
                go_simp
                refine wpAny_take (i := 8) (v := undef) rfl (by kernel_rfl) (by kernel_rfl) (by kernel_rfl) (fun _ _ _ h => h) (Or.inr ⟨by rfl, rfl⟩) ?_
                go_simp
                refine wpAny_take (i := 9) (v := undef) rfl (by kernel_rfl) (by kernel_rfl) (by kernel_rfl) (fun _ _ _ h => h) (Or.inr ⟨by rfl, rfl⟩) ?_
                go_simp
                refine wpAny_take (i := 10) (v := undef) rfl (by kernel_rfl) (by kernel_rfl) (by kernel_rfl) (fun _ _ _ h => h) (Or.inr ⟨by rfl, rfl⟩) ?_
                go_simp
                refine wpAny_take (i := 11) (v := undef) rfl (by kernel_rfl) (by kernel_rfl) (by kernel_rfl) (fun _ _ _ h => h) (Or.inr ⟨by rfl, rfl⟩) ?_
                go_simp
                refine wpAny_take (i := 12) (v := undef) rfl (by kernel_rfl) (by kernel_rfl) (by kernel_rfl) (fun _ _ _ h => h) (Or.inr ⟨by rfl, rfl⟩) ?_
                go_simp
                refine wpAny_take (i := 13) (v := undef) rfl (by kernel_rfl) (by kernel_rfl) (by kernel_rfl) (fun _ _ _ h => h) (Or.inr ⟨by rfl, rfl⟩) ?_
                go_simp
                refine wpAny_take (i := 14) (v := undef) rfl (by kernel_rfl) (by kernel_rfl) (by kernel_rfl) (fun _ _ _ h => h) (Or.inr ⟨by rfl, rfl⟩) ?_
                go_simp
                refine wpAny_take (i := 15) (v := undef) rfl (by kernel_rfl) (by kernel_rfl) (by kernel_rfl) (fun _ _ _ h => h) (Or.inr ⟨by rfl, rfl⟩) ?_
                go_simp
                refine wpAny_take (i := 16) (v := undef) rfl (by kernel_rfl) (by kernel_rfl) (by kernel_rfl) (fun _ _ _ h => h) (Or.inr ⟨by rfl, rfl⟩) ?_
                go_simp
                refine wpAny_take (i := 17) (v := undef) rfl (by kernel_rfl) (by kernel_rfl) (by kernel_rfl) (fun _ _ _ h => h) (Or.inr ⟨by rfl, rfl⟩) ?_
                go_simp
                refine wpAny_take (i := 18) (v := ?v40) rfl (by kernel_rfl) (by kernel_rfl) (by kernel_rfl) (fun _ _ _ h => h) (Or.inl ⟨by rfl, ?h40⟩) ?_
                case h40 => (intro w; go_simp; try (with_reducible rfl))
                go_simp
                refine wpAny_done (by kernel_rfl) ?_ _
                have HB := HB'
                have hnw := hnw'
                clear HB' hnw' wr
                obtain ⟨wr, hsw⟩ : ∃ W, W = D_ := ⟨_, rfl⟩
                subst hsw
                go_wp2_with fail
                refine (HS.out wr).mono ?_
                rintro e z1 ⟨rfl, hw⟩
                replace hw := hw.symm
                subst hw
                go_wp2_with fail
                refine (HSr.out wr).mono ?_
                rintro e z1 ⟨rfl, hw⟩
                replace hw := hw.symm
                subst hw
                go_wp2_with fail
                refine (HS.out wr).mono ?_
                rintro e z1 ⟨rfl, hw⟩
                replace hw := hw.symm
                subst hw
                go_wp2_with fail
                refine (HSr.out wr).mono ?_
                rintro e z1 ⟨rfl, hw⟩
                replace hw := hw.symm
                subst hw
                go_wp2_with fail
                refine ⟨⟨k + 1, by first | rfl | go_num, by omega, HB⟩, ?_⟩
                simp only [intOf]; omega
            exact AllReadyH.nil
          exact AllReadyH.nil
        · have jm : ¬ (k : Int) < (lm : Int) := by omega
          by_cases ho : k < lo_
          · have jo : (k : Int) < (lo_ : Int) := by omega
            go_wp2_with fail
            have HB' : Hid (Below n0 w (World.drew wr)) := HB.out.drew
            have hnw' : Hid (n0 ≤ (World.drew wr).heap.size) := hnw
            clear HB hnw
            refine wp_region_any (by kernel_rfl) ?_
            change wpAny _ _ _ _ _ _ _ (World.drew _)
            generalize World.drew wr = D_ at *
            refine wpAny_take (i := 0) (v := ?v41) rfl (by kernel_rfl) (by kernel_rfl) (by kernel_rfl) (fun _ _ _ h => h) (Or.inl ⟨by rfl, ?h41⟩) ?_
            case h41 => (intro w; go_simp; try (with_reducible rfl))
            go_simp
            refine wpAny_take (i := 1) (v := ?v42) rfl (by kernel_rfl) (by kernel_rfl) (by kernel_rfl) (fun _ _ _ h => h) (Or.inl ⟨by rfl, ?h42⟩) ?_
            case h42 => (intro w; go_simp; try (with_reducible rfl))
            go_simp
            refine wpAny_take (i := 2) (v := ?v43) rfl (by kernel_rfl) (by kernel_rfl) (by kernel_rfl) (fun _ _ _ h => h) (Or.inl ⟨by rfl, ?h43⟩) ?_
            case h43 => (intro w; go_simp; try (with_reducible rfl))
            go_simp
            refine wpAny_take (i := 3) (v := ?v44) rfl (by kernel_rfl) (by kernel_rfl) (by kernel_rfl) (fun _ _ _ h => h) (Or.inl ⟨by rfl, ?h44⟩) ?_
            case h44 => (intro w; go_simp; try (with_reducible rfl))
            go_simp
            refine wpAny_take (i := 4) (v := ?v45) rfl (by kernel_rfl) (by kernel_rfl) (by kernel_rfl) (fun _ _ _ h => h) (Or.inl ⟨by rfl, ?h45⟩) ?_
            case h45 => (intro w; go_simp; try (with_reducible rfl))
            go_simp
            refine wpAny_take (i := 5) (v := undef) rfl (by kernel_rfl) (by kernel_rfl) (by kernel_rfl) (fun _ _ _ h => h) (Or.inr ⟨by rfl, rfl⟩) ?_
            go_simp
            refine wpAny_take (i := 6) (v := undef) rfl (by kernel_rfl) (by kernel_rfl) (by kernel_rfl) (fun _ _ _ h => h) (Or.inr ⟨by rfl, rfl⟩) ?_
            go_simp
            refine wpAny_take (i := 7) (v := undef) rfl (by kernel_rfl) (by kernel_rfl) (by kernel_rfl) (fun _ _ _ h => h) (Or.inr ⟨by rfl, rfl⟩) ?_
            go_simp
            refine wpAny_take (i := 8) (v := undef) rfl (by kernel_rfl) (by kernel_rfl) (by kernel_rfl) (fun _ _ _ h => h) (Or.inr ⟨by rfl, rfl⟩) ?_
            go_simp
            refine wpAny_take (i := 9) (v := undef) rfl (by kernel_rfl) (by kernel_rfl) (by kernel_rfl) (fun _ _ _ h => h) (Or.inr ⟨by rfl, rfl⟩) ?_
            go_simp
            refine wpAny_take (i := 10) (v := undef) rfl (by kernel_rfl) (by kernel_rfl) (by kernel_rfl) (fun _ _ _ h => h) (Or.inr ⟨by rfl, rfl⟩) ?_
            go_simp
            refine wpAny_take (i := 11) (v := undef) rfl (by kernel_rfl) (by kernel_rfl) (by kernel_rfl) (fun _ _ _ h => h) (Or.inr ⟨by rfl, rfl⟩) ?_
            go_simp
            refine wpAny_take (i := 12) (v := undef) rfl (by kernel_rfl) (by kernel_rfl) (by kernel_rfl) (fun _ _ _ h => h) (Or.inr ⟨by rfl, rfl⟩) ?_
            go_simp
            refine wpAny_take (i := 13) (v := undef) rfl (by kernel_rfl) (by kernel_rfl) (by kernel_rfl) (fun _ _ _ h => h) (Or.inr ⟨by rfl, rfl⟩) ?_
            go_simp
            refine wpAny_take (i := 14) (v := undef) rfl (by kernel_rfl) (by kernel_rfl) (by kernel_rfl) (fun _ _ _ h => h) (Or.inr ⟨by rfl, rfl⟩) ?_
            go_simp
            refine wpAny_take (i := 15) (v := undef) rfl (by kernel_rfl) (by kernel_rfl) (by kernel_rfl) (fun _ _ _ h => h) (Or.inr ⟨by rfl, rfl⟩) ?_
            go_simp
            refine wpAny_take (i := 16) (v := undef) rfl (by kernel_rfl) (by kernel_rfl) (by kernel_rfl) (fun _ _ _ h => h) (Or.inr ⟨by rfl, rfl⟩) ?_
            go_simp
            refine wpAny_take (i := 17) (v := undef) rfl (by kernel_rfl) (by kernel_rfl) (by kernel_rfl) (fun _ _ _ h => h) (Or.inr ⟨by rfl, rfl⟩) ?_
            go_simp
            refine wpAny_take (i := 18) (v := ?v46) rfl (by kernel_rfl) (by kernel_rfl) (by kernel_rfl) (fun _ _ _ h => h) (Or.inl ⟨by rfl, ?h46⟩) ?_
            case h46 => (intro w; go_simp; try (with_reducible rfl))
            go_simp
            refine wpAny_done (by kernel_rfl) ?_ _
            have HB := HB'
            have hnw := hnw'
            clear HB' hnw' wr
            obtain ⟨wr, hsw⟩ : ∃ W, W = D_ := ⟨_, rfl⟩
            subst hsw
            go_wp2_with fail
            obtain ⟨ab, ao, x, hab, HCx, -, -⟩ := act_at hn0.out HO.out k ho
            have HC : Hid (∀ W, Below n0 w W → (W.cell? ⟨ab, ao + k * 7, none⟩ = some (.int .i64 x.kind) ∧ W.cell? ⟨ab, ao + k * 7 + 1, none⟩ = some (.string x.name) ∧ W.cell? ⟨ab, ao + k * 7 + 2, none⟩ = some (.string x.to) ∧ W.cell? ⟨ab, ao + k * 7 + 3, none⟩ = some (.slice x.ba x.bl x.bc) ∧ W.cell? ⟨ab, ao + k * 7 + 4, none⟩ = some (.int .i64 x.at_) ∧ W.cell? ⟨ab, ao + k * 7 + 5, none⟩ = some (.int .i64 x.n) ∧ W.cell? ⟨ab, ao + k * 7 + 6, none⟩ = some (.slice x.ka x.kl x.kc)) ∧ x.ok W ∧ x.name.size ≤ 9223372036854775807 ∧ x.to.size ≤ 9223372036854775807) := HCx
            clear HCx
            subst hab
            have HBd : Hid (Below n0 w (World.drew wr)) := HB.out.drew
            have hnD : Hid (n0 ≤ (World.drew wr).heap.size) := hnw
            clear HB
            refine wp_region_held_drew (S := fun W => Below n0 w W) (by kernel_rfl) (HBd.out) (fun hS => ?_)
            generalize World.drew wr = D_ at *
            refine wpAnyH_take (i := 0) (v := ?v47) rfl (by kernel_rfl) (by kernel_rfl) (by kernel_rfl) (fun _ _ _ h => h) (Or.inl ⟨by rfl, ?h47⟩) hS ?_
            case h47 => (intro W hW; go_simp; try (with_reducible rfl))
            go_simp
            refine wpAnyH_take (i := 1) (v := ?v48) rfl (by kernel_rfl) (by kernel_rfl) (by kernel_rfl) (fun _ _ _ h => h) (Or.inl ⟨by rfl, ?h48⟩) hS ?_
            case h48 => (intro W hW; go_simp; try (with_reducible rfl))
            go_simp
            refine wpAnyH_take (i := 2) (v := ?v49) rfl (by kernel_rfl) (by kernel_rfl) (by kernel_rfl) (fun _ _ _ h => h) (Or.inl ⟨by rfl, ?h49⟩) hS ?_
            case h49 => (intro W hW; go_simp; try (with_reducible rfl))
            go_simp
            refine wpAnyH_take (i := 3) (v := ?v50) rfl (by kernel_rfl) (by kernel_rfl) (by kernel_rfl) (fun _ _ _ h => h) (Or.inl ⟨by rfl, ?h50⟩) hS ?_
            case h50 => (intro W hW; go_simp; try (with_reducible rfl))
            go_simp
            refine wpAnyH_take (i := 4) (v := ?v51) rfl (by kernel_rfl) (by kernel_rfl) (by kernel_rfl) (fun _ _ _ h => h) (Or.inl ⟨by rfl, ?h51⟩) hS ?_
            case h51 => (intro W hW; go_simp; try (with_reducible rfl))
            go_simp
            refine wpAnyH_take (i := 5) (v := ?v52) rfl (by kernel_rfl) (by kernel_rfl) (by kernel_rfl) (fun _ _ _ h => h) (Or.inl ⟨by rfl, ?h52⟩) hS ?_
            case h52 => (intro W hW; go_simp; try (with_reducible rfl))
            go_simp
            refine wpAnyH_take (i := 6) (v := ?v53) rfl (by kernel_rfl) (by kernel_rfl) (by kernel_rfl) (fun _ _ _ h => h) (Or.inl ⟨by rfl, ?h53⟩) hS ?_
            case h53 => (intro W hW; go_simp; try (with_reducible rfl))
            go_simp
            refine wpAnyH_take (i := 7) (v := ?v54) rfl (by kernel_rfl) (by kernel_rfl) (by kernel_rfl) (fun _ _ _ h => h) (Or.inl ⟨by rfl, ?h54⟩) hS ?_
            case h54 => (intro W hW; go_simp; try (with_reducible rfl))
            go_simp
            refine wpAnyH_take (i := 8) (v := ?v55) rfl (by kernel_rfl) (by kernel_rfl) (by kernel_rfl) (fun _ _ _ h => h) (Or.inl ⟨by rfl, ?h55⟩) hS ?_
            case h55 => (intro W hW; go_simp; try (with_reducible rfl))
            go_simp
            refine wpAnyH_take (i := 9) (v := ?v56) rfl (by kernel_rfl) (by kernel_rfl) (by kernel_rfl) (fun _ _ _ h => h) (Or.inl ⟨by rfl, ?h56⟩) hS ?_
            case h56 => (intro W hW; obtain ⟨⟨a0, a1, a2, a3, a4, a5, a6⟩, _⟩ := HC.out W hW; go_simp; try (with_reducible rfl))
            go_simp
            refine wpAnyH_take (i := 11) (v := ?v57) rfl (by kernel_rfl) (by kernel_rfl) (by kernel_rfl) (fun _ _ _ h => h) (Or.inl ⟨by rfl, ?h57⟩) hS ?_
            case h57 => (intro W hW; go_simp; try (with_reducible rfl))
            go_simp
            refine wpAnyH_take (i := 12) (v := ?v58) rfl (by kernel_rfl) (by kernel_rfl) (by kernel_rfl) (fun _ _ _ h => h) (Or.inl ⟨by rfl, ?h58⟩) hS ?_
            case h58 => (intro W hW; go_simp; try (with_reducible rfl))
            go_simp
            refine wpAnyH_take (i := 13) (v := ?v59) rfl (by kernel_rfl) (by kernel_rfl) (by kernel_rfl) (fun _ _ _ h => h) (Or.inl ⟨by rfl, ?h59⟩) hS ?_
            case h59 => (intro W hW; go_simp; try (with_reducible rfl))
            go_simp
            refine wpAnyH_take (i := 14) (v := ?v60) rfl (by kernel_rfl) (by kernel_rfl) (by kernel_rfl) (fun _ _ _ h => h) (Or.inl ⟨by rfl, ?h60⟩) hS ?_
            case h60 => (intro W hW; go_simp; try (with_reducible rfl))
            go_simp
            refine wpAnyH_take (i := 15) (v := ?v61) rfl (by kernel_rfl) (by kernel_rfl) (by kernel_rfl) (fun _ _ _ h => h) (Or.inl ⟨by rfl, ?h61⟩) hS ?_
            case h61 => (intro W hW; obtain ⟨⟨a0, a1, a2, a3, a4, a5, a6⟩, _⟩ := HC.out W hW; go_simp; try (with_reducible rfl))
            go_simp
            refine wpAnyH_ready (rs := [10]) (by kernel_rfl) (by simp) ?_
            refine AllReadyH.cons rfl (fun K hK => ?_) ?_
            · go_simp
              go_wp2_with fail
              obtain ⟨_, xo, xn, xt⟩ := HC.out D_ hS
              refine (does_nil x D_ xo).mono ?_
              rintro e y5 ⟨rfl, b5⟩
              clear xo xn xt
              refine hK.out _ _ (hS.trans (b5.mono hnD.out)) (fun hS => ?_)
              clear hK K
              refine wpAnyH_ready (rs := [16]) (by kernel_rfl) (by simp) ?_
              refine AllReadyH.cons rfl (fun K hK => ?_) ?_
              · go_simp
                go_wp2_with fail
                obtain ⟨_, xo, xn, xt⟩ := HC.out y5 hS
                refine (done_nil x y5 xo).mono ?_
                rintro e y16 ⟨rfl, b16⟩
                have HB' : Hid (Below n0 w y16) := hS.trans (b16.mono (by rw [hn0.out]; exact hS.size))
                clear xo xn xt
                refine hK.out _ _ HB'.out (fun hS => ?_)
                clear hK K
                refine wpAnyH_take (i := 17) (v := ?v62) rfl (by kernel_rfl) (by kernel_rfl) (by kernel_rfl) (fun _ _ _ h => h) (Or.inl ⟨by rfl, ?h62⟩) hS ?_
                case h62 => (intro W hW; go_simp; try (with_reducible rfl))
                go_simp
                refine wpAnyH_take (i := 18) (v := ?v63) rfl (by kernel_rfl) (by kernel_rfl) (by kernel_rfl) (fun _ _ _ h => h) (Or.inl ⟨by rfl, ?h63⟩) hS ?_
                case h63 => (intro W hW; go_simp; try (with_reducible rfl))
                go_simp
                refine wpAnyH_done (by kernel_rfl) ?_ _
                clear hS HBd hnD hnw b5 b16
                have hnw : Hid (n0 ≤ y16.heap.size) := by show _ ≤ _; rw [hn0.out]; exact HB'.out.size
                have HB := HB'
                clear HB' HC
                clear wr
                obtain ⟨wr, hsw⟩ : ∃ W, W = y16 := ⟨_, rfl⟩
                subst hsw
                go_wp2_with fail
                refine (HS.out wr).mono ?_
                rintro e z1 ⟨rfl, hw⟩
                replace hw := hw.symm
                subst hw
                go_wp2_with fail
                refine (HSr.out wr).mono ?_
                rintro e z1 ⟨rfl, hw⟩
                replace hw := hw.symm
                subst hw
                go_wp2_with fail
                refine (HS.out wr).mono ?_
                rintro e z1 ⟨rfl, hw⟩
                replace hw := hw.symm
                subst hw
                go_wp2_with fail
                refine (HSr.out wr).mono ?_
                rintro e z1 ⟨rfl, hw⟩
                replace hw := hw.symm
                subst hw
                go_wp2_with fail
                refine ⟨⟨k + 1, by first | rfl | go_num, by omega, HB⟩, ?_⟩
                simp only [intOf]; omega
              exact AllReadyH.nil
            exact AllReadyH.nil
          · have jo : ¬ (k : Int) < (lo_ : Int) := by omega
            go_wp2_with fail
            refine (H3.out wr).mono ?_
            rintro e z3 ⟨rfl, hw⟩
            replace hw := hw.symm
            subst hw
            go_wp2_with fail
            go_ret
            exact ⟨rfl, HB.out⟩
end Go.Proofs.Ytgffojafdjcdoaa.Qr

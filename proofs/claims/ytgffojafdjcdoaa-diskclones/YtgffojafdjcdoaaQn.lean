/- DiskPlays walked. -/
import Derived.Test.YtgffojafdjcdoaaQm
import Derived.Test.YtgffojafdjcdoaaLl
namespace Go.Proofs.Ytgffojafdjcdoaa.Qn
open Go.ChangeShapes Go.WideShapes Go.ChangeAt Go.RowKit Go.Maps
open Go.Sort (grow)
open Go.Proofs.Ytgffojafdjcdoaa.By
open Go.Proofs.Ytgffojafdjcdoaa.Ac
open Go.Proofs.Ytgffojafdjcdoaa.Dk
open Go.Proofs.Ytgffojafdjcdoaa.Df (isN isQ isN_size fnd)
open Go.Proofs.Ytgffojafdjcdoaa.Dg (new_ok new_no)
open Go.Proofs.Ytgffojafdjcdoaa.Ll (Acts za)
open Go.Proofs.Ytgffojafdjcdoaa.Pd
open Go.Proofs.Ytgffojafdjcdoaa.Qa
open Go.Proofs.Ytgffojafdjcdoaa.Qb
open Go.Proofs.Ytgffojafdjcdoaa.Qd (Tk)
open Go.Proofs.Ytgffojafdjcdoaa.Qk (stepS)
open Go.Proofs.Ytgffojafdjcdoaa.Ql (stepR step_rel done_any)
set_option linter.unusedVariables false
set_option linter.unusedSimpArgs false
theorem za_ok (w : World) : za.ok w := ⟨⟨by simp [za], by simp [za]⟩, ⟨by simp [za], by simp [za]⟩, ⟨by simp [za], by simp [za]⟩, nil_bytes w, ints_nil w, by simp [za], by simp [za]⟩
set_option maxHeartbeats 2000000 in
set_option maxRecDepth 100000 in
theorem plays_no (q : Int) (v : Value) (w : World) (h : isQ q = false) : Calls Try.prog 3 #[.int .i64 q, v] w fun e w' => e = .returned (.bool true) ∧ Below w.heap.size w w' := by
  have H1 := hid (new_no q h w)
  have H2 := hid (rnew_no q h w)
  have H3 := hid (Ln.names_any w)
  have hE1 : Sem.run Try.prog (binOp .eql 23 (.pointer none) (.pointer none)) w = .ok (.bool true) w := rfl
  go_enter Try.func3, Try.ntmps3
  go_wp2_with fail
  refine H1.out.mono ?_
  rintro e w1 ⟨rfl, hw⟩
  replace hw := hw.symm
  subst hw
  go_wp2_with fail
  refine H2.out.mono ?_
  rintro e w1 ⟨rfl, hw⟩
  replace hw := hw.symm
  subst hw
  go_wp2_with fail
  refine H3.out.mono ?_
  rintro e w1 ⟨rfl, hw⟩
  replace hw := hw.symm
  subst hw
  go_wp2_with fail
  go_ret
  exact ⟨rfl, Below.refl _ _⟩
/-- Two disks side by side, as they stand. -/
structure Both (w wr : World) (n0 nb g b g2 : Nat) (S : St) (R : RS) (P P2 : Nat → Prop) (v2 : Value) : Prop where
  d : Disk wr n0 g b P S
  r : RDk wr nb g2 v2 P2 R
  rel : Rel S R
  dis : ∀ j, P j → ¬ P2 j
  bel : Below n0 w wr
theorem Both.later {w wr W : World} {n0 nb g b g2 : Nat} {S : St} {R : RS} {P P2 : Nat → Prop} {v2 : Value} (h : Both w wr n0 nb g b g2 S R P P2 v2) (hn : n0 ≤ wr.heap.size) (bb : Below wr.heap.size wr W) : Both w W n0 nb g b g2 S R P P2 v2 :=
  ⟨h.d.later bb, h.r.later bb, h.rel, h.dis, h.bel.trans (bb.mono hn)⟩
theorem Both.ok {w wr : World} {n0 nb g b g2 : Nat} {S : St} {R : RS} {P P2 : Nat → Prop} {v2 : Value} (h : Both w wr n0 nb g b g2 S R P P2 v2) : RS.ok R := Rel.ok h.rel h.d.ok (Dh.nodup h.d) h.d.mem.lasts
/-- Behind an act that both have done. -/
theorem Both.step {w wr w1 w2 : World} {n0 nb g b g2 : Nat} {S : St} {R : RS} {P P2 : Nat → Prop} {v2 : Value} {x : A} {c : Int} (h : Both w wr n0 nb g b g2 S R P P2 v2) (hn : n0 ≤ wr.heap.size) (hnb : n0 ≤ nb) (hz : ∀ y ∈ x.zs, 0 ≤ y ∧ y ≤ 255)
    (q1 : Qk.Stq x wr w1 n0 g b P S c) (q2 : Tk w1 w2 nb g2 P2 (stepR x R).1) : c = (stepR x R).2 ∧ ∃ S' P' P2' v', Both w w2 n0 nb g b g2 S' (stepR x R).1 P' P2' v' ∧ S'.rf ≤ S.rf + 1 := by
  obtain ⟨S', P', D', F', hrf, hPP, sl, hst⟩ := q1
  obtain ⟨v', P2', D2, F2, hP2⟩ := q2
  obtain ⟨e1, e2⟩ := step_rel h.rel h.d.ok (Dh.nodup h.d) x hz sl
  rw [← hst] at e1 e2
  have l2 : ∀ j, P2 j → j < wr.heap.size := fun j hj => (h.r.low j hj).2
  have dis' : ∀ j, P' j → ¬ P2' j := fun j h1 h2 => by
    have a1 := (D'.low j h1).2
    rcases hP2 j h2 with h3 | h3
    · rcases hPP j h1 with h4 | h4
      · exact h.dis j h4 h3
      · have := l2 j h3; omega
    · omega
  have dis2 : ∀ j, P' j → ¬ P2 j := fun j h1 h3 => by
    rcases hPP j h1 with h4 | h4
    · exact h.dis j h4 h3
    · have := l2 j h3; omega
  refine ⟨e1, S', P', P2', v', ⟨?_, D2, e2, dis', ?_⟩, hrf⟩
  · refine D'.kept ⟨F2.size, fun j hj _ => F2.block j (D'.low j hj).2 (dis2 j hj)⟩ (fun _ h => h) (fun j hj => ⟨(D'.low j hj).1, Nat.lt_of_lt_of_le (D'.low j hj).2 F2.size⟩)
  · have b1 := Dd.Fr.low F' n0 hn (fun j hj => (h.d.low j hj).1)
    have b2 := Dd.Fr.low F2 n0 (Nat.le_trans hn F'.size) (fun j hj => Nat.le_trans hnb (h.r.low j hj).1)
    exact (h.bel.trans b1).trans b2
set_option maxHeartbeats 8000000 in
set_option maxRecDepth 100000 in
theorem plays_yes (q : Int) (a : Option Addr) (len cap : Nat) (xs : List A) (w : World) (H : Acts w a len cap xs) (hl : len ≤ 140737488351232) (h : isQ q = true) :
    Calls Try.prog 3 #[.int .i64 q, .slice a len cap] w fun e w' => e = .returned (.bool true) ∧ Below w.heap.size w w' := by
  have HN := hid (new_ok q h w)
  have HM : Hid (∀ W, Calls Try.prog 9 #[.int .i64 q] W fun e w' => e = .returned (.tuple #[.pointer (some ⟨W.heap.size, 0, none⟩), .int .i64 0]) ∧ RDk w' W.heap.size W.heap.size (.slice none 0 0) (fun j => j = W.heap.size) ⟨[], q, 0, 0, 0⟩ ∧ Below W.heap.size W w') := fun W => rnew_ok q h W
  have H3 : Hid (∀ W, Calls Try.prog 10 #[] W fun e w' => e = .returned (.bool true) ∧ w' = W) := fun W => Ln.names_any W
  have hE : ∀ (x : Addr) (w : World), Sem.run Try.prog (binOp .eql 23 (.pointer (some x)) (.pointer none)) w = .ok (.bool false) w := fun x w => rfl
  have hE2 : ∀ (x : Addr) (w : World), Sem.run Try.prog (binOp .eql 27 (.pointer (some x)) (.pointer none)) w = .ok (.bool false) w := fun x w => rfl
  obtain ⟨n0, hn0⟩ : ∃ n0, n0 = w.heap.size := ⟨_, rfl⟩
  have hA := hid (fun W (h : Below n0 w W) => H.later (by rw [← hn0]; exact h) : ∀ W, Below n0 w W → Acts W a len cap xs)
  have hKB : Hid (∀ x ∈ xs, ∀ y, x.ka = some y → 0 < x.kl → y.block < n0) := fun x hx y hy h0 => by
    have := (H.2.2.2.1 x hx).1.ints.2.2.2.2 y hy 0 h0
    rw [hn0]
    have := block_lt_of_cell this
    simpa [Addr.add] using this
  have hxl := H.1
  have hcap := H.2.1
  rw [← hn0] at HN ⊢
  replace hn0 := hid hn0
  clear H h
  go_enter Try.func3, Try.ntmps3
  go_wp2_with fail
  refine HN.out.mono ?_
  rintro e w1 ⟨g, b, rfl, D1, b1⟩
  replace D1 := hid D1
  replace b1 := hid b1
  go_wp2_with fail
  refine (HM.out w1).mono ?_
  rintro e w2 ⟨rfl, R2, b2⟩
  have n1 : Hid (n0 ≤ w1.heap.size) := by show _ ≤ _; rw [hn0.out]; exact b1.out.size
  have B0 : Hid (∃ P P2 v2, Both w w2 n0 w1.heap.size g b w1.heap.size ⟨[], q, 0, 0, 0⟩ ⟨[], q, 0, 0, 0⟩ P P2 v2) := ⟨_, _, _, ⟨D1.out.later b2, R2, ⟨cor_nil, rfl, rfl, rfl, rfl⟩, fun j hj e => by have := (D1.out.low j hj).2; omega, b1.out.trans (b2.mono n1.out)⟩⟩
  generalize w1.heap.size = nb at *
  clear R2 b2 D1 b1 HN HM
  go_wp2_with fail
  refine (H3.out w2).mono ?_
  rintro e w3 ⟨rfl, hw⟩
  replace hw := hw.symm
  subst hw
  clear H3
  have h4 : Hid (n0 ≤ w2.heap.size) := by
    obtain ⟨_, _, _, hB⟩ := B0.out
    show _ ≤ _
    rw [hn0.out]; exact hB.bel.size
  go_wp2_with fail
  go_loopw [9] (fun iv wr => ∃ (i : Nat) (S : St) (R : RS) (P P2 : Nat → Prop) (v2 : Value), iv = .int .i64 (i : Int) ∧ i ≤ len ∧ S.rf ≤ (i : Int) ∧ Hid (Both w wr n0 nb g b nb S R P P2 v2)) (fun iv _ => len - (intOf iv).toNat)
  case atStart =>
    obtain ⟨P, P2, v2, hB⟩ := B0.out
    exact ⟨0, _, _, P, P2, v2, rfl, Nat.zero_le _, by simp, hB⟩
  case round =>
    obtain ⟨i, S, R, P, P2, v2, rfl, hi, hrfi, HB⟩ := hrel
    have hnw : Hid (n0 ≤ wr.heap.size) := by show _ ≤ _; rw [hn0.out]; exact HB.out.bel.size
    by_cases hlt : i < len
    · have ik : (i : Int) < (len : Int) := by omega
      have HAr := hA.out wr HB.out.bel
      cases a with
      | none => exact absurd (HAr.2.2.1 rfl).1 (by omega)
      | some ad =>
        obtain ⟨ab, ao, ap⟩ := ad
        obtain ⟨rfl, _⟩ := HAr.2.2.2.2 ab ao ap rfl (by omega)
        obtain ⟨x, hx⟩ : ∃ x, xs.getD i za = x := ⟨_, rfl⟩
        have hxm : x ∈ xs := by
          rw [← hx, List.getD_eq_getElem?_getD, List.getElem?_eq_getElem (by omega)]
          exact List.getElem_mem _
        have HC : Hid (∀ W, Below n0 w W → W.cell? ⟨ab, ao + i * 7, none⟩ = some (.int .i64 x.kind) ∧ W.cell? ⟨ab, ao + i * 7 + 1, none⟩ = some (.string x.name) ∧ W.cell? ⟨ab, ao + i * 7 + 2, none⟩ = some (.string x.to) ∧ W.cell? ⟨ab, ao + i * 7 + 3, none⟩ = some (.slice x.ba x.bl x.bc) ∧ W.cell? ⟨ab, ao + i * 7 + 4, none⟩ = some (.int .i64 x.at_) ∧ W.cell? ⟨ab, ao + i * 7 + 5, none⟩ = some (.int .i64 x.n) ∧ W.cell? ⟨ab, ao + i * 7 + 6, none⟩ = some (.slice x.ka x.kl x.kc)) := fun W bW => by
          have h7 := ((hA.out W bW).2.2.2.2 ab ao none rfl (by omega)).2 i hlt
          rw [hx] at h7
          exact ⟨h7 0 (by omega), h7 1 (by omega), h7 2 (by omega), h7 3 (by omega), h7 4 (by omega), h7 5 (by omega), h7 6 (by omega)⟩
        have HXO : Hid (∀ W, Below n0 w W → x.ok W ∧ x.name.size ≤ 9223372036854775807 ∧ x.to.size ≤ 9223372036854775807) := fun W bW => (hA.out W bW).2.2.2.1 x hxm
        have hkb := hid (hKB.out x hxm)
        have hzs : Hid (∀ y ∈ x.zs, 0 ≤ y ∧ y ≤ 255) := (HXO.out wr HB.out.bel).1.bytes.2.2.2.1
        have HBD := hid (HB.out.later hnw.out ((Below.refl wr.heap.size wr).drew))
        have hnD : Hid (n0 ≤ (World.drew wr).heap.size) := hnw
        have hwr : IntKind.i64.wrap ((i : Int) + 1) = ((i + 1 : Nat) : Int) := by rw [IntKind.wrap_i64]; omega
        replace hx := hid hx
        replace hxm := hid hxm
        replace HAr := hid HAr
        clear HAr hnw HB
        go_wp2_with fail
        refine wp_region_held_drew (S := fun W => Below n0 w W) (by kernel_rfl) (HBD.out.bel) (fun hS => ?_)
        generalize World.drew wr = D at *
        refine wpAnyH_take (i := 0) (v := ?v1) rfl (by kernel_rfl) (by kernel_rfl) (by kernel_rfl) (fun _ _ _ h => h) (Or.inl ⟨by rfl, ?h1⟩) hS ?_
        case h1 => (intro W hW; go_simp; try (with_reducible rfl))
        go_simp
        refine wpAnyH_take (i := 1) (v := ?v2) rfl (by kernel_rfl) (by kernel_rfl) (by kernel_rfl) (fun _ _ _ h => h) (Or.inl ⟨by rfl, ?h2⟩) hS ?_
        case h2 => (intro W hW; go_simp; try (with_reducible rfl))
        go_simp
        refine wpAnyH_take (i := 2) (v := ?v3) rfl (by kernel_rfl) (by kernel_rfl) (by kernel_rfl) (fun _ _ _ h => h) (Or.inl ⟨by rfl, ?h3⟩) hS ?_
        case h3 => (intro W hW; go_simp; try (with_reducible rfl))
        go_simp
        refine wpAnyH_take (i := 3) (v := ?v4) rfl (by kernel_rfl) (by kernel_rfl) (by kernel_rfl) (fun _ _ _ h => h) (Or.inl ⟨by rfl, ?h4⟩) hS ?_
        case h4 => (intro W hW; go_simp; try (with_reducible rfl))
        go_simp
        refine wpAnyH_take (i := 4) (v := ?v5) rfl (by kernel_rfl) (by kernel_rfl) (by kernel_rfl) (fun _ _ _ h => h) (Or.inl ⟨by rfl, ?h5⟩) hS ?_
        case h5 => (intro W hW; obtain ⟨a0, a1, a2, a3, a4, a5, a6⟩ := HC.out W hW; go_simp; try (with_reducible rfl))
        go_simp
        refine wpAnyH_take (i := 6) (v := ?v6) rfl (by kernel_rfl) (by kernel_rfl) (by kernel_rfl) (fun _ _ _ h => h) (Or.inl ⟨by rfl, ?h6⟩) hS ?_
        case h6 => (intro W hW; go_simp; try (with_reducible rfl))
        go_simp
        refine wpAnyH_take (i := 7) (v := ?v7) rfl (by kernel_rfl) (by kernel_rfl) (by kernel_rfl) (fun _ _ _ h => h) (Or.inl ⟨by rfl, ?h7⟩) hS ?_
        case h7 => (intro W hW; go_simp; try (with_reducible rfl))
        go_simp
        refine wpAnyH_take (i := 8) (v := ?v8) rfl (by kernel_rfl) (by kernel_rfl) (by kernel_rfl) (fun _ _ _ h => h) (Or.inl ⟨by rfl, ?h8⟩) hS ?_
        case h8 => (intro W hW; go_simp; try (with_reducible rfl))
        go_simp
        refine wpAnyH_take (i := 9) (v := ?v9) rfl (by kernel_rfl) (by kernel_rfl) (by kernel_rfl) (fun _ _ _ h => h) (Or.inl ⟨by rfl, ?h9⟩) hS ?_
        case h9 => (intro W hW; go_simp; try (with_reducible rfl))
        go_simp
        refine wpAnyH_take (i := 10) (v := ?v10) rfl (by kernel_rfl) (by kernel_rfl) (by kernel_rfl) (fun _ _ _ h => h) (Or.inl ⟨by rfl, ?h10⟩) hS ?_
        case h10 => (intro W hW; obtain ⟨a0, a1, a2, a3, a4, a5, a6⟩ := HC.out W hW; go_simp; try (with_reducible rfl))
        go_simp
        refine wpAnyH_ready (rs := [5]) (by kernel_rfl) (by simp) ?_
        refine AllReadyH.cons rfl (fun K hK => ?_) ?_
        · go_simp
          go_wp2_with fail
          obtain ⟨xo, xn, xt⟩ := HXO.out D hS
          refine (Qk.does_any x D HBD.out.d hnD.out (by omega) xo xn xt).mono ?_
          rintro e y5 ⟨c, rfl, Q5⟩
          have F5 : Hid (Fr P D y5) := by obtain ⟨_, _, _, F, _⟩ := Q5; exact F
          replace Q5 := hid Q5
          clear xo xn xt
          refine hK.out _ _ (hS.trans (Dd.Fr.low F5.out n0 hnD.out (fun j hj => (HBD.out.d.low j hj).1))) (fun hS => ?_)
          clear hK K
          refine wpAnyH_ready (rs := [11]) (by kernel_rfl) (by simp) ?_
          refine AllReadyH.cons rfl (fun K hK => ?_) ?_
          · go_simp
            go_wp2_with fail
            obtain ⟨xo, xn, xt⟩ := HXO.out y5 hS
            refine (done_any x y5 (HBD.out.r.fr F5.out (fun j h2 h1 => HBD.out.dis j h1 h2)) HBD.out.ok (by have := (HBD.out.r.low _ HBD.out.r.pg); have := F5.out.size; omega) (by rw [← HBD.out.rel.rf]; omega) xo xn xt (fun y hy h0 hp => by have := hkb.out y hy h0; have := (HBD.out.r.low _ hp).1; have := n1.out; omega)).mono ?_
            rintro e y11 ⟨c2, rfl, hc2, T11⟩
            obtain ⟨hcc, S', P', P2', v', HB2, hrf2⟩ := HBD.out.step hnD.out n1.out hzs.out Q5.out T11
            replace hcc := hcc.trans hc2.symm
            subst hcc
            replace HB2 := hid HB2
            clear xo xn xt T11 Q5 F5
            refine hK.out _ _ HB2.out.bel (fun hS => ?_)
            clear hK K
            refine wpAnyH_take (i := 12) (v := ?v11) rfl (by kernel_rfl) (by kernel_rfl) (by kernel_rfl) (fun _ _ _ h => h) (Or.inl ⟨by rfl, ?h11⟩) hS ?_
            case h11 => (intro W hW; go_simp; try (with_reducible rfl))
            go_simp
            refine wpAnyH_take (i := 13) (v := ?v12) rfl (by kernel_rfl) (by kernel_rfl) (by kernel_rfl) (fun _ _ _ h => h) (Or.inl ⟨by rfl, ?h12⟩) hS ?_
            case h12 => (intro W hW; go_simp; try (with_reducible rfl))
            go_simp
            refine wpAnyH_take (i := 14) (v := ?v13) rfl (by kernel_rfl) (by kernel_rfl) (by kernel_rfl) (fun _ _ _ h => h) (Or.inl ⟨by rfl, ?h13⟩) hS ?_
            case h13 => (intro W hW; go_simp; try (with_reducible rfl))
            go_simp
            refine wpAnyH_take (i := 15) (v := ?v14) rfl (by kernel_rfl) (by kernel_rfl) (by kernel_rfl) (fun _ _ _ h => h) (Or.inl ⟨by rfl, ?h14⟩) hS ?_
            case h14 => (intro W hW; go_simp; try (with_reducible rfl))
            go_simp
            refine wpAnyH_take (i := 16) (v := ?v15) rfl (by kernel_rfl) (by kernel_rfl) (by kernel_rfl) (fun _ _ _ h => h) (Or.inl ⟨by rfl, ?h15⟩) hS ?_
            case h15 => (intro W hW; go_simp; try (with_reducible rfl))
            go_simp
            refine wpAnyH_take (i := 17) (v := ?v16) rfl (by kernel_rfl) (by kernel_rfl) (by kernel_rfl) (fun _ _ _ h => h) (Or.inl ⟨by rfl, ?h16⟩) hS ?_
            case h16 => (intro W hW; go_simp; try (with_reducible rfl))
            go_simp
            refine wpAnyH_take (i := 18) (v := ?v17) rfl (by kernel_rfl) (by kernel_rfl) (by kernel_rfl) (fun _ _ _ h => h) (Or.inl ⟨by rfl, ?h17⟩) hS ?_
            case h17 => (intro W hW; go_simp; try (with_reducible rfl))
            go_simp
            refine wpAnyH_take (i := 19) (v := ?v18) rfl (by kernel_rfl) (by kernel_rfl) (by kernel_rfl) (fun _ _ _ h => h) (Or.inl ⟨by rfl, ?h18⟩) hS ?_
            case h18 => (intro W hW; obtain ⟨a0, a1, a2, a3, a4, a5, a6⟩ := HC.out W hW; go_simp; try (with_reducible rfl))
            go_simp
            refine wpAnyH_ready (rs := [20]) (by kernel_rfl) (by simp) ?_
            refine AllReadyH.cons rfl (fun K hK => ?_) ?_
            · go_simp
              go_wp2_with fail
              obtain ⟨xo, xn, xt⟩ := HXO.out y11 hS
              refine (Qm.looks_any x y11 HB2.out.d HB2.out.r HB2.out.rel xo xn).mono ?_
              rintro e y20 ⟨rfl, b20⟩
              have HB3 := hid (HB2.out.later (by rw [hn0.out]; exact HB2.out.bel.size) b20)
              clear xo xn xt b20
              refine hK.out _ _ HB3.out.bel (fun hS => ?_)
              clear hK K
              refine wpAnyH_take (i := 21) (v := ?v19) rfl (by kernel_rfl) (by kernel_rfl) (by kernel_rfl) (fun _ _ _ h => h) (Or.inl ⟨by rfl, ?h19⟩) hS ?_
              case h19 => (intro W hW; go_simp; try (with_reducible rfl))
              go_simp
              refine wpAnyH_take (i := 22) (v := ?v20) rfl (by kernel_rfl) (by kernel_rfl) (by kernel_rfl) (fun _ _ _ h => h) (Or.inl ⟨by rfl, ?h20⟩) hS ?_
              case h20 => (intro W hW; go_simp; try (with_reducible rfl))
              go_simp
              refine wpAnyH_done (by kernel_rfl) ?_ _
              go_wp2_with fail
              refine ⟨⟨i + 1, S', _, P', P2', v', by first | rfl | go_num, by omega, by omega, HB3⟩, ?_⟩
              simp only [intOf]; omega
            exact AllReadyH.nil
          exact AllReadyH.nil
        exact AllReadyH.nil
    · have ik : ¬ (i : Int) < (len : Int) := by omega
      have HK := hid (Qm.looks_any za wr HB.out.d HB.out.r HB.out.rel (za_ok wr) (show (0 : Nat) ≤ 9223372036854775807 by omega))
      have BF : Hid (∀ W, Below wr.heap.size wr W → Below n0 w W) := fun W b => HB.out.bel.trans (b.mono hnw.out)
      unfold za at HK
      clear HB hA hKB
      go_wp2_with fail
      refine HK.out.mono ?_
      rintro e w4 ⟨rfl, b4⟩
      replace b4 := hid b4
      go_wp2_with fail
      go_ret
      exact ⟨rfl, BF.out _ b4.out⟩
end Go.Proofs.Ytgffojafdjcdoaa.Qn

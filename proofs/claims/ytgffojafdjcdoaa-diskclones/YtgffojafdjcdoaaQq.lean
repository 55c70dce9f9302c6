/- DiskClones walked. -/
import Derived.Test.YtgffojafdjcdoaaQp
namespace Go.Proofs.Ytgffojafdjcdoaa.Qq
open Go.ChangeShapes Go.WideShapes Go.ChangeAt Go.RowKit Go.Maps
open Go.Sort (grow)
open Go.Proofs.Ytgffojafdjcdoaa.By
open Go.Proofs.Ytgffojafdjcdoaa.Ac
open Go.Proofs.Ytgffojafdjcdoaa.Dk
open Go.Proofs.Ytgffojafdjcdoaa.Df (isN isQ isN_size fnd)
open Go.Proofs.Ytgffojafdjcdoaa.Dg (new_ok new_no)
open Go.Proofs.Ytgffojafdjcdoaa.Ll (Acts za)
open Go.Proofs.Ytgffojafdjcdoaa.Pd
open Go.Proofs.Ytgffojafdjcdoaa.Qa
open Go.Proofs.Ytgffojafdjcdoaa.Qb
open Go.Proofs.Ytgffojafdjcdoaa.Qd (Tk)
open Go.Proofs.Ytgffojafdjcdoaa.Ql (stepR step_rel done_any)
open Go.Proofs.Ytgffojafdjcdoaa.Qn (za_ok)
open Go.Proofs.Ytgffojafdjcdoaa.Qp
set_option linter.unusedVariables false
set_option linter.unusedSimpArgs false
/-- An act of a slice, at every later world. -/
theorem act_at {w : World} {n0 : Nat} {a : Option Addr} {len cap : Nat} {xs : List A} (hn : n0 = w.heap.size) (H : Acts w a len cap xs) (i : Nat) (hi : i < len) : ∃ (ab ao : Nat) (x : A), a = some ⟨ab, ao, none⟩ ∧ (∀ W, Below n0 w W → (W.cell? ⟨ab, ao + i * 7, none⟩ = some (.int .i64 x.kind) ∧ W.cell? ⟨ab, ao + i * 7 + 1, none⟩ = some (.string x.name) ∧ W.cell? ⟨ab, ao + i * 7 + 2, none⟩ = some (.string x.to) ∧ W.cell? ⟨ab, ao + i * 7 + 3, none⟩ = some (.slice x.ba x.bl x.bc) ∧ W.cell? ⟨ab, ao + i * 7 + 4, none⟩ = some (.int .i64 x.at_) ∧ W.cell? ⟨ab, ao + i * 7 + 5, none⟩ = some (.int .i64 x.n) ∧ W.cell? ⟨ab, ao + i * 7 + 6, none⟩ = some (.slice x.ka x.kl x.kc)) ∧ x.ok W ∧ x.name.size ≤ 9223372036854775807 ∧ x.to.size ≤ 9223372036854775807) ∧ (∀ y ∈ x.zs, 0 ≤ y ∧ y ≤ 255) ∧ (∀ y, x.ka = some y → 0 < x.kl → y.block < n0) := by
  cases a with
  | none => exact absurd (H.2.2.1 rfl).1 (by omega)
  | some ad =>
    obtain ⟨ab, ao, ap⟩ := ad
    obtain ⟨rfl, _⟩ := H.2.2.2.2 ab ao ap rfl (by omega)
    have hl := H.1
    have hxm : xs.getD i za ∈ xs := by
      rw [List.getD_eq_getElem?_getD, List.getElem?_eq_getElem (by omega)]
      exact List.getElem_mem _
    refine ⟨ab, ao, xs.getD i za, rfl, fun W b => ?_, (H.2.2.2.1 _ hxm).1.bytes.2.2.2.1, fun y hy h0 => ?_⟩
    · have HW := H.later (by rw [← hn]; exact b)
      have h7 := (HW.2.2.2.2 ab ao none rfl (by omega)).2 i hi
      exact ⟨⟨h7 0 (by omega), h7 1 (by omega), h7 2 (by omega), h7 3 (by omega), h7 4 (by omega), h7 5 (by omega), h7 6 (by omega)⟩, HW.2.2.2.1 _ hxm⟩
    · have := (H.2.2.2.1 _ hxm).1.ints.2.2.2.2 y hy 0 h0
      rw [hn]
      have := block_lt_of_cell this
      simpa [Addr.add] using this
theorem fr_low {U : Nat → Prop} {w wr w2 : World} {n0 : Nat} (b : Below n0 w wr) (hn : n0 ≤ wr.heap.size) (F : Fr U wr w2) (hu : ∀ j, U j → n0 ≤ j) : Below n0 w w2 := b.trans (Dd.Fr.low F n0 hn hu)
set_option maxHeartbeats 16000000 in
set_option maxRecDepth 100000 in
theorem clones_yes (q : Int) (a : Option Addr) (len cap : Nat) (xs : List A) (am : Option Addr) (lm cm : Nat) (ms : List A) (ao_ : Option Addr) (lo_ co_ : Nat) (os : List A) (w : World) (H : Acts w a len cap xs) (hl : len ≤ 140737488351232) (HM : Acts w am lm cm ms) (hlm : lm ≤ 140737488351232) (HO : Acts w ao_ lo_ co_ os) (hlo : lo_ ≤ 140737488351232) (h : isQ q = true) :
    Calls Try.prog 4 #[.int .i64 q, .slice a len cap, .agg #[.slice am lm cm, .slice ao_ lo_ co_]] w fun e w' => e = .returned (.bool true) ∧ Below w.heap.size w w' := by
  have HN : Hid (∀ W, Calls Try.prog 8 #[.int .i64 q] W fun e w' => ∃ g b, e = .returned (.tuple #[.pointer (some ⟨g, 0, none⟩), .int .i64 0]) ∧ Disk w' W.heap.size g b (fun j => W.heap.size ≤ j ∧ j < w'.heap.size) ⟨[], q, 0, 0, 0⟩ ∧ Below W.heap.size W w') := fun W => new_ok q h W
  have HR : Hid (∀ W, Calls Try.prog 9 #[.int .i64 q] W fun e w' => e = .returned (.tuple #[.pointer (some ⟨W.heap.size, 0, none⟩), .int .i64 0]) ∧ RDk w' W.heap.size W.heap.size (.slice none 0 0) (fun j => j = W.heap.size) ⟨[], q, 0, 0, 0⟩ ∧ Below W.heap.size W w') := fun W => rnew_ok q h W
  have H3 : Hid (∀ W, Calls Try.prog 10 #[] W fun e w' => e = .returned (.bool true) ∧ w' = W) := fun W => Ln.names_any W
  have hE : ∀ (x : Addr) (w : World), Sem.run Try.prog (binOp .eql 23 (.pointer (some x)) (.pointer none)) w = .ok (.bool false) w := fun x w => rfl
  have hE2 : ∀ (x : Addr) (w : World), Sem.run Try.prog (binOp .eql 27 (.pointer (some x)) (.pointer none)) w = .ok (.bool false) w := fun x w => rfl
  obtain ⟨n0, hn0⟩ : ∃ n0, n0 = w.heap.size := ⟨_, rfl⟩
  replace H := hid H
  replace HM := hid HM
  replace HO := hid HO
  obtain ⟨W0, eW0⟩ : ∃ W, w.alloc (.cells #[.slice am lm cm, .slice ao_ lo_ co_] 40) = W := ⟨_, rfl⟩
  have b0 : Hid (Below n0 w W0) := by show Below n0 w W0; rw [← eW0, hn0]; exact box_below _ _
  have kb := new_at w (.cells #[.slice am lm cm, .slice ao_ lo_ co_] 40)
  rw [eW0] at kb
  have t0 := cell_of kb 0 _ rfl
  have t1 := cell_of kb 1 _ rfl
  rw [← hn0] at t0 t1 ⊢
  have egx := hn0.symm
  replace hn0 := hid hn0
  clear h kb
  go_enter Try.func4, Try.ntmps4
  go_wp2_with fail
  go_quiet (fail)
  generalize hq : World.drewN W0 _ = w0 at *
  have bq : Hid (Below n0 w w0) := by show Below n0 w w0; rw [← hq]; exact b0.out.trans ((drewN_below _ _).mono (by rw [hn0.out]; exact b0.out.size))
  clear hq t0 t1 eW0 egx
  go_wp2_with fail
  refine (HN.out w0).mono ?_
  rintro e w1 ⟨g, b, rfl, D1, b1⟩
  replace D1 := hid D1
  replace b1 := hid b1
  go_wp2_with fail
  refine (HR.out w1).mono ?_
  rintro e w2 ⟨rfl, R2, b2⟩
  have n1 : Hid (n0 ≤ w0.heap.size) := by show _ ≤ _; rw [hn0.out]; exact bq.out.size
  have n2 : Hid (n0 ≤ w1.heap.size) := Nat.le_trans n1.out b1.out.size
  have B2 : Hid (Below n0 w w2) := (bq.out.trans (b1.out.mono n1.out)).trans (b2.mono n2.out)
  have P0 : Hid (Pair w2 n0 w0.heap.size w1.heap.size g b w1.heap.size ⟨[], q, 0, 0, 0⟩ ⟨[], q, 0, 0, 0⟩ (fun j => n0 ≤ j ∧ j < w2.heap.size)) := ⟨_, _, _, D1.out.later b2, R2, ⟨cor_nil, rfl, rfl, rfl, rfl⟩, fun j hj e => by have := hj.2; omega, fun j hj => ⟨Nat.le_trans n1.out hj.1, Nat.lt_of_lt_of_le hj.2 b2.size⟩, fun j hj => ⟨by rw [hj]; exact n2.out, (R2.low j hj).2⟩, n1.out, n2.out, Nat.le_trans b1.out.size b2.size, b2.size⟩
  generalize w1.heap.size = nb at *
  generalize w0.heap.size = nd at *
  clear R2 b2 D1 b1 HN HR bq
  go_wp2_with fail
  go_loopw [13] (fun iv wr => ∃ (i : Nat) (S : St) (R : RS) (U : Nat → Prop), iv = .int .i64 (i : Int) ∧ i ≤ len ∧ S.rf ≤ (i : Int) ∧ Hid (Pair wr n0 nd nb g b nb S R U) ∧ Hid (Below n0 w wr) ∧ Hid (∀ j, U j → n0 ≤ j ∧ j < wr.heap.size)) (fun iv _ => len - (intOf iv).toNat)
  case atStart => exact ⟨0, _, _, _, rfl, Nat.zero_le _, by simp, P0, B2, fun j h => h⟩
  case round =>
    obtain ⟨i, S, R, U, rfl, hi, hrfi, HP, HB, HU⟩ := hrel
    have hnw : Hid (n0 ≤ wr.heap.size) := by show _ ≤ _; rw [hn0.out]; exact HB.out.size
    by_cases hlt : i < len
    · have ik : (i : Int) < (len : Int) := by omega
      have hwr : IntKind.i64.wrap ((i : Int) + 1) = ((i + 1 : Nat) : Int) := by rw [IntKind.wrap_i64]; omega
      obtain ⟨ab, ao, x, rfl, HCx, hzs, hkb⟩ := act_at hn0.out H.out i hlt
      replace HCx := hid HCx
      have HC : Hid (∀ W, Below n0 w W → (W.cell? ⟨ab, ao + i * 7, none⟩ = some (.int .i64 x.kind) ∧ W.cell? ⟨ab, ao + i * 7 + 1, none⟩ = some (.string x.name) ∧ W.cell? ⟨ab, ao + i * 7 + 2, none⟩ = some (.string x.to) ∧ W.cell? ⟨ab, ao + i * 7 + 3, none⟩ = some (.slice x.ba x.bl x.bc) ∧ W.cell? ⟨ab, ao + i * 7 + 4, none⟩ = some (.int .i64 x.at_) ∧ W.cell? ⟨ab, ao + i * 7 + 5, none⟩ = some (.int .i64 x.n) ∧ W.cell? ⟨ab, ao + i * 7 + 6, none⟩ = some (.slice x.ka x.kl x.kc)) ∧ x.ok W ∧ x.name.size ≤ 9223372036854775807 ∧ x.to.size ≤ 9223372036854775807) := HCx
      replace hzs := hid hzs
      replace hkb := hid hkb
      clear HCx
      obtain ⟨P, P2, v2, D, Q, rel, dis, u1, u2, l1, l2, l3, l4⟩ := HP.out
      replace D := hid D; replace Q := hid Q; replace rel := hid rel; replace dis := hid dis; replace u1 := hid u1; replace u2 := hid u2; replace l1 := hid l1; replace l2 := hid l2; replace l3 := hid l3; replace l4 := hid l4
      obtain ⟨⟨a0, a1, a2, a3, a4, a5, a6⟩, xo, xn, xt⟩ := HC.out wr HB.out
      go_wp2_with fail
      refine (Qk.does_any x wr D.out l3.out  (by omega) xo xn xt).mono ?_
      rintro e w4 ⟨c, rfl, Q5⟩
      have F5 : Hid (Fr P wr w4) := by obtain ⟨_, _, _, F, _⟩ := Q5; exact F
      replace Q5 := hid Q5
      have S4 : Below n0 w w4 := HB.out.trans (Dd.Fr.low F5.out n0 hnw.out (fun j hj => Nat.le_trans l1.out (D.out.low j hj).1))
      clear a0 a1 a2 a3 a4 a5 a6 xo xn xt
      obtain ⟨⟨a0, a1, a2, a3, a4, a5, a6⟩, xo, xn, xt⟩ := HC.out w4 S4
      go_wp2_with fail
      refine (done_any x w4 (Q.out.fr F5.out (fun j h2 h1 => dis.out j h1 h2)) (Rel.ok rel.out D.out.ok (Dh.nodup D.out) D.out.mem.lasts) (Nat.le_trans l4.out F5.out.size) (by rw [← rel.out.rf]; omega) xo xn xt (fun y hy h0 hp => by have := hkb.out y hy h0; have := (Q.out.low _ hp).1; have := l2.out; omega)).mono ?_
      rintro e w5 ⟨c2, rfl, hc2, T11⟩
      obtain ⟨hcc, S', U', HP', hrf2, FU, hUU, hUL⟩ := Pair.step (n0 := n0) D.out Q.out rel.out dis.out u1.out u2.out l1.out l2.out l3.out l4.out hzs.out Q5.out T11
      replace hcc := hcc.trans hc2.symm
      clear hc2
      subst hcc
      have HB5 : Hid (Below n0 w w5) := fr_low HB.out hnw.out FU (fun j hj => (HU.out j hj).1)
      have HU5 : Hid (∀ j, U' j → n0 ≤ j ∧ j < w5.heap.size) := fun j hj => by
        refine ⟨?_, hUL j hj⟩
        rcases hUU j hj with h | h
        · exact (HU.out j h).1
        · exact Nat.le_trans hnw.out h
      replace HP' := hid HP'
      clear a0 a1 a2 a3 a4 a5 a6 xo xn xt T11 Q5 F5 S4 FU hUU hUL
      go_wp2_with fail
      refine ⟨⟨i + 1, S', _, U', by first | rfl | go_num, by omega, by omega, HP', HB5, HU5⟩, ?_⟩
      simp only [intOf]; omega
    · have ik : ¬ (i : Int) < (len : Int) := by omega
      obtain ⟨P, P2, v2, D, Q, rel, dis, u1, u2, l1, l2, l3, l4⟩ := HP.out
      replace D := hid D; replace Q := hid Q; replace rel := hid rel; replace dis := hid dis; replace u1 := hid u1; replace u2 := hid u2; replace l1 := hid l1; replace l2 := hid l2; replace l3 := hid l3; replace l4 := hid l4
      have CL := hid (Cl.clone_any wr D.out)
      go_wp2_with fail
      refine CL.out.mono ?_
      rintro e w4 ⟨gc, bc, fs2, rfl, DC, AL, b4⟩
      have CR := hid (Qo.rclone_any w4 (Q.out.later b4) (Rel.ok rel.out D.out.ok (Dh.nodup D.out) D.out.mem.lasts))
      replace b4 := hid b4
      go_wp2_with fail
      refine CR.out.mono ?_
      rintro e w5 ⟨rfl, ⟨vq, DQ⟩, b5⟩
      have relC : Rel { S with fs := fs2 } R := by
        refine ⟨⟨rel.out.cor.srt, fun s => ?_⟩, rel.out.q, rel.out.af, rel.out.ct, rel.out.rf⟩
        rw [← rel.out.cor.same s]
        cases hsk : Mp.seek S.fs s.data.toList with
        | none =>
          have := AL.is s.data.toList
          rw [hsk] at this
          cases hq2 : Mp.seek fs2 s.data.toList with
          | none => first | rfl | (show Option.map cf (Mp.seek fs2 s.data.toList) = _; rw [hq2])
          | some f => rw [hq2] at this; cases this
        | some f =>
          obtain ⟨sl, h2⟩ := AL.at_ _ _ hsk
          show Option.map cf (Mp.seek fs2 s.data.toList) = _
          rw [h2]; rfl
      have bw5 : Hid (Below wr.heap.size wr w5) := b4.out.trans (b5.mono b4.out.size)
      have HP5 : Hid (Pair w5 n0 nd nb g b nb S R U) := HP.out.later bw5.out
      have HB5 : Hid (Below n0 w w5) := HB.out.trans (bw5.out.mono hnw.out)
      obtain ⟨V, hV⟩ : ∃ V : Nat → Prop, V = fun j => wr.heap.size ≤ j ∧ j < w5.heap.size := ⟨_, rfl⟩
      have HC5 : Hid (Pair w5 n0 wr.heap.size w4.heap.size gc bc w4.heap.size { S with fs := fs2 } R V) := by
        rw [hV]
        exact ⟨_, _, _, DC.later b5, DQ, relC, fun j h1 h2 => by have := h1.2; have := h2.1; omega, fun j h => ⟨h.1, Nat.lt_of_lt_of_le h.2 b5.size⟩, fun j h => ⟨Nat.le_trans b4.out.size h.1, h.2⟩, hnw.out, Nat.le_trans hnw.out b4.out.size, bw5.out.size, b5.size⟩
      have hUV : Hid (∀ j, U j → ¬ V j) := by
        rw [hV]
        exact fun j h1 h2 => by have := (HU.out j h1).2; omega
      have HU5 : Hid (∀ j, U j → n0 ≤ j ∧ j < w5.heap.size) := fun j h => ⟨(HU.out j h).1, Nat.lt_of_lt_of_le (HU.out j h).2 bw5.out.size⟩
      have HV5 : Hid (∀ j, V j → n0 ≤ j ∧ j < w5.heap.size) := by
        rw [hV]
        exact fun j h => ⟨Nat.le_trans hnw.out h.1, h.2⟩
      have hrl : S.rf ≤ (len : Int) := by omega
      have hn5 : Hid (n0 ≤ w5.heap.size) := Nat.le_trans hnw.out bw5.out.size
      replace hV := hid hV
      have K1 : Hid (∀ W, Below w5.heap.size w5 W → Calls Try.prog 16 #[.pointer (some ⟨g, 0, none⟩), .pointer (some ⟨gc, 0, none⟩)] W fun e w' => e = .returned (.bool true) ∧ Below W.heap.size W w') := fun W bW => by
        obtain ⟨_, _, _, D', _⟩ := HP5.out.later bW
        obtain ⟨_, _, _, D2', _⟩ := HC5.out.later bW
        refine (Sn.same_any W D' D2').mono ?_
        rintro e w' ⟨z, rfl, hz, bb⟩
        have : z = true := hz.2 AL
        rw [this]; exact ⟨rfl, bb⟩
      have AL2 : Pw.Alike S.fs fs2 := (relC.cor.alike rel.out.cor (by obtain ⟨_, _, _, D2', _⟩ := HC5.out; exact Dh.nodup D2') (Dh.nodup D.out)).2 rfl
      have K2 : Hid (∀ W, Below w5.heap.size w5 W → Calls Try.prog 16 #[.pointer (some ⟨gc, 0, none⟩), .pointer (some ⟨g, 0, none⟩)] W fun e w' => e = .returned (.bool true) ∧ Below W.heap.size W w') := fun W bW => by
        obtain ⟨_, _, _, D', _⟩ := HP5.out.later bW
        obtain ⟨_, _, _, D2', _⟩ := HC5.out.later bW
        refine (Sn.same_any W D2' D').mono ?_
        rintro e w' ⟨z, rfl, hz, bb⟩
        have : z = true := hz.2 AL2
        rw [this]; exact ⟨rfl, bb⟩
      generalize w4.heap.size = brc at *
      generalize wr.heap.size = bdc at *
      have hrc : (⟨fs2, S.q, S.af, S.ct, S.rf⟩ : St).rf ≤ (len : Int) := hrl
      generalize ({ S with fs := fs2 } : St) = S2 at *
      clear DC DQ AL AL2 relC CL CR b4 b5 HP HB HU hnw bw5 P0 B2 D Q rel dis u1 u2 l1 l2 l3 l4 H
      go_wp2_with fail
      refine (K1.out w5 (Below.refl _ _)).mono ?_
      rintro e w6 ⟨rfl, b6⟩
      replace b6 := hid b6
      go_wp2_with fail
      refine (K2.out w6 b6.out).mono ?_
      rintro e w7 ⟨rfl, b7⟩
      have bw7 : Hid (Below w5.heap.size w5 w7) := b6.out.trans (b7.mono b6.out.size)
      have HP7 := hid (HP5.out.later bw7.out)
      have HC7 := hid (HC5.out.later bw7.out)
      have HB7 : Hid (Below n0 w w7) := HB5.out.trans (bw7.out.mono hn5.out)
      have HU7 : Hid (∀ j, U j → n0 ≤ j ∧ j < w7.heap.size) := fun j h => ⟨(HU5.out j h).1, Nat.lt_of_lt_of_le (HU5.out j h).2 bw7.out.size⟩
      have HV7 : Hid (∀ j, V j → n0 ≤ j ∧ j < w7.heap.size) := fun j h => ⟨(HV5.out j h).1, Nat.lt_of_lt_of_le (HV5.out j h).2 bw7.out.size⟩
      clear b6 b7 bw7 K1 K2 HP5 HC5 HB5 HU5 HV5 hn5
      go_wp2_with fail
      obtain ⟨mx, hmx⟩ : ∃ mx, mx = max lm lo_ := ⟨_, rfl⟩
      have hmx1 : lm ≤ mx := by omega
      have hmx2 : lo_ ≤ mx := by omega
      have hmx3 : mx ≤ 140737488351232 := by omega
      have hmx4 : ∀ k, k < mx → k < lm ∨ k < lo_ := fun k hk => by omega
      replace hmx := hid hmx
      replace hmx4 := hid hmx4
      go_loopw [16] (fun iv wr => ∃ (k : Nat) (S : St) (R : RS) (U : Nat → Prop) (S2 : St) (R2 : RS) (V : Nat → Prop), iv = .int .i64 (k : Int) ∧ k ≤ mx ∧ S.rf ≤ (len : Int) + k ∧ S2.rf ≤ (len : Int) + k ∧ Hid (Pair wr n0 nd nb g b nb S R U) ∧ Hid (Pair wr n0 bdc brc gc bc brc S2 R2 V) ∧ Hid (Below n0 w wr) ∧ Hid (∀ j, U j → n0 ≤ j ∧ j < wr.heap.size) ∧ Hid (∀ j, V j → n0 ≤ j ∧ j < wr.heap.size) ∧ Hid (∀ j, U j → ¬ V j)) (fun iv _ => mx - (intOf iv).toNat)
      case atStart => exact ⟨0, S, R, U, S2, R, V, rfl, Nat.zero_le _, by omega, by omega, HP7, HC7, HB7, HU7, HV7, hUV⟩
      case round =>
        clear HP7 HC7 HB7 HU7 HV7 hUV hrl hrc hV
        obtain ⟨k, S, R, U, S2, R2, V, rfl, hk, hr1, hr2, HPa, HPb, HB, HUa, HUb, HUV⟩ := hrel
        have hnw : Hid (n0 ≤ wr.heap.size) := by show _ ≤ _; rw [hn0.out]; exact HB.out.size
        have hwr : IntKind.i64.wrap ((k : Int) + 1) = ((k + 1 : Nat) : Int) := by rw [IntKind.wrap_i64]; omega
        by_cases hm : k < lm
        · have jm : (k : Int) < (lm : Int) := by omega
          go_wp2_with fail
          obtain ⟨ab, ao, x, hab, HCx, hzs, hkb⟩ := act_at hn0.out HM.out k hm
          have HC : Hid (∀ W, Below n0 w W → (W.cell? ⟨ab, ao + k * 7, none⟩ = some (.int .i64 x.kind) ∧ W.cell? ⟨ab, ao + k * 7 + 1, none⟩ = some (.string x.name) ∧ W.cell? ⟨ab, ao + k * 7 + 2, none⟩ = some (.string x.to) ∧ W.cell? ⟨ab, ao + k * 7 + 3, none⟩ = some (.slice x.ba x.bl x.bc) ∧ W.cell? ⟨ab, ao + k * 7 + 4, none⟩ = some (.int .i64 x.at_) ∧ W.cell? ⟨ab, ao + k * 7 + 5, none⟩ = some (.int .i64 x.n) ∧ W.cell? ⟨ab, ao + k * 7 + 6, none⟩ = some (.slice x.ka x.kl x.kc)) ∧ x.ok W ∧ x.name.size ≤ 9223372036854775807 ∧ x.to.size ≤ 9223372036854775807) := HCx
          replace hzs := hid hzs
          replace hkb := hid hkb
          clear HCx
          subst hab
          have HPd := hid (HPa.out.later ((Below.refl wr.heap.size wr).drew))
          have HPo := hid (HPb.out.later ((Below.refl wr.heap.size wr).drew))
          have HBd : Hid (Below n0 w (World.drew wr)) := HB.out.drew
          have hnD : Hid (n0 ≤ (World.drew wr).heap.size) := hnw
          have hsD : Hid ((World.drew wr).heap.size = wr.heap.size) := rfl
          clear HPa HPb HB
          refine wp_region_held_drew (S := fun W => Below n0 w W) (by kernel_rfl) (HBd.out) (fun hS => ?_)
          generalize World.drew wr = D_ at *
          refine wpAnyH_take (i := 0) (v := ?v1) rfl (by kernel_rfl) (by kernel_rfl) (by kernel_rfl) (fun _ _ _ h => h) (Or.inl ⟨by rfl, ?h1⟩) hS ?_
          case h1 => (intro W hW; go_simp; try (with_reducible rfl))
          go_simp
          refine wpAnyH_take (i := 1) (v := ?v2) rfl (by kernel_rfl) (by kernel_rfl) (by kernel_rfl) (fun _ _ _ h => h) (Or.inl ⟨by rfl, ?h2⟩) hS ?_
          case h2 => (intro W hW; go_simp; try (with_reducible rfl))
          go_simp
          refine wpAnyH_take (i := 2) (v := ?v3) rfl (by kernel_rfl) (by kernel_rfl) (by kernel_rfl) (fun _ _ _ h => h) (Or.inl ⟨by rfl, ?h3⟩) hS ?_
          case h3 => (intro W hW; go_simp; try (with_reducible rfl))
          go_simp
          refine wpAnyH_take (i := 3) (v := ?v4) rfl (by kernel_rfl) (by kernel_rfl) (by kernel_rfl) (fun _ _ _ h => h) (Or.inl ⟨by rfl, ?h4⟩) hS ?_
          case h4 => (intro W hW; go_simp; try (with_reducible rfl))
          go_simp
          refine wpAnyH_take (i := 4) (v := ?v5) rfl (by kernel_rfl) (by kernel_rfl) (by kernel_rfl) (fun _ _ _ h => h) (Or.inl ⟨by rfl, ?h5⟩) hS ?_
          case h5 => (intro W hW; go_simp; try (with_reducible rfl))
          go_simp
          refine wpAnyH_take (i := 5) (v := ?v6) rfl (by kernel_rfl) (by kernel_rfl) (by kernel_rfl) (fun _ _ _ h => h) (Or.inl ⟨by rfl, ?h6⟩) hS ?_
          case h6 => (intro W hW; go_simp; try (with_reducible rfl))
          go_simp
          refine wpAnyH_take (i := 6) (v := ?v7) rfl (by kernel_rfl) (by kernel_rfl) (by kernel_rfl) (fun _ _ _ h => h) (Or.inl ⟨by rfl, ?h7⟩) hS ?_
          case h7 => (intro W hW; go_simp; try (with_reducible rfl))
          go_simp
          refine wpAnyH_take (i := 7) (v := ?v8) rfl (by kernel_rfl) (by kernel_rfl) (by kernel_rfl) (fun _ _ _ h => h) (Or.inl ⟨by rfl, ?h8⟩) hS ?_
          case h8 => (intro W hW; go_simp; try (with_reducible rfl))
          go_simp
          refine wpAnyH_take (i := 8) (v := ?v9) rfl (by kernel_rfl) (by kernel_rfl) (by kernel_rfl) (fun _ _ _ h => h) (Or.inl ⟨by rfl, ?h9⟩) hS ?_
          case h9 => (intro W hW; go_simp; try (with_reducible rfl))
          go_simp
          refine wpAnyH_take (i := 9) (v := ?v10) rfl (by kernel_rfl) (by kernel_rfl) (by kernel_rfl) (fun _ _ _ h => h) (Or.inl ⟨by rfl, ?h10⟩) hS ?_
          case h10 => (intro W hW; obtain ⟨⟨a0, a1, a2, a3, a4, a5, a6⟩, _⟩ := HC.out W hW; go_simp; try (with_reducible rfl))
          go_simp
          refine wpAnyH_take (i := 11) (v := ?v11) rfl (by kernel_rfl) (by kernel_rfl) (by kernel_rfl) (fun _ _ _ h => h) (Or.inl ⟨by rfl, ?h11⟩) hS ?_
          case h11 => (intro W hW; go_simp; try (with_reducible rfl))
          go_simp
          refine wpAnyH_take (i := 12) (v := ?v12) rfl (by kernel_rfl) (by kernel_rfl) (by kernel_rfl) (fun _ _ _ h => h) (Or.inl ⟨by rfl, ?h12⟩) hS ?_
          case h12 => (intro W hW; go_simp; try (with_reducible rfl))
          go_simp
          refine wpAnyH_take (i := 13) (v := ?v13) rfl (by kernel_rfl) (by kernel_rfl) (by kernel_rfl) (fun _ _ _ h => h) (Or.inl ⟨by rfl, ?h13⟩) hS ?_
          case h13 => (intro W hW; go_simp; try (with_reducible rfl))
          go_simp
          refine wpAnyH_take (i := 14) (v := ?v14) rfl (by kernel_rfl) (by kernel_rfl) (by kernel_rfl) (fun _ _ _ h => h) (Or.inl ⟨by rfl, ?h14⟩) hS ?_
          case h14 => (intro W hW; go_simp; try (with_reducible rfl))
          go_simp
          refine wpAnyH_take (i := 15) (v := ?v15) rfl (by kernel_rfl) (by kernel_rfl) (by kernel_rfl) (fun _ _ _ h => h) (Or.inl ⟨by rfl, ?h15⟩) hS ?_
          case h15 => (intro W hW; obtain ⟨⟨a0, a1, a2, a3, a4, a5, a6⟩, _⟩ := HC.out W hW; go_simp; try (with_reducible rfl))
          go_simp
          refine wpAnyH_ready (rs := [10]) (by kernel_rfl) (by simp) ?_
          refine AllReadyH.cons rfl (fun K hK => ?_) ?_
          · go_simp
            go_wp2_with fail
            obtain ⟨P, P2, v2, D, Q, rel, dis, u1, u2, l1, l2, l3, l4⟩ := HPd.out
            replace D := hid D; replace Q := hid Q; replace rel := hid rel; replace dis := hid dis; replace u1 := hid u1; replace u2 := hid u2; replace l1 := hid l1; replace l2 := hid l2; replace l3 := hid l3; replace l4 := hid l4
            obtain ⟨_, xo, xn, xt⟩ := HC.out D_ hS
            refine (Qk.does_any x D_ D.out l3.out (by omega) xo xn xt).mono ?_
            rintro e y5 ⟨c, rfl, Q5⟩
            have F5 : Hid (Fr P D_ y5) := by obtain ⟨_, _, _, F, _⟩ := Q5; exact F
            replace Q5 := hid Q5
            clear xo xn xt
            refine hK.out _ _ (hS.trans (Dd.Fr.low F5.out n0 hnD.out (fun j hj => Nat.le_trans l1.out (D.out.low j hj).1))) (fun hS => ?_)
            clear hK K
            refine wpAnyH_ready (rs := [16]) (by kernel_rfl) (by simp) ?_
            refine AllReadyH.cons rfl (fun K hK => ?_) ?_
            · go_simp
              go_wp2_with fail
              obtain ⟨_, xo, xn, xt⟩ := HC.out y5 hS
              refine (done_any x y5 (Q.out.fr F5.out (fun j h2 h1 => dis.out j h1 h2)) (Rel.ok rel.out D.out.ok (Dh.nodup D.out) D.out.mem.lasts) (Nat.le_trans l4.out F5.out.size) (by rw [← rel.out.rf]; omega) xo xn xt (fun y hy h0 hp => by have := hkb.out y hy h0; have := (Q.out.low _ hp).1; have := l2.out; omega)).mono ?_
              rintro e y16 ⟨c2, rfl, hc2, T11⟩
              obtain ⟨hcc, S', U', HP', hrf2, FU, hUU, hUL⟩ := Pair.step (n0 := n0) D.out Q.out rel.out dis.out u1.out u2.out l1.out l2.out l3.out l4.out hzs.out Q5.out T11
              replace hcc := hcc.trans hc2.symm
              clear hc2
              subst hcc
              have HB' : Hid (Below n0 w y16) := fr_low HBd.out hnD.out FU (fun j hj => (HUa.out j hj).1)
              have HUn : Hid (∀ j, U' j → n0 ≤ j ∧ j < y16.heap.size) := fun j hj => by
                refine ⟨?_, hUL j hj⟩
                rcases hUU j hj with h | h
                · exact (HUa.out j h).1
                · exact Nat.le_trans hnD.out h
              have hsz := FU.size
              have HUo' : Hid (∀ j, V j → n0 ≤ j ∧ j < y16.heap.size) := fun j h => ⟨(HUb.out j h).1, Nat.lt_of_lt_of_le (HUb.out j h).2 (by have := hsD.out; omega)⟩
              have HPo' : Hid (Pair y16 n0 bdc brc gc bc brc S2 R2 V) := HPo.out.kept (fun j hj hu => FU.block j hj (fun hm => HUV.out j hm hu)) hsz
              have HUV' : Hid (∀ j, U' j → ¬ V j) := fun j h1 h2 => by
                rcases hUU j h1 with h | h
                · exact HUV.out j h h2
                · have := (HUb.out j h2).2; have := hsD.out; omega
              replace HP' := hid HP'
              clear xo xn xt T11 Q5 F5 FU hUU hUL hsz D Q rel dis u1 u2 l1 l2 l3 l4
              refine hK.out _ _ HB'.out (fun hS => ?_)
              clear hK K
              refine wpAnyH_take (i := 17) (v := ?v16) rfl (by kernel_rfl) (by kernel_rfl) (by kernel_rfl) (fun _ _ _ h => h) (Or.inl ⟨by rfl, ?h16⟩) hS ?_
              case h16 => (intro W hW; go_simp; try (with_reducible rfl))
              go_simp
              refine wpAnyH_take (i := 18) (v := ?v17) rfl (by kernel_rfl) (by kernel_rfl) (by kernel_rfl) (fun _ _ _ h => h) (Or.inl ⟨by rfl, ?h17⟩) hS ?_
              case h17 => (intro W hW; go_simp; try (with_reducible rfl))
              go_simp
              refine wpAnyH_done (by kernel_rfl) ?_ _
              clear hS HBd HPd HPo hzs hkb hnD hsD hnw HUa HUb HUV
              have hnw : Hid (n0 ≤ y16.heap.size) := by show _ ≤ _; rw [hn0.out]; exact HB'.out.size
              have HB := HB'
              have HPa := HP'
              have HPb := HPo'
              have HUa := HUn
              have HUb := HUo'
              have HUV := HUV'
              clear HB' HP' HPo' HUn HUo' HUV' HC
              have hnr : S'.rf ≤ (len : Int) + k + 1 := by omega
              clear hr1 hrf2
              have hr1 := hnr
              clear hnr
              generalize (stepR x R).1 = Rn at *
              clear wr
              obtain ⟨wr, hsw⟩ : ∃ W, W = y16 := ⟨_, rfl⟩
              subst hsw
              clear S R U
              obtain ⟨S, hsw⟩ : ∃ Z, Z = S' := ⟨_, rfl⟩
              subst hsw
              obtain ⟨R, hsw⟩ : ∃ Z, Z = Rn := ⟨_, rfl⟩
              subst hsw
              obtain ⟨U, hsw⟩ : ∃ Z, Z = U' := ⟨_, rfl⟩
              subst hsw
              by_cases ho : k < lo_
              · have jo : (k : Int) < (lo_ : Int) := by omega
                go_wp2_with fail
                obtain ⟨ab, ao, x, hab, HCx, hzs, hkb⟩ := act_at hn0.out HO.out k ho
                have HC : Hid (∀ W, Below n0 w W → (W.cell? ⟨ab, ao + k * 7, none⟩ = some (.int .i64 x.kind) ∧ W.cell? ⟨ab, ao + k * 7 + 1, none⟩ = some (.string x.name) ∧ W.cell? ⟨ab, ao + k * 7 + 2, none⟩ = some (.string x.to) ∧ W.cell? ⟨ab, ao + k * 7 + 3, none⟩ = some (.slice x.ba x.bl x.bc) ∧ W.cell? ⟨ab, ao + k * 7 + 4, none⟩ = some (.int .i64 x.at_) ∧ W.cell? ⟨ab, ao + k * 7 + 5, none⟩ = some (.int .i64 x.n) ∧ W.cell? ⟨ab, ao + k * 7 + 6, none⟩ = some (.slice x.ka x.kl x.kc)) ∧ x.ok W ∧ x.name.size ≤ 9223372036854775807 ∧ x.to.size ≤ 9223372036854775807) := HCx
                replace hzs := hid hzs
                replace hkb := hid hkb
                clear HCx
                subst hab
                have HPd := hid (HPb.out.later ((Below.refl wr.heap.size wr).drew))
                have HPo := hid (HPa.out.later ((Below.refl wr.heap.size wr).drew))
                have HBd : Hid (Below n0 w (World.drew wr)) := HB.out.drew
                have hnD : Hid (n0 ≤ (World.drew wr).heap.size) := hnw
                have hsD : Hid ((World.drew wr).heap.size = wr.heap.size) := rfl
                clear HPa HPb HB
                refine wp_region_held_drew (S := fun W => Below n0 w W) (by kernel_rfl) (HBd.out) (fun hS => ?_)
                generalize World.drew wr = D_ at *
                refine wpAnyH_take (i := 0) (v := ?v18) rfl (by kernel_rfl) (by kernel_rfl) (by kernel_rfl) (fun _ _ _ h => h) (Or.inl ⟨by rfl, ?h18⟩) hS ?_
                case h18 => (intro W hW; go_simp; try (with_reducible rfl))
                go_simp
                refine wpAnyH_take (i := 1) (v := ?v19) rfl (by kernel_rfl) (by kernel_rfl) (by kernel_rfl) (fun _ _ _ h => h) (Or.inl ⟨by rfl, ?h19⟩) hS ?_
                case h19 => (intro W hW; go_simp; try (with_reducible rfl))
                go_simp
                refine wpAnyH_take (i := 2) (v := ?v20) rfl (by kernel_rfl) (by kernel_rfl) (by kernel_rfl) (fun _ _ _ h => h) (Or.inl ⟨by rfl, ?h20⟩) hS ?_
                case h20 => (intro W hW; go_simp; try (with_reducible rfl))
                go_simp
                refine wpAnyH_take (i := 3) (v := ?v21) rfl (by kernel_rfl) (by kernel_rfl) (by kernel_rfl) (fun _ _ _ h => h) (Or.inl ⟨by rfl, ?h21⟩) hS ?_
                case h21 => (intro W hW; go_simp; try (with_reducible rfl))
                go_simp
                refine wpAnyH_take (i := 4) (v := ?v22) rfl (by kernel_rfl) (by kernel_rfl) (by kernel_rfl) (fun _ _ _ h => h) (Or.inl ⟨by rfl, ?h22⟩) hS ?_
                case h22 => (intro W hW; go_simp; try (with_reducible rfl))
                go_simp
                refine wpAnyH_take (i := 5) (v := ?v23) rfl (by kernel_rfl) (by kernel_rfl) (by kernel_rfl) (fun _ _ _ h => h) (Or.inl ⟨by rfl, ?h23⟩) hS ?_
                case h23 => (intro W hW; go_simp; try (with_reducible rfl))
                go_simp
                refine wpAnyH_take (i := 6) (v := ?v24) rfl (by kernel_rfl) (by kernel_rfl) (by kernel_rfl) (fun _ _ _ h => h) (Or.inl ⟨by rfl, ?h24⟩) hS ?_
                case h24 => (intro W hW; go_simp; try (with_reducible rfl))
                go_simp
                refine wpAnyH_take (i := 7) (v := ?v25) rfl (by kernel_rfl) (by kernel_rfl) (by kernel_rfl) (fun _ _ _ h => h) (Or.inl ⟨by rfl, ?h25⟩) hS ?_
                case h25 => (intro W hW; go_simp; try (with_reducible rfl))
                go_simp
                refine wpAnyH_take (i := 8) (v := ?v26) rfl (by kernel_rfl) (by kernel_rfl) (by kernel_rfl) (fun _ _ _ h => h) (Or.inl ⟨by rfl, ?h26⟩) hS ?_
                case h26 => (intro W hW; go_simp; try (with_reducible rfl))
                go_simp
                refine wpAnyH_take (i := 9) (v := ?v27) rfl (by kernel_rfl) (by kernel_rfl) (by kernel_rfl) (fun _ _ _ h => h) (Or.inl ⟨by rfl, ?h27⟩) hS ?_
                case h27 => (intro W hW; obtain ⟨⟨a0, a1, a2, a3, a4, a5, a6⟩, _⟩ := HC.out W hW; go_simp; try (with_reducible rfl))
                go_simp
                refine wpAnyH_take (i := 11) (v := ?v28) rfl (by kernel_rfl) (by kernel_rfl) (by kernel_rfl) (fun _ _ _ h => h) (Or.inl ⟨by rfl, ?h28⟩) hS ?_
                case h28 => (intro W hW; go_simp; try (with_reducible rfl))
                go_simp
                refine wpAnyH_take (i := 12) (v := ?v29) rfl (by kernel_rfl) (by kernel_rfl) (by kernel_rfl) (fun _ _ _ h => h) (Or.inl ⟨by rfl, ?h29⟩) hS ?_
                case h29 => (intro W hW; go_simp; try (with_reducible rfl))
                go_simp
                refine wpAnyH_take (i := 13) (v := ?v30) rfl (by kernel_rfl) (by kernel_rfl) (by kernel_rfl) (fun _ _ _ h => h) (Or.inl ⟨by rfl, ?h30⟩) hS ?_
                case h30 => (intro W hW; go_simp; try (with_reducible rfl))
                go_simp
                refine wpAnyH_take (i := 14) (v := ?v31) rfl (by kernel_rfl) (by kernel_rfl) (by kernel_rfl) (fun _ _ _ h => h) (Or.inl ⟨by rfl, ?h31⟩) hS ?_
                case h31 => (intro W hW; go_simp; try (with_reducible rfl))
                go_simp
                refine wpAnyH_take (i := 15) (v := ?v32) rfl (by kernel_rfl) (by kernel_rfl) (by kernel_rfl) (fun _ _ _ h => h) (Or.inl ⟨by rfl, ?h32⟩) hS ?_
                case h32 => (intro W hW; obtain ⟨⟨a0, a1, a2, a3, a4, a5, a6⟩, _⟩ := HC.out W hW; go_simp; try (with_reducible rfl))
                go_simp
                refine wpAnyH_ready (rs := [10]) (by kernel_rfl) (by simp) ?_
                refine AllReadyH.cons rfl (fun K hK => ?_) ?_
                · go_simp
                  go_wp2_with fail
                  obtain ⟨P, P2, v2, D, Q, rel, dis, u1, u2, l1, l2, l3, l4⟩ := HPd.out
                  replace D := hid D; replace Q := hid Q; replace rel := hid rel; replace dis := hid dis; replace u1 := hid u1; replace u2 := hid u2; replace l1 := hid l1; replace l2 := hid l2; replace l3 := hid l3; replace l4 := hid l4
                  obtain ⟨_, xo, xn, xt⟩ := HC.out D_ hS
                  refine (Qk.does_any x D_ D.out l3.out (by omega) xo xn xt).mono ?_
                  rintro e y5 ⟨c, rfl, Q5⟩
                  have F5 : Hid (Fr P D_ y5) := by obtain ⟨_, _, _, F, _⟩ := Q5; exact F
                  replace Q5 := hid Q5
                  clear xo xn xt
                  refine hK.out _ _ (hS.trans (Dd.Fr.low F5.out n0 hnD.out (fun j hj => Nat.le_trans l1.out (D.out.low j hj).1))) (fun hS => ?_)
                  clear hK K
                  refine wpAnyH_ready (rs := [16]) (by kernel_rfl) (by simp) ?_
                  refine AllReadyH.cons rfl (fun K hK => ?_) ?_
                  · go_simp
                    go_wp2_with fail
                    obtain ⟨_, xo, xn, xt⟩ := HC.out y5 hS
                    refine (done_any x y5 (Q.out.fr F5.out (fun j h2 h1 => dis.out j h1 h2)) (Rel.ok rel.out D.out.ok (Dh.nodup D.out) D.out.mem.lasts) (Nat.le_trans l4.out F5.out.size) (by rw [← rel.out.rf]; omega) xo xn xt (fun y hy h0 hp => by have := hkb.out y hy h0; have := (Q.out.low _ hp).1; have := l2.out; omega)).mono ?_
                    rintro e y16 ⟨c2, rfl, hc2, T11⟩
                    obtain ⟨hcc, S', U', HP', hrf2, FU, hUU, hUL⟩ := Pair.step (n0 := n0) D.out Q.out rel.out dis.out u1.out u2.out l1.out l2.out l3.out l4.out hzs.out Q5.out T11
                    replace hcc := hcc.trans hc2.symm
                    clear hc2
                    subst hcc
                    have HB' : Hid (Below n0 w y16) := fr_low HBd.out hnD.out FU (fun j hj => (HUb.out j hj).1)
                    have HUn : Hid (∀ j, U' j → n0 ≤ j ∧ j < y16.heap.size) := fun j hj => by
                      refine ⟨?_, hUL j hj⟩
                      rcases hUU j hj with h | h
                      · exact (HUb.out j h).1
                      · exact Nat.le_trans hnD.out h
                    have hsz := FU.size
                    have HUo' : Hid (∀ j, U j → n0 ≤ j ∧ j < y16.heap.size) := fun j h => ⟨(HUa.out j h).1, Nat.lt_of_lt_of_le (HUa.out j h).2 (by have := hsD.out; omega)⟩
                    have HPo' : Hid (Pair y16 n0 nd nb g b nb S R U) := HPo.out.kept (fun j hj hu => FU.block j hj (fun hm => HUV.out j hu hm)) hsz
                    have HUV' : Hid (∀ j, U j → ¬ U' j) := fun j h1 h2 => by
                      rcases hUU j h2 with h | h
                      · exact HUV.out j h1 h
                      · have := (HUa.out j h1).2; have := hsD.out; omega
                    replace HP' := hid HP'
                    clear xo xn xt T11 Q5 F5 FU hUU hUL hsz D Q rel dis u1 u2 l1 l2 l3 l4
                    refine hK.out _ _ HB'.out (fun hS => ?_)
                    clear hK K
                    refine wpAnyH_take (i := 17) (v := ?v33) rfl (by kernel_rfl) (by kernel_rfl) (by kernel_rfl) (fun _ _ _ h => h) (Or.inl ⟨by rfl, ?h33⟩) hS ?_
                    case h33 => (intro W hW; go_simp; try (with_reducible rfl))
                    go_simp
                    refine wpAnyH_take (i := 18) (v := ?v34) rfl (by kernel_rfl) (by kernel_rfl) (by kernel_rfl) (fun _ _ _ h => h) (Or.inl ⟨by rfl, ?h34⟩) hS ?_
                    case h34 => (intro W hW; go_simp; try (with_reducible rfl))
                    go_simp
                    refine wpAnyH_done (by kernel_rfl) ?_ _
                    clear hS HBd HPd HPo hzs hkb hnD hsD hnw HUb HUa HUV
                    have hnw : Hid (n0 ≤ y16.heap.size) := by show _ ≤ _; rw [hn0.out]; exact HB'.out.size
                    have HB := HB'
                    have HPb := HP'
                    have HPa := HPo'
                    have HUb := HUn
                    have HUa := HUo'
                    have HUV := HUV'
                    clear HB' HP' HPo' HUn HUo' HUV' HC
                    have hnr : S'.rf ≤ (len : Int) + k + 1 := by omega
                    clear hr2 hrf2
                    have hr2 := hnr
                    clear hnr
                    generalize (stepR x R2).1 = Rn at *
                    clear wr
                    obtain ⟨wr, hsw⟩ : ∃ W, W = y16 := ⟨_, rfl⟩
                    subst hsw
                    clear S2 R2 V
                    obtain ⟨S2, hsw⟩ : ∃ Z, Z = S' := ⟨_, rfl⟩
                    subst hsw
                    obtain ⟨R2, hsw⟩ : ∃ Z, Z = Rn := ⟨_, rfl⟩
                    subst hsw
                    obtain ⟨V, hsw⟩ : ∃ Z, Z = U' := ⟨_, rfl⟩
                    subst hsw
                    obtain ⟨Pa, P2a, va, Da, Qa_, rela, _, _, _, _, _, _, _⟩ := HPa.out
                    obtain ⟨Pb, P2b, vb, Db, Qb_, relb, _, _, _, _, _, _, _⟩ := HPb.out
                    have oka := Rel.ok rela Da.ok (Dh.nodup Da) Da.mem.lasts
                    have okb := Rel.ok relb Db.ok (Dh.nodup Db) Db.mem.lasts
                    have ALK := rela.cor.alike relb.cor (Dh.nodup Da) (Dh.nodup Db)
                    have ALK2 := relb.cor.alike rela.cor (Dh.nodup Db) (Dh.nodup Da)
                    obtain ⟨z, hz⟩ : ∃ z : Bool, z = true ↔ R.rs = R2.rs := by
                      by_cases e : R.rs = R2.rs
                      · exact ⟨true, fun _ => e, fun _ => rfl⟩
                      · exact ⟨false, fun h => (by cases h), fun h => absurd h e⟩
                    have E1 : Hid (∀ W, Below wr.heap.size wr W → Calls Try.prog 16 #[.pointer (some ⟨g, 0, none⟩), .pointer (some ⟨gc, 0, none⟩)] W fun e w' => e = .returned (.bool z) ∧ Below W.heap.size W w') := fun W bW => by
                      refine (Sn.same_any W (Da.later bW) (Db.later bW)).mono ?_
                      rintro e w' ⟨z', rfl, hz', bb⟩
                      have : z' = z := Bool.eq_iff_iff.2 (hz'.trans (ALK.trans hz.symm))
                      rw [this]; exact ⟨rfl, bb⟩
                    have E2 : Hid (∀ W, Below wr.heap.size wr W → Calls Try.prog 16 #[.pointer (some ⟨gc, 0, none⟩), .pointer (some ⟨g, 0, none⟩)] W fun e w' => e = .returned (.bool z) ∧ Below W.heap.size W w') := fun W bW => by
                      refine (Sn.same_any W (Db.later bW) (Da.later bW)).mono ?_
                      rintro e w' ⟨z', rfl, hz', bb⟩
                      have : z' = z := Bool.eq_iff_iff.2 (hz'.trans (ALK2.trans (Iff.trans ⟨Eq.symm, Eq.symm⟩ hz.symm)))
                      rw [this]; exact ⟨rfl, bb⟩
                    have E3 : Hid (∀ W, Below wr.heap.size wr W → Calls Try.prog 17 #[.pointer (some ⟨nb, 0, none⟩), .pointer (some ⟨brc, 0, none⟩)] W fun e w' => e = .returned (.bool z) ∧ Below W.heap.size W w') := fun W bW => Qo.rsame_any z hz W (Qa_.later bW) (Qb_.later bW) oka okb
                    replace hz := hid hz
                    clear Da Qa_ rela Db Qb_ relb oka okb ALK ALK2
                    go_wp2_with fail
                    refine (E1.out wr (Below.refl _ _)).mono ?_
                    rintro e z1 ⟨rfl, c1⟩
                    replace c1 := hid c1
                    go_wp2_with fail
                    refine (E3.out z1 c1.out).mono ?_
                    rintro e z2 ⟨rfl, c2⟩
                    have d2 : Hid (Below wr.heap.size wr z2) := c1.out.trans (c2.mono c1.out.size)
                    clear c2
                    have hzz : (z == z) = true := by simp
                    go_wp2_with fail
                    refine (E2.out z2 d2.out).mono ?_
                    rintro e z3 ⟨rfl, c3⟩
                    have d3 : Hid (Below wr.heap.size wr z3) := d2.out.trans (c3.mono d2.out.size)
                    clear c3
                    go_wp2_with fail
                    refine (E3.out z3 d3.out).mono ?_
                    rintro e z4 ⟨rfl, c4⟩
                    have d4 : Hid (Below wr.heap.size wr z4) := d3.out.trans (c4.mono d3.out.size)
                    have G1 := hid (HPa.out.later d4.out)
                    have G2 := hid (HPb.out.later d4.out)
                    have G3 : Hid (Below n0 w z4) := HB.out.trans (d4.out.mono hnw.out)
                    have G4 : Hid (∀ j, U j → n0 ≤ j ∧ j < z4.heap.size) := fun j h => ⟨(HUa.out j h).1, Nat.lt_of_lt_of_le (HUa.out j h).2 d4.out.size⟩
                    have G5 : Hid (∀ j, V j → n0 ≤ j ∧ j < z4.heap.size) := fun j h => ⟨(HUb.out j h).1, Nat.lt_of_lt_of_le (HUb.out j h).2 d4.out.size⟩
                    clear c4 d4 d3 d2 c1 E1 E2 E3 HPa HPb HB HUa HUb hnw
                    go_wp2_with fail
                    refine ⟨⟨k + 1, S, R, U, S2, R2, V, by first | rfl | go_num, by omega, by omega, by omega, G1, G2, G3, G4, G5, HUV⟩, ?_⟩
                    simp only [intOf]; omega
                  exact AllReadyH.nil
                exact AllReadyH.nil
              · have jo : ¬ (k : Int) < (lo_ : Int) := by omega
                go_wp2_with fail
                have HPa' := hid (HPa.out.later ((Below.refl wr.heap.size wr).drew))
                have HPb' := hid (HPb.out.later ((Below.refl wr.heap.size wr).drew))
                have HB' : Hid (Below n0 w (World.drew wr)) := HB.out.drew
                have HUa' : Hid (∀ j, U j → n0 ≤ j ∧ j < (World.drew wr).heap.size) := HUa
                have HUb' : Hid (∀ j, V j → n0 ≤ j ∧ j < (World.drew wr).heap.size) := HUb
                have hnw' : Hid (n0 ≤ (World.drew wr).heap.size) := hnw
                clear HPa HPb HB HUa HUb hnw
                refine wp_region_any (by kernel_rfl) ?_
                change wpAny _ _ _ _ _ _ _ (World.drew _)
                generalize World.drew wr = D_ at *
                refine wpAny_take (i := 0) (v := ?v35) rfl (by kernel_rfl) (by kernel_rfl) (by kernel_rfl) (fun _ _ _ h => h) (Or.inl ⟨by rfl, ?h35⟩) ?_
                case h35 => (intro w; go_simp; try (with_reducible rfl))
                go_simp
                refine wpAny_take (i := 1) (v := ?v36) rfl (by kernel_rfl) (by kernel_rfl) (by kernel_rfl) (fun _ _ _ h => h) (Or.inl ⟨by rfl, ?h36⟩) ?_
                case h36 => (intro w; go_simp; try (with_reducible rfl))
                go_simp
                refine wpAny_take (i := 2) (v := ?v37) rfl (by kernel_rfl) (by kernel_rfl) (by kernel_rfl) (fun _ _ _ h => h) (Or.inl ⟨by rfl, ?h37⟩) ?_
                case h37 => (intro w; go_simp; try (with_reducible rfl))
                go_simp
                refine wpAny_take (i := 3) (v := ?v38) rfl (by kernel_rfl) (by kernel_rfl) (by kernel_rfl) (fun _ _ _ h => h) (Or.inl ⟨by rfl, ?h38⟩) ?_
                case h38 => (intro w; go_simp; try (with_reducible rfl))
                go_simp
                refine wpAny_take (i := 4) (v := ?v39) rfl (by kernel_rfl) (by kernel_rfl) (by kernel_rfl) (fun _ _ _ h => h) (Or.inl ⟨by rfl, ?h39⟩) ?_
                case h39 => (intro w; go_simp; try (with_reducible rfl))
                go_simp
                refine wpAny_take (i := 5) (v := undef) rfl (by kernel_rfl) (by kernel_rfl) (by kernel_rfl) (fun _ _ _ h => h) (Or.inr ⟨by rfl, rfl⟩) ?_
                go_simp
                refine wpAny_take (i := 6) (v := undef) rfl (by kernel_rfl) (by kernel_rfl) (by kernel_rfl) (fun _ _ _ h => h) (Or.inr ⟨by rfl, rfl⟩) ?_
                go_simp
                refine wpAny_take (i := 7) (v := undef) rfl (by kernel_rfl) (by kernel_rfl) (by kernel_rfl) (fun _ _ _ h => h) (Or.inr ⟨by rfl, rfl⟩) ?_
                go_simp
                refine wpAny_take (i := 8) (v := undef) rfl (by kernel_rfl) (by kernel_rfl) (by kernel_rfl) (fun _ _ _ h => h) (Or.inr ⟨by rfl, rfl⟩) ?_
                go_simp
                refine wpAny_take (i := 9) (v := undef) rfl (by kernel_rfl) (by kernel_rfl) (by kernel_rfl) (fun _ _ _ h => h) (Or.inr ⟨by rfl, rfl⟩) ?_
                go_simp
                refine wpAny_take (i := 10) (v := undef) rfl (by kernel_rfl) (by kernel_rfl) (by kernel_rfl) (fun _ _ _ h => h) (Or.inr ⟨by rfl, rfl⟩) ?_
                go_simp
                refine wpAny_take (i := 11) (v := undef) rfl (by kernel_rfl) (by kernel_rfl) (by kernel_rfl) (fun _ _ _ h => h) (Or.inr ⟨by rfl, rfl⟩) ?_
                go_simp
                refine wpAny_take (i := 12) (v := undef) rfl (by kernel_rfl) (by kernel_rfl) (by kernel_rfl) (fun _ _ _ h => h) (Or.inr ⟨by rfl, rfl⟩) ?_
                go_simp
                refine wpAny_take (i := 13) (v := undef) rfl (by kernel_rfl) (by kernel_rfl) (by kernel_rfl) (fun _ _ _ h => h) (Or.inr ⟨by rfl, rfl⟩) ?_
                go_simp
                refine wpAny_take (i := 14) (v := undef) rfl (by kernel_rfl) (by kernel_rfl) (by kernel_rfl) (fun _ _ _ h => h) (Or.inr ⟨by rfl, rfl⟩) ?_
                go_simp
                refine wpAny_take (i := 15) (v := undef) rfl (by kernel_rfl) (by kernel_rfl) (by kernel_rfl) (fun _ _ _ h => h) (Or.inr ⟨by rfl, rfl⟩) ?_
                go_simp
                refine wpAny_take (i := 16) (v := undef) rfl (by kernel_rfl) (by kernel_rfl) (by kernel_rfl) (fun _ _ _ h => h) (Or.inr ⟨by rfl, rfl⟩) ?_
                go_simp
                refine wpAny_take (i := 17) (v := undef) rfl (by kernel_rfl) (by kernel_rfl) (by kernel_rfl) (fun _ _ _ h => h) (Or.inr ⟨by rfl, rfl⟩) ?_
                go_simp
                refine wpAny_take (i := 18) (v := ?v40) rfl (by kernel_rfl) (by kernel_rfl) (by kernel_rfl) (fun _ _ _ h => h) (Or.inl ⟨by rfl, ?h40⟩) ?_
                case h40 => (intro w; go_simp; try (with_reducible rfl))
                go_simp
                refine wpAny_done (by kernel_rfl) ?_ _
                have HPa := HPa'
                have HPb := HPb'
                have HB := HB'
                have HUa := HUa'
                have HUb := HUb'
                have hnw := hnw'
                clear HPa' HPb' HB' HUa' HUb' hnw' wr
                obtain ⟨wr, hsw⟩ : ∃ W, W = D_ := ⟨_, rfl⟩
                subst hsw
                obtain ⟨Pa, P2a, va, Da, Qa_, rela, _, _, _, _, _, _, _⟩ := HPa.out
                obtain ⟨Pb, P2b, vb, Db, Qb_, relb, _, _, _, _, _, _, _⟩ := HPb.out
                have oka := Rel.ok rela Da.ok (Dh.nodup Da) Da.mem.lasts
                have okb := Rel.ok relb Db.ok (Dh.nodup Db) Db.mem.lasts
                have ALK := rela.cor.alike relb.cor (Dh.nodup Da) (Dh.nodup Db)
                have ALK2 := relb.cor.alike rela.cor (Dh.nodup Db) (Dh.nodup Da)
                obtain ⟨z, hz⟩ : ∃ z : Bool, z = true ↔ R.rs = R2.rs := by
                  by_cases e : R.rs = R2.rs
                  · exact ⟨true, fun _ => e, fun _ => rfl⟩
                  · exact ⟨false, fun h => (by cases h), fun h => absurd h e⟩
                have E1 : Hid (∀ W, Below wr.heap.size wr W → Calls Try.prog 16 #[.pointer (some ⟨g, 0, none⟩), .pointer (some ⟨gc, 0, none⟩)] W fun e w' => e = .returned (.bool z) ∧ Below W.heap.size W w') := fun W bW => by
                  refine (Sn.same_any W (Da.later bW) (Db.later bW)).mono ?_
                  rintro e w' ⟨z', rfl, hz', bb⟩
                  have : z' = z := Bool.eq_iff_iff.2 (hz'.trans (ALK.trans hz.symm))
                  rw [this]; exact ⟨rfl, bb⟩
                have E2 : Hid (∀ W, Below wr.heap.size wr W → Calls Try.prog 16 #[.pointer (some ⟨gc, 0, none⟩), .pointer (some ⟨g, 0, none⟩)] W fun e w' => e = .returned (.bool z) ∧ Below W.heap.size W w') := fun W bW => by
                  refine (Sn.same_any W (Db.later bW) (Da.later bW)).mono ?_
                  rintro e w' ⟨z', rfl, hz', bb⟩
                  have : z' = z := Bool.eq_iff_iff.2 (hz'.trans (ALK2.trans (Iff.trans ⟨Eq.symm, Eq.symm⟩ hz.symm)))
                  rw [this]; exact ⟨rfl, bb⟩
                have E3 : Hid (∀ W, Below wr.heap.size wr W → Calls Try.prog 17 #[.pointer (some ⟨nb, 0, none⟩), .pointer (some ⟨brc, 0, none⟩)] W fun e w' => e = .returned (.bool z) ∧ Below W.heap.size W w') := fun W bW => Qo.rsame_any z hz W (Qa_.later bW) (Qb_.later bW) oka okb
                replace hz := hid hz
                clear Da Qa_ rela Db Qb_ relb oka okb ALK ALK2
                go_wp2_with fail
                refine (E1.out wr (Below.refl _ _)).mono ?_
                rintro e z1 ⟨rfl, c1⟩
                replace c1 := hid c1
                go_wp2_with fail
                refine (E3.out z1 c1.out).mono ?_
                rintro e z2 ⟨rfl, c2⟩
                have d2 : Hid (Below wr.heap.size wr z2) := c1.out.trans (c2.mono c1.out.size)
                clear c2
                have hzz : (z == z) = true := by simp
                go_wp2_with fail
                refine (E2.out z2 d2.out).mono ?_
                rintro e z3 ⟨rfl, c3⟩
                have d3 : Hid (Below wr.heap.size wr z3) := d2.out.trans (c3.mono d2.out.size)
                clear c3
                go_wp2_with fail
                refine (E3.out z3 d3.out).mono ?_
                rintro e z4 ⟨rfl, c4⟩
                have d4 : Hid (Below wr.heap.size wr z4) := d3.out.trans (c4.mono d3.out.size)
                have G1 := hid (HPa.out.later d4.out)
                have G2 := hid (HPb.out.later d4.out)
                have G3 : Hid (Below n0 w z4) := HB.out.trans (d4.out.mono hnw.out)
                have G4 : Hid (∀ j, U j → n0 ≤ j ∧ j < z4.heap.size) := fun j h => ⟨(HUa.out j h).1, Nat.lt_of_lt_of_le (HUa.out j h).2 d4.out.size⟩
                have G5 : Hid (∀ j, V j → n0 ≤ j ∧ j < z4.heap.size) := fun j h => ⟨(HUb.out j h).1, Nat.lt_of_lt_of_le (HUb.out j h).2 d4.out.size⟩
                clear c4 d4 d3 d2 c1 E1 E2 E3 HPa HPb HB HUa HUb hnw
                go_wp2_with fail
                refine ⟨⟨k + 1, S, R, U, S2, R2, V, by first | rfl | go_num, by omega, by omega, by omega, G1, G2, G3, G4, G5, HUV⟩, ?_⟩
                simp only [intOf]; omega
            exact AllReadyH.nil
          exact AllReadyH.nil
        · have jm : ¬ (k : Int) < (lm : Int) := by omega
          by_cases ho : k < lo_
          · have jo : (k : Int) < (lo_ : Int) := by omega
            go_wp2_with fail
            have HPa' := hid (HPa.out.later ((Below.refl wr.heap.size wr).drew))
            have HPb' := hid (HPb.out.later ((Below.refl wr.heap.size wr).drew))
            have HB' : Hid (Below n0 w (World.drew wr)) := HB.out.drew
            have HUa' : Hid (∀ j, U j → n0 ≤ j ∧ j < (World.drew wr).heap.size) := HUa
            have HUb' : Hid (∀ j, V j → n0 ≤ j ∧ j < (World.drew wr).heap.size) := HUb
            have hnw' : Hid (n0 ≤ (World.drew wr).heap.size) := hnw
            clear HPa HPb HB HUa HUb hnw
            refine wp_region_any (by kernel_rfl) ?_
            change wpAny _ _ _ _ _ _ _ (World.drew _)
            generalize World.drew wr = D_ at *
            refine wpAny_take (i := 0) (v := ?v41) rfl (by kernel_rfl) (by kernel_rfl) (by kernel_rfl) (fun _ _ _ h => h) (Or.inl ⟨by rfl, ?h41⟩) ?_
            case h41 => (intro w; go_simp; try (with_reducible rfl))
            go_simp
            refine wpAny_take (i := 1) (v := ?v42) rfl (by kernel_rfl) (by kernel_rfl) (by kernel_rfl) (fun _ _ _ h => h) (Or.inl ⟨by rfl, ?h42⟩) ?_
            case h42 => (intro w; go_simp; try (with_reducible rfl))
            go_simp
            refine wpAny_take (i := 2) (v := ?v43) rfl (by kernel_rfl) (by kernel_rfl) (by kernel_rfl) (fun _ _ _ h => h) (Or.inl ⟨by rfl, ?h43⟩) ?_
            case h43 => (intro w; go_simp; try (with_reducible rfl))
            go_simp
            refine wpAny_take (i := 3) (v := ?v44) rfl (by kernel_rfl) (by kernel_rfl) (by kernel_rfl) (fun _ _ _ h => h) (Or.inl ⟨by rfl, ?h44⟩) ?_
            case h44 => (intro w; go_simp; try (with_reducible rfl))
            go_simp
            refine wpAny_take (i := 4) (v := ?v45) rfl (by kernel_rfl) (by kernel_rfl) (by kernel_rfl) (fun _ _ _ h => h) (Or.inl ⟨by rfl, ?h45⟩) ?_
            case h45 => (intro w; go_simp; try (with_reducible rfl))
            go_simp
            refine wpAny_take (i := 5) (v := undef) rfl (by kernel_rfl) (by kernel_rfl) (by kernel_rfl) (fun _ _ _ h => h) (Or.inr ⟨by rfl, rfl⟩) ?_
            go_simp
            refine wpAny_take (i := 6) (v := undef) rfl (by kernel_rfl) (by kernel_rfl) (by kernel_rfl) (fun _ _ _ h => h) (Or.inr ⟨by rfl, rfl⟩) ?_
            go_simp
            refine wpAny_take (i := 7) (v := undef) rfl (by kernel_rfl) (by kernel_rfl) (by kernel_rfl) (fun _ _ _ h => h) (Or.inr ⟨by rfl, rfl⟩) ?_
            go_simp
            refine wpAny_take (i := 8) (v := undef) rfl (by kernel_rfl) (by kernel_rfl) (by kernel_rfl) (fun _ _ _ h => h) (Or.inr ⟨by rfl, rfl⟩) ?_
            go_simp
            refine wpAny_take (i := 9) (v := undef) rfl (by kernel_rfl) (by kernel_rfl) (by kernel_rfl) (fun _ _ _ h => h) (Or.inr ⟨by rfl, rfl⟩) ?_
            go_simp
            refine wpAny_take (i := 10) (v := undef) rfl (by kernel_rfl) (by kernel_rfl) (by kernel_rfl) (fun _ _ _ h => h) (Or.inr ⟨by rfl, rfl⟩) ?_
            go_simp
            refine wpAny_take (i := 11) (v := undef) rfl (by kernel_rfl) (by kernel_rfl) (by kernel_rfl) (fun _ _ _ h => h) (Or.inr ⟨by rfl, rfl⟩) ?_
            go_simp
            refine wpAny_take (i := 12) (v := undef) rfl (by kernel_rfl) (by kernel_rfl) (by kernel_rfl) (fun _ _ _ h => h) (Or.inr ⟨by rfl, rfl⟩) ?_
            go_simp
            refine wpAny_take (i := 13) (v := undef) rfl (by kernel_rfl) (by kernel_rfl) (by kernel_rfl) (fun _ _ _ h => h) (Or.inr ⟨by rfl, rfl⟩) ?_
            go_simp
            refine wpAny_take (i := 14) (v := undef) rfl (by kernel_rfl) (by kernel_rfl) (by kernel_rfl) (fun _ _ _ h => h) (Or.inr ⟨by rfl, rfl⟩) ?_
            go_simp
            refine wpAny_take (i := 15) (v := undef) rfl (by kernel_rfl) (by kernel_rfl) (by kernel_rfl) (fun _ _ _ h => h) (Or.inr ⟨by rfl, rfl⟩) ?_
            go_simp
            refine wpAny_take (i := 16) (v := undef) rfl (by kernel_rfl) (by kernel_rfl) (by kernel_rfl) (fun _ _ _ h => h) (Or.inr ⟨by rfl, rfl⟩) ?_
            go_simp
            refine wpAny_take (i := 17) (v := undef) rfl (by kernel_rfl) (by kernel_rfl) (by kernel_rfl) (fun _ _ _ h => h) (Or.inr ⟨by rfl, rfl⟩) ?_
            go_simp
            refine wpAny_take (i := 18) (v := ?v46) rfl (by kernel_rfl) (by kernel_rfl) (by kernel_rfl) (fun _ _ _ h => h) (Or.inl ⟨by rfl, ?h46⟩) ?_
            case h46 => (intro w; go_simp; try (with_reducible rfl))
            go_simp
            refine wpAny_done (by kernel_rfl) ?_ _
            have HPa := HPa'
            have HPb := HPb'
            have HB := HB'
            have HUa := HUa'
            have HUb := HUb'
            have hnw := hnw'
            clear HPa' HPb' HB' HUa' HUb' hnw' wr
            obtain ⟨wr, hsw⟩ : ∃ W, W = D_ := ⟨_, rfl⟩
            subst hsw
            go_wp2_with fail
            obtain ⟨ab, ao, x, hab, HCx, hzs, hkb⟩ := act_at hn0.out HO.out k ho
            have HC : Hid (∀ W, Below n0 w W → (W.cell? ⟨ab, ao + k * 7, none⟩ = some (.int .i64 x.kind) ∧ W.cell? ⟨ab, ao + k * 7 + 1, none⟩ = some (.string x.name) ∧ W.cell? ⟨ab, ao + k * 7 + 2, none⟩ = some (.string x.to) ∧ W.cell? ⟨ab, ao + k * 7 + 3, none⟩ = some (.slice x.ba x.bl x.bc) ∧ W.cell? ⟨ab, ao + k * 7 + 4, none⟩ = some (.int .i64 x.at_) ∧ W.cell? ⟨ab, ao + k * 7 + 5, none⟩ = some (.int .i64 x.n) ∧ W.cell? ⟨ab, ao + k * 7 + 6, none⟩ = some (.slice x.ka x.kl x.kc)) ∧ x.ok W ∧ x.name.size ≤ 9223372036854775807 ∧ x.to.size ≤ 9223372036854775807) := HCx
            replace hzs := hid hzs
            replace hkb := hid hkb
            clear HCx
            subst hab
            have HPd := hid (HPb.out.later ((Below.refl wr.heap.size wr).drew))
            have HPo := hid (HPa.out.later ((Below.refl wr.heap.size wr).drew))
            have HBd : Hid (Below n0 w (World.drew wr)) := HB.out.drew
            have hnD : Hid (n0 ≤ (World.drew wr).heap.size) := hnw
            have hsD : Hid ((World.drew wr).heap.size = wr.heap.size) := rfl
            clear HPa HPb HB
            refine wp_region_held_drew (S := fun W => Below n0 w W) (by kernel_rfl) (HBd.out) (fun hS => ?_)
            generalize World.drew wr = D_ at *
            refine wpAnyH_take (i := 0) (v := ?v47) rfl (by kernel_rfl) (by kernel_rfl) (by kernel_rfl) (fun _ _ _ h => h) (Or.inl ⟨by rfl, ?h47⟩) hS ?_
            case h47 => (intro W hW; go_simp; try (with_reducible rfl))
            go_simp
            refine wpAnyH_take (i := 1) (v := ?v48) rfl (by kernel_rfl) (by kernel_rfl) (by kernel_rfl) (fun _ _ _ h => h) (Or.inl ⟨by rfl, ?h48⟩) hS ?_
            case h48 => (intro W hW; go_simp; try (with_reducible rfl))
            go_simp
            refine wpAnyH_take (i := 2) (v := ?v49) rfl (by kernel_rfl) (by kernel_rfl) (by kernel_rfl) (fun _ _ _ h => h) (Or.inl ⟨by rfl, ?h49⟩) hS ?_
            case h49 => (intro W hW; go_simp; try (with_reducible rfl))
            go_simp
            refine wpAnyH_take (i := 3) (v := ?v50) rfl (by kernel_rfl) (by kernel_rfl) (by kernel_rfl) (fun _ _ _ h => h) (Or.inl ⟨by rfl, ?h50⟩) hS ?_
            case h50 => (intro W hW; go_simp; try (with_reducible rfl))
            go_simp
            refine wpAnyH_take (i := 4) (v := ?v51) rfl (by kernel_rfl) (by kernel_rfl) (by kernel_rfl) (fun _ _ _ h => h) (Or.inl ⟨by rfl, ?h51⟩) hS ?_
            case h51 => (intro W hW; go_simp; try (with_reducible rfl))
            go_simp
            refine wpAnyH_take (i := 5) (v := ?v52) rfl (by kernel_rfl) (by kernel_rfl) (by kernel_rfl) (fun _ _ _ h => h) (Or.inl ⟨by rfl, ?h52⟩) hS ?_
            case h52 => (intro W hW; go_simp; try (with_reducible rfl))
            go_simp
            refine wpAnyH_take (i := 6) (v := ?v53) rfl (by kernel_rfl) (by kernel_rfl) (by kernel_rfl) (fun _ _ _ h => h) (Or.inl ⟨by rfl, ?h53⟩) hS ?_
            case h53 => (intro W hW; go_simp; try (with_reducible rfl))
            go_simp
            refine wpAnyH_take (i := 7) (v := ?v54) rfl (by kernel_rfl) (by kernel_rfl) (by kernel_rfl) (fun _ _ _ h => h) (Or.inl ⟨by rfl, ?h54⟩) hS ?_
            case h54 => (intro W hW; go_simp; try (with_reducible rfl))
            go_simp
            refine wpAnyH_take (i := 8) (v := ?v55) rfl (by kernel_rfl) (by kernel_rfl) (by kernel_rfl) (fun _ _ _ h => h) (Or.inl ⟨by rfl, ?h55⟩) hS ?_
            case h55 => (intro W hW; go_simp; try (with_reducible rfl))
            go_simp
            refine wpAnyH_take (i := 9) (v := ?v56) rfl (by kernel_rfl) (by kernel_rfl) (by kernel_rfl) (fun _ _ _ h => h) (Or.inl ⟨by rfl, ?h56⟩) hS ?_
            case h56 => (intro W hW; obtain ⟨⟨a0, a1, a2, a3, a4, a5, a6⟩, _⟩ := HC.out W hW; go_simp; try (with_reducible rfl))
            go_simp
            refine wpAnyH_take (i := 11) (v := ?v57) rfl (by kernel_rfl) (by kernel_rfl) (by kernel_rfl) (fun _ _ _ h => h) (Or.inl ⟨by rfl, ?h57⟩) hS ?_
            case h57 => (intro W hW; go_simp; try (with_reducible rfl))
            go_simp
            refine wpAnyH_take (i := 12) (v := ?v58) rfl (by kernel_rfl) (by kernel_rfl) (by kernel_rfl) (fun _ _ _ h => h) (Or.inl ⟨by rfl, ?h58⟩) hS ?_
            case h58 => (intro W hW; go_simp; try (with_reducible rfl))
            go_simp
            refine wpAnyH_take (i := 13) (v := ?v59) rfl (by kernel_rfl) (by kernel_rfl) (by kernel_rfl) (fun _ _ _ h => h) (Or.inl ⟨by rfl, ?h59⟩) hS ?_
            case h59 => (intro W hW; go_simp; try (with_reducible rfl))
            go_simp
            refine wpAnyH_take (i := 14) (v := ?v60) rfl (by kernel_rfl) (by kernel_rfl) (by kernel_rfl) (fun _ _ _ h => h) (Or.inl ⟨by rfl, ?h60⟩) hS ?_
            case h60 => (intro W hW; go_simp; try (with_reducible rfl))
            go_simp
            refine wpAnyH_take (i := 15) (v := ?v61) rfl (by kernel_rfl) (by kernel_rfl) (by kernel_rfl) (fun _ _ _ h => h) (Or.inl ⟨by rfl, ?h61⟩) hS ?_
            case h61 => (intro W hW; obtain ⟨⟨a0, a1, a2, a3, a4, a5, a6⟩, _⟩ := HC.out W hW; go_simp; try (with_reducible rfl))
            go_simp
            refine wpAnyH_ready (rs := [10]) (by kernel_rfl) (by simp) ?_
            refine AllReadyH.cons rfl (fun K hK => ?_) ?_
            · go_simp
              go_wp2_with fail
              obtain ⟨P, P2, v2, D, Q, rel, dis, u1, u2, l1, l2, l3, l4⟩ := HPd.out
              replace D := hid D; replace Q := hid Q; replace rel := hid rel; replace dis := hid dis; replace u1 := hid u1; replace u2 := hid u2; replace l1 := hid l1; replace l2 := hid l2; replace l3 := hid l3; replace l4 := hid l4
              obtain ⟨_, xo, xn, xt⟩ := HC.out D_ hS
              refine (Qk.does_any x D_ D.out l3.out (by omega) xo xn xt).mono ?_
              rintro e y5 ⟨c, rfl, Q5⟩
              have F5 : Hid (Fr P D_ y5) := by obtain ⟨_, _, _, F, _⟩ := Q5; exact F
              replace Q5 := hid Q5
              clear xo xn xt
              refine hK.out _ _ (hS.trans (Dd.Fr.low F5.out n0 hnD.out (fun j hj => Nat.le_trans l1.out (D.out.low j hj).1))) (fun hS => ?_)
              clear hK K
              refine wpAnyH_ready (rs := [16]) (by kernel_rfl) (by simp) ?_
              refine AllReadyH.cons rfl (fun K hK => ?_) ?_
              · go_simp
                go_wp2_with fail
                obtain ⟨_, xo, xn, xt⟩ := HC.out y5 hS
                refine (done_any x y5 (Q.out.fr F5.out (fun j h2 h1 => dis.out j h1 h2)) (Rel.ok rel.out D.out.ok (Dh.nodup D.out) D.out.mem.lasts) (Nat.le_trans l4.out F5.out.size) (by rw [← rel.out.rf]; omega) xo xn xt (fun y hy h0 hp => by have := hkb.out y hy h0; have := (Q.out.low _ hp).1; have := l2.out; omega)).mono ?_
                rintro e y16 ⟨c2, rfl, hc2, T11⟩
                obtain ⟨hcc, S', U', HP', hrf2, FU, hUU, hUL⟩ := Pair.step (n0 := n0) D.out Q.out rel.out dis.out u1.out u2.out l1.out l2.out l3.out l4.out hzs.out Q5.out T11
                replace hcc := hcc.trans hc2.symm
                clear hc2
                subst hcc
                have HB' : Hid (Below n0 w y16) := fr_low HBd.out hnD.out FU (fun j hj => (HUb.out j hj).1)
                have HUn : Hid (∀ j, U' j → n0 ≤ j ∧ j < y16.heap.size) := fun j hj => by
                  refine ⟨?_, hUL j hj⟩
                  rcases hUU j hj with h | h
                  · exact (HUb.out j h).1
                  · exact Nat.le_trans hnD.out h
                have hsz := FU.size
                have HUo' : Hid (∀ j, U j → n0 ≤ j ∧ j < y16.heap.size) := fun j h => ⟨(HUa.out j h).1, Nat.lt_of_lt_of_le (HUa.out j h).2 (by have := hsD.out; omega)⟩
                have HPo' : Hid (Pair y16 n0 nd nb g b nb S R U) := HPo.out.kept (fun j hj hu => FU.block j hj (fun hm => HUV.out j hu hm)) hsz
                have HUV' : Hid (∀ j, U j → ¬ U' j) := fun j h1 h2 => by
                  rcases hUU j h2 with h | h
                  · exact HUV.out j h1 h
                  · have := (HUa.out j h1).2; have := hsD.out; omega
                replace HP' := hid HP'
                clear xo xn xt T11 Q5 F5 FU hUU hUL hsz D Q rel dis u1 u2 l1 l2 l3 l4
                refine hK.out _ _ HB'.out (fun hS => ?_)
                clear hK K
                refine wpAnyH_take (i := 17) (v := ?v62) rfl (by kernel_rfl) (by kernel_rfl) (by kernel_rfl) (fun _ _ _ h => h) (Or.inl ⟨by rfl, ?h62⟩) hS ?_
                case h62 => (intro W hW; go_simp; try (with_reducible rfl))
                go_simp
                refine wpAnyH_take (i := 18) (v := ?v63) rfl (by kernel_rfl) (by kernel_rfl) (by kernel_rfl) (fun _ _ _ h => h) (Or.inl ⟨by rfl, ?h63⟩) hS ?_
                case h63 => (intro W hW; go_simp; try (with_reducible rfl))
                go_simp
                refine wpAnyH_done (by kernel_rfl) ?_ _
                clear hS HBd HPd HPo hzs hkb hnD hsD hnw HUb HUa HUV
                have hnw : Hid (n0 ≤ y16.heap.size) := by show _ ≤ _; rw [hn0.out]; exact HB'.out.size
                have HB := HB'
                have HPb := HP'
                have HPa := HPo'
                have HUb := HUn
                have HUa := HUo'
                have HUV := HUV'
                clear HB' HP' HPo' HUn HUo' HUV' HC
                have hnr : S'.rf ≤ (len : Int) + k + 1 := by omega
                clear hr2 hrf2
                have hr2 := hnr
                clear hnr
                generalize (stepR x R2).1 = Rn at *
                clear wr
                obtain ⟨wr, hsw⟩ : ∃ W, W = y16 := ⟨_, rfl⟩
                subst hsw
                clear S2 R2 V
                obtain ⟨S2, hsw⟩ : ∃ Z, Z = S' := ⟨_, rfl⟩
                subst hsw
                obtain ⟨R2, hsw⟩ : ∃ Z, Z = Rn := ⟨_, rfl⟩
                subst hsw
                obtain ⟨V, hsw⟩ : ∃ Z, Z = U' := ⟨_, rfl⟩
                subst hsw
                obtain ⟨Pa, P2a, va, Da, Qa_, rela, _, _, _, _, _, _, _⟩ := HPa.out
                obtain ⟨Pb, P2b, vb, Db, Qb_, relb, _, _, _, _, _, _, _⟩ := HPb.out
                have oka := Rel.ok rela Da.ok (Dh.nodup Da) Da.mem.lasts
                have okb := Rel.ok relb Db.ok (Dh.nodup Db) Db.mem.lasts
                have ALK := rela.cor.alike relb.cor (Dh.nodup Da) (Dh.nodup Db)
                have ALK2 := relb.cor.alike rela.cor (Dh.nodup Db) (Dh.nodup Da)
                obtain ⟨z, hz⟩ : ∃ z : Bool, z = true ↔ R.rs = R2.rs := by
                  by_cases e : R.rs = R2.rs
                  · exact ⟨true, fun _ => e, fun _ => rfl⟩
                  · exact ⟨false, fun h => (by cases h), fun h => absurd h e⟩
                have E1 : Hid (∀ W, Below wr.heap.size wr W → Calls Try.prog 16 #[.pointer (some ⟨g, 0, none⟩), .pointer (some ⟨gc, 0, none⟩)] W fun e w' => e = .returned (.bool z) ∧ Below W.heap.size W w') := fun W bW => by
                  refine (Sn.same_any W (Da.later bW) (Db.later bW)).mono ?_
                  rintro e w' ⟨z', rfl, hz', bb⟩
                  have : z' = z := Bool.eq_iff_iff.2 (hz'.trans (ALK.trans hz.symm))
                  rw [this]; exact ⟨rfl, bb⟩
                have E2 : Hid (∀ W, Below wr.heap.size wr W → Calls Try.prog 16 #[.pointer (some ⟨gc, 0, none⟩), .pointer (some ⟨g, 0, none⟩)] W fun e w' => e = .returned (.bool z) ∧ Below W.heap.size W w') := fun W bW => by
                  refine (Sn.same_any W (Db.later bW) (Da.later bW)).mono ?_
                  rintro e w' ⟨z', rfl, hz', bb⟩
                  have : z' = z := Bool.eq_iff_iff.2 (hz'.trans (ALK2.trans (Iff.trans ⟨Eq.symm, Eq.symm⟩ hz.symm)))
                  rw [this]; exact ⟨rfl, bb⟩
                have E3 : Hid (∀ W, Below wr.heap.size wr W → Calls Try.prog 17 #[.pointer (some ⟨nb, 0, none⟩), .pointer (some ⟨brc, 0, none⟩)] W fun e w' => e = .returned (.bool z) ∧ Below W.heap.size W w') := fun W bW => Qo.rsame_any z hz W (Qa_.later bW) (Qb_.later bW) oka okb
                replace hz := hid hz
                clear Da Qa_ rela Db Qb_ relb oka okb ALK ALK2
                go_wp2_with fail
                refine (E1.out wr (Below.refl _ _)).mono ?_
                rintro e z1 ⟨rfl, c1⟩
                replace c1 := hid c1
                go_wp2_with fail
                refine (E3.out z1 c1.out).mono ?_
                rintro e z2 ⟨rfl, c2⟩
                have d2 : Hid (Below wr.heap.size wr z2) := c1.out.trans (c2.mono c1.out.size)
                clear c2
                have hzz : (z == z) = true := by simp
                go_wp2_with fail
                refine (E2.out z2 d2.out).mono ?_
                rintro e z3 ⟨rfl, c3⟩
                have d3 : Hid (Below wr.heap.size wr z3) := d2.out.trans (c3.mono d2.out.size)
                clear c3
                go_wp2_with fail
                refine (E3.out z3 d3.out).mono ?_
                rintro e z4 ⟨rfl, c4⟩
                have d4 : Hid (Below wr.heap.size wr z4) := d3.out.trans (c4.mono d3.out.size)
                have G1 := hid (HPa.out.later d4.out)
                have G2 := hid (HPb.out.later d4.out)
                have G3 : Hid (Below n0 w z4) := HB.out.trans (d4.out.mono hnw.out)
                have G4 : Hid (∀ j, U j → n0 ≤ j ∧ j < z4.heap.size) := fun j h => ⟨(HUa.out j h).1, Nat.lt_of_lt_of_le (HUa.out j h).2 d4.out.size⟩
                have G5 : Hid (∀ j, V j → n0 ≤ j ∧ j < z4.heap.size) := fun j h => ⟨(HUb.out j h).1, Nat.lt_of_lt_of_le (HUb.out j h).2 d4.out.size⟩
                clear c4 d4 d3 d2 c1 E1 E2 E3 HPa HPb HB HUa HUb hnw
                go_wp2_with fail
                refine ⟨⟨k + 1, S, R, U, S2, R2, V, by first | rfl | go_num, by omega, by omega, by omega, G1, G2, G3, G4, G5, HUV⟩, ?_⟩
                simp only [intOf]; omega
              exact AllReadyH.nil
            exact AllReadyH.nil
          · have jo : ¬ (k : Int) < (lo_ : Int) := by omega
            have HKa : Hid (Calls Try.prog 13 #[.pointer (some ⟨g, 0, none⟩), .pointer (some ⟨nb, 0, none⟩), za.val] wr fun e w' => e = .returned (.bool true) ∧ Below wr.heap.size wr w') := by
              obtain ⟨Pa, P2a, va, Da, Qa_, rela, _⟩ := HPa.out
              exact Qm.looks_any za wr Da Qa_ rela (za_ok wr) (show (0 : Nat) ≤ 9223372036854775807 by omega)
            have HKb : Hid (∀ W, Below wr.heap.size wr W → Calls Try.prog 13 #[.pointer (some ⟨gc, 0, none⟩), .pointer (some ⟨brc, 0, none⟩), za.val] W fun e w' => e = .returned (.bool true) ∧ Below W.heap.size W w') := fun W bW => by
              obtain ⟨Pb, P2b, vb, Db, Qb_, relb, _⟩ := HPb.out.later bW
              exact Qm.looks_any za W Db Qb_ relb (za_ok W) (show (0 : Nat) ≤ 9223372036854775807 by omega)
            have HKc : Hid (∀ W, Below wr.heap.size wr W → Calls Try.prog 16 #[.pointer (some ⟨g, 0, none⟩), .pointer none] W fun e w' => e = .returned (.bool false) ∧ w' = W) := fun W bW => by
              obtain ⟨Pa, P2a, va, Da, _⟩ := HPa.out.later bW
              exact same_half W Da
            have BF : Hid (∀ W, Below wr.heap.size wr W → Below n0 w W) := fun W b => HB.out.trans (b.mono hnw.out)
            simp only [za, A.val, A.cells] at HKa HKb
            clear HPa HPb HB HUa HUb HUV hnw
            go_wp2_with fail
            refine HKa.out.mono ?_
            rintro e z1 ⟨rfl, c1⟩
            replace c1 := hid c1
            go_wp2_with fail
            refine (HKb.out z1 c1.out).mono ?_
            rintro e z2 ⟨rfl, c2⟩
            have d2 : Hid (Below wr.heap.size wr z2) := c1.out.trans (c2.mono c1.out.size)
            clear c2
            go_wp2_with fail
            refine (HKc.out z2 d2.out).mono ?_
            rintro e z3 ⟨rfl, hw⟩
            replace hw := hw.symm
            subst hw
            go_wp2_with fail
            refine (H3.out z2).mono ?_
            rintro e z3 ⟨rfl, hw⟩
            replace hw := hw.symm
            subst hw
            go_wp2_with fail
            go_ret
            exact ⟨rfl, BF.out _ d2.out⟩
end Go.Proofs.Ytgffojafdjcdoaa.Qq

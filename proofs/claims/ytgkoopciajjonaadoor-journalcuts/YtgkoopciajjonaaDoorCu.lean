/- JournalCuts walked. -/
import Derived.Test.YtgkoopciajjonaaDoorRx
namespace Go.Proofs.YtgkoopciajjonaaDoor.Cu
open Go.ChangeShapes Go.WideShapes Go.ChangeAt Go.RowKit
open Go.Proofs.YtgkoopciajjonaaDoor.Crc
open Go.Proofs.YtgkoopciajjonaaDoor.Jm
open Go.Proofs.YtgkoopciajjonaaDoor.Jn
open Go.Proofs.YtgkoopciajjonaaDoor.Ck
open Go.Proofs.YtgkoopciajjonaaDoor.Wt
open Go.Proofs.YtgkoopciajjonaaDoor.Wc
open Go.Proofs.YtgkoopciajjonaaDoor.Wa
open Go.Proofs.YtgkoopciajjonaaDoor.Rc
open Go.Proofs.YtgkoopciajjonaaDoor.Wn
open Go.Proofs.YtgkoopciajjonaaDoor.Vd (valid_any own_conv)
open Go.Proofs.YtgkoopciajjonaaDoor.Rr (pr)
open Go.Proofs.YtgkoopciajjonaaDoor.Re
open Go.Proofs.YtgkoopciajjonaaDoor.Rx
set_option linter.unusedVariables false
set_option linter.unusedSimpArgs false

theorem lst_take (E : List Nat) (Z : List (List Int)) (k : Nat) (hk : k ≤ E.length) (hl : E.length = Z.length) : lst ((E.zip Z).take k) = if k = 0 then 0 else E.getD (k - 1) 0 := by
  unfold lst
  cases k with
  | zero => simp
  | succ k =>
    have hz : (E.zip Z)[k]? = some (E[k]'(by omega), Z[k]'(by omega)) := by
      rw [List.getElem?_eq_getElem (by rw [List.length_zip]; omega)]; simp
    rw [if_neg (by omega), List.take_add_one, hz]
    simp [List.getD_eq_getElem?_getD, List.getElem?_eq_getElem (show k < E.length by omega)]
theorem zip_get2 {ys : List (Nat × Sl)} {es : List Nat} {P : List Sl} {K : Nat} (h : ys.map pr = (es.zip (zss P)).take K) (k : Nat) (y : Nat × Sl) (s : Sl) (hy : ys[k]? = some y) (hs : P[k]? = some s) : y.2.zs = s.zs := by
  have h1 : (ys.map pr)[k]? = some (pr y) := by rw [List.getElem?_map, hy]; rfl
  rw [h] at h1
  have h3 : k < K := by
    by_cases hk : k < K
    · exact hk
    · rw [List.getElem?_eq_none (by rw [List.length_take]; omega)] at h1; simp at h1
  rw [List.getElem?_take_of_lt h3, List.getElem?_zip_eq_some] at h1
  have h2 := h1.2
  unfold zss at h2
  rw [List.getElem?_map, hs] at h2
  simp [pr] at h2
  exact h2.symm
theorem cuts_no (b : Int) (v v2 : Value) (w : World) (h : (decide (32 ≤ b) && decide (b ≤ 32768)) = false) : Calls Tryd.prog 7 #[.int .i64 b, v, v2] w fun e w' => e = .returned (.bool true) ∧ Below w.heap.size w w' := by
  have HV := valid_any b w
  rw [h] at HV
  replace HV := hid HV
  clear h
  go_enter Tryd.func7, Tryd.ntmps7
  go_wp2_with fail
  refine HV.out.mono ?_
  rintro e w' ⟨rfl, rfl⟩
  go_wp2_with fail
  go_ret
  exact ⟨rfl, Below.refl _ _⟩
set_option maxHeartbeats 1000000 in
set_option maxRecDepth 100000 in
theorem cuts_ok (b : Nat) (a : Option Addr) (len cap : Nat) (rs : List Sl) (a2 : Int) (w : World) (T : Hid (Tab w)) (H : Recs w a len cap rs) (hb : 32 ≤ b ∧ b ≤ 32768) (hw : wt rs ≤ 1048576) (w2' : (Lit.int .i64 a2).wf = true) :
    Calls Tryd.prog 7 #[.int .i64 b, .slice a len cap, .int .i64 a2] w fun e w' => e = .returned (.bool true) ∧ Below w.heap.size w w' := by
  have HV := valid_any b w
  rw [show (decide (32 ≤ (b : Int)) && decide ((b : Int) ≤ 32768)) = true by simp; omega] at HV
  replace HV := hid HV
  have HWn := hid (written_any b a len cap rs w T H hb hw)
  have hwt := wt_took rs
  have HP : Hid (∀ s ∈ took rs, s.ok w ∧ s.len ≤ 2097152) := fun s hs => by
    have := List.mem_filter.1 hs
    exact ⟨H.2.2.2.2 s this.1, by simpa using this.2⟩
  obtain ⟨P, hP⟩ : ∃ P, P = took rs := ⟨_, rfl⟩
  rw [← hP] at HWn hwt HP
  have hPz : ∀ r ∈ zss P, r.length ≤ 2097152 ∧ ∀ y ∈ r, 0 ≤ y ∧ y ≤ 255 := fun r hr => by
    obtain ⟨s, hs, rfl⟩ := List.mem_map.1 hr
    have := HP.out s hs
    exact ⟨by rw [this.1.1]; exact this.2, this.1.2.2.2.1⟩
  have hFl := lay_le b hb P 0 (fun s hs => (HP.out s hs).1.1)
  obtain ⟨c, hc⟩ : ∃ c : Nat, a2 % (((lay b 0 (zss P)).length : Int) + 1) = (c : Int) := ⟨(a2 % (((lay b 0 (zss P)).length : Int) + 1)).toNat, by have := Int.emod_nonneg a2 (show (((lay b 0 (zss P)).length : Int) + 1) ≠ 0 by omega); omega⟩
  have hcF : c ≤ (lay b 0 (zss P)).length := by have := Int.emod_lt_of_pos a2 (show 0 < (((lay b 0 (zss P)).length : Int) + 1) by omega); omega
  obtain ⟨K, how, hK, hh, hRd, hA, hB, hW⟩ := rd_lay_cut b hb (zss P) [] ((lay b 0 (zss P)).take c) (fun r hr => (hPz r hr).1) (by simpa using List.take_prefix _ _)
  have hcl : ((lay b 0 (zss P)).take c).length = c := by rw [List.length_take]; omega
  simp only [List.nil_append, List.length_nil, Nat.zero_add, hcl] at hRd hA hB hW
  have hzl : (zss P).length = P.length := by simp [zss]
  rw [hzl] at hK hB
  have HFb : Hid (∀ y ∈ lay b 0 (zss P), 0 ≤ y ∧ y ≤ 255) := lay_bytes b (zss P) 0 (fun r hr => (hPz r hr).2)
  have HEl : Hid ((endl b 0 (zss P)).length = P.length) := by show _ = _; rw [endl_len]; exact hzl
  have HLst := lst_take (endl b 0 (zss P)) (zss P) K (by rw [HEl.out]; exact hK) (by rw [HEl.out, hzl])
  have HOl : (((endl b 0 (zss P)).zip (zss P)).take K).length = K := by rw [List.length_take, List.length_zip, HEl.out, hzl]; omega
  obtain ⟨E, hE⟩ : ∃ E, E = endl b 0 (zss P) := ⟨_, rfl⟩
  obtain ⟨out, hout⟩ : ∃ out, out = (E.zip (zss P)).take K := ⟨_, rfl⟩
  obtain ⟨F, hF⟩ : ∃ F, F = lay b 0 (zss P) := ⟨_, rfl⟩
  rw [← hE, ← hout] at hRd HLst HOl
  rw [← hE] at HEl HWn hA hB hW
  rw [← hF] at hRd HFb HWn hFl hcF hc
  replace hout := hid hout
  replace hA := hid hA
  replace hB := hid hB
  replace hRd := hid hRd
  obtain ⟨last, hlast⟩ : ∃ last, last = (if K = 0 then 0 else E.getD (K - 1) 0) := ⟨_, rfl⟩
  rw [← hlast] at HLst hW
  replace hlast := hid hlast
  replace HLst := hid HLst
  have h1 : -((F.length : Int) + 1) < a2.tmod ((F.length : Int) + 1) ∧ a2.tmod ((F.length : Int) + 1) < (F.length : Int) + 1 := by
    have h := Int.tmod_lt_of_pos a2 (show 0 < (F.length : Int) + 1 by omega)
    have h' := Int.tmod_lt_of_pos (-a2) (show 0 < (F.length : Int) + 1 by omega)
    rw [Int.neg_tmod] at h'
    omega
  obtain ⟨h1a, h1b⟩ := h1
  have EE : Hid ((a2.tmod ((F.length : Int) + 1) + ((F.length : Int) + 1)) % ((F.length : Int) + 1) = (c : Int)) := by
    show _ = _
    rw [Int.add_emod_right, Int.tmod_def]
    have : a2 - ((F.length : Int) + 1) * a2.tdiv ((F.length : Int) + 1) = a2 + ((F.length : Int) + 1) * (-a2.tdiv ((F.length : Int) + 1)) := by rw [Int.mul_neg]; omega
    rw [this, Int.add_mul_emod_self_left]
    exact hc
  have hz0 : ¬ ((F.length : Int) + 1) = 0 := by omega
  have E2 : a2.tmod ((F.length : Int) + 1) % ((F.length : Int) + 1) = (c : Int) := by have := EE.out; rwa [Int.add_emod_right] at this
  clear hP H hPz hE hF hc hcl hzl
  go_enter Tryd.func7, Tryd.ntmps7
  go_wp2_with fail
  refine HV.out.mono ?_
  rintro e w0 ⟨rfl, rfl⟩
  go_wp2_with fail
  refine HWn.out.mono ?_
  rintro e w1 ⟨vf, ve, vt, rfl, OF, OE, OT, B1⟩
  obtain ⟨af, cf, hvf, haf⟩ := OF.shape
  subst hvf
  obtain ⟨ae, ce, hve, hae⟩ := row_shape OE
  subst hve
  obtain ⟨at', ct, hvt, hat⟩ := row_shape OT
  subst hvt
  have hcf : cf ≤ 9223372036854775807 := by
    rcases OF.2 with ⟨e, _⟩ | ⟨g, c, cur, e, _, _, _, hm, _⟩
    · simp at e; omega
    · simp at e; unfold maxLen at hm; omega
  have hFB := OF.bytes HFb.out
  have hFc : F.length ≤ cf := hFB.2.1
  have HRe := hid (read_any b af c cf (F.take c) out how w1 (tab_later T B1) (bytes_take hFB c hcF (fun e => by have := (hFB.2.2.1 e).1; omega)) hb hcf (by omega) hRd.out (by omega))
  rw [HLst.out] at HRe
  replace OF := hid OF
  replace OT := hid OT
  replace OE := hid OE
  replace B1 := hid B1
  clear HV HWn hFB
  rw [HEl.out] at OE ⊢
  have hcc : (c : Int) ≤ (cf : Int) := by omega
  go_wp2_with fail
  rw [EE.out]
  refine HRe.out.mono ?_
  rintro e w2 ⟨v, ys, rfl, OY, hys, OYs, B2⟩
  obtain ⟨ay, cy, hvy, hay⟩ := row_shape OY
  subst hvy
  have hyl : (ys.map Prod.snd).length = K := by rw [← HOl, ← hys]; simp
  have hyl2 : ys.length = K := by simpa using hyl
  unfold OwnR at OY
  rw [hyl] at OY ⊢
  have OT2 := hid (row_later OT.out B2)
  have OE2 : Hid (w2.ownsRow w0.heap.size 3 1 (.slice ae P.length ce) P.length (E.map fun (x : Nat) => Value.int .i64 (x : Int))) := by
    have := row_later OE.out B2
    rw [HEl.out] at this
    exact this
  have HYs := hid OYs
  have HYY := hid OY
  have B02 := hid (B1.out.trans (B2.mono B1.out.size))
  have hys' : Hid (ys.map pr = (E.zip (zss P)).take K) := by show _ = _; rw [hys, hout.out]
  clear OY OYs B2 hys HRe OT OF OE B1 HFb hRd E2 EE hz0 h1a h1b
  obtain ⟨lk, hlk⟩ : ∃ lk : Nat → Nat, lk = fun i => if min i K = 0 then 0 else E.getD (min i K - 1) 0 := ⟨_, rfl⟩
  have lk0 : lk 0 = 0 := by rw [hlk]; simp
  have lkP : lk P.length = last := by rw [hlk, hlast.out]; simp only [Nat.min_eq_right hK]
  have lkS : Hid (∀ i, i < K → lk (i + 1) = E.getD i 0) := fun i hi => by
    rw [hlk]; simp only [Nat.min_eq_left (show i + 1 ≤ K by omega)]; rw [if_neg (by omega)]; rfl
  have lkN : Hid (∀ i, K ≤ i → lk (i + 1) = lk i) := fun i hi => by
    rw [hlk]; simp only [Nat.min_eq_right hi, Nat.min_eq_right (show K ≤ i + 1 by omega)]
  clear hlk
  replace lkP := hid lkP
  go_wp2_with fail
  go_loopw [16, 17, 18] (fun wh ls i wr => ∃ k n : Nat, i = .int .i64 (k : Int) ∧ k ≤ P.length ∧ wr = w2.drewN n ∧ wh = .int .i64 ((min k K : Nat) : Int) ∧ ls = .int .i64 ((lk k : Nat) : Int)) (fun _ _ i _ => P.length - (intOf i).toNat)
  case atStart => exact ⟨0, 0, rfl, Nat.zero_le _, rfl, by simp, by rw [lk0]; rfl⟩
  case round =>
    obtain ⟨k, n, rfl, hk, rfl, rfl, rfl⟩ := hrel
    by_cases hlt : k < P.length
    · obtain ⟨ge, rfl⟩ : ∃ g, ae = some ⟨g, 0, none⟩ := by
        rcases hae with h | h
        · subst h
          rcases OE2.out.2 with ⟨_, e0⟩ | ⟨g, c, cur, e, _⟩
          · omega
          · simp at e
        · exact h
      have ce : w2.cell? ⟨ge, k, none⟩ = some (.int .i64 ((E.getD k 0 : Nat) : Int)) := by
        have := World.ownsRow.cellAt OE2.out k (by omega)
        rw [this, List.getElem?_map, List.getD_eq_getElem?_getD, List.getElem?_eq_getElem (by rw [HEl.out]; exact hlt)]
        rfl
      by_cases hkK : k < K
      · have hle : ((E.getD k 0 : Nat) : Int) ≤ (c : Int) := by have := hA.out k hkK; omega
        have e1 := lkS.out k hkK
        have e2 : min (k + 1) K = k + 1 := by omega
        generalize E.getD k 0 = x at *
        go_wp2_with fail
        go_quiet (fail)
        go_wp2_with fail
        refine ⟨⟨k + 1, n + nq, by push_cast; rfl, by omega, rfl, by rw [e2]; push_cast; rfl, by rw [e1]⟩, ?_⟩
        simp [intOf]; omega
      · have hle : ¬ ((E.getD k 0 : Nat) : Int) ≤ (c : Int) := by have := hB.out k (by omega) hlt; omega
        have e1 := lkN.out k (by omega)
        generalize E.getD k 0 = x at *
        go_wp2_with fail
        refine ⟨⟨k + 1, n, by push_cast; rfl, by omega, rfl, by rw [show min (k + 1) K = min k K by omega], by rw [e1]⟩, ?_⟩
        simp [intOf]; omega
    · have hkl : k = P.length := by omega
      subst hkl
      rw [lkP.out, Nat.min_eq_right hK]
      have t0 : ((K : Int) != (K : Int)) = false := bne_self_eq_false _
      have t1 : ((last : Int) != (last : Int)) = false := bne_self_eq_false _
      rcases (show how = 0 ∨ how = 1 by omega) with rfl | rfl
      · go_wp2_with fail
        go_loopw [19] (fun i wr => ∃ k m : Nat, i = .int .i64 (k : Int) ∧ k ≤ K ∧ wr = w2.drewN m) (fun i _ => K - (intOf i).toNat)
        case atStart => exact ⟨0, n, rfl, Nat.zero_le _, rfl⟩
        case round =>
          obtain ⟨k, m, rfl, hk2, rfl⟩ := hrel
          by_cases hlt2 : k < K
          · obtain ⟨s, hs⟩ : ∃ s, P[k]? = some s := ⟨P[k]'(by omega), List.getElem?_eq_getElem _⟩
            obtain ⟨y, hy⟩ : ∃ y, ys[k]? = some y := ⟨ys[k]'(by omega), List.getElem?_eq_getElem _⟩
            have hz := zip_get2 hys'.out k y s hy hs
            obtain ⟨gy, rfl⟩ : ∃ g, ay = some ⟨g, 0, none⟩ := by
              rcases hay with h | h
              · subst h
                rcases HYY.out.2 with ⟨_, e0⟩ | ⟨g, c, cur, e, _⟩
                · omega
                · simp at e
              · exact h
            obtain ⟨gt, rfl⟩ : ∃ g, at' = some ⟨g, 0, none⟩ := by
              rcases hat with h | h
              · subst h
                rcases OT2.out.2 with ⟨_, e0⟩ | ⟨g, c, cur, e, _⟩
                · omega
                · simp at e
              · exact h
            have cy : w2.cell? ⟨gy, k, none⟩ = some y.2.v := by
              have := World.ownsRow.cellAt HYY.out k (by omega)
              rw [this, List.getElem?_map, List.getElem?_map, hy]
              rfl
            have cs : w2.cell? ⟨gt, k, none⟩ = some s.v := by
              have := World.ownsRow.cellAt OT2.out k (by omega)
              rw [this, List.getElem?_map, hs]
              rfl
            unfold Sl.v at cy cs
            have hsb := (HP.out s (List.mem_of_getElem? hs)).1
            have q1 : ∀ n, Sem.run Tryd.prog (convert 31 9 (.slice y.2.a y.2.len y.2.cap)) (w2.drewN n) = .ok (.string (str s.zs)) (w2.drewN n) := fun n => by
              have := own_conv ((HYs.out y (List.mem_of_getElem? hy)).later (below_drewN (Below.refl _ _) n))
              rw [hz] at this
              exact this
            have q2 : ∀ n, Sem.run Tryd.prog (convert 31 9 (.slice s.a s.len s.cap)) (w2.drewN n) = .ok (.string (str s.zs)) (w2.drewN n) := fun n => Bytes.conv (bytes_kept (bytes_kept hsb B02.out) (below_drewN (Below.refl _ _) n))
            have hkP : k < P.length := by omega
            go_wp2_with fail
            go_quiet (fail)
            go_wp2_with fail
            refine ⟨⟨k + 1, m + nq, by push_cast; rfl, by omega, rfl⟩, ?_⟩
            simp [intOf]; omega
          · go_wp2_with fail
            go_ret
            exact ⟨rfl, B02.out.trans ((below_drewN (Below.refl _ _) m).mono B02.out.size)⟩
      · have hlc : ((last : Int) == (c : Int)) = false := by have := hW rfl; rw [beq_eq_false_iff_ne]; omega
        go_wp2_with fail
        go_loopw [19] (fun i wr => ∃ k m : Nat, i = .int .i64 (k : Int) ∧ k ≤ K ∧ wr = w2.drewN m) (fun i _ => K - (intOf i).toNat)
        case atStart => exact ⟨0, n, rfl, Nat.zero_le _, rfl⟩
        case round =>
          obtain ⟨k, m, rfl, hk2, rfl⟩ := hrel
          by_cases hlt2 : k < K
          · obtain ⟨s, hs⟩ : ∃ s, P[k]? = some s := ⟨P[k]'(by omega), List.getElem?_eq_getElem _⟩
            obtain ⟨y, hy⟩ : ∃ y, ys[k]? = some y := ⟨ys[k]'(by omega), List.getElem?_eq_getElem _⟩
            have hz := zip_get2 hys'.out k y s hy hs
            obtain ⟨gy, rfl⟩ : ∃ g, ay = some ⟨g, 0, none⟩ := by
              rcases hay with h | h
              · subst h
                rcases HYY.out.2 with ⟨_, e0⟩ | ⟨g, c, cur, e, _⟩
                · omega
                · simp at e
              · exact h
            obtain ⟨gt, rfl⟩ : ∃ g, at' = some ⟨g, 0, none⟩ := by
              rcases hat with h | h
              · subst h
                rcases OT2.out.2 with ⟨_, e0⟩ | ⟨g, c, cur, e, _⟩
                · omega
                · simp at e
              · exact h
            have cy : w2.cell? ⟨gy, k, none⟩ = some y.2.v := by
              have := World.ownsRow.cellAt HYY.out k (by omega)
              rw [this, List.getElem?_map, List.getElem?_map, hy]
              rfl
            have cs : w2.cell? ⟨gt, k, none⟩ = some s.v := by
              have := World.ownsRow.cellAt OT2.out k (by omega)
              rw [this, List.getElem?_map, hs]
              rfl
            unfold Sl.v at cy cs
            have hsb := (HP.out s (List.mem_of_getElem? hs)).1
            have q1 : ∀ n, Sem.run Tryd.prog (convert 31 9 (.slice y.2.a y.2.len y.2.cap)) (w2.drewN n) = .ok (.string (str s.zs)) (w2.drewN n) := fun n => by
              have := own_conv ((HYs.out y (List.mem_of_getElem? hy)).later (below_drewN (Below.refl _ _) n))
              rw [hz] at this
              exact this
            have q2 : ∀ n, Sem.run Tryd.prog (convert 31 9 (.slice s.a s.len s.cap)) (w2.drewN n) = .ok (.string (str s.zs)) (w2.drewN n) := fun n => Bytes.conv (bytes_kept (bytes_kept hsb B02.out) (below_drewN (Below.refl _ _) n))
            have hkP : k < P.length := by omega
            go_wp2_with fail
            go_quiet (fail)
            go_wp2_with fail
            refine ⟨⟨k + 1, m + nq, by push_cast; rfl, by omega, rfl⟩, ?_⟩
            simp [intOf]; omega
          · go_wp2_with fail
            go_ret
            exact ⟨rfl, B02.out.trans ((below_drewN (Below.refl _ _) m).mono B02.out.size)⟩
end Go.Proofs.YtgkoopciajjonaaDoor.Cu

/- JournalBack walked. -/
import Derived.Test.YtgkoopciajjonaaDoorRx
namespace Go.Proofs.YtgkoopciajjonaaDoor.Bk
open Go.ChangeShapes Go.WideShapes Go.ChangeAt Go.RowKit
open Go.Proofs.YtgkoopciajjonaaDoor.Crc
open Go.Proofs.YtgkoopciajjonaaDoor.Jm
open Go.Proofs.YtgkoopciajjonaaDoor.Jn
open Go.Proofs.YtgkoopciajjonaaDoor.Ck
open Go.Proofs.YtgkoopciajjonaaDoor.Wt
open Go.Proofs.YtgkoopciajjonaaDoor.Wc
open Go.Proofs.YtgkoopciajjonaaDoor.Wa
open Go.Proofs.YtgkoopciajjonaaDoor.Rc
open Go.Proofs.YtgkoopciajjonaaDoor.Wn
open Go.Proofs.YtgkoopciajjonaaDoor.Vd (valid_any own_conv)
open Go.Proofs.YtgkoopciajjonaaDoor.Rr (pr)
open Go.Proofs.YtgkoopciajjonaaDoor.Re
open Go.Proofs.YtgkoopciajjonaaDoor.Rx
set_option linter.unusedVariables false
set_option linter.unusedSimpArgs false

theorem back_no (b : Int) (v : Value) (w : World) (h : (decide (32 ≤ b) && decide (b ≤ 32768)) = false) : Calls Tryd.prog 6 #[.int .i64 b, v] w fun e w' => e = .returned (.bool true) ∧ Below w.heap.size w w' := by
  have HV := valid_any b w
  rw [h] at HV
  replace HV := hid HV
  clear h
  go_enter Tryd.func6, Tryd.ntmps6
  go_wp2_with fail
  refine HV.out.mono ?_
  rintro e w' ⟨rfl, rfl⟩
  go_wp2_with fail
  go_ret
  exact ⟨rfl, Below.refl _ _⟩
set_option maxHeartbeats 1000000 in
set_option maxRecDepth 100000 in
theorem back_ok (b : Nat) (a : Option Addr) (len cap : Nat) (rs : List Sl) (w : World) (T : Hid (Tab w)) (H : Recs w a len cap rs) (hb : 32 ≤ b ∧ b ≤ 32768) (hw : wt rs ≤ 1048576) :
    Calls Tryd.prog 6 #[.int .i64 b, .slice a len cap] w fun e w' => e = .returned (.bool true) ∧ Below w.heap.size w w' := by
  have HV := valid_any b w
  rw [show (decide (32 ≤ (b : Int)) && decide ((b : Int) ≤ 32768)) = true by simp; omega] at HV
  replace HV := hid HV
  have HWn := hid (written_any b a len cap rs w T H hb hw)
  have hwt := wt_took rs
  have HP : Hid (∀ s ∈ took rs, s.ok w ∧ s.len ≤ 2097152) := fun s hs => by
    have := List.mem_filter.1 hs
    exact ⟨H.2.2.2.2 s this.1, by simpa using this.2⟩
  obtain ⟨P, hP⟩ : ∃ P, P = took rs := ⟨_, rfl⟩
  rw [← hP] at HWn hwt HP
  have hPz : ∀ r ∈ zss P, r.length ≤ 2097152 ∧ ∀ y ∈ r, 0 ≤ y ∧ y ≤ 255 := fun r hr => by
    obtain ⟨s, hs, rfl⟩ := List.mem_map.1 hr
    have := HP.out s hs
    exact ⟨by rw [this.1.1]; exact this.2, this.1.2.2.2.1⟩
  have HRd : Hid (Rd b (lay b 0 (zss P)) 0 [] false ((endl b 0 (zss P)).zip (zss P)) 0) := by
    have := rd_whole b hb (zss P) [] (fun r hr => (hPz r hr).1)
    show Rd _ _ _ _ _ _ _
    simpa using this
  have HLst := hid (lst_lay b (zss P))
  have HFb : Hid (∀ y ∈ lay b 0 (zss P), 0 ≤ y ∧ y ≤ 255) := lay_bytes b (zss P) 0 (fun r hr => (hPz r hr).2)
  have HEl : Hid ((endl b 0 (zss P)).length = P.length) := by show _ = _; rw [endl_len]; simp [zss]
  have HOl : ((endl b 0 (zss P)).zip (zss P)).length = P.length := by rw [List.length_zip, HEl.out]; simp [zss]
  have hFl := lay_le b hb P 0 (fun s hs => (HP.out s hs).1.1)
  obtain ⟨E, hE⟩ : ∃ E, E = endl b 0 (zss P) := ⟨_, rfl⟩
  obtain ⟨out, hout⟩ : ∃ out, out = E.zip (zss P) := ⟨_, rfl⟩
  obtain ⟨F, hF⟩ : ∃ F, F = lay b 0 (zss P) := ⟨_, rfl⟩
  rw [← hE, ← hout] at HRd HLst HOl
  rw [← hE] at HEl HWn
  rw [← hF] at HRd HLst HFb HWn hFl
  replace hout := hid hout
  clear hP H hPz hE hF
  go_enter Tryd.func6, Tryd.ntmps6
  go_wp2_with fail
  refine HV.out.mono ?_
  rintro e w0 ⟨rfl, rfl⟩
  go_wp2_with fail
  refine HWn.out.mono ?_
  rintro e w1 ⟨vf, ve, vt, rfl, OF, OE, OT, B1⟩
  obtain ⟨af, cf, hvf, haf⟩ := OF.shape
  subst hvf
  obtain ⟨ae, ce, hve, _⟩ := row_shape OE
  subst hve
  obtain ⟨at', ct, hvt, hat⟩ := row_shape OT
  subst hvt
  have hcf : cf ≤ 9223372036854775807 := by
    rcases OF.2 with ⟨e, _⟩ | ⟨g, c, cur, e, _, _, _, hm, _⟩
    · simp at e; omega
    · simp at e; unfold maxLen at hm; omega
  have HRe := hid (read_any b af F.length cf F out 0 w1 (tab_later T B1) (OF.bytes HFb.out) hb hcf (by omega) HRd.out (by omega))
  rw [HLst.out] at HRe
  replace OF := hid OF
  replace OT := hid OT
  replace OE := hid OE
  replace B1 := hid B1
  clear HV HWn
  rw [HEl.out] at OE ⊢
  go_wp2_with fail
  refine HRe.out.mono ?_
  rintro e w2 ⟨v, ys, rfl, OY, hys, OYs, B2⟩
  obtain ⟨ay, cy, hvy, hay⟩ := row_shape OY
  subst hvy
  have hyl : (ys.map Prod.snd).length = P.length := by rw [← HOl, ← hys]; simp
  have hyl2 : ys.length = P.length := by simpa using hyl
  unfold OwnR at OY
  rw [hyl] at OY ⊢
  have OT2 := hid (row_later OT.out B2)
  have HYs := hid OYs
  have HYY := hid OY
  have B02 := hid (B1.out.trans (B2.mono B1.out.size))
  have hys' : Hid (ys.map pr = E.zip (zss P)) := by show _ = _; rw [hys, hout.out]
  clear OY OYs B2 hys HRe OT OF OE B1 HRd HLst HFb
  have t0 : ((P.length : Int) != (P.length : Int)) = false := bne_self_eq_false _
  have t1 : ((F.length : Int) != (F.length : Int)) = false := bne_self_eq_false _
  go_wp2_with fail
  go_loopw [13] (fun i wr => ∃ k n : Nat, i = .int .i64 (k : Int) ∧ k ≤ P.length ∧ wr = w2.drewN n) (fun i _ => P.length - (intOf i).toNat)
  case atStart => exact ⟨0, 0, rfl, Nat.zero_le _, rfl⟩
  case round =>
    obtain ⟨k, n, rfl, hk, rfl⟩ := hrel
    by_cases hlt : k < P.length
    · obtain ⟨s, hs⟩ : ∃ s, P[k]? = some s := ⟨P[k], List.getElem?_eq_getElem hlt⟩
      obtain ⟨y, hy⟩ : ∃ y, ys[k]? = some y := ⟨ys[k]'(by omega), List.getElem?_eq_getElem _⟩
      have hz := zip_get hys'.out HEl.out k y s hy hs
      obtain ⟨gy, rfl⟩ : ∃ g, ay = some ⟨g, 0, none⟩ := by
        rcases hay with h | h
        · subst h
          rcases HYY.out.2 with ⟨_, e0⟩ | ⟨g, c, cur, e, _⟩
          · omega
          · simp at e
        · exact h
      obtain ⟨gt, rfl⟩ : ∃ g, at' = some ⟨g, 0, none⟩ := by
        rcases hat with h | h
        · subst h
          rcases OT2.out.2 with ⟨_, e0⟩ | ⟨g, c, cur, e, _⟩
          · omega
          · simp at e
        · exact h
      have cy : w2.cell? ⟨gy, k, none⟩ = some y.2.v := by
        have h1 := HYY.out
        have := World.ownsRow.cellAt h1 k (by omega)
        rw [this, List.getElem?_map, List.getElem?_map, hy]
        rfl
      have cs : w2.cell? ⟨gt, k, none⟩ = some s.v := by
        have := World.ownsRow.cellAt OT2.out k (by omega)
        rw [this, List.getElem?_map, hs]
        rfl
      unfold Sl.v at cy cs
      have hsb := (HP.out s (List.mem_of_getElem? hs)).1
      have q1 : ∀ n, Sem.run Tryd.prog (convert 31 9 (.slice y.2.a y.2.len y.2.cap)) (w2.drewN n) = .ok (.string (str s.zs)) (w2.drewN n) := fun n => by
        have := own_conv ((HYs.out y (List.mem_of_getElem? hy)).later (below_drewN (Below.refl _ _) n))
        rw [hz] at this
        exact this
      have q2 : ∀ n, Sem.run Tryd.prog (convert 31 9 (.slice s.a s.len s.cap)) (w2.drewN n) = .ok (.string (str s.zs)) (w2.drewN n) := fun n => Bytes.conv (bytes_kept (bytes_kept hsb B02.out) (below_drewN (Below.refl _ _) n))
      go_wp2_with fail
      go_quiet (fail)
      go_wp2_with fail
      refine ⟨⟨k + 1, n + nq, by push_cast; rfl, by omega, rfl⟩, ?_⟩
      simp [intOf]; omega
    · have hkl : k = P.length := by omega
      subst hkl
      go_wp2_with fail
      go_ret
      exact ⟨rfl, B02.out.trans ((below_drewN (Below.refl _ _) n).mono B02.out.size)⟩
end Go.Proofs.YtgkoopciajjonaaDoor.Bk

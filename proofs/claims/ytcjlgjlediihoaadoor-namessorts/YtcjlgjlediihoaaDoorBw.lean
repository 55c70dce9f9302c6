/- NamesBack walked. -/
import Derived.Test.YtcjlgjlediihoaaDoorBk
namespace Go.Proofs.YtcjlgjlediihoaaDoor.Rw
open Go.ChangeShapes Go.WideShapes Go.ChangeAt Go.RowKit
open Go.Proofs.YtcjlgjlediihoaaDoor.Ut
open Go.Proofs.YtcjlgjlediihoaaDoor.By
set_option linter.unusedVariables false
set_option linter.unusedSimpArgs false

theorem cu_is (number : Int) (h : (cu number).2 = 0) : ∃ n : Nat, 1 ≤ n ∧ n ≤ 2147483647 ∧ number = n ∧ cu number = (fmo 2 n ++ ⟨#[10]⟩, 0) := by
  unfold cu at h ⊢
  by_cases h0 : (nm 3 number).2 = 0
  · rcases nm_is 3 number h0 with ⟨h4, _⟩ | ⟨k, n, hk, h1, h2, hkk, rfl, e⟩
    · exact absurd h4 (by decide)
    · refine ⟨n, h1, h2, rfl, ?_⟩
      have : k = 2 := by
        match k, hk, hkk with
        | 0, _, h => exact absurd h (by decide)
        | 1, _, h => exact absurd h (by decide)
        | 2, _, _ => rfl
        | 3, _, h => exact absurd h (by decide)
      subst this
      rw [if_pos h0, e]
  · rw [if_neg h0] at h
    exact absurd h h0
theorem cu_no (number : Int) (h : ¬ (cu number).2 = 0) : (cu number).1 = ⟨#[]⟩ ∧ (number < 1 ∨ 2147483647 < number) := by
  unfold cu at h ⊢
  by_cases h0 : (nm 3 number).2 = 0
  · rw [if_pos h0] at h
    exact absurd rfl h
  · rw [if_neg h0]
    refine ⟨rfl, ?_⟩
    by_cases hn : number < 1 ∨ 2147483647 < number
    · exact hn
    · obtain ⟨n, rfl⟩ : ∃ n : Nat, number = n := ⟨number.toNat, by omega⟩
      have := nm_at 2 (by omega) n (by omega) (by omega)
      exact absurd (congrArg Prod.snd this) h0
theorem named_cu (number : Int) (h : (cu number).2 = 0) (W : World) (T : Hid (Fm W)) (U : Hid (Tb W)) : Calls Tryd.prog 15 #[.string (cu number).1] W fun e w' => e = .returned (.tuple #[.int .i64 number, .int .i64 0]) ∧ Below W.heap.size W w' := by
  obtain ⟨n, h1, h2, rfl, e⟩ := cu_is number h
  rw [e]
  have hlist : (fmo 2 n ++ ⟨#[10]⟩ : ByteArray).data.toList = (fmo 2 n).data.toList ++ [10] := by
    rw [ByteArray.data_append, Array.toList_append]
  have hsz : (fmo 2 n ++ ⟨#[10]⟩ : ByteArray).size ≤ 281474976710656 := by
    have := pz_len n h2
    have := fa_len 2
    have := fo_len 2
    have h10 : (⟨#[10]⟩ : ByteArray).size = 1 := rfl
    unfold fmo
    rw [ByteArray.size_append, ByteArray.size_append, ByteArray.size_append]
    omega
  refine (named_any _ hsz W T U).mono ?_
  rintro e w' ⟨kk, nn, ee, hp, he, hb⟩
  have hp := hp.out
  rw [hlist, trims_app] at hp
  rw [hlist, hass_app] at he
  have hp' : Pz (fmo 2 n) kk nn ee := hp
  obtain ⟨rfl, rfl, rfl⟩ := pz_back 2 n (by omega) h1 h2 _ _ _ hp'
  rw [if_pos ⟨rfl, rfl, rfl⟩] at he
  exact ⟨he, hb⟩
set_option maxRecDepth 1000000 in
set_option maxHeartbeats 4000000 in
theorem back_walk (kind number : Int) (s : ByteArray) (hs : s.size ≤ 281474976710656) (w : World) (T : Hid (Lt w)) (F : Hid (Fm w)) (U : Hid (Tb w)) :
    Calls Tryd.prog 7 #[.int .i64 kind, .int .i64 number, .string s] w fun e w' => e = .returned (.bool true) ∧ Below w.heap.size w w' := by
  have HW := hid (works_any w T F U)
  have HN : Hid (∀ W, Hid (Fm W) → Hid (Tb W) → _) := fun W F U => name_any kind number W F U
  have HB := hid (back kind number)
  have hrl := nm_len kind number
  generalize nm kind number = R at HN HB hrl
  obtain ⟨r, re⟩ := R
  have HNd := hid (named_cu number)
  have HNo := hid (cu_no number)
  obtain ⟨C, hcu⟩ : ∃ C, cu number = C := ⟨_, rfl⟩
  rw [hcu] at HNd HNo
  obtain ⟨ct, ce⟩ := C
  have HNd : Hid (ce = 0 → ∀ (W : World) (T : Hid (Fm W)) (U : Hid (Tb W)), Calls Tryd.prog 15 #[.string ct] W fun e w' => e = .returned (.tuple #[.int .i64 number, .int .i64 0]) ∧ Below W.heap.size W w') := HNd.out
  have HNo : Hid (¬ ce = 0 → ct = ⟨#[]⟩ ∧ (number < 1 ∨ 2147483647 < number)) := HNo.out
  have hrl : r.size ≤ 60 := hrl
  have hcuh := hid hcu
  clear hcu
  go_enter Tryd.func7, Tryd.ntmps7
  go_wp2_with fail
  refine HW.out.mono ?_
  rintro e w1 ⟨rfl, b1⟩
  have c1 := hid b1
  clear HW b1
  have HN1 := hid (HN.out _ (F.out.later c1.out) (U.out.later c1.out))
  clear HN
  go_wp2_with fail
  refine HN1.out.mono ?_
  rintro e w2 ⟨rfl, b2⟩
  have c2 := hid (c1.out.trans (b2.mono c1.out.size))
  clear HN1 b2 c1
  by_cases hre : re = 0
  · have HP := hid (parse_any r (by omega) _ (F.out.later c2.out) (U.out.later c2.out))
    go_wp2_with fail
    refine HP.out.mono ?_
    rintro e w3 ⟨kk, nn, ee, rfl, hp, b3⟩
    have c3 := hid (c2.out.trans (b3.mono c2.out.size))
    clear HP b3
    obtain ⟨hk1, hn1, he1⟩ := HB.out hre kk nn ee hp.out
    clear hp HB
    replace hk1 := hk1.symm
    replace hn1 := hn1.symm
    subst hk1
    subst hn1
    subst he1
    have HS := hid (parse_any s hs _ (F.out.later c3.out) (U.out.later c3.out))
    go_wp2_with fail
    refine HS.out.mono ?_
    rintro e w5 ⟨k2, n2, e2, rfl, hp2, b5⟩
    have c5 := hid (c3.out.trans (b5.mono c3.out.size))
    clear HS b5
    by_cases he2 : e2 = 0
    · have hq2 := hid (pz_nm s k2 n2 (by rw [← he2]; exact hp2.out))
      have HM := hid (name_any k2 n2 _ (F.out.later c5.out) (U.out.later c5.out))
      rw [hq2.out] at HM
      clear hp2 hq2
      have hss : (s.toList == s.toList) = true := beq_self_eq_true _
      go_wp2_with fail
      refine HM.out.mono ?_
      rintro e w6 ⟨rfl, b6⟩
      have c6 := hid (c5.out.trans (b6.mono c5.out.size))
      clear HM b6
      have HC := hid (current_any number _ (F.out.later c6.out) (U.out.later c6.out))
      rw [hcuh.out] at HC
      go_wp2_with fail
      refine HC.out.mono ?_
      rintro e w7 ⟨rfl, b7⟩
      have c7 := hid (c6.out.trans (b7.mono c6.out.size))
      clear HC b7
      by_cases hce : ce = 0
      · have HD := hid (HNd.out hce _ (F.out.later c7.out) (U.out.later c7.out))
        go_wp2_with fail
        refine HD.out.mono ?_
        rintro e w8 ⟨rfl, b8⟩
        have c8 := hid (c7.out.trans (b8.mono c7.out.size))
        clear HD b8
        go_wp2_with fail
        go_ret
        exact ⟨rfl, c8.out⟩
      · obtain ⟨hc1, hc2⟩ := HNo.out hce
        by_cases hn : number < 1
        · go_wp2_with fail
          go_ret
          exact ⟨rfl, c7.out⟩
        · have hn2 : 2147483647 < number := by omega
          clear hc2
          go_wp2_with fail
          go_ret
          exact ⟨rfl, c7.out⟩
    · clear hp2
      have HC := hid (current_any number _ (F.out.later c5.out) (U.out.later c5.out))
      rw [hcuh.out] at HC
      go_wp2_with fail
      refine HC.out.mono ?_
      rintro e w7 ⟨rfl, b7⟩
      have c7 := hid (c5.out.trans (b7.mono c5.out.size))
      clear HC b7
      by_cases hce : ce = 0
      · have HD := hid (HNd.out hce _ (F.out.later c7.out) (U.out.later c7.out))
        go_wp2_with fail
        refine HD.out.mono ?_
        rintro e w8 ⟨rfl, b8⟩
        have c8 := hid (c7.out.trans (b8.mono c7.out.size))
        clear HD b8
        go_wp2_with fail
        go_ret
        exact ⟨rfl, c8.out⟩
      · obtain ⟨hc1, hc2⟩ := HNo.out hce
        by_cases hn : number < 1
        · go_wp2_with fail
          go_ret
          exact ⟨rfl, c7.out⟩
        · have hn2 : 2147483647 < number := by omega
          clear hc2
          go_wp2_with fail
          go_ret
          exact ⟨rfl, c7.out⟩
  · clear HB
    have HS := hid (parse_any s hs _ (F.out.later c2.out) (U.out.later c2.out))
    go_wp2_with fail
    refine HS.out.mono ?_
    rintro e w5 ⟨k2, n2, e2, rfl, hp2, b5⟩
    have c5 := hid (c2.out.trans (b5.mono c2.out.size))
    clear HS b5
    by_cases he2 : e2 = 0
    · have hq2 := hid (pz_nm s k2 n2 (by rw [← he2]; exact hp2.out))
      have HM := hid (name_any k2 n2 _ (F.out.later c5.out) (U.out.later c5.out))
      rw [hq2.out] at HM
      clear hp2 hq2
      have hss : (s.toList == s.toList) = true := beq_self_eq_true _
      go_wp2_with fail
      refine HM.out.mono ?_
      rintro e w6 ⟨rfl, b6⟩
      have c6 := hid (c5.out.trans (b6.mono c5.out.size))
      clear HM b6
      have HC := hid (current_any number _ (F.out.later c6.out) (U.out.later c6.out))
      rw [hcuh.out] at HC
      go_wp2_with fail
      refine HC.out.mono ?_
      rintro e w7 ⟨rfl, b7⟩
      have c7 := hid (c6.out.trans (b7.mono c6.out.size))
      clear HC b7
      by_cases hce : ce = 0
      · have HD := hid (HNd.out hce _ (F.out.later c7.out) (U.out.later c7.out))
        go_wp2_with fail
        refine HD.out.mono ?_
        rintro e w8 ⟨rfl, b8⟩
        have c8 := hid (c7.out.trans (b8.mono c7.out.size))
        clear HD b8
        go_wp2_with fail
        go_ret
        exact ⟨rfl, c8.out⟩
      · obtain ⟨hc1, hc2⟩ := HNo.out hce
        by_cases hn : number < 1
        · go_wp2_with fail
          go_ret
          exact ⟨rfl, c7.out⟩
        · have hn2 : 2147483647 < number := by omega
          clear hc2
          go_wp2_with fail
          go_ret
          exact ⟨rfl, c7.out⟩
    · clear hp2
      have HC := hid (current_any number _ (F.out.later c5.out) (U.out.later c5.out))
      rw [hcuh.out] at HC
      go_wp2_with fail
      refine HC.out.mono ?_
      rintro e w7 ⟨rfl, b7⟩
      have c7 := hid (c5.out.trans (b7.mono c5.out.size))
      clear HC b7
      by_cases hce : ce = 0
      · have HD := hid (HNd.out hce _ (F.out.later c7.out) (U.out.later c7.out))
        go_wp2_with fail
        refine HD.out.mono ?_
        rintro e w8 ⟨rfl, b8⟩
        have c8 := hid (c7.out.trans (b8.mono c7.out.size))
        clear HD b8
        go_wp2_with fail
        go_ret
        exact ⟨rfl, c8.out⟩
      · obtain ⟨hc1, hc2⟩ := HNo.out hce
        by_cases hn : number < 1
        · go_wp2_with fail
          go_ret
          exact ⟨rfl, c7.out⟩
        · have hn2 : 2147483647 < number := by omega
          clear hc2
          go_wp2_with fail
          go_ret
          exact ⟨rfl, c7.out⟩
end Go.Proofs.YtcjlgjlediihoaaDoor.Rw

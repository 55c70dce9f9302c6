/- Current, Named, works; NamesBack walked. -/
import Derived.Test.YtcjlgjlediihoaaDoorPb
namespace Go.Proofs.YtcjlgjlediihoaaDoor.Rw
open Go.ChangeShapes Go.WideShapes Go.ChangeAt Go.RowKit
open Go.Proofs.YtcjlgjlediihoaaDoor.Ut
open Go.Proofs.YtcjlgjlediihoaaDoor.By
set_option linter.unusedVariables false
set_option linter.unusedSimpArgs false

/-- What Current answers. -/
def cu (number : Int) : ByteArray × Int := if (nm 3 number).2 = 0 then ((nm 3 number).1 ++ ⟨#[10]⟩, 0) else (⟨#[]⟩, (nm 3 number).2)
theorem nm_len (kind number : Int) : (nm kind number).1.size ≤ 60 := by
  by_cases h : (nm kind number).2 = 0
  · rcases nm_is kind number h with ⟨rfl, rfl, e⟩ | ⟨k, n, hk, h1, h2, rfl, rfl, e⟩
    · rw [e]; decide
    · rw [e]
      show (fmo k n).size ≤ 60
      have := pz_len n h2
      have := fa_len k
      have := fo_len k
      unfold fmo
      rw [ByteArray.size_append, ByteArray.size_append]
      omega
  · unfold nm at h ⊢
    split
    · next hh => rw [if_pos hh] at h; exact absurd rfl h
    · next hh =>
      rw [if_neg hh] at h
      split
      · decide
      · next h2 =>
        rw [if_neg h2] at h
        split
        · next h3 => rw [if_pos h3] at h; exact absurd rfl h
        · next h3 =>
          rw [if_neg h3] at h
          split
          · next h3 => rw [if_pos h3] at h; exact absurd rfl h
          · next h3 =>
            rw [if_neg h3] at h
            split
            · next h3 => rw [if_pos h3] at h; exact absurd rfl h
            · next h3 =>
              rw [if_neg h3] at h
              split
              · next h3 => rw [if_pos h3] at h; exact absurd rfl h
              · decide
set_option maxRecDepth 1000000 in
theorem current_any (number : Int) (w : World) (T : Hid (Fm w)) (U : Hid (Tb w)) : Calls Tryd.prog 13 #[.int .i64 number] w fun e w' => e = .returned (.tuple #[.string (cu number).1, .int .i64 (cu number).2]) ∧ Below w.heap.size w w' := by
  have HN := hid (name_any 3 number w T U)
  have hl := nm_len 3 number
  have hcu : Hid (cu number = if (nm 3 number).2 = 0 then ((nm 3 number).1 ++ ⟨#[10]⟩, 0) else (⟨#[]⟩, (nm 3 number).2)) := rfl
  generalize nm 3 number = R at HN hl hcu
  generalize cu number = C at hcu
  obtain ⟨r, re⟩ := R
  have hl : r.size ≤ 60 := hl
  have h1 : (⟨#[10]⟩ : ByteArray).size = 1 := rfl
  go_enter Tryd.func13, Tryd.ntmps13
  go_wp2_with fail
  refine HN.out.mono ?_
  rintro e w1 ⟨rfl, b1⟩
  have b1h := hid b1
  clear HN b1
  by_cases hre : re = 0
  · have hc : Hid (C = (r ++ ⟨#[10]⟩, 0)) := by
      show _ = _
      rw [hcu.out, if_pos hre]
    clear hcu
    go_wp2_with fail
    go_ret2
    exact ⟨by rw [hc.out]; rfl, b1h.out⟩
  · have hc : Hid (C = (⟨#[]⟩, re)) := by
      show _ = _
      rw [hcu.out, if_neg hre]
    clear hcu
    go_wp2_with fail
    go_ret2
    exact ⟨by rw [hc.out]; rfl, b1h.out⟩
set_option maxRecDepth 1000000 in
theorem named_any (s : ByteArray) (hs : s.size ≤ 281474976710656) (w : World) (T : Hid (Fm w)) (U : Hid (Tb w)) : Calls Tryd.prog 15 #[.string s] w fun e w' => ∃ kk nn ee : Int, Hid (Pz ⟨(Lib.trimSuffix s.data.toList [10]).toArray⟩ kk nn ee) ∧ e = .returned (if Lib.hasSuffix s.data.toList [10] = true ∧ ee = 0 ∧ kk = 3 then .tuple #[.int .i64 nn, .int .i64 0] else .tuple #[.int .i64 0, .int .i64 60]) ∧ Below w.heap.size w w' := by
  have HC : Hid (Calls Tryd.prog 34 #[.string s, .string ⟨#[10]⟩] w fun e w' => e = .returned (.tuple #[.string ⟨(Lib.trimSuffix s.data.toList [10]).toArray⟩, .bool (Lib.hasSuffix s.data.toList [10])]) ∧ w' = w) := Sk.cuts_any s ⟨#[10]⟩ w (by omega)
  have hyl : (⟨(Lib.trimSuffix s.data.toList [10]).toArray⟩ : ByteArray).size ≤ 281474976710656 := by
    show (Lib.trimSuffix s.data.toList [10]).toArray.size ≤ _
    have h : s.data.toList.length ≤ 281474976710656 := by rw [Array.length_toList]; exact hs
    rw [List.size_toArray]
    unfold Lib.trimSuffix
    split
    · rw [List.length_take]; omega
    · exact h
  have HP := hid (fun W T U => parse_any (⟨(Lib.trimSuffix s.data.toList [10]).toArray⟩ : ByteArray) hyl W T U)
  clear hyl
  generalize (⟨(Lib.trimSuffix s.data.toList [10]).toArray⟩ : ByteArray) = y at HC HP
  generalize Lib.hasSuffix s.data.toList [10] = b at HC
  obtain ⟨PP, hPP⟩ : ∃ PP, PP = Pz y := ⟨_, rfl⟩
  rw [← hPP] at HP
  rw [← hPP]
  clear hPP
  go_enter Tryd.func15, Tryd.ntmps15
  go_wp2_with fail
  refine HC.out.mono ?_
  rintro e w1 ⟨rfl, rfl⟩
  clear HC
  go_wp2_with fail
  refine (HP.out _ T U).mono ?_
  rintro e w2 ⟨kk, nn, ee, rfl, hp, b2⟩
  have b2h := hid b2
  clear HP b2 T U
  cases b with
  | false =>
    go_wp2_with fail
    go_ret2
    exact ⟨kk, nn, ee, hp, by rw [if_neg (fun h => by cases h.1)]; rfl, b2h.out⟩
  | true =>
    by_cases h0 : ee = 0
    · by_cases h3 : kk = 3
      · go_wp2_with fail
        go_ret2
        exact ⟨kk, nn, ee, hp, by (first | rw [if_pos ⟨rfl, h0, h3⟩] | rw [if_pos ⟨h0, h3⟩]); rfl, b2h.out⟩
      · go_wp2_with fail
        go_ret2
        exact ⟨kk, nn, ee, hp, by rw [if_neg (fun h => h3 h.2)]; rfl, b2h.out⟩
    · go_wp2_with fail
      go_ret2
      exact ⟨kk, nn, ee, hp, by rw [if_neg (fun h => h0 h.1)]; rfl, b2h.out⟩
def qab : ByteArray := ⟨#[34, 97, 92, 115, 98, 34]⟩
def tab : ByteArray := ⟨#[97, 32, 98]⟩
theorem unq_ab : unq qab = (tab, 0, 0) := by
  have hu : uw qab = (true, 6, [97, 32, 98]) := by decide +kernel
  have hq : str (qt (str [97, 32, 98])) = qab := by decide +kernel
  have ht : str [97, 32, 98] = tab := by decide +kernel
  unfold unq
  rw [hu, if_pos rfl, if_pos hq, ht]
theorem qt_ab : str (qt tab) = qab := by decide +kernel
theorem nm12 : nm 1 12 = (⟨#[48, 48, 48, 48, 49, 50, 46, 108, 111, 103]⟩, 0) := by decide +kernel
set_option maxRecDepth 1000000 in
set_option maxHeartbeats 1000000 in
theorem works_any (w : World) (T : Hid (Lt w)) (F : Hid (Fm w)) (U : Hid (Tb w)) : Calls Tryd.prog 28 #[] w fun e w' => e = .returned (.bool true) ∧ Below w.heap.size w w' := by
  have HN := hid (name_any 1 12 w F U)
  rw [nm12] at HN
  have HU : Hid (∀ W, Hid (Lt W) → Calls Tryd.prog 20 #[.string ⟨#[34, 97, 92, 115, 98, 34]⟩] W fun e w' => e = .returned (.tuple #[.string ⟨#[97, 32, 98]⟩, .int .i64 0, .int .i64 0]) ∧ Below W.heap.size W w') := fun W TW => by
    have h := unquote_any qab (by decide) W TW
    rw [unq_ab] at h
    exact h
  have HQ : Hid (∀ W, Hid (Lt W) → Calls Tryd.prog 22 #[.string ⟨#[97, 32, 98]⟩] W fun e w' => e = .returned (.string ⟨#[34, 97, 92, 115, 98, 34]⟩) ∧ Below W.heap.size W w') := fun W TW => by
    have h := quote_any tab (by decide) W TW
    rw [qt_ab] at h
    exact h
  go_enter Tryd.func28, Tryd.ntmps28
  go_wp2_with fail
  refine HN.out.mono ?_
  rintro e w1 ⟨rfl, b1⟩
  have b1h := hid b1
  clear HN b1
  go_wp2_with fail
  refine (HU.out _ (T.out.later b1h.out)).mono ?_
  rintro e w2 ⟨rfl, b2⟩
  have b2h := hid (b1h.out.trans (b2.mono b1h.out.size))
  clear HU b2 b1h
  go_wp2_with fail
  refine (HQ.out _ (T.out.later b2h.out)).mono ?_
  rintro e w3 ⟨rfl, b3⟩
  have b3h := hid (b2h.out.trans (b3.mono b2h.out.size))
  clear HQ b3 b2h
  go_wp2_with fail
  go_ret
  exact ⟨rfl, b3h.out⟩
end Go.Proofs.YtcjlgjlediihoaaDoor.Rw

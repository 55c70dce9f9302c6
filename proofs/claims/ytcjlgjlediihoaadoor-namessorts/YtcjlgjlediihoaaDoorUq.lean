/- appendRead, unwrite, Unquote of the program. -/
import Derived.Test.YtcjlgjlediihoaaDoorUp
namespace Go.Proofs.YtcjlgjlediihoaaDoor.Rw
open Go.ChangeShapes Go.WideShapes Go.ChangeAt Go.RowKit
open Go.Proofs.YtcjlgjlediihoaaDoor.Ut
open Go.Proofs.YtcjlgjlediihoaaDoor.By
set_option linter.unusedVariables false
set_option linter.unusedSimpArgs false

theorem dec_is (s : ByteArray) (p c : Nat) (hp : p < s.size) (hc : c < 128) : (Utf8.decode s p).1 = c ↔ bt s p = c := by
  constructor
  · intro h
    have := dec_lt s p hp (by omega)
    rw [this.2] at h
    exact h
  · intro h
    rw [dec_small s p (by omega)]
    exact h
set_option maxRecDepth 1000000 in
set_option maxHeartbeats 2000000 in
theorem read_any (v : Value) (xs : List Int) (t : ByteArray) (base : Nat) (w : World) (T : Hid (Lt w)) (H : Own w base v xs) (hbase : base ≤ w.heap.size) (h0 : 0 < t.size) (ht : t.size ≤ 1099511627776) (hxl : xs.length ≤ 1099511627776) :
    Calls Tryd.prog 59 #[v, .string t, .int .i32 ((Utf8.decode t 0).1 : Nat)] w fun e w' => ∃ v', e = .returned (.tuple #[v', .int .i64 ((rd t 0).2 : Nat)]) ∧ Own w' base v' (xs ++ (rd t 0).1) ∧ Gr base w w' := by
  have h92 := dec_is t 0 92 h0 (by omega)
  by_cases hb : bt t 0 = 92
  · have hE : rd t 0 = esc t 0 := by unfold rd; rw [if_pos hb]
    have HE := hid (esc_any v xs t base w T H hbase ht hxl)
    rw [hE]
    have hr : (((Utf8.decode t 0).1 : Int) == 92) = true := by simp; have := h92.2 hb; omega
    generalize (Utf8.decode t 0).1 = r at *
    generalize esc t 0 = E at *
    clear H hE h92 hb T
    go_enter Tryd.func59, Tryd.ntmps59
    go_wp2_with fail
    refine HE.out.mono ?_
    rintro e w2 ⟨v2, rfl, O2, G2⟩
    have O2h := hid O2
    have G2h := hid G2
    clear HE O2 G2
    go_wp2_with fail
    go_ret2
    exact ⟨_, rfl, O2h.out, G2h.out⟩
  · have hr : (((Utf8.decode t 0).1 : Int) == 92) = false := by
      simp
      intro h
      exact hb (h92.1 (by omega))
    have HS := hid (stray_any t h0 w)
    have HT := hid (stands_any (Utf8.decode t 0).1 w)
    by_cases hst : Utf8.decode t 0 = (65533, 1)
    · have hE : rd t 0 = ([], 0) := by unfold rd; rw [if_neg hb, if_pos (.inl hst)]
      rw [hE]
      rw [decide_eq_true hst] at HS
      generalize (Utf8.decode t 0).1 = r at *
      have HO := hid H
      clear H hE h92 hb T HT hst
      go_enter Tryd.func59, Tryd.ntmps59
      go_wp2_with fail
      refine HS.out.mono ?_
      rintro e w ⟨rfl, rfl⟩
      clear HS
      go_wp2_with fail
      go_ret2
      exact ⟨_, rfl, by show Own _ _ _ _; simpa using HO.out, Gr.refl _ _⟩
    · rw [decide_eq_false hst] at HS
      cases hpl : plain (Utf8.decode t 0).1 with
      | false =>
        have hE : rd t 0 = ([], 0) := by unfold rd; rw [if_neg hb, if_pos (.inr hpl)]
        rw [hE]
        rw [hpl] at HT
        generalize (Utf8.decode t 0).1 = r at *
        have HO := hid H
        clear H hE h92 hb T hst hpl
        go_enter Tryd.func59, Tryd.ntmps59
        go_wp2_with fail
        refine HS.out.mono ?_
        rintro e w ⟨rfl, rfl⟩
        clear HS
        go_wp2_with fail
        refine HT.out.mono ?_
        rintro e w ⟨rfl, rfl⟩
        clear HT
        go_wp2_with fail
        go_ret2
        exact ⟨_, rfl, by show Own _ _ _ _; simpa using HO.out, Gr.refl _ _⟩
      | true =>
        have hd := dec_rlen t 0 hst
        have hw := dec_wd t 0 h0
        have hE : rd t 0 = (tx (t.extract 0 (rlen (Utf8.decode t 0).1)), rlen (Utf8.decode t 0).1) := by
          unfold rd
          rw [if_neg hb, if_neg (fun h => by rcases h with h | h; exact hst h; rw [hpl] at h; simp at h), Nat.zero_add, hd.1]
        rw [hE]
        rw [hpl] at HT
        have HN := hid (rlen_any (Utf8.decode t 0).1 hd.2.1 hd.2.2 w)
        have hwl : rlen (Utf8.decode t 0).1 ≤ t.size := by rw [← hd.1]; have := hw.2.1; omega
        obtain ⟨v4, w4, r4, O4, g4⟩ := app_text w base v xs (t.extract 0 (rlen (Utf8.decode t 0).1)) H (by rw [ext_size t 0 _ hwl]; omega) hbase
        have O4h := hid O4
        have B4h := hid (Gr.grown H g4 hbase)
        have r4h := hid r4
        clear g4 r4 O4 hE hd hw hst hpl h92 hb T H
        generalize (Utf8.decode t 0).1 = r at *
        generalize rlen r = n at *
        go_enter Tryd.func59, Tryd.ntmps59
        go_wp2_with fail
        refine HS.out.mono ?_
        rintro e w ⟨rfl, rfl⟩
        clear HS
        go_wp2_with fail
        refine HT.out.mono ?_
        rintro e w ⟨rfl, rfl⟩
        clear HT
        go_wp2_with fail
        refine HN.out.mono ?_
        rintro e w ⟨rfl, rfl⟩
        clear HN
        go_wp2_with (at_builtin; refine wpList_append_run rfl _ _ 60 9 rfl _ _ _ rfl rfl r4h.out ?_)
        clear r4h
        go_wp2_with fail
        go_ret2
        exact ⟨_, rfl, O4h.out, B4h.out⟩
theorem un_step (s : ByteArray) (f p : Nat) (acc : List Int) (hp : p < s.size) (hf : s.size ≤ p + f) (h34 : bt s p ≠ 34) (h : (rd s p).2 ≠ 0) : un s f p acc = un s (f - 1) (p + (rd s p).2) (acc ++ (rd s p).1) := by
  obtain ⟨g, rfl⟩ : ∃ g, f = g + 1 := ⟨f - 1, by omega⟩
  rw [un, if_pos hp, if_neg h34, if_neg h]
  rfl
theorem un_bad (s : ByteArray) (f p : Nat) (acc : List Int) (hp : p < s.size) (hf : s.size ≤ p + f) (h34 : bt s p ≠ 34) (h : (rd s p).2 = 0) : un s f p acc = (false, p, []) := by
  obtain ⟨g, rfl⟩ : ∃ g, f = g + 1 := ⟨f - 1, by omega⟩
  rw [un, if_pos hp, if_neg h34, if_pos h]
theorem un_quote (s : ByteArray) (f p : Nat) (acc : List Int) (hp : p < s.size) (hf : s.size ≤ p + f) (h34 : bt s p = 34) : un s f p acc = (decide (p + 1 = s.size), p + 1, acc) := by
  obtain ⟨g, rfl⟩ : ∃ g, f = g + 1 := ⟨f - 1, by omega⟩
  rw [un, if_pos hp, if_pos h34]
theorem un_end (s : ByteArray) (f p : Nat) (acc : List Int) (hp : p = s.size) : un s f p acc = (false, s.size, []) := by
  cases f with
  | zero => rw [un, hp]
  | succ g => rw [un, if_neg (by omega)]
/-- unwrite's answer. -/
def uw (s : ByteArray) : Bool × Nat × List Int := if 1 ≤ s.size ∧ bt s 0 = 34 then un s s.size 1 [] else (false, 0, [])
set_option maxRecDepth 1000000 in
set_option maxHeartbeats 2000000 in
theorem unwrite_any (s : ByteArray) (hs : s.size ≤ 4294967296) (w : World) (T : Hid (Lt w)) :
    Calls Tryd.prog 38 #[.string s] w fun e w' => e = .returned (.tuple #[.string (str (uw s).2.2), .int .i64 ((uw s).2.1 : Nat), .bool (uw s).1]) ∧ Below w.heap.size w w' := by
  have HP := hid (hp_any s dq w)
  have HE := hp_dq s
  have hU : Hid (∃ U, U = uw s) := ⟨_, rfl⟩
  obtain ⟨U, hU0⟩ := hU.out
  rw [← hU0]
  have HU := hid hU0
  clear hU0 hU
  obtain ⟨U1, U2, U3⟩ := U
  by_cases hq : 1 ≤ s.size ∧ bt s 0 = 34
  · rw [HE.2 hq] at HP
    have HU2 : Hid ((U1, U2, U3) = un s s.size 1 []) := by
      show _ = _
      rw [HU.out]
      unfold uw
      rw [if_pos hq]
    obtain ⟨hq1, hq2⟩ := hq
    have hQ2 := hid hq2
    clear HE HU hq2
    unfold dq at HP
    obtain ⟨i0, hi, hz0, hz1, hz2⟩ := info_parts info5
    obtain ⟨wa, hmk, Oa, ga⟩ := run_make_own (P := Tryd.prog) (w := w) w.heap.size 60 5 i0 (.int .u8 0) 1 Tryd.underlying60 hi hz0 hz1 .i64 .i64 s.size (by rw [hz2]; omega) (by unfold maxLen; omega) (Nat.le_refl _)
    have Ba : Below w.heap.size w wa := (Below.refl _ _).grown ga (Nat.le_refl _) (fun k hk => nomatch hk)
    have Oa2 : Own wa w.heap.size (.slice (some ⟨w.heap.size, 0, none⟩) 0 s.size) [] := Oa
    generalize (Value.slice (some ⟨w.heap.size, 0, none⟩) 0 s.size) = va at hmk Oa2
    obtain ⟨it, hit⟩ : ∃ it, Hid (it = wa.heap.size) := ⟨_, rfl⟩
    have hitb : w.heap.size ≤ it := by rw [hit.out]; exact Ba.size
    have I1 : Hid ((wa.iter s 0).heap[it]? = some (.stringIter s 0)) := by
      show _ = _
      rw [hit.out]
      exact World.iter_heap wa s 0
    have O2 := hid (Oa2.later (iter_below wa s 0))
    have B2 := hid (Ba.trans ((iter_below wa s 0).mono Ba.size))
    clear Oa Oa2 ga Ba hi hz0 hz1 hz2
    go_enter Tryd.func38, Tryd.ntmps38
    go_wp2_with fail
    refine HP.out.mono ?_
    rintro e w ⟨rfl, rfl⟩
    clear HP
    go_wp2_with fail
    clear hmk
    rw [← hit.out]
    generalize wa.iter s 0 = w2 at *
    clear hit
    go_loopw [2, 3, 4, 5, 6] (fun x2 x3 x4 b nx wr => ∃ (pos m f : Nat) (acc : List Int), x2 = .string ⟨#[]⟩ ∧ x3 = .int .i64 0 ∧ x4 = .bool false ∧ nx = .int .i64 (m : Int) ∧ pos ≤ m ∧ m ≤ s.size ∧ s.size ≤ m + f ∧ acc.length ≤ m ∧ Hid (∀ j, pos ≤ j → j < m → bt s j < 128) ∧ Hid ((U1, U2, U3) = un s f m acc) ∧ Hid (wr.heap[it]? = some (.stringIter s pos)) ∧ Hid (Own wr w.heap.size b acc) ∧ Hid (Below w.heap.size w wr)) (fun _ _ _ _ _ wr => s.size - wr.iterPos it)
    case atStart => exact ⟨0, 1, s.size, [], rfl, rfl, rfl, rfl, by omega, hq1, by omega, by simp, fun j h1 h2 => by (have : j = 0 := by omega); subst this; rw [hQ2.out]; omega, HU2.out, I1.out, O2.out, B2.out⟩
    case round =>
      clear HU2 I1 O2 B2 hQ2 hq1
      obtain ⟨pos, m, f, acc, rfl, rfl, rfl, rfl, hpm, hms, hf, hal, hasc, HU, HI, HO, HB⟩ := hrel
      have hpos : wr.iterPos it = pos := by unfold World.iterPos; rw [HI.out]
      by_cases hp : pos < s.size
      · have hnx := fun ty => Lib.run_next_any_at (P := Tryd.prog) wr it s pos ty HI.out hp
        have hw := dec_wd s pos hp
        have HI2 : Hid ((wr.iterAt it s (pos + (Utf8.decode s pos).2)).heap[it]? = some (.stringIter s (pos + (Utf8.decode s pos).2))) := Lib.iterAt_heap wr it s pos _ HI.out
        have HB2 := hid (below_iter HB.out it s (pos + (Utf8.decode s pos).2) hitb)
        have HO2 := hid (HO.out.iterAt HI.out (pos + (Utf8.decode s pos).2))
        by_cases hlt : pos < m
        · have hd := dec_small s pos (hasc.out pos (by omega) hlt)
          rw [hd] at hnx HI2 HB2 HO2
          have hasc2 : Hid (∀ j, pos + 1 ≤ j → j < m → bt s j < 128) := fun j a b => hasc.out j (by omega) b
          clear HI HO HB hw hd hasc
          go_wp2_with fail
          go_roundw
          case rel => exact ⟨pos + 1, m, f, acc, rfl, rfl, rfl, rfl, by omega, hms, hf, hal, hasc2.out, HU.out, HI2.out, HO2.out, HB2.out⟩
          case measure =>
            have hpos2 : (wr.iterAt it s (pos + 1)).iterPos it = pos + 1 := by unfold World.iterPos; rw [HI2.out]
            rw [hpos, hpos2]
            omega
        · obtain rfl : pos = m := by omega
          have h34 := dec_is s pos 34 hp (by omega)
          by_cases hb : bt s pos = 34
          · obtain ⟨rfl, rfl, rfl⟩ : U1 = decide (pos + 1 = s.size) ∧ U2 = pos + 1 ∧ U3 = acc := by
              have h := HU.out
              rw [un_quote s f pos acc hp hf hb] at h
              simpa using h
            have hd := dec_small s pos (by omega)
            rw [hd, hb] at hnx
            rw [hd] at HB2 HO2
            have hcv := HO2.out.conv
            have hB3 := HB2
            clear HI HO HB hw hd hasc HU h34 hb HI2 HO2
            by_cases he : pos + 1 = s.size
            · skip
              have hz : (((pos : Int) + 1) == (s.size : Int)) = true := by simp; omega
              have heh := hid he
              clear he
              go_wp2_with fail
              go_ret3
              exact ⟨by first | rfl | (simp; exact heh.out), hB3.out⟩
            · skip
              have hz : (((pos : Int) + 1) == (s.size : Int)) = false := by simp; omega
              have heh := hid he
              clear he
              go_wp2_with fail
              go_ret3
              exact ⟨by first | rfl | (simp; exact heh.out), hB3.out⟩
          · have hsz := ext_size s pos s.size (Nat.le_refl _)
            have hrd := rd_ext s pos hp
            have hde := dec_ext s pos (by omega)
            have HP0 := read_any u5 acc (s.extract pos s.size) w.heap.size (wr.iterAt it s (pos + (Utf8.decode s pos).2)) (T.out.later HB2.out) HO2.out HB2.out.size (by omega) (by omega) (by omega)
            rw [hrd, hde] at HP0
            have HP := hid HP0
            have hr34 : (((Utf8.decode s pos).1 : Int) == 34) = false := by
              simp
              intro h
              exact hb (h34.1 (by omega))
            by_cases hz : (rd s pos).2 = 0
            · obtain ⟨rfl, rfl, rfl⟩ : U1 = false ∧ pos = U2 ∧ U3 = [] := by
                have h := HU.out
                rw [un_bad s f pos acc hp hf hb hz] at h
                simp at h
                exact ⟨h.1, h.2.1.symm, h.2.2⟩
              have hzz : (((rd s pos).2 : Int) == 0) = true := by simp; omega
              generalize hrr : rd s pos = R at *
              clear hrr
              generalize hdd : Utf8.decode s pos = d at hnx HP HB2 HO2 HI2 hr34 hw
              clear hdd
              obtain ⟨r, wd⟩ := d
              clear HP0 HI HO HB hw hasc HU h34 hb HI2 HO2 hsz hrd hde hz
              go_wp2_with fail
              refine HP.out.mono ?_
              rintro e w4 ⟨v4, rfl, O4, G4⟩
              have B4 := hid (HB2.out.trans G4.1)
              clear HP HB2 G4 O4 hnx
              go_wp2_with fail
              go_ret3
              exact ⟨rfl, B4.out⟩
            · have hR := rd_spec s pos hp hz
              have HU2 : Hid ((U1, U2, U3) = un s (f - 1) (pos + (rd s pos).2) (acc ++ (rd s pos).1)) := by
                show _ = _
                rw [HU.out, un_step s f pos acc hp hf hb hz]
              have hzz : (((rd s pos).2 : Int) == 0) = false := by simp; omega
              generalize hrr : rd s pos = R at *
              clear hrr
              generalize hdd : Utf8.decode s pos = d at hnx HP HB2 HO2 HI2 hr34 hw hR
              clear hdd
              obtain ⟨r, wd⟩ := d
              obtain ⟨R1, R2⟩ := R
              have hR1 : 1 ≤ R2 := hR.1
              have hR2 : pos + R2 ≤ s.size := hR.2.1
              have hR3 : wd ≤ R2 := hR.2.2.1
              have hR4 : Hid (∀ j, pos + wd ≤ j → j < pos + R2 → bt s j < 128) := hR.2.2.2.1
              have hR5 : R1.length ≤ R2 := hR.2.2.2.2
              have hw1 : 1 ≤ wd := hw.1
              clear HP0 HI HO HB hw hasc HU h34 hb HO2 hsz hrd hde hz hR
              go_wp2_with fail
              refine HP.out.mono ?_
              rintro e w4 ⟨v4, rfl, O4, G4⟩
              have O4h := hid O4
              have I4 := hid (G4.iter HI2.out)
              have B4 := hid (HB2.out.trans G4.1)
              clear HP HB2 G4 O4 hnx HI2
              go_wp2_with fail
              go_roundw
              case rel => exact ⟨pos + wd, pos + R2, f - 1, acc ++ R1, rfl, rfl, rfl, by go_num, by omega, hR2, by omega, by rw [List.length_append]; omega, hR4.out, HU2.out, I4.out, O4h.out, B4.out⟩
              case measure =>
                have hpos2 : w4.iterPos it = pos + wd := by unfold World.iterPos; rw [I4.out]
                rw [hpos, hpos2]
                omega
      · have hnx := fun ty => Lib.run_next_end_at (P := Tryd.prog) wr it s pos ty HI.out hp
        obtain ⟨rfl, rfl, rfl⟩ : U1 = false ∧ U2 = s.size ∧ U3 = [] := by
          have h := HU.out
          rw [un_end s f m acc (by omega)] at h
          simpa using h
        clear HI HO HU hasc
        go_wp2_with fail
        go_ret3
        exact ⟨rfl, HB.out⟩
  · have e : hp s dq = false := by
      cases h : hp s dq
      · rfl
      · exact absurd (HE.1 h) hq
    rw [e] at HP
    obtain ⟨rfl, rfl, rfl⟩ : U1 = false ∧ U2 = 0 ∧ U3 = [] := by
      have h := HU.out
      unfold uw at h
      rw [if_neg hq] at h
      simpa using h
    clear HE HU e hq
    unfold dq at HP
    go_enter Tryd.func38, Tryd.ntmps38
    go_wp2_with fail
    refine HP.out.mono ?_
    rintro e w ⟨rfl, rfl⟩
    clear HP
    go_wp2_with fail
    go_ret3
    exact ⟨rfl, Below.refl _ _⟩
/-- Unquote's answer. -/
def unq (s : ByteArray) : ByteArray × Nat × Nat :=
  if (uw s).1 = true then (if str (qt (str (uw s).2.2)) = s then (str (uw s).2.2, 0, 0) else (⟨#[]⟩, 0, 61)) else (⟨#[]⟩, (uw s).2.1, 61)
theorem un_len (s : ByteArray) : ∀ f p acc, p ≤ s.size → acc.length ≤ p → (un s f p acc).2.2.length ≤ s.size := by
  intro f
  induction f with
  | zero => intro p acc _ _; simp [un]
  | succ f ih =>
    intro p acc h1 h2
    unfold un
    by_cases hp : p < s.size
    · rw [if_pos hp]
      by_cases h34 : bt s p = 34
      · rw [if_pos h34]; show acc.length ≤ _; omega
      · rw [if_neg h34]
        by_cases hz : (rd s p).2 = 0
        · rw [if_pos hz]; simp
        · rw [if_neg hz]
          have := rd_spec s p hp hz
          exact ih _ _ this.2.1 (by rw [List.length_append]; omega)
    · rw [if_neg hp]; simp
theorem uw_len (s : ByteArray) : (uw s).2.2.length ≤ s.size := by
  unfold uw
  by_cases h : 1 ≤ s.size ∧ bt s 0 = 34
  · rw [if_pos h]; exact un_len s _ _ _ h.1 (by simp)
  · rw [if_neg h]; simp
set_option maxRecDepth 1000000 in
set_option maxHeartbeats 2000000 in
theorem unquote_any (s : ByteArray) (hs : s.size ≤ 4294967296) (w : World) (T : Hid (Lt w)) :
    Calls Tryd.prog 20 #[.string s] w fun e w' => e = .returned (.tuple #[.string (unq s).1, .int .i64 ((unq s).2.1 : Nat), .int .i64 ((unq s).2.2 : Nat)]) ∧ Below w.heap.size w w' := by
  have HU := hid (unwrite_any s hs w T)
  have hl := uw_len s
  have hE : Hid (unq s = if (uw s).1 = true then (if str (qt (str (uw s).2.2)) = s then (str (uw s).2.2, 0, 0) else (⟨#[]⟩, 0, 61)) else (⟨#[]⟩, (uw s).2.1, 61)) := rfl
  generalize unq s = E at *
  generalize uw s = U at *
  obtain ⟨U1, U2, U3⟩ := U
  obtain ⟨E1, E2, E3⟩ := E
  have hl : U3.length ≤ s.size := hl
  have hss : (str U3).size = U3.length := str_size _
  cases U1 with
  | false =>
    obtain ⟨rfl, rfl, rfl⟩ : E1 = ⟨#[]⟩ ∧ E2 = U2 ∧ E3 = 61 := by
      have h := hE.out
      rw [if_neg (by simp)] at h
      simpa using h
    clear hE hss
    go_enter Tryd.func20, Tryd.ntmps20
    go_wp2_with fail
    refine HU.out.mono ?_
    rintro e w1 ⟨rfl, b1⟩
    have b1h := hid b1
    clear HU b1
    go_wp2_with fail
    go_ret3
    exact ⟨rfl, b1h.out⟩
  | true =>
    have HQ : Hid (∀ W, Hid (Lt W) → Calls Tryd.prog 22 #[.string (str U3)] W fun e w' => e = .returned (.string (str (qt (str U3)))) ∧ Below W.heap.size W w') := fun W TW => quote_any (str U3) (by omega) W TW
    have hE2 : Hid ((E1, E2, E3) = if str (qt (str U3)) = s then (str U3, 0, 0) else (⟨#[]⟩, 0, 61)) := by
      show _ = _
      rw [hE.out]
      rfl
    generalize qt (str U3) = Q at *
    clear hE
    by_cases hq : str Q = s
    · obtain ⟨rfl, rfl, rfl⟩ : E1 = str U3 ∧ E2 = 0 ∧ E3 = 0 := by
        have h := hE2.out
        rw [if_pos hq] at h
        simpa using h
      rw [hq] at HQ
      clear hE2 hq
      go_enter Tryd.func20, Tryd.ntmps20
      go_wp2_with fail
      refine HU.out.mono ?_
      rintro e w1 ⟨rfl, b1⟩
      have b1h := hid b1
      clear HU b1
      go_wp2_with fail
      refine (HQ.out _ (T.out.later b1h.out)).mono ?_
      rintro e w2 ⟨rfl, b2⟩
      have b2h := hid (b1h.out.trans (b2.mono b1h.out.size))
      clear HQ b2 b1h
      go_wp2_with fail
      go_ret3
      exact ⟨rfl, b2h.out⟩
    · obtain ⟨rfl, rfl, rfl⟩ : E1 = ⟨#[]⟩ ∧ E2 = 0 ∧ E3 = 61 := by
        have h := hE2.out
        rw [if_neg hq] at h
        simpa using h
      have hne : ((str Q).toList == s.toList) = false := by
        have hne0 : ¬ (str Q).toList = s.toList := fun h => hq (toList_inj h)
        simpa using hne0
      clear hE2 hq
      go_enter Tryd.func20, Tryd.ntmps20
      go_wp2_with fail
      refine HU.out.mono ?_
      rintro e w1 ⟨rfl, b1⟩
      have b1h := hid b1
      clear HU b1
      go_wp2_with fail
      refine (HQ.out _ (T.out.later b1h.out)).mono ?_
      rintro e w2 ⟨rfl, b2⟩
      have b2h := hid (b1h.out.trans (b2.mono b1h.out.size))
      clear HQ b2 b1h
      go_wp2_with fail
      go_ret3
      exact ⟨rfl, b2h.out⟩
end Go.Proofs.YtcjlgjlediihoaaDoor.Rw

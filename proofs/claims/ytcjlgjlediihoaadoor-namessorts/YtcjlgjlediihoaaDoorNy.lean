/- Name of whatever; value; Current. -/
import Derived.Test.YtcjlgjlediihoaaDoorNf
namespace Go.Proofs.YtcjlgjlediihoaaDoor.Rw
open Go.ChangeShapes Go.WideShapes Go.ChangeAt Go.RowKit
open Go.Proofs.YtcjlgjlediihoaaDoor.Ut
open Go.Proofs.YtcjlgjlediihoaaDoor.By
set_option linter.unusedVariables false
set_option linter.unusedSimpArgs false

set_option maxRecDepth 1000000 in
theorem name_any (kind number : Int) (w : World) (T : Hid (Fm w)) (U : Hid (Tb w)) : Calls Tryd.prog 9 #[.int .i64 kind, .int .i64 number] w fun e w' => e = .returned (.tuple #[.string (nm kind number).1, .int .i64 (nm kind number).2]) ∧ Below w.heap.size w w' := by
  by_cases h : 1 ≤ number ∧ number ≤ 2147483647
  · obtain ⟨n, rfl⟩ : ∃ n : Nat, number = n := ⟨number.toNat, by omega⟩
    exact name_num kind n (by omega) (by omega) w T U
  · by_cases h4 : kind = 4 ∧ number = 0
    · obtain ⟨rfl, rfl⟩ := h4
      clear h
      go_enter Tryd.func9, Tryd.ntmps9
      go_wp2_with fail
      go_ret2
      exact ⟨rfl, Below.refl _ _⟩
    · have hr : Hid (nm kind number = (⟨#[]⟩, 60)) := by
        show _ = _
        unfold nm
        rw [if_neg h4, if_pos (by omega)]
      obtain ⟨R, hR⟩ : ∃ R, R = nm kind number := ⟨_, rfl⟩
      rw [← hR]
      rw [← hR] at hr
      clear hR
      by_cases hk : kind = 4
      · have hn : ¬ number = 0 := fun e => h4 ⟨hk, e⟩
        clear h4
        by_cases h1 : number < 1
        · clear h
          go_enter Tryd.func9, Tryd.ntmps9
          go_wp2_with fail
          go_ret2
          exact ⟨by rw [hr.out]; rfl, Below.refl _ _⟩
        · have h2 : 2147483647 < number := by omega
          clear h
          go_enter Tryd.func9, Tryd.ntmps9
          go_wp2_with fail
          go_ret2
          exact ⟨by rw [hr.out]; rfl, Below.refl _ _⟩
      · clear h4
        by_cases h1 : number < 1
        · clear h
          go_enter Tryd.func9, Tryd.ntmps9
          go_wp2_with fail
          go_ret2
          exact ⟨by rw [hr.out]; rfl, Below.refl _ _⟩
        · have h2 : 2147483647 < number := by omega
          clear h
          go_enter Tryd.func9, Tryd.ntmps9
          go_wp2_with fail
          go_ret2
          exact ⟨by rw [hr.out]; rfl, Below.refl _ _⟩
/-- What value reads. -/
def vf : List UInt8 → Nat → Nat
  | [], n => n
  | c :: t, n => if c.toNat < 48 ∨ 57 < c.toNat then 0 else if (2147483647 - (c.toNat - 48)) / 10 < n then 0 else vf t (n * 10 + (c.toNat - 48))
theorem drop_bt (s : ByteArray) (p : Nat) (h : p < s.size) : ∃ c : UInt8, s.data.toList.drop p = c :: s.data.toList.drop (p + 1) ∧ c.toNat = bt s p := by
  have hl : p < s.data.toList.length := by
    rw [Array.length_toList]
    exact h
  exact ⟨s.data.toList[p], List.drop_eq_getElem_cons hl, bt_data s p hl⟩
theorem vf_big (s : ByteArray) (p n : Nat) (h : p < s.size) (hb : bt s p < 48 ∨ 57 < bt s p) : vf (s.data.toList.drop p) n = 0 := by
  obtain ⟨c, e, hc⟩ := drop_bt s p h
  rw [e, vf, hc, if_pos hb]
theorem vf_over (s : ByteArray) (p n : Nat) (h : p < s.size) (hb : ¬ (bt s p < 48 ∨ 57 < bt s p)) (ho : (2147483647 - (bt s p - 48)) / 10 < n) : vf (s.data.toList.drop p) n = 0 := by
  obtain ⟨c, e, hc⟩ := drop_bt s p h
  rw [e, vf, hc, if_neg hb, if_pos ho]
theorem vf_on (s : ByteArray) (p n : Nat) (h : p < s.size) (hb : ¬ (bt s p < 48 ∨ 57 < bt s p)) (ho : ¬ (2147483647 - (bt s p - 48)) / 10 < n) : vf (s.data.toList.drop p) n = vf (s.data.toList.drop (p + 1)) (n * 10 + (bt s p - 48)) := by
  obtain ⟨c, e, hc⟩ := drop_bt s p h
  rw [e, vf, hc, if_neg hb, if_neg ho]
theorem vf_end (s : ByteArray) (p n : Nat) (h : ¬ p < s.size) : vf (s.data.toList.drop p) n = n := by
  have : s.data.toList.drop p = [] := List.drop_eq_nil_of_le (by rw [Array.length_toList]; exact Nat.le_of_not_lt h)
  rw [this, vf]
set_option maxRecDepth 1000000 in
set_option maxHeartbeats 1000000 in
theorem value_any (s : ByteArray) (hs : s.size ≤ 281474976710656) (w : World) :
    Calls Tryd.prog 31 #[.string s] w fun e w' => e = .returned (.int .i64 (vf s.data.toList 0 : Nat)) ∧ Below w.heap.size w w' := by
  obtain ⟨V, hV⟩ : ∃ V : Nat, V = vf s.data.toList 0 := ⟨_, rfl⟩
  rw [← hV]
  have HV := hid hV
  clear hV
  go_enter Tryd.func31, Tryd.ntmps31
  go_wp2
  go_loopw [3] (fun n w' => ∃ (pos m : Nat), w' = w.iter s pos ∧ n = .int .i64 (m : Int) ∧ pos ≤ s.size ∧ m ≤ 2147483647 ∧ Hid (V = vf (s.data.toList.drop pos) m)) (fun _ w' => s.size - w'.iterPos w.heap.size)
  case atStart => exact ⟨0, 0, rfl, rfl, by omega, by omega, by show _ = _; rw [List.drop_zero]; exact HV.out⟩
  case round =>
    obtain ⟨pos, m, rfl, rfl, hps, hm, hq⟩ := hrel
    by_cases hp : pos < s.size
    · have hnx : ∀ ty, (Instr.next (.pointer (some ⟨w.heap.size, 0, none⟩)) true ty).run Tryd.prog (w.iter s pos) = _ := fun ty => run_next_any w s pos ty hp
      have hib := hid (fun p => iter_below w s p)
      by_cases hb : bt s pos < 128
      · have hd := dec_small s pos hb
        rw [hd] at hnx
        clear hd
        have HB := hid (vf_big s pos m hp)
        have HO := hid (vf_over s pos m hp)
        have HN := hid (vf_on s pos m hp)
        generalize bt s pos = b at hnx hb HB HO HN
        by_cases hb1 : (b : Int) < 48
        · go_wp2
          go_ret
          exact ⟨by rw [hq.out, HB.out (by omega)]; rfl, hib.out _⟩
        · by_cases hb2 : 57 < (b : Int)
          · go_wp2
            go_ret
            exact ⟨by rw [hq.out, HB.out (by omega)]; rfl, hib.out _⟩
          · obtain ⟨d, hd⟩ : ∃ d : Nat, d = b - 48 := ⟨_, rfl⟩
            have hbd : (b : Int) - 48 = (d : Int) := by omega
            have hd9 : d ≤ 9 := by omega
            have hdh := hid hd
            clear hd
            have hqt : (2147483647 - (d : Int)).tdiv 10 = ((2147483647 - d) / 10 : Nat) := by
              have e : (2147483647 - (d : Int)) = ((2147483647 - d : Nat) : Int) := by omega
              rw [e]
              rfl
            go_wp2
            · go_ret
              have hov : (2147483647 - (b - 48)) / 10 < m := by rw [← hdh.out]; omega
              exact ⟨by rw [hq.out, HO.out (by omega) hov]; rfl, hib.out _⟩
            · have hov : ¬ (2147483647 - (b - 48)) / 10 < m := by rw [← hdh.out]; omega
              refine ⟨⟨pos + 1, m * 10 + d, rfl, by push_cast; rfl, by omega, by omega, ?_⟩, ?_⟩
              · show _ = _
                rw [hq.out, HN.out (by omega) hov, ← hdh.out]
              · simp only [World.iterPos_iter]
                omega
      · have hd2 : 57 < (Utf8.decode s pos).1 := by
          rcases Nat.lt_or_ge (Utf8.decode s pos).1 128 with h | h
          · exact absurd (dec_lt s pos hp h).1 hb
          · omega
        have HB := hid (vf_big s pos m hp (by omega))
        have hle := dec_le s pos
        generalize Utf8.decode s pos = d at hnx hd2 hle
        obtain ⟨r, wd⟩ := d
        have hd3 : 57 < (r : Int) := by simp only at hd2; omega
        have hle2 : (r : Int) ≤ 1114111 := by simp only at hle; omega
        have hd4 : ¬ (r : Int) < 48 := by omega
        go_wp2
        go_ret
        exact ⟨by rw [hq.out, HB.out]; rfl, hib.out _⟩
    · have hnx : ∀ ty, (Instr.next (.pointer (some ⟨w.heap.size, 0, none⟩)) true ty).run Tryd.prog (w.iter s pos) = _ := fun ty => run_next_end w s pos ty hp
      have hN := hid (vf_end s pos m hp)
      go_wp2
      go_ret
      exact ⟨by rw [hq.out, hN.out]; rfl, iter_below w s pos⟩
end Go.Proofs.YtcjlgjlediihoaaDoor.Rw

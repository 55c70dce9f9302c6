/- The document's less by its contract. -/
import Derived.Test.YtcjlgjlediihoaaDoorCo
namespace Go.Proofs.YtcjlgjlediihoaaDoor.Rl
open Go.ChangeShapes Go.WideShapes Go.ChangeAt Go.RowKit
open Go.Proofs.YtcjlgjlediihoaaDoor.Gr
open Go.Proofs.YtcjlgjlediihoaaDoor.Rw
open Go.Proofs.YtcjlgjlediihoaaDoor.Cf
open Go.Lib (compareBytes compareInt)
set_option linter.unusedVariables false
set_option linter.unusedSimpArgs false

theorem bl_cb : ∀ s t : List UInt8, Op.bytesLess s t = decide (compareBytes s t < 0)
  | [], [] => rfl
  | [], _ :: _ => rfl
  | _ :: _, [] => rfl
  | x :: s, y :: t => by
    unfold Op.bytesLess compareBytes
    have ih := bl_cb s t
    have e1 : ∀ x y : UInt8, (x < y) = (x.toNat < y.toNat) := fun _ _ => rfl
    rcases u8_tri x y with h | h | h
    · simp [h]
    · have h2 : ¬ x < y := fun k => by have h3 : y.toNat < x.toNat := h; have h4 : x.toNat < y.toNat := k; omega
      have h3 : x ≠ y := fun e => by subst e; exact h2 h
      simp [h, h2, h3]
    · subst h
      have h2 : ¬ x < x := fun k => by have h4 : x.toNat < x.toNat := k; omega
      simp [h2, ih]
theorem pz_some (s : ByteArray) : ∃ k n e, Pz s k n e := by
  by_cases hc : s = cur
  · exact ⟨4, 0, 0, .inl ⟨hc, rfl, rfl, rfl⟩⟩
  · by_cases h0 : hit 0 s
    · exact ⟨_, _, _, .inr ⟨hc, .inl ⟨0, by omega, h0, (fun j hj => by omega), rfl, rfl, rfl⟩⟩⟩
    · by_cases h1 : hit 1 s
      · exact ⟨_, _, _, .inr ⟨hc, .inl ⟨1, by omega, h1, (fun j hj => by obtain rfl : j = 0 := by omega
                                                                         exact h0), rfl, rfl, rfl⟩⟩⟩
      · by_cases h2 : hit 2 s
        · exact ⟨_, _, _, .inr ⟨hc, .inl ⟨2, by omega, h2, (fun j hj => by
            rcases (by omega : j = 0 ∨ j = 1) with rfl | rfl
            · exact h0
            · exact h1), rfl, rfl, rfl⟩⟩⟩
        · by_cases h3 : hit 3 s
          · exact ⟨_, _, _, .inr ⟨hc, .inl ⟨3, by omega, h3, (fun j hj => by
              rcases (by omega : j = 0 ∨ j = 1 ∨ j = 2) with rfl | rfl | rfl
              · exact h0
              · exact h1
              · exact h2), rfl, rfl, rfl⟩⟩⟩
          · exact ⟨_, _, _, .inr ⟨hc, .inr ⟨(fun j hj => by
              rcases (by omega : j = 0 ∨ j = 1 ∨ j = 2 ∨ j = 3) with rfl | rfl | rfl | rfl
              · exact h0
              · exact h1
              · exact h2
              · exact h3), rfl, rfl, rfl⟩⟩⟩
/-- What the document's Parse answers, and the order's kind and number. -/
theorem rz_pr (s : ByteArray) (k n e : Int) (h : Rz s k n e) : (e = 0 ∧ pr s = (k, n) ∧ k ≤ 5) ∨ (e = 60 ∧ pr s = (6, 0)) := by
  obtain ⟨k0, n0, e0, h0⟩ := pz_some s
  obtain ⟨h1, h2, h3⟩ := alike s k0 n0 e0 k n e h0 h
  subst h1 h2 h3
  rcases pz_pr s _ _ _ h0 with ⟨p1, p2⟩ | ⟨p1, p2⟩
  · refine .inl ⟨p1, p2, ?_⟩
    rcases h with ⟨j, _, hj5, _, rfl, _, _⟩ | ⟨_, _, _, h6⟩
    · omega
    · omega
  · exact .inr ⟨p1, p2⟩
theorem same_name (a b : ByteArray) (k n : Int) (ha : Rz a k n 0) (hb : Rz b k n 0) : a = b := by
  rcases ha with ⟨j, _, _, h1, rfl, h2, _⟩ | ⟨_, _, _, h⟩
  · rcases hb with ⟨j', _, _, k1, hj, k2, _⟩ | ⟨_, _, _, h⟩
    · rw [← h2] at h1
      rw [← k2, ← hj] at k1
      rw [h1] at k1
      exact congrArg Prod.fst k1
    · cases h
  · cases h
theorem cb_self (s : List UInt8) : compareBytes s s = 0 := by have := cb_neg s s; omega
theorem less_eq (a b : ByteArray) (k n e l m f : Int) (ha : Rz a k n e) (hb : Rz b l m f) : decide (cf a b < 0) = if e ≠ f then decide (e = 0) else if e ≠ 0 then Op.bytesLess a.data.toList b.data.toList else (decide (k < l) || (decide (k = l) && decide (n < m))) := by
  have hc := cf_lt a b
  rw [bl_cb]
  rcases rz_pr a k n e ha with ⟨rfl, pa, hk⟩ | ⟨rfl, pa⟩
  · rcases rz_pr b l m f hb with ⟨rfl, pb, hl⟩ | ⟨rfl, pb⟩
    · rw [pa, pb] at hc
      simp only at hc
      rw [if_neg (by simp), if_neg (by simp), Bool.eq_iff_iff, decide_eq_true_iff, hc, Bool.or_eq_true, Bool.and_eq_true, decide_eq_true_iff, decide_eq_true_iff, decide_eq_true_iff]
      constructor
      · rintro (h | ⟨h1, h2 | ⟨h3, h4⟩⟩)
        · exact .inl h
        · exact .inr ⟨h1, h2⟩
        · subst h1 h3
          have := same_name a b k n ha hb
          subst this
          rw [cb_self] at h4
          omega
      · rintro (h | ⟨h1, h2⟩)
        · exact .inl h
        · exact .inr ⟨h1, .inl h2⟩
    · rw [pa, pb] at hc
      simp only at hc
      rw [if_pos (by decide), Bool.eq_iff_iff, decide_eq_true_iff, hc]
      have : k < 6 := by omega
      simp [this]
  · rcases rz_pr b l m f hb with ⟨rfl, pb, hl⟩ | ⟨rfl, pb⟩
    · rw [pa, pb] at hc
      simp only at hc
      rw [if_pos (by decide), Bool.eq_iff_iff, decide_eq_true_iff, hc]
      have h1 : ¬ (6 : Int) < l := by omega
      have h2 : ¬ (6 : Int) = l := by omega
      simp [h1, h2]
    · rw [pa, pb] at hc
      simp only at hc
      rw [if_neg (by simp), if_pos (by decide), Bool.eq_iff_iff, decide_eq_true_iff, hc]
      simp
set_option maxRecDepth 100000 in
theorem less_any (a b : ByteArray) (ha : a.size ≤ 281474976710656) (hb : b.size ≤ 281474976710656) (w : World) : Calls Tryd.prog 37 #[.string a, .string b] w fun e w' => e = .returned (.bool (decide (cf a b < 0))) ∧ Below w.heap.size w w' := by
  have c1 := hid (rparse_any a ha w)
  have c2 := hid (fun W => rparse_any b hb W)
  have hls := less_eq a b
  have htl : a.toList = a.data.toList := ByteArray.toList_eq _
  have htb : b.toList = b.data.toList := ByteArray.toList_eq _
  rw [← htl, ← htb] at hls
  replace htl := hid htl
  replace htb := hid htb
  go_enter Tryd.func37, Tryd.ntmps37
  go_wp2_with fail
  refine c1.out.mono ?_
  rintro e w1 ⟨k, n, e1, rfl, p1, B1⟩
  replace B1 := hid B1
  go_wp2_with fail
  refine (c2.out w1).mono ?_
  rintro e w2 ⟨l, m, f1, rfl, p2, B2⟩
  have hb2 := (hls k n e1 l m f1 p1.out p2.out)
  have B3 := hid (Below.up B1.out B2)
  clear c1 c2 hls p1 p2 B1 B2
  by_cases he : e1 = f1
  · subst he
    have h1 : (e1 != e1) = false := by simp
    rw [if_neg (by simp)] at hb2
    by_cases h0 : e1 = 0
    · subst h0
      have h2 : ((0 : Int) != 0) = false := rfl
      rw [if_neg (by simp)] at hb2
      by_cases hkl : k < l
      · rw [decide_eq_true hkl, Bool.true_or] at hb2
        replace hb2 := hid hb2
        go_wp2_with fail
        go_ret
        exact ⟨by show Ending.returned (.bool _) = _; rw [hb2.out], B3.out⟩
      · rw [decide_eq_false hkl, Bool.false_or] at hb2
        by_cases hke : k = l
        · subst hke
          have h3 : (k == k) = true := by simp
          rw [decide_eq_true rfl, Bool.true_and] at hb2
          replace hb2 := hid hb2
          go_wp2_with fail
          go_ret
          exact ⟨by show Ending.returned (.bool _) = _; rw [hb2.out], B3.out⟩
        · have h3 : (k == l) = false := by simpa using hke
          rw [decide_eq_false hke, Bool.false_and] at hb2
          replace hb2 := hid hb2
          go_wp2_with fail
          go_ret
          exact ⟨by show Ending.returned (.bool _) = _; rw [hb2.out, decide_eq_false (show ¬ k < l by omega)], B3.out⟩
    · have h2 : (e1 != 0) = true := by simpa using h0
      rw [if_pos h0] at hb2
      replace hb2 := hid hb2
      replace h0 := hid h0
      go_wp2_with fail
      go_ret
      exact ⟨by show Ending.returned (.bool _) = _; rw [hb2.out], B3.out⟩
  · have h1 : (e1 != f1) = true := by simpa using he
    rw [if_pos he] at hb2
    replace hb2 := hid hb2
    replace he := hid he
    go_wp2_with fail
    go_ret
    exact ⟨by show Ending.returned (.bool _) = _; rw [hb2.out]; rfl, B3.out⟩
end Go.Proofs.YtcjlgjlediihoaaDoor.Rl

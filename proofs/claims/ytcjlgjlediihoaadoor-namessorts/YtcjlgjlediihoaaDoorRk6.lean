/- rank: the kind and number by which Sort orders. -/
import Derived.Test.YtcjlgjlediihoaaDoorPs
namespace Go.Proofs.YtcjlgjlediihoaaDoor.Rw
open Go.ChangeShapes Go.WideShapes Go.ChangeAt Go.RowKit
open Go.Proofs.YtcjlgjlediihoaaDoor.Ut
open Go.Proofs.YtcjlgjlediihoaaDoor.By
set_option linter.unusedVariables false
set_option linter.unusedSimpArgs false

/-- The number that stands in a text. -/
def nv (s : ByteArray) : Int := (ds s.data.toList 0 : Nat)
/-- The kind and number by which a text stands in its place; 6 and 0: it is no name. -/
def pr (s : ByteArray) : Int × Int :=
  if nm 1 (nv s) = (s, 0) then (1, nv s) else if nm 2 (nv s) = (s, 0) then (2, nv s) else if nm 3 (nv s) = (s, 0) then (3, nv s) else if nm 4 (nv s) = (s, 0) then (4, nv s) else if nm 5 (nv s) = (s, 0) then (5, nv s) else (6, 0)
theorem pr_rz (s : ByteArray) : (Rz s (pr s).1 (pr s).2 0 ∧ (pr s).1 ≤ 5) ∨ (Rz s 0 0 60 ∧ pr s = (6, 0)) := by
  by_cases h1 : nm 1 (nv s) = (s, 0)
  · exact .inl (by unfold pr; rw [if_pos h1]; exact ⟨.inl ⟨1, by omega, by omega, h1, rfl, rfl, rfl⟩, by show (1 : Int) ≤ 5; decide⟩)
  · by_cases h2 : nm 2 (nv s) = (s, 0)
    · exact .inl (by unfold pr; rw [if_neg h1, if_pos h2]; exact ⟨.inl ⟨2, by omega, by omega, h2, rfl, rfl, rfl⟩, by show (2 : Int) ≤ 5; decide⟩)
    · by_cases h3 : nm 3 (nv s) = (s, 0)
      · exact .inl (by unfold pr; rw [if_neg h1, if_neg h2, if_pos h3]; exact ⟨.inl ⟨3, by omega, by omega, h3, rfl, rfl, rfl⟩, by show (3 : Int) ≤ 5; decide⟩)
      · by_cases h4 : nm 4 (nv s) = (s, 0)
        · exact .inl (by unfold pr; rw [if_neg h1, if_neg h2, if_neg h3, if_pos h4]; exact ⟨.inl ⟨4, by omega, by omega, h4, rfl, rfl, rfl⟩, by show (4 : Int) ≤ 5; decide⟩)
        · by_cases h5 : nm 5 (nv s) = (s, 0)
          · exact .inl (by unfold pr; rw [if_neg h1, if_neg h2, if_neg h3, if_neg h4, if_pos h5]; exact ⟨.inl ⟨5, by omega, by omega, h5, rfl, rfl, rfl⟩, by show (5 : Int) ≤ 5; decide⟩)
          · refine .inr ⟨.inr ⟨fun k hk1 hk5 => ?_, rfl, rfl, rfl⟩, by unfold pr; rw [if_neg h1, if_neg h2, if_neg h3, if_neg h4, if_neg h5]⟩
            match k, hk1, hk5 with
            | 1, _, _ => exact h1
            | 2, _, _ => exact h2
            | 3, _, _ => exact h3
            | 4, _, _ => exact h4
            | 5, _, _ => exact h5
theorem pz_pr (s : ByteArray) (k n e : Int) (h : Pz s k n e) : (e = 0 ∧ pr s = (k, n)) ∨ (e = 60 ∧ pr s = (6, 0)) := by
  rcases pr_rz s with ⟨hr, _⟩ | ⟨hr, hp⟩
  · obtain ⟨h1, h2, h3⟩ := alike _ _ _ _ _ _ _ h hr
    exact .inl ⟨h3, by rw [h1, h2]⟩
  · obtain ⟨h1, h2, h3⟩ := alike _ _ _ _ _ _ _ h hr
    exact .inr ⟨h3, hp⟩
set_option maxRecDepth 1000000 in
theorem rank_any (s : ByteArray) (hs : s.size ≤ 281474976710656) (w : World) (F : Hid (Fm w)) (U : Hid (Tb w)) : Calls Tryd.prog 55 #[.string s] w fun e w' => e = .returned (.tuple #[.int .i64 (pr s).1, .int .i64 (pr s).2]) ∧ Below w.heap.size w w' := by
  have HP := hid (parse_any s hs w F U)
  have HZ := hid (pz_pr s)
  generalize pr s = R at HZ
  go_enter Tryd.func55, Tryd.ntmps55
  go_wp2_with fail
  refine HP.out.mono ?_
  rintro e w1 ⟨k, n, e1, rfl, p, b1⟩
  have c1 := hid b1
  clear HP b1
  rcases HZ.out k n e1 p.out with ⟨h0, hR⟩ | ⟨h6, hR⟩
  · subst hR
    clear HZ p
    go_wp2_with fail
    go_ret2
    exact ⟨rfl, c1.out⟩
  · subst hR
    clear HZ p
    go_wp2_with fail
    go_ret2
    exact ⟨rfl, c1.out⟩
end Go.Proofs.YtcjlgjlediihoaaDoor.Rw

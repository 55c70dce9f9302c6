/- Three edits merged, either way: in plain words. -/
import Derived.Test.YtnpeocoipodmfaaMg
import Derived.Test.YtnpeocoipodmfaaAp
namespace Go.Proofs.Ytnpeocoipodmfaa.Th
open Go.Proofs.Ytnpeocoipodmfaa.Gr
open Go.Proofs.Ytnpeocoipodmfaa.Ev
open Go.Proofs.Ytnpeocoipodmfaa.Mg
open Go.Proofs.Ytnpeocoipodmfaa.Ap
set_option linter.unusedVariables false
set_option linter.unusedSimpArgs false

theorem lat3 (a b c : Int) : lat (lat a b) c = lat a (lat b c) := by
  unfold lat
  by_cases h : c = 0
  · rw [if_pos h, if_pos h]
  · rw [if_neg h, if_neg h, if_neg h]
theorem three (x y z : Ed) (hg : (gsum [x, y, z] 3).Nodup) (hc : (csum [x, y, z] 3).Nodup) : mrg (mrg x y) z = mrg x (mrg y z) := by
  have hg' : (x.go ++ (y.go ++ (z.go ++ []))).Nodup := hg
  have hc' : (x.co.map (fun a : Ad => a.f.n) ++ (y.co.map (fun a : Ad => a.f.n) ++ (z.co.map (fun a : Ad => a.f.n) ++ []))).Nodup := hc
  have d1 : ∀ p ∈ z.go, p ∉ y.go := by
    intro p hz hy
    have h2 := (List.nodup_append.1 hg').2.1
    exact (List.nodup_append.1 h2).2.2 p hy p (by simpa using hz) rfl
  have d2 : ∀ a ∈ x.co, a.pl ∉ y.co.map Ad.pl := by
    intro a ha hb
    obtain ⟨b, hb, he⟩ := List.mem_map.1 hb
    have hn : b.f.n = a.f.n := by
      have := congrArg Pl.n he
      exact this
    refine (List.nodup_append.1 hc').2.2 a.f.n (List.mem_map.2 ⟨a, ha, rfl⟩) b.f.n ?_ hn.symm
    exact List.mem_append_left _ (List.mem_map.2 ⟨b, hb, rfl⟩)
  unfold mrg
  simp only [Ed.mk.injEq]
  refine ⟨lat3 _ _ _, lat3 _ _ _, lat3 _ _ _, ?_, ?_⟩
  · rw [List.filter_append, List.append_assoc, List.filter_filter]
    congr 2
    apply List.filter_congr
    intro p hp
    have h1 := d1 p hp
    rw [Bool.eq_iff_iff]
    simp only [Bool.not_eq_true', decide_eq_false_iff_not, Bool.and_eq_true, List.map_append, List.mem_append, List.mem_map, List.mem_filter, not_or]
    constructor
    · rintro ⟨h2, h3⟩
      refine ⟨?_, h3⟩
      rintro ⟨a, ha, rfl⟩
      exact h2 ⟨a, ⟨ha, h1⟩, rfl⟩
    · rintro ⟨h2, h3⟩
      refine ⟨?_, h3⟩
      rintro ⟨a, ⟨ha, _⟩, rfl⟩
      exact h2 ⟨a, ha, rfl⟩
  · rw [List.filter_append, List.append_assoc, List.filter_filter]
    congr 1
    apply List.filter_congr
    intro a ha
    have h1 := d2 a ha
    rw [Bool.eq_iff_iff]
    simp only [Bool.not_eq_true', decide_eq_false_iff_not, Bool.and_eq_true, List.mem_append, List.mem_filter, not_or]
    constructor
    · rintro ⟨h2, h3⟩
      exact ⟨h3, fun h => h2 h.1⟩
    · rintro ⟨h2, h3⟩
      exact ⟨fun h => h3 ⟨h, h1⟩, h2⟩
end Go.Proofs.Ytnpeocoipodmfaa.Th

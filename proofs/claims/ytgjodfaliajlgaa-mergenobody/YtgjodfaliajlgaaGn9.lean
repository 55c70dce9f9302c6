/- What a merged cursor that is none answers. -/
import Derived.Test.YtgjodfaliajlgaaGd9
namespace Go.Proofs.Ytgjodfaliajlgaa.Gn9
open Go.ChangeShapes Go.WideShapes Go.ChangeAt Go.RowKit
open Go.Sort (grow)
open Go.Proofs.Ytgjodfaliajlgaa.Gr hiding hid addr_add
open Go.Proofs.Ytgjodfaliajlgaa.Ik
open Go.Proofs.Ytgjodfaliajlgaa.Ee
open Go.Proofs.Ytgjodfaliajlgaa.Gd9
set_option linter.unusedVariables false
set_option linter.unusedSimpArgs false

set_option maxHeartbeats 1000000 in
theorem none_First (v : Value) (w : World) (h : None w v) : Calls Try.prog 29 #[v] w fun e w' => e = .returned (.bool false) ∧ Below w.heap.size w w' := by
  have HI := hid (isnone_any v w h)
  go_enter Try.func29, Try.ntmps29
  go_wp2_with fail
  refine HI.out.mono ?_
  rintro e w1 ⟨rfl, rfl⟩
  go_wp2_with fail
  go_ret
  exact ⟨rfl, Below.refl _ _⟩
set_option maxHeartbeats 1000000 in
theorem none_Last (v : Value) (w : World) (h : None w v) : Calls Try.prog 39 #[v] w fun e w' => e = .returned (.bool false) ∧ Below w.heap.size w w' := by
  have HI := hid (isnone_any v w h)
  go_enter Try.func39, Try.ntmps39
  go_wp2_with fail
  refine HI.out.mono ?_
  rintro e w1 ⟨rfl, rfl⟩
  go_wp2_with fail
  go_ret
  exact ⟨rfl, Below.refl _ _⟩
set_option maxHeartbeats 1000000 in
theorem none_Next (v : Value) (w : World) (h : None w v) : Calls Try.prog 31 #[v] w fun e w' => e = .returned (.bool false) ∧ Below w.heap.size w w' := by
  have HI := hid (isnone_any v w h)
  go_enter Try.func31, Try.ntmps31
  go_wp2_with fail
  refine HI.out.mono ?_
  rintro e w1 ⟨rfl, rfl⟩
  go_wp2_with fail
  go_ret
  exact ⟨rfl, Below.refl _ _⟩
set_option maxHeartbeats 1000000 in
theorem none_Prev (v : Value) (w : World) (h : None w v) : Calls Try.prog 34 #[v] w fun e w' => e = .returned (.bool false) ∧ Below w.heap.size w w' := by
  have HI := hid (isnone_any v w h)
  go_enter Try.func34, Try.ntmps34
  go_wp2_with fail
  refine HI.out.mono ?_
  rintro e w1 ⟨rfl, rfl⟩
  go_wp2_with fail
  go_ret
  exact ⟨rfl, Below.refl _ _⟩
set_option maxHeartbeats 1000000 in
theorem none_Seek (v : Value) (k : ByteArray) (s c : Int) (w : World) (h : None w v) : Calls Try.prog 35 #[v, .agg #[.string k, .int .u64 s, .int .i64 c]] w fun e w' => e = .returned (.bool false) ∧ Below w.heap.size w w' := by
  have HI := hid (isnone_any v (w.alloc (.cells #[.string k, .int .u64 s, .int .i64 c] 33)) (h.later (box_below _ _)))
  have HB := hid (box_below w (.cells #[.string k, .int .u64 s, .int .i64 c] 33))
  go_enter Try.func35, Try.ntmps35
  go_wp2_with fail
  refine HI.out.mono ?_
  rintro e w1 ⟨rfl, rfl⟩
  go_wp2_with fail
  go_ret
  exact ⟨rfl, HB.out⟩
set_option maxHeartbeats 1000000 in
set_option maxRecDepth 20000 in
theorem moved_none (v : Value) (m : Int) (k : ByteArray) (s c : Int) (w : World) (h : None w v) : Calls Try.prog 12 #[v, .agg #[.int .i64 m, .string k, .int .u64 s, .int .i64 c]] w fun e w' => ∃ b, e = .returned (.tuple #[.bool false, .bool b]) ∧ Below w.heap.size w w' := by
  obtain ⟨W, hW⟩ : ∃ W, W = w.alloc (.cells #[.int .i64 m, .string k, .int .u64 s, .int .i64 c] 35) := ⟨_, rfl⟩
  obtain ⟨g, hg⟩ : ∃ g, g = w.heap.size := ⟨_, rfl⟩
  have BW : Below w.heap.size w W := by rw [hW]; exact box_below _ _
  have HN := hid (h.later BW)
  have KB : W.heap[g]? = some (.cells #[.int .i64 m, .string k, .int .u64 s, .int .i64 c] 35) := by rw [hW, hg]; exact new_at _ _
  have k0 := cell_of KB 0 _ rfl
  have k1 := cell_of KB 1 _ rfl
  have k2 := cell_of KB 2 _ rfl
  have k3 := cell_of KB 3 _ rfl
  have HF : Hid (∀ w', Below W.heap.size W w' → Below w.heap.size w w') := fun w' b => Below.up BW b
  replace hW := hid hW
  replace hg := hid hg
  clear h KB BW
  by_cases h0 : m = 0
  · subst h0
    have HC := hid (none_First v W HN.out)
    go_enter Try.func12, Try.ntmps12
    go_wp2_with fail
    rw [← hW.out]
    try rw [← hg.out]
    try go_wp2_with fail
    refine HC.out.mono ?_
    rintro e w1 ⟨rfl, b1⟩
    have b2 := hid (HF.out _ b1)
    clear b1 HC
    go_wp2_with fail
    exact bodyPost_ret (v := .tuple #[.bool false, .bool true]) (by simp [results, Try.results12, go_sem]) rfl ⟨_, rfl, b2.out⟩
  have n0 : (m == 0) = false := by simpa using h0
  by_cases h1 : m = 1
  · subst h1
    have HC := hid (none_Last v W HN.out)
    go_enter Try.func12, Try.ntmps12
    go_wp2_with fail
    rw [← hW.out]
    try rw [← hg.out]
    try go_wp2_with fail
    refine HC.out.mono ?_
    rintro e w1 ⟨rfl, b1⟩
    have b2 := hid (HF.out _ b1)
    clear b1 HC
    go_wp2_with fail
    exact bodyPost_ret (v := .tuple #[.bool false, .bool true]) (by simp [results, Try.results12, go_sem]) rfl ⟨_, rfl, b2.out⟩
  have n1 : (m == 1) = false := by simpa using h1
  by_cases h2 : m = 2
  · subst h2
    have HC := hid (none_Seek v k s c W HN.out)
    go_enter Try.func12, Try.ntmps12
    go_wp2_with fail
    rw [← hW.out]
    try rw [← hg.out]
    try go_wp2_with fail
    refine HC.out.mono ?_
    rintro e w1 ⟨rfl, b1⟩
    have b2 := hid (HF.out _ b1)
    clear b1 HC
    go_wp2_with fail
    exact bodyPost_ret (v := .tuple #[.bool false, .bool true]) (by simp [results, Try.results12, go_sem]) rfl ⟨_, rfl, b2.out⟩
  have n2 : (m == 2) = false := by simpa using h2
  by_cases h3 : m = 3
  · subst h3
    have HC := hid (none_Next v W HN.out)
    go_enter Try.func12, Try.ntmps12
    go_wp2_with fail
    rw [← hW.out]
    try rw [← hg.out]
    try go_wp2_with fail
    refine HC.out.mono ?_
    rintro e w1 ⟨rfl, b1⟩
    have b2 := hid (HF.out _ b1)
    clear b1 HC
    go_wp2_with fail
    exact bodyPost_ret (v := .tuple #[.bool false, .bool true]) (by simp [results, Try.results12, go_sem]) rfl ⟨_, rfl, b2.out⟩
  have n3 : (m == 3) = false := by simpa using h3
  by_cases h4 : m = 4
  · subst h4
    have HC := hid (none_Prev v W HN.out)
    go_enter Try.func12, Try.ntmps12
    go_wp2_with fail
    rw [← hW.out]
    try rw [← hg.out]
    try go_wp2_with fail
    refine HC.out.mono ?_
    rintro e w1 ⟨rfl, b1⟩
    have b2 := hid (HF.out _ b1)
    clear b1 HC
    go_wp2_with fail
    exact bodyPost_ret (v := .tuple #[.bool false, .bool true]) (by simp [results, Try.results12, go_sem]) rfl ⟨_, rfl, b2.out⟩
  have n4 : (m == 4) = false := by simpa using h4
  have b2 := hid (HF.out W (Below.refl _ _))
  go_enter Try.func12, Try.ntmps12
  go_wp2_with fail
  rw [← hW.out]
  try go_wp2_with fail
  exact bodyPost_ret (v := .tuple #[.bool false, .bool false]) (by simp [results, Try.results12, go_sem]) rfl ⟨_, rfl, b2.out⟩
end Go.Proofs.Ytgjodfaliajlgaa.Gn9

/- The law's helpers: the names, bytes lent with a mark behind them. -/
import Derived.Test.YtgffojafdjcdoaaBy
import Derived.Laws.AppendOwnNone
namespace Go.Proofs.Ytgffojafdjcdoaa.Ln
open Go.ChangeShapes Go.WideShapes Go.ChangeAt Go.RowKit
open Go.Proofs.Ytgffojafdjcdoaa.By
set_option linter.unusedVariables false

theorem hid {p : Prop} (h : p) : Hid p := h
theorem box_below (w : World) (o : Obj) : Below w.heap.size w (w.alloc o) := (Below.refl _ _).alloc (Nat.le_refl _) o
theorem names_any (w : World) : Calls Try.prog 10 #[] w fun e w' => e = .returned (.bool true) ∧ w' = w := by
  go_enter Try.func10, Try.ntmps10
  go_wp2
  go_ret
  exact ⟨rfl, rfl⟩

set_option maxHeartbeats 1000000 in
theorem lent_any (a : Option Addr) (len cap : Nat) (zs : List Int) (w : World) (H : Bytes w a len cap zs) (hcap : len + 1 ≤ 140737488355328) :
    Calls Try.prog 30 #[.slice a len cap] w fun e w' => ∃ g c : Nat, e = .returned (.slice (some ⟨g, 0, none⟩) len c) ∧ Row w' w.heap.size g (len + 1) c (zs ++ [90]) ∧ Below w.heap.size w w' := by
  obtain ⟨i0, hi, hz0, hz1, hz2⟩ := info_parts info5
  have HH : Hid (Bytes w a len cap zs) := H
  have hlen : (zs.map (Value.int .u8)).length = len * 1 := by simp; exact H.1
  clear H
  have own0 : (w.alloc (.cells #[] 5)).ownsRow w.heap.size 5 1 (.slice (some ⟨w.heap.size, 0, none⟩) 0 0) 0 [] := World.ownsRow_made w #[] 0 (Nat.le_refl _) (by unfold maxLen; omega) rfl
  cases a with
  | none =>
    obtain ⟨rfl, rfl⟩ := HH.out.2.2.1 rfl
    have hz : zs = [] := List.eq_nil_of_length_eq_zero HH.out.1
    subst hz
    go_enter Try.func30, Try.ntmps30
    go_wp2_with (first | (at_builtin; refine wpList_append_own_none rfl (.tmp 3) (.tmp 4) 32 rfl w.heap.size 5 i0 1 Try.underlying32 hi _ _ _ rfl own0 rfl ?_) | (at_builtin; refine wpList_append_own _ rfl (.tmp 5) (.tmp 6) 32 rfl w.heap.size 5 i0 (.int .u8 0) 1 1 Try.underlying32 hi hz0 hz1 hz2 rfl (by decide) _ _ _ rfl (own0.alloc _) ⟨w.heap.size + 1, 0, none⟩ 1 1 [.int .u8 90] rfl rfl ?e1 ?e2 ?e3 ?e4 ?e5 ?_))
    case e1 => intro j u hj; match j, hj with | 0, hj => simp at hj; subst hj; simp [Addr.add, go_sem]
    case e2 => intro u hu; simp at hu; subst hu; rfl
    case e3 => unfold maxLen; omega
    case e4 => omega
    case e5 => simp; omega
    intro v2 w2 own2 g2 hnil2
    obtain ⟨g', c', hv2⟩ : ∃ g c, v2 = .slice (some ⟨g, 0, none⟩) 1 c := by
      rcases own2.2 with ⟨h, h'⟩ | ⟨g, c, _, h, _⟩
      · omega
      · exact ⟨g, c, by simpa using h⟩
    subst hv2
    have R2 : Hid (Row w2 w.heap.size g' (0 + 1) c' ([] ++ [90])) := by show Row _ _ _ _ _ _; unfold Row; simpa using own2
    have hc' : 0 ≤ c' := by omega
    have B2 : Hid (Below w.heap.size w w2) := by
      have b0 : Below w.heap.size w (w.alloc (.cells #[] 5)) := (Below.refl _ _).alloc (Nat.le_refl _) _
      have b2 := b0.alloc b0.size (.cells #[.int .u8 90] 5)
      exact b2.grown g2 b2.size (by intro k hk; simp [Value.ownBlock] at hk; omega)
    clear own2 g2 hnil2
    go_wp2
    go_ret
    exact ⟨g', c', rfl, R2.out, B2.out⟩
  | some ad =>
    have BL := (bytes_later HH.out ((Below.refl w.heap.size w).alloc (Nat.le_refl _) (.cells #[] 5))).2 ad rfl
    go_enter Try.func30, Try.ntmps30
    go_wp2_with (at_builtin; refine wpList_append_own _ rfl _ _ 32 rfl w.heap.size 5 i0 (.int .u8 0) 1 1 Try.underlying32 hi hz0 hz1 hz2 rfl (by decide) _ _ _ rfl own0 ad len cap (zs.map (Value.int .u8)) rfl hlen BL (one_cell zs) ?c3 ?c4 ?c5 ?_)
    case c3 => unfold maxLen; omega
    case c4 => omega
    case c5 => simp
    intro v1 w1 own1 g1 hnil1
    obtain ⟨g, c, hv1⟩ : ∃ g c, v1 = .slice (some ⟨g, 0, none⟩) len c := by
      rcases own1.2 with ⟨h, _⟩ | ⟨g, c, _, h, _⟩
      · exact absurd h hnil1
      · exact ⟨g, c, by simpa using h⟩
    subst hv1
    clear hnil1 BL own0
    go_wp2_with (at_builtin; refine wpList_append_own _ rfl _ _ 32 rfl w.heap.size 5 i0 (.int .u8 0) 1 1 Try.underlying32 hi hz0 hz1 hz2 rfl (by decide) _ _ _ rfl (own1.alloc _) ⟨w1.heap.size, 0, none⟩ 1 1 [.int .u8 90] rfl rfl ?d1 ?d2 ?d3 ?d4 ?d5 ?_)
    case d1 => exact cell_one_new _ _ _
    case d2 => intro u hu; simp at hu; subst hu; rfl
    case d3 => unfold maxLen; omega
    case d4 => omega
    case d5 => have := (World.ownsRow.lt own1 g rfl); simp; omega
    intro v2 w2 own2 g2 hnil2
    obtain ⟨g', c', hv2⟩ : ∃ g c, v2 = .slice (some ⟨g, 0, none⟩) (len + 1) c := by
      rcases own2.2 with ⟨h, h'⟩ | ⟨g, c, _, h, _⟩
      · omega
      · exact ⟨g, c, by simpa using h⟩
    subst hv2
    have R2 : Hid (Row w2 w.heap.size g' (len + 1) c' (zs ++ [90])) := by show Row _ _ _ _ _ _; unfold Row; simpa using own2
    have hc' : len ≤ c' := by
      rcases own2.2 with ⟨h, h'⟩ | ⟨g, c, _, h, _, _, hn, _⟩
      · omega
      · simp at h; omega
    have B2 : Hid (Below w.heap.size w w2) := by
      have b0 : Below w.heap.size w (w.alloc (.cells #[] 5)) := (Below.refl _ _).alloc (Nat.le_refl _) _
      have b1 : Below w.heap.size w w1 := b0.grown g1 b0.size (by intro k hk; simp [Value.ownBlock] at hk; omega)
      have b2 := b1.alloc b1.size (.cells #[.int .u8 90] 5)
      exact b2.grown g2 b2.size (by intro k hk; simp [Value.ownBlock] at hk; have := (World.ownsRow.lt own1 g rfl); omega)
    clear own1 own2 g1 g2 hnil2
    go_wp2
    go_ret
    exact ⟨g', c', rfl, R2.out, B2.out⟩

theorem lent_bytes {w : World} {base g len c : Nat} {zs : List Int} (R : Row w base g (len + 1) c (zs ++ [90])) (hb : ∀ y ∈ zs, 0 ≤ y ∧ y ≤ 255) : Bytes w (some ⟨g, 0, none⟩) len c zs := by
  have hl := R.len
  simp at hl
  have h := bytes_take (R.bytes (by intro y hy; rcases List.mem_append.1 hy with h | h; exact hb y h; simp at h; omega)) len (by omega) (by simp)
  rw [← hl, List.take_left' rfl] at h
  rw [← hl]
  exact h

end Go.Proofs.Ytgffojafdjcdoaa.Ln

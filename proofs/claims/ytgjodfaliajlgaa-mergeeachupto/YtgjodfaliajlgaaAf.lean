/- merge.after: the first key behind one. -/
import Derived.Test.YtgjodfaliajlgaaGc9
namespace Go.Proofs.Ytgjodfaliajlgaa.Af
open Go.ChangeShapes Go.WideShapes Go.ChangeAt Go.RowKit
open Go.Sort (grow)
open Go.Proofs.Ytgjodfaliajlgaa.Gr hiding hid addr_add
open Go.Proofs.Ytgjodfaliajlgaa.Ik
open Go.Proofs.Ytgjodfaliajlgaa.Ee
open Go.Proofs.Ytgjodfaliajlgaa.Cm (ik)
set_option linter.unusedVariables false
set_option linter.unusedSimpArgs false

theorem iafter_any (a : ByteArray) (w : World) (ha : a.size ≤ 140737488351232) :
    Calls Try.prog 83 #[.string a] w fun e w' => e = .returned (.string (a ++ ⟨#[0]⟩)) ∧ w' = w := by
  go_enter Try.func83, Try.ntmps83
  go_wp2
  go_ret
  exact ⟨rfl, rfl⟩
theorem iff_cmp (a b : IK) : cmp a b < 0 ↔ Lt a b := by
  rcases cmp_cases a b with ⟨h, l⟩ | ⟨h, e⟩ | ⟨h, l⟩
  · exact ⟨fun _ => l, fun _ => by omega⟩
  · subst e; exact ⟨fun h2 => by omega, fun h2 => absurd h2 (Lt_irrefl a)⟩
  · exact ⟨fun h2 => by omega, fun h2 => absurd (Lt_trans l h2) (Lt_irrefl b)⟩
theorem iff_le (a b : IK) : cmp a b ≤ 0 ↔ Lt a b ∨ a = b := by
  rcases cmp_cases a b with ⟨h, l⟩ | ⟨h, e⟩ | ⟨h, l⟩
  · exact ⟨fun _ => .inl l, fun _ => by omega⟩
  · exact ⟨fun _ => .inr e, fun _ => by omega⟩
  · refine ⟨fun h2 => by omega, ?_⟩
    rintro (h2 | h2)
    · exact absurd (Lt_trans l h2) (Lt_irrefl b)
    · subst h2; exact absurd l (Lt_irrefl a)
/-- The key behind: what is below it is not above the one. -/
def Aft (k : ByteArray) (s c : Int) (k' : ByteArray) (s' c' : Int) : Prop := ∀ x : E, x.ok → (cmp x.ik (ik k' s' c') < 0 ↔ cmp x.ik (ik k s c) ≤ 0)
theorem aft_kind (k : ByteArray) (s c : Int) : Aft k s c k s (c - 1) := by
  intro x hx
  rw [iff_cmp, iff_le]
  unfold Lt E.ik ik
  dsimp only
  constructor
  · rintro (h | ⟨h1, h2 | ⟨h2, h3⟩⟩)
    · exact .inl (.inl h)
    · exact .inl (.inr ⟨h1, .inl h2⟩)
    · by_cases e : x.c = c
      · right; rw [h1, h2, e]
      · exact .inl (.inr ⟨h1, .inr ⟨h2, by omega⟩⟩)
  · rintro ((h | ⟨h1, h2 | ⟨h2, h3⟩⟩) | h)
    · exact .inl h
    · exact .inr ⟨h1, .inl h2⟩
    · exact .inr ⟨h1, .inr ⟨h2, by omega⟩⟩
    · injection h with h1 h2; injection h2 with h2 h3
      exact .inr ⟨h1, .inr ⟨h2, by omega⟩⟩
theorem aft_seq (k : ByteArray) (s : Int) : Aft k s (-9223372036854775808) k (s - 1) 9223372036854775807 := by
  intro x hx
  obtain ⟨-, hs, hc, -⟩ := hx
  rw [iff_cmp, iff_le]
  unfold Lt E.ik ik
  dsimp only
  constructor
  · rintro (h | ⟨h1, h2 | ⟨h2, h3⟩⟩)
    · exact .inl (.inl h)
    · by_cases e : x.s = s
      · by_cases e2 : x.c = -9223372036854775808
        · right; rw [h1, e, e2]
        · exact .inl (.inr ⟨h1, .inr ⟨e, by omega⟩⟩)
      · exact .inl (.inr ⟨h1, .inl (by omega)⟩)
    · omega
  · rintro ((h | ⟨h1, h2 | ⟨h2, h3⟩⟩) | h)
    · exact .inl h
    · exact .inr ⟨h1, .inl (by omega)⟩
    · exact .inr ⟨h1, .inl (by omega)⟩
    · injection h with h1 h2; injection h2 with h2 h3
      exact .inr ⟨h1, .inl (by omega)⟩
theorem aft_key (k : ByteArray) : Aft k 0 (-9223372036854775808) (k ++ ⟨#[0]⟩) 18446744073709551615 9223372036854775807 := by
  intro x hx
  obtain ⟨-, hs, hc, -⟩ := hx
  rw [iff_cmp, iff_le]
  unfold Lt E.ik ik
  dsimp only
  have ed : (k ++ ⟨#[0]⟩ : ByteArray).data.toList = k.data.toList ++ [0] := by simp [ByteArray.data_append]
  rw [ed]
  constructor
  · rintro (h | ⟨h1, h2 | ⟨h2, h3⟩⟩)
    · rcases lt_total x.k.data.toList k.data.toList with h' | h' | h'
      · exact .inl (.inl h')
      · by_cases e : x.s = 0
        · by_cases e2 : x.c = -9223372036854775808
          · right; rw [h', e, e2]
          · exact .inl (.inr ⟨h', .inr ⟨e, by omega⟩⟩)
        · exact .inl (.inr ⟨h', .inl (by omega)⟩)
      · exact absurd h (after_least _ _ h')
    · omega
    · omega
  · rintro ((h | ⟨h1, h2⟩) | h)
    · exact .inl (lt_trans h (after _))
    · exact .inl (by rw [h1]; exact after _)
    · injection h with h1 h2
      exact .inl (by rw [h1]; exact after _)
theorem two_below (w : World) (a b : Obj) : Below w.heap.size w ((w.alloc a).alloc b) := Below.up (box_below w a) (box_below (w.alloc a) b)
set_option maxHeartbeats 1000000 in
theorem after_any (k : ByteArray) (s c : Int) (w : World) (hk : k.size ≤ 140737488351232) (hs : 0 ≤ s ∧ s ≤ 18446744073709551615) (hc : -9223372036854775808 ≤ c ∧ c ≤ 9223372036854775807) :
    Calls Try.prog 71 #[.agg #[.string k, .int .u64 s, .int .i64 c]] w fun e w' => ∃ k' s' c', e = .returned (.agg #[.string k', .int .u64 s', .int .i64 c']) ∧ Aft k s c k' s' c' ∧ Below w.heap.size w w' := by
  by_cases h1 : -9223372036854775808 < c
  · have hA := hid (aft_kind k s c)
    have hw : IntKind.i64.wrap (c - 1) = c - 1 := by rw [IntKind.wrap_i64]; omega
    go_enter Try.func71, Try.ntmps71
    go_wp2_with fail
    exact bodyPost_ret (v := .agg #[.string k, .int .u64 s, .int .i64 (c - 1)]) (by simp [results, Try.results71, go_sem]) rfl ⟨k, s, c - 1, rfl, hA.out, two_below _ _ _⟩
  · have h2 : c = -9223372036854775808 := by omega
    subst h2
    by_cases h3 : 0 < s
    · have hA := hid (aft_seq k s)
      have hw : IntKind.u64.wrap (s - 1) = s - 1 := by rw [IntKind.wrap_u64]; omega
      go_enter Try.func71, Try.ntmps71
      go_wp2_with fail
      exact bodyPost_ret (v := .agg #[.string k, .int .u64 (s - 1), .int .i64 9223372036854775807]) (by simp [results, Try.results71, go_sem]) rfl ⟨k, s - 1, 9223372036854775807, rfl, hA.out, two_below _ _ _⟩
    · have h4 : s = 0 := by omega
      subst h4
      have hA := hid (aft_key k)
      have HC := hid (fun W => iafter_any k W hk)
      go_enter Try.func71, Try.ntmps71
      go_wp2_with fail
      refine (HC.out _).mono ?_
      rintro e w1 ⟨rfl, rfl⟩
      clear HC
      go_wp2_with fail
      exact bodyPost_ret (v := .agg #[.string (k ++ ⟨#[0]⟩), .int .u64 18446744073709551615, .int .i64 9223372036854775807]) (by simp [results, Try.results71, go_sem]) rfl ⟨_, _, _, rfl, hA.out, two_below _ _ _⟩
end Go.Proofs.Ytgjodfaliajlgaa.Af

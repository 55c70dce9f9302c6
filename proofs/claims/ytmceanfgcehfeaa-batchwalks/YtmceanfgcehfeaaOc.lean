/- Rows of operations of the call's own; the law's copied, same, stay and names. -/
import Derived.Test.YtmceanfgcehfeaaCk
import Derived.Test.YtmceanfgcehfeaaBy
import Derived.OwnWalk
import Derived.Laws.AppendOwnNone
namespace Go.Proofs.Ytmceanfgcehfeaa.Ob
open Go.ChangeShapes Go.WideShapes Go.ChangeAt Go.RowKit
open Go.Proofs.Ytmceanfgcehfeaa.By (ret_int)
set_option linter.unusedVariables false

theorem infoOp : (Try.prog.info? 50).map (fun i => (i.zero, i.size, i.bytes)) = some (some (.agg #[.int .i64 0, .string ⟨#[]⟩, .string ⟨#[]⟩]), 3, 40) := by kernel_rfl
/-- The cells of operations, one behind the other. -/
def oc (x : O) : List Value := [.int .i64 x.c, .string x.k, .string x.v]
def ocs : List O → List Value
  | [] => []
  | x :: r => oc x ++ ocs r
theorem ocs_len : ∀ xs, (ocs xs).length = xs.length * 3
  | [] => rfl
  | x :: r => by simp [ocs, oc, ocs_len r]; omega
theorem ocs_append : ∀ xs ys, ocs (xs ++ ys) = ocs xs ++ ocs ys
  | [], ys => rfl
  | x :: r, ys => by simp [ocs, ocs_append r ys]
theorem ocs_one (xs : List O) : ∀ u ∈ ocs xs, u.oneCell' = true := by
  induction xs with
  | nil => intro u h; simp [ocs] at h
  | cons x r ih =>
    intro u h
    rcases List.mem_append.1 h with h | h
    · simp [oc] at h; rcases h with rfl | rfl | rfl <;> rfl
    · exact ih u h
theorem ocs_get : ∀ (xs : List O) (i : Nat), i < xs.length → (ocs xs)[i * 3]? = some (.int .i64 (xs.getD i zo).c) ∧ (ocs xs)[i * 3 + 1]? = some (.string (xs.getD i zo).k) ∧ (ocs xs)[i * 3 + 2]? = some (.string (xs.getD i zo).v)
  | [], i, h => by simp at h
  | x :: r, 0, h => by simp [ocs, oc]
  | x :: r, i + 1, h => by
    have := ocs_get r i (by simpa using h)
    rw [show (i + 1) * 3 = i * 3 + 3 from by omega]
    simpa [ocs, oc] using this
theorem ocs_take : ∀ (xs : List O) (m : Nat), (ocs xs).take (m * 3) = ocs (xs.take m)
  | [], m => by simp [ocs]
  | x :: r, 0 => by simp [ocs]
  | x :: r, m + 1 => by
    rw [show (m + 1) * 3 = m * 3 + 3 from by omega]
    simp [ocs, oc, ocs_take r m]
theorem Ops.cells {w : World} {ad : Addr} {len cap : Nat} {xs : List O} (h : Ops w (some ad) len cap xs) : ∀ j u, (ocs xs)[j]? = some u → w.cell? (ad.add j) = some u := by
  intro j u hu
  have hj := (List.getElem?_eq_some_iff.1 hu).1
  rw [ocs_len, h.1] at hj
  obtain ⟨b, o, p⟩ := ad
  obtain ⟨rfl, hat⟩ := h.2.2.2.2 b o p rfl (by omega)
  obtain ⟨i, r, hr, rfl⟩ : ∃ i r, r < 3 ∧ j = i * 3 + r := ⟨j / 3, j % 3, by omega, by omega⟩
  have hi : i < len := by omega
  obtain ⟨c0, c1, c2⟩ := hat i hi
  obtain ⟨g0, g1, g2⟩ := ocs_get xs i (by rw [h.1]; exact hi)
  rw [addr_add]
  match r, hr with
  | 0, _ => rw [Nat.add_zero] at hu ⊢; rw [g0] at hu; rw [c0, ← hu]
  | 1, _ => rw [g1] at hu; rw [← Nat.add_assoc, c1, ← hu]
  | 2, _ => rw [g2] at hu; rw [← Nat.add_assoc, c2, ← hu]
/-- A row of operations of the call's own. -/
def ORow (w : World) (base g n cap : Nat) (xs : List O) : Prop := w.ownsRow base 50 3 (.slice (some ⟨g, 0, none⟩) n cap) n (ocs xs)
theorem ORow.len {w : World} {base g n cap : Nat} {xs : List O} (h : ORow w base g n cap xs) : xs.length = n := by
  have := h.1; rw [ocs_len] at this; omega
theorem ORow.lt {w : World} {base g n cap : Nat} {xs : List O} (h : ORow w base g n cap xs) : base ≤ g ∧ g < w.heap.size := World.ownsRow.lt h g rfl
theorem ORow.le {w : World} {base g n cap : Nat} {xs : List O} (h : ORow w base g n cap xs) : n ≤ cap := by
  rcases h.2 with ⟨e, _⟩ | ⟨g', cap', cur, e, hb, hg, hn, hm, hs, ht⟩
  · simp at e
  · simp at e; omega
theorem ORow.at {w : World} {base g n cap : Nat} {xs : List O} (h : ORow w base g n cap xs) (i : Nat) (hi : i < n) : At3 w g (i * 3) (xs.getD i zo) := by
  have hl := h.len
  obtain ⟨g0, g1, g2⟩ := ocs_get xs i (by omega)
  have hc := World.ownsRow.cells h (g := g) rfl
  have e0 := hc _ _ g0
  have e1 := hc _ _ g1
  have e2 := hc _ _ g2
  rw [addr_add, Nat.zero_add] at e0 e1 e2
  exact ⟨e0, e1, e2⟩
theorem ORow.ops {w : World} {base g n cap : Nat} {xs : List O} (h : ORow w base g n cap xs) (hok : ∀ x ∈ xs, x.ok) : Ops w (some ⟨g, 0, none⟩) n cap xs :=
  ⟨h.len, h.le, fun e => by simp at e, hok, fun b o p hp _ => by
    simp at hp; obtain ⟨rfl, rfl, rfl⟩ := hp
    exact ⟨rfl, fun i hi => by rw [Nat.zero_add]; exact h.at i hi⟩⟩
theorem Ops.take {w : World} {a : Option Addr} {len cap : Nat} {xs : List O} (h : Ops w a len cap xs) (m : Nat) (hm : m ≤ len) (ha : a = none → m = 0) : Ops w a m cap (xs.take m) := by
  refine ⟨by rw [List.length_take, h.1]; omega, by have := h.2.1; omega, fun e => ⟨ha e, (h.2.2.1 e).2⟩, fun x hx => h.2.2.2.1 x (List.mem_of_mem_take hx), fun b o p hp h0 => ?_⟩
  have := h.2.2.2.2 b o p hp (by omega)
  refine ⟨this.1, fun i hi => ?_⟩
  have e : (xs.take m).getD i zo = xs.getD i zo := by simp [List.getD_eq_getElem?_getD, hi]
  rw [e]
  exact this.2 i (by omega)
theorem ORow.later {w w' : World} {base g n cap : Nat} {xs : List O} (h : ORow w base g n cap xs) (b : Below w.heap.size w w') : ORow w' base g n cap xs := by
  have hl := h.lt
  refine ⟨h.1, ?_⟩
  rcases h.2 with ⟨e, h0⟩ | ⟨g', cap', cur, e, hb, hg, hr⟩
  · exact .inl ⟨e, h0⟩
  · simp only [Value.slice.injEq, Option.some.injEq, Addr.mk.injEq, and_true, true_and] at e
    obtain ⟨rfl, rfl⟩ := e
    exact .inr ⟨g, cap, cur, rfl, hb, by rw [b.block g hl.2]; exact hg, hr⟩

/-- The operation that the law lays behind. -/
def mark : O := ⟨77, ⟨#[]⟩, ⟨#[]⟩⟩
set_option maxHeartbeats 2000000 in
theorem copied_any (a : Option Addr) (len cap : Nat) (xs : List O) (w : World) (H : Ops w a len cap xs) (hcap : (len + 1) * 40 ≤ 140737488355328) :
    Calls Try.prog 10 #[.slice a len cap] w fun e w' => ∃ g c : Nat, e = .returned (.slice (some ⟨g, 0, none⟩) len c) ∧ ORow w' w.heap.size g (len + 1) c (xs ++ [mark]) ∧ Below w.heap.size w w' := by
  obtain ⟨i0, hi, hz0, hz1, hz2⟩ := info_parts infoOp
  have HH := hid H
  have hlen : (ocs xs).length = len * 3 := by rw [ocs_len, H.1]
  clear H
  have own0 : (w.alloc (.cells #[] 50)).ownsRow w.heap.size 50 3 (.slice (some ⟨w.heap.size, 0, none⟩) 0 0) 0 [] := World.ownsRow_made w #[] 0 (Nat.le_refl _) (by unfold maxLen; omega) rfl
  cases a with
  | none =>
    obtain ⟨rfl, rfl⟩ := HH.out.2.2.1 rfl
    have hz : xs = [] := List.eq_nil_of_length_eq_zero HH.out.1
    subst hz
    go_enter Try.func10, Try.ntmps10
    go_wp2_with (first | (at_builtin; refine wpList_append_own_none rfl (.tmp 3) (.tmp 4) 22 rfl w.heap.size 50 i0 3 Try.underlying22 hi _ _ _ rfl own0 rfl ?_) | (at_builtin; refine wpList_append_own _ rfl (.tmp 5) (.tmp 7) 22 rfl w.heap.size 50 i0 (.agg #[.int .i64 0, .string ⟨#[]⟩, .string ⟨#[]⟩]) 3 40 Try.underlying22 hi hz0 hz1 hz2 rfl (by decide) _ _ _ rfl (own0.alloc _) ⟨w.heap.size + 1, 0, none⟩ 1 1 [.int .i64 77, .string ⟨#[]⟩, .string ⟨#[]⟩] rfl rfl ?e1 ?e2 ?e3 ?e4 ?e5 ?_))
    case e1 => intro j u hj; match j, hj with
      | 0, hj => simp at hj; subst hj; simp [Addr.add, go_sem]
      | 1, hj => simp at hj; subst hj; simp [Addr.add, go_sem]
      | 2, hj => simp at hj; subst hj; simp [Addr.add, go_sem]
    case e2 => intro u hu; simp at hu; rcases hu with rfl | rfl | rfl <;> rfl
    case e3 => unfold maxLen; omega
    case e4 => omega
    case e5 => simp; omega
    intro v2 w2 own2 g2 hnil2
    obtain ⟨g', c', hv2⟩ : ∃ g c, v2 = .slice (some ⟨g, 0, none⟩) 1 c := by
      rcases own2.2 with ⟨h, h'⟩ | ⟨g, c, _, h, _⟩
      · omega
      · exact ⟨g, c, by simpa using h⟩
    subst hv2
    have R2 : Hid (ORow w2 w.heap.size g' (0 + 1) c' ([] ++ [mark])) := by show ORow _ _ _ _ _ _; unfold ORow; simpa [ocs, oc, mark] using own2
    have hc' : 0 ≤ c' := by omega
    have B2 : Hid (Below w.heap.size w w2) := by
      have b0 : Below w.heap.size w (w.alloc (.cells #[] 50)) := (Below.refl _ _).alloc (Nat.le_refl _) _
      have b2 := b0.alloc b0.size (.cells #[.int .i64 77, .string ⟨#[]⟩, .string ⟨#[]⟩] 50)
      exact b2.grown g2 b2.size (by intro k hk; simp [Value.ownBlock] at hk; omega)
    clear own2 g2 hnil2
    go_wp2
    go_ret
    exact ⟨g', c', rfl, R2.out, B2.out⟩
  | some ad =>
    have BL := (HH.out.later ((Below.refl w.heap.size w).alloc (Nat.le_refl _) (.cells #[] 50))).cells
    go_enter Try.func10, Try.ntmps10
    go_wp2_with (at_builtin; refine wpList_append_own _ rfl _ _ 22 rfl w.heap.size 50 i0 (.agg #[.int .i64 0, .string ⟨#[]⟩, .string ⟨#[]⟩]) 3 40 Try.underlying22 hi hz0 hz1 hz2 rfl (by decide) _ _ _ rfl own0 ad len cap (ocs xs) rfl hlen BL (ocs_one xs) ?c3 ?c4 ?c5 ?_)
    case c3 => unfold maxLen; omega
    case c4 => omega
    case c5 => simp
    intro v1 w1 own1 g1 hnil1
    obtain ⟨g, c, hv1⟩ : ∃ g c, v1 = .slice (some ⟨g, 0, none⟩) len c := by
      rcases own1.2 with ⟨h, _⟩ | ⟨g, c, _, h, _⟩
      · exact absurd h hnil1
      · exact ⟨g, c, by simpa using h⟩
    subst hv1
    clear hnil1 BL own0
    go_wp2_with (at_builtin; refine wpList_append_own _ rfl _ _ 22 rfl w.heap.size 50 i0 (.agg #[.int .i64 0, .string ⟨#[]⟩, .string ⟨#[]⟩]) 3 40 Try.underlying22 hi hz0 hz1 hz2 rfl (by decide) _ _ _ rfl (own1.alloc _) ⟨w1.heap.size, 0, none⟩ 1 1 [.int .i64 77, .string ⟨#[]⟩, .string ⟨#[]⟩] rfl rfl ?d1 ?d2 ?d3 ?d4 ?d5 ?_)
    case d1 => intro j u hj; match j, hj with
      | 0, hj => simp at hj; subst hj; simp [Addr.add, go_sem]
      | 1, hj => simp at hj; subst hj; simp [Addr.add, go_sem]
      | 2, hj => simp at hj; subst hj; simp [Addr.add, go_sem]
    case d2 => intro u hu; simp at hu; rcases hu with rfl | rfl | rfl <;> rfl
    case d3 => unfold maxLen; omega
    case d4 => omega
    case d5 => have := (World.ownsRow.lt own1 g rfl); simp; omega
    intro v2 w2 own2 g2 hnil2
    obtain ⟨g', c', hv2⟩ : ∃ g c, v2 = .slice (some ⟨g, 0, none⟩) (len + 1) c := by
      rcases own2.2 with ⟨h, h'⟩ | ⟨g, c, _, h, _⟩
      · omega
      · exact ⟨g, c, by simpa using h⟩
    subst hv2
    have R2 : Hid (ORow w2 w.heap.size g' (len + 1) c' (xs ++ [mark])) := by show ORow _ _ _ _ _ _; unfold ORow; rw [ocs_append]; simpa [ocs, oc, mark] using own2
    have hc' : len ≤ c' := by have := R2.out.le; omega
    have B2 : Hid (Below w.heap.size w w2) := by
      have b0 : Below w.heap.size w (w.alloc (.cells #[] 50)) := (Below.refl _ _).alloc (Nat.le_refl _) _
      have b1 : Below w.heap.size w w1 := b0.grown g1 b0.size (by intro k hk; simp [Value.ownBlock] at hk; omega)
      have b2 := b1.alloc b1.size (.cells #[.int .i64 77, .string ⟨#[]⟩, .string ⟨#[]⟩] 50)
      exact b2.grown g2 b2.size (by intro k hk; simp [Value.ownBlock] at hk; have := (World.ownsRow.lt own1 g rfl); omega)
    clear own1 own2 g1 g2 hnil2
    go_wp2
    go_ret
    exact ⟨g', c', rfl, R2.out, B2.out⟩
theorem names_any (w : World) : Calls Try.prog 9 #[] w fun e w' => e = .returned (.bool true) ∧ w' = w := by
  go_enter Try.func9, Try.ntmps9
  go_wp2
  go_ret
  exact ⟨rfl, rfl⟩
set_option maxHeartbeats 1000000 in
theorem same_any (a a' : Option Addr) (len cap cap' : Nat) (xs : List O) (w : World) (H : Ops w a len cap xs) (H' : Ops w a' len cap' xs) (hl : len ≤ 140737488351232) :
    Calls Try.prog 23 #[.slice a len cap, .slice a' len cap'] w fun e w' => e = .returned (.bool true) ∧ ∃ n, w' = w.drewN n := by
  have HH := hid H
  have HH' := hid H'
  clear H H'
  have t0 : ((len : Int) != (len : Int)) = false := bne_self_eq_false _
  go_enter Try.func23, Try.ntmps23
  go_wp2_with fail
  go_loopw [5] (fun i wr => ∃ k : Nat, i = .int .i64 k ∧ k ≤ len ∧ ∃ n, wr = w.drewN n) (fun i _ => len - (intOf i).toNat)
  case atStart => exact ⟨0, rfl, by omega, 0, rfl⟩
  case round =>
    obtain ⟨k, rfl, hk, n, rfl⟩ := hrel
    by_cases hlt : k < len
    · cases a with
      | none => have := (HH.out.2.2.1 rfl).1; omega
      | some ad =>
        cases a' with
        | none => have := (HH'.out.2.2.1 rfl).1; omega
        | some ad' =>
          obtain ⟨b, off, sp⟩ := ad
          obtain ⟨b', off', sp'⟩ := ad'
          obtain ⟨rfl, hat⟩ := HH.out.2.2.2.2 b off sp rfl (by omega)
          obtain ⟨rfl, hat'⟩ := HH'.out.2.2.2.2 b' off' sp' rfl (by omega)
          have hat := hat k hlt
          have hat' := hat' k hlt
          generalize xs.getD k zo = x at hat hat'
          obtain ⟨xc, xk, xv⟩ := x
          obtain ⟨a1, a2, a3⟩ := hat
          obtain ⟨c1, c2, c3⟩ := hat'
          simp only at a1 a2 a3 c1 c2 c3
          have ik0 : (k : Int) < (len : Int) := by omega
          have ok0 : (0 : Int) ≤ (k : Int) := by omega
          have hlc := HH.out.2.1
          have hlc' := HH'.out.2.1
          go_wp2_with fail
          go_quiet (fail)
          go_wp2_with fail
          go_roundw
          case rel => exact ⟨k + 1, by go_num, by omega, n + nq, rfl⟩
          case measure => simp [intOf]; omega
    · go_wp2_with fail
      go_ret
      exact ⟨rfl, n, rfl⟩
theorem marked_ops {w : World} {base g len c : Nat} {xs : List O} (R : ORow w base g (len + 1) c (xs ++ [mark])) (hok : ∀ x ∈ xs, x.ok) : Ops w (some ⟨g, 0, none⟩) len c xs := by
  have hl := R.len
  simp at hl
  have h := (R.ops (by
    intro x hx
    rcases List.mem_append.1 hx with h | h
    · exact hok x h
    · simp at h; subst h; exact ⟨by unfold mark; simp, by unfold mark maxLen; decide, by unfold mark maxLen; decide⟩)).take len (by omega) (by simp)
  rw [← hl, List.take_left' rfl] at h
  rw [← hl]
  exact h
set_option maxHeartbeats 1000000 in
theorem stay_any (base g c : Nat) (a : Option Addr) (len cap : Nat) (xs : List O) (w : World) (R : ORow w base g (len + 1) c (xs ++ [mark])) (H : Ops w a len cap xs) (hl : len ≤ 140737488351232) :
    Calls Try.prog 15 #[.slice (some ⟨g, 0, none⟩) len c, .slice a len cap] w fun e w' => e = .returned (.bool true) ∧ ∃ n, w' = w.drewN n := by
  have FS := hid (same_any (some ⟨g, 0, none⟩) a len c cap xs w (marked_ops R H.2.2.2.1) H hl)
  have hc := R.le
  have hc2 : (len : Int) + 1 ≤ (c : Int) := by omega
  have hat := R.at len (by omega)
  have e : (xs ++ [mark]).getD len zo = mark := by rw [← H.1]; simp [List.getD_eq_getElem?_getD]
  rw [e] at hat
  obtain ⟨a1, a2, a3⟩ := hat
  simp only [mark] at a1 a2 a3
  clear R H e
  go_enter Try.func15, Try.ntmps15
  go_wp2_with fail
  refine FS.out.mono ?_
  rintro e w' ⟨rfl, n, rfl⟩
  go_wp2_with fail
  go_ret
  exact ⟨rfl, n, rfl⟩
end Go.Proofs.Ytmceanfgcehfeaa.Ob

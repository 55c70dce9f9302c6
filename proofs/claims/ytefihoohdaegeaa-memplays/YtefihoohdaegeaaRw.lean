/- Rows of tombs of the call's own. -/
import Derived.Test.YtefihoohdaegeaaMt
namespace Go.Proofs.Ytefihoohdaegeaa.Rw
open Go.ChangeShapes Go.WideShapes Go.ChangeAt Go.RowKit Go.Shelf
open Go.Proofs.Ytefihoohdaegeaa.Lx
open Go.Proofs.Ytefihoohdaegeaa.Tm
open Go.Proofs.Ytefihoohdaegeaa.Vi
open Go.Proofs.Ytefihoohdaegeaa.Mt
set_option linter.unusedVariables false
set_option linter.unusedSimpArgs false

theorem infoT : (Try.prog.info? 111).map (fun i => (i.zero, i.size, i.bytes)) = some (some (.agg #[.string ⟨#[]⟩, .string ⟨#[]⟩, .int .u64 0]), 3, 40) := by kernel_rfl
/-- The cells of tombs, one behind the other. -/
def tc (x : T) : List Value := [.string x.b, .string x.e, .int .u64 x.s]
def tcs : List T → List Value
  | [] => []
  | x :: r => tc x ++ tcs r
theorem tcs_len : ∀ xs, (tcs xs).length = xs.length * 3
  | [] => rfl
  | x :: r => by simp [tcs, tc, tcs_len r]; omega
theorem tcs_append : ∀ xs ys, tcs (xs ++ ys) = tcs xs ++ tcs ys
  | [], ys => rfl
  | x :: r, ys => by simp [tcs, tcs_append r ys]
theorem tcs_one (xs : List T) : ∀ u ∈ tcs xs, u.oneCell' = true := by
  induction xs with
  | nil => intro u h; simp [tcs] at h
  | cons x r ih =>
    intro u h
    rcases List.mem_append.1 h with h | h
    · simp [tc] at h; rcases h with rfl | rfl | rfl <;> rfl
    · exact ih u h
theorem tcs_get : ∀ (xs : List T) (i : Nat), i < xs.length → (tcs xs)[i * 3]? = some (.string (xs.getD i zt).b) ∧ (tcs xs)[i * 3 + 1]? = some (.string (xs.getD i zt).e) ∧ (tcs xs)[i * 3 + 2]? = some (.int .u64 (xs.getD i zt).s)
  | [], i, h => by simp at h
  | x :: r, 0, h => by simp [tcs, tc]
  | x :: r, i + 1, h => by
    have := tcs_get r i (by simpa using h)
    rw [show (i + 1) * 3 = i * 3 + 3 from by omega]
    simpa [tcs, tc] using this
theorem tcs_take : ∀ (xs : List T) (m : Nat), (tcs xs).take (m * 3) = tcs (xs.take m)
  | [], m => by simp [tcs]
  | x :: r, 0 => by simp [tcs]
  | x :: r, m + 1 => by
    rw [show (m + 1) * 3 = m * 3 + 3 from by omega]
    simp [tcs, tc, tcs_take r m]
theorem tbs_cells {w : World} {ad : Addr} {len cap : Nat} {xs : List T} (h : Tbs w (some ad) len cap xs) : ∀ j u, (tcs xs)[j]? = some u → w.cell? (ad.add j) = some u := by
  intro j u hu
  have hj := (List.getElem?_eq_some_iff.1 hu).1
  rw [tcs_len, h.1] at hj
  obtain ⟨b, o, p⟩ := ad
  obtain ⟨rfl, hat⟩ := h.2.2.2.2 b o p rfl (by omega)
  obtain ⟨i, r, hr, rfl⟩ : ∃ i r, r < 3 ∧ j = i * 3 + r := ⟨j / 3, j % 3, by omega, by omega⟩
  have hi : i < len := by omega
  obtain ⟨c0, c1, c2⟩ := hat i hi
  obtain ⟨g0, g1, g2⟩ := tcs_get xs i (by rw [h.1]; exact hi)
  rw [addr_add]
  match r, hr with
  | 0, _ => rw [Nat.add_zero] at hu ⊢; rw [g0] at hu; rw [c0, ← hu]
  | 1, _ => rw [g1] at hu; rw [← Nat.add_assoc, c1, ← hu]
  | 2, _ => rw [g2] at hu; rw [← Nat.add_assoc, c2, ← hu]
/-- A row of tombs of the call's own. -/
def OwnT (w : World) (base : Nat) (v : Value) (xs : List T) : Prop := w.ownsRow base 111 3 v xs.length (tcs xs)
theorem OwnT.later {w w' : World} {base : Nat} {v : Value} {xs : List T} (h : OwnT w base v xs) (b : Below w.heap.size w w') : OwnT w' base v xs := row_later h b
theorem OwnT.at {w : World} {base g n c : Nat} {xs : List T} (h : OwnT w base (.slice (some ⟨g, 0, none⟩) n c) xs) (i : Nat) (hi : i < xs.length) : At3 w g (i * 3) (xs.getD i zt) := by
  obtain ⟨g0, g1, g2⟩ := tcs_get xs i hi
  have hc := World.ownsRow.cells h (g := g) rfl
  have e0 := hc _ _ g0
  have e1 := hc _ _ g1
  have e2 := hc _ _ g2
  rw [addr_add, Nat.zero_add] at e0 e1 e2
  exact ⟨e0, e1, e2⟩
theorem OwnT.tbs {w : World} {base : Nat} {v : Value} {xs : List T} (h : OwnT w base v xs) (hok : ∀ x ∈ xs, x.ok) : ∃ a c, v = .slice a xs.length c ∧ Tbs w a xs.length c xs ∧ (a = none ∨ ∃ g, a = some ⟨g, 0, none⟩) := by
  have h' := h
  rcases h.2 with ⟨e, h0⟩ | ⟨g, c, cur, e, hb, hg, hn, hm, hs, ht⟩
  · have hx : xs = [] := List.eq_nil_of_length_eq_zero h0
    subst hx
    exact ⟨none, 0, e, ⟨rfl, Nat.le_refl _, fun _ => ⟨rfl, rfl⟩, hok, fun _ _ _ h => by simp at h⟩, .inl rfl⟩
  · subst e
    refine ⟨_, c, rfl, ⟨rfl, hn, fun e => by simp at e, hok, fun b o p hp _ => ?_⟩, .inr ⟨g, rfl⟩⟩
    simp at hp; obtain ⟨rfl, rfl, rfl⟩ := hp
    exact ⟨rfl, fun i hi => by rw [Nat.zero_add]; exact h'.at i hi⟩
theorem OwnT.nil (w : World) (base : Nat) : OwnT w base (.slice none 0 0) [] := World.ownsRow_nil _ _ _ _
theorem app_tomb (w : World) (base : Nat) (v : Value) (l : List T) (x : T) (H : OwnT w base v l) (hn : (l.length + 1) * 40 ≤ 140737488355328) (hbase : base ≤ w.heap.size) :
    ∃ v' w', (Builtin.append_ #[26, 26] 26 #[v, .slice (some ⟨w.heap.size, 0, none⟩) 1 1]).run Try.prog (w.alloc (.cells #[.string x.b, .string x.e, .int .u64 x.s] 111)) = .ok v' w' ∧ OwnT w' base v' (l ++ [x]) ∧ w.grownBy w' v.ownBlock := by
  obtain ⟨i0, hi, hz0, hz1, hz2⟩ := info_parts infoT
  have b1 := box_below w (.cells #[.string x.b, .string x.e, .int .u64 x.s] 111)
  have H2 := row_later H b1
  have n4 := new_at w (.cells #[.string x.b, .string x.e, .int .u64 x.s] 111)
  obtain ⟨v5, W5, r5, o5, g5, _⟩ := run_append_own (P := Try.prog) (w.alloc (.cells #[.string x.b, .string x.e, .int .u64 x.s] 111)) base 26 26 111 i0 _ 3 40 Try.underlying26 hi hz0 hz1 hz2 rfl (by decide) v l.length _ H2 ⟨w.heap.size, 0, none⟩ 1 1 [.string x.b, .string x.e, .int .u64 x.s] rfl (by
    intro q u hq
    rw [show (⟨w.heap.size, 0, none⟩ : Addr).add q = ⟨w.heap.size, q, none⟩ by unfold Addr.add; split <;> simp_all]
    exact cell_of n4 q u (by simpa using hq)) (by intro u hu; simp at hu; rcases hu with rfl | rfl | rfl <;> rfl) (by unfold maxLen; omega) (by omega) (by rw [size_alloc]; omega)
  refine ⟨v5, W5, r5, ?_, ?_⟩
  · unfold OwnT
    rw [List.length_append, tcs_append]
    exact o5
  · exact ⟨g5.os.trans b1.os, g5.tape.trans b1.tape, g5.output.trans b1.output, Nat.le_trans b1.size g5.size, fun k hk hne => (g5.block k (Nat.lt_of_lt_of_le hk b1.size) hne).trans (b1.block k hk)⟩
end Go.Proofs.Ytefihoohdaegeaa.Rw

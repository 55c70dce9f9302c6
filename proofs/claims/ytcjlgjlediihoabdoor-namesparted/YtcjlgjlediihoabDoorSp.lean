/- A line's words: the program's way and the document's way tell the same. -/
import Derived.Test.YtcjlgjlediihoabDoorUt
namespace Go.Proofs.YtcjlgjlediihoabDoor.Sp
open Go.Proofs.YtcjlgjlediihoabDoor.Ut
set_option linter.unusedVariables false
set_option linter.unusedSimpArgs false
set_option linter.unusedSectionVars false

abbrev Ans := List ByteArray × Nat × Nat
def forb (x : Nat) : Bool := decide (x < 32) || x == 127
def isb (x : Nat) : Bool := x == 32
/-- Where a quoted word ends, from a place on, and whether it does. -/
def qe (s : ByteArray) : Nat → Nat → Bool → Nat × Bool
  | 0, p, _ => (p, false)
  | f + 1, p, al =>
    if p < s.size then
      (if al = true then qe s f (p + 1) false else if bt s p = 92 then qe s f (p + 1) true else if bt s p = 34 then (p + 1, true) else qe s f (p + 1) false)
    else (p, false)
/-- Where the word that begins at a place ends, and whether it does. -/
def we (s : ByteArray) (b : Nat) : Nat × Bool := if bt s b = 34 then qe s s.size b true else (fb isb s b, true)
theorem qe_le (s : ByteArray) : ∀ f p al, p ≤ s.size → p ≤ (qe s f p al).1 ∧ (qe s f p al).1 ≤ s.size
  | 0, p, al, h => ⟨Nat.le_refl _, h⟩
  | f + 1, p, al, h => by
    unfold qe
    by_cases hp : p < s.size
    · rw [if_pos hp]
      have h1 := qe_le s f (p + 1) false (by omega)
      have h2 := qe_le s f (p + 1) true (by omega)
      split
      · omega
      · split
        · omega
        · split
          · exact ⟨by show p ≤ p + 1; omega, by show p + 1 ≤ _; omega⟩
          · omega
    · rw [if_neg hp]
      exact ⟨Nat.le_refl _, h⟩
theorem we_gt (s : ByteArray) (b : Nat) (hb : b < s.size) (h32 : bt s b ≠ 32) : b < (we s b).1 ∧ (we s b).1 ≤ s.size := by
  unfold we
  by_cases h : bt s b = 34
  · rw [if_pos h]
    obtain ⟨m, hm⟩ : ∃ m, s.size = m + 1 := ⟨s.size - 1, by omega⟩
    rw [hm, qe, if_pos hb, if_pos rfl, ← hm]
    have := qe_le s m (b + 1) false (by omega)
    omega
  · rw [if_neg h]
    obtain ⟨a, b', c, d⟩ := fb_spec isb s b (by omega)
    refine ⟨?_, b'⟩
    show b < fb isb s b
    by_cases hh : fb isb s b = b
    · rw [hh] at d
      exact absurd (by simpa [isb] using d hb) h32
    · omega
/-- The program's way, from a place on. -/
def spA (s : ByteArray) (F : Nat) (b : Nat) (ws : List ByteArray) : Ans :=
  if hb : b < s.size then
    if h32 : bt s b = 32 then spA s F (b + 1) ws
    else if (we s b).2 = false ∧ F = s.size then ([], b, 61)
    else if (we s b).1 < s.size ∧ bt s (we s b).1 ≠ 32 then ([], min (we s b).1 F, 61)
    else
      have := we_gt s b hb h32
      spA s F (we s b).1 (ws ++ [s.extract b (we s b).1])
  else if F < s.size then ([], F, 61) else (ws, 0, 0)
termination_by s.size - b
/-- The document's way, from a place on. -/
def spB (s : ByteArray) (i : Nat) (op : Int) (q c : Bool) (out : List ByteArray) : Ans :=
  if i < s.size then
    if forb (bt s i) = true ∨ (c = true ∧ bt s i ≠ 32) then ([], i, 61)
    else if bt s i = 32 ∧ q = false then spB s (i + 1) (-1) q false (if op < 0 then out else out ++ [s.extract op.toNat i])
    else if op < 0 then spB s (i + 1) i (bt s i == 34) c out
    else if q = true ∧ bt s i = 92 then (if i + 1 < s.size ∧ forb (bt s (i + 1)) = true then ([], i + 1, 61) else spB s (i + 2) op q c out)
    else if q = true ∧ bt s i = 34 then spB s (i + 1) op false true out
    else spB s (i + 1) op q c out
  else if q = true then ([], op.toNat, 61) else if op < 0 then (out, 0, 0) else (out ++ [s.extract op.toNat s.size], 0, 0)
termination_by s.size + 1 - i

section
variable (s : ByteArray) (F : Nat) (h1 : ∀ j, j < F → forb (bt s j) = false) (h2 : F < s.size → forb (bt s F) = true) (h3 : F ≤ s.size)
include h1 h2 h3

theorem pass_un (b : Nat) (out : List ByteArray) : ∀ k i e, i + k = e → e ≤ s.size → e ≤ F → (∀ j, i ≤ j → j < e → bt s j ≠ 32) → spB s i b false false out = spB s e b false false out
  | 0, i, e, h, _, _, _ => by
    have : i = e := by omega
    rw [this]
  | k + 1, i, e, h, he, hF, hn => by
    have hx := hn i (by omega) (by omega)
    have hf := h1 i (by omega)
    have hb : ¬ ((b : Int) < 0) := by omega
    rw [spB, if_pos (by omega)]
    simp only [hf, hx, hb, Bool.false_eq_true, false_and, false_or, and_false, if_false]
    exact pass_un b out k (i + 1) e (by omega) he hF (fun j a b => hn j (by omega) b)
theorem bad_un (b : Nat) (out : List ByteArray) (hFn : F < s.size) : ∀ k i, i + k = F → (∀ j, i ≤ j → j < F → bt s j ≠ 32) → spB s i b false false out = ([], F, 61) := by
  intro k i hk hn
  rw [pass_un s F h1 h2 h3 b out k i F hk (by omega) (Nat.le_refl _) hn, spB, if_pos hFn, if_pos (.inl (h2 hFn))]
theorem pass_q (b : Nat) (out : List ByteArray) : ∀ f p, p ≤ s.size → s.size ≤ p + f → p ≤ F →
    ((qe s f p false).1 ≤ F → (qe s f p false).2 = true → spB s p b true false out = spB s (qe s f p false).1 b false true out) ∧
    ((qe s f p false).2 = false → F = s.size → spB s p b true false out = ([], b, 61)) ∧
    ((qe s f p false).2 = false → (qe s f p false).1 = s.size) ∧
    (F < (qe s f p false).1 → spB s p b true false out = ([], F, 61)) := by
  intro f
  induction f using Nat.strongRecOn with
  | ind f ih =>
  intro p hp hf hpF
  have hb : ¬ ((b : Int) < 0) := by omega
  by_cases hps : p < s.size
  · obtain ⟨g, rfl⟩ : ∃ g, f = g + 1 := ⟨f - 1, by omega⟩
    by_cases hpe : p = F
    · have hbad : spB s p b true false out = ([], F, 61) := by
        rw [spB, if_pos hps, if_pos (.inl (by rw [hpe]; exact h2 (by omega))), hpe]
      have hgt : p < (qe s (g + 1) p false).1 := by
        have e1 := qe_le s g (p + 1) false (by omega)
        have e2 := qe_le s g (p + 1) true (by omega)
        rw [qe, if_pos hps, if_neg (by simp)]
        split
        · omega
        · split
          · show p < p + 1
            omega
          · omega
      refine ⟨fun h => by omega, fun _ h => by omega, ?_, fun _ => hbad⟩
      have : ∀ f p al, p ≤ s.size → s.size ≤ p + f → (qe s f p al).2 = false → (qe s f p al).1 = s.size := by
        intro f
        induction f with
        | zero => intro p al ha hb _; simp [qe]; omega
        | succ f ih =>
          intro p al ha hb
          unfold qe
          by_cases h : p < s.size
          · rw [if_pos h]
            split
            · exact ih _ _ (by omega) (by omega)
            · split
              · exact ih _ _ (by omega) (by omega)
              · split
                · intro h; simp at h
                · exact ih _ _ (by omega) (by omega)
          · rw [if_neg h]
            intro _
            show p = _
            omega
      exact this _ _ _ hp hf
    · have hx := h1 p (by omega)
      rw [spB, if_pos hps]
      simp only [hx, hb, Bool.false_eq_true, false_and, false_or, and_false, if_false, true_and, Bool.true_eq_false]
      rw [qe, if_pos hps, if_neg (by simp)]
      by_cases h92 : bt s p = 92
      · rw [if_pos h92, if_pos h92]
        by_cases hl : p + 1 < s.size
        · obtain ⟨g', rfl⟩ : ∃ g', g = g' + 1 := ⟨g - 1, by omega⟩
          rw [qe, if_pos hl, if_pos rfl]
          by_cases hpf : p + 1 = F
          · have e1 := qe_le s g' (p + 1 + 1) false (by omega)
            obtain ⟨i1, i2, i3, i4⟩ : True ∧ True ∧ ((qe s g' (p + 1 + 1) false).2 = false → (qe s g' (p + 1 + 1) false).1 = s.size) ∧ True := by
              refine ⟨trivial, trivial, ?_, trivial⟩
              have : ∀ f p al, p ≤ s.size → s.size ≤ p + f → (qe s f p al).2 = false → (qe s f p al).1 = s.size := by
                intro f
                induction f with
                | zero => intro p al ha hb _; simp [qe]; omega
                | succ f ih =>
                  intro p al ha hb
                  unfold qe
                  by_cases h : p < s.size
                  · rw [if_pos h]
                    split
                    · exact ih _ _ (by omega) (by omega)
                    · split
                      · exact ih _ _ (by omega) (by omega)
                      · split
                        · intro h; simp at h
                        · exact ih _ _ (by omega) (by omega)
                  · rw [if_neg h]
                    intro _
                    show p = _
                    omega
              exact this _ _ _ (by omega) (by omega)
            rw [if_pos ⟨hl, by rw [hpf]; exact h2 (by omega)⟩]
            exact ⟨fun h => by omega, fun _ h => by omega, i3, fun _ => by rw [hpf]⟩
          · have hx1 := h1 (p + 1) (by omega)
            rw [if_neg (by rw [hx1]; simp)]
            exact ih g' (by omega) (p + 1 + 1) (by omega) (by omega) (by omega)
        · have hpn : p + 1 = s.size := by omega
          have hFn : F = s.size := by omega
          have hq : qe s g (p + 1) true = (s.size, false) := by
            cases g with
            | zero => simp [qe]; omega
            | succ g => rw [qe, if_neg hl, hpn]
          rw [hq, if_neg (fun h => hl h.1), spB, if_neg (by omega), if_pos rfl]
          exact ⟨fun _ h => by simp at h, fun _ _ => by simp, fun _ => rfl, fun h => by (have : F < s.size := h); omega⟩
      · rw [if_neg h92, if_neg h92]
        by_cases h34 : bt s p = 34
        · rw [if_pos h34, if_pos h34]
          exact ⟨fun _ _ => rfl, fun h => by simp at h, fun h => by simp at h, fun h => by (have : F < p + 1 := h); omega⟩
        · rw [if_neg h34, if_neg h34]
          exact ih g (by omega) (p + 1) (by omega) (by omega) (by omega)
  · have hpn : p = s.size := by omega
    have hFn : F = s.size := by omega
    have hq : qe s f p false = (s.size, false) := by
      cases f with
      | zero => simp [qe]; omega
      | succ g => rw [qe, if_neg hps, hpn]
    rw [hq, spB, if_neg hps, if_pos rfl]
    exact ⟨fun _ h => by simp at h, fun _ _ => by simp, fun _ => rfl, fun h => by (have : F < s.size := h); omega⟩
/-- Behind a byte that may not be, the program tells that byte. -/
theorem late (hF : F < s.size) : ∀ k b ws, s.size - b = k → F < b → spA s F b ws = ([], F, 61) := by
  intro k
  induction k using Nat.strongRecOn with
  | ind k ih =>
  intro b ws hk hb
  rw [spA]
  by_cases hbs : b < s.size
  · rw [dif_pos hbs]
    by_cases h32 : bt s b = 32
    · rw [dif_pos h32]
      exact ih (s.size - (b + 1)) (by omega) (b + 1) ws rfl (by omega)
    · rw [dif_neg h32, if_neg (fun h => by omega)]
      have hg := we_gt s b hbs h32
      split
      · rw [Nat.min_eq_right (by omega)]
      · exact ih (s.size - (we s b).1) (by omega) _ _ rfl (by omega)
  · rw [dif_neg hbs, if_pos hF]
/-- The two ways tell the same. -/
theorem same : ∀ k b ws, s.size - b = k → b ≤ s.size → b ≤ F → spA s F b ws = spB s b (-1) false false ws := by
  intro k
  induction k using Nat.strongRecOn with
  | ind k ih =>
  intro b ws hk hb hbF
  by_cases hbs : b < s.size
  · rw [spA, dif_pos hbs]
    by_cases h32 : bt s b = 32
    · rw [dif_pos h32]
      have hF : b ≠ F := by
        intro h
        have := h2 (by omega)
        rw [← h, h32] at this
        simp [forb] at this
      rw [ih (s.size - (b + 1)) (by omega) (b + 1) ws rfl (by omega) (by omega)]
      conv => rhs; rw [spB, if_pos hbs]
      rw [if_neg (by rw [h32]; simp [forb]), if_pos ⟨h32, rfl⟩, if_pos (by omega)]
    · rw [dif_neg h32]
      have hg := we_gt s b hbs h32
      by_cases hF : b = F
      · have hbad : spB s b (-1) false false ws = ([], F, 61) := by
          rw [spB, if_pos hbs, if_pos (.inl (by rw [hF]; exact h2 (by omega))), hF]
        rw [hbad, if_neg (fun h => by omega)]
        split
        · rw [Nat.min_eq_right (by omega)]
        · exact late s F h1 h2 h3 (by omega) _ _ _ rfl (by omega)
      · have hx := h1 b (by omega)
        have hB : spB s b (-1) false false ws = spB s (b + 1) b (bt s b == 34) false ws := by
          rw [spB, if_pos hbs]
          simp only [hx, h32, Bool.false_eq_true, false_and, false_or, and_false, if_false]
          rw [if_pos (by omega)]
        rw [hB]
        by_cases h34 : bt s b = 34
        · have hw : we s b = qe s (s.size - 1) (b + 1) false := by
            unfold we
            rw [if_pos h34]
            obtain ⟨m, hm⟩ : ∃ m, s.size = m + 1 := ⟨s.size - 1, by omega⟩
            rw [hm, qe, if_pos hbs, if_pos rfl, ← hm]
            simp [hm]
          obtain ⟨q1, q2, q3, q4⟩ := pass_q s F h1 h2 h3 b ws (s.size - 1) (b + 1) (by omega) (by omega) (by omega)
          rw [← hw] at q1 q2 q3 q4
          have e34 : (bt s b == 34) = true := by simp [h34]
          rw [e34]
          by_cases hFe : F < (we s b).1
          · rw [q4 hFe, if_neg (fun h => by omega)]
            split
            · rw [Nat.min_eq_right (by omega)]
            · exact late s F h1 h2 h3 (by omega) _ _ _ rfl (by omega)
          · cases hok : (we s b).2 with
            | false =>
              have hend := q3 hok
              rw [if_pos ⟨rfl, by omega⟩, q2 hok (by omega)]
            | true =>
              rw [q1 (by omega) hok, if_neg (by simp)]
              by_cases hes : (we s b).1 < s.size
              · conv => rhs; rw [spB, if_pos hes]
                by_cases h32e : bt s (we s b).1 = 32
                · rw [if_neg (fun h => h.2 h32e), if_neg (by rw [h32e]; simp [forb]), if_pos ⟨h32e, rfl⟩, if_neg (by omega)]
                  rw [spA, dif_pos hes, dif_pos h32e]
                  have hFe' : (we s b).1 ≠ F := by
                    intro h
                    have := h2 (by omega)
                    rw [← h, h32e] at this
                    simp [forb] at this
                  rw [ih (s.size - ((we s b).1 + 1)) (by omega) ((we s b).1 + 1) _ rfl (by omega) (by omega)]
                  simp
                · rw [if_pos ⟨hes, h32e⟩, if_pos (.inr ⟨rfl, h32e⟩), Nat.min_eq_left (by omega)]
              · rw [if_neg (fun h => hes h.1), spA, dif_neg hes, if_neg (by omega), spB, if_neg hes, if_neg (by simp), if_neg (by omega)]
                have : (we s b).1 = s.size := by omega
                rw [this]
                simp
        · have e34 : (bt s b == 34) = false := by simp [h34]
          rw [e34]
          have hw : we s b = (fb isb s b, true) := by unfold we; rw [if_neg h34]
          obtain ⟨a1, a2, a3, a4⟩ := fb_spec isb s b (by omega)
          have hw1 : fb isb s b = (we s b).1 := by rw [hw]
          have hw2 : (we s b).2 = true := by rw [hw]
          rw [hw1] at a1 a2 a3 a4
          clear hw hw1
          have hg1 : b < (we s b).1 := hg.1
          have n32 : ∀ j, b ≤ j → j < (we s b).1 → bt s j ≠ 32 := fun j x y => by simpa [isb] using a3 j x y
          by_cases hFe : F < (we s b).1
          · rw [bad_un s F h1 h2 h3 b ws (by omega) (F - (b + 1)) (b + 1) (by omega) (fun j x y => n32 j (by omega) (by omega))]
            rw [if_neg (by rw [hw2]; simp)]
            split
            · rw [Nat.min_eq_right (by show F ≤ (we s b).1; omega)]
            · exact late s F h1 h2 h3 (by omega) _ _ _ rfl hFe
          · rw [pass_un s F h1 h2 h3 b ws ((we s b).1 - (b + 1)) (b + 1) ((we s b).1) (by omega) a2 (by omega) (fun j x y => n32 j (by omega) y)]
            rw [if_neg (by rw [hw2]; simp)]
            by_cases hes : (we s b).1 < s.size
            · have h32e : bt s ((we s b).1) = 32 := by simpa [isb] using a4 hes
              rw [if_neg (fun h => h.2 h32e)]
              conv => rhs; rw [spB, if_pos hes]
              rw [if_neg (by rw [h32e]; simp [forb]), if_pos ⟨h32e, rfl⟩, if_neg (by omega)]
              show spA s F ((we s b).1) _ = _
              rw [spA, dif_pos hes, dif_pos h32e]
              have hFe' : (we s b).1 ≠ F := by
                intro h
                have := h2 (by omega)
                rw [← h, h32e] at this
                simp [forb] at this
              rw [ih (s.size - ((we s b).1 + 1)) (by omega) ((we s b).1 + 1) _ rfl (by omega) (by omega)]
              simp
            · rw [if_neg (fun h => hes h.1)]
              show spA s F ((we s b).1) _ = _
              rw [spA, dif_neg hes, if_neg (by omega), spB, if_neg hes, if_neg (by simp), if_neg (by omega)]
              have : (we s b).1 = s.size := by omega
              rw [this]
              simp
  · rw [spA, dif_neg hbs, if_neg (by omega), spB, if_neg hbs, if_neg (by simp), if_pos (by omega)]
end
end Go.Proofs.YtcjlgjlediihoabDoor.Sp

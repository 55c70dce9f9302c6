/- A file of blocks that is cut off anywhere, as plain lists: just the whole records are read. -/
import Derived.Test.YtgkoopciajjonaaDoorJm
namespace Go.Proofs.YtgkoopciajjonaaDoor.Jn
open Go.RowKit
open Go.Proofs.YtgkoopciajjonaaDoor.Crc
open Go.Proofs.YtgkoopciajjonaaDoor.Jm
set_option linter.unusedVariables false

theorem rd_end (block : Nat) (f : List Int) (a : Nat) (r : List Int) (b : Bool) (h : f.length ≤ a) : Rd block f a r b [] (if b then 1 else 0) :=
  .stop (by unfold stp; rw [if_pos h])
theorem prefix_cases {α : Type} {x a b : List α} (h : x <+: a ++ b) : (x <+: a ∧ x.length < a.length) ∨ ∃ x', x = a ++ x' ∧ x' <+: b := by
  rcases Nat.lt_or_ge x.length a.length with hl | hl
  · exact .inl ⟨List.prefix_of_prefix_length_le h (List.prefix_append a b) (by omega), hl⟩
  · right
    have : a <+: x := List.prefix_of_prefix_length_le (List.prefix_append a b) h hl
    obtain ⟨x', rfl⟩ := this
    exact ⟨x', rfl, (List.prefix_append_right_inj a).1 h⟩
theorem stp_pie_cut (block : Nat) (hb : 32 ≤ block ∧ block ≤ 32768) (pre x : List Int) (k : Int) (d r : List Int) (b : Bool) (hk : 1 ≤ k ∧ k ≤ 4) (hd : d.length + 7 ≤ left block pre.length)
    (hx : x <+: pc k d) (hlt : x.length < (pc k d).length) (h0 : x ≠ []) : stp block (pre ++ x) pre.length r b = .stop 1 := by
  have hp := pc_len k d
  have hl : left block pre.length ≤ block := left_le _ _
  have hx0 : 0 < x.length := List.length_pos_iff.2 h0
  unfold stp
  rw [if_neg (by simp; omega), if_neg (by omega), List.drop_left' rfl, List.take_of_length_le (by omega), pa_cut k d x _ hk hd (by omega) hx hlt]
theorem rd_pcs_cut (block : Nat) (hb : 32 ≤ block ∧ block ≤ 32768) : ∀ (n rm : Nat) (first : Bool) (r pre x rec : List Int), r.length + (if first then 2 else 1) ≤ n → left block pre.length = rm + 7 → (first = false → rm = block - 7) → rec.length + r.length ≤ 2097152 →
    x <+: flat (pcs (block - 7) n rm first r) → x.length < (flat (pcs (block - 7) n rm first r)).length →
    ∃ how, how ≤ 1 ∧ Rd block (pre ++ x) pre.length rec (!first) [] how ∧ (x = [] → first = true → how = 0) := by
  intro n
  induction n with
  | zero => intro rm first r pre x rec hn; cases first <;> simp at hn
  | succ n ih =>
    intro rm first r pre x rec hn hrm hfr hm hx hlt
    by_cases h0 : x = []
    · subst h0
      rw [List.append_nil]
      refine ⟨_, ?_, rd_end block pre pre.length rec (!first) (Nat.le_refl _), ?_⟩
      · cases first <;> simp
      · intro _ hf; subst hf; rfl
    · unfold pcs at hx hlt
      by_cases h : r.length ≤ rm
      · rw [if_pos h] at hx hlt
        rw [flat_cons, flat_nil, List.append_nil] at hx hlt
        exact ⟨1, by omega, .stop (stp_pie_cut block hb pre x _ r rec _ (kd_bd _ _) (by omega) hx hlt h0), fun e => absurd e h0⟩
      · rw [if_neg h] at hx hlt
        rw [flat_cons] at hx hlt
        have ht : (r.take rm).length = rm := by rw [List.length_take]; omega
        rcases prefix_cases hx with ⟨hx1, hl1⟩ | ⟨x', rfl, hx'⟩
        · exact ⟨1, by omega, .stop (stp_pie_cut block hb pre x _ _ rec _ (kd_bd _ _) (by omega) hx1 hl1 h0), fun e => absurd e h0⟩
        · have S := stp_pie block hb pre x' (kd first false) (r.take rm) rec (!first) (kd_bd _ _) (by omega) (by omega) (by rw [begins_kd]; simp) (by omega)
          rw [ends_kd] at S
          simp only [Bool.false_eq_true, if_false] at S
          have hp : (pre ++ pc (kd first false) (r.take rm)).length = pre.length + 7 + rm := by rw [List.length_append, pc_len, ht]; omega
          obtain ⟨how, h1, hR, _⟩ := ih (block - 7) false (r.drop rm) (pre ++ pc (kd first false) (r.take rm)) x' (rec ++ r.take rm) (by
              rw [List.length_drop]
              cases first with
              | true => simp at hn ⊢; omega
              | false => have := hfr rfl; simp at hn ⊢; omega) (by
              have he := left_end block pre.length (by omega)
              rw [hp, show pre.length + 7 + rm = pre.length + left block pre.length by omega, he]; omega) (fun _ => rfl) (by rw [List.length_append, ht, List.length_drop]; omega) hx' (by rw [List.length_append, List.length_append] at hlt; simp only [Ch.b] at hlt; omega)
          refine ⟨how, h1, .go S ?_, fun e => absurd e h0⟩
          rw [hp, List.append_assoc] at hR
          rw [ht]
          exact hR
theorem rd_add_cut (block : Nat) (hb : 32 ≤ block ∧ block ≤ 32768) (r pre x : List Int) (hm : r.length ≤ 2097152) (hx : x <+: flat (addc block pre.length r)) (hlt : x.length < (flat (addc block pre.length r)).length) :
    ∃ how, how ≤ 1 ∧ Rd block (pre ++ x) pre.length [] false [] how ∧ (x = [] → how = 0) := by
  unfold addc room at hx hlt
  by_cases h : left block pre.length < 7
  · simp only [if_pos h] at hx hlt
    rw [List.singleton_append, flat_cons] at hx hlt
    have hlp := left_pos block pre.length (by omega)
    rcases prefix_cases hx with ⟨hx1, hl1⟩ | ⟨x', rfl, hx'⟩
    · simp only [Ch.b] at hx1 hl1
      by_cases h0 : x = []
      · subst h0
        rw [List.append_nil]
        exact ⟨0, by omega, rd_end block pre pre.length [] false (Nat.le_refl _), fun _ => rfl⟩
      · have hx0 : 0 < x.length := List.length_pos_iff.2 h0
        refine ⟨0, by omega, .go (a2 := pre.length + x.length) (r2 := []) (b2 := false) ?_ (rd_end block _ _ [] false (by simp)), fun _ => rfl⟩
        unfold stp
        rw [if_neg (by simp; omega), if_pos h, List.drop_left' rfl, List.take_of_length_le (by simp at hl1; omega), if_pos ?_]
        intro y hy
        exact (List.mem_replicate.1 (hx1.subset hy)).2
    · simp only [Ch.b] at hlt ⊢
      have hp : (pre ++ List.replicate (left block pre.length) (0 : Int)).length = pre.length + left block pre.length := by simp
      obtain ⟨how, h1, hR, h2⟩ := rd_pcs_cut block hb (r.length + 2) (block - 7) true r (pre ++ List.replicate (left block pre.length) 0) x' [] (by simp) (by rw [hp, left_end _ _ (by omega)]; omega) (by simp) (by simpa using hm) hx' (by rw [List.length_append, List.length_append] at hlt; omega)
      refine ⟨how, h1, .go (stp_pad block pre x' [] false h hlp) ?_, ?_⟩
      · rw [hp, List.append_assoc] at hR
        exact hR
      · intro e
        have := congrArg List.length e
        simp at this; omega
  · simp only [if_neg h, List.nil_append] at hx hlt
    obtain ⟨how, h1, hR, h2⟩ := rd_pcs_cut block hb (r.length + 2) (left block pre.length - 7) true r pre x [] (by simp) (by omega) (by simp) (by simpa using hm) hx hlt
    exact ⟨how, h1, hR, fun e => h2 e rfl⟩

/-- A file of records that are laid one behind the other, and the places behind them. -/
def lay (block : Nat) : Nat → List (List Int) → List Int
  | _, [] => []
  | a, r :: rs => flat (addc block a r) ++ lay block (a + (flat (addc block a r)).length) rs
def endl (block : Nat) : Nat → List (List Int) → List Nat
  | _, [] => []
  | a, r :: rs => (a + (flat (addc block a r)).length) :: endl block (a + (flat (addc block a r)).length) rs
theorem endl_len (block : Nat) : ∀ (rs : List (List Int)) (a : Nat), (endl block a rs).length = rs.length
  | [], _ => rfl
  | r :: rs, a => by simp [endl, endl_len block rs]
theorem endl_ge (block : Nat) : ∀ (rs : List (List Int)) (a i : Nat), i < rs.length → a ≤ (endl block a rs).getD i 0
  | [], _, i, h => by simp at h
  | r :: rs, a, 0, h => by simp [endl]
  | r :: rs, a, i + 1, h => by
    have := endl_ge block rs (a + (flat (addc block a r)).length) i (by simpa using h)
    simp only [endl, List.getD_cons_succ]; omega
theorem rd_lay_cut (block : Nat) (hb : 32 ≤ block ∧ block ≤ 32768) : ∀ (rs : List (List Int)) (pre x : List Int), (∀ r ∈ rs, r.length ≤ 2097152) → x <+: lay block pre.length rs →
    ∃ k how, k ≤ rs.length ∧ how ≤ 1 ∧ Rd block (pre ++ x) pre.length [] false (((endl block pre.length rs).zip rs).take k) how ∧ (∀ i, i < k → (endl block pre.length rs).getD i 0 ≤ pre.length + x.length) ∧
      (∀ i, k ≤ i → i < rs.length → pre.length + x.length < (endl block pre.length rs).getD i 0) ∧ (how = 1 → (if k = 0 then pre.length else (endl block pre.length rs).getD (k - 1) 0) ≠ pre.length + x.length) := by
  intro rs
  induction rs with
  | nil =>
    intro pre x _ hx
    have : x = [] := by simpa [lay] using hx
    subst this
    refine ⟨0, 0, Nat.le_refl _, by omega, ?_, by simp, by simp, by simp⟩
    rw [List.append_nil]
    exact rd_end block pre pre.length [] false (Nat.le_refl _)
  | cons r rs ih =>
    intro pre x hm hx
    simp only [lay] at hx
    have hr := hm r (by simp)
    rcases prefix_cases hx with ⟨hx1, hl1⟩ | ⟨x', rfl, hx'⟩
    · obtain ⟨how, h1, hR, h0⟩ := rd_add_cut block hb r pre x hr hx1 hl1
      refine ⟨0, how, Nat.zero_le _, h1, by simpa using hR, by simp, ?_, ?_⟩
      · intro i _ hi
        cases i with
        | zero => simp [endl]; omega
        | succ i =>
          have := endl_ge block rs (pre.length + (flat (addc block pre.length r)).length) i (by simpa using hi)
          simp only [endl, List.getD_cons_succ]; omega
      · intro e
        rw [if_pos rfl]
        intro h
        have : x = [] := List.eq_nil_of_length_eq_zero (by omega)
        have := h0 this
        omega
    · have hp : (pre ++ flat (addc block pre.length r)).length = pre.length + (flat (addc block pre.length r)).length := by simp
      obtain ⟨k, how, hk, h1, hR, ha, hbh, hw⟩ := ih (pre ++ flat (addc block pre.length r)) x' (fun r' h' => hm r' (by simp [h'])) (by rw [hp]; exact hx')
      rw [hp] at hR ha hbh hw
      rw [List.append_assoc] at hR
      have hl : (flat (addc block pre.length r) ++ x').length = (flat (addc block pre.length r)).length + x'.length := by simp
      refine ⟨k + 1, how, by simp; omega, h1, ?_, ?_, ?_, ?_⟩
      · simp only [endl, List.zip_cons_cons, List.take_succ_cons]
        exact rd_add block hb r pre x' _ how hr hR
      · intro i hi
        rw [hl]
        cases i with
        | zero => simp [endl]
        | succ i =>
          have := ha i (by omega)
          simp only [endl, List.getD_cons_succ]; omega
      · intro i hi hil
        rw [hl]
        cases i with
        | zero => omega
        | succ i =>
          have := hbh i (by omega) (by simpa using hil)
          simp only [endl, List.getD_cons_succ]; omega
      · intro e
        have := hw e
        rw [if_neg (by omega), hl]
        cases k with
        | zero => simp only [if_pos] at this; simp only [endl, Nat.zero_add, Nat.sub_self, List.getD_cons_zero]; omega
        | succ k =>
          rw [if_neg (by omega)] at this
          simp only [endl, Nat.add_sub_cancel, List.getD_cons_succ] at this ⊢; omega
end Go.Proofs.YtgkoopciajjonaaDoor.Jn

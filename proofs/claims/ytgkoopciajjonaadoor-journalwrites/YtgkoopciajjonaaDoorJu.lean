/- The piece in which a place lies, and a file in which a byte is turned: what is read. -/
import Derived.Test.YtgkoopciajjonaaDoorJt
namespace Go.Proofs.YtgkoopciajjonaaDoor.Ju
open Go.RowKit
open Go.Proofs.YtgkoopciajjonaaDoor.Crc
open Go.Proofs.YtgkoopciajjonaaDoor.Jm
open Go.Proofs.YtgkoopciajjonaaDoor.Jn
open Go.Proofs.YtgkoopciajjonaaDoor.Jt
set_option linter.unusedVariables false

/-- The way over a file's pieces up to the one in which a place lies. -/
inductive Wk (block : Nat) (F : List Int) (place : Nat) : Nat → Nat → Prop where
  | fin {a} : F.length < a + 7 → Wk block F place a a
  | pad {a res} : a + 7 ≤ F.length → left block a < 7 → Wk block F place (a + left block a) res → Wk block F place a res
  | brk {a} : a + 7 ≤ F.length → 7 ≤ left block a → place < a + 7 + cnt (F.drop a) → Wk block F place a a
  | nxt {a res} : a + 7 ≤ F.length → 7 ≤ left block a → a + 7 + cnt (F.drop a) ≤ place → Wk block F place (a + 7 + cnt (F.drop a)) res → Wk block F place a res
theorem set_in (pre a suf : List Int) (place : Nat) (v : Int) (h1 : pre.length ≤ place) (h2 : place < pre.length + a.length) : (pre ++ (a ++ suf)).set place v = pre ++ (a.set (place - pre.length) v ++ suf) := by
  rw [List.set_append_right _ _ h1, List.set_append_left _ _ (by omega)]
theorem set_behind (pre a suf : List Int) (place : Nat) (v : Int) (h1 : pre.length + a.length ≤ place) : (pre ++ (a ++ suf)).set place v = pre ++ (a ++ suf.set (place - pre.length - a.length) v) := by
  rw [List.set_append_right _ _ (by omega), List.set_append_right _ _ (by omega)]
theorem getD_in (pre a suf : List Int) (place : Nat) (h1 : pre.length ≤ place) (h2 : place < pre.length + a.length) : (pre ++ (a ++ suf)).getD place 0 = a.getD (place - pre.length) 0 := by
  rw [List.getD_eq_getElem?_getD, List.getElem?_append_right h1, List.getElem?_append_left (by omega), ← List.getD_eq_getElem?_getD]
theorem cnt_at (pre suf : List Int) (k : Int) (d : List Int) (h : d.length < 65536) : cnt ((pre ++ (pc k d ++ suf)).drop pre.length) = d.length := by
  rw [List.drop_left' rfl, pc_cnt k d suf h]
theorem stp_pie_turn (block : Nat) (hb : 32 ≤ block ∧ block ≤ 32768) (pre suf : List Int) (k : Int) (d r : List Int) (b : Bool) (j : Nat) (v : Int) (hk : 1 ≤ k ∧ k ≤ 4) (hby : ∀ y ∈ d, 0 ≤ y ∧ y ≤ 255) (h7 : 7 ≤ left block pre.length) (hd : d.length + 7 ≤ left block pre.length)
    (hj : j < 7 + d.length) (h4 : j ≠ 4) (h5 : j ≠ 5) (hv : 0 ≤ v ∧ v ≤ 255) (hne : v ≠ (pc k d).getD j 0) :
    stp block (pre ++ ((pc k d).set j v ++ suf)) pre.length r b = .stop 2 := by
  have hp := pc_len k d
  have hl : left block pre.length ≤ block := left_le _ _
  unfold stp
  rw [if_neg (by simp; omega), if_neg (by omega), List.drop_left' rfl, take_append_ge _ _ _ (by simp; omega), pa_turn k d _ _ j v hk hby hd (by omega) hj h4 h5 hv hne]
theorem stp_pad_turn (block : Nat) (pre suf : List Int) (r : List Int) (b : Bool) (j : Nat) (v : Int) (h7 : left block pre.length < 7) (hj : j < left block pre.length) (hv : v ≠ 0) :
    stp block (pre ++ ((List.replicate (left block pre.length) (0 : Int)).set j v ++ suf)) pre.length r b = .stop 2 := by
  unfold stp
  rw [if_neg (by simp; omega), if_pos h7, List.drop_left' rfl, List.take_left' (by simp), if_neg]
  intro h
  exact hv (h v (List.mem_set (by simpa using hj) v))
theorem pcs_turn (block : Nat) (hb : 32 ≤ block ∧ block ≤ 32768) (place : Nat) (v : Int) (hv : 0 ≤ v ∧ v ≤ 255) : ∀ (n rm : Nat) (first : Bool) (r pre suf rec : List Int), r.length + (if first then 2 else 1) ≤ n → left block pre.length = rm + 7 → (first = false → rm = block - 7) → rec.length + r.length ≤ 2097152 → (∀ y ∈ r, 0 ≤ y ∧ y ≤ 255) →
    pre.length ≤ place → place < pre.length + (flat (pcs (block - 7) n rm first r)).length →
    ∃ a, Wk block (pre ++ (flat (pcs (block - 7) n rm first r) ++ suf)) place pre.length a ∧
      (place ≠ a + 4 → place ≠ a + 5 → v ≠ (pre ++ (flat (pcs (block - 7) n rm first r) ++ suf)).getD place 0 → Rd block ((pre ++ (flat (pcs (block - 7) n rm first r) ++ suf)).set place v) pre.length rec (!first) [] 2) := by
  intro n
  induction n with
  | zero => intro rm first r pre suf rec hn; cases first <;> simp at hn
  | succ n ih =>
    intro rm first r pre suf rec hn hrm hfr hm hby h1 h2
    have hll := left_le block pre.length
    unfold pcs at h2 ⊢
    by_cases h : r.length ≤ rm
    · rw [if_pos h] at h2 ⊢
      rw [flat_cons, flat_nil, List.append_nil] at h2 ⊢
      simp only [Ch.b] at h2 ⊢
      have hp := pc_len (kd first true) r
      refine ⟨pre.length, .brk (by simp; omega) (by omega) (by rw [cnt_at _ _ _ _ (by omega)]; omega), ?_⟩
      intro h4 h5 hne
      rw [set_in _ _ _ _ _ h1 h2]
      rw [getD_in _ _ _ _ h1 h2] at hne
      exact .stop (stp_pie_turn block hb pre suf _ r rec _ _ v (kd_bd _ _) hby (by omega) (by omega) (by omega) (by omega) (by omega) hv hne)
    · rw [if_neg h] at h2 ⊢
      rw [flat_cons, List.append_assoc]
      rw [flat_cons, List.length_append] at h2
      simp only [Ch.b] at h2 ⊢
      have ht : (r.take rm).length = rm := by rw [List.length_take]; omega
      have hp := pc_len (kd first false) (r.take rm)
      rw [ht] at hp
      have htb : ∀ y ∈ r.take rm, 0 ≤ y ∧ y ≤ 255 := fun y hy => hby y (List.mem_of_mem_take hy)
      by_cases hin : place < pre.length + (pc (kd first false) (r.take rm)).length
      · refine ⟨pre.length, .brk (by simp; omega) (by omega) (by rw [cnt_at _ _ _ _ (by omega)]; omega), ?_⟩
        intro h4 h5 hne
        rw [set_in _ _ _ _ _ h1 hin]
        rw [getD_in _ _ _ _ h1 hin] at hne
        exact .stop (stp_pie_turn block hb pre _ _ _ rec _ _ v (kd_bd _ _) htb (by omega) (by omega) (by omega) (by omega) (by omega) hv hne)
      · have hpl : (pre ++ pc (kd first false) (r.take rm)).length = pre.length + 7 + rm := by rw [List.length_append, hp]; omega
        obtain ⟨a, hw, hR⟩ := ih (block - 7) false (r.drop rm) (pre ++ pc (kd first false) (r.take rm)) suf (rec ++ r.take rm) (by
              rw [List.length_drop]
              cases first with
              | true => simp at hn ⊢; omega
              | false => have := hfr rfl; simp at hn ⊢; omega) (by
              have he := left_end block pre.length (by omega)
              rw [hpl, show pre.length + 7 + rm = pre.length + left block pre.length by omega, he]; omega) (fun _ => rfl) (by rw [List.length_append, ht, List.length_drop]; omega) (fun y hy => hby y (List.mem_of_mem_drop hy)) (by omega) (by omega)
        rw [List.append_assoc, hpl] at hw hR
        refine ⟨a, .nxt (by simp; omega) (by omega) (by rw [cnt_at _ _ _ _ (by omega), ht]; omega) (by rw [cnt_at _ _ _ _ (by omega), ht]; exact hw), ?_⟩
        intro h4 h5 hne
        have hR2 := hR h4 h5 hne
        have S := stp_pie block hb pre ((flat (pcs (block - 7) n (block - 7) false (r.drop rm)) ++ suf).set (place - pre.length - (pc (kd first false) (r.take rm)).length) v) (kd first false) (r.take rm) rec (!first) (kd_bd _ _) (by omega) (by omega) (by rw [begins_kd]; simp) (by omega)
        rw [ends_kd, ← set_behind _ _ _ _ _ (by omega), ht] at S
        simp only [Bool.false_eq_true, if_false] at S
        exact .go S hR2
theorem add_turn (block : Nat) (hb : 32 ≤ block ∧ block ≤ 32768) (place : Nat) (v : Int) (hv : 0 ≤ v ∧ v ≤ 255) (r pre suf : List Int) (hm : r.length ≤ 2097152) (hby : ∀ y ∈ r, 0 ≤ y ∧ y ≤ 255)
    (h1 : pre.length ≤ place) (h2 : place < pre.length + (flat (addc block pre.length r)).length) :
    ∃ a, Wk block (pre ++ (flat (addc block pre.length r) ++ suf)) place pre.length a ∧
      (place ≠ a + 4 → place ≠ a + 5 → v ≠ (pre ++ (flat (addc block pre.length r) ++ suf)).getD place 0 → Rd block ((pre ++ (flat (addc block pre.length r) ++ suf)).set place v) pre.length [] false [] 2) := by
  unfold addc room at h2 ⊢
  by_cases h : left block pre.length < 7
  · simp only [if_pos h] at h2 ⊢
    rw [List.singleton_append, flat_cons, List.append_assoc]
    rw [List.singleton_append, flat_cons, List.length_append] at h2
    simp only [Ch.b, List.length_replicate] at h2 ⊢
    have hlp := left_pos block pre.length (by omega)
    have hp : (pre ++ List.replicate (left block pre.length) (0 : Int)).length = pre.length + left block pre.length := by simp
    have hR : ∃ hd tl, pcs (block - 7) (r.length + 2) (block - 7) true r = .pie (kd true hd) tl :: (pcs (block - 7) (r.length + 2) (block - 7) true r).tail ∧ tl.length + 7 ≤ block := by
      unfold pcs
      by_cases hr : r.length ≤ block - 7
      · rw [if_pos hr]; exact ⟨true, r, rfl, by omega⟩
      · rw [if_neg hr]; exact ⟨false, r.take (block - 7), rfl, by rw [List.length_take]; omega⟩
    have h7 : 7 ≤ (flat (pcs (block - 7) (r.length + 2) (block - 7) true r)).length := by
      obtain ⟨hd, tl, e, _⟩ := hR
      rw [e, flat_cons, List.length_append]
      simp only [Ch.b]
      rw [pc_len]; omega
    by_cases hin : place < pre.length + left block pre.length
    · obtain ⟨hd, tl, e, htl⟩ := hR
      refine ⟨pre.length + left block pre.length, .pad (by simp; omega) h (.brk (by simp; omega) (by rw [left_end _ _ (by omega)]; omega) (by omega)), ?_⟩
      intro _ _ hne
      rw [set_in _ _ _ _ _ h1 (by simpa using hin)]
      rw [getD_in _ _ _ _ h1 (by simpa using hin)] at hne
      refine .stop (stp_pad_turn block pre _ [] false _ v h (by omega) ?_)
      rw [List.getD_eq_getElem?_getD, List.getElem?_replicate, if_pos (by omega)] at hne
      simpa using hne
    · obtain ⟨a, hw, hR⟩ := pcs_turn block hb place v hv (r.length + 2) (block - 7) true r (pre ++ List.replicate (left block pre.length) 0) suf [] (by simp) (by rw [hp, left_end _ _ (by omega)]; omega) (by simp) (by simpa using hm) hby (by omega) (by omega)
      rw [List.append_assoc, hp] at hw hR
      refine ⟨a, .pad (by simp; omega) h hw, ?_⟩
      intro h4 h5 hne
      have hR2 := hR h4 h5 hne
      have S := stp_pad block pre ((flat (pcs (block - 7) (r.length + 2) (block - 7) true r) ++ suf).set (place - pre.length - (List.replicate (left block pre.length) (0 : Int)).length) v) [] false h hlp
      rw [← set_behind _ _ _ _ _ (by simp; omega)] at S
      exact .go S hR2
  · simp only [if_neg h, List.nil_append] at h2 ⊢
    exact pcs_turn block hb place v hv (r.length + 2) (left block pre.length - 7) true r pre suf [] (by simp) (by omega) (by simp) (by simpa using hm) hby h1 h2
/-- The way goes on over a record that ends ahead of the place. -/
theorem wk_pcs (block : Nat) (hb : 32 ≤ block ∧ block ≤ 32768) (place : Nat) : ∀ (n rm : Nat) (first : Bool) (r pre suf : List Int) (res : Nat), r.length + (if first then 2 else 1) ≤ n → left block pre.length = rm + 7 → (first = false → rm = block - 7) →
    pre.length + (flat (pcs (block - 7) n rm first r)).length ≤ place →
    Wk block (pre ++ (flat (pcs (block - 7) n rm first r) ++ suf)) place (pre.length + (flat (pcs (block - 7) n rm first r)).length) res →
    Wk block (pre ++ (flat (pcs (block - 7) n rm first r) ++ suf)) place pre.length res := by
  intro n
  induction n with
  | zero => intro rm first r pre suf res hn; cases first <;> simp at hn
  | succ n ih =>
    intro rm first r pre suf res hn hrm hfr h1 hW
    have hll := left_le block pre.length
    unfold pcs at h1 hW ⊢
    by_cases h : r.length ≤ rm
    · rw [if_pos h] at h1 hW ⊢
      rw [flat_cons, flat_nil, List.append_nil] at h1 hW ⊢
      simp only [Ch.b] at h1 hW ⊢
      have hp := pc_len (kd first true) r
      refine .nxt (by simp; omega) (by omega) (by rw [cnt_at _ _ _ _ (by omega)]; omega) ?_
      rw [cnt_at _ _ _ _ (by omega)]
      rw [hp, ← Nat.add_assoc] at hW
      exact hW
    · rw [if_neg h] at h1 hW ⊢
      rw [flat_cons, List.append_assoc] at hW ⊢
      rw [flat_cons] at h1
      simp only [Ch.b] at h1 hW ⊢
      have ht : (r.take rm).length = rm := by rw [List.length_take]; omega
      have hp := pc_len (kd first false) (r.take rm)
      rw [ht] at hp
      have hpl : (pre ++ pc (kd first false) (r.take rm)).length = pre.length + 7 + rm := by rw [List.length_append, hp]; omega
      refine .nxt (by simp; omega) (by omega) (by rw [cnt_at _ _ _ _ (by omega), ht]; simp at h1; omega) ?_
      rw [cnt_at _ _ _ _ (by omega), ht]
      have key := ih (block - 7) false (r.drop rm) (pre ++ pc (kd first false) (r.take rm)) suf res (by
              rw [List.length_drop]
              cases first with
              | true => simp at hn ⊢; omega
              | false => have := hfr rfl; simp at hn ⊢; omega) (by
              have he := left_end block pre.length (by omega)
              rw [hpl, show pre.length + 7 + rm = pre.length + left block pre.length by omega, he]; omega) (fun _ => rfl) (by rw [hpl]; rw [List.length_append, hp] at h1; omega) (by
              rw [List.append_assoc, hpl]
              rw [List.length_append, hp, show pre.length + (7 + rm + (flat (pcs (block - 7) n (block - 7) false (r.drop rm))).length) = pre.length + 7 + rm + (flat (pcs (block - 7) n (block - 7) false (r.drop rm))).length by omega] at hW
              exact hW)
      rw [List.append_assoc, hpl] at key
      exact key
theorem wk_add (block : Nat) (hb : 32 ≤ block ∧ block ≤ 32768) (place : Nat) (r pre suf : List Int) (res : Nat) (h1 : pre.length + (flat (addc block pre.length r)).length ≤ place)
    (hlt : place < (pre ++ (flat (addc block pre.length r) ++ suf)).length)
    (hW : Wk block (pre ++ (flat (addc block pre.length r) ++ suf)) place (pre.length + (flat (addc block pre.length r)).length) res) :
    Wk block (pre ++ (flat (addc block pre.length r) ++ suf)) place pre.length res := by
  unfold addc room at h1 hW hlt ⊢
  by_cases h : left block pre.length < 7
  · simp only [if_pos h] at h1 hW hlt ⊢
    rw [List.singleton_append, flat_cons, List.append_assoc] at hW hlt ⊢
    rw [List.singleton_append, flat_cons] at h1
    simp only [Ch.b] at h1 hW hlt ⊢
    have hlp := left_pos block pre.length (by omega)
    have hp : (pre ++ List.replicate (left block pre.length) (0 : Int)).length = pre.length + left block pre.length := by simp
    have h7 : 7 ≤ (flat (pcs (block - 7) (r.length + 2) (block - 7) true r)).length := by
      unfold pcs
      by_cases hr : r.length ≤ block - 7
      · rw [if_pos hr, flat_cons, List.length_append]; simp only [Ch.b]; rw [pc_len]; omega
      · rw [if_neg hr, flat_cons, List.length_append]; simp only [Ch.b]; rw [pc_len]; omega
    refine .pad (by simp; omega) h ?_
    have key := wk_pcs block hb place (r.length + 2) (block - 7) true r (pre ++ List.replicate (left block pre.length) 0) suf res (by simp) (by rw [hp, left_end _ _ (by omega)]; omega) (by simp) (by rw [hp]; simp at h1; omega) (by
      rw [List.append_assoc, hp]
      rw [List.length_append, List.length_replicate, ← Nat.add_assoc] at hW
      exact hW)
    rw [List.append_assoc, hp] at key
    exact key
  · simp only [if_neg h, List.nil_append] at h1 hW hlt ⊢
    exact wk_pcs block hb place (r.length + 2) (left block pre.length - 7) true r pre suf res (by simp) (by omega) (by simp) h1 hW
/-- The whole file. -/
theorem rd_turn (block : Nat) (hb : 32 ≤ block ∧ block ≤ 32768) (place : Nat) (v : Int) (hv : 0 ≤ v ∧ v ≤ 255) : ∀ (rs : List (List Int)) (pre : List Int), (∀ r ∈ rs, r.length ≤ 2097152 ∧ ∀ y ∈ r, 0 ≤ y ∧ y ≤ 255) → pre.length ≤ place → place < (pre ++ lay block pre.length rs).length →
    ∃ a, Wk block (pre ++ lay block pre.length rs) place pre.length a ∧
      (place ≠ a + 4 → place ≠ a + 5 → v ≠ (pre ++ lay block pre.length rs).getD place 0 →
        ∃ k, k < rs.length ∧ Rd block ((pre ++ lay block pre.length rs).set place v) pre.length [] false (((endl block pre.length rs).zip rs).take k) 2 ∧ (∀ i, i < k → (endl block pre.length rs).getD i 0 ≤ place) ∧ place < (endl block pre.length rs).getD k 0) := by
  intro rs
  induction rs with
  | nil => intro pre _ h1 h2; simp [lay] at h2; omega
  | cons r rs ih =>
    intro pre hm h1 h2
    simp only [lay] at h2 ⊢
    obtain ⟨hr, hrb⟩ := hm r (by simp)
    by_cases hin : place < pre.length + (flat (addc block pre.length r)).length
    · obtain ⟨a, hw, hR⟩ := add_turn block hb place v hv r pre (lay block (pre.length + (flat (addc block pre.length r)).length) rs) hr hrb h1 hin
      refine ⟨a, hw, fun h4 h5 hne => ⟨0, by simp, by simpa using hR h4 h5 hne, by simp, by simpa [endl] using hin⟩⟩
    · have hp : (pre ++ flat (addc block pre.length r)).length = pre.length + (flat (addc block pre.length r)).length := by simp
      obtain ⟨a, hw, hR⟩ := ih (pre ++ flat (addc block pre.length r)) (fun r' h' => hm r' (by simp [h'])) (by omega) (by rw [hp, List.append_assoc]; exact h2)
      rw [hp, List.append_assoc] at hw hR
      refine ⟨a, wk_add block hb place r pre _ a (by omega) h2 hw, fun h4 h5 hne => ?_⟩
      obtain ⟨k, hk, hRd, ha, hbk⟩ := hR h4 h5 hne
      refine ⟨k + 1, by simp; omega, ?_, ?_, ?_⟩
      · simp only [endl, List.zip_cons_cons, List.take_succ_cons]
        rw [set_behind _ _ _ _ _ (by omega)] at hRd ⊢
        exact rd_add block hb r pre _ _ 2 hr hRd
      · intro i hi
        cases i with
        | zero => simp [endl]; omega
        | succ i => simpa only [endl, List.getD_cons_succ] using ha i (by omega)
      · simpa only [endl, List.getD_cons_succ] using hbk
end Go.Proofs.YtgkoopciajjonaaDoor.Ju

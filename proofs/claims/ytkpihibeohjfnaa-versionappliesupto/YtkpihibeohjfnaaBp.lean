/- What a key asks: one a level, in order, each found by its Number; in plain words. -/
import Derived.Test.YtkpihibeohjfnaaAq
import Derived.Test.YtkpihibeohjfnaaFd
namespace Go.Proofs.Ytkpihibeohjfnaa.Bp
open Go.Proofs.Ytkpihibeohjfnaa.Gr
open Go.Proofs.Ytkpihibeohjfnaa.Ev
open Go.Proofs.Ytkpihibeohjfnaa.Lv
open Go.Proofs.Ytkpihibeohjfnaa.Vp
open Go.Proofs.Ytkpihibeohjfnaa.Vq
open Go.Proofs.Ytkpihibeohjfnaa.Vr
open Go.Proofs.Ytkpihibeohjfnaa.Vt
open Go.Proofs.Ytkpihibeohjfnaa.Vu
open Go.Proofs.Ytkpihibeohjfnaa.Vv
open Go.Proofs.Ytkpihibeohjfnaa.Vw
open Go.Proofs.Ytkpihibeohjfnaa.Ba (dn dn_len)
open Go.Proofs.Ytkpihibeohjfnaa.Aq
open Go.Proofs.Ytkpihibeohjfnaa.Fd
open Go.Proofs.Ytkpihibeohjfnaa.Lx (lt)
set_option linter.unusedVariables false
set_option linter.unusedSimpArgs false

/-! ### Numbers -/
theorem srt_perm (xs : List Int) : (srt xs).Perm xs := List.mergeSort_perm _ _
theorem srt_sorted (xs : List Int) : (srt xs).Pairwise (· ≤ ·) := by
  have := List.pairwise_mergeSort (le := fun x y : Int => decide (x ≤ y)) (fun a b c h1 h2 => by simp at *; omega) (fun a b => by simp; omega) xs
  exact this.imp (fun h => by simpa using h)
theorem adj_cons {x : Int} {xs : List Int} (h : adj (x :: xs)) : adj xs := fun i hi => by
  have := h (i + 1) (by simp at hi ⊢; omega)
  simpa using this
theorem nodup_of_adj : ∀ {xs : List Int}, xs.Pairwise (· ≤ ·) → adj xs → xs.Nodup
  | [], _, _ => List.nodup_nil
  | [x], _, _ => by simp
  | x :: y :: r, hs, ha => by
    rw [List.nodup_cons]
    have hs' := List.pairwise_cons.1 hs
    refine ⟨fun hm => ?_, nodup_of_adj hs'.2 (adj_cons ha)⟩
    have h0 : x ≠ y := by
      have := ha 0 (by simp)
      simpa using this
    have h1 := hs'.1 y (by simp)
    rcases List.mem_cons.1 hm with h | h
    · exact h0 h
    · have h2 := (List.pairwise_cons.1 hs'.2).1 x h
      omega
theorem nums_nodup {L : List (List Fi)} (h : adj (srt (nums L))) : (nums L).Nodup := (srt_perm _).nodup_iff.1 (nodup_of_adj (srt_sorted _) h)
theorem vld_parts {L : List (List Fi)} (h : vld L = true) : inOrd L ∧ (nums L).Nodup ∧ 1 ≤ L.length ∧ L.length ≤ 7 := by
  unfold vld fr at h
  simp only [Bool.and_eq_true, decide_eq_true_eq] at h
  exact ⟨h.2.1, nums_nodup h.2.2, by omega, by omega⟩
/-! ### Found by the Number -/
theorem find_mem {f : Fi} : ∀ {fs : List Fi}, (fs.map Fi.n).Nodup → f ∈ fs → fs.find? (fun g => g.n == f.n) = some f
  | [], _, h => by simp at h
  | g :: r, hn, h => by
    rw [List.map_cons, List.nodup_cons] at hn
    rcases List.mem_cons.1 h with rfl | h
    · simp
    · have hne : g.n ≠ f.n := fun e => hn.1 (by rw [e]; exact List.mem_map_of_mem h)
      rw [List.find?_cons_of_neg (by simpa using hne)]
      exact find_mem hn.2 h
theorem fndL_mem {f : Fi} : ∀ {L : List (List Fi)} (k0 k : Nat), (nums L).Nodup → k < L.length → f ∈ L.getD k [] → fndL f.n k0 L = some (k0 + k, f)
  | [], k0, k, _, hk, _ => by simp at hk
  | fs :: r, k0, 0, hn, hk, hf => by
    have hn' : (fs.map Fi.n ++ nums r).Nodup := hn
    unfold fndL
    rw [find_mem (List.nodup_append.1 hn').1 hf]
    rfl
  | fs :: r, k0, k + 1, hn, hk, hf => by
    have hn' : (fs.map Fi.n ++ nums r).Nodup := hn
    have hf' : f ∈ r.getD k [] := hf
    have hk' : k < r.length := by simpa using hk
    have hmem : f.n ∈ nums r := by
      unfold nums
      rw [List.mem_flatMap]
      refine ⟨r.getD k [], ?_, List.mem_map_of_mem hf'⟩
      rw [List.getD_eq_getElem?_getD, List.getElem?_eq_getElem hk']
      exact List.getElem_mem _
    have hno : no f.n fs := fun g hg e => (List.nodup_append.1 hn').2.2 g.n (List.mem_map_of_mem hg) f.n hmem e
    unfold fndL
    rw [find_no hno]
    show fndL f.n (k0 + 1) r = _
    rw [fndL_mem (k0 + 1) k (List.nodup_append.1 hn').2.1 hk' hf']
    congr 2
    omega
/-! ### The order of what is asked -/
def bf (p q : Pl) : Prop := p.l < q.l ∨ (p.l = 0 ∧ q.l = 0 ∧ q.n < p.n)
theorem found_ex (p : Nat → Bool) : ∀ n, (∀ i j, i ≤ j → j < n → p i = true → p j = true) → ∃ r, Vu.Found p n r := by
  intro n
  induction n with
  | zero => intro _; exact ⟨0, Nat.le_refl _, fun i hi => by omega, fun i hi hi' => by omega⟩
  | succ n ih =>
    intro h
    obtain ⟨r, hr⟩ := ih (fun i j hij hj hi => h i j hij (by omega) hi)
    by_cases h1 : r < n
    · exact ⟨r, by omega, hr.lo, fun i hi hi' => h r i hi hi' (hr.hi r (Nat.le_refl _) h1)⟩
    · have hrn : r = n := by have := hr.le; omega
      subst hrn
      cases hp : p r with
      | true => exact ⟨r, by omega, hr.lo, fun i hi hi' => by rw [show i = r by omega]; exact hp⟩
      | false =>
        refine ⟨r + 1, by omega, fun i hi => ?_, fun i hi hi' => by omega⟩
        by_cases e : i = r
        · rw [e]; exact hp
        · exact hr.lo i (by omega)
theorem askL_le {k : Nat} (hk : 0 < k) {fs : List Fi} (h : lvOk k fs) (key : ByteArray) : (askL key k fs).length ≤ 1 := by
  obtain ⟨r, hr⟩ := found_ex (above key fs) fs.length (mono_above hk h key)
  rw [ask_range hk h hr]
  split <;> simp
theorem rise_n {fs : List Fi} (h : lvOk 0 fs) : ∀ {j i : Nat}, i < j → j < fs.length → (fs.getD i zf).n < (fs.getD j zf).n := by
  intro j
  induction j with
  | zero => intro i hi; omega
  | succ j ih =>
    intro i hij hj
    have hst : (fs.getD j zf).n < (fs.getD (j + 1) zf).n := by
      have := h (j + 1) hj
      unfold okAt at this
      rw [Bool.and_eq_true, Bool.or_eq_true] at this
      rcases this.2 with h1 | h1
      · simp at h1
      · unfold fol at h1
        rw [if_pos rfl] at h1
        simpa using h1
    by_cases e : i = j
    · subst e; exact hst
    · have := ih (i := i) (by omega) (by omega)
      omega
theorem dn_pair (n : Nat) : (dn n).Pairwise (fun i j => j < i) := by
  unfold dn
  rw [List.pairwise_reverse]
  exact List.pairwise_lt_range
theorem dn_lt {n i : Nat} (h : i ∈ dn n) : i < n := by
  unfold dn at h
  rw [List.mem_reverse, List.mem_range] at h
  exact h
theorem ask0_pair {fs : List Fi} (h : lvOk 0 fs) (key : ByteArray) : (ask0 key fs (dn fs.length)).Pairwise bf := by
  unfold ask0
  rw [List.pairwise_map]
  have h1 : ((dn fs.length).filter fun i => bears key (fs.getD i zf)).Pairwise (fun i j => j < i) := (dn_pair _).filter _
  refine List.Pairwise.imp_of_mem ?_ h1
  intro i j hi hj hij
  right
  refine ⟨rfl, rfl, ?_⟩
  exact rise_n h hij (dn_lt (List.mem_filter.1 hi).1)
theorem ask_l {L : List (List Fi)} {key : ByteArray} {k : Nat} {p : Pl} (h : p ∈ askAt L key k) : p.l = (k : Int) := by
  unfold askAt at h
  split at h
  · rename_i e
    subst e
    unfold ask0 at h
    obtain ⟨i, _, rfl⟩ := List.mem_map.1 h
    rfl
  · unfold askL at h
    obtain ⟨f, _, rfl⟩ := List.mem_map.1 h
    rfl
theorem askTo_pair {L : List (List Fi)} (h : inOrd L) (key : ByteArray) : ∀ i, i ≤ L.length → (askTo L key i).Pairwise bf ∧ ∀ p ∈ askTo L key i, p.l < (i : Int) := by
  intro i
  induction i with
  | zero => intro _; exact ⟨by simp [askTo], by simp [askTo]⟩
  | succ i ih =>
    intro hi
    obtain ⟨h1, h2⟩ := ih (by omega)
    rw [askTo_succ]
    refine ⟨?_, ?_⟩
    · rw [List.pairwise_append]
      refine ⟨h1, ?_, ?_⟩
      · unfold askAt
        split
        · rename_i e
          subst e
          exact ask0_pair (h 0 (by omega)) key
        · have := askL_le (by omega) (h i (by omega)) key
          generalize askL key i (L.getD i []) = X at this
          match X, this with
          | [], _ => simp
          | [x], _ => simp
      · intro p hp q hq
        left
        rw [ask_l hq]
        exact h2 p hp
    · intro p hp
      rcases List.mem_append.1 hp with h3 | h3
      · have := h2 p h3; omega
      · rw [ask_l h3]; omega
theorem askTo_find {L : List (List Fi)} (hn : (nums L).Nodup) (key : ByteArray) {i : Nat} (hi : i ≤ L.length) {p : Pl} (hp : p ∈ askTo L key i) : ∃ (k : Nat) (f : Fi), p = ⟨(k : Int), f.n⟩ ∧ fndL p.n 0 L = some (k, f) ∧ bears key f = true := by
  unfold askTo at hp
  obtain ⟨k, hk, hp⟩ := List.mem_flatMap.1 hp
  rw [List.mem_range] at hk
  have key2 : ∃ f, f ∈ L.getD k [] ∧ p = ⟨(k : Int), f.n⟩ ∧ bears key f = true := by
    unfold askAt at hp
    split at hp
    · rename_i e
      subst e
      unfold ask0 at hp
      obtain ⟨j, hj, rfl⟩ := List.mem_map.1 hp
      have hj2 := List.mem_filter.1 hj
      exact ⟨_, El.get_mem (E := eFi) (dn_lt hj2.1), rfl, hj2.2⟩
    · unfold askL at hp
      obtain ⟨f, hf, rfl⟩ := List.mem_map.1 hp
      have hf2 := List.mem_filter.1 hf
      exact ⟨f, hf2.1, rfl, hf2.2⟩
  obtain ⟨f, h1, h2, h3⟩ := key2
  refine ⟨k, f, h2, ?_, h3⟩
  rw [h2]
  have := fndL_mem 0 k hn (by omega) h1
  rwa [Nat.zero_add] at this
/-! ### How many -/
theorem map_range (fs : List Fi) : (List.range fs.length).map (fun i => fs.getD i zf) = fs := by
  apply List.ext_getElem (by simp)
  intro i h1 h2
  simp [List.getD_eq_getElem?_getD, List.getElem?_eq_getElem h2]
theorem ask0_len (key : ByteArray) (fs : List Fi) : (ask0 key fs (dn fs.length)).length = (fs.filter (bears key)).length := by
  unfold ask0
  rw [List.length_map]
  have h1 : ((dn fs.length).map (fun i => fs.getD i zf)) = fs.reverse := by unfold dn; rw [List.map_reverse, map_range]
  have h2 : ((dn fs.length).filter fun i => bears key (fs.getD i zf)).length = (((dn fs.length).map (fun i => fs.getD i zf)).filter (bears key)).length := by
    rw [List.filter_map, List.length_map]
    rfl
  rw [h2, h1, List.filter_reverse, List.length_reverse]
theorem askAt_cnt (L : List (List Fi)) (key : ByteArray) (k : Nat) : (askAt L key k).length = ((L.getD k []).filter (bears key)).length := by
  unfold askAt
  split
  · rename_i e
    subst e
    exact ask0_len key _
  · unfold askL
    rw [List.length_map]
end Go.Proofs.Ytkpihibeohjfnaa.Bp

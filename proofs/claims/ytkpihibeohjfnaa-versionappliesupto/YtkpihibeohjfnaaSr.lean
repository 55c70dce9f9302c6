/- An edit's return leads back to the same levels; in plain words. -/
import Derived.Test.YtkpihibeohjfnaaSq
namespace Go.Proofs.Ytkpihibeohjfnaa.Sr
open Go.Proofs.Ytkpihibeohjfnaa.Gr
open Go.Proofs.Ytkpihibeohjfnaa.Ev
open Go.Proofs.Ytkpihibeohjfnaa.Oe (wsum wsum_append wsum_len wF wA)
open Go.Proofs.Ytkpihibeohjfnaa.Lv
open Go.Proofs.Ytkpihibeohjfnaa.Vp
open Go.Proofs.Ytkpihibeohjfnaa.Vq
open Go.Proofs.Ytkpihibeohjfnaa.Vr
open Go.Proofs.Ytkpihibeohjfnaa.Vt
open Go.Proofs.Ytkpihibeohjfnaa.Bp
open Go.Proofs.Ytkpihibeohjfnaa.Fd
open Go.Proofs.Ytkpihibeohjfnaa.To (kp tk)
open Go.Proofs.Ytkpihibeohjfnaa.Cq (lF)
open Go.Proofs.Ytkpihibeohjfnaa.Pi (cm cm_snoc cm_len)
open Go.Proofs.Ytkpihibeohjfnaa.Sq
set_option linter.unusedVariables false
set_option linter.unusedSimpArgs false

/-- All files with their levels. -/
def ads (L : List (List Fi)) : List Ad := (List.range L.length).flatMap fun k => (L.getD k []).map fun f => (⟨(k : Int), f⟩ : Ad)
theorem ads_mem {L : List (List Fi)} {x : Ad} : x ∈ ads L ↔ ∃ k : Nat, k < L.length ∧ x.l = (k : Int) ∧ x.f ∈ L.getD k [] := by
  unfold ads
  rw [List.mem_flatMap]
  constructor
  · rintro ⟨k, hk, hx⟩
    obtain ⟨f, hf, rfl⟩ := List.mem_map.1 hx
    exact ⟨k, List.mem_range.1 hk, rfl, hf⟩
  · rintro ⟨k, hk, hl, hf⟩
    obtain ⟨l, f⟩ := x
    dsimp only at hl hf
    subst hl
    exact ⟨k, List.mem_range.2 hk, List.mem_map_of_mem hf⟩
theorem ads_nums (L : List (List Fi)) : (ads L).map (fun x => x.f.n) = nums L := by
  have e : nums L = ((List.range L.length).map fun k => L.getD k []).flatMap fun fs => fs.map Fi.n := by rw [lv_range]; rfl
  rw [e]
  unfold ads
  rw [List.map_flatMap, List.flatMap_map]
  congr 1
  funext k
  rw [List.map_map]
  rfl
theorem filter_lv (k : Nat) (g : Nat → List Fi) : ∀ n, (((List.range n).flatMap fun j => (g j).map fun f => (⟨(j : Int), f⟩ : Ad)).filter fun x => x.l == (k : Int)).map Ad.f = if k < n then g k else []
  | 0 => rfl
  | n + 1 => by
    rw [List.range_succ, List.flatMap_append, List.filter_append, List.map_append, filter_lv k g n]
    show _ ++ ((((g n).map fun f => (⟨(n : Int), f⟩ : Ad)) ++ []).filter _).map Ad.f = _
    rw [List.append_nil, List.filter_map, List.map_map]
    by_cases e : k = n
    · subst e
      rw [if_neg (by omega), if_pos (by omega), List.nil_append]
      rw [List.filter_eq_self.2 (fun f _ => by simp)]
      exact List.map_id _
    · rw [List.filter_eq_nil_iff.2 (fun f _ => by simp; omega)]
      by_cases h : k < n
      · rw [if_pos h, if_pos (by omega), List.map_nil, List.append_nil]
      · rw [if_neg h, if_neg (by omega)]; rfl
theorem cm_ads {L : List (List Fi)} {k : Nat} (hk : k < L.length) : cm k (ads L) = L.getD k [] := by
  have := filter_lv k (fun k => L.getD k []) L.length
  rw [if_pos hk] at this
  exact this
/-- The files that go. -/
def rem (L : List (List Fi)) (ps : List Pl) : List Ad := (ads L).filter fun x => decide (x.pl ∈ ps)
theorem cm_filter (k : Nat) (q : Ad → Bool) : ∀ co : List Ad, cm k (co.filter q) = (cm k co).filter fun f => q ⟨(k : Int), f⟩
  | [] => rfl
  | x :: co => by
    obtain ⟨l, f⟩ := x
    rw [List.filter_cons]
    by_cases e : l = (k : Int)
    · subst e
      cases h : q ⟨(k : Int), f⟩ with
      | true =>
        rw [if_pos rfl, cm_cons, cm_cons, if_pos rfl, List.filter_append, cm_filter k q co, List.filter_cons_of_pos (by exact h)]
        rfl
      | false =>
        rw [if_neg (by simp), cm_cons, if_pos rfl, List.filter_append, cm_filter k q co, List.filter_cons_of_neg (by rw [h]; simp)]
        rfl
    · rw [cm_cons, if_neg e]
      split
      · rw [cm_cons, if_neg e, cm_filter k q co]; rfl
      · rw [cm_filter k q co]; rfl
theorem cm_rem {L : List (List Fi)} (ps : List Pl) {k : Nat} (hk : k < L.length) : cm k (rem L ps) = (L.getD k []).filter fun f => decide ((⟨(k : Int), f.n⟩ : Pl) ∈ ps) := by
  unfold rem
  rw [cm_filter, cm_ads hk]
  rfl
theorem rem_len (L : List (List Fi)) (ps : List Pl) : (rem L ps).length + (nums (tk ps L)).length = (nums L).length := by
  have h1 : wsum (fun _ : Fi => 1) [] = 0 := rfl
  have e2 := cm_sum (fun _ => 1) L.length (rem L ps)
  rw [wsum_congr (g := fun _ => 1) (l := rem L ps) (fun x hx => if_pos (by
    obtain ⟨k, hk, hl, _⟩ := ads_mem.1 (List.mem_filter.1 hx).1
    omega)), wsum_one] at e2
  rw [← e2, nums_sum, nums_sum, tk_len, ← wsum_add]
  refine wsum_congr (fun k hk => ?_)
  rw [List.mem_range] at hk
  rw [wsum_one, cm_rem ps hk, tk_at hk]
  unfold kp
  have := (List.filter_append_perm (fun f : Fi => decide ((⟨(k : Int), f.n⟩ : Pl) ∈ ps)) (L.getD k [])).length_eq
  rw [List.length_append] at this
  exact this
/-- A list without twins, all of it in another one that is no longer: the same up to the order. -/
theorem perm_of {α : Type} [DecidableEq α] : ∀ {r ps : List α}, r.Nodup → (∀ x ∈ r, x ∈ ps) → r.length = ps.length → r.Perm ps
  | [], ps, _, _, hl => by
    have : ps = [] := List.length_eq_zero_iff.1 hl.symm
    rw [this]
  | x :: r, ps, hn, hs, hl => by
    have hx : x ∈ ps := hs x (by simp)
    have hp := List.perm_cons_erase hx
    rw [List.nodup_cons] at hn
    refine (List.Perm.cons x (perm_of hn.2 (fun y hy => ?_) ?_)).trans hp.symm
    · have hne : y ≠ x := fun e => hn.1 (e ▸ hy)
      exact (List.mem_erase_of_ne hne).2 (hs y (by simp [hy]))
    · have := hp.length_eq
      simp at this hl
      omega
theorem pl_nodup {L : List (List Fi)} (h : (nums L).Nodup) : ((ads L).map Ad.pl).Nodup := by
  rw [← ads_nums] at h
  unfold List.Nodup at h ⊢
  rw [List.pairwise_map] at h ⊢
  refine h.imp (fun {a b} hab e => hab ?_)
  have : a.pl.n = b.pl.n := by rw [e]
  exact this
theorem rem_perm {L : List (List Fi)} {ps : List Pl} (hn : (nums L).Nodup) (hf : fit L ps = true) : ((rem L ps).map Ad.pl).Perm ps := by
  refine perm_of ?_ ?_ ?_
  · exact (pl_nodup hn).sublist (List.filter_sublist.map _)
  · intro p hp
    obtain ⟨x, hx, rfl⟩ := List.mem_map.1 hp
    simpa using (List.mem_filter.1 hx).2
  · rw [List.length_map]
    unfold fit at hf
    have h1 := rem_len L ps
    have h2 : (((nums L).length : Int) - ((nums (tk ps L)).length : Int)) = (ps.length : Int) := by simpa using hf
    omega
theorem fnd_ads {L : List (List Fi)} (hn : (nums L).Nodup) {x : Ad} (hx : x ∈ ads L) : ∃ k : Nat, k < L.length ∧ x.l = (k : Int) ∧ fndL x.pl.n 0 L = some (k, x.f) := by
  obtain ⟨k, hk, hl, hf⟩ := ads_mem.1 hx
  refine ⟨k, hk, hl, ?_⟩
  have := fndL_mem 0 k hn hk hf
  rw [Nat.zero_add] at this
  exact this
/-- Each place that goes has its file. -/
theorem fnd_go {L : List (List Fi)} {ps : List Pl} (hn : (nums L).Nodup) (hf : fit L ps = true) : ∀ p ∈ ps, ∃ (k : Nat) (f : Fi), k < L.length ∧ p.l = (k : Int) ∧ f.n = p.n ∧ fndL p.n 0 L = some (k, f) := by
  intro p hp
  rw [← (rem_perm hn hf).mem_iff] at hp
  obtain ⟨x, hx, rfl⟩ := List.mem_map.1 hp
  obtain ⟨k, h1, h2, h3⟩ := fnd_ads hn (List.mem_filter.1 hx).1
  exact ⟨k, x.f, h1, h2, rfl, h3⟩
/-- The file at a place, as it comes back. -/
def gv (L : List (List Fi)) (p : Pl) : Ad := ⟨p.l, ((fndL p.n 0 L).getD (0, zf)).2⟩
theorem gv_pl {L : List (List Fi)} (hn : (nums L).Nodup) {x : Ad} (hx : x ∈ ads L) : gv L x.pl = x := by
  obtain ⟨k, _, h2, h3⟩ := fnd_ads hn hx
  unfold gv
  rw [h3]
  rfl
def bk (L : List (List Fi)) (ps : List Pl) : List Ad := ps.map (gv L)
theorem bk_perm {L : List (List Fi)} {ps : List Pl} (hn : (nums L).Nodup) (hf : fit L ps = true) : (bk L ps).Perm (rem L ps) := by
  unfold bk
  refine ((rem_perm hn hf).map (gv L)).symm.trans ?_
  rw [List.map_map, show (rem L ps).map (gv L ∘ Ad.pl) = (rem L ps).map id from List.map_congr_left (fun x hx => gv_pl hn (List.mem_filter.1 hx).1), List.map_id]
theorem cm_perm (k : Nat) {co co' : List Ad} (h : co.Perm co') : (cm k co).Perm (cm k co') := (h.filter _).map _
theorem kp_perm (ps : List Pl) (k : Nat) {fs fs' : List Fi} (h : fs.Perm fs') : (kp ps k fs).Perm (kp ps k fs') := h.filter _
theorem mem_cm {k : Nat} {co : List Ad} {f : Fi} : f ∈ cm k co ↔ (⟨(k : Int), f⟩ : Ad) ∈ co := by
  unfold cm
  rw [List.mem_map]
  constructor
  · rintro ⟨⟨l, g⟩, hx, rfl⟩
    have h := List.mem_filter.1 hx
    have h2 : l = (k : Int) := by simpa using h.2
    subst h2
    exact h.1
  · intro h
    exact ⟨_, List.mem_filter.2 ⟨h, by simp⟩, rfl⟩
theorem lv_nodup {L : List (List Fi)} (hn : (nums L).Nodup) {k : Nat} (hk : k < L.length) : ((L.getD k []).map Fi.n).Nodup := by
  have hs : (cm k (ads L)).map Fi.n = ((ads L).filter fun x => x.l == (k : Int)).map (fun x => x.f.n) := by
    unfold cm; rw [List.map_map]; rfl
  rw [← cm_ads hk, hs]
  rw [← ads_nums] at hn
  exact hn.sublist (List.filter_sublist.map _)
section
variable {L : List (List Fi)} {ps : List Pl} {co : List Ad}
/-- What came is taken out again. -/
theorem kp_back (hv : vld (ap L ps co) = true) {k : Nat} (hk : k < L.length) : (kp (co.map Ad.pl) k ((ap L ps co).getD k [])).Perm (kp ps k (L.getD k [])) := by
  have hnd := lv_nodup (vld_parts hv).2.1 (k := k) (by rw [ap_len]; exact hk)
  have hp := ((ap_res L ps co).2 k hk).1
  have hnd2 := (hp.map Fi.n).nodup_iff.1 hnd
  rw [List.map_append] at hnd2
  refine (kp_perm _ _ hp).trans ?_
  have e1 : kp (co.map Ad.pl) k (kp ps k (L.getD k []) ++ cm k co) = kp ps k (L.getD k []) := by
    show List.filter _ (_ ++ _) = _
    rw [List.filter_append, List.filter_eq_self.2, List.filter_eq_nil_iff.2, List.append_nil]
    · intro f hf
      have : (⟨(k : Int), f.n⟩ : Pl) ∈ co.map Ad.pl := List.mem_map.2 ⟨_, mem_cm.1 hf, rfl⟩
      simp only [decide_eq_true this]
      simp
    · intro f hf
      have : ¬ (⟨(k : Int), f.n⟩ : Pl) ∈ co.map Ad.pl := by
        intro hm
        obtain ⟨⟨l, g⟩, hx, e⟩ := List.mem_map.1 hm
        unfold Ad.pl at e
        injection e with e1 e2
        dsimp only at e1 e2
        subst e1
        exact (List.nodup_append.1 hnd2).2.2 f.n (List.mem_map_of_mem hf) g.n (List.mem_map_of_mem (mem_cm.2 hx)) e2.symm
      simp only [decide_eq_false this]
      rfl
  rw [e1]
theorem fit_back (hf : fit L ps = true) (hi : inn L.length co = true) (hv : vld (ap L ps co) = true) : fit (ap L ps co) (co.map Ad.pl) = true := by
  unfold fit
  rw [beq_iff_eq]
  have h1 := ap_nums (L := L) (ps := ps) hi
  have h2 : (nums (tk (co.map Ad.pl) (ap L ps co))).length = (nums (tk ps L)).length := by
    rw [nums_sum, nums_sum, tk_len, tk_len, ap_len]
    refine wsum_congr (fun k hk => ?_)
    rw [List.mem_range] at hk
    rw [tk_at (by rw [ap_len]; exact hk), tk_at hk, (kp_back hv hk).length_eq]
  rw [h1, h2, List.length_map]
  omega
theorem inn_back (hn : (nums L).Nodup) (hf : fit L ps = true) : inn L.length (bk L ps) = true := by
  unfold inn
  rw [List.all_eq_true]
  intro x hx
  rw [(bk_perm hn hf).mem_iff] at hx
  obtain ⟨k, hk, hl, _⟩ := ads_mem.1 (List.mem_filter.1 hx).1
  unfold fr
  rw [hl]
  simp
  omega
/-- Taken back, levels are as they were. -/
theorem ap_back (hL : vld L = true) (hf : fit L ps = true) (hv : vld (ap L ps co) = true) : ap (ap L ps co) (co.map Ad.pl) (bk L ps) = L := by
  have hn := (vld_parts hL).2.1
  refine ext_lv (by rw [ap_len, ap_len]) (fun k hk => ?_)
  rw [ap_len, ap_len] at hk
  rw [ap_at (by rw [ap_len]; exact hk)]
  refine Go.Proofs.Ytkpihibeohjfnaa.Sq.one ((ms_perm _ _).trans ?_) (ms_srt _ _) (strict_of ((vld_parts hL).1 k hk))
  refine ((kp_back hv hk).append (cm_perm k (bk_perm hn hf))).trans ?_
  rw [cm_rem ps hk]
  unfold kp
  refine List.perm_append_comm.trans ?_
  exact List.filter_append_perm _ _
theorem good_back (hL : vld L = true) (hg : good L ps co = true) : good (ap L ps co) (co.map Ad.pl) (bk L ps) = true := by
  unfold good at hg ⊢
  rw [Bool.and_eq_true, Bool.and_eq_true] at hg
  obtain ⟨h1, h2, h3⟩ := hg
  rw [fit_back h1 h2 h3, ap_len, inn_back (vld_parts hL).2.1 h1, ap_back hL h1 h3, hL]
  rfl
theorem good_nums (hg : good L ps co = true) : ((nums (ap L ps co)).length : Int) = (nums L).length - ps.length + co.length := by
  unfold good at hg
  rw [Bool.and_eq_true, Bool.and_eq_true] at hg
  obtain ⟨h1, h2, h3⟩ := hg
  have e := ap_nums (L := L) (ps := ps) h2
  unfold fit at h1
  rw [beq_iff_eq] at h1
  omega
end
end Go.Proofs.Ytkpihibeohjfnaa.Sr

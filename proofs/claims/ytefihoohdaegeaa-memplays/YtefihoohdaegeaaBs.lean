/- Plain: one rule: looked at one by one, the operations that were taken say what Get tells. -/
import Derived.Test.YtefihoohdaegeaaAn
namespace Go.Proofs.Ytefihoohdaegeaa.Bs
open Go.Proofs.Ytefihoohdaegeaa.Ik
open Go.Proofs.Ytefihoohdaegeaa.Ee (E ze)
open Go.Proofs.Ytefihoohdaegeaa.Tm (T vd zt)
open Go.Proofs.Ytefihoohdaegeaa.Cv (hit)
open Go.Proofs.Ytefihoohdaegeaa.Lx (lt)
open Go.Proofs.Ytefihoohdaegeaa.Sg
open Go.Proofs.Ytefihoohdaegeaa.Tb
open Go.Proofs.Ytefihoohdaegeaa.Eo
open Go.Proofs.Ytefihoohdaegeaa.Ad
open Go.Proofs.Ytefihoohdaegeaa.Ck
open Go.Proofs.Ytefihoohdaegeaa.Fl
open Go.Proofs.Ytefihoohdaegeaa.An
open Go.Proofs.Ytefihoohdaegeaa.Gt (fnd)
set_option linter.unusedVariables false
set_option linter.unusedSimpArgs false

/-- An entry takes the best one's place. -/
def tkE (k : ByteArray) (r : E × Bool) (x : A6) : Bool := decide (x.c ≠ 2) && decide (x.k.data.toList = k.data.toList) && (!r.2 || decide (r.1.s < x.sq) || (decide (x.sq = r.1.s) && (decide (r.1.c = 2) || decide (r.1.c < x.c))))
/-- A tomb takes it. -/
def tkT (k : ByteArray) (r : E × Bool) (x : A6) : Bool := decide (x.c = 2) && (!(lt k x.k)) && lt k x.v && (!r.2 || decide (r.1.s < x.sq))
def bst1 (k : ByteArray) (r : E × Bool) (x : A6) : E × Bool := if tkE k r x = true then (⟨k, x.sq, x.c, x.v⟩, true) else r
def bst2 (k : ByteArray) (r : E × Bool) (x : A6) : E × Bool := if tkT k r x = true then (⟨k, x.sq, 2, ⟨#[]⟩⟩, true) else r
def bstep (k : ByteArray) (q : Int) (r : E × Bool) (x : A6) (tk : Bool) : E × Bool := if tk = false ∨ q < x.sq then r else bst2 k (bst1 k r x) x
/-- The best of a beginning. -/
def bst (k : ByteArray) (q : Int) (xs : List A6) (n : Nat) : E × Bool := match n with
  | 0 => (ze, false)
  | n + 1 => bstep k q (bst k q xs n) (xs.getD n za) ((fil 0 xs).2.getD n false)
theorem fil_take (xs : List A6) (n : Nat) (h : n < xs.length) : (fil 0 xs).2.getD n false = (adE (fil 0 (xs.take n)).1 (xs.getD n za).sq (xs.getD n za).c (xs.getD n za).k (xs.getD n za).v (hgt 0 (xs.getD n za).ht) == 0) := by
  have pre : ∀ (ys : List A6) (F : St × List Bool), F.2 <+: (ys.foldl (stp 0) F).2 := by
    intro ys
    induction ys with
    | nil => intro F; exact List.prefix_refl _
    | cons y l ih =>
      intro F
      rw [List.foldl_cons]
      refine List.IsPrefix.trans ?_ (ih (stp 0 F y))
      exact List.prefix_append _ _
  have h1 : (fil 0 (xs.take (n + 1))).2 <+: (fil 0 xs).2 := by
    have e : fil 0 xs = (xs.drop (n + 1)).foldl (stp 0) (fil 0 (xs.take (n + 1))) := by
      unfold fil; rw [← List.foldl_append, List.take_append_drop]
    rw [e]; exact pre _ _
  rw [take_snoc h, fil_snoc] at h1
  obtain ⟨t, ht⟩ := h1
  unfold stp at ht
  have hl : (fil 0 (xs.take n)).2.length = n := fil_len 0 n _ (by rw [List.length_take]; omega)
  rw [← ht, List.getD_eq_getElem?_getD]
  simp [hl]
theorem adS_wf {S : St} (W : Wf S) (q c : Int) (k v : ByteArray) (h : Int) : Wf (adS S q c k v h) := by
  unfold adS
  by_cases hE : adE S q c k v h = 0
  · rw [if_neg (by rw [hE]; simp)]
    have hE' := hE
    unfold adE at hE'
    have hch : chk S q c k v h = 0 := by
      by_cases hc : chk S q c k v h = 0
      · exact hc
      · rw [if_pos hc] at hE'; exact absurd hE' hc
    obtain ⟨z1, z2, z3, z4⟩ := chk_zero hch
    rw [if_neg (by rw [hch]; simp)] at hE'
    by_cases hc : c = 2
    · rw [if_pos hc]
      subst hc
      exact Ae.wf_tomb W z2 z3
    · rw [if_neg hc] at hE' ⊢
      exact Ae.wf_node W z2 z3 hc hE'
  · rw [if_pos hE]; exact W
theorem fold_wf (more : Int) : ∀ (xs : List A6) (F : St × List Bool), Wf F.1 → Wf (xs.foldl (stp more) F).1
  | [], F, h => h
  | x :: l, F, h => by
    rw [List.foldl_cons]
    exact fold_wf more l _ (adS_wf h _ _ _ _ _)
theorem fil_wf (more : Int) (xs : List A6) : Wf (fil more xs).1 := fold_wf more xs _ (Wf.new 1)
theorem seen {xs : List A6} (W : ∀ n, n ≤ xs.length → Wf (fil 0 (xs.take n)).1) (k : ByteArray) (q : Int) : ∀ n, n ≤ xs.length → Ans ((fil 0 (xs.take n)).1.ns.map nent) (fil 0 (xs.take n)).1.ts k q (bst k q xs n)
  | 0, _ => .non (fun e he => by simp [fil, St.new] at he) (fun t ht => by simp [fil, St.new] at ht)
  | n + 1, h => by
    have ih := seen W k q n (by omega)
    have hW := W n (by omega)
    have hft := fil_take xs n (by omega)
    have hsn := fil_snoc 0 (xs.take n) (xs.getD n za)
    rw [← take_snoc (by omega)] at hsn
    have hs1 : (fil 0 (xs.take (n + 1))).1 = adS (fil 0 (xs.take n)).1 (xs.getD n za).sq (xs.getD n za).c (xs.getD n za).k (xs.getD n za).v (hgt 0 (xs.getD n za).ht) := by rw [hsn]; rfl
    rw [hs1]
    show Ans _ _ k q (bstep k q (bst k q xs n) (xs.getD n za) ((fil 0 xs).2.getD n false))
    rw [hft]
    generalize bst k q xs n = r at *
    generalize (fil 0 (xs.take n)).1 = S at *
    generalize xs.getD n za = x at *
    generalize hgt 0 x.ht = ht at *
    clear hsn hft hs1
    unfold bstep
    by_cases hE : adE S x.sq x.c x.k x.v ht = 0
    · have hE' := hE
      unfold adE at hE'
      have hch : chk S x.sq x.c x.k x.v ht = 0 := by
        by_cases hc : chk S x.sq x.c x.k x.v ht = 0
        · exact hc
        · rw [if_pos hc] at hE'; exact absurd hE' hc
      obtain ⟨z1, z2, z3, z4⟩ := chk_zero hch
      obtain ⟨m1, m2, m3, m4⟩ := may_sizes z3
      by_cases hc : x.c = 2
      · -- a tomb more
        have eS : (adS S x.sq x.c x.k x.v ht).ns = S.ns ∧ (adS S x.sq x.c x.k x.v ht).ts = S.ts ++ [⟨x.k, x.v, x.sq⟩] := by
          unfold adS; rw [if_neg (by rw [hE]; simp), if_pos hc]; exact ⟨rfl, rfl⟩
        rw [eS.1, eS.2]
        have b1 : bst1 k r x = r := by unfold bst1 tkE; rw [if_neg (by simp [hc])]
        by_cases hq : q < x.sq
        · rw [if_pos (.inr hq)]
          have hno : hit k q ⟨x.k, x.v, x.sq⟩ = true → False := fun h => by
            unfold hit at h
            simp only [Bool.and_eq_true, decide_eq_true_eq] at h
            omega
          cases ih with
          | non a1 a2 => exact .non a1 (fun t ht' hh => by
              rcases List.mem_append.1 ht' with h | h
              · exact a2 t h hh
              · rw [List.mem_singleton.1 h] at hh; exact hno hh)
          | tmb t a1 a2 a3 a4 => exact .tmb t (List.mem_append_left _ a1) a2 (fun t' ht' hh => by
              rcases List.mem_append.1 ht' with h | h
              · exact a3 t' h hh
              · rw [List.mem_singleton.1 h] at hh; exact (hno hh).elim) a4
          | ent e a1 a2 a3 a4 a5 => exact .ent e a1 a2 a3 a4 (fun t ht' hh => by
              rcases List.mem_append.1 ht' with h | h
              · exact a5 t h hh
              · rw [List.mem_singleton.1 h] at hh; exact (hno hh).elim)
        · rw [if_neg (by simp [hE]; omega), b1]
          unfold bst2
          by_cases hh : hit k q ⟨x.k, x.v, x.sq⟩ = true
          · have hh' := hh
            unfold hit at hh'
            simp only [Bool.and_eq_true] at hh'
            have tk : tkT k r x = (!r.2 || decide (r.1.s < x.sq)) := by unfold tkT; rw [hh'.1.1, hh'.1.2]; simp [hc]
            rw [tk]
            cases ih with
            | non a1 a2 =>
              rw [if_pos (by simp)]
              exact .tmb ⟨x.k, x.v, x.sq⟩ (by simp) hh (fun t' ht' h2 => by
                rcases List.mem_append.1 ht' with h | h
                · exact (a2 t' h h2).elim
                · rw [List.mem_singleton.1 h]; exact Int.le_refl _) (fun e he h1 h2 => (a1 e he h1 h2).elim)
            | tmb t a1 a2 a3 a4 =>
              by_cases hlt : t.s < x.sq
              · rw [if_pos (by simp [hlt])]
                exact .tmb ⟨x.k, x.v, x.sq⟩ (by simp) hh (fun t' ht' h2 => by
                  rcases List.mem_append.1 ht' with h | h
                  · have := a3 t' h h2; show t'.s ≤ x.sq; omega
                  · rw [List.mem_singleton.1 h]; exact Int.le_refl _) (fun e he h1 h2 => by have := a4 e he h1 h2; show e.s < x.sq; omega)
              · rw [if_neg (by simp [hlt])]
                exact .tmb t (List.mem_append_left _ a1) a2 (fun t' ht' h2 => by
                  rcases List.mem_append.1 ht' with h | h
                  · exact a3 t' h h2
                  · rw [List.mem_singleton.1 h]; show x.sq ≤ t.s; omega) a4
            | ent e a1 a2 a3 a4 a5 =>
              by_cases hlt : e.s < x.sq
              · rw [if_pos (by simp [hlt])]
                exact .tmb ⟨x.k, x.v, x.sq⟩ (by simp) hh (fun t' ht' h2 => by
                  rcases List.mem_append.1 ht' with h | h
                  · have := a5 t' h h2; show t'.s ≤ x.sq; omega
                  · rw [List.mem_singleton.1 h]; exact Int.le_refl _) (fun e' he h1 h2 => by have := a4 e' he h1 h2; show e'.s < x.sq; omega)
              · rw [if_neg (by simp [hlt])]
                exact .ent e a1 a2 a3 a4 (fun t' ht' h2 => by
                  rcases List.mem_append.1 ht' with h | h
                  · exact a5 t' h h2
                  · rw [List.mem_singleton.1 h]; show x.sq ≤ e.s; omega)
          · have tk : tkT k r x = false := by
              unfold hit at hh
              unfold tkT
              simp only [Bool.and_eq_true, decide_eq_true_eq, not_and] at hh
              cases h1 : (!(lt k x.k)) with
              | false => simp
              | true =>
                cases h2 : lt k x.v with
                | false => simp
                | true => exact absurd (hh ⟨h1, h2⟩) (by omega)
            rw [tk, if_neg (by simp)]
            cases ih with
            | non a1 a2 => exact .non a1 (fun t ht' hh' => by
                rcases List.mem_append.1 ht' with h | h
                · exact a2 t h hh'
                · rw [List.mem_singleton.1 h] at hh'; exact hh hh')
            | tmb t a1 a2 a3 a4 => exact .tmb t (List.mem_append_left _ a1) a2 (fun t' ht' hh' => by
                rcases List.mem_append.1 ht' with h | h
                · exact a3 t' h hh'
                · rw [List.mem_singleton.1 h] at hh'; exact absurd hh' hh) a4
            | ent e a1 a2 a3 a4 a5 => exact .ent e a1 a2 a3 a4 (fun t ht' hh' => by
                rcases List.mem_append.1 ht' with h | h
                · exact a5 t h hh'
                · rw [List.mem_singleton.1 h] at hh'; exact absurd hh' hh)
      · -- an entry more
        have eS : (adS S x.sq x.c x.k x.v ht).ns.map nent = S.ns.map nent ++ [⟨x.k, x.sq, x.c, x.v⟩] ∧ (adS S x.sq x.c x.k x.v ht).ts = S.ts := by
          unfold adS; rw [if_neg (by rw [hE]; simp), if_neg hc]
          refine ⟨?_, rfl⟩
          show (S.ns ++ [_]).map nent = _
          rw [List.map_append]; rfl
        rw [eS.1, eS.2]
        have b2 : ∀ r, bst2 k r x = r := fun r => by unfold bst2 tkT; rw [if_neg (by simp [hc])]
        by_cases hq : x.k = k ∧ x.sq ≤ q
        · rw [if_neg (by simp [hE]; omega), b2]
          unfold bst1
          have hxe : (⟨k, x.sq, x.c, x.v⟩ : E) = ⟨x.k, x.sq, x.c, x.v⟩ := by rw [hq.1]
          have tk : tkE k r x = (!r.2 || decide (r.1.s < x.sq) || (decide (x.sq = r.1.s) && (decide (r.1.c = 2) || decide (r.1.c < x.c)))) := by unfold tkE; simp [hc, hq.1]
          rw [tk, hxe]
          have old : ∀ e' ∈ S.ns.map nent ++ [(⟨x.k, x.sq, x.c, x.v⟩ : E)], e' ∈ S.ns.map nent ∨ e' = ⟨x.k, x.sq, x.c, x.v⟩ := fun e' h => (List.mem_append.1 h).imp id List.mem_singleton.1
          cases ih with
          | non a1 a2 =>
            rw [if_pos (by simp)]
            exact .ent _ (by simp) hq.1 hq.2 (fun e' he h1 h2 => by
              rcases old e' he with h | h
              · exact (a1 e' h h1 h2).elim
              · rw [h]; exact .inr ⟨rfl, Int.le_refl _⟩) (fun t ht' hh => (a2 t ht' hh).elim)
          | tmb t a1 a2 a3 a4 =>
            by_cases hlt : t.s ≤ x.sq
            · rw [if_pos (by simp; omega)]
              exact .ent _ (by simp) hq.1 hq.2 (fun e' he h1 h2 => by
                rcases old e' he with h | h
                · have := a4 e' h h1 h2; exact .inl (by show e'.s < x.sq; omega)
                · rw [h]; exact .inr ⟨rfl, Int.le_refl _⟩) (fun t' ht' hh => by have := a3 t' ht' hh; show t'.s ≤ x.sq; omega)
            · rw [if_neg (by simp; omega)]
              exact .tmb t a1 a2 a3 (fun e' he h1 h2 => by
                rcases old e' he with h | h
                · exact a4 e' h h1 h2
                · rw [h]; show x.sq < t.s; omega)
          | ent e a1 a2 a3 a4 a5 =>
            have hec : e.c ≠ 2 := by
              obtain ⟨n', hn', rfl⟩ := List.mem_map.1 a1
              have := (hW.node n' hn').2.2.1
              show n'.c ≠ 2
              omega
            by_cases hlt : e.s < x.sq ∨ (x.sq = e.s ∧ e.c < x.c)
            · rw [if_pos (by simp; omega)]
              exact .ent _ (by simp) hq.1 hq.2 (fun e' he h1 h2 => by
                rcases old e' he with h | h
                · have := a4 e' h h1 h2
                  show e'.s < x.sq ∨ (e'.s = x.sq ∧ e'.c ≤ x.c)
                  omega
                · rw [h]; exact .inr ⟨rfl, Int.le_refl _⟩) (fun t' ht' hh => by have := a5 t' ht' hh; show t'.s ≤ x.sq; omega)
            · rw [if_neg (by simp; omega)]
              exact .ent e (List.mem_append_left _ a1) a2 a3 (fun e' he h1 h2 => by
                rcases old e' he with h | h
                · exact a4 e' h h1 h2
                · rw [h]
                  show x.sq < e.s ∨ (x.sq = e.s ∧ x.c ≤ e.c)
                  omega) a5
        · -- it is not seen
          have hr : (if (adE S x.sq x.c x.k x.v ht == 0) = false ∨ q < x.sq then r else bst2 k (bst1 k r x) x) = r := by
            by_cases hqq : q < x.sq
            · rw [if_pos (.inr hqq)]
            · rw [if_neg (by simp [hE]; omega), b2]
              unfold bst1 tkE
              have hk : ¬ x.k.data.toList = k.data.toList := fun h => hq ⟨data_inj h, by omega⟩
              rw [if_neg (by simp [hk])]
          rw [hr]
          have old : ∀ e' ∈ S.ns.map nent ++ [(⟨x.k, x.sq, x.c, x.v⟩ : E)], e'.k = k → e'.s ≤ q → e' ∈ S.ns.map nent := fun e' h h1 h2 => by
            rcases List.mem_append.1 h with h | h
            · exact h
            · rw [List.mem_singleton.1 h] at h1 h2; exact absurd ⟨h1, h2⟩ hq
          cases ih with
          | non a1 a2 => exact .non (fun e he h1 h2 => a1 e (old e he h1 h2) h1 h2) a2
          | tmb t a1 a2 a3 a4 => exact .tmb t a1 a2 a3 (fun e he h1 h2 => a4 e (old e he h1 h2) h1 h2)
          | ent e a1 a2 a3 a4 a5 => exact .ent e (List.mem_append_left _ a1) a2 a3 (fun e' he h1 h2 => a4 e' (old e' he h1 h2) h1 h2) a5
    · have eS : adS S x.sq x.c x.k x.v ht = S := by unfold adS; rw [if_pos hE]
      rw [eS, if_pos (.inl (by simpa using hE))]
      exact ih
theorem seen_all (xs : List A6) (g : Nat) (k : ByteArray) (q : Int) : fnd [(g, (fil 0 xs).1)] k q = bst k q xs xs.length := by
  have h1 := seen (fun n _ => fil_wf 0 (xs.take n)) k q xs.length (Nat.le_refl _)
  rw [List.take_length] at h1
  exact (ans_get (fil_wf 0 xs) g k q).uniq h1 (uniq_of (fil_wf 0 xs))
end Go.Proofs.Ytefihoohdaegeaa.Bs

/- Plain: what Get answers, said of the entries and tombs alone; it is one alone. -/
import Derived.Test.YtefihoohdaegeaaFl
namespace Go.Proofs.Ytefihoohdaegeaa.An
open Go.Proofs.Ytefihoohdaegeaa.Ik
open Go.Proofs.Ytefihoohdaegeaa.Ee (E ze)
open Go.Proofs.Ytefihoohdaegeaa.Nw (newest newest_spec)
open Go.Proofs.Ytefihoohdaegeaa.Tm (T vd zt)
open Go.Proofs.Ytefihoohdaegeaa.Cv (cov cvl stp hit cvl_snoc)
open Go.Proofs.Ytefihoohdaegeaa.Sg
open Go.Proofs.Ytefihoohdaegeaa.In
open Go.Proofs.Ytefihoohdaegeaa.Tb
open Go.Proofs.Ytefihoohdaegeaa.Eo
open Go.Proofs.Ytefihoohdaegeaa.Gt
open Go.Proofs.Ytefihoohdaegeaa.At (atS)
open Go.Proofs.Ytefihoohdaegeaa.Vl (vld)
set_option linter.unusedVariables false
set_option linter.unusedSimpArgs false

/-- The first of the key's entries; the greatest number that covers it. -/
inductive Ans (es : List E) (ts : List T) (k : ByteArray) (q : Int) : E × Bool → Prop
  | non : (∀ e ∈ es, e.k = k → e.s ≤ q → False) → (∀ t ∈ ts, hit k q t = true → False) → Ans es ts k q (ze, false)
  | tmb (t : T) : t ∈ ts → hit k q t = true → (∀ t' ∈ ts, hit k q t' = true → t'.s ≤ t.s) → (∀ e ∈ es, e.k = k → e.s ≤ q → e.s < t.s) → Ans es ts k q (⟨k, t.s, 2, ⟨#[]⟩⟩, true)
  | ent (e : E) : e ∈ es → e.k = k → e.s ≤ q → (∀ e' ∈ es, e'.k = k → e'.s ≤ q → e'.s < e.s ∨ (e'.s = e.s ∧ e'.c ≤ e.c)) → (∀ t ∈ ts, hit k q t = true → t.s ≤ e.s) → Ans es ts k q (e, true)
theorem Ans.uniq {es : List E} {ts : List T} {k : ByteArray} {q : Int} {r r' : E × Bool} (h : Ans es ts k q r) (h' : Ans es ts k q r') (hu : ∀ e ∈ es, ∀ e' ∈ es, e.k = e'.k → e.s = e'.s → e.c = e'.c → e = e') : r = r' := by
  cases h with
  | non a1 a2 => cases h' with
    | non _ _ => rfl
    | tmb t b1 b2 b3 b4 => exact absurd b2 (fun h => a2 t b1 h)
    | ent e b1 b2 b3 b4 b5 => exact absurd b3 (fun h => a1 e b1 b2 h)
  | tmb t a1 a2 a3 a4 => cases h' with
    | non b1 b2 => exact absurd a2 (fun h => b2 t a1 h)
    | tmb t' b1 b2 b3 b4 =>
      have h1 := a3 t' b1 b2
      have h2 := b3 t a1 a2
      have : t.s = t'.s := by omega
      rw [this]
    | ent e b1 b2 b3 b4 b5 =>
      have h1 := a4 e b1 b2 b3
      have h2 := b5 t a1 a2
      omega
  | ent e a1 a2 a3 a4 a5 => cases h' with
    | non b1 b2 => exact absurd a3 (fun h => b1 e a1 a2 h)
    | tmb t b1 b2 b3 b4 =>
      have h1 := b4 e a1 a2 a3
      have h2 := a5 t b1 b2
      omega
    | ent e' b1 b2 b3 b4 b5 =>
      have h1 := a4 e' b1 b2 b3
      have h2 := b4 e a1 a2 a3
      rw [hu e a1 e' b1 (a2.trans b2.symm) (by omega) (by omega)]
/-- Entries and tombs of the same sets have the same answer. -/
theorem Ans.same {es es' : List E} {ts ts' : List T} {k : ByteArray} {q : Int} {r : E × Bool} (h : Ans es ts k q r) (he : ∀ e, e ∈ es ↔ e ∈ es') (ht : ∀ t, t ∈ ts ↔ t ∈ ts') : Ans es' ts' k q r := by
  cases h with
  | non a1 a2 => exact .non (fun e h => a1 e ((he e).2 h)) (fun t h => a2 t ((ht t).2 h))
  | tmb t a1 a2 a3 a4 => exact .tmb t ((ht t).1 a1) a2 (fun t' h => a3 t' ((ht t').2 h)) (fun e h => a4 e ((he e).2 h))
  | ent e a1 a2 a3 a4 a5 => exact .ent e ((he e).1 a1) a2 a3 (fun e' h => a4 e' ((he e').2 h)) (fun t h => a5 t ((ht t).2 h))
/-! ### The greatest number that covers -/
theorem cvl_spec (k : ByteArray) (q : Int) : ∀ (xs : List T), (∀ x ∈ xs, 1 ≤ x.s) → ((cvl k q xs).1 = 0 ∧ ∀ x ∈ xs, hit k q x = false) ∨ (∃ x ∈ xs, hit k q x = true ∧ (cvl k q xs).1 = x.s ∧ ∀ y ∈ xs, hit k q y = true → y.s ≤ x.s) := by
  intro xs
  have gen : ∀ n, ∀ xs : List T, xs.length = n → (∀ x ∈ xs, 1 ≤ x.s) → ((cvl k q xs).1 = 0 ∧ ∀ x ∈ xs, hit k q x = false) ∨ (∃ x ∈ xs, hit k q x = true ∧ (cvl k q xs).1 = x.s ∧ ∀ y ∈ xs, hit k q y = true → y.s ≤ x.s) := by
    intro n
    induction n with
    | zero => intro xs h _; rw [List.eq_nil_of_length_eq_zero h]; exact .inl ⟨rfl, fun _ h => by simp at h⟩
    | succ n ih =>
      intro xs h h1
      obtain ⟨ys, y, rfl⟩ : ∃ ys y, xs = ys ++ [y] := by
        rcases List.eq_nil_or_concat xs with e | ⟨ys, y, e⟩
        · rw [e] at h; cases h
        · exact ⟨ys, y, by simpa using e⟩
      have hys := ih ys (by simpa using h) (fun x hx => h1 x (List.mem_append_left _ hx))
      have hy1 := h1 y (by simp)
      rw [cvl_snoc]
      unfold stp
      cases hh : hit k q y with
      | false =>
        rw [if_neg (by simp)]
        rcases hys with ⟨a1, a2⟩ | ⟨x, a1, a2, a3, a4⟩
        · refine .inl ⟨a1, fun x hx => ?_⟩
          rcases List.mem_append.1 hx with h | h
          · exact a2 x h
          · rw [List.mem_singleton.1 h]; exact hh
        · refine .inr ⟨x, List.mem_append_left _ a1, a2, a3, fun z hz hzh => ?_⟩
          rcases List.mem_append.1 hz with h | h
          · exact a4 z h hzh
          · rw [List.mem_singleton.1 h, hh] at hzh; cases hzh
      | true =>
        rw [if_pos rfl]
        rcases hys with ⟨a1, a2⟩ | ⟨x, a1, a2, a3, a4⟩
        · refine .inr ⟨y, by simp, hh, ?_, fun z hz hzh => ?_⟩
          · show (if y.s > (cvl k q ys).1 then y.s else (cvl k q ys).1) = y.s
            rw [if_pos (by omega)]
          · rcases List.mem_append.1 hz with h | h
            · rw [a2 z h] at hzh; cases hzh
            · rw [List.mem_singleton.1 h]; omega
        · by_cases hg : y.s > (cvl k q ys).1
          · refine .inr ⟨y, by simp, hh, ?_, fun z hz hzh => ?_⟩
            · show (if y.s > (cvl k q ys).1 then y.s else (cvl k q ys).1) = y.s
              rw [if_pos hg]
            · rcases List.mem_append.1 hz with h | h
              · have := a4 z h hzh; omega
              · rw [List.mem_singleton.1 h]; omega
          · refine .inr ⟨x, List.mem_append_left _ a1, a2, ?_, fun z hz hzh => ?_⟩
            · show (if y.s > (cvl k q ys).1 then y.s else (cvl k q ys).1) = x.s
              rw [if_neg hg]; exact a3
            · rcases List.mem_append.1 hz with h | h
              · exact a4 z h hzh
              · rw [List.mem_singleton.1 h]; omega
  exact gen xs.length xs rfl
theorem cov_spec {S : St} (W : Wf S) (k : ByteArray) (q : Int) : ((cov S.ts k q).1 = 0 ∧ ∀ x ∈ S.ts, hit k q x = true → False) ∨ (∃ x ∈ S.ts, hit k q x = true ∧ (cov S.ts k q).1 = x.s ∧ ∀ y ∈ S.ts, hit k q y = true → y.s ≤ x.s) := by
  have hf : S.ts.filter vd = S.ts := List.filter_eq_self.2 (fun t ht => (W.tomb t ht).1)
  unfold cov
  rw [hf]
  rcases cvl_spec k q S.ts (fun x hx => (W.tomb x hx).2.1) with ⟨a1, a2⟩ | h
  · exact .inl ⟨a1, fun x hx h => by rw [a2 x hx] at h; cases h⟩
  · exact .inr h
/-! ### The first entry -/
theorem data_inj {a b : ByteArray} (h : a.data.toList = b.data.toList) : a = b := Vl.data_inj h
theorem nent_ik (n : N) : (nent n).ik = n.ik := rfl
theorem first_le {ns : List N} {ord : List Nat} (G : Gd ns ord) (k : IK) (y : Nat) (hy : y ∈ ord) (hb : below ns k y = false) : firstN ns ord k ≠ 0 ∧ cmp (key ns (firstN ns ord k)) (key ns y) ≤ 0 := by
  have hm : y ∈ ord.filter (fun n => !below ns k n) := List.mem_filter.2 ⟨hy, by simp [hb]⟩
  unfold firstN
  have hr : (ord.filter (fun n => !below ns k n)).Pairwise fun a b => cmp (key ns a) (key ns b) < 0 := G.rise.filter _
  cases hq : ord.filter (fun n => !below ns k n) with
  | nil => rw [hq] at hm; cases hm
  | cons z l =>
    rw [hq] at hm hr
    have hz : z ∈ ord := (List.mem_filter.1 (show z ∈ ord.filter (fun n => !below ns k n) by rw [hq]; simp)).1
    refine ⟨fun e => ?_, ?_⟩
    · have : z = 0 := e
      have := (G.mem z).1 hz
      omega
    · show cmp (key ns z) (key ns y) ≤ 0
      rcases List.mem_cons.1 hm with e | h
      · rw [e, cmp_self]; omega
      · have := (List.pairwise_cons.1 hr).1 y h; omega
theorem mem_num {ns : List N} {n : N} (h : n ∈ ns) : ∃ i, 1 ≤ i ∧ i ≤ ns.length ∧ nd ns i = n := by
  obtain ⟨i, hi, e⟩ := List.getElem_of_mem h
  refine ⟨i + 1, by omega, by omega, ?_⟩
  rw [nd_pos (by omega), List.getD_eq_getElem?_getD, show i + 1 - 1 = i by omega, List.getElem?_eq_getElem hi]
  exact e
theorem vld_parts {k : ByteArray} {s c : Int} (h : vld k s c = true) : s ≤ 72057594037927935 ∧ (c = 0 ∨ c = 1 ∨ c = 2 ∨ c = 255) := by
  unfold vld at h
  simp only [Bool.and_eq_true] at h
  exact ⟨Kd.seq_true h.1.2, Kd.kind_true h.2⟩
/-- An entry of the key that is seen does not stand ahead of At. -/
theorem seen_not_below {S : St} (W : Wf S) {i : Nat} (hi : 1 ≤ i ∧ i ≤ S.ns.length) {k : ByteArray} {q : Int} (hk : (nd S.ns i).k = k) (hs : (nd S.ns i).s ≤ q) : below S.ns (Cm.ik k (atS q) 255) i = false := by
  obtain ⟨v1, v2, v3, _⟩ := W.node _ (nd_mem hi.1 hi.2)
  obtain ⟨p1, p2⟩ := vld_parts v1
  have ha : (nd S.ns i).s ≤ atS q := by unfold atS; split <;> omega
  unfold below
  rw [decide_eq_false_iff_not, cmp_lt]
  rintro (h | ⟨_, h | ⟨h1, h2⟩⟩)
  · have h' : (nd S.ns i).k.data.toList < k.data.toList := h
    rw [hk] at h'
    exact lt_irrefl _ h'
  · have h' : atS q < (nd S.ns i).s := h
    omega
  · have h' : (255 : Int) < (nd S.ns i).c := h2
    omega
theorem newest_first {S : St} (W : Wf S) (k : ByteArray) (q : Int) : match newest k q (entS S k q) with
    | none => ∀ e ∈ S.ns.map nent, e.k = k → e.s ≤ q → False
    | some e => e ∈ S.ns.map nent ∧ e.k = k ∧ e.s ≤ q ∧ ∀ e' ∈ S.ns.map nent, e'.k = k → e'.s ≤ q → e'.s < e.s ∨ (e'.s = e.s ∧ e'.c ≤ e.c) := by
  have G := W.gd
  -- what the first one not below is, where an entry of the key is seen
  have main : ∀ i, 1 ≤ i → i ≤ S.ns.length → (nd S.ns i).k = k → (nd S.ns i).s ≤ q → ∃ f, f = firstN S.ns S.ord (Cm.ik k (atS q) 255) ∧ f ≠ 0 ∧ (nd S.ns f).k = k ∧ (nd S.ns f).s ≤ q ∧ ((nd S.ns i).s < (nd S.ns f).s ∨ ((nd S.ns i).s = (nd S.ns f).s ∧ (nd S.ns i).c ≤ (nd S.ns f).c)) := by
    intro i h1 h2 h3 h4
    have hb := seen_not_below W ⟨h1, h2⟩ h3 h4
    obtain ⟨f0, fc⟩ := first_le G (Cm.ik k (atS q) 255) i ((G.mem i).2 ⟨h1, h2⟩) hb
    obtain ⟨fm, fb⟩ := first_mem G (Cm.ik k (atS q) 255) f0
    refine ⟨_, rfl, f0, ?_⟩
    generalize firstN S.ns S.ord (Cm.ik k (atS q) 255) = f at *
    have fb' : ¬ cmp (key S.ns f) (Cm.ik k (atS q) 255) < 0 := by unfold below at fb; simpa using fb
    rw [cmp_lt] at fb'
    have hle : ¬ Lt (key S.ns i) (key S.ns f) := fun h => by
      have h1 := (cmp_lt _ _).2 h
      have h2 := cmp_anti (key S.ns i) (key S.ns f)
      omega
    have e1 : (key S.ns f).1 = k.data.toList := by
      rcases lt_total (key S.ns f).1 k.data.toList with h | h | h
      · exact absurd (Or.inl h) fb'
      · exact h
      · refine absurd (Or.inl ?_) hle
        show (nd S.ns i).k.data.toList < (key S.ns f).1
        rw [h3]; exact h
    have ek : (nd S.ns f).k = k := data_inj e1
    have ei : (key S.ns i).1 = (key S.ns f).1 := by rw [e1]; show (nd S.ns i).k.data.toList = _; rw [h3]
    have hs1 : (nd S.ns f).s ≤ atS q := by
      by_cases hx : atS q < (nd S.ns f).s
      · exact absurd (Or.inr ⟨e1, Or.inl hx⟩) fb'
      · omega
    have haq : atS q ≤ q := by unfold atS; split <;> omega
    refine ⟨ek, by omega, ?_⟩
    by_cases hx : (nd S.ns f).s < (nd S.ns i).s
    · exact absurd (Or.inr ⟨ei, Or.inl hx⟩) hle
    · by_cases hy : (nd S.ns i).s = (nd S.ns f).s
      · refine .inr ⟨hy, ?_⟩
        by_cases hz : (nd S.ns f).c < (nd S.ns i).c
        · exact absurd (Or.inr ⟨ei, Or.inr ⟨hy, hz⟩⟩) hle
        · omega
      · exact .inl (by omega)
  have hsp := newest_spec k q (entS S k q)
  cases hn : newest k q (entS S k q) with
  | none =>
    rw [hn] at hsp
    intro e he h1 h2
    obtain ⟨n, hnm, rfl⟩ := List.mem_map.1 he
    obtain ⟨i, i1, i2, rfl⟩ := mem_num hnm
    obtain ⟨f, hf, f0, fk, fs, _⟩ := main i i1 i2 h1 h2
    refine hsp (entN S.ns f) ?_ ⟨?_, ?_⟩
    · unfold entS; rw [← hf, if_neg f0]; simp
    · unfold entN; rw [if_neg f0]; exact fk
    · unfold entN; rw [if_neg f0]; exact fs
  | some e =>
    rw [hn] at hsp
    obtain ⟨h1, h2, h3, h4⟩ := hsp
    unfold entS at h1
    split at h1
    · cases h1
    · rename_i f0
      have he := List.mem_singleton.1 h1
      obtain ⟨fm, _⟩ := first_mem G (Cm.ik k (atS q) 255) f0
      have fl := (G.mem _).1 fm
      have he' : e = nent (nd S.ns (firstN S.ns S.ord (Cm.ik k (atS q) 255))) := by rw [he]; unfold entN; rw [if_neg f0]
      refine ⟨by rw [he']; exact List.mem_map.2 ⟨_, nd_mem fl.1 fl.2, rfl⟩, h2, h3, ?_⟩
      intro e2 he2 g1 g2
      obtain ⟨n, hnm, rfl⟩ := List.mem_map.1 he2
      obtain ⟨i, i1, i2, rfl⟩ := mem_num hnm
      obtain ⟨f, hf, _, _, _, hlast⟩ := main i i1 i2 g1 g2
      rw [he', ← hf]
      exact hlast
/-- The answer of Get. -/
theorem ans_get {S : St} (W : Wf S) (g : Nat) (k : ByteArray) (q : Int) : Ans (S.ns.map nent) S.ts k q (fnd [(g, S)] k q) := by
  have e1 : entL [(g, S)] k q = entS S k q := by simp [entL]
  have e2 : cvr [(g, S)] k q = (cov S.ts k q).1 := by
    show max 0 (cov S.ts k q).1 = _
    rcases cov_spec W k q with ⟨h, _⟩ | ⟨x, hx, _, h, _⟩
    · omega
    · have := (W.tomb x hx).2.1; omega
  unfold fnd
  rw [e1, e2]
  have hn := newest_first W k q
  cases ho : newest k q (entS S k q) with
  | none =>
    rw [ho] at hn
    show Ans _ _ _ _ (if (ze).s < _ then _ else (ze, false))
    rcases cov_spec W k q with ⟨h, h2⟩ | ⟨x, hx, hh, h, h2⟩
    · rw [h, if_neg (by simp [ze])]
      exact .non hn h2
    · have := (W.tomb x hx).2.1
      rw [h, if_pos (by simp [ze]; omega)]
      exact .tmb x hx hh h2 (fun e he h1 h3 => (hn e he h1 h3).elim)
  | some e =>
    rw [ho] at hn
    obtain ⟨n1, n2, n3, n4⟩ := hn
    show Ans _ _ _ _ (if e.s < _ then _ else (e, true))
    have hs1 : 1 ≤ e.s := by
      obtain ⟨n, hnm, rfl⟩ := List.mem_map.1 n1
      exact (W.node n hnm).2.1
    rcases cov_spec W k q with ⟨h, h2⟩ | ⟨x, hx, hh, h, h2⟩
    · rw [h, if_neg (by omega)]
      exact .ent e n1 n2 n3 n4 (fun t ht hth => (h2 t ht hth).elim)
    · rw [h]
      by_cases hc : e.s < x.s
      · rw [if_pos hc]
        exact .tmb x hx hh h2 (fun e' he' h1 h3 => by have := n4 e' he' h1 h3; omega)
      · rw [if_neg hc]
        exact .ent e n1 n2 n3 n4 (fun t ht hth => by have := h2 t ht hth; omega)
theorem uniq_of {S : St} (W : Wf S) : ∀ e ∈ S.ns.map nent, ∀ e' ∈ S.ns.map nent, e.k = e'.k → e.s = e'.s → e.c = e'.c → e = e' := by
  intro e he e' he' h1 h2 h3
  obtain ⟨n, hnm, rfl⟩ := List.mem_map.1 he
  obtain ⟨n', hnm', rfl⟩ := List.mem_map.1 he'
  obtain ⟨i, i1, i2, rfl⟩ := mem_num hnm
  obtain ⟨j, j1, j2, rfl⟩ := mem_num hnm'
  have hij : i = j := by
    have G := W.gd
    have hi := (G.mem i).2 ⟨i1, i2⟩
    have hj := (G.mem j).2 ⟨j1, j2⟩
    have hk : key S.ns i = key S.ns j := by
      show ((nd S.ns i).k.data.toList, (nd S.ns i).s, (nd S.ns i).c) = ((nd S.ns j).k.data.toList, (nd S.ns j).s, (nd S.ns j).c)
      have a1 : (nd S.ns i).k = (nd S.ns j).k := h1
      have a2 : (nd S.ns i).s = (nd S.ns j).s := h2
      have a3 : (nd S.ns i).c = (nd S.ns j).c := h3
      rw [a1, a2, a3]
    have f1 := (Fi.first_eq G (key S.ns j) i hi (by rw [hk]; exact cmp_self _)).1
    have f2 := (Fi.first_eq G (key S.ns j) j hj (cmp_self _)).1
    exact f1.symm.trans f2
  rw [hij]
end Go.Proofs.Ytefihoohdaegeaa.An

/- What Encode lays is read back, plain. -/
import Derived.Test.YtnpeocoipodmfaaDe
import Derived.Test.YtnpeocoipodmfaaPt
namespace Go.Proofs.Ytnpeocoipodmfaa.Pd
open Go.ChangeShapes Go.WideShapes Go.ChangeAt Go.RowKit
open Go.Proofs.Ytnpeocoipodmfaa.Gr
open Go.Proofs.Ytnpeocoipodmfaa.Ev
open Go.Proofs.Ytnpeocoipodmfaa.Nu (nread)
open Go.Proofs.Ytnpeocoipodmfaa.Ri
open Go.Proofs.Ytnpeocoipodmfaa.Dp
open Go.Proofs.Ytnpeocoipodmfaa.De
open Go.Proofs.Ytnpeocoipodmfaa.Va (vE)
open Go.Proofs.Ytnpeocoipodmfaa.Be (enc txB goB coB goL coL sdL)
open Go.Proofs.Ytnpeocoipodmfaa.Bs (sd)
open Go.Proofs.Ytnpeocoipodmfaa.Bv (vbs)
open Go.Proofs.Ytnpeocoipodmfaa.By (Row Bytes tx str tread)
set_option linter.unusedVariables false
set_option linter.unusedSimpArgs false

theorem getD_mid (ah : List Int) (t : Int) (rest : List Int) : (ah ++ t :: rest).getD ((ah.length : Nat) : Int).toNat 0 = t := by
  rw [Int.toNat_natCast, List.getD_eq_getElem?_getD, List.getElem?_append_right (Nat.le_refl _)]
  simp
theorem len1 (ah : List Int) (t : Int) : (((ah ++ [t]).length : Nat) : Int) = ((ah.length : Nat) : Int) + 1 := by simp
/-- What is reached. -/
def Rch (zs : List Int) (d : Ed) (ah : List Int) : Prop := ∃ k, drun zs k = some (d, ((ah.length : Nat) : Int))
theorem Rch.step {zs : List Int} {d d' : Ed} {ah ah' : List Int} (h : Rch zs d ah) (hl : ah.length < zs.length) (hs : dstep zs d ((ah.length : Nat) : Int) = some (d', ((ah'.length : Nat) : Int))) : Rch zs d' ah' := by
  obtain ⟨k, hk⟩ := h
  exact ⟨k + 1, (drun_next hk (by omega)).trans hs⟩
theorem r1 {zs ah rest : List Int} {d : Ed} (h : Rch zs d ah) (x : Int) (hx : 0 ≤ x ∧ x ≤ 9223372036854775807) (h0 : d.log = 0) (e : zs = ah ++ (sd 1 x ++ rest)) : Rch zs ⟨x, d.nx, d.sq, d.go, d.co⟩ (ah ++ sd 1 x) := by
  unfold sd at e ⊢
  by_cases hz : x = 0
  · rw [if_pos hz, List.append_nil]
    obtain ⟨lg, nx, sq, go, co⟩ := d
    dsimp only at h0 ⊢
    rw [hz, ← h0]
    exact h
  · rw [if_neg hz] at e ⊢
    have e2 : zs = (ah ++ [1]) ++ (Vb.vb x ++ rest) := by rw [e]; simp
    refine h.step (by rw [e]; simp) ?_
    have hr := Pb.nread_back (ah ++ [1]) rest x hx
    rw [← e2, len1] at hr
    rw [dstep_1 (by rw [e]; exact getD_mid ah 1 _), hr, if_pos rfl]
    simp
    omega
theorem r2 {zs ah rest : List Int} {d : Ed} (h : Rch zs d ah) (x : Int) (hx : 0 ≤ x ∧ x ≤ 9223372036854775807) (h0 : d.nx = 0) (e : zs = ah ++ (sd 2 x ++ rest)) : Rch zs ⟨d.log, x, d.sq, d.go, d.co⟩ (ah ++ sd 2 x) := by
  unfold sd at e ⊢
  by_cases hz : x = 0
  · rw [if_pos hz, List.append_nil]
    obtain ⟨lg, nx, sq, go, co⟩ := d
    dsimp only at h0 ⊢
    rw [hz, ← h0]
    exact h
  · rw [if_neg hz] at e ⊢
    have e2 : zs = (ah ++ [2]) ++ (Vb.vb x ++ rest) := by rw [e]; simp
    refine h.step (by rw [e]; simp) ?_
    have hr := Pb.nread_back (ah ++ [2]) rest x hx
    rw [← e2, len1] at hr
    rw [dstep_2 (by rw [e]; exact getD_mid ah 2 _), hr, if_pos rfl]
    simp
    omega
theorem r3 {zs ah rest : List Int} {d : Ed} (h : Rch zs d ah) (x : Int) (hx : bu x) (h0 : d.sq = 0) (e : zs = ah ++ (sd 3 x ++ rest)) : Rch zs ⟨d.log, d.nx, x, d.go, d.co⟩ (ah ++ sd 3 x) := by
  unfold sd at e ⊢
  by_cases hz : x = 0
  · rw [if_pos hz, List.append_nil]
    obtain ⟨lg, nx, sq, go, co⟩ := d
    dsimp only at h0 ⊢
    rw [hz, ← h0]
    exact h
  · rw [if_neg hz] at e ⊢
    have e2 : zs = (ah ++ [3]) ++ (Vb.vb x ++ rest) := by rw [e]; simp
    refine h.step (by rw [e]; simp) ?_
    have hr := Vb.vread_back (ah ++ [3]) rest x hx
    rw [← e2, len1] at hr
    rw [dstep_3 (by rw [e]; exact getD_mid ah 3 _), hr, if_pos rfl]
    simp
    omega
theorem nums (zs : List Int) (vs ah rest : List Int) (hv : ∀ v ∈ vs, 0 ≤ v ∧ v ≤ 9223372036854775807) (e : zs = ah ++ (vbs vs ++ rest)) : rdk (nread zs) vs.length (ah.length : Nat) = (vs, ((ah.length + (vbs vs).length : Nat) : Int), 0) :=
  Pb.nums_back (nread zs) zs (fun v => 0 ≤ v ∧ v ≤ 9223372036854775807) (fun ah v rest ho e => by subst e; exact Pb.nread_back ah rest v ho) vs ah rest hv e
theorem vars (zs : List Int) (vs ah rest : List Int) (hv : ∀ v ∈ vs, 0 ≤ v ∧ v ≤ 18446744073709551615) (e : zs = ah ++ (vbs vs ++ rest)) : rdk (Vb.vread zs) vs.length (ah.length : Nat) = (vs, ((ah.length + (vbs vs).length : Nat) : Int), 0) :=
  Pb.nums_back (Vb.vread zs) zs (fun v => 0 ≤ v ∧ v ≤ 18446744073709551615) (fun ah v rest ho e => by subst e; exact Vb.vread_back ah rest v ho) vs ah rest hv e
theorem r4 {zs ah rest : List Int} {d : Ed} (h : Rch zs d ah) (x : Pl) (hx : Va.plc x = true) (e : zs = ah ++ (goB x ++ rest)) : Rch zs ⟨d.log, d.nx, d.sq, d.go ++ [x], d.co⟩ (ah ++ goB x) := by
  obtain ⟨k1, k2⟩ := En.plc_of hx
  have e2 : zs = (ah ++ [4]) ++ (vbs [x.l, x.n] ++ rest) := by rw [e]; simp [goB]
  refine h.step (by rw [e]; simp [goB]) ?_
  have hr := nums zs [x.l, x.n] (ah ++ [4]) rest (by intro v hv; simp at hv; rcases hv with rfl | rfl <;> omega) e2
  rw [len1] at hr
  change rdk (nread zs) 2 _ = _ at hr
  rw [dstep_4 (by rw [e]; exact getD_mid ah 4 _), hr, if_pos rfl]
  obtain ⟨l, n⟩ := x
  simp [goB]
  omega
theorem r5 {zs ah rest : List Int} {d : Ed} (h : Rch zs d ah) (x : Ad) (hx : Va.plc x.pl = true) (hf : Va.fil x.f = true) (e : zs = ah ++ (coB x ++ rest)) : Rch zs ⟨d.log, d.nx, d.sq, d.go, d.co ++ [x]⟩ (ah ++ coB x) := by
  obtain ⟨k1, k2⟩ := En.plc_of hx
  obtain ⟨f1, f2, f3, f4, f5, f6⟩ := En.fil_of hf
  obtain ⟨l, n, z, a, b, lo, hi⟩ := x
  change 0 ≤ l ∧ l ≤ 6 at k1
  change 1 ≤ n ∧ n ≤ 2147483647 at k2
  dsimp only at f1 f2 f3 f4 f5 f6
  have ec : coB ⟨l, ⟨n, z, a, b, lo, hi⟩⟩ = 5 :: (vbs [l, n, z] ++ (txB a ++ (txB b ++ vbs [lo, hi]))) := by simp [coB]
  rw [ec] at e ⊢
  have e1 : zs = (ah ++ [5]) ++ (vbs [l, n, z] ++ (txB a ++ (txB b ++ (vbs [lo, hi] ++ rest)))) := by rw [e]; simp
  have e2 : zs = ((ah ++ [5]) ++ vbs [l, n, z]) ++ (txB a ++ (txB b ++ (vbs [lo, hi] ++ rest))) := by rw [e]; simp
  have e3 : zs = (((ah ++ [5]) ++ vbs [l, n, z]) ++ txB a ++ txB b) ++ (vbs [lo, hi] ++ rest) := by rw [e]; simp
  refine h.step (by rw [e]; simp) ?_
  have h1 := nums zs [l, n, z] (ah ++ [5]) _ (by intro v hv; simp at hv; rcases hv with rfl | rfl | rfl <;> omega) e1
  have h2 := Pt.texts_back ((ah ++ [5]) ++ vbs [l, n, z]) (vbs [lo, hi] ++ rest) a b (by omega) (by omega)
  rw [← e2] at h2
  have h3 := vars zs [lo, hi] (((ah ++ [5]) ++ vbs [l, n, z]) ++ txB a ++ txB b) rest (by intro v hv; simp at hv; rcases hv with rfl | rfl <;> omega) e3
  change rdk (nread zs) 3 _ = _ at h1
  change rdk (Vb.vread zs) 2 _ = _ at h3
  rw [← List.length_append] at h1
  rw [← List.length_append, ← List.length_append] at h2
  rw [← List.length_append] at h3
  rw [len1] at h1
  have hd : dst5 zs (((ah.length : Nat) : Int) + 1) = some ((⟨l, ⟨n, z, a, b, lo, hi⟩⟩ : Ad), ((((((ah ++ [5]) ++ vbs [l, n, z]) ++ txB a ++ txB b) ++ vbs [lo, hi]).length : Nat) : Int)) := by
    unfold dst5
    rw [h1]
    dsimp only
    rw [h2]
    dsimp only
    rw [h3]
    simp [Pt.str_tx]
  rw [dstep_5 (by rw [e]; exact getD_mid ah 5 _), hd]
  simp
theorem rgo {zs : List Int} : ∀ (ps : List Pl) {ah rest : List Int} {d : Ed}, Rch zs d ah → (∀ x ∈ ps, Va.plc x = true) → zs = ah ++ (goL ps ++ rest) → Rch zs ⟨d.log, d.nx, d.sq, d.go ++ ps, d.co⟩ (ah ++ goL ps)
  | [], ah, rest, d, h, _, _ => by
    have : goL [] = [] := rfl
    rw [this, List.append_nil, List.append_nil]
    exact h
  | x :: r, ah, rest, d, h, hx, e => by
    have eg : goL (x :: r) = goB x ++ goL r := rfl
    rw [eg] at e ⊢
    have h1 := r4 h x (hx x (by simp)) (rest := goL r ++ rest) (by rw [e]; simp)
    have h2 := rgo r h1 (fun y hy => hx y (List.mem_cons_of_mem _ hy)) (rest := rest) (by rw [e]; simp)
    simpa using h2
theorem rco {zs : List Int} : ∀ (ps : List Ad) {ah rest : List Int} {d : Ed}, Rch zs d ah → (∀ x ∈ ps, Va.plc x.pl = true ∧ Va.fil x.f = true) → zs = ah ++ (coL ps ++ rest) → Rch zs ⟨d.log, d.nx, d.sq, d.go, d.co ++ ps⟩ (ah ++ coL ps)
  | [], ah, rest, d, h, _, _ => by
    have : coL [] = [] := rfl
    rw [this, List.append_nil, List.append_nil]
    exact h
  | x :: r, ah, rest, d, h, hx, e => by
    have eg : coL (x :: r) = coB x ++ coL r := rfl
    rw [eg] at e ⊢
    have h1 := r5 h x (hx x (by simp)).1 (hx x (by simp)).2 (rest := coL r ++ rest) (by rw [e]; simp)
    have h2 := rco r h1 (fun y hy => hx y (List.mem_cons_of_mem _ hy)) (rest := rest) (by rw [e]; simp)
    simpa using h2
theorem enc_read {e : Ed} (hV : vE e = true) (hs : bu e.sq) : ∃ k, drun (enc e) k = some (e, (((enc e).length : Nat) : Int)) := by
  obtain ⟨lg, nx, sq, ps, co⟩ := e
  obtain ⟨h1, h2, h3, h4, h5⟩ := En.vE_of hV
  obtain ⟨zs, hz⟩ : ∃ zs, zs = enc ⟨lg, nx, sq, ps, co⟩ := ⟨_, rfl⟩
  have e0 : enc ⟨lg, nx, sq, ps, co⟩ = sd 1 lg ++ (sd 2 nx ++ (sd 3 sq ++ (goL ps ++ coL co))) := by simp [enc, sdL]
  rw [← hz]
  rw [e0] at hz
  have a0 : Rch zs zed [] := ⟨0, rfl⟩
  have a1 := r1 a0 lg ⟨h1.1, by omega⟩ rfl (rest := sd 2 nx ++ (sd 3 sq ++ (goL ps ++ coL co))) (by rw [hz]; simp)
  have a2 := r2 a1 nx ⟨h2.1, by omega⟩ rfl (rest := sd 3 sq ++ (goL ps ++ coL co)) (by rw [hz]; simp)
  have a3 := r3 a2 sq hs rfl (rest := goL ps ++ coL co) (by rw [hz]; simp)
  have a4 := rgo ps a3 h4 (rest := coL co) (by rw [hz]; simp)
  have a5 := rco co a4 h5 (rest := []) (by rw [hz]; simp)
  have e9 : [] ++ sd 1 lg ++ sd 2 nx ++ sd 3 sq ++ goL ps ++ coL co = zs := by rw [hz]; simp
  rw [e9] at a5
  exact a5
theorem drun_none {zs : List Int} {k : Nat} (h : drun zs k = none) : ∀ m, drun zs (k + m) = none
  | 0 => h
  | m + 1 => by
    show (match drun zs (k + m) with | some (d, p) => if p < zs.length then dstep zs d p else none | none => none) = none
    rw [drun_none h m]
theorem drun_end {zs : List Int} {k : Nat} {d : Ed} {p : Int} (h : drun zs k = some (d, p)) (hp : (zs.length : Int) ≤ p) : drun zs (k + 1) = none := by
  show (match drun zs k with | some (d, p) => if p < zs.length then dstep zs d p else none | none => none) = _
  rw [h]
  exact if_neg (by omega)
/-- The end is one. -/
theorem drun_one {zs : List Int} {k k' : Nat} {d d' : Ed} {p p' : Int} (h : drun zs k = some (d, p)) (hp : (zs.length : Int) ≤ p) (h' : drun zs k' = some (d', p')) (hp' : (zs.length : Int) ≤ p') : d' = d := by
  rcases Nat.lt_trichotomy k k' with hk | hk | hk
  · have := drun_none (drun_end h hp) (k' - (k + 1))
    rw [show k + 1 + (k' - (k + 1)) = k' by omega, h'] at this
    cases this
  · subst hk
    rw [h] at h'
    cases h'
    rfl
  · have := drun_none (drun_end h' hp') (k - (k' + 1))
    rw [show k' + 1 + (k - (k' + 1)) = k by omega, h] at this
    cases this
/-- What was laid is not refused. -/
theorem enc_good {e : Ed} (hV : vE e = true) (hs : bu e.sq) : ¬ dbad (enc e) (enc e).length := by
  obtain ⟨k, hk⟩ := enc_read hV hs
  rintro ⟨k', d, q, h, ⟨hq, hn⟩ | ⟨hq, hn⟩⟩
  · have h1 : drun (enc e) (k' + 1) = none := (drun_next h hq).trans hn
    by_cases hk' : k' < k
    · have := drun_none h1 (k - (k' + 1))
      rw [show k' + 1 + (k - (k' + 1)) = k by omega, hk] at this
      cases this
    · by_cases hke : k' = k
      · subst hke
        rw [hk] at h
        cases h
        omega
      · have := drun_none (drun_end hk (Int.le_refl _)) (k' - (k + 1))
        rw [show k + 1 + (k' - (k + 1)) = k' by omega, h] at this
        cases this
  · have h1 := drun_one hk (Int.le_refl _) h hq
    subst h1
    rcases hn with hn | hn
    · rw [hV] at hn; cases hn
    · exact hn rfl
end Go.Proofs.Ytnpeocoipodmfaa.Pd

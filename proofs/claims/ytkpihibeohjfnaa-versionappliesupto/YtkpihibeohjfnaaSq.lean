/- What an edit makes of levels, in plain words: one answer alone; taken back. -/
import Derived.Test.YtkpihibeohjfnaaPi
import Derived.Test.YtkpihibeohjfnaaBp
namespace Go.Proofs.Ytkpihibeohjfnaa.Sq
open Go.Proofs.Ytkpihibeohjfnaa.Gr
open Go.Proofs.Ytkpihibeohjfnaa.Ev
open Go.Proofs.Ytkpihibeohjfnaa.Oe (wsum wsum_append wsum_len wF wA)
open Go.Proofs.Ytkpihibeohjfnaa.Lv
open Go.Proofs.Ytkpihibeohjfnaa.Vp
open Go.Proofs.Ytkpihibeohjfnaa.Vq
open Go.Proofs.Ytkpihibeohjfnaa.Vr
open Go.Proofs.Ytkpihibeohjfnaa.Vt
open Go.Proofs.Ytkpihibeohjfnaa.Vw
open Go.Proofs.Ytkpihibeohjfnaa.Bp
open Go.Proofs.Ytkpihibeohjfnaa.Fd
open Go.Proofs.Ytkpihibeohjfnaa.To (kp tk)
open Go.Proofs.Ytkpihibeohjfnaa.Cq (lF ltF swoF)
open Go.Proofs.Ytkpihibeohjfnaa.Pi (cm cm_snoc cm_len)
open Go.Proofs.Ytkpihibeohjfnaa.Lx (lt)
set_option linter.unusedVariables false
set_option linter.unusedSimpArgs false

/-! ### Orders of a level -/
theorem lF_irr (k : Nat) (x : Fi) : lF k x x = false := by
  have := swoF k
  rw [ltF] at this
  exact this.1 x
theorem lF_tot {k : Nat} {x y : Fi} (h1 : lF k x y = false) (h2 : lF k y x = false) : (k = 0 → x.n = y.n) ∧ (k ≠ 0 → x.a = y.a) := by
  unfold lF at h1 h2
  by_cases h : k = 0
  · rw [if_pos h] at h1 h2
    simp at h1 h2
    exact ⟨fun _ => by omega, fun h' => absurd h h'⟩
  · rw [if_neg h] at h1 h2
    exact ⟨fun h' => absurd h' h, fun _ => Lx.eq_of h1 h2⟩
def Srt (k : Nat) (fs : List Fi) : Prop := fs.Pairwise fun x y => lF k y x = false
def Strict (k : Nat) (fs : List Fi) : Prop := fs.Pairwise fun x y => lF k x y = true
theorem asy {k : Nat} {x y : Fi} (h : lF k x y = true) : lF k y x = false := by
  unfold lF at h ⊢
  by_cases e : k = 0
  · rw [if_pos e] at h ⊢
    simp at h ⊢; omega
  · rw [if_neg e] at h ⊢
    exact Lx.asym h
theorem Strict.srt {k : Nat} {fs : List Fi} (h : Strict k fs) : Srt k fs := List.Pairwise.imp (fun h => asy h) h
theorem strict_of {k : Nat} {fs : List Fi} (h : lvOk k fs) : Strict k fs := by
  unfold Strict
  rw [List.pairwise_iff_getElem]
  intro i j hi hj hij
  have g1 : fs.getD i zf = fs[i] := by rw [List.getD_eq_getElem?_getD, List.getElem?_eq_getElem hi]; rfl
  have g2 : fs.getD j zf = fs[j] := by rw [List.getD_eq_getElem?_getD, List.getElem?_eq_getElem hj]; rfl
  unfold lF
  by_cases e : k = 0
  · subst e
    rw [if_pos rfl]
    have := rise_n h hij hj
    rw [g1, g2] at this
    simpa using this
  · rw [if_neg e]
    have := rise_a (by omega) h hij hj
    rwa [g1, g2] at this
theorem strict_mem {k : Nat} {ys : List Fi} (hy : Strict k ys) {a b : Fi} (ha : a ∈ ys) (hb : b ∈ ys) : a = b ∨ lF k a b = true ∨ lF k b a = true := by
  obtain ⟨i, hi, rfl⟩ := List.getElem_of_mem ha
  obtain ⟨j, hj, rfl⟩ := List.getElem_of_mem hb
  rcases Nat.lt_trichotomy i j with h | h | h
  · exact .inr (.inl (List.pairwise_iff_getElem.1 hy i j hi hj h))
  · subst h; exact .inl rfl
  · exact .inr (.inr (List.pairwise_iff_getElem.1 hy j i hj hi h))
/-- A level in order is one alone, if no two of its files are alike by the order. -/
theorem one {k : Nat} {xs ys : List Fi} (hp : xs.Perm ys) (hx : Srt k xs) (hy : Strict k ys) : xs = ys := by
  refine List.Perm.eq_of_pairwise (le := fun x y => lF k y x = false) (fun a b ha hb h1 h2 => ?_) hx hy.srt hp
  rcases strict_mem hy (hp.mem_iff.1 ha) hb with h | h | h
  · exact h
  · rw [h2] at h; cases h
  · rw [h1] at h; cases h
def le (k : Nat) (x y : Fi) : Bool := !(lF k y x)
theorem le_tr (k : Nat) (a b c : Fi) (h1 : le k a b = true) (h2 : le k b c = true) : le k a c = true := by
  unfold le lF at *
  by_cases e : k = 0
  · simp only [if_pos e] at *
    simp at *; omega
  · simp only [if_neg e] at *
    simp only [Bool.not_eq_true'] at *
    exact Lx.lele h1 h2
theorem le_tot (k : Nat) (a b : Fi) : (le k a b || le k b a) = true := by
  unfold le
  cases h : lF k b a with
  | false => rfl
  | true => rw [asy h]; rfl
theorem ms_perm (k : Nat) (fs : List Fi) : (fs.mergeSort (le k)).Perm fs := List.mergeSort_perm _ _
theorem ms_srt (k : Nat) (fs : List Fi) : Srt k (fs.mergeSort (le k)) := by
  have := List.pairwise_mergeSort (le := le k) (le_tr k) (le_tot k) fs
  exact this.imp (fun h => by unfold le at h; simpa using h)
/-! ### What an edit makes -/
/-- The levels behind an edit. -/
def ap (L : List (List Fi)) (ps : List Pl) (co : List Ad) : List (List Fi) := (List.range L.length).map fun k => (kp ps k (L.getD k []) ++ cm k co).mergeSort (le k)
theorem getD_map {α : Type} (f : Nat → List α) {n k : Nat} (hk : k < n) : ((List.range n).map f).getD k [] = f k := by
  rw [List.getD_eq_getElem?_getD, List.getElem?_map, List.getElem?_range hk]; rfl
theorem tk_at {ps : List Pl} {L : List (List Fi)} {k : Nat} (hk : k < L.length) : (tk ps L).getD k [] = kp ps k (L.getD k []) := getD_map _ hk
theorem tk_len (ps : List Pl) (L : List (List Fi)) : (tk ps L).length = L.length := by simp [tk]
theorem ap_at {L : List (List Fi)} {ps : List Pl} {co : List Ad} {k : Nat} (hk : k < L.length) : (ap L ps co).getD k [] = (kp ps k (L.getD k []) ++ cm k co).mergeSort (le k) := getD_map _ hk
theorem ap_len (L : List (List Fi)) (ps : List Pl) (co : List Ad) : (ap L ps co).length = L.length := by simp [ap]
def Res (L : List (List Fi)) (ps : List Pl) (co : List Ad) (M : List (List Fi)) : Prop := M.length = L.length ∧ ∀ k, k < L.length → (M.getD k []).Perm (kp ps k (L.getD k []) ++ cm k co) ∧ Srt k (M.getD k [])
theorem ap_res (L : List (List Fi)) (ps : List Pl) (co : List Ad) : Res L ps co (ap L ps co) := by
  refine ⟨ap_len _ _ _, fun k hk => ?_⟩
  rw [ap_at hk]
  exact ⟨ms_perm _ _, ms_srt _ _⟩
theorem ext_lv {M N : List (List Fi)} (h : M.length = N.length) (he : ∀ k, k < M.length → M.getD k [] = N.getD k []) : M = N := by
  apply List.ext_getElem h
  intro i h1 h2
  have := he i h1
  rw [List.getD_eq_getElem?_getD, List.getD_eq_getElem?_getD, List.getElem?_eq_getElem h1, List.getElem?_eq_getElem h2] at this
  exact this
theorem res_one {L : List (List Fi)} {ps : List Pl} {co : List Ad} {M N : List (List Fi)} (hM : Res L ps co M) (hN : Res L ps co N) (hv : vld N = true) : M = N := by
  refine ext_lv (by rw [hM.1, hN.1]) (fun k hk => ?_)
  rw [hM.1] at hk
  have hs : Strict k (N.getD k []) := strict_of ((vld_parts hv).1 k (by rw [hN.1]; exact hk))
  exact one ((hM.2 k hk).1.trans (hN.2 k hk).1.symm) (hM.2 k hk).2 hs
theorem res_vld {L : List (List Fi)} {ps : List Pl} {co : List Ad} {M : List (List Fi)} (hM : Res L ps co M) : vld M = vld (ap L ps co) := by
  cases h1 : vld M with
  | true => rw [res_one (ap_res L ps co) hM h1, h1]
  | false =>
    cases h2 : vld (ap L ps co) with
    | false => rfl
    | true => rw [res_one hM (ap_res L ps co) h2, h2] at h1; cases h1
theorem res_ap {L : List (List Fi)} {ps : List Pl} {co : List Ad} {M : List (List Fi)} (hM : Res L ps co M) (h : vld M = true) : M = ap L ps co := (res_one (ap_res L ps co) hM h).symm
def fit (L : List (List Fi)) (ps : List Pl) : Bool := (((nums L).length : Int) - ((nums (tk ps L)).length : Int)) == (ps.length : Int)
def inn (n : Nat) (co : List Ad) : Bool := co.all fun x => fr 0 x.l ((n : Int) - 1)
/-- An edit fits levels. -/
def good (L : List (List Fi)) (ps : List Pl) (co : List Ad) : Bool := fit L ps && (inn L.length co && vld (ap L ps co))
/-! ### Sums -/
theorem wsum_add {α : Type} (f g : α → Nat) : ∀ l : List α, wsum (fun x => f x + g x) l = wsum f l + wsum g l
  | [] => rfl
  | x :: l => by show f x + g x + wsum _ l = f x + wsum f l + (g x + wsum g l); rw [wsum_add f g l]; omega
theorem wsum_mapf {α β : Type} (f : β → Nat) (h : α → β) : ∀ l : List α, wsum f (l.map h) = wsum (fun x => f (h x)) l
  | [] => rfl
  | x :: l => by show f (h x) + wsum f (l.map h) = _; rw [wsum_mapf f h l]; rfl
theorem wsum_congr {α : Type} {f g : α → Nat} : ∀ {l : List α}, (∀ x ∈ l, f x = g x) → wsum f l = wsum g l
  | [], _ => rfl
  | x :: l, h => by
    show f x + wsum f l = g x + wsum g l
    rw [h x (by simp), wsum_congr (fun y hy => h y (by simp [hy]))]
theorem wsum_le {α : Type} {f g : α → Nat} : ∀ {l : List α}, (∀ x ∈ l, f x ≤ g x) → wsum f l ≤ wsum g l
  | [], _ => Nat.le_refl _
  | x :: l, h => by
    show f x + wsum f l ≤ g x + wsum g l
    have h1 := h x (by simp)
    have h2 := wsum_le (l := l) (fun y hy => h y (by simp [hy]))
    omega
theorem wsum_zero {α : Type} : ∀ l : List α, wsum (fun _ => 0) l = 0
  | [] => rfl
  | x :: l => by show 0 + wsum _ l = 0; rw [wsum_zero l]
theorem wsum_perm {α : Type} (f : α → Nat) {xs ys : List α} (h : xs.Perm ys) : wsum f xs = wsum f ys := by
  induction h with
  | nil => rfl
  | cons x _ ih => show f x + _ = f x + _; rw [ih]
  | swap x y l => show f y + (f x + _) = f x + (f y + _); omega
  | trans _ _ h1 h2 => rw [h1, h2]
theorem wsum_one {α : Type} : ∀ l : List α, wsum (fun _ => 1) l = l.length
  | [] => rfl
  | x :: l => by show 1 + wsum _ l = _; rw [wsum_one l]; simp; omega
theorem range_one (l : Int) (v : Nat) : ∀ n, wsum (fun k : Nat => if l = (k : Int) then v else 0) (List.range n) = if 0 ≤ l ∧ l < (n : Int) then v else 0
  | 0 => by rw [if_neg (by omega)]; rfl
  | n + 1 => by
    rw [List.range_succ, wsum_append, range_one l v n]
    show _ + ((if l = (n : Int) then v else 0) + 0) = _
    by_cases e : l = (n : Int)
    · rw [if_pos e, if_neg (by omega), if_pos (by omega)]; omega
    · rw [if_neg e]
      by_cases h : 0 ≤ l ∧ l < (n : Int)
      · rw [if_pos h, if_pos (by omega)]; omega
      · rw [if_neg h, if_neg (by omega)]
theorem cm_cons (k : Nat) (x : Ad) (co : List Ad) : cm k (x :: co) = (if x.l = (k : Int) then [x.f] else []) ++ cm k co := by
  unfold cm
  by_cases h : x.l = (k : Int)
  · rw [List.filter_cons_of_pos (by simpa using h), if_pos h]; rfl
  · rw [List.filter_cons_of_neg (by simpa using h), if_neg h]; rfl
theorem cm_sum (g : Fi → Nat) (n : Nat) : ∀ co : List Ad, wsum (fun k => wsum g (cm k co)) (List.range n) = wsum (fun x : Ad => if 0 ≤ x.l ∧ x.l < (n : Int) then g x.f else 0) co
  | [] => wsum_zero _
  | x :: co => by
    show _ = (if 0 ≤ x.l ∧ x.l < (n : Int) then g x.f else 0) + wsum _ co
    rw [← cm_sum g n co, ← range_one x.l (g x.f) n, ← wsum_add]
    refine wsum_congr (fun k _ => ?_)
    rw [cm_cons, wsum_append]
    by_cases h : x.l = (k : Int)
    · rw [if_pos h, if_pos h]; show g x.f + 0 + _ = _; omega
    · rw [if_neg h, if_neg h]; rfl
theorem lv_range (L : List (List Fi)) : (List.range L.length).map (fun k => L.getD k []) = L := by
  apply List.ext_getElem
  · simp
  · intro i h1 h2
    simp [List.getElem?_eq_getElem h2]
theorem lv_sum (h : List Fi → Nat) (L : List (List Fi)) : wsum h L = wsum (fun k => h (L.getD k [])) (List.range L.length) := by
  rw [← wsum_mapf h (fun k => L.getD k []), lv_range]
theorem nums_sum (L : List (List Fi)) : (nums L).length = wsum (fun k => (L.getD k []).length) (List.range L.length) := by
  rw [← lv_sum]
  unfold nums
  induction L with
  | nil => rfl
  | cons fs r ih => rw [List.flatMap_cons, List.length_append, ih, List.length_map]; rfl
theorem inn_all {n : Nat} {co : List Ad} (h : inn n co = true) : ∀ x ∈ co, 0 ≤ x.l ∧ x.l < (n : Int) := by
  intro x hx
  have := List.all_eq_true.1 h x hx
  unfold fr at this
  simp at this
  omega
theorem ap_nums {L : List (List Fi)} {ps : List Pl} {co : List Ad} (hi : inn L.length co = true) : (nums (ap L ps co)).length = (nums (tk ps L)).length + co.length := by
  rw [nums_sum, nums_sum, ap_len, tk_len]
  have e1 : wsum (fun k => ((ap L ps co).getD k []).length) (List.range L.length) = wsum (fun k => ((tk ps L).getD k []).length + wsum (fun _ => 1) (cm k co)) (List.range L.length) := by
    refine wsum_congr (fun k hk => ?_)
    rw [List.mem_range] at hk
    rw [ap_at hk, tk_at hk, wsum_one, (ms_perm _ _).length_eq, List.length_append]
  rw [e1, wsum_add, cm_sum]
  congr 1
  rw [wsum_congr (g := fun _ => 1) (fun x hx => if_pos (inn_all hi x hx)), wsum_one]
theorem ap_w (L : List (List Fi)) (ps : List Pl) (co : List Ad) : wL (ap L ps co) ≤ wL L + wsum wA co := by
  unfold wL
  rw [lv_sum, lv_sum (fun fs => wsum wF fs + 1) L, ap_len]
  have e1 : wsum (fun k => wsum wF ((ap L ps co).getD k []) + 1) (List.range L.length) ≤ wsum (fun k => (wsum wF (L.getD k []) + 1) + wsum wF (cm k co)) (List.range L.length) := by
    refine wsum_le (fun k hk => ?_)
    rw [List.mem_range] at hk
    rw [ap_at hk, wsum_perm wF (ms_perm _ _), wsum_append]
    have : wsum wF (kp ps k (L.getD k [])) ≤ wsum wF (L.getD k []) := To.wsum_filter _ _ _
    omega
  rw [wsum_add (fun k => wsum wF (L.getD k []) + 1) (fun k => wsum wF (cm k co)), cm_sum] at e1
  have e2 : wsum (fun x : Ad => if 0 ≤ x.l ∧ x.l < (L.length : Int) then wF x.f else 0) co ≤ wsum wA co := wsum_le (fun x _ => by split <;> simp [wA])
  omega
theorem res_w {L : List (List Fi)} {ps : List Pl} {co : List Ad} {M : List (List Fi)} (hM : Res L ps co M) : wL M = wL (ap L ps co) := by
  unfold wL
  rw [lv_sum, lv_sum _ (ap L ps co), ap_len, hM.1]
  refine wsum_congr (fun k hk => ?_)
  rw [List.mem_range] at hk
  show wsum wF _ + 1 = wsum wF _ + 1
  rw [wsum_perm wF ((hM.2 k hk).1.trans ((ap_res L ps co).2 k hk).1.symm)]
end Go.Proofs.Ytkpihibeohjfnaa.Sq

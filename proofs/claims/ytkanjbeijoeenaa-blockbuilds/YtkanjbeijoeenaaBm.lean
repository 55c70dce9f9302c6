/- A block as a function of its entries: what a builder holds behind each of them; which one may come next. -/
import Derived.Test.YtkanjbeijoeenaaBn
import Derived.Test.YtkanjbeijoeenaaOi
namespace Go.Proofs.Ytkanjbeijoeenaa.Bm
open Go.RowKit
open Go.Proofs.Ytkanjbeijoeenaa.By
open Go.Proofs.Ytkanjbeijoeenaa.Bl
open Go.Proofs.Ytkanjbeijoeenaa.Bn
open Go.Proofs.Ytkanjbeijoeenaa.Ik
open Go.Proofs.Ytkanjbeijoeenaa.Cm (ik)
open Go.Proofs.Ytkanjbeijoeenaa.En
open Go.Proofs.Ytkanjbeijoeenaa.Kd (size_true seq_true kind_true)
open Go.Proofs.Ytkanjbeijoeenaa.Mb (E ze)
open Go.Proofs.Ytkanjbeijoeenaa.Oi (wt wts)
set_option linter.unusedVariables false
set_option linter.unusedSimpArgs false

/-- A key's bytes. -/
def kbs (x : E) : List Int := tx x.k ++ lb 8 (x.s * 256 + x.c)
theorem kbs_len (x : E) : (kbs x).length = x.k.size + 8 := by unfold kbs; rw [List.length_append, tx_len, lb_len]
theorem kbs_bytes (x : E) : ∀ y ∈ kbs x, 0 ≤ y ∧ y ≤ 255 := enc_bytes x.k _
/-- What a builder holds of entries. -/
def bst (r : Nat) (xs : List E) : BS := xs.foldl (fun S x => stp S (kbs x) x.v) (b0 r)
theorem bst_snoc (r : Nat) (xs : List E) (x : E) : bst r (xs ++ [x]) = stp (bst r xs) (kbs x) x.v := by unfold bst; rw [List.foldl_append]; rfl
/-- An entry that may be. -/
def may (x : E) : Bool := vld x.k x.s x.c && decide (x.v.size ≤ 65536)
/-- It stands behind the last one. -/
def beh (xs : List E) (x : E) : Bool := match xs.getLast? with
  | none => true
  | some y => decide (cmp y.ik x.ik < 0)
/-- Those of a list that are taken, one behind the other. -/
def tak (xs : List E) (x : E) : List E := if may x && beh xs x then xs ++ [x] else xs
def took (l : List E) : List E := l.foldl tak []
theorem took_snoc (l : List E) (x : E) : took (l ++ [x]) = tak (took l) x := by unfold took; rw [List.foldl_append]; rfl
/-- Entries that may be, each behind the one ahead. -/
def Gd (xs : List E) : Prop := (∀ x ∈ xs, may x = true ∧ 0 ≤ x.s) ∧ xs.Pairwise fun a b => cmp a.ik b.ik < 0
theorem lt_of {a b : IK} (h : cmp a b < 0) : Lt a b := by
  rcases cmp_cases a b with h1 | h1 | h1
  · exact h1.2
  · omega
  · omega
theorem of_lt {a b : IK} (h : Lt a b) : cmp a b < 0 := by
  rcases cmp_cases a b with h1 | h1 | h1
  · omega
  · exact absurd (h1.2 ▸ h) (Lt_irrefl _)
  · exact absurd (Lt_trans h h1.2) (Lt_irrefl _)
theorem Gd.snoc {xs : List E} {x : E} (h : Gd xs) (hm : may x = true) (hs : 0 ≤ x.s) (hb : beh xs x = true) : Gd (xs ++ [x]) := by
  refine ⟨fun y hy => ?_, ?_⟩
  · rcases List.mem_append.1 hy with h1 | h1
    · exact h.1 y h1
    · rw [List.mem_singleton.1 h1]; exact ⟨hm, hs⟩
  · rw [List.pairwise_append]
    refine ⟨h.2, by simp, fun a ha b hb' => ?_⟩
    rw [List.mem_singleton.1 hb']
    unfold beh at hb
    cases hl : xs.getLast? with
    | none => rw [List.getLast?_eq_none_iff] at hl; rw [hl] at ha; simp at ha
    | some y =>
      rw [hl] at hb
      have hy := of_decide_eq_true hb
      obtain ⟨ys, rfl⟩ := List.getLast?_eq_some_iff.1 hl
      rcases List.mem_append.1 ha with h1 | h1
      · have := (List.pairwise_append.1 h.2).2.2 a h1 y (by simp)
        exact of_lt (Lt_trans (lt_of this) (lt_of hy))
      · rw [List.mem_singleton.1 h1]; exact hy
theorem Gd.nil : Gd [] := ⟨by simp, by simp⟩
theorem tak_gd {xs : List E} {x : E} (h : Gd xs) (hs : 0 ≤ x.s) : Gd (tak xs x) := by
  unfold tak
  split
  · rename_i hc
    rw [Bool.and_eq_true] at hc
    exact h.snoc hc.1 hs hc.2
  · exact h
theorem took_gd : ∀ (l : List E), (∀ x ∈ l, 0 ≤ x.s) → Gd (took l) := by
  intro l
  have : ∀ (l xs : List E), Gd xs → (∀ x ∈ l, 0 ≤ x.s) → Gd (l.foldl tak xs) := by
    intro l
    induction l with
    | nil => intro xs h _; exact h
    | cons x l ih => intro xs h hl; exact ih _ (tak_gd h (hl x (by simp))) (fun y hy => hl y (by simp [hy]))
  exact this l [] Gd.nil
/-! ### Sizes -/
theorem bst_cnt (r : Nat) : ∀ xs, (bst r xs).cnt = xs.length ∧ (bst r xs).r = r ∧ (bst r xs).pl.length ≤ xs.length := by
  have : ∀ (xs : List E) (S : BS), (xs.foldl (fun S x => stp S (kbs x) x.v) S).cnt = S.cnt + xs.length ∧ (xs.foldl (fun S x => stp S (kbs x) x.v) S).r = S.r ∧ (xs.foldl (fun S x => stp S (kbs x) x.v) S).pl.length ≤ S.pl.length + xs.length := by
    intro xs
    induction xs with
    | nil => intro S; simp
    | cons x l ih =>
      intro S
      obtain ⟨h1, h2, h3⟩ := ih (stp S (kbs x) x.v)
      simp only [List.foldl_cons, List.length_cons]
      have e : (stp S (kbs x) x.v).cnt = S.cnt + 1 := rfl
      have e2 : (stp S (kbs x) x.v).pl.length ≤ S.pl.length + 1 := by
        show (plS S).length ≤ _
        unfold plS; split <;> simp
      refine ⟨by rw [h1, e]; omega, h2, by omega⟩
  intro xs
  obtain ⟨h1, h2, h3⟩ := this xs (b0 r)
  refine ⟨by unfold bst; rw [h1]; simp [b0], h2, ?_⟩
  have : (b0 r).pl.length = 0 := rfl
  unfold bst; omega
theorem wts_append : ∀ (xs ys : List E), wts (xs ++ ys) = wts xs + wts ys
  | [], ys => by simp [wts]
  | x :: l, ys => by simp [wts, wts_append l ys]; omega
theorem wts_len : ∀ xs : List E, 6 * xs.length ≤ wts xs
  | [] => by simp [wts]
  | x :: l => by have := wts_len l; simp [wts, wt]; omega
theorem eb_len (sh : Nat) (x : E) : (eb sh (kbs x) x.v).length ≤ 8 * wt x := by
  have h1 := Vb.vb_le (sh : Int)
  have h2 := Vb.vb_le (((kbs x).length - sh : Nat) : Int)
  have h3 := Vb.vb_le (x.v.size : Int)
  unfold eb wt
  simp only [List.length_append, List.length_drop, tx_len, kbs_len] at *
  omega
theorem bst_ent (r : Nat) (xs : List E) : (bst r xs).ent.length ≤ 8 * wts xs := by
  have : ∀ (xs : List E) (S : BS), (xs.foldl (fun S x => stp S (kbs x) x.v) S).ent.length ≤ S.ent.length + 8 * wts xs := by
    intro xs
    induction xs with
    | nil => intro S; simp
    | cons x l ih =>
      intro S
      have h := ih (stp S (kbs x) x.v)
      have e : (stp S (kbs x) x.v).ent.length ≤ S.ent.length + 8 * wt x := by
        show (S.ent ++ eb _ _ _).length ≤ _
        have := eb_len (shd S (kbs x)) x
        rw [List.length_append]; omega
      simp only [List.foldl_cons, wts]
      omega
  have := this xs (b0 r)
  have e : (b0 r).ent.length = 0 := rfl
  unfold bst; omega
theorem took_wts (l : List E) : wts (took l) ≤ wts l := by
  have : ∀ (l xs : List E), wts (l.foldl tak xs) ≤ wts xs + wts l := by
    intro l
    induction l with
    | nil => intro xs; simp [wts]
    | cons x l ih =>
      intro xs
      have h := ih (tak xs x)
      have e : wts (tak xs x) ≤ wts xs + wt x := by
        unfold tak; split
        · rw [wts_append]; simp [wts]
        · omega
      simp only [List.foldl_cons, wts]
      omega
  have := this l []
  simpa [took, wts] using this
/-! ### The last key -/
theorem bst_last (r : Nat) (xs : List E) (y : E) (h : xs.getLast? = some y) : (bst r xs).last = kbs y := by
  obtain ⟨ys, rfl⟩ := List.getLast?_eq_some_iff.1 h
  rw [bst_snoc]; rfl
theorem may_vld {x : E} (h : may x = true) : vld x.k x.s x.c = true ∧ x.v.size ≤ 65536 := by
  unfold may at h
  rw [Bool.and_eq_true] at h
  exact ⟨h.1, of_decide_eq_true h.2⟩
theorem beh_is (r : Nat) (xs : List E) (x : E) (h : Gd xs) : ((bst r xs).cnt ≠ 0 → decB (bst r xs).last = true) ∧ bhd (bst r xs) x.k x.s x.c = beh xs x := by
  have hc := (bst_cnt r xs).1
  cases hl : xs.getLast? with
  | none =>
    have := List.getLast?_eq_none_iff.1 hl
    subst this
    refine ⟨fun e => absurd hc (by rw [List.length_nil]; exact e), ?_⟩
    unfold bhd beh
    rw [if_pos (by rw [hc]; rfl), hl]
  | some y =>
    have hy : y ∈ xs := List.mem_of_getLast? hl
    obtain ⟨hv, _⟩ := may_vld (h.1 y hy).1
    obtain ⟨d1, d2, d3, d4⟩ := enc_dec (h.1 y hy).2 hv
    have e := bst_last r xs y hl
    rw [e]
    refine ⟨fun _ => d1, ?_⟩
    unfold bhd beh
    rw [hl, e]
    have hn : ¬ (bst r xs).cnt = 0 := by
      rw [hc]
      intro e0
      have := List.eq_nil_of_length_eq_zero e0
      rw [this] at hy; simp at hy
    rw [if_neg hn, kbs_len]
    show decide (cmp (ik (str ((kbs y).take (y.k.size + 8 - 8))) (dv (kbs y) / 256) (dv (kbs y) % 256)) (ik x.k x.s x.c) < 0) = _
    unfold kbs
    rw [d2, d3, d4]
    rfl
/-! ### A key is never all of what the one ahead begins with -/
theorem not_prefix_lt : ∀ (p q : Tx), ¬ (p ++ q) < p
  | [], q => Ik.not_lt_nil _
  | x :: p, q => by
    rw [List.cons_append, Ik.lt_cons]
    rintro (h | ⟨_, h⟩)
    · exact absurd h (by rw [Ik.u8_lt]; omega)
    · exact not_prefix_lt p q h
theorem map_inj : ∀ (a b : Tx), (a.map fun b => (b.toNat : Int)) = (b.map fun b => (b.toNat : Int)) → a = b
  | [], [], _ => rfl
  | [], _ :: _, h => by simp at h
  | _ :: _, [], h => by simp at h
  | x :: a, y :: b, h => by
    simp only [List.map_cons, List.cons.injEq] at h
    have e : x = y := UInt8.toNat_inj.1 (by have := h.1; omega)
    rw [e, map_inj a b h.2]
theorem tx_inj {a b : ByteArray} (h : tx a = tx b) : a.data.toList = b.data.toList := by
  unfold tx at h
  exact map_inj _ _ h
theorem tx_take (a : ByteArray) (n : Nat) : (tx a).take n = (a.data.toList.take n).map fun b => (b.toNat : Int) := by unfold tx; rw [List.map_take]
theorem pre_none {x y : E} (hx : vld x.k x.s x.c = true) (hy : vld y.k y.s y.c = true) (hxs : 0 ≤ x.s) (hys : 0 ≤ y.s) (hlt : cmp x.ik y.ik < 0) : shr (kbs x) (kbs y) < (kbs y).length := by
  have hle := shr_le (kbs x) (kbs y)
  have htk := shr_take (kbs x) (kbs y)
  by_cases h : shr (kbs x) (kbs y) < (kbs y).length
  · exact h
  · exfalso
    have e : shr (kbs x) (kbs y) = (kbs y).length := by omega
    rw [e] at htk hle
    rw [List.take_length] at htk
    have hl := hle.1
    rw [kbs_len, kbs_len] at hl
    have hk : y.k.size ≤ x.k.size := by omega
    have h1 : (tx x.k).take y.k.size = tx y.k := by
      have := congrArg (List.take y.k.size) htk
      rw [List.take_take, Nat.min_eq_left (by rw [kbs_len]; omega)] at this
      unfold kbs at this
      rw [List.take_append_of_le_length (by rw [tx_len]; exact hk), List.take_append_of_le_length (by rw [tx_len]; exact Nat.le_refl _), List.take_of_length_le (l := tx y.k) (by rw [tx_len]; exact Nat.le_refl _)] at this
      exact this
    have h2 : x.k.data.toList.take y.k.size = y.k.data.toList := by
      rw [tx_take] at h1
      unfold tx at h1
      exact map_inj _ _ h1
    have hL := lt_of hlt
    rcases hL with h3 | ⟨h3, h4⟩
    · have : x.k.data.toList = y.k.data.toList ++ x.k.data.toList.drop y.k.size := by rw [← h2, List.take_append_drop]
      have h5 : x.k.data.toList < y.k.data.toList := h3
      rw [this] at h5
      exact not_prefix_lt _ _ h5
    · have h5 : x.k.data.toList = y.k.data.toList := h3
      have hxy : x.k.size = y.k.size := by
        have := congrArg List.length h5
        simpa using this
      have e2 : kbs x = kbs y := by
        rw [← htk, List.take_of_length_le (by rw [kbs_len, kbs_len]; omega)]
      have e3 : dv (kbs x) = dv (kbs y) := by rw [e2]
      obtain ⟨_, _, a3, a4⟩ := enc_dec hxs hx
      obtain ⟨_, _, b3, b4⟩ := enc_dec hys hy
      have e4 : x.s = y.s := by rw [← a3, ← b3]; show dv (kbs x) / 256 = dv (kbs y) / 256; rw [e3]
      have e5 : x.c = y.c := by rw [← a4, ← b4]; show dv (kbs x) % 256 = dv (kbs y) % 256; rw [e3]
      have h6 : y.s < x.s ∨ x.s = y.s ∧ y.c < x.c := h4
      omega
theorem shd_lt (r : Nat) (xs : List E) (x : E) (h : Gd xs) (hm : may x = true) (hs : 0 ≤ x.s) (hb : beh xs x = true) : shd (bst r xs) (kbs x) < x.k.size + 8 := by
  unfold shd
  split
  · omega
  · rename_i hc
    cases hl : xs.getLast? with
    | none =>
      have := List.getLast?_eq_none_iff.1 hl
      subst this
      have : (bst r []).cnt = 0 := rfl
      rw [this, Nat.zero_mod] at hc
      exact absurd rfl hc
    | some y =>
      have hy := List.mem_of_getLast? hl
      rw [bst_last r xs y hl]
      unfold beh at hb
      rw [hl] at hb
      have := pre_none (may_vld (h.1 y hy).1).1 (may_vld hm).1 (h.1 y hy).2 hs (of_decide_eq_true hb)
      rwa [kbs_len] at this
end Go.Proofs.Ytkanjbeijoeenaa.Bm

/- The law's merged: a merged cursor over lists, what was lent spoilt. -/
import Derived.Test.YtgjodfaliajlgaaMh
import Derived.Test.YtgjodfaliajlgaaMc
namespace Go.Proofs.Ytgjodfaliajlgaa.Mb
open Go.ChangeShapes Go.WideShapes Go.ChangeAt Go.RowKit
open Go.Sort (grow)
open Go.Proofs.Ytgjodfaliajlgaa.Gr hiding hid addr_add
open Go.Proofs.Ytgjodfaliajlgaa.Ac
open Go.Proofs.Ytgjodfaliajlgaa.Ik
open Go.Proofs.Ytgjodfaliajlgaa.Ee
open Go.Proofs.Ytgjodfaliajlgaa.Sb
open Go.Proofs.Ytgjodfaliajlgaa.Ew
open Go.Proofs.Ytgjodfaliajlgaa.Sd hiding below_grown
open Go.Proofs.Ytgjodfaliajlgaa.Ml
open Go.Proofs.Ytgjodfaliajlgaa.Mc
open Go.Proofs.Ytgjodfaliajlgaa.Mi
open Go.Proofs.Ytgjodfaliajlgaa.Hp
open Go.Proofs.Ytgjodfaliajlgaa.Hm hiding hv st5
open Go.Proofs.Ytgjodfaliajlgaa.Lm9
open Go.Proofs.Ytgjodfaliajlgaa.Gc9
open Go.Proofs.Ytgjodfaliajlgaa.Gb9
open Go.Proofs.Ytgjodfaliajlgaa.Pm
open Go.Proofs.Ytgjodfaliajlgaa.Mt
set_option linter.unusedVariables false
set_option linter.unusedSimpArgs false

theorem eown_row {w : World} {base : Nat} {a : Option Addr} {n c : Nat} {xs : List E} (h : eE.Own w base (.slice a n c) xs) (hn : 0 < n) : ∃ g, a = some ⟨g, 0, none⟩ ∧ base ≤ g ∧ ERow w g c xs := by
  rcases h.2 with ⟨e, h0⟩ | ⟨g, cap, cur, e, hb, hg, hle, hm, hs, ht⟩
  · injection e with e1 e2 e3; omega
  · injection e with e1 e2 e3
    subst e1 e3
    refine ⟨g, rfl, hb, cur, hg, hs, by omega, fun i hi => ?_⟩
    have hc := fun j (hj : j < 4) => eE.cl_get xs i hi j hj
    have hq : ∀ j, j < 4 → cur[i * 4 + j]? = (eE.cs (xs.getD i eE.z))[j]? := fun j hj => by
      rw [← hc j hj, ← ht, List.getElem?_take, if_pos (by show i * 4 + j < xs.length * 4; omega)]
      simp; rfl
    refine ⟨?_, ?_, ?_, ?_⟩
    · have := hq 0 (by omega); simpa [eE] using this
    · have := hq 1 (by omega); simpa [eE] using this
    · have := hq 2 (by omega); simpa [eE] using this
    · have := hq 3 (by omega); simpa [eE] using this
theorem getD_snoc {α : Type} {l : List α} {x z : α} {i : Nat} : (l ++ [x]).getD i z = if i < l.length then l.getD i z else if i = l.length then x else z := by
  rw [List.getD_eq_getElem?_getD, List.getElem?_append]
  by_cases h : i < l.length
  · rw [if_pos h, if_pos h, List.getD_eq_getElem?_getD]
  · rw [if_neg h, if_neg h]
    by_cases h2 : i = l.length
    · rw [if_pos h2]; subst h2; simp
    · rw [if_neg h2, List.getElem?_eq_none (by simp; omega)]; rfl
/-- The first i lists have become sources. -/
structure L1 (w1 wr : World) (gs : List Lf) (i : Nat) (sv : Value) (S : List Src) : Prop where
  acc : Acc eS w1 wr sv S
  len : S.length = i
  own : Own wr S (fun _ => -1)
  src : ∀ f, f < i → (S.getD f zs).nil = false ∧ (S.getD f zs).ys = srtE (gs.getD f zl).xs ∧ (S.getD f zs).n = (gs.getD f zl).n
  lo : ∀ f, f < i → w1.heap.size ≤ (S.getD f zs).g ∧ w1.heap.size ≤ (S.getD f zs).ga
  sep : ∀ f j, f < i → sv.ownBlock = some j → j ≠ (S.getD f zs).g ∧ j ≠ (S.getD f zs).ga
theorem L1.start (w1 : World) (gs : List Lf) : L1 w1 w1 gs 0 (.slice none 0 0) [] :=
  ⟨Acc.nil eS w1, rfl, ⟨fun f hf => (by cases hf), fun f h hf => (by cases hf), fun f hf => (by cases hf)⟩, fun f hf => (by omega), fun f hf => (by omega), fun f j hf => (by omega)⟩
theorem L1.push {w1 wr : World} {gs : List Lf} {i : Nat} {sv : Value} {S : List Src} (h : L1 w1 wr gs i sv S) {w2 : World} {g ga n : Nat} (b : Below wr.heap.size wr w2) (hg : wr.heap.size ≤ g) (hga : wr.heap.size ≤ ga) (hL : Lc w2 g ga n (-1) (srtE (gs.getD i zl).xs)) (hn : n = (gs.getD i zl).n) (hi : i ≤ 1048576) (hn8 : n ≤ 1048576) :
    ∃ v' W', (Builtin.append_ #[56, 56] 56 #[sv, .slice (some ⟨w2.heap.size, 0, none⟩) 1 1]).run Try.prog (w2.alloc (.cells #[.iface 40 (.pointer (some ⟨g, 0, none⟩))] 75)) = .ok v' W' ∧ L1 w1 W' gs (i + 1) v' (S ++ [⟨false, g, ga, n, srtE (gs.getD i zl).xs⟩]) := by
  have A2 := h.acc.later b
  obtain ⟨v', W', r, o, q, s⟩ := El.app1 eS w2 w1.heap.size sv S (⟨false, g, ga, n, srtE (gs.getD i zl).xs⟩ : Src) #[.iface 40 (.pointer (some ⟨g, 0, none⟩))] rfl A2.o (by show _ * 16 ≤ _; rw [h.len]; omega) (by rw [h.len]; omega) A2.sz
  have hlen := h.len
  have hsz1 := h.acc.sz
  have hsz2 := b.size
  have hget : ∀ f, f < i + 1 → (S ++ [(⟨false, g, ga, n, srtE (gs.getD i zl).xs⟩ : Src)]).getD f zs = if f < i then S.getD f zs else ⟨false, g, ga, n, srtE (gs.getD i zl).xs⟩ := fun f hf => by
    rw [getD_snoc, hlen]
    by_cases e : f < i
    · rw [if_pos e, if_pos e]
    · rw [if_neg e, if_neg e, if_pos (by omega)]
  have hblk : ∀ j, j < w2.heap.size → sv.ownBlock ≠ some j → W'.heap[j]? = w2.heap[j]? := fun j hj hne => q.block j hj (fun e => hne e.symm)
  have hold : ∀ f, f < i → Lc W' (S.getD f zs).g (S.getD f zs).ga (S.getD f zs).n (-1) (S.getD f zs).ys := fun f hf => by
    have k := (h.own.l f (by omega) (h.src f hf).1).later b
    have h1 := fun e => (h.sep f (S.getD f zs).g hf e).1 rfl
    have h2 := fun e => (h.sep f (S.getD f zs).ga hf e).2 rfl
    exact ⟨(hblk _ k.b.lt h1).trans k.b, k.r.block (hblk _ k.r.lt h2), k.ne, k.n, k.ok⟩
  have hown : ∀ j, sv.ownBlock = some j → j < wr.heap.size := fun j e => (own_lt h.acc.o j e).2
  have hnew : Lc W' g ga n (-1) (srtE (gs.getD i zl).xs) := by
    have h1 : sv.ownBlock ≠ some g := fun e => by have := hown g e; omega
    have h2 : sv.ownBlock ≠ some ga := fun e => by have := hown ga e; omega
    exact ⟨(hblk _ hL.b.lt h1).trans hL.b, hL.r.block (hblk _ hL.r.lt h2), hL.ne, hL.n, hL.ok⟩
  refine ⟨v', W', r, ⟨o, below_grown A2.lo A2.sz q (fun j hj => (own_lt A2.o j hj).1)⟩, by rw [List.length_append, hlen]; rfl, ⟨?_, ?_, ?_⟩, ?_, ?_, ?_⟩
  · intro f hf hnil
    rw [List.length_append, hlen] at hf
    rw [hget f hf] at hnil ⊢
    by_cases e : f < i
    · rw [if_pos e]; exact hold f e
    · rw [if_neg e]; exact hnew
  · intro f k hf hk hf0 hk0
    rw [List.length_append, hlen] at hf hk
    rw [hget f hf] at hf0 ⊢
    rw [hget k hk] at hk0 ⊢
    by_cases e : f < i
    · rw [if_pos e] at hf0 ⊢
      have lf := (h.own.l f (by omega) hf0)
      by_cases e2 : k < i
      · rw [if_pos e2] at hk0 ⊢
        exact h.own.sep f k (by omega) (by omega) hf0 hk0
      · rw [if_neg e2]
        have := lf.b.lt
        exact ⟨fun _ => by show _ ≠ g; omega, by show _ ≠ ga; omega⟩
    · rw [if_neg e]
      by_cases e2 : k < i
      · rw [if_pos e2] at hk0 ⊢
        have lk := (h.own.l k (by omega) hk0)
        have := lk.b.lt
        have := lk.r.lt
        exact ⟨fun _ => by show g ≠ _; omega, by show g ≠ _; omega⟩
      · rw [if_neg e2]
        exact ⟨fun h => absurd (show f = k by have h1 : f < i + 1 := hf; have h2 : k < i + 1 := hk; omega) h, fun e => hL.ne e.symm⟩
  · intro f hf hnil
    rw [List.length_append, hlen] at hf
    rw [hget f hf] at hnil ⊢
    by_cases e : f < i
    · rw [if_pos e] at hnil ⊢; exact h.own.lo f (by omega) hnil
    · rw [if_neg e]; exact ⟨by omega, by show (-1 : Int) ≤ ((n : Nat) : Int); omega, by show n ≤ _; omega⟩
  · intro f hf
    rw [hget f hf]
    by_cases e : f < i
    · rw [if_pos e]; exact h.src f e
    · rw [if_neg e]
      have : f = i := by omega
      subst this
      exact ⟨rfl, rfl, hn⟩
  · intro f hf
    rw [hget f hf]
    by_cases e : f < i
    · rw [if_pos e]; exact h.lo f e
    · rw [if_neg e]; exact ⟨by show _ ≤ g; omega, by show _ ≤ ga; omega⟩
  · intro f j hf hj
    rw [hget f hf]
    rcases s j hj with e0 | e0
    · by_cases e : f < i
      · rw [if_pos e]; exact h.sep f j e e0
      · rw [if_neg e]; have := hown j e0; exact ⟨by show j ≠ g; omega, by show j ≠ ga; omega⟩
    · by_cases e : f < i
      · rw [if_pos e]
        have k := h.own.l f (by omega) (h.src f e).1
        have := k.b.lt
        have := k.r.lt
        exact ⟨by omega, by omega⟩
      · rw [if_neg e]
        have := hL.b.lt
        have := hL.r.lt
        exact ⟨by show j ≠ g; omega, by show j ≠ ga; omega⟩
/-- Lent lists, while they are spoilt. -/
structure SpR (lo hi : Nat) (ia : Option Addr) (n : Nat) (gs : List Lf) (W : World) : Prop where
  h : ∀ i, i < n → ∃ b o, ia = some ⟨b, o, none⟩ ∧ W.cell? ⟨b, o + i, none⟩ = some (.slice (gs.getD i zl).a (gs.getD i zl).n (gs.getD i zl).c) ∧ ∀ f g, f < n → (gs.getD f zl).a = some ⟨g, 0, none⟩ → g ≠ b
  r : ∀ f, f < n → 0 < (gs.getD f zl).n → ∃ g ys, (gs.getD f zl).a = some ⟨g, 0, none⟩ ∧ lo ≤ g ∧ g < hi ∧ ERow W g (gs.getD f zl).c ys ∧ ys.length = (gs.getD f zl).n
  d : ∀ f k g g', f < n → k < n → f ≠ k → (gs.getD f zl).a = some ⟨g, 0, none⟩ → (gs.getD k zl).a = some ⟨g', 0, none⟩ → g ≠ g'
theorem SpR.set {lo hi : Nat} {ia : Option Addr} {n : Nat} {gs : List Lf} {W : World} (H : SpR lo hi ia n gs W) {f g k : Nat} {ys : List E} (hf : f < n) (ha : (gs.getD f zl).a = some ⟨g, 0, none⟩) (hR : ERow W g (gs.getD f zl).c ys) (hy : ys.length = (gs.getD f zl).n) (hk : k < (gs.getD f zl).n) (x : E) : SpR lo hi ia n gs (st4 W g (k * 4) x) := by
  have F := st4_fp (V := W) (k * 4) x (Fp.refl (· = g) W)
  refine ⟨fun i hi => ?_, fun f' hf' hn' => ?_, H.d⟩
  · obtain ⟨b, o, h1, h2, h3⟩ := H.h i hi
    exact ⟨b, o, h1, (World.cell?_of_block (a := ⟨b, o + i, none⟩) (F.block b (block_lt_of_cell h2) (fun e => h3 f g hf ha e.symm))).trans h2, h3⟩
  · obtain ⟨g', ys', a1, a2, a3, a4, a5⟩ := H.r f' hf' hn'
    by_cases e : f' = f
    · subst e
      rw [ha] at a1
      injection a1 with a1; injection a1 with a1
      subst a1
      exact ⟨g, ys.set k x, ha, a2, a3, hR.set k x (by omega), by rw [List.length_set]; exact hy⟩
    · exact ⟨g', ys', a1, a2, a3, a4.block (F.block g' a4.lt (fun e2 => H.d f' f g' g hf' hf e a1 ha e2)), a5⟩
theorem SpR.of {w w1 W : World} {ia : Option Addr} {n ic : Nat} {gs : List Lf} (h : Lsw w w1 (.slice ia n ic) gs) (hn : gs.length = n) (b : Below w1.heap.size w1 W) : SpR w.heap.size w1.heap.size ia n gs W := by
  obtain ⟨a, c, e, LG⟩ := h.lsts
  injection e with e1 e2 e3
  subst e1 e3
  rw [hn] at LG
  refine ⟨fun i hi => ?_, fun f hf hfn => ?_, fun f k g g' hf hk hne ha ha' => ?_⟩
  · obtain ⟨bb, o, h1, h2, h3⟩ := (LG.later b).at_ i hi
    subst h1
    refine ⟨bb, o, rfl, h2, fun f g hf ha e => ?_⟩
    have hm : gs.getD f zl ∈ gs := get_mem zl (by omega)
    have := h.ne _ hm g (by unfold Lf.v; rw [ha]; rfl)
    rw [e] at this
    exact this rfl
  · have hm : gs.getD f zl ∈ gs := get_mem zl (by omega)
    have he := h.e _ hm
    unfold Lf.v at he
    obtain ⟨g, ha, hb, hR⟩ := eown_row he hfn
    exact ⟨g, _, ha, hb, hR.lt, hR.later b, ((h.ok _ hm).1).symm⟩
  · intro e
    have hv : ∀ (f g : Nat), (gs.getD f zl).a = some ⟨g, 0, none⟩ → (gs.getD f zl).v.ownBlock = some g := fun f g ha => by unfold Lf.v; rw [ha]; rfl
    have hp := List.pairwise_iff_getElem.1 h.un
    rcases Nat.lt_or_gt_of_ne hne with e1 | e1
    · have := hp f k (by omega) (by omega) e1 g (by rw [← getD_get zl (by omega)]; exact hv f g ha)
      rw [← getD_get zl (by omega), hv k g' ha', e] at this
      exact this rfl
    · have := hp k f (by omega) (by omega) e1 g' (by rw [← getD_get zl (by omega)]; exact hv k g' ha')
      rw [← getD_get zl (by omega), hv f g ha, e] at this
      exact this rfl
end Go.Proofs.Ytgjodfaliajlgaa.Mb

/- How a block's bytes are read again: places and entries in their order. -/
import Derived.Test.YtkanjbeijoeenaaBu
namespace Go.Proofs.Ytkanjbeijoeenaa.Rl
open Go.RowKit
open Go.Proofs.Ytkanjbeijoeenaa.By
open Go.Proofs.Ytkanjbeijoeenaa.Bl
open Go.Proofs.Ytkanjbeijoeenaa.Bn
open Go.Proofs.Ytkanjbeijoeenaa.Bm
open Go.Proofs.Ytkanjbeijoeenaa.Bb
open Go.Proofs.Ytkanjbeijoeenaa.Mb (E ze)
set_option linter.unusedVariables false
set_option linter.unusedSimpArgs false

/-- The places' bytes. -/
def plb (l : List Nat) : List Int := l.flatMap fun n : Nat => lb 4 (n : Int)
theorem plb_append (a b : List Nat) : plb (a ++ b) = plb a ++ plb b := by unfold plb; rw [List.flatMap_append]
theorem plb_cons (n : Nat) (l : List Nat) : plb (n :: l) = lb 4 (n : Int) ++ plb l := by unfold plb; rw [List.flatMap_cons]
theorem plb_len (l : List Nat) : (plb l).length = 4 * l.length := flat_len l
/-- What the entries behind a state are. -/
theorem bst_app (r : Nat) (xs : List E) (x : E) (ys : List E) : bst r (xs ++ x :: ys) = (ys.foldl (fun S x => stp S (kbs x) x.v) (stp (bst r xs) (kbs x) x.v)) := by
  unfold bst; rw [List.foldl_append, List.foldl_cons]
theorem fold_ent : ∀ (ys : List E) (S : BS), ∃ rest pls, (ys.foldl (fun S x => stp S (kbs x) x.v) S).ent = S.ent ++ rest ∧ (ys.foldl (fun S x => stp S (kbs x) x.v) S).pl = S.pl ++ pls
  | [], S => ⟨[], [], by simp, by simp⟩
  | y :: ys, S => by
    obtain ⟨rest, pls, h1, h2⟩ := fold_ent ys (stp S (kbs y) y.v)
    simp only [List.foldl_cons]
    have e1 : (stp S (kbs y) y.v).ent = S.ent ++ eb (shd S (kbs y)) (kbs y) y.v := rfl
    have e2 : (stp S (kbs y) y.v).pl = plS S := rfl
    have e3 : ∃ q, plS S = S.pl ++ q := by
      unfold plS; split
      · exact ⟨_, rfl⟩
      · exact ⟨[], by simp⟩
    obtain ⟨q, hq⟩ := e3
    exact ⟨_, q ++ pls, by rw [h1, e1, List.append_assoc], by rw [h2, e2, hq, List.append_assoc]⟩
/-- Of places that come later none is below where the entries stand. -/
theorem fold_pl : ∀ (ys : List E) (S : BS) (pls : List Nat), (ys.foldl (fun S x => stp S (kbs x) x.v) S).pl = S.pl ++ pls → ∀ p ∈ pls, S.ent.length ≤ p
  | [], S, pls, h, p, hp => by
    simp at h; subst h; simp at hp
  | y :: ys, S, pls, h, p, hp => by
    simp only [List.foldl_cons] at h
    obtain ⟨rest, q, h1, h2⟩ := fold_ent ys (stp S (kbs y) y.v)
    have ih := fold_pl ys (stp S (kbs y) y.v) q h2
    have e1 : (stp S (kbs y) y.v).ent.length = S.ent.length + (eb (shd S (kbs y)) (kbs y) y.v).length := by
      show (S.ent ++ _).length = _; rw [List.length_append]
    have e2 : (stp S (kbs y) y.v).pl = plS S := rfl
    rw [h2, e2] at h
    unfold plS at h
    split at h
    · rw [List.append_assoc] at h
      have := List.append_cancel_left h
      rw [← this] at hp
      rcases List.mem_cons.1 hp with h3 | h3
      · omega
      · have := ih p h3; omega
    · have := List.append_cancel_left h
      rw [← this] at hp
      have := ih p hp; omega
theorem eb_pos (sh : Nat) (kz : List Int) (v : ByteArray) : 1 ≤ (eb sh kz v).length := by
  have := Vb.vb_pos (sh : Int)
  unfold eb
  simp only [List.length_append]
  omega
/-- The bytes behind the first ones: the next entry's, and what its place is. -/
theorem step_at (r : Nat) (hr : 1 ≤ r) (xs : List E) (x : E) (ys : List E) (pls : List Nat) (hpl : (bst r (xs ++ x :: ys)).pl = (bst r xs).pl ++ pls) :
    ∃ rest, (bst r (xs ++ x :: ys)).ent = (bst r xs).ent ++ (eb (shd (bst r xs) (kbs x)) (kbs x) x.v ++ rest) ∧ (bst r (xs ++ [x])).ent.length = (bst r xs).ent.length + (eb (shd (bst r xs) (kbs x)) (kbs x) x.v).length ∧
      (((bst r xs).cnt % r = 0 ∧ ∃ q, pls = (bst r xs).ent.length :: q ∧ (bst r (xs ++ x :: ys)).pl = (bst r (xs ++ [x])).pl ++ q) ∨ ((bst r xs).cnt % r ≠ 0 ∧ (∀ p ∈ pls, (bst r xs).ent.length < p) ∧ (bst r (xs ++ x :: ys)).pl = (bst r (xs ++ [x])).pl ++ pls)) := by
  have hrr := (bst_cnt r xs).2.1
  rw [bst_app] at hpl ⊢
  obtain ⟨rest, q, h1, h2⟩ := fold_ent ys (stp (bst r xs) (kbs x) x.v)
  have h3 := fold_pl ys (stp (bst r xs) (kbs x) x.v) q h2
  have e1 : (stp (bst r xs) (kbs x) x.v).ent = (bst r xs).ent ++ eb (shd (bst r xs) (kbs x)) (kbs x) x.v := rfl
  have e2 : (stp (bst r xs) (kbs x) x.v).pl = plS (bst r xs) := rfl
  refine ⟨rest, by rw [h1, e1, List.append_assoc], by rw [bst_snoc, e1, List.length_append], ?_⟩
  rw [bst_snoc]
  rw [h2, e2] at hpl
  by_cases hc : (bst r xs).cnt % r = 0
  · refine .inl ⟨hc, q, ?_, h2⟩
    have e3 : plS (bst r xs) = (bst r xs).pl ++ [(bst r xs).ent.length] := by unfold plS; rw [hrr, if_pos hc]
    rw [e3, List.append_assoc] at hpl
    exact (List.append_cancel_left hpl).symm
  · have e3 : plS (bst r xs) = (bst r xs).pl := by unfold plS; rw [hrr, if_neg hc]
    rw [e3] at hpl
    have hq := List.append_cancel_left hpl
    subst hq
    refine .inr ⟨hc, fun p hp => ?_, h2⟩
    have := h3 p hp
    rw [e1, List.length_append] at this
    have := eb_pos (shd (bst r xs) (kbs x)) (kbs x) x.v
    omega
theorem le_lb4 (n : Nat) (h : n < 4294967296) : Fx.le (lb 4 (n : Int)) = (n : Int) := En.le_lb 4 (n : Int) (by omega) (by rw [Fx.p256_4]; omega)
theorem fread_head (n : Nat) (l : List Int) (h : n < 4294967296) : Fx.fread (lb 4 (n : Int) ++ l) 0 4 = ((n : Int), 4, 0) := by
  unfold Fx.fread
  rw [if_neg (by simp; omega), if_neg (by rw [List.length_append, lb_len]; omega)]
  have e : ((lb 4 (n : Int) ++ l).drop (0 : Int).toNat).take 4 = lb 4 (n : Int) := by
    show ((lb 4 (n : Int) ++ l).drop 0).take 4 = _
    rw [List.drop_zero, List.take_left' (lb_len 4 _)]
  rw [e, le_lb4 n h]
  rfl
theorem fread_none : (Fx.fread [] 0 4).2.2 ≠ 0 := by decide
end Go.Proofs.Ytkanjbeijoeenaa.Rl

/- MergeEach, walked. -/
import Derived.Test.YtgjodfaliajlgaaEq
namespace Go.Proofs.Ytgjodfaliajlgaa.Ec
open Go.ChangeShapes Go.WideShapes Go.ChangeAt Go.RowKit
open Go.Sort (grow)
open Go.Proofs.Ytgjodfaliajlgaa.Gr hiding hid addr_add
open Go.Proofs.Ytgjodfaliajlgaa.Ac
open Go.Proofs.Ytgjodfaliajlgaa.Ik
open Go.Proofs.Ytgjodfaliajlgaa.Ee
open Go.Proofs.Ytgjodfaliajlgaa.Cm (ik)
open Go.Proofs.Ytgjodfaliajlgaa.Sd hiding below_grown
open Go.Proofs.Ytgjodfaliajlgaa.Ml
open Go.Proofs.Ytgjodfaliajlgaa.Mi
open Go.Proofs.Ytgjodfaliajlgaa.Hp
open Go.Proofs.Ytgjodfaliajlgaa.Ls9 (Lb c4 hr hv hb)
open Go.Proofs.Ytgjodfaliajlgaa.Gc9
open Go.Proofs.Ytgjodfaliajlgaa.Pm
open Go.Proofs.Ytgjodfaliajlgaa.Mt
open Go.Proofs.Ytgjodfaliajlgaa.My (pos tgt)
open Go.Proofs.Ytgjodfaliajlgaa.Mx (merged_any)
open Go.Proofs.Ytgjodfaliajlgaa.Mq
open Go.Proofs.Ytgjodfaliajlgaa.Eq
set_option linter.unusedVariables false
set_option linter.unusedSimpArgs false

theorem hb_of {T : Nat} (j : Nat) : hb T (j : Int) = decide (j < T) := by
  unfold hb
  rw [decide_eq_true (show (0 : Int) ≤ (j : Int) by omega), Bool.true_and]
  by_cases h : j < T
  · rw [decide_eq_true h, decide_eq_true (show (j : Int) < (T : Int) by omega)]
  · rw [decide_eq_false h, decide_eq_false (show ¬ (j : Int) < (T : Int) by omega)]
theorem cl_app : ∀ (a b : List E), eE.cl (a ++ b) = eE.cl a ++ eE.cl b
  | [], b => rfl
  | x :: a, b => by show eE.cs x ++ eE.cl (a ++ b) = (eE.cs x ++ eE.cl a) ++ eE.cl b; rw [cl_app a b, List.append_assoc]
/-- What the first loop holds: told has the first j of M. -/
structure Tld (wr : World) (b1 : Nat) (gm gs n cs : Nat) (S : List Src) (L : List It) (X0 : Nat → Prop) (M : List E) (v : Value) (j : Nat) (p : Int) : Prop where
  o : eE.Own wr b1 v (M.take j)
  m : ∃ X, (∀ b, X0 b → X b) ∧ (∀ b, v.ownBlock = some b → X b) ∧ Mp wr gm gs n cs S L X p
theorem Tld.later {wr w' : World} {b1 gm gs n cs : Nat} {S : List Src} {L : List It} {X0 : Nat → Prop} {M : List E} {v : Value} {j : Nat} {p : Int} (h : Tld wr b1 gm gs n cs S L X0 M v j p) (b : Below wr.heap.size wr w') : Tld w' b1 gm gs n cs S L X0 M v j p := by
  obtain ⟨X, h1, h2, h3⟩ := h.m
  exact ⟨h.o.later b, X, h1, h2, h3.later b⟩
/-- One more is told. -/
theorem Tld.push {wr : World} {b1 gm gs n cs : Nat} {S : List Src} {L : List It} {X0 : Nat → Prop} {M : List E} {v : Value} {j : Nat} {p : Int} (h : Tld wr b1 gm gs n cs S L X0 M v j p) (hj : j < M.length) (hM : M.length ≤ 1048576) (hb1 : b1 ≤ wr.heap.size) (hX0 : ∀ b, b1 ≤ b → ¬ X0 b) (cs' : Array Value) (hcs : cs' = (eE.cs (M.getD j ze)).toArray) :
    ∃ a' c' W', (Builtin.append_ #[39, 39] 39 #[v, .slice (some ⟨wr.heap.size, 0, none⟩) 1 1]).run Try.prog (wr.alloc (.cells cs' 43)) = .ok (.slice a' (j + 1) c') W' ∧ Tld W' b1 gm gs n cs S L X0 M (.slice a' (j + 1) c') (j + 1) p ∧ Fp (fun b => ¬ X0 b) wr W' := by
  have hl : (M.take j).length = j := by rw [List.length_take]; omega
  obtain ⟨v', W', r, o, q, s⟩ := El.app1 eE wr b1 v (M.take j) (M.getD j ze) cs' hcs h.o (by show _ * 48 ≤ _; omega) (by omega) hb1
  have ht : M.take j ++ [M.getD j ze] = M.take (j + 1) := by rw [List.take_add_one, List.getElem?_eq_getElem hj, getD_get ze hj]; rfl
  rw [ht] at o
  have hl1 : (M.take (j + 1)).length = j + 1 := by rw [List.length_take]; omega
  obtain ⟨a', c', e⟩ := row_block o
  rw [hl1] at e
  subst e
  obtain ⟨X, x1, x2, x3⟩ := h.m
  have hF : Fp (fun b => v.ownBlock = some b) wr W' := (Fp.refl (fun b => v.ownBlock = some b) wr).grown q (fun b hb => .inl hb)
  refine ⟨a', c', W', r, ⟨o, _, fun b hb => .inl (x1 b hb), fun b hb => ?_, Mp_wide x3 hF x2⟩, hF.wide (fun b _ hb => hX0 b (own_lt h.o b hb).1)⟩
  rcases s b hb with e | e
  · exact .inl (x2 b e)
  · exact .inr ⟨e, (own_lt o b hb).2⟩
/-- The cursor is moved. -/
theorem Tld.move {wr : World} {b1 gm gs n cs : Nat} {S : List Src} {L : List It} {X0 : Nat → Prop} {M : List E} {v : Value} {j : Nat} {p : Int} (h : Tld wr b1 gm gs n cs S L X0 M v j p) {f : Nat} {q : Int} (hq : ∀ X, Mp wr gm gs n cs S L X p → Calls Try.prog f #[.pointer (some ⟨gm, 0, none⟩)] wr fun e w' => e = .returned (.bool (hb L.length q)) ∧ Mp w' gm gs n cs S L X q ∧ Fp (fun b => ¬ X b) wr w') :
    Calls Try.prog f #[.pointer (some ⟨gm, 0, none⟩)] wr fun e w' => e = .returned (.bool (hb L.length q)) ∧ Tld w' b1 gm gs n cs S L X0 M v j q ∧ Fp (fun b => ¬ X0 b) wr w' := by
  obtain ⟨X, x1, x2, x3⟩ := h.m
  refine (hq X x3).mono ?_
  rintro e w' ⟨e1, m, f⟩
  refine ⟨e1, ⟨own_blocks h.o (fun b hb => f.block b (own_lt h.o b hb).2 (fun hn => hn (x2 b hb))), X, x1, x2, m⟩, f.wide (fun b _ hb h0 => hb (x1 b h0))⟩
theorem Tld.next {wr : World} {b1 gm gs n cs : Nat} {S : List Src} {L : List It} {X0 : Nat → Prop} {M : List E} {v : Value} {j : Nat} {p : Int} (h : Tld wr b1 gm gs n cs S L X0 M v j p) : Calls Try.prog 31 #[.pointer (some ⟨gm, 0, none⟩)] wr fun e w' => e = .returned (.bool (hb L.length (tgt L.length false p))) ∧ Tld w' b1 gm gs n cs S L X0 M v j (tgt L.length false p) ∧ Fp (fun b => ¬ X0 b) wr w' := h.move (fun X m => next_p m)
theorem Tld.prev {wr : World} {b1 gm gs n cs : Nat} {S : List Src} {L : List It} {X0 : Nat → Prop} {M : List E} {v : Value} {j : Nat} {p : Int} (h : Tld wr b1 gm gs n cs S L X0 M v j p) : Calls Try.prog 34 #[.pointer (some ⟨gm, 0, none⟩)] wr fun e w' => e = .returned (.bool (hb L.length (tgt L.length true p))) ∧ Tld w' b1 gm gs n cs S L X0 M v j (tgt L.length true p) ∧ Fp (fun b => ¬ X0 b) wr w' := h.move (fun X m => prev_p m)
theorem Tld.sl {wr : World} {b1 gm gs n cs : Nat} {S : List Src} {L : List It} {X0 : Nat → Prop} {M : List E} {a : Option Addr} {c : Nat} {j : Nat} {p : Int} (h : Tld wr b1 gm gs n cs S L X0 M (.slice a j c) j p) (hM : ∀ x ∈ M, x.ok) (hj : j ≤ M.length) : eE.Sl wr a j c (M.take j) := by
  obtain ⟨a2, c2, e2, s, _⟩ := h.o.sl (fun x hx => hM x (List.mem_of_mem_take hx))
  have hl : (M.take j).length = j := by rw [List.length_take]; omega
  injection e2 with e3 e4 e5
  subst e3 e5
  rw [hl] at s
  exact s
theorem Tld.here {wr : World} {b1 gm gs n cs : Nat} {S : List Src} {L : List It} {X0 : Nat → Prop} {M : List E} {v : Value} {j i : Nat} {p : Int} (h : Tld wr b1 gm gs n cs S L X0 M v j p) (hi : i < L.length) (hp : p = (i : Int)) (x : E) (hx : x = (L.getD i zi).e) :
    Calls Try.prog 26 #[.pointer (some ⟨gm, 0, none⟩)] wr fun e w' => e = .returned (.tuple #[.agg #[.string x.k, .int .u64 x.s, .int .i64 x.c, .string x.v], .bool true]) ∧ Below wr.heap.size wr w' := by
  obtain ⟨X, x1, x2, x3⟩ := h.m
  subst hx
  exact here_at x3 i hi hp
theorem Tld.from_ {wr : World} {b1 gm gs n cs : Nat} {S : List Src} {L : List It} {X0 : Nat → Prop} {M : List E} {v : Value} {j i : Nat} {p : Int} (h : Tld wr b1 gm gs n cs S L X0 M v j p) (hi : i < L.length) (hp : p = (i : Int)) :
    Calls Try.prog 27 #[.pointer (some ⟨gm, 0, none⟩)] wr fun e w' => e = .returned (.int .i64 ((L.getD i zi).f : Int)) ∧ Below wr.heap.size wr w' := by
  obtain ⟨X, x1, x2, x3⟩ := h.m
  exact from_at x3 i hi hp
/-- The last one is taken away. -/
theorem Tld.pop {wr : World} {b1 gm gs n cs : Nat} {S : List Src} {L : List It} {X0 : Nat → Prop} {M : List E} {a : Option Addr} {c : Nat} {j : Nat} {p : Int} (h : Tld wr b1 gm gs n cs S L X0 M (.slice a (j + 1) c) (j + 1) p) (hj : j < M.length) : Tld wr b1 gm gs n cs S L X0 M (.slice a j c) j p := by
  obtain ⟨X, x1, x2, x3⟩ := h.m
  have hl1 : (M.take (j + 1)).length = j + 1 := by rw [List.length_take]; omega
  have hl : (M.take j).length = j := by rw [List.length_take]; omega
  refine ⟨?_, X, x1, fun b hb => x2 b (by cases a <;> exact hb), x3⟩
  rcases h.o.2 with ⟨e, h0⟩ | ⟨g, cap, cur, e, hb, hg, hle, hm, hs, ht⟩
  · rw [hl1] at h0; cases h0
  · injection e with e1 e2 e3
    subst e1 e3
    refine ⟨eE.cl_len _, .inr ⟨g, c, cur, by rw [hl], hb, hg, by rw [hl]; rw [hl1] at hle; omega, hm, hs, ?_⟩⟩
    rw [hl]
    rw [hl1] at ht
    have e0 : M.take (j + 1) = M.take j ++ [M.getD j ze] := by rw [List.take_add_one, List.getElem?_eq_getElem hj, getD_get ze hj]; rfl
    have e4 : eE.cl (M.take (j + 1)) = eE.cl (M.take j) ++ eE.cs (M.getD j ze) := by rw [e0, cl_app]; show _ ++ (eE.cs _ ++ []) = _; rw [List.append_nil]
    rw [e4] at ht
    have h5 : (cur.toList.take ((j + 1) * eE.k)).take (j * eE.k) = eE.cl (M.take j) := by
      rw [ht]; exact List.take_left' (by rw [eE.cl_len, hl])
    rw [List.take_take] at h5
    rw [← h5]
    congr 1
    show j * 4 = min (j * 4) ((j + 1) * 4)
    omega
end Go.Proofs.Ytgjodfaliajlgaa.Ec

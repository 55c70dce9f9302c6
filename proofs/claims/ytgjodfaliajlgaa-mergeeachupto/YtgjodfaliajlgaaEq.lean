/- Two entries held against each other; how often a list has one; what a merged cursor stands when others' memory is written. -/
import Derived.Test.YtgjodfaliajlgaaMq
import Derived.Test.YtgjodfaliajlgaaSt
namespace Go.Proofs.Ytgjodfaliajlgaa.Eq
open Go.ChangeShapes Go.WideShapes Go.ChangeAt Go.RowKit
open Go.Sort (grow)
open Go.Proofs.Ytgjodfaliajlgaa.Gr hiding hid addr_add
open Go.Proofs.Ytgjodfaliajlgaa.Ik
open Go.Proofs.Ytgjodfaliajlgaa.Ee
open Go.Proofs.Ytgjodfaliajlgaa.Sd hiding below_grown
open Go.Proofs.Ytgjodfaliajlgaa.Rsd
open Go.Proofs.Ytgjodfaliajlgaa.Mi
open Go.Proofs.Ytgjodfaliajlgaa.Hp
open Go.Proofs.Ytgjodfaliajlgaa.Gc9
open Go.Proofs.Ytgjodfaliajlgaa.Pm
open Go.Proofs.Ytgjodfaliajlgaa.Mt
open Go.Proofs.Ytgjodfaliajlgaa.My (pos)
open Go.Proofs.Ytgjodfaliajlgaa.Mq
set_option linter.unusedVariables false
set_option linter.unusedSimpArgs false

def eqE (x y : E) : Bool := x.k.toList == y.k.toList && (x.s == y.s && (x.c == y.c && x.v.toList == y.v.toList))
set_option maxHeartbeats 1000000 in
theorem run_two (x y : E) (w : World) : (binOp .eql 43 (.agg #[.string x.k, .int .u64 x.s, .int .i64 x.c, .string x.v]) (.agg #[.string y.k, .int .u64 y.s, .int .i64 y.c, .string y.v])).run Try.prog w = .ok (.bool (eqE x y)) w := by
  unfold eqE
  go_simp
  by_cases h1 : x.k.toList = y.k.toList <;> by_cases h2 : x.s = y.s <;> by_cases h3 : x.c = y.c <;> by_cases h4 : x.v.toList = y.v.toList <;> simp [h1, h2, h3, h4]
set_option maxHeartbeats 1000000 in
theorem run_ne (a : ByteArray) (s c : Int) (v : ByteArray) (w : World) : (binOp .neq 43 (.agg #[.string a, .int .u64 s, .int .i64 c, .string v]) (.agg #[.string a, .int .u64 s, .int .i64 c, .string v])).run Try.prog w = .ok (.bool false) w := by
  have h1 := St.text_self a
  have h2 := St.text_self v
  go_simp
  try rfl
theorem mrg_perm {α : Type} {l : α → α → Bool} : ∀ (X Y : List α), (mrg l X Y).Perm (X ++ Y) := by
  intro X
  induction X with
  | nil => intro Y; rw [mrg_nil]; exact List.Perm.refl _
  | cons x X ih =>
    intro Y
    induction Y with
    | nil => rw [mrg_right, List.append_nil]
    | cons y Y ihy =>
      rw [mrg_cons]
      by_cases h : l x y = true
      · rw [if_pos h]; exact List.Perm.cons x (ih (y :: Y))
      · rw [if_neg h]
        exact (List.Perm.cons y ihy).trans (List.perm_middle (l₁ := x :: X) (a := y) (l₂ := Y)).symm
theorem srtE_perm : ∀ (k : Nat) (xs : List E), xs.length ≤ k → (srtE xs).Perm xs
  | k, xs, hk => by
    by_cases h : xs.length < 2
    · rw [srtE_short h]
    · match k, hk with
      | 0, hk => omega
      | k + 1, hk =>
        rw [srtE_mrg (by omega)]
        have h1 := srtE_perm k (xs.take (xs.length / 2)) (by rw [List.length_take]; omega)
        have h2 := srtE_perm k (xs.drop (xs.length / 2)) (by rw [List.length_drop]; omega)
        refine (mrg_perm _ _).trans ((h1.append h2).trans ?_)
        rw [List.take_append_drop]
/-- How many of a list are x. -/
def ct (x : E) (xs : List E) : Nat := (xs.filter (fun y => eqE y x)).length
theorem ct_app (x : E) (a b : List E) : ct x (a ++ b) = ct x a + ct x b := by unfold ct; rw [List.filter_append, List.length_append]
theorem ct_one (x y : E) : ct x [y] = if eqE y x = true then 1 else 0 := by
  unfold ct
  by_cases h : eqE y x = true
  · rw [if_pos h, List.filter_cons]; simp [h]
  · rw [if_neg h, List.filter_cons]; simp [h]
theorem ct_le (x : E) (xs : List E) : ct x xs ≤ xs.length := List.length_filter_le _ _
theorem ct_snoc (x : E) {xs : List E} {j : Nat} (h : j < xs.length) : ct x (xs.take (j + 1)) = ct x (xs.take j) + if eqE (xs.getD j ze) x = true then 1 else 0 := by
  rw [List.take_add_one, List.getElem?_eq_getElem h, getD_get ze h]
  simp only [Option.toList_some]
  rw [ct_app, ct_one]
theorem ct_srt (x : E) (xs : List E) : ct x (srtE xs) = ct x xs := by
  unfold ct
  exact ((srtE_perm _ xs (Nat.le_refl _)).filter _).length_eq
section
variable {w : World} {gm gs N cs : Nat} {S : List Src} {L : List It} {X : Nat → Prop}
/-- What is not its own is written, and what has come behind it is not its own. -/
theorem Ms_wide {bk : Bool} {k : Nat} {w' : World} {P : Nat → Prop} (h : Ms w gm gs N cs S L X bk k) (f : Fp P w w') (hP : ∀ j, P j → X j) : Ms w' gm gs N cs S L (fun j => X j ∨ (w.heap.size ≤ j ∧ j < w'.heap.size)) bk k := by
  have hl := h.fp f hP
  have hgm : gm < w.heap.size := by
    rcases h.h with ⟨gl, c, H, h1, _⟩ | ⟨_, _, h3⟩
    · exact blk_lt h1.m
    · exact blk_lt h3
  have ht : Sts gm gs N S L (fun j => X j ∨ (w.heap.size ≤ j ∧ j < w'.heap.size)) := by
    refine ⟨h.t.a, h.t.n8, h.t.len, h.t.mgs, h.t.mgm, h.t.ne, h.t.ga, ?_⟩
    rintro j (hj | hj)
    · exact h.t.x j hj
    · exact ⟨fun hm => by have := h.o.mine hm; omega, by omega, by have := h.b; omega, fun f hf => by have := (h.o.l f (by rw [h.t.a.n]; exact hf) (h.t.a.s f hf)).r.lt; omega⟩
  refine ⟨ht, h.kl, hl.b, hl.s, hl.o, ?_, ?_⟩
  · rintro j (hj | hj)
    · exact hl.x j hj
    · exact hj.2
  · rcases h.h with ⟨gl, c, H, h1, h2, h3, h4, h5, h6, h7⟩ | ⟨h1, h2, h3⟩
    · rcases hl.h with ⟨gl', c', H', _⟩ | _
      all_goals
        refine .inl ⟨gl, c, H, ⟨(f.block gm hgm (fun hp => (h.t.x _ (hP _ hp)).2.1 rfl)).trans h1.m, h1.r.block (f.block gl h1.r.lt (fun hp => h7 (hP _ hp))), h1.n, h1.ne⟩, h2, h3, h4, h5, h6, ?_⟩
        rintro (hj | hj)
        · exact h7 hj
        · have := h1.r.lt; omega
    · exact .inr ⟨h1, h2, (f.block gm hgm (fun hp => (h.t.x _ (hP _ hp)).2.1 rfl)).trans h3⟩
theorem Mp_wide {p : Int} {w' : World} {P : Nat → Prop} (h : Mp w gm gs N cs S L X p) (f : Fp P w w') (hP : ∀ j, P j → X j) : Mp w' gm gs N cs S L (fun j => X j ∨ (w.heap.size ≤ j ∧ j < w'.heap.size)) p := by
  obtain ⟨bk, k, h1, h2⟩ := h
  exact ⟨bk, k, Ms_wide h1 f hP, h2⟩
end
end Go.Proofs.Ytgjodfaliajlgaa.Eq

/- A merged cursor over lists: where it stands; First, Last, Seek and turn by contract. -/
import Derived.Test.YtgjodfaliajlgaaEa
import Derived.Test.YtgjodfaliajlgaaHk
import Derived.Test.YtgjodfaliajlgaaGd9
namespace Go.Proofs.Ytgjodfaliajlgaa.Mt
open Go.ChangeShapes Go.WideShapes Go.ChangeAt Go.RowKit
open Go.Sort (grow)
open Go.Proofs.Ytgjodfaliajlgaa.Gr hiding hid addr_add
open Go.Proofs.Ytgjodfaliajlgaa.Ik
open Go.Proofs.Ytgjodfaliajlgaa.Ee
open Go.Proofs.Ytgjodfaliajlgaa.Cm (ik)
open Go.Proofs.Ytgjodfaliajlgaa.Mi
open Go.Proofs.Ytgjodfaliajlgaa.Hp
open Go.Proofs.Ytgjodfaliajlgaa.Hm hiding hv
open Go.Proofs.Ytgjodfaliajlgaa.Sk9 (Cut cut_ex)
open Go.Proofs.Ytgjodfaliajlgaa.Ls9 (Lb c4 hr hv hb)
open Go.Proofs.Ytgjodfaliajlgaa.Lm9
open Go.Proofs.Ytgjodfaliajlgaa.Gc9
open Go.Proofs.Ytgjodfaliajlgaa.Gb9
open Go.Proofs.Ytgjodfaliajlgaa.Gd9 hiding start_any mfirst_any
open Go.Proofs.Ytgjodfaliajlgaa.Gg
open Go.Proofs.Ytgjodfaliajlgaa.Gk
open Go.Proofs.Ytgjodfaliajlgaa.Af (Aft after_any)
open Go.Proofs.Ytgjodfaliajlgaa.Pm
set_option linter.unusedVariables false
set_option linter.unusedSimpArgs false

/-- What stays: the sources, and whose blocks are whose. -/
structure Sts (gm gs N : Nat) (S : List Src) (L : List It) (X : Nat → Prop) : Prop where
  a : All S N L
  n8 : N ≤ 1048576
  len : ∀ f, f < N → (S.getD f zs).n ≤ 4000000000000
  mgs : ¬ Mine S gs
  mgm : ¬ Mine S gm
  ne : gs ≠ gm
  ga : ∀ f, f < N → (S.getD f zs).ga ≠ gm
  x : ∀ j, X j → ¬ Mine S j ∧ j ≠ gm ∧ j ≠ gs ∧ ∀ f, f < N → (S.getD f zs).ga ≠ j
/-- The heads' list. -/
def Hl (w : World) (gm gs N cs : Nat) (S : List Src) (X : Nat → Prop) (bk : Bool) (p : Nat → Int) : Prop :=
  ∃ gl c H, HM w gm gl (.slice (some ⟨gs, 0, none⟩) N cs) H.length c bk H ∧ HP bk 0 H ∧ H.Perm (hds S p N) ∧ gl ≠ gs ∧ ¬ Mine S gl ∧ (∀ f, f < N → (S.getD f zs).ga ≠ gl) ∧ ¬ X gl
/-- A merged cursor stands with k entries behind it; if it went back, on the last one of these. -/
structure Ms (w : World) (gm gs N cs : Nat) (S : List Src) (L : List It) (X : Nat → Prop) (bk : Bool) (k : Nat) : Prop where
  t : Sts gm gs N S L X
  kl : k ≤ L.length
  b : gs < w.heap.size
  s : ∀ f, f < N → w.cell? ⟨gs, f, none⟩ = some (S.getD f zs).val
  o : Own w S (pl L bk k)
  x : ∀ j, X j → j < w.heap.size
  h : Hl w gm gs N cs S X bk (pl L bk k) ∨ (k = 0 ∧ bk = true ∧ w.heap[gm]? = some (.cells #[.slice (some ⟨gs, 0, none⟩) N cs, .slice none 0 0, .bool true] 61))
/-- Does it stand at an entry? -/
def ins (L : List It) (bk : Bool) (k : Nat) : Bool := if bk then decide (0 < k) else decide (k < L.length)
def Post (w : World) (gm gs N cs : Nat) (S : List Src) (L : List It) (X : Nat → Prop) (bk : Bool) (k : Nat) (e : Ending) (w' : World) : Prop := e = .returned (.bool (ins L bk k)) ∧ Ms w' gm gs N cs S L X bk k ∧ Fp (fun j => ¬ X j) w w'
theorem Hl.later {w w' : World} {gm gs N cs : Nat} {S : List Src} {X : Nat → Prop} {bk : Bool} {p : Nat → Int} (h : Hl w gm gs N cs S X bk p) (b : Below w.heap.size w w') : Hl w' gm gs N cs S X bk p := by
  obtain ⟨gl, c, H, h1, h2⟩ := h
  exact ⟨gl, c, H, h1.later b, h2⟩
section
variable {w : World} {gm gs N cs : Nat} {S : List Src} {L : List It} {X : Nat → Prop} {bk : Bool} {k : Nat}
theorem Ms.later {w' : World} (h : Ms w gm gs N cs S L X bk k) (b : Below w.heap.size w w') : Ms w' gm gs N cs S L X bk k := by
  refine ⟨h.t, h.kl, Nat.lt_of_lt_of_le h.b b.size, fun f hf => (b.cell (block_lt_of_cell (h.s f hf))).trans (h.s f hf), h.o.later b, fun j hj => Nat.lt_of_lt_of_le (h.x j hj) b.size, ?_⟩
  rcases h.h with h1 | ⟨h1, h2, h3⟩
  · exact .inl (h1.later b)
  · exact .inr ⟨h1, h2, (b.block gm (blk_lt h3)).trans h3⟩
/-- What has come behind it is not its own. -/
theorem Ms.more {w' : World} (h : Ms w gm gs N cs S L X bk k) (b : Below w.heap.size w w') : Ms w' gm gs N cs S L (fun j => X j ∨ (w.heap.size ≤ j ∧ j < w'.heap.size)) bk k := by
  have hl := h.later b
  have hgm : gm < w.heap.size := by
    rcases h.h with ⟨gl, c, H, h1, _⟩ | ⟨_, _, h3⟩
    · exact blk_lt h1.m
    · exact blk_lt h3
  have ht : Sts gm gs N S L (fun j => X j ∨ (w.heap.size ≤ j ∧ j < w'.heap.size)) := by
    refine ⟨h.t.a, h.t.n8, h.t.len, h.t.mgs, h.t.mgm, h.t.ne, h.t.ga, ?_⟩
    rintro j (hj | hj)
    · exact h.t.x j hj
    · exact ⟨fun hm => by have := h.o.mine hm; omega, by omega, by have := h.b; omega, fun f hf => by have := (h.o.l f (by rw [h.t.a.n]; exact hf) (h.t.a.s f hf)).r.lt; omega⟩
  refine ⟨ht, h.kl, hl.b, hl.s, hl.o, ?_, ?_⟩
  · rintro j (hj | hj)
    · exact hl.x j hj
    · exact hj.2
  · rcases h.h with ⟨gl, c, H, h1, h2, h3, h4, h5, h6, h7⟩ | ⟨h1, h2, h3⟩
    · refine .inl ⟨gl, c, H, h1.later b, h2, h3, h4, h5, h6, ?_⟩
      rintro (hj | hj)
      · exact h7 hj
      · have := h1.r.lt; omega
    · exact .inr ⟨h1, h2, (b.block gm (blk_lt h3)).trans h3⟩
/-- What is not its own may be written. -/
theorem Ms.fp {w' : World} {P : Nat → Prop} (h : Ms w gm gs N cs S L X bk k) (f : Fp P w w') (hP : ∀ j, P j → X j) : Ms w' gm gs N cs S L X bk k := by
  have hx := fun j hj => h.t.x j (hP j hj)
  refine ⟨h.t, h.kl, Nat.lt_of_lt_of_le h.b f.size, fun f' hf' => ?_, ?_, fun j hj => Nat.lt_of_lt_of_le (h.x j hj) f.size, ?_⟩
  · have h0 := h.s f' hf'
    exact (World.cell?_of_block (a := ⟨gs, f', none⟩) (f.block gs (block_lt_of_cell h0) (fun hp => (hx _ hp).2.2.1 rfl))).trans h0
  · exact ⟨fun g hg hn => (h.o.l g hg hn).fp f (fun hp => (hx _ hp).1 ⟨g, hg, hn, rfl⟩) (fun hp => (hx _ hp).2.2.2 g (by rw [← h.t.a.n]; exact hg) rfl), h.o.sep, h.o.lo⟩
  · rcases h.h with ⟨gl, c, H, h1, h2, h3, h4, h5, h6, h7⟩ | ⟨h1, h2, h3⟩
    · refine .inl ⟨gl, c, H, ⟨(f.block gm (blk_lt h1.m) (fun hp => (hx _ hp).2.1 rfl)).trans h1.m, h1.r.block (f.block gl h1.r.lt (fun hp => h7 (hP _ hp))), h1.n, h1.ne⟩, h2, h3, h4, h5, h6, h7⟩
    · exact .inr ⟨h1, h2, (f.block gm (blk_lt h3) (fun hp => (hx _ hp).2.1 rfl)).trans h3⟩
theorem Ms.mg (h : Ms w gm gs N cs S L X bk k) : ∃ hv0, Mg w gm gs N cs hv0 bk S := by
  rcases h.h with ⟨gl, c, H, h1, _⟩ | ⟨h1, h2, h3⟩
  · exact ⟨_, h1.m, h.t.a.n, h.s⟩
  · subst h2; exact ⟨_, h3, h.t.a.n, h.s⟩
theorem ins_len (h : All S N L) {H : List Hd} (hp : HP bk 0 H) (hq : H.Perm (hds S (pl L bk k) N)) (hk : k ≤ L.length) : (!decide (H.length = 0)) = ins L bk k := by
  unfold ins
  cases bk with
  | false =>
    simp only [Bool.false_eq_true, if_false]
    by_cases h1 : k < L.length
    · have := (h.top false k k hp hq h1 rfl).1
      rw [decide_eq_true h1, decide_eq_false (show ¬ H.length = 0 by omega)]; rfl
    · have := h.none_ false k hq (by simp only [Bool.false_eq_true, if_false]; omega)
      simp [this, h1]
  | true =>
    simp only [if_true]
    by_cases h1 : 0 < k
    · have := (h.top true k (k - 1) hp hq (by omega) (by simp only [if_true]; omega)).1
      rw [decide_eq_true h1, decide_eq_false (show ¬ H.length = 0 by omega)]; rfl
    · have := h.none_ true k hq (by simp only [if_true]; omega)
      simp [this, h1]
theorem pl_bd (h : All S N L) (bk : Bool) (k f : Nat) (hf : f < N) : -1 ≤ pl L bk k f ∧ pl L bk k f ≤ ((S.getD f zs).n : Int) := by
  have := h.cnt_le hf k
  rw [h.l f hf] at this
  cases bk with
  | false => show -1 ≤ (cnt L f k : Int) ∧ (cnt L f k : Int) ≤ _; omega
  | true => show -1 ≤ (cnt L f k : Int) - 1 ∧ (cnt L f k : Int) - 1 ≤ _; omega
theorem gath (M : Ms w gm gs N cs S L X bk k) (bk' : Bool) (k' : Nat) (hk' : k' ≤ L.length) (fn : Nat) (caps : Array Value) (HC : Closes gm (.func (Fn.func fn) #[] caps) S N (pl L bk k) (pl L bk' k') w) :
    Calls Try.prog 52 #[.pointer (some ⟨gm, 0, none⟩), .bool bk', .func (Fn.func fn) #[] caps] w (Post w gm gs N cs S L X bk' k') := by
  obtain ⟨hv0, HG⟩ := M.mg
  have HA := M.t.a
  have HL := hds_len S (pl L bk' k') N
  have h8 := M.t.n8
  refine (gather_gen fn caps gm gs N cs bk' bk hv0 S (pl L bk k) (pl L bk' k') w HG.m HG.n h8 HG.s M.o M.t.mgs M.t.mgm (fun f hf => pl_bd HA bk' k' f hf) HC (fun f hf _ => M.t.ga f (by rw [← HG.n]; exact hf)) ?_).mono ?_
  · exact Hf.fills_any gm gs N cs bk' bk hv0 _ (by omega)
  · rintro e w' ⟨gl, c, H', rfl, hgl, o, hm, hp, hq, f⟩
    have hn : H'.length = (hds S (pl L bk' k') N).length := hm.n
    have hX : Fp (fun j => ¬ X j) w w' := f.wide (fun j _ h hx => by
      rcases h with h | h
      · exact (M.t.x j hx).1 h
      · exact (M.t.x j hx).2.1 h)
    refine ⟨by rw [← hn, ins_len HA hp hq hk'], ?_, ?_⟩
    · refine ⟨M.t, hk', Nat.lt_of_lt_of_le M.b f.size, fun f' hf' => ?_, o, fun j hj => Nat.lt_of_lt_of_le (M.x j hj) f.size, .inl ⟨gl, c, H', by rw [hn]; exact hm, hp, hq, ?_, ?_, ?_, ?_⟩⟩
      · have h0 := M.s f' hf'
        exact (World.cell?_of_block (a := ⟨gs, f', none⟩) (f.block gs (block_lt_of_cell h0) (fun h => by
          rcases h with h | h
          · exact M.t.mgs h
          · exact M.t.ne h))).trans h0
      · have := M.b; omega
      · intro hm2; have := M.o.mine hm2; omega
      · intro f' hf'; have := (M.o.l f' (by rw [HA.n]; exact hf') (HA.s f' hf')).r.lt; omega
      · intro hx; have := M.x gl hx; omega
    · exact hX
theorem start_any (M : Ms w gm gs N cs S L X bk k) (bk' : Bool) :
    Calls Try.prog 47 #[.pointer (some ⟨gm, 0, none⟩), .bool bk'] w (Post w gm gs N cs S L X bk' (if bk' then L.length else 0)) := by
  have hmf : ∀ (fn : Fn) (first cap : Array Value) (w : World), (Instr.makeFunc fn first cap).run Try.prog w = .ok (.func fn first cap) w := fun _ _ _ _ => rfl
  obtain ⟨W0, hW0⟩ : ∃ W, W = w.alloc (.cells #[.bool bk'] 4) := ⟨_, rfl⟩
  obtain ⟨gk, hgk⟩ : ∃ g, g = w.heap.size := ⟨_, rfl⟩
  have B0 : Below w.heap.size w W0 := by rw [hW0]; exact box_below _ _
  have kk : W0.cell? ⟨gk, 0, none⟩ = some (.bool bk') := by rw [hW0, hgk]; exact cell_of (new_at _ _) 0 _ rfl
  have M0 := M.later B0
  have hto : ∀ f, f < N → pl L bk' (if bk' then L.length else 0) f = to bk' (S.getD f zs).n := by
    intro f hf
    cases bk' with
    | false => show (cnt L f 0 : Int) = 0; rw [cnt_zero]; rfl
    | true => show (cnt L f L.length : Int) - 1 = ((S.getD f zs).n : Int) - 1; rw [M.t.a.cnt_end hf (Nat.le_refl _), M.t.a.l f hf]
  have HG := gath M0 bk' (if bk' then L.length else 0) (by split <;> omega) 60 #[.pointer (some ⟨gk, 0, none⟩)] (by
    intro f hf hn x0 y0 W F Lw hx hy
    have hk : W.cell? ⟨gk, 0, none⟩ = some (.bool bk') := (World.cell?_of_block (a := ⟨gk, 0, none⟩) (F.block gk (block_lt_of_cell kk) (fun h => by have := M.o.mine h; omega))).trans kk
    have hb0 := pl_bd M.t.a bk k f hf
    rw [hto f hf]
    exact gstart_any x0 y0 gk _ _ _ bk' _ f _ W Lw hb0 (M.t.len f hf) hk hx hy)
  generalize (if bk' then L.length else 0) = k' at *
  have hfin : Hid (∀ e w', Post W0 gm gs N cs S L X bk' k' e w' → e = .returned (.bool (ins L bk' k')) ∧ Ms w' gm gs N cs S L X bk' k' ∧ Fp (fun j => ¬ X j) w w') := by
    rintro e w' ⟨h1, h2, h3⟩
    exact ⟨h1, h2, (Fp.of B0).tr (h3.wide (fun j _ h => .inl h))⟩
  replace HG := hid HG
  replace hW0 := hid hW0
  replace hgk := hid hgk
  unfold Post
  generalize hii : ins L bk' k' = ii at hfin ⊢
  clear M M0 B0 kk hto hii
  go_enter Try.func47, Try.ntmps47
  go_wp2_with fail
  rw [← hW0.out, ← hgk.out]
  refine HG.out.mono ?_
  intro e w1 h1
  obtain ⟨rfl, h2⟩ := hfin.out e w1 h1
  replace h2 := hid h2
  clear HG h1
  go_wp2_with fail
  go_ret
  exact ⟨rfl, h2.out⟩
end
end Go.Proofs.Ytgjodfaliajlgaa.Mt

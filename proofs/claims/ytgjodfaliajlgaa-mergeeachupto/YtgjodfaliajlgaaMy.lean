/- A merged cursor over lists: walk, Next, Prev, Here and From by contract. -/
import Derived.Test.YtgjodfaliajlgaaMw
namespace Go.Proofs.Ytgjodfaliajlgaa.My
open Go.ChangeShapes Go.WideShapes Go.ChangeAt Go.RowKit
open Go.Sort (grow)
open Go.Proofs.Ytgjodfaliajlgaa.Gr hiding hid addr_add
open Go.Proofs.Ytgjodfaliajlgaa.Ik
open Go.Proofs.Ytgjodfaliajlgaa.Ee
open Go.Proofs.Ytgjodfaliajlgaa.Cm (ik)
open Go.Proofs.Ytgjodfaliajlgaa.Mi
open Go.Proofs.Ytgjodfaliajlgaa.Hp
open Go.Proofs.Ytgjodfaliajlgaa.Hm hiding hv
open Go.Proofs.Ytgjodfaliajlgaa.Ls9 (Lb c4 hr hv hb)
open Go.Proofs.Ytgjodfaliajlgaa.Lm9
open Go.Proofs.Ytgjodfaliajlgaa.Gc9
open Go.Proofs.Ytgjodfaliajlgaa.Gb9
open Go.Proofs.Ytgjodfaliajlgaa.Gd9 hiding start_any mfirst_any
open Go.Proofs.Ytgjodfaliajlgaa.Pm
open Go.Proofs.Ytgjodfaliajlgaa.Mt
open Go.Proofs.Ytgjodfaliajlgaa.Mu
open Go.Proofs.Ytgjodfaliajlgaa.Mw
set_option linter.unusedVariables false
set_option linter.unusedSimpArgs false

/-- The place at which it stands. -/
def pos (bk : Bool) (k : Nat) : Int := if bk then (k : Int) - 1 else (k : Int)
def tgt (T : Nat) (bk : Bool) (p : Int) : Int := if bk then max (p - 1) (-1) else min (p + 1) (T : Int)
section
variable {w : World} {gm gs N cs : Nat} {S : List Src} {L : List It} {X : Nat → Prop} {bk : Bool} {k : Nat}
theorem ins_hb (L : List It) (bk : Bool) (k : Nat) (hk : k ≤ L.length) : ins L bk k = hb L.length (pos bk k) := by
  unfold ins hb pos
  cases bk with
  | false => simp
  | true =>
    simp only [if_true]
    by_cases h : 0 < k
    · rw [decide_eq_true h, decide_eq_true (show (0 : Int) ≤ (k : Int) - 1 by omega), decide_eq_true (show (k : Int) - 1 < (L.length : Int) by omega)]; rfl
    · rw [decide_eq_false h, decide_eq_false (show ¬ (0 : Int) ≤ (k : Int) - 1 by omega)]; rfl
theorem hdr (M : Ms w gm gs N cs S L X bk k) : ∃ a n c, w.cell? ⟨gm, 1, none⟩ = some (.slice a n c) ∧ decide (n = 0) = (!ins L bk k) ∧ w.cell? ⟨gm, 2, none⟩ = some (.bool bk) := by
  rcases M.h with ⟨gl, c, H, h1, h2, h3, _⟩ | ⟨h1, h2, h3⟩
  · exact ⟨_, _, _, h1.s1, by rw [← ins_len M.t.a h2 h3 M.kl, Bool.not_not], h1.s2⟩
  · subst h1 h2
    exact ⟨_, _, _, cell_of h3 1 _ rfl, by simp [ins], cell_of h3 2 _ rfl⟩
theorem ins_at (hi : ins L bk k = true) (hk : k ≤ L.length) : ∃ j, j < L.length ∧ k = (if bk then j + 1 else j) ∧ (j : Int) = pos bk k := by
  unfold ins at hi
  cases bk with
  | false => simp at hi; exact ⟨k, hi, by simp, rfl⟩
  | true => simp at hi; exact ⟨k - 1, by omega, by simp; omega, by show ((k - 1 : Nat) : Int) = (k : Int) - 1; omega⟩
def Wk (w : World) (gm gs N cs : Nat) (S : List Src) (L : List It) (X : Nat → Prop) (t : Int) (b : Bool) (w' : World) : Prop := ∃ bk k, b = ins L bk k ∧ Ms w' gm gs N cs S L X bk k ∧ Fp (fun j => ¬ X j) w w' ∧ pos bk k = t
set_option maxHeartbeats 1000000 in
set_option maxRecDepth 20000 in
theorem walk_any (M : Ms w gm gs N cs S L X bk k) (bk' : Bool) :
    Calls Try.prog 48 #[.pointer (some ⟨gm, 0, none⟩), .bool bk'] w fun e w' => ∃ b, e = .returned (.bool b) ∧ Wk w gm gs N cs S L X (tgt L.length bk' (pos bk k)) b w' := by
  obtain ⟨a, n, c, c1, hn, c2⟩ := hdr M
  have HI := hid (isempty_any gm a n c w c1)
  rw [hn] at HI
  have hkl := M.kl
  cases hi : ins L bk k with
  | true =>
    rw [hi] at HI
    obtain ⟨j, hj, hkj, hpj⟩ := ins_at hi hkl
    by_cases hb : bk' = bk
    · subst hb
      have HC := hid (advance_any M j hj hkj)
      have hfin : Hid (∀ e w', Post w gm gs N cs S L X bk' (nx bk' k) e w' → ∃ b, e = .returned (.bool b) ∧ Wk w gm gs N cs S L X (tgt L.length bk' (pos bk' k)) b w') := by
        intro e w' h
        have h1 := h.1
        refine ⟨_, h1, bk', nx bk' k, rfl, h.2.1, h.2.2, ?_⟩
        unfold pos tgt nx at *
        cases bk' with
        | false => simp only [Bool.false_eq_true, if_false] at *; omega
        | true => simp only [if_true] at *; omega
      replace hn := hid hn
      replace hi := hid hi
      clear M hj hkj hpj hkl
      generalize Wk w gm gs N cs S L X (tgt L.length bk' (pos bk' k)) = Q at *
      cases bk' with
      | false =>
        go_enter Try.func48, Try.ntmps48
        go_wp2_with fail
        refine HI.out.mono ?_
        rintro e w1 ⟨rfl, rfl⟩
        go_wp2_with fail
        refine HI.out.mono ?_
        rintro e w1 ⟨rfl, rfl⟩
        go_wp2_with fail
        refine HC.out.mono ?_
        intro e w1 h1
        obtain ⟨b, rfl, h2⟩ := hfin.out e w1 h1
        replace h2 := hid h2
        clear HC h1 HI c1 c2
        go_wp2_with fail
        go_ret
        exact ⟨b, rfl, h2.out⟩
      | true =>
        go_enter Try.func48, Try.ntmps48
        go_wp2_with fail
        refine HI.out.mono ?_
        rintro e w1 ⟨rfl, rfl⟩
        go_wp2_with fail
        refine HI.out.mono ?_
        rintro e w1 ⟨rfl, rfl⟩
        go_wp2_with fail
        refine HC.out.mono ?_
        intro e w1 h1
        obtain ⟨b, rfl, h2⟩ := hfin.out e w1 h1
        replace h2 := hid h2
        clear HC h1 HI c1 c2
        go_wp2_with fail
        go_ret
        exact ⟨b, rfl, h2.out⟩
    · have hb2 : bk' = !bk := by cases bk <;> cases bk' <;> simp_all
      have HC := hid (turn_any M bk' j hj hkj hb2)
      have hfin : Hid (∀ e w', Post w gm gs N cs S L X bk' k e w' → ∃ b, e = .returned (.bool b) ∧ Wk w gm gs N cs S L X (tgt L.length bk' (pos bk k)) b w') := by
        intro e w' h
        have h1 := h.1
        refine ⟨_, h1, bk', k, rfl, h.2.1, h.2.2, ?_⟩
        unfold pos tgt at *
        subst hb2
        cases bk with
        | false => simp only [Bool.false_eq_true, Bool.not_false, if_true, if_false] at *; omega
        | true => simp only [Bool.not_true, Bool.false_eq_true, if_true, if_false] at *; omega
      replace hn := hid hn
      replace hi := hid hi
      clear M hj hkj hpj hkl hb
      subst hb2
      generalize Wk w gm gs N cs S L X (tgt L.length (!bk) (pos bk k)) = Q at *
      cases bk with
      | false =>
        go_enter Try.func48, Try.ntmps48
        go_wp2_with fail
        refine HI.out.mono ?_
        rintro e w1 ⟨rfl, rfl⟩
        go_wp2_with fail
        refine HI.out.mono ?_
        rintro e w1 ⟨rfl, rfl⟩
        go_wp2_with fail
        refine HC.out.mono ?_
        intro e w1 h1
        obtain ⟨b, rfl, h2⟩ := hfin.out e w1 h1
        replace h2 := hid h2
        clear HC h1 HI c1 c2
        go_wp2_with fail
        go_ret
        exact ⟨b, rfl, h2.out⟩
      | true =>
        go_enter Try.func48, Try.ntmps48
        go_wp2_with fail
        refine HI.out.mono ?_
        rintro e w1 ⟨rfl, rfl⟩
        go_wp2_with fail
        refine HI.out.mono ?_
        rintro e w1 ⟨rfl, rfl⟩
        go_wp2_with fail
        refine HC.out.mono ?_
        intro e w1 h1
        obtain ⟨b, rfl, h2⟩ := hfin.out e w1 h1
        replace h2 := hid h2
        clear HC h1 HI c1 c2
        go_wp2_with fail
        go_ret
        exact ⟨b, rfl, h2.out⟩
  | false =>
    rw [hi] at HI
    by_cases hb : bk' = bk
    · subst hb
      have hfin : Hid (Wk w gm gs N cs S L X (tgt L.length bk' (pos bk' k)) false w) := by
        refine ⟨bk', k, hi.symm, M, Fp.refl _ _, ?_⟩
        unfold ins at hi
        unfold pos tgt
        cases bk' with
        | false => simp at hi ⊢; omega
        | true => simp at hi ⊢; omega
      replace hn := hid hn
      replace hi := hid hi
      clear M hkl
      generalize Wk w gm gs N cs S L X (tgt L.length bk' (pos bk' k)) = Q at *
      cases bk' with
      | false =>
        go_enter Try.func48, Try.ntmps48
        go_wp2_with fail
        refine HI.out.mono ?_
        rintro e w1 ⟨rfl, rfl⟩
        go_wp2_with fail
        refine HI.out.mono ?_
        rintro e w1 ⟨rfl, rfl⟩
        go_wp2_with fail
        go_ret
        exact ⟨_, rfl, hfin.out⟩
      | true =>
        go_enter Try.func48, Try.ntmps48
        go_wp2_with fail
        refine HI.out.mono ?_
        rintro e w1 ⟨rfl, rfl⟩
        go_wp2_with fail
        refine HI.out.mono ?_
        rintro e w1 ⟨rfl, rfl⟩
        go_wp2_with fail
        go_ret
        exact ⟨_, rfl, hfin.out⟩
    · have hb2 : bk' = !bk := by cases bk <;> cases bk' <;> simp_all
      have HC := hid (start_any M bk')
      have hfin : Hid (∀ e w', Post w gm gs N cs S L X bk' (if bk' then L.length else 0) e w' → ∃ b, e = .returned (.bool b) ∧ Wk w gm gs N cs S L X (tgt L.length bk' (pos bk k)) b w') := by
        intro e w' h
        have h1 := h.1
        refine ⟨_, h1, bk', _, rfl, h.2.1, h.2.2, ?_⟩
        unfold ins at hi
        unfold pos tgt at *
        subst hb2
        cases bk with
        | false => simp only [Bool.false_eq_true, Bool.not_false, if_true, if_false] at *; simp at hi; omega
        | true => simp only [Bool.not_true, Bool.false_eq_true, if_true, if_false] at *; simp at hi; omega
      replace hn := hid hn
      replace hi := hid hi
      clear M hkl hb
      subst hb2
      generalize Wk w gm gs N cs S L X (tgt L.length (!bk) (pos bk k)) = Q at *
      generalize (if (!bk) = true then L.length else 0) = k' at *
      cases bk with
      | false =>
        go_enter Try.func48, Try.ntmps48
        go_wp2_with fail
        refine HI.out.mono ?_
        rintro e w1 ⟨rfl, rfl⟩
        go_wp2_with fail
        refine HC.out.mono ?_
        intro e w1 h1
        obtain ⟨b, rfl, h2⟩ := hfin.out e w1 h1
        replace h2 := hid h2
        clear HC h1 HI c1 c2
        go_wp2_with fail
        go_ret
        exact ⟨b, rfl, h2.out⟩
      | true =>
        go_enter Try.func48, Try.ntmps48
        go_wp2_with fail
        refine HI.out.mono ?_
        rintro e w1 ⟨rfl, rfl⟩
        go_wp2_with fail
        refine HC.out.mono ?_
        intro e w1 h1
        obtain ⟨b, rfl, h2⟩ := hfin.out e w1 h1
        replace h2 := hid h2
        clear HC h1 HI c1 c2
        go_wp2_with fail
        go_ret
        exact ⟨b, rfl, h2.out⟩
set_option maxHeartbeats 1000000 in
set_option maxRecDepth 20000 in
theorem next_any (M : Ms w gm gs N cs S L X bk k) :
    Calls Try.prog 31 #[.pointer (some ⟨gm, 0, none⟩)] w fun e w' => ∃ b, e = .returned (.bool b) ∧ Wk w gm gs N cs S L X (tgt L.length false (pos bk k)) b w' := by
  have HS := hid (walk_any M false)
  have HI := hid (isnone_some gm N cs ⟨gs, 0, none⟩ w (msome M))
  clear M
  generalize Wk w gm gs N cs S L X (tgt L.length false (pos bk k)) = Q at *
  go_enter Try.func31, Try.ntmps31
  go_wp2_with fail
  refine HI.out.mono ?_
  rintro e w1 ⟨rfl, rfl⟩
  go_wp2_with fail
  refine HS.out.mono ?_
  rintro e w2 ⟨b, rfl, h2⟩
  replace h2 := hid h2
  clear HS HI
  go_wp2_with fail
  go_ret
  exact ⟨b, rfl, h2.out⟩
set_option maxHeartbeats 1000000 in
set_option maxRecDepth 20000 in
theorem prev_any (M : Ms w gm gs N cs S L X bk k) :
    Calls Try.prog 34 #[.pointer (some ⟨gm, 0, none⟩)] w fun e w' => ∃ b, e = .returned (.bool b) ∧ Wk w gm gs N cs S L X (tgt L.length true (pos bk k)) b w' := by
  have HS := hid (walk_any M true)
  have HI := hid (isnone_some gm N cs ⟨gs, 0, none⟩ w (msome M))
  clear M
  generalize Wk w gm gs N cs S L X (tgt L.length true (pos bk k)) = Q at *
  go_enter Try.func34, Try.ntmps34
  go_wp2_with fail
  refine HI.out.mono ?_
  rintro e w1 ⟨rfl, rfl⟩
  go_wp2_with fail
  refine HS.out.mono ?_
  rintro e w2 ⟨b, rfl, h2⟩
  replace h2 := hid h2
  clear HS HI
  go_wp2_with fail
  go_ret
  exact ⟨b, rfl, h2.out⟩
end
end Go.Proofs.Ytgjodfaliajlgaa.My

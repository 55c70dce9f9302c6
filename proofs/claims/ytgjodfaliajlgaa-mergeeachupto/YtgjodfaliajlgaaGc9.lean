/- Sources: lists or nil, where they stand; the heads of the first ones; start's and gather's closures by contract. -/
import Derived.Test.YtgjodfaliajlgaaEn9
namespace Go.Proofs.Ytgjodfaliajlgaa.Gc9
open Go.ChangeShapes Go.WideShapes Go.ChangeAt Go.RowKit
open Go.Sort (grow)
open Go.Proofs.Ytgjodfaliajlgaa.Gr hiding hid addr_add
open Go.Proofs.Ytgjodfaliajlgaa.Ac
open Go.Proofs.Ytgjodfaliajlgaa.Ik
open Go.Proofs.Ytgjodfaliajlgaa.Ee
open Go.Proofs.Ytgjodfaliajlgaa.Hp
open Go.Proofs.Ytgjodfaliajlgaa.Hm hiding hv
open Go.Proofs.Ytgjodfaliajlgaa.Ls9 (Lb c4 hr hv hb)
open Go.Proofs.Ytgjodfaliajlgaa.Lm9
set_option linter.unusedVariables false
set_option linter.unusedSimpArgs false

def eH : El Hd where
  st := 57
  et := 79
  k := 5
  by_ := 56
  cs := fun x => [.int .i64 x.f, .string x.e.k, .int .u64 x.e.s, .int .i64 x.e.c, .string x.e.v]
  z := zh
  zv := .agg #[.int .i64 0, .string ⟨#[]⟩, .int .u64 0, .int .i64 0, .string ⟨#[]⟩]
  len := fun _ => rfl
  one := by intro x u h; simp at h; rcases h with rfl | rfl | rfl | rfl | rfl <;> rfl
  und := Try.underlying57
  info := by kernel_rfl
  zc := rfl
  pos := by decide
  ok := fun x => x.e.ok
theorem own_row {w : World} {base g n c : Nat} {H : List Hd} (h : eH.Own w base (.slice (some ⟨g, 0, none⟩) n c) H) : HRow w g c H ∧ base ≤ g ∧ n = H.length := by
  have hat := h.at
  rcases h.2 with ⟨h1, _⟩ | ⟨g', c', cur, h1, h2, h3, h4, h5, h6, h7⟩
  · cases h1
  · injection h1 with e1 e2 e3
    injection e1 with e1; injection e1 with e1
    subst e1 e2 e3
    refine ⟨⟨cur, h3, h6, h4, fun i hi j hj => ?_⟩, h2, rfl⟩
    have hx : (eH.cs (H.getD i zh))[j]? = (hc (H.getD i zh))[j]? := rfl
    obtain ⟨u, hu⟩ : ∃ u, (eH.cs (H.getD i zh))[j]? = some u := ⟨_, List.getElem?_eq_getElem (by rw [eH.len]; exact hj)⟩
    have k1 := hat i hi j u hu
    rw [← hx, hu]
    rw [show eH.k = 5 from rfl] at k1
    simpa [World.cell?, h3] using k1
/-- A source: a list, or nil. -/
structure Src where
  nil : Bool
  g : Nat
  ga : Nat
  n : Nat
  ys : List E
def zs : Src := ⟨true, 0, 0, 0, []⟩
def Src.val (s : Src) : Value := if s.nil then .nilIface else .iface 40 (.pointer (some ⟨s.g, 0, none⟩))
/-- The head of a source that stands at i. -/
def hd (k : Nat) (s : Src) (i : Int) : List Hd := if s.nil = false ∧ hb s.n i = true then [⟨k, (hr s.ys i).getD ze⟩] else []
/-- The heads of the first k sources, which stand at p. -/
def hds (S : List Src) (p : Nat → Int) : Nat → List Hd
  | 0 => []
  | k + 1 => hds S p k ++ hd k (S.getD k zs) (p k)
theorem hds_len (S : List Src) (p : Nat → Int) : ∀ k, (hds S p k).length ≤ k
  | 0 => Nat.le_refl _
  | k + 1 => by
    have := hds_len S p k
    unfold hds hd
    rw [List.length_append]
    split <;> simp <;> omega
theorem hds_ext {S : List Src} {p q : Nat → Int} : ∀ k, (∀ f, f < k → p f = q f) → hds S p k = hds S q k
  | 0, _ => rfl
  | k + 1, h => by
    unfold hds
    rw [hds_ext k (fun f hf => h f (by omega)), h k (by omega)]
/-- A block of one of the lists' own. -/
def Mine (S : List Src) (b : Nat) : Prop := ∃ f, f < S.length ∧ (S.getD f zs).nil = false ∧ b = (S.getD f zs).g
/-- The lists stand at p. -/
structure Own (w : World) (S : List Src) (p : Nat → Int) : Prop where
  l : ∀ f, f < S.length → (S.getD f zs).nil = false → Lc w (S.getD f zs).g (S.getD f zs).ga (S.getD f zs).n (p f) (S.getD f zs).ys
  sep : ∀ f h, f < S.length → h < S.length → (S.getD f zs).nil = false → (S.getD h zs).nil = false → (f ≠ h → (S.getD f zs).g ≠ (S.getD h zs).g) ∧ (S.getD f zs).g ≠ (S.getD h zs).ga
  lo : ∀ f, f < S.length → (S.getD f zs).nil = false → -1 ≤ p f ∧ p f ≤ ((S.getD f zs).n : Int) ∧ (S.getD f zs).n ≤ 4000000000000
theorem Own.later {w w' : World} {S : List Src} {p : Nat → Int} (h : Own w S p) (b : Below w.heap.size w w') : Own w' S p :=
  ⟨fun f hf hn => (h.l f hf hn).later b, h.sep, h.lo⟩
theorem Own.mine {w : World} {S : List Src} {p : Nat → Int} (h : Own w S p) {b : Nat} (hb : Mine S b) : b < w.heap.size := by
  obtain ⟨f, h1, h2, h3⟩ := hb
  rw [h3]; exact (h.l f h1 h2).b.lt
/-- One of them has moved. -/
theorem Own.move {w w' : World} {S : List Src} {p q : Nat → Int} (h : Own w S p) (i : Nat) (hi : i < S.length) (hn : (S.getD i zs).nil = false) (hl : Lc w' (S.getD i zs).g (S.getD i zs).ga (S.getD i zs).n (q i) (S.getD i zs).ys) (hf : Fp (· = (S.getD i zs).g) w w') (hq : ∀ f, f ≠ i → q f = p f) (hb : -1 ≤ q i ∧ q i ≤ ((S.getD i zs).n : Int)) : Own w' S q := by
  refine ⟨fun f h1 h2 => ?_, h.sep, fun f h1 h2 => ?_⟩
  · by_cases e : f = i
    · subst e; exact hl
    · rw [hq f e]
      exact (h.l f h1 h2).fp hf ((h.sep f i h1 hi h2 hn).1 e) (fun e2 => (h.sep i f hi h1 hn h2).2 e2.symm)
  · by_cases e : f = i
    · subst e; exact ⟨hb.1, hb.2, (h.lo f h1 h2).2.2⟩
    · rw [hq f e]; exact h.lo f h1 h2
def to (bk : Bool) (n : Nat) : Int := if bk then (n : Int) - 1 else 0
set_option maxHeartbeats 1000000 in
theorem start1_any (gk g ga n : Nat) (bk : Bool) (j : Int) (f : Nat) (ys : List E) (w : World) (H : Lc w g ga n j ys) (hj : -1 ≤ j ∧ j ≤ (n : Int)) (hn : n ≤ 4000000000000) (hk : w.cell? ⟨gk, 0, none⟩ = some (.bool bk)) :
    Calls Try.prog 60 #[.int .i64 f, .iface 40 (.pointer (some ⟨g, 0, none⟩)), .pointer (some ⟨gk, 0, none⟩)] w fun e w' => e = .returned (.bool (hb n (to bk n))) ∧ Lc w' g ga n (to bk n) ys ∧ Fp (· = g) w w' := by
  cases bk with
  | false =>
    have HC := hid (first_any g ga n j ys w H hj hn)
    have ht : Hid (to false n = 0) := rfl
    rw [ht.out]
    generalize hb n 0 = bb at *
    clear H ht
    go_enter Try.func60, Try.ntmps60
    go_wp2_with fail
    refine HC.out.mono ?_
    rintro e w1 ⟨rfl, m1⟩
    replace m1 := hid m1
    clear hk HC
    go_wp2_with fail
    go_ret
    exact ⟨rfl, m1.out⟩
  | true =>
    have HC := hid (last_any g ga n j ys w H hj hn)
    have ht : Hid (to true n = (n : Int) - 1) := rfl
    rw [ht.out]
    generalize (n : Int) - 1 = t at *
    generalize hb n t = bb at *
    clear H ht
    go_enter Try.func60, Try.ntmps60
    go_wp2_with fail
    refine HC.out.mono ?_
    rintro e w1 ⟨rfl, m1⟩
    replace m1 := hid m1
    clear hk HC
    go_wp2_with fail
    go_ret
    exact ⟨rfl, m1.out⟩
set_option maxHeartbeats 1000000 in
theorem gstart_any (px py gk g ga n : Nat) (bk : Bool) (j : Int) (f : Nat) (ys : List E) (w : World) (H : Lc w g ga n j ys) (hj : -1 ≤ j ∧ j ≤ (n : Int)) (hn : n ≤ 4000000000000) (hk : w.cell? ⟨gk, 0, none⟩ = some (.bool bk))
    (hx : w.cell? ⟨px, 0, none⟩ = some (.func (Fn.func 60) #[] #[.pointer (some ⟨gk, 0, none⟩)])) (hy : w.cell? ⟨py, 0, none⟩ = some (.int .i64 f)) :
    Calls Try.prog 67 #[.iface 40 (.pointer (some ⟨g, 0, none⟩)), .pointer (some ⟨px, 0, none⟩), .pointer (some ⟨py, 0, none⟩)] w fun e w' => e = .returned (.bool (hb n (to bk n))) ∧ Lc w' g ga n (to bk n) ys ∧ Fp (· = g) w w' := by
  have HC := hid (start1_any gk g ga n bk j f ys w H hj hn hk)
  generalize to bk n = t at *
  generalize hb n t = bb at *
  clear H hk
  go_enter Try.func67, Try.ntmps67
  go_wp2_with fail
  refine HC.out.mono ?_
  rintro e w1 ⟨rfl, m1⟩
  replace m1 := hid m1
  clear hx hy HC
  go_wp2_with fail
  go_ret
  exact ⟨rfl, m1.out⟩
end Go.Proofs.Ytgjodfaliajlgaa.Gc9

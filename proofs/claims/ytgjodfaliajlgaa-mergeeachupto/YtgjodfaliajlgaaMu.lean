/- A merged cursor over lists: First, Last, Seek and turn by contract. -/
import Derived.Test.YtgjodfaliajlgaaMt
namespace Go.Proofs.Ytgjodfaliajlgaa.Mu
open Go.ChangeShapes Go.WideShapes Go.ChangeAt Go.RowKit
open Go.Sort (grow)
open Go.Proofs.Ytgjodfaliajlgaa.Gr hiding hid addr_add
open Go.Proofs.Ytgjodfaliajlgaa.Ik
open Go.Proofs.Ytgjodfaliajlgaa.Ee
open Go.Proofs.Ytgjodfaliajlgaa.Cm (ik)
open Go.Proofs.Ytgjodfaliajlgaa.Mi
open Go.Proofs.Ytgjodfaliajlgaa.Hp
open Go.Proofs.Ytgjodfaliajlgaa.Hm hiding hv
open Go.Proofs.Ytgjodfaliajlgaa.Sk9 (Cut cut_ex mkeyOf_any)
open Go.Proofs.Ytgjodfaliajlgaa.Ls9 (Lb c4 hr hv hb)
open Go.Proofs.Ytgjodfaliajlgaa.Lm9
open Go.Proofs.Ytgjodfaliajlgaa.Gc9
open Go.Proofs.Ytgjodfaliajlgaa.Gb9
open Go.Proofs.Ytgjodfaliajlgaa.Gd9 hiding start_any mfirst_any
open Go.Proofs.Ytgjodfaliajlgaa.Gg
open Go.Proofs.Ytgjodfaliajlgaa.Gk
open Go.Proofs.Ytgjodfaliajlgaa.Af (Aft after_any)
open Go.Proofs.Ytgjodfaliajlgaa.Pm
open Go.Proofs.Ytgjodfaliajlgaa.Mt
set_option linter.unusedVariables false
set_option linter.unusedSimpArgs false

section
variable {w : World} {gm gs N cs : Nat} {S : List Src} {L : List It} {X : Nat → Prop} {bk : Bool} {k : Nat}
theorem msome (M : Ms w gm gs N cs S L X bk k) : w.cell? ⟨gm, 0, none⟩ = Option.some (.slice (Option.some ⟨gs, 0, none⟩) N cs) := by
  obtain ⟨hv0, HG⟩ := M.mg
  exact cell_of HG.m 0 _ rfl
set_option maxHeartbeats 1000000 in
set_option maxRecDepth 20000 in
theorem first_any (M : Ms w gm gs N cs S L X bk k) :
    Calls Try.prog 29 #[.pointer (Option.some ⟨gm, 0, none⟩)] w (Post w gm gs N cs S L X false 0) := by
  have HS := hid (start_any M false)
  have HI := hid (isnone_some gm N cs ⟨gs, 0, none⟩ w (msome M))
  clear M
  have e0 : Hid ((if false = true then L.length else 0) = 0) := rfl
  rw [e0.out] at HS
  unfold Post at HS ⊢
  generalize ins L false 0 = ii at *
  go_enter Try.func29, Try.ntmps29
  go_wp2_with fail
  refine HI.out.mono ?_
  rintro e w1 ⟨rfl, rfl⟩
  go_wp2_with fail
  refine HS.out.mono ?_
  rintro e w2 ⟨rfl, h2⟩
  replace h2 := hid h2
  clear HS HI
  go_wp2_with fail
  go_ret
  exact ⟨rfl, h2.out⟩
set_option maxHeartbeats 1000000 in
set_option maxRecDepth 20000 in
theorem last_any (M : Ms w gm gs N cs S L X bk k) :
    Calls Try.prog 39 #[.pointer (Option.some ⟨gm, 0, none⟩)] w (Post w gm gs N cs S L X true L.length) := by
  have HS := hid (start_any M true)
  have HI := hid (isnone_some gm N cs ⟨gs, 0, none⟩ w (msome M))
  clear M
  have e0 : Hid ((if true = true then L.length else 0) = L.length) := rfl
  rw [e0.out] at HS
  unfold Post at HS ⊢
  generalize ins L true L.length = ii at *
  go_enter Try.func39, Try.ntmps39
  go_wp2_with fail
  refine HI.out.mono ?_
  rintro e w1 ⟨rfl, rfl⟩
  go_wp2_with fail
  refine HS.out.mono ?_
  rintro e w2 ⟨rfl, h2⟩
  replace h2 := hid h2
  clear HS HI
  go_wp2_with fail
  go_ret
  exact ⟨rfl, h2.out⟩
set_option maxHeartbeats 1000000 in
set_option maxRecDepth 20000 in
theorem mseek_any (M : Ms w gm gs N cs S L X bk k) (q : ByteArray) (s c : Int) (m : Nat) (hm : Cut (L.map It.e) (ik q s c) m) :
    Calls Try.prog 35 #[.pointer (Option.some ⟨gm, 0, none⟩), .agg #[.string q, .int .u64 s, .int .i64 c]] w (Post w gm gs N cs S L X false m) := by
  have hmf : ∀ (fn : Fn) (first cap : Array Value) (w : World), (Instr.makeFunc fn first cap).run Try.prog w = .ok (.func fn first cap) w := fun _ _ _ _ => rfl
  obtain ⟨W0, hW0⟩ : ∃ W, W = w.alloc (.cells #[.string q, .int .u64 s, .int .i64 c] 33) := ⟨_, rfl⟩
  obtain ⟨gk, hgk⟩ : ∃ g, g = w.heap.size := ⟨_, rfl⟩
  have B0 : Below w.heap.size w W0 := by rw [hW0]; exact box_below _ _
  have KB : W0.heap[gk]? = Option.some (.cells #[.string q, .int .u64 s, .int .i64 c] 33) := by rw [hW0, hgk]; exact new_at _ _
  have M0 := M.later B0
  have HG := gath M0 false m (by have := hm.1; rw [List.length_map] at this; exact this) 53 #[.pointer (Option.some ⟨gk, 0, none⟩)] (by
    intro f hf hn x0 y0 W F Lw hx hy
    have hb : W.heap[gk]? = _ := (F.block gk (blk_lt KB) (fun h => by have := M.o.mine h; omega)).trans KB
    exact gseek_any x0 y0 gk _ _ _ (cnt L f m) _ f _ q s c W Lw (M.t.len f hf) (M.t.a.cut hm hf) (cell_of hb 0 _ rfl) (cell_of hb 1 _ rfl) (cell_of hb 2 _ rfl) hx hy)
  have HI := hid (isnone_some gm N cs ⟨gs, 0, none⟩ W0 (msome M0))
  have hfin : Hid (∀ e w', Post W0 gm gs N cs S L X false m e w' → e = .returned (.bool (ins L false m)) ∧ Ms w' gm gs N cs S L X false m ∧ Fp (fun j => ¬ X j) w w') := by
    rintro e w' ⟨h1, h2, h3⟩
    exact ⟨h1, h2, (Fp.of B0).tr (h3.wide (fun j _ h => .inl h))⟩
  replace HG := hid HG
  replace hW0 := hid hW0
  replace hgk := hid hgk
  unfold Post
  generalize hii : ins L false m = ii at hfin ⊢
  clear M M0 B0 KB hii hm
  go_enter Try.func35, Try.ntmps35
  go_wp2_with fail
  rw [← hW0.out, ← hgk.out]
  refine HI.out.mono ?_
  rintro e w1 ⟨rfl, rfl⟩
  go_wp2_with fail
  refine HG.out.mono ?_
  intro e w1 h1
  obtain ⟨rfl, h2⟩ := hfin.out e w1 h1
  replace h2 := hid h2
  clear HG h1
  go_wp2_with fail
  go_ret
  exact ⟨rfl, h2.out⟩
set_option maxHeartbeats 1000000 in
set_option maxRecDepth 20000 in
theorem turn_any (M : Ms w gm gs N cs S L X bk k) (bk' : Bool) (j : Nat) (hj : j < L.length) (hk : k = if bk then j + 1 else j) (hne : bk' = !bk) :
    Calls Try.prog 61 #[.pointer (Option.some ⟨gm, 0, none⟩), .bool bk'] w (Post w gm gs N cs S L X bk' k) := by
  have hmf : ∀ (fn : Fn) (first cap : Array Value) (w : World), (Instr.makeFunc fn first cap).run Try.prog w = .ok (.func fn first cap) w := fun _ _ _ _ => rfl
  obtain ⟨W0, hW0⟩ : ∃ W, W = w.alloc (.cells #[.bool bk'] 4) := ⟨_, rfl⟩
  obtain ⟨g2, hg2⟩ : ∃ g, g = w.heap.size := ⟨_, rfl⟩
  have B0 : Below w.heap.size w W0 := by rw [hW0]; exact box_below _ _
  have K2 : W0.heap[g2]? = Option.some (.cells #[.bool bk'] 4) := by rw [hW0, hg2]; exact new_at _ _
  have M0 := M.later B0
  have hh : Hl w gm gs N cs S X bk (pl L bk k) := by
    rcases M.h with h | ⟨h1, h2, h3⟩
    · exact h
    · subst h1 h2; simp at hk
  obtain ⟨gl, cc, H, h1, h2, h3, h4, h5, h6, h7⟩ := hh
  obtain ⟨hpos, htop⟩ := M.t.a.top bk k j h2 h3 hj hk
  have HT := hid (top_any gm gl H.length cc _ bk H W0 (h1.later B0) hpos)
  have hLok := M.t.a.ok _ (get_mem zi hj)
  have hLks := M.t.a.ks _ (get_mem zi hj)
  rw [htop] at HT
  obtain ⟨x, hx⟩ : ∃ x, x = L.getD j zi := ⟨_, rfl⟩
  rw [← hx] at HT hLok hLks
  obtain ⟨⟨xk, xs, xc, xv⟩, xf⟩ := x
  unfold toH Hm.hv at HT
  dsimp only at HT hLok hLks
  have hq : Hid (∀ k3 s3 c3, Aft xk xs xc k3 s3 c3 → ∀ f, f < N → Tn bk' xf f (S.getD f zs).n (pl L bk k f) (S.getD f zs).ys (ik k3 s3 c3) (ik xk xs xc) (pl L bk' k f)) := by
    intro k3 s3 c3 hA f hf
    have hxf : (L.getD j zi).f = xf := by rw [← hx]
    have hxe : (L.getD j zi).e = ⟨xk, xs, xc, xv⟩ := by rw [← hx]
    have hkj : k = j ∨ k = j + 1 := by cases bk <;> simp at hk <;> omega
    have hsk : ∀ m : Nat, (m : Int) = cnt L f k → pl L bk' k f = sk bk' m := by
      intro m hm
      unfold pl sk
      rw [← hm]
      cases bk' with
      | false => rfl
      | true => simp only [if_true]; omega
    rcases Nat.lt_trichotomy f xf with e | e | e
    · exact .inr (.inl ⟨e, cnt L f k, M.t.a.cut_lt hj hkj (by rw [hxf]; exact e) (fun y hy => by rw [hxe]; exact hA y hy), hsk _ rfl⟩)
    · refine .inl ⟨e, ?_⟩
      have hle := M.t.a.cnt_le hf k
      rw [M.t.a.l f hf] at hle
      have hs := cnt_succ (k := j) f hj
      rw [hxf, if_pos e.symm] at hs
      have hle2 := M.t.a.cnt_le hf (j + 1)
      rw [M.t.a.l f hf] at hle2
      subst hne
      cases bk with
      | false => simp only [Bool.false_eq_true, if_false] at hk; subst hk; show (cnt L f k : Int) - 1 = max ((cnt L f k : Int) - 1) (-1); omega
      | true => simp only [if_true] at hk; subst hk; show (cnt L f (j + 1) : Int) = min ((cnt L f (j + 1) : Int) - 1 + 1) _; omega
    · refine .inr (.inr ⟨e, cnt L f k, ?_, hsk _ rfl⟩)
      have := M.t.a.cut_gt hj hkj hf (by rw [hxf]; exact e)
      rw [hxe] at this
      exact this
  have HGa : Hid (∀ (W : World) (g1 g3 g4 : Nat) k3 s3 c3, Below W0.heap.size W0 W → W0.heap.size ≤ g1 → W0.heap.size ≤ g3 → W0.heap.size ≤ g4 → Aft xk xs xc k3 s3 c3 →
      W.heap[g1]? = Option.some (.cells #[.int .i64 xf, .string xk, .int .u64 xs, .int .i64 xc, .string xv] 79) → W.heap[g3]? = Option.some (.cells #[.string k3, .int .u64 s3, .int .i64 c3] 33) → W.heap[g4]? = Option.some (.cells #[.string xk, .int .u64 xs, .int .i64 xc] 33) →
      Calls Try.prog 52 #[.pointer (Option.some ⟨gm, 0, none⟩), .bool bk', .func (Fn.func 72) #[] #[.pointer (Option.some ⟨g1, 0, none⟩), .pointer (Option.some ⟨g2, 0, none⟩), .pointer (Option.some ⟨g3, 0, none⟩), .pointer (Option.some ⟨g4, 0, none⟩)]] W (Post W gm gs N cs S L X bk' k)) := by
    intro W g1 g3 g4 k3 s3 c3 B l1 l3 l4 hA K1 K3 K4
    have B2 := Below.up B0 B
    have MW := M.later B2
    refine gath MW bk' k M.kl _ _ ?_
    intro f hf hn x0 y0 V F Lw hx hy
    have hno : ∀ g, w.heap.size ≤ g → ¬ Mine S g := fun g hg hm => by have := M.o.mine hm; omega
    have hsz := B0.size
    have q1 : V.heap[g1]? = _ := (F.block g1 (blk_lt K1) (hno _ (by omega))).trans K1
    have q2 : V.heap[g2]? = _ := (F.block g2 (Nat.lt_of_lt_of_le (blk_lt K2) B.size) (hno _ (by omega))).trans ((B.block g2 (blk_lt K2)).trans K2)
    have q3 : V.heap[g3]? = _ := (F.block g3 (blk_lt K3) (hno _ (by omega))).trans K3
    have q4 : V.heap[g4]? = _ := (F.block g4 (blk_lt K4) (hno _ (by omega))).trans K4
    exact gturn_any x0 y0 g1 g2 g3 g4 _ _ _ xf f bk' _ _ _ k3 s3 c3 xk xs xc V Lw (pl_bd M.t.a bk k f hf) (M.t.len f hf)
      ⟨cell_of q1 0 _ rfl, cell_of q2 0 _ rfl, cell_of q3 0 _ rfl, cell_of q3 1 _ rfl, cell_of q3 2 _ rfl, cell_of q4 0 _ rfl, cell_of q4 1 _ rfl, cell_of q4 2 _ rfl⟩ (hq.out k3 s3 c3 hA f hf) hx hy
  have hfin : Hid (∀ W e w', Below W0.heap.size W0 W → Post W gm gs N cs S L X bk' k e w' → e = .returned (.bool (ins L bk' k)) ∧ Ms w' gm gs N cs S L X bk' k ∧ Fp (fun j => ¬ X j) w w') := by
    rintro W e w' b ⟨h1, h2, h3⟩
    exact ⟨h1, h2, (Fp.of (Below.up B0 b)).tr (h3.wide (fun j _ h => .inl h))⟩
  have HK := hid (fun W => mkeyOf_any xk xs xc xv W)
  have HA := hid (fun W => after_any xk xs xc W hLks hLok.2.1 hLok.2.2.1)
  have K2z := hid (fun W (B : Below W0.heap.size W0 W) => (B.block g2 (blk_lt K2)).trans K2)
  replace hW0 := hid hW0
  replace hg2 := hid hg2
  unfold Post
  generalize hii : ins L bk' k = ii at hfin ⊢
  clear M M0 B0 K2 hii h1 h2 h3 h4 h5 h6 h7 hpos htop hLok hLks hq hx hk hne
  go_enter Try.func61, Try.ntmps61
  go_wp2_with fail
  rw [← hW0.out, ← hg2.out]
  refine HT.out.mono ?_
  rintro e w1 ⟨rfl, b1⟩
  obtain ⟨W1, hW1⟩ : ∃ W, W = w1.alloc (.cells #[.int .i64 xf, .string xk, .int .u64 xs, .int .i64 xc, .string xv] 79) := ⟨_, rfl⟩
  obtain ⟨g1, hg1⟩ : ∃ g, g = w1.heap.size := ⟨_, rfl⟩
  have B1 : Below W0.heap.size W0 W1 := by rw [hW1]; exact Below.up b1 (box_below _ _)
  have l1 : W0.heap.size ≤ g1 := by rw [hg1]; exact b1.size
  have K1 : W1.heap[g1]? = Option.some (.cells #[.int .i64 xf, .string xk, .int .u64 xs, .int .i64 xc, .string xv] 79) := by rw [hW1, hg1]; exact new_at _ _
  replace hW1 := hid hW1
  replace hg1 := hid hg1
  replace B1 := hid B1
  replace K1 := hid K1
  replace l1 := hid l1
  clear b1 HT
  go_wp2_with fail
  rw [← hW1.out, ← hg1.out]
  refine (HK.out W1).mono ?_
  rintro e w2 ⟨rfl, b2⟩
  obtain ⟨W2, hW2⟩ : ∃ W, W = w2.alloc (.cells #[.string xk, .int .u64 xs, .int .i64 xc] 33) := ⟨_, rfl⟩
  obtain ⟨g4, hg4⟩ : ∃ g, g = w2.heap.size := ⟨_, rfl⟩
  have b2' : Below W1.heap.size W1 W2 := by rw [hW2]; exact Below.up b2 (box_below _ _)
  have B2 : Below W0.heap.size W0 W2 := Below.up B1.out b2'
  have l4 : W0.heap.size ≤ g4 := by rw [hg4]; exact Nat.le_trans B1.out.size b2.size
  have K1b : W2.heap[g1]? = _ := (b2'.block g1 (blk_lt K1.out)).trans K1.out
  have K4 : W2.heap[g4]? = Option.some (.cells #[.string xk, .int .u64 xs, .int .i64 xc] 33) := by rw [hW2, hg4]; exact new_at _ _
  replace hW2 := hid hW2
  replace hg4 := hid hg4
  replace B2 := hid B2
  replace K1b := hid K1b
  replace K4 := hid K4
  replace l4 := hid l4
  clear b2 b2' HK K1
  go_wp2_with fail
  rw [← hW2.out, ← hg4.out]
  refine (HA.out W2).mono ?_
  rintro e w3 ⟨k3, s3, c3, rfl, hA, b3⟩
  obtain ⟨W3, hW3⟩ : ∃ W, W = w3.alloc (.cells #[.string k3, .int .u64 s3, .int .i64 c3] 33) := ⟨_, rfl⟩
  obtain ⟨g3, hg3⟩ : ∃ g, g = w3.heap.size := ⟨_, rfl⟩
  have b3' : Below W2.heap.size W2 W3 := by rw [hW3]; exact Below.up b3 (box_below _ _)
  have B3 : Below W0.heap.size W0 W3 := Below.up B2.out b3'
  have l3 : W0.heap.size ≤ g3 := by rw [hg3]; exact Nat.le_trans B2.out.size b3.size
  have K1c : W3.heap[g1]? = _ := (b3'.block g1 (blk_lt K1b.out)).trans K1b.out
  have K4c : W3.heap[g4]? = _ := (b3'.block g4 (blk_lt K4.out)).trans K4.out
  have K3 : W3.heap[g3]? = Option.some (.cells #[.string k3, .int .u64 s3, .int .i64 c3] 33) := by rw [hW3, hg3]; exact new_at _ _
  have HG3 := hid (HGa.out W3 g1 g3 g4 k3 s3 c3 B3 l1.out l3 l4.out hA K1c K3 K4c)
  have c2 := cell_of (K2z.out W3 B3) 0 _ rfl
  have hfin3 := hid (fun e w' => hfin.out W3 e w' B3)
  rw [hW3] at c2
  replace hW3 := hid hW3
  replace hg3 := hid hg3
  clear b3 b3' HA K1b K1c K4 K4c K3 B3 B2 B1 HGa K2z hA hfin l1 l3 l4
  go_wp2_with fail
  rw [← hW3.out, ← hg3.out]
  refine HG3.out.mono ?_
  intro e w4 h1
  obtain ⟨rfl, h2⟩ := hfin3.out e w4 h1
  replace h2 := hid h2
  clear HG3 h1
  go_wp2_with fail
  go_ret
  exact ⟨rfl, h2.out⟩
end
end Go.Proofs.Ytgjodfaliajlgaa.Mu

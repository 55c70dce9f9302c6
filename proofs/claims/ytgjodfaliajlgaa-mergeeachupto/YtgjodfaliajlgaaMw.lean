/- A merged cursor over lists: advance by contract. -/
import Derived.Test.YtgjodfaliajlgaaMu
import Derived.Test.YtgjodfaliajlgaaHg
import Derived.Deep.CutRange
import Derived.Deep.RegionHeld3
namespace Go.Proofs.Ytgjodfaliajlgaa.Mw
open Go.ChangeShapes Go.WideShapes Go.ChangeAt Go.RowKit
open Go.Sort (grow)
open Go.Proofs.Ytgjodfaliajlgaa.Gr hiding hid addr_add
open Go.Proofs.Ytgjodfaliajlgaa.Ik
open Go.Proofs.Ytgjodfaliajlgaa.Ee
open Go.Proofs.Ytgjodfaliajlgaa.Cm (ik)
open Go.Proofs.Ytgjodfaliajlgaa.Mi
open Go.Proofs.Ytgjodfaliajlgaa.Hp
open Go.Proofs.Ytgjodfaliajlgaa.Hm hiding hv
open Go.Proofs.Ytgjodfaliajlgaa.Ls9 (Lb c4 hr hv hb)
open Go.Proofs.Ytgjodfaliajlgaa.Lm9
open Go.Proofs.Ytgjodfaliajlgaa.Gc9
open Go.Proofs.Ytgjodfaliajlgaa.Gb9
open Go.Proofs.Ytgjodfaliajlgaa.Gd9 hiding start_any mfirst_any
open Go.Proofs.Ytgjodfaliajlgaa.Gk
open Go.Proofs.Ytgjodfaliajlgaa.Ea
open Go.Proofs.Ytgjodfaliajlgaa.Hg (replace_any)
open Go.Proofs.Ytgjodfaliajlgaa.Hk (drop_any)
open Go.Proofs.Ytgjodfaliajlgaa.Pm
open Go.Proofs.Ytgjodfaliajlgaa.Mt
set_option linter.unusedVariables false
set_option linter.unusedSimpArgs false

section
variable {w : World} {gm gs N cs : Nat} {S : List Src} {L : List It} {X : Nat → Prop} {bk : Bool} {k : Nat}
def nx (bk : Bool) (k : Nat) : Nat := if bk then k - 1 else k + 1
theorem pl_nx (hA : All S N L) {j : Nat} (hj : j < L.length) (hk : k = if bk then j + 1 else j) (f : Nat) (hf : f < N) : pl L bk (nx bk k) f = if f = (L.getD j zi).f then st bk (S.getD f zs).n (pl L bk k f) else pl L bk k f := by
  have hs := cnt_succ (k := j) f hj
  have hle := hA.cnt_le hf (j + 1)
  rw [hA.l f hf] at hle
  cases bk with
  | false =>
    simp only [Bool.false_eq_true, if_false] at hk; subst hk
    show (cnt L f (k + 1) : Int) = if _ then min ((cnt L f k : Int) + 1) _ else (cnt L f k : Int)
    by_cases e : f = (L.getD k zi).f
    · rw [if_pos e]; rw [if_pos e.symm] at hs; omega
    · rw [if_neg e]; rw [if_neg (fun h => e h.symm)] at hs; omega
  | true =>
    simp only [if_true] at hk; subst hk
    show (cnt L f (j + 1 - 1) : Int) - 1 = if _ then max ((cnt L f (j + 1) : Int) - 1 - 1) (-1) else (cnt L f (j + 1) : Int) - 1
    rw [Nat.add_sub_cancel]
    by_cases e : f = (L.getD j zi).f
    · rw [if_pos e]; rw [if_pos e.symm] at hs; omega
    · rw [if_neg e]; rw [if_neg (fun h => e h.symm)] at hs; omega
theorem pl_ne {j : Nat} (hj : j < L.length) (hk : k = if bk then j + 1 else j) (f : Nat) (hf : f ≠ (L.getD j zi).f) : pl L bk (nx bk k) f = pl L bk k f := by
  have hs := cnt_succ (k := j) f hj
  rw [if_neg (fun h => hf h.symm)] at hs
  cases bk with
  | false => simp only [Bool.false_eq_true, if_false] at hk; subst hk; show (cnt L f (k + 1) : Int) = (cnt L f k : Int); omega
  | true => simp only [if_true] at hk; subst hk; show (cnt L f (j + 1 - 1) : Int) - 1 = (cnt L f (j + 1) : Int) - 1; rw [Nat.add_sub_cancel]; omega
/-- A move of one source, its head taken over. -/
theorem adv_done (M : Ms w gm gs N cs S L X bk k) {k' gl cc : Nat} {H' : List Hd} {w3 : World} (hk : k' ≤ L.length) (hm : HM w3 gm gl (.slice (some ⟨gs, 0, none⟩) N cs) H'.length cc bk H') (hp : HP bk 0 H') (hq : H'.Perm (hds S (pl L bk k') N)) (h4 : gl ≠ gs) (h5 : ¬ Mine S gl) (h6 : ∀ f, f < N → (S.getD f zs).ga ≠ gl) (h7 : ¬ X gl)
    (o : Own w3 S (pl L bk k')) (hs : ∀ f, f < N → w3.cell? ⟨gs, f, none⟩ = some (S.getD f zs).val) (hsz : w.heap.size ≤ w3.heap.size) : Ms w3 gm gs N cs S L X bk k' :=
  ⟨M.t, hk, Nat.lt_of_lt_of_le M.b hsz, hs, o, fun j hj => Nat.lt_of_lt_of_le (M.x j hj) hsz, .inl ⟨gl, cc, H', hm, hp, hq, h4, h5, h6, h7⟩⟩
theorem own_fp {w' : World} {p : Nat → Int} {P : Nat → Prop} (o : Own w S p) (f : Fp P w w') (hN : S.length = N) (h5 : ∀ j, P j → ¬ Mine S j) (h6 : ∀ f j, P j → f < N → (S.getD f zs).ga ≠ j) : Own w' S p :=
  ⟨fun g hg hn => (o.l g hg hn).fp f (fun h => h5 _ h ⟨g, hg, hn, rfl⟩) (fun h => h6 g _ h (by omega) rfl), o.sep, o.lo⟩
/-- What advance reads while it moves a source. -/
abbrev SA (px gm gs N cs g1 xf g : Nat) (w : World) : Prop := w.cell? ⟨px, 0, none⟩ = some (.pointer (some ⟨gm, 0, none⟩)) ∧ w.cell? ⟨gm, 0, none⟩ = some (.slice (some ⟨gs, 0, none⟩) N cs) ∧ w.cell? ⟨g1, 0, none⟩ = some (.int .i64 xf) ∧ w.cell? ⟨gs, xf, none⟩ = some (.iface 40 (.pointer (some ⟨g, 0, none⟩)))
set_option maxHeartbeats 1000000 in
set_option maxRecDepth 20000 in
theorem advance_any (M : Ms w gm gs N cs S L X bk k) (j : Nat) (hj : j < L.length) (hk : k = if bk then j + 1 else j) :
    Calls Try.prog 62 #[.pointer (some ⟨gm, 0, none⟩)] w (Post w gm gs N cs S L X bk (nx bk k)) := by
  have hmf : ∀ (fn : Fn) (first cap : Array Value) (w : World), (Instr.makeFunc fn first cap).run Try.prog w = .ok (.func fn first cap) w := fun _ _ _ _ => rfl
  obtain ⟨W0, hW0⟩ : ∃ W, W = w.alloc (.cells #[.pointer (some ⟨gm, 0, none⟩)] 24) := ⟨_, rfl⟩
  obtain ⟨px, hpx⟩ : ∃ g, g = w.heap.size := ⟨_, rfl⟩
  have B0 : Below w.heap.size w W0 := by rw [hW0]; exact box_below _ _
  have KP : W0.heap[px]? = some (.cells #[.pointer (some ⟨gm, 0, none⟩)] 24) := by rw [hW0, hpx]; exact new_at _ _
  have M0 := M.later B0
  have hh : Hl w gm gs N cs S X bk (pl L bk k) := by
    rcases M.h with h | ⟨h1, h2, h3⟩
    · exact h
    · subst h1 h2; simp at hk
  obtain ⟨gl, cc, H, h1, h2, h3, h4, h5, h6, h7⟩ := hh
  obtain ⟨hpos, htop⟩ := M.t.a.top bk k j h2 h3 hj hk
  have HT := hid (top_any gm gl H.length cc _ bk H W0 (h1.later B0) hpos)
  rw [htop] at HT
  have hfl := M.t.a.fl hj
  obtain ⟨x, hx⟩ : ∃ x, x = L.getD j zi := ⟨_, rfl⟩
  rw [← hx] at HT hfl
  obtain ⟨⟨xk, xs, xc, xv⟩, xf⟩ := x
  unfold toH Hm.hv at HT
  dsimp only at HT hfl
  have hSn := M.t.a.s xf hfl
  have hval : (S.getD xf zs).val = .iface 40 (.pointer (some ⟨(S.getD xf zs).g, 0, none⟩)) := by unfold Src.val; rw [hSn]; rfl
  have hcs := M0.s xf hfl
  rw [hval] at hcs
  have i1 : (xf : Int) < (N : Int) := by omega
  have i2 : (0 : Int) ≤ (xf : Int) := by omega
  have c0 : W0.cell? ⟨gm, 0, none⟩ = some (.slice (some ⟨gs, 0, none⟩) N cs) := Mu.msome M0
  have cp : W0.cell? ⟨px, 0, none⟩ = some (.pointer (some ⟨gm, 0, none⟩)) := cell_of KP 0 _ rfl
  have cb : W0.cell? ⟨gm, 2, none⟩ = some (.bool bk) := (h1.later B0).s2
  obtain ⟨q, hq⟩ : ∃ q, q = st bk (S.getD xf zs).n (pl L bk k xf) := ⟨_, rfl⟩
  have HE : Hid (∀ W, Below W0.heap.size W0 W → Calls Try.prog 66 #[.iface 40 (.pointer (some ⟨(S.getD xf zs).g, 0, none⟩)), .func (Fn.func 75) #[] #[.pointer (some ⟨px, 0, none⟩)]] W fun e w' => e = .returned (.tuple #[.agg (hv (S.getD xf zs).ys q), .bool (hb (S.getD xf zs).n q)]) ∧ Lc w' (S.getD xf zs).g (S.getD xf zs).ga (S.getD xf zs).n q (S.getD xf zs).ys ∧ Fp (· = (S.getD xf zs).g) W w') := by
    intro W B
    have hl := (M0.later B).o.l xf (by rw [M.t.a.n]; exact hfl) hSn
    refine enter_adv _ _ _ q _ _ _ W hl (fun W1 b => ?_)
    rw [hq]
    have B1 := Below.up B b
    exact adv1_any px gm _ _ _ bk _ _ W1 (hl.later b) (pl_bd M.t.a bk k xf hfl) (M.t.len xf hfl) ((B1.cell (block_lt_of_cell cp)).trans cp) ((B1.cell (block_lt_of_cell cb)).trans cb)
  obtain ⟨g, hg⟩ : ∃ g, g = (S.getD xf zs).g := ⟨_, rfl⟩
  rw [← hg] at HE hcs
  obtain ⟨bb, hbb⟩ : ∃ v, v = hb (S.getD xf zs).n q := ⟨_, rfl⟩
  rw [← hbb] at HE
  obtain ⟨⟨yk, ys, yc, yv⟩, hy⟩ : ∃ y, y = (hr (S.getD xf zs).ys q).getD ze := ⟨_, rfl⟩
  have hvy : hv (S.getD xf zs).ys q = #[.string yk, .int .u64 ys, .int .i64 yc, .string yv] := by unfold hv; rw [← hy]; rfl
  rw [hvy] at HE
  obtain ⟨ga, hga⟩ : ∃ v, v = (S.getD xf zs).ga := ⟨_, rfl⟩
  obtain ⟨ln, hln⟩ : ∃ v, v = (S.getD xf zs).n := ⟨_, rfl⟩
  obtain ⟨lys, hlys⟩ : ∃ v, v = (S.getD xf zs).ys := ⟨_, rfl⟩
  rw [← hga, ← hln, ← hlys] at HE
  have HR : Hid (∀ WX V, Below w.heap.size w V → Lc WX g ga ln q lys → Fp (· = g) V WX → Own WX S (pl L bk (nx bk k)) ∧ HM WX gm gl (.slice (some ⟨gs, 0, none⟩) N cs) H.length cc bk H ∧ (∀ f, f < N → WX.cell? ⟨gs, f, none⟩ = some (S.getD f zs).val) ∧ Fp (fun j => ¬ X j) w WX) := by
    intro WX V b l f
    have hb1 : xf < S.length := by rw [M.t.a.n]; exact hfl
    have hxf : xf = (L.getD j zi).f := by rw [← hx]
    have hmi : Mine S g := ⟨xf, hb1, hSn, hg⟩
    have MV := M.later b
    rw [hg] at f
    rw [hg, hga, hln, hlys] at l
    have hpq := pl_nx M.t.a hj hk
    have hq2 : pl L bk (nx bk k) xf = q := by rw [hpq xf hfl, if_pos hxf, hq]
    refine ⟨MV.o.move xf hb1 hSn (by rw [hq2]; exact l) f (fun f' hf' => ?_) (pl_bd M.t.a bk _ xf hfl), ?_, fun f' hf' => ?_, ?_⟩
    · exact pl_ne hj hk f' (by rw [← hxf]; exact hf')
    · have hV := h1.later b
      refine ⟨(f.block gm (blk_lt hV.m) (fun e => M.t.mgm ⟨xf, hb1, hSn, e⟩)).trans hV.m, hV.r.block (f.block gl hV.r.lt (fun e => h5 ⟨xf, hb1, hSn, e⟩)), hV.n, hV.ne⟩
    · have h0 := MV.s f' hf'
      exact (World.cell?_of_block (a := ⟨gs, f', none⟩) (f.block gs (block_lt_of_cell h0) (fun e => M.t.mgs ⟨xf, hb1, hSn, e⟩))).trans h0
    · exact (Fp.of b).tr (f.wide (fun j _ h => .inl (by rw [h]; exact fun hX => (M.t.x _ hX).1 ⟨xf, hb1, hSn, rfl⟩)))
  replace hW0 := hid hW0
  replace hpx := hid hpx
  replace hk := hid hk
  have hne : Hid (px ≠ g ∧ gm ≠ g ∧ gs ≠ g ∧ g < W0.heap.size ∧ ga < W0.heap.size) := by
    have hb1 : xf < S.length := by rw [M.t.a.n]; exact hfl
    have hmi : Mine S g := ⟨xf, hb1, hSn, hg⟩
    have hlt := M.o.mine hmi
    have hgl := (M.o.l xf hb1 hSn).r.lt
    exact ⟨by have := hpx.out; omega, fun e => M.t.mgm (by rw [e]; exact hmi), fun e => M.t.mgs (by rw [e]; exact hmi), by have := B0.size; omega, by rw [hga]; have := B0.size; omega⟩
  replace M := hid M
  replace M0 := hid M0
  replace hq := hid hq
  replace hbb := hid hbb
  replace hy := hid hy
  replace hvy := hid hvy
  replace hval := hid hval
  replace hSn := hid hSn
  replace hfl := hid hfl
  replace hj := hid hj
  replace hg := hid hg
  replace B0 := hid B0
  have HT1 : Hid (∀ (w3 : World) (H' : List Hd), Below w.heap.size w W0 → HM w3 gm gl (.slice (some ⟨gs, 0, none⟩) N cs) H'.length cc bk H' → HP bk 0 H' → H'.Perm (hds S (pl L bk (nx bk k)) N) → Own w3 S (pl L bk (nx bk k)) → (∀ f, f < N → w3.cell? ⟨gs, f, none⟩ = some (S.getD f zs).val) → Fp (fun j => ¬ X j) w w3 → ins L bk (nx bk k) = (!decide (H'.length = 0)) ∧ Ms w3 gm gs N cs S L X bk (nx bk k) ∧ Fp (fun j => ¬ X j) w w3) := by
    intro w3 H' _ m p' q' o s f
    have hkl : nx bk k ≤ L.length := by
      have h0 := hk.out
      have h1 := hj.out
      have h2 := M.out.kl
      unfold nx
      cases bk with
      | false => simp only [Bool.false_eq_true, if_false] at h0 ⊢; omega
      | true => simp only [if_true] at h0 ⊢; omega
    exact ⟨(ins_len M.out.t.a p' q' hkl).symm, adv_done M.out hkl m p' q' h4 h5 h6 h7 o s f.size, f⟩
  have HQ : Hid ((∀ H' : List Hd, bb = true → H'.Perm (H.set 0 ⟨(H.getD 0 zh).f, ⟨yk, ys, yc, yv⟩⟩) → H'.Perm (hds S (pl L bk (nx bk k)) N)) ∧ (∀ H' : List Hd, bb = false → H'.Perm (drp H) → H'.Perm (hds S (pl L bk (nx bk k)) N))) := by
    have hxf : xf = (L.getD j zi).f := by rw [← hx]
    have hpq := pl_nx M.out.t.a hj.out hk.out
    have hq2 : pl L bk (nx bk k) xf = q := by rw [hpq xf hfl.out, if_pos hxf, hq.out]
    have hd0 : hd xf (S.getD xf zs) (pl L bk k xf) = [H.getD 0 zh] := by
      have hb0 := hk.out
      rw [htop, hxf]
      cases bk with
      | false => simp only [Bool.false_eq_true, if_false] at hb0; subst hb0; exact M.out.t.a.hd_fwd hj.out
      | true => simp only [if_true] at hb0; subst hb0; exact M.out.t.a.hd_bwd hj.out
    have ho : ∀ g, g ≠ xf → pl L bk (nx bk k) g = pl L bk k g := fun f hf => pl_ne hj.out hk.out f (by rw [← hxf]; exact hf)
    refine ⟨fun H' hb1 hp => ?_, fun H' hb1 hp => ?_⟩
    · have hfx : (H.getD 0 zh).f = xf := by rw [htop, hxf]; rfl
      rw [hfx] at hp
      refine adv_one hfl.out h3 hpos hd0 ho ?_ hp
      rw [hq2, Ga9.hd_in hSn.out (by rw [← hbb.out]; exact hb1), ← hy.out]
    · refine adv_none hfl.out h3 hpos hd0 ho ?_ hp
      rw [hq2, Ga9.hd_out (by rw [← hbb.out]; exact hb1)]
  have hh := hid (And.intro h1 (And.intro h2 (And.intro h3 (And.intro h4 (And.intro h5 (And.intro h6 (And.intro h7 (And.intro hpos (And.intro htop hx)))))))))
  clear h1 h2 h3 h4 h5 h6 h7 hpos htop hx KP
  go_enter Try.func62, Try.ntmps62
  go_wp2_with fail
  rw [← hW0.out, ← hpx.out]
  refine HT.out.mono ?_
  rintro e w1 ⟨rfl, b1⟩
  obtain ⟨W1, hW1⟩ : ∃ W, W = w1.alloc (.cells #[.int .i64 xf, .string xk, .int .u64 xs, .int .i64 xc, .string xv] 79) := ⟨_, rfl⟩
  obtain ⟨g1, hg1⟩ : ∃ g, g = w1.heap.size := ⟨_, rfl⟩
  have B1 : Below W0.heap.size W0 W1 := by rw [hW1]; exact Below.up b1 (box_below _ _)
  have K1 : W1.heap[g1]? = some (.cells #[.int .i64 xf, .string xk, .int .u64 xs, .int .i64 xc, .string xv] 79) := by rw [hW1, hg1]; exact new_at _ _
  have d0 := (B1.cell (block_lt_of_cell c0)).trans c0
  have dp := (B1.cell (block_lt_of_cell cp)).trans cp
  have ds := (B1.cell (block_lt_of_cell hcs)).trans hcs
  have d1 := cell_of K1 0 _ rfl
  have bW1 : Hid (Below W0.heap.size W0 W1) := B1
  replace K1 := hid K1
  have l1 : Hid (W0.heap.size ≤ g1) := by show _ ≤ _; rw [hg1]; exact b1.size
  clear b1 HT c0 cp hcs cb
  replace hW1 := hid hW1
  replace hg1 := hid hg1
  go_upto_region 2 with fail
  rw [← hW1.out, ← hg1.out]
  have SW1 : SA px gm gs N cs g1 xf g W1 := ⟨dp, d0, d1, ds⟩
  have KA : Hid (∀ (W : World) (o : Obj), SA px gm gs N cs g1 xf g W → SA px gm gs N cs g1 xf g (W.alloc o)) := by
    rintro W o ⟨a0, a1, a2, a3⟩
    have b := box_below W o
    exact ⟨(b.cell (block_lt_of_cell a0)).trans a0, (b.cell (block_lt_of_cell a1)).trans a1, (b.cell (block_lt_of_cell a2)).trans a2, (b.cell (block_lt_of_cell a3)).trans a3⟩
  have KF : Hid (∀ (W w2 : World), Fp (· = g) W w2 → SA px gm gs N cs g1 xf g W → SA px gm gs N cs g1 xf g w2) := by
    rintro W w2 f ⟨a0, a1, a2, a3⟩
    have n0 : px ≠ g := hne.out.1
    have n1 : gm ≠ g := hne.out.2.1
    have n2 : g1 ≠ g := by have := hne.out.2.2.2.1; have := l1.out; omega
    have n3 : gs ≠ g := hne.out.2.2.1
    exact ⟨(World.cell?_of_block (a := ⟨px, 0, none⟩) (f.block _ (block_lt_of_cell a0) n0)).trans a0, (World.cell?_of_block (a := ⟨gm, 0, none⟩) (f.block _ (block_lt_of_cell a1) n1)).trans a1, (World.cell?_of_block (a := ⟨g1, 0, none⟩) (f.block _ (block_lt_of_cell a2) n2)).trans a2, (World.cell?_of_block (a := ⟨gs, xf, none⟩) (f.block _ (block_lt_of_cell a3) n3)).trans a3⟩
  have KS : Hid (∀ (W : World) (a i : Nat) (v : Value), W1.heap.size ≤ a → SA px gm gs N cs g1 xf g W → SA px gm gs N cs g1 xf g (W.setCell ⟨a, i, none⟩ v)) := by
    rintro W a i v ha ⟨a0, a1, a2, a3⟩
    have m0 : px < W1.heap.size := block_lt_of_cell SW1.1
    have m1 : gm < W1.heap.size := block_lt_of_cell SW1.2.1
    have m2 : g1 < W1.heap.size := block_lt_of_cell SW1.2.2.1
    have m3 : gs < W1.heap.size := block_lt_of_cell SW1.2.2.2
    exact ⟨(World.cell?_setCell_far _ _ _ _ (by show a ≠ px; omega)).trans a0, (World.cell?_setCell_far _ _ _ _ (by show a ≠ gm; omega)).trans a1, (World.cell?_setCell_far _ _ _ _ (by show a ≠ g1; omega)).trans a2, (World.cell?_setCell_far _ _ _ _ (by show a ≠ gs; omega)).trans a3⟩
  have KB : Hid (∀ (W : World) (o o' : Obj), W1.heap.size ≤ W.heap.size → SA px gm gs N cs g1 xf g (W.alloc o) → SA px gm gs N cs g1 xf g (W.alloc o')) := by
    rintro W o o' hs ⟨a0, a1, a2, a3⟩
    have m0 : px < W1.heap.size := block_lt_of_cell SW1.1
    have m1 : gm < W1.heap.size := block_lt_of_cell SW1.2.1
    have m2 : g1 < W1.heap.size := block_lt_of_cell SW1.2.2.1
    have m3 : gs < W1.heap.size := block_lt_of_cell SW1.2.2.2
    have hb : ∀ g i, g < W1.heap.size → (W.alloc o').cell? ⟨g, i, none⟩ = (W.alloc o).cell? ⟨g, i, none⟩ := fun g i hg => by
      have e1 := (box_below W o).block g (by omega)
      have e2 := (box_below W o').block g (by omega)
      exact World.cell?_of_block (a := ⟨g, i, none⟩) (e2.trans e1.symm)
    exact ⟨(hb _ _ m0).trans a0, (hb _ _ m1).trans a1, (hb _ _ m2).trans a2, (hb _ _ m3).trans a3⟩
  have KZ : Hid (∀ w2 : World, Fp (· = g) (W1.alloc (.cells #[.string ⟨#[]⟩, .int .u64 0, .int .i64 0, .string ⟨#[]⟩] 43)).drew w2 → w2.heap[W1.heap.size]? = some (.cells #[.string ⟨#[]⟩, .int .u64 0, .int .i64 0, .string ⟨#[]⟩] 43)) := by
    intro w2 f
    have h0 : (W1.alloc (.cells #[.string ⟨#[]⟩, .int .u64 0, .int .i64 0, .string ⟨#[]⟩] 43)).drew.heap[W1.heap.size]? = _ := new_at W1 (.cells #[.string ⟨#[]⟩, .int .u64 0, .int .i64 0, .string ⟨#[]⟩] 43)
    exact (f.block W1.heap.size (blk_lt h0) (by have := hne.out.2.2.2.1; have := B1.size; show W1.heap.size ≠ g; omega)).trans h0
  have HWW : Hid (Below w.heap.size w W1) := Below.up B0.out B1
  have BA : Hid (∀ w2, Lc w2 g ga ln q lys → Fp (· = g) W1.drew w2 → ∃ WX g4, WX = w2.alloc (.cells #[.string yk, .int .u64 ys, .int .i64 yc, .string yv] 43) ∧ g4 = w2.heap.size ∧ WX.heap[g4]? = some (.cells #[.string yk, .int .u64 ys, .int .i64 yc, .string yv] 43) ∧ W1.heap.size ≤ g4 ∧ Lc WX g ga ln q lys ∧ Fp (· = g) W1 WX) := fun w2 l f =>
    ⟨_, _, rfl, rfl, new_at _ _, f.size, l.later (box_below _ _), ((Fp.of (drew_below W1)).tr (f.wide (fun j _ h => .inl h))).below (box_below _ _)⟩
  have BB : Hid (∀ w2, Lc w2 g ga ln q lys → Fp (· = g) (W1.alloc (.cells #[.string ⟨#[]⟩, .int .u64 0, .int .i64 0, .string ⟨#[]⟩] 43)).drew w2 → ∃ WX g4, WX = ((((w2.setCell ⟨W1.heap.size, 0, none⟩ (.string yk)).setCell ⟨W1.heap.size, 1, none⟩ (.int .u64 ys)).setCell ⟨W1.heap.size, 2, none⟩ (.int .i64 yc)).setCell ⟨W1.heap.size, 3, none⟩ (.string yv)) ∧ g4 = W1.heap.size ∧ WX.heap[g4]? = some (.cells #[.string yk, .int .u64 ys, .int .i64 yc, .string yv] 43) ∧ W1.heap.size ≤ g4 ∧ Lc WX g ga ln q lys ∧ Fp (· = g) W1 WX) := fun w2 l f => by
    have kz := KZ.out _ f
    have F : Fp (· = g) W1 w2 := (Fp.of (Below.up (box_below W1 _) (drew_below _))).tr (f.wide (fun j _ h => .inl h))
    have n1 := hne.out.2.2.2.1
    have n2 := hne.out.2.2.2.2
    have n3 := B1.size
    have F4 : Fp (fun j => j = W1.heap.size) w2 _ := ((((Fp.refl (· = W1.heap.size) w2).set (g := W1.heap.size) (.inl rfl) 0 (.string yk)).set (g := W1.heap.size) (.inl rfl) 1 (.int .u64 ys)).set (g := W1.heap.size) (.inl rfl) 2 (.int .i64 yc)).set (g := W1.heap.size) (.inl rfl) 3 (.string yv)
    exact ⟨_, _, rfl, rfl, set_of (set_of (set_of (set_of kz 0 (.string yk)) 1 (.int .u64 ys)) 2 (.int .i64 yc)) 3 (.string yv), Nat.le_refl _, l.fp F4 (by omega) (by omega), F.tr (F4.wide (fun j _ h => .inr (by omega)))⟩
  have HB1 : Hid (Below W0.heap.size W0 W1.drew) := Below.up B1 (drew_below _)
  have HB2 : Hid (∀ o, Below W0.heap.size W0 (W1.alloc o).drew) := fun o => Below.up (Below.up B1 (box_below _ o)) (drew_below _)
  have KD : Hid (∀ o, SA px gm gs N cs g1 xf g (W1.alloc o).drew) := fun o => KA.out W1 o SW1
  have dpd : W1.drew.cell? ⟨px, 0, none⟩ = some (.pointer (some ⟨gm, 0, none⟩)) := dp
  have d0d : W1.drew.cell? ⟨gm, 0, none⟩ = some (.slice (some ⟨gs, 0, none⟩) N cs) := d0
  have d1d : W1.drew.cell? ⟨g1, 0, none⟩ = some (.int .i64 xf) := d1
  have dsd : W1.drew.cell? ⟨gs, xf, none⟩ = some (.iface 40 (.pointer (some ⟨g, 0, none⟩))) := ds
  replace B1 := hid B1
  replace SW1 := hid SW1
  clear dp d0 d1 ds
  go_region_held3 (fun W => W.cell? ⟨px, 0, none⟩ = some (.pointer (some ⟨gm, 0, none⟩)) ∧ W.cell? ⟨gm, 0, none⟩ = some (.slice (some ⟨gs, 0, none⟩) N cs) ∧ W.cell? ⟨g1, 0, none⟩ = some (.int .i64 xf) ∧ W.cell? ⟨gs, xf, none⟩ = some (.iface 40 (.pointer (some ⟨g, 0, none⟩))))
    (first | (with_reducible exact ⟨dpd, d0d, d1d, dsd⟩) | (with_reducible exact KD.out _) | (with_reducible refine KA.out _ _ ?_; assumption) | (with_reducible refine KF.out _ _ f2 ?_; assumption) | (with_reducible refine KB.out _ ?oo _ ?h1 ?h2; (case h2 => assumption); (case h1 => assumption)) | (with_reducible refine KS.out _ _ _ _ ?_ (KS.out _ _ _ _ ?_ (KS.out _ _ _ _ ?_ (KS.out _ _ _ _ ?_ ?_))); exact Nat.le_refl _; exact Nat.le_refl _; exact Nat.le_refl _; exact Nat.le_refl _; assumption))
    (first | (go_at_call 66; refine (HE.out _ ?_).mono ?_; (with_reducible exact HB1.out); rintro e w2 ⟨rfl, l2, f2⟩; have f2s : W1.heap.size ≤ w2.heap.size := f2.size) | (go_at_call 66; refine (HE.out _ ?_).mono ?_; (with_reducible exact HB2.out _); rintro e w2 ⟨rfl, l2, f2⟩; have kz := KZ.out _ f2; have z0 := cell_of kz 0 (.string ⟨#[]⟩) rfl; have z1 := cell_of kz 1 (.int .u64 0) rfl; have z2 := cell_of kz 2 (.int .i64 0) rfl; have z3 := cell_of kz 3 (.string ⟨#[]⟩) rfl; have y0 := fz_of kz 0; have y1 := fz_of kz 1; have y2 := fz_of kz 2; have y3 := fz_of kz 3; replace kz := hid kz))
  all_goals (first | (with_reducible have hb := BA.out w2 l2 f2) | (with_reducible have hb := BB.out w2 l2 f2))
  all_goals (obtain ⟨WX, g4, hWX, hg4, kx, sx, lx, fx⟩ := hb; rw [← hWX, ← hg4]; clear hWX hg4)
  all_goals (rename_i hHd; clear hHd)
  all_goals (try clear z0 z1 z2 z3 y0 y1 y2 y3)
  all_goals clear l2 f2 dpd d0d d1d dsd
  all_goals clear BA BB KA KF KS KB KZ HB1 HB2 KD HE
  all_goals
    have kp : WX.cell? ⟨px, 0, none⟩ = some (.pointer (some ⟨gm, 0, none⟩)) := (World.cell?_of_block (a := ⟨px, 0, none⟩) (fx.block px (block_lt_of_cell SW1.out.1) hne.out.1)).trans SW1.out.1
    obtain ⟨oX, mX, sX, fX⟩ := HR.out WX W1 HWW.out lx fx
    have hgm : gm < px := by rw [hpx.out]; exact blk_lt hh.out.1.m
    have hgl : gl < px := by rw [hpx.out]; exact hh.out.1.r.lt
    have hgs : gs < px := by rw [hpx.out]; exact M.out.b
    have hpg : px < g4 := by have h1 : px < W1.heap.size := block_lt_of_cell SW1.out.1; omega
    have h8 : H.length ≤ 1048576 := by
      have e1 := hh.out.2.2.1.length_eq
      have e2 := hds_len S (pl L bk k) N
      have e3 := M.out.t.n8
      omega
    have hmine : ¬ Mine S gl ∧ ¬ Mine S gm := ⟨hh.out.2.2.2.2.1, M.out.t.mgm⟩
    have hxx : ¬ X gl ∧ (∀ j, X j → j ≠ gm) := ⟨hh.out.2.2.2.2.2.2.1, fun j hj => (M.out.t.x j hj).2.1⟩
    have hga2 : ∀ f, f < N → (S.getD f zs).ga ≠ gl ∧ (S.getD f zs).ga ≠ gm := fun f hf => ⟨hh.out.2.2.2.2.2.1 f hf, M.out.t.ga f hf⟩
    have hfinal : Hid (∀ (w3 : World) (H' : List Hd), HM w3 gm gl (.slice (some ⟨gs, 0, none⟩) N cs) H'.length cc bk H' → HP bk 0 H' → H'.Perm (hds S (pl L bk (nx bk k)) N) → Fp (fun j => j = gm ∨ j = gl) WX w3 → w3.cell? ⟨px, 0, none⟩ = some (.pointer (some ⟨gm, 0, none⟩)) ∧ ins L bk (nx bk k) = (!decide (H'.length = 0)) ∧ Ms w3 gm gs N cs S L X bk (nx bk k) ∧ Fp (fun j => ¬ X j) w w3) := by
      intro w3 H' m p' q' f
      refine ⟨(World.cell?_of_block (a := ⟨px, 0, none⟩) (f.block px (block_lt_of_cell kp) (by omega))).trans kp, HT1.out w3 H' B0.out m p' q' ?_ ?_ ?_⟩
      · refine own_fp oX f M.out.t.a.n ?_ ?_
        · rintro j (e | e)
          · rw [e]; exact hmine.2
          · rw [e]; exact hmine.1
        · rintro f2 j (e | e) hf
          · rw [e]; exact (hga2 f2 hf).2
          · rw [e]; exact (hga2 f2 hf).1
      · intro f' hf'
        have h0 := sX f' hf'
        exact (World.cell?_of_block (a := ⟨gs, f', none⟩) (f.block gs (block_lt_of_cell h0) (by
          rintro (e | e)
          · exact M.out.t.ne e
          · exact hh.out.2.2.2.1 e.symm))).trans h0
      · exact fX.tr (f.wide (fun j _ h => .inl (fun hX => by
          rcases h with h | h
          · exact hxx.2 j hX h
          · rw [h] at hX; exact hxx.1 hX)))
    have HD := hid (drop_any gm gl H.length (H.length - 1) cc _ bk H WX mX hh.out.2.1 (by have := hh.out.2.2.2.2.2.2.2.1; omega) h8)
    have HRp := hid (fun W (b : Below WX.heap.size WX W) => replace_any gm gl H.length cc _ bk H ⟨yk, ys, yc, yv⟩ W (mX.later b) hh.out.2.1 hh.out.2.2.2.2.2.2.2.1 h8)
    replace hfinal := hid hfinal
    have e0 : WX.drew.cell? ⟨g4, 0, none⟩ = some (.string yk) := cell_of kx 0 _ rfl
    have e1 : WX.drew.cell? ⟨g4, 1, none⟩ = some (.int .u64 ys) := cell_of kx 1 _ rfl
    have e2 : WX.drew.cell? ⟨g4, 2, none⟩ = some (.int .i64 yc) := cell_of kx 2 _ rfl
    have e3 : WX.drew.cell? ⟨g4, 3, none⟩ = some (.string yv) := cell_of kx 3 _ rfl
    have e4 : WX.drew.cell? ⟨px, 0, none⟩ = some (.pointer (some ⟨gm, 0, none⟩)) := kp
    have n1 : px ≠ gl := by omega
    have n2 : g4 ≠ gl := by omega
    have KR : Hid (∀ w3 : World, Fp (· = gl) WX.drew w3 → w3.cell? ⟨px, 0, none⟩ = some (.pointer (some ⟨gm, 0, none⟩)) ∧ w3.cell? ⟨g4, 0, none⟩ = some (.string yk) ∧ w3.cell? ⟨g4, 1, none⟩ = some (.int .u64 ys) ∧ w3.cell? ⟨g4, 2, none⟩ = some (.int .i64 yc) ∧ w3.cell? ⟨g4, 3, none⟩ = some (.string yv)) := by
      intro w3 f
      have b1 := f.block px (block_lt_of_cell e4) n1
      have b2 := f.block g4 (block_lt_of_cell e0) n2
      exact ⟨(World.cell?_of_block (a := ⟨px, 0, none⟩) b1).trans e4, (World.cell?_of_block (a := ⟨g4, 0, none⟩) b2).trans e0, (World.cell?_of_block (a := ⟨g4, 1, none⟩) b2).trans e1, (World.cell?_of_block (a := ⟨g4, 2, none⟩) b2).trans e2, (World.cell?_of_block (a := ⟨g4, 3, none⟩) b2).trans e3⟩
    have dW : Hid (Below WX.heap.size WX WX.drew) := drew_below _
    clear kx lx fx oX mX sX fX hgm hgl hgs hpg h8 hmine hxx hga2 n1 n2 sx M M0 hq hbb hy hvy hval hSn hfl hg hga hln hlys hne HR hj hk B0 HT1 hh bW1 B1 K1 hW1 hg1 l1 SW1 HWW hW0 hpx
    unfold Post
  all_goals
    cases bb with
    | false =>
      clear e0 e1 e2 e3 KR HRp dW
      go_wp2_with fail
      refine HD.out.mono ?_
      rintro e w3 ⟨rfl, H', M3, P3, Q3, F3⟩
      have hn' : H'.length = H.length - 1 := M3.n
      rw [← hn'] at M3
      obtain ⟨kp3, hi, hm3, hf3⟩ := hfinal.out w3 H' M3 P3 (HQ.out.2 H' (by trivial) Q3) F3
      have HI := hid (isempty_any gm _ _ _ w3 M3.s1)
      generalize hdd : decide (H'.length = 0) = dd at HI hi
      have hfin : Hid (ins L bk (nx bk k) = (!dd) ∧ Ms w3 gm gs N cs S L X bk (nx bk k) ∧ Fp (fun j => ¬ X j) w w3) := ⟨hi, hm3, hf3⟩
      clear hi hm3 hf3 hfinal HD M3 P3 Q3 F3 hn' hdd HQ
      go_wp2_with fail
      refine HI.out.mono ?_
      rintro e w4 ⟨rfl, rfl⟩
      clear HI
      go_wp2_with fail
      go_ret
      exact ⟨by rw [hfin.out.1]; rfl, hfin.out.2⟩
    | true =>
      go_wp2_with fail
      go_region_held3 (fun W => W.cell? ⟨px, 0, none⟩ = some (.pointer (some ⟨gm, 0, none⟩)) ∧ W.cell? ⟨g4, 0, none⟩ = some (.string yk) ∧ W.cell? ⟨g4, 1, none⟩ = some (.int .u64 ys) ∧ W.cell? ⟨g4, 2, none⟩ = some (.int .i64 yc) ∧ W.cell? ⟨g4, 3, none⟩ = some (.string yv)) (first | (with_reducible exact ⟨e4, e0, e1, e2, e3⟩) | (exact KR.out _ F3)) (first | (go_at_call 76; refine (HRp.out _ ?_).mono ?_; (with_reducible exact dW.out); rintro e w3 ⟨rfl, H', M3, P3, Q3, F3⟩))
      rename_i hHd
      clear hHd e0 e1 e2 e3 e4 KR HRp HD
      have hn' : H'.length = H.length := M3.n
      rw [← hn'] at M3
      obtain ⟨kp3, hi, hm3, hf3⟩ := hfinal.out w3 H' M3 P3 (HQ.out.1 H' (by trivial) Q3) ((Fp.of dW.out).tr (F3.wide (fun j _ h => .inl (.inr h))))
      have HI := hid (isempty_any gm _ _ _ w3 M3.s1)
      generalize hdd : decide (H'.length = 0) = dd at HI hi
      have hfin : Hid (ins L bk (nx bk k) = (!dd) ∧ Ms w3 gm gs N cs S L X bk (nx bk k) ∧ Fp (fun j => ¬ X j) w w3) := ⟨hi, hm3, hf3⟩
      clear hi hm3 hf3 hfinal M3 P3 Q3 F3 hn' hdd HQ dW
      go_wp2_with fail
      refine HI.out.mono ?_
      rintro e w4 ⟨rfl, rfl⟩
      clear HI
      go_wp2_with fail
      go_ret
      exact ⟨by rw [hfin.out.1]; rfl, hfin.out.2⟩
end
end Go.Proofs.Ytgjodfaliajlgaa.Mw

/- The law's lent, and slices.Concat of lists of entries, by their contracts. -/
import Derived.Test.YtgjodfaliajlgaaMl
import Derived.Lib.AppendZeros
namespace Go.Proofs.Ytgjodfaliajlgaa.Mc
open Go.ChangeShapes Go.WideShapes Go.ChangeAt Go.RowKit
open Go.Proofs.Ytgjodfaliajlgaa.Gr hiding hid addr_add
open Go.Proofs.Ytgjodfaliajlgaa.Ac
open Go.Proofs.Ytgjodfaliajlgaa.Ik
open Go.Proofs.Ytgjodfaliajlgaa.Ee
open Go.Proofs.Ytgjodfaliajlgaa.Sb
open Go.Proofs.Ytgjodfaliajlgaa.Ew
open Go.Proofs.Ytgjodfaliajlgaa.Sd hiding below_grown
open Go.Proofs.Ytgjodfaliajlgaa.Rsd
open Go.Proofs.Ytgjodfaliajlgaa.Ml
set_option linter.unusedVariables false
set_option linter.unusedSimpArgs false

theorem tot_one (fs : List Lf) (i : Nat) (h : i < fs.length) : (fs.getD i zl).xs.length ≤ tot fs := by
  have h1 := tot_snoc h
  have h2 := tot_take fs (i + 1)
  rw [h1, List.length_append] at h2
  omega
set_option maxHeartbeats 1000000 in
set_option maxRecDepth 20000 in
theorem lent_any (a : Option Addr) (n c : Nat) (fs : List Lf) (w : World) (H : Lsts w a n c fs) (hn8 : n ≤ 1048576) (ht8 : tot fs ≤ 1048576) :
    Calls Try.prog 22 #[.slice a n c] w fun e w' => ∃ v fs', e = .returned v ∧ Lsw w w' v fs' ∧ fs'.map Lf.xs = fs.map Lf.xs := by
  have hlen : Hid (fs.length = n) := H.s.n
  have hnc := H.s.c
  have HL : Hid (∀ W, Below w.heap.size w W → Lsts W a n c fs) := fun W b => H.later b
  clear H
  replace ht8 := hid ht8
  go_enter Try.func22, Try.ntmps22
  go_wp2_with fail
  go_loopw [3, 4] (fun vo iv wr => ∃ (i : Nat) (oa : Option Addr) (co : Nat) (gs : List Lf), iv = .int .i64 (i : Int) ∧ i ≤ n ∧ vo = .slice oa i co ∧ Hid (Lsw w wr (.slice oa i co) gs) ∧ Hid (gs.map Lf.xs = (fs.take i).map Lf.xs)) (fun _ iv _ => n - (intOf iv).toNat)
  case atStart => exact ⟨0, none, 0, [], rfl, Nat.zero_le _, rfl, Lsw.nil w, by simp [Hid]⟩
  case round =>
    obtain ⟨i, oa, co, gs, rfl, hi, rfl, HG, hgs⟩ := hrel
    have hgl : Hid (gs.length = i) := by
      show _ = _
      have := congrArg List.length hgs.out
      simp at this
      rw [this, hlen.out]; omega
    by_cases hlt : i < n
    · obtain ⟨b, o, ha, hc, HE⟩ := (HL.out wr HG.out.lo).at_ i hlt
      subst ha
      have hti := tot_one fs i (by rw [hlen.out]; exact hlt)
      have hmap : Hid ((fs.take i).map Lf.xs ++ [(fs.getD i zl).xs] = (fs.take (i + 1)).map Lf.xs) := by
        show _ = _
        rw [eL.take_snoc (xs := fs) (by rw [hlen.out]; exact hlt)]
        simp; rfl
      obtain ⟨f, hf⟩ : ∃ f, f = fs.getD i zl := ⟨_, rfl⟩
      rw [← hf] at hc HE hti hmap
      obtain ⟨fa, fn, fc, fx⟩ := f
      dsimp only at hc HE hti hmap
      have hfx : Hid (fx.length = fn) := HE.1
      have h8 : fn ≤ 1048576 := by have := ht8.out; have := hfx.out; omega
      have hok : Hid (∀ x ∈ fx, x.ok) := HE.2.2.2.1
      have m0 : (i : Int) < (n : Int) := by omega
      have m1 : (0 : Int) ≤ (i : Int) := by omega
      obtain ⟨W0, hW0⟩ : ∃ W, W = wr.alloc (.cells #[] 43) := ⟨_, rfl⟩
      obtain ⟨g0, hg0⟩ : ∃ g, g = wr.heap.size := ⟨_, rfl⟩
      have A0 : Acc eE wr W0 (.slice (some ⟨g0, 0, none⟩) 0 0) [] := by rw [hW0, hg0]; exact Acc.made eE wr
      have hc0 : Hid (W0.cell? ⟨b, o + i, none⟩ = some (.slice fa fn fc)) := (A0.lo.cell (block_lt_of_cell hc)).trans hc
      obtain ⟨v1, W1, r1, A1⟩ := A0.app (sl_of (HE.later A0.lo)) (by show (0 + fn) * 48 ≤ _; omega) (by show 0 + fn ≤ _; omega)
      rw [List.nil_append] at A1
      obtain ⟨a1, c1, hv1⟩ := A1.shape
      subst hv1
      obtain ⟨W2, hW2⟩ : ∃ W, W = W1.alloc (.cells #[.slice a1 fx.length c1] 39) := ⟨_, rfl⟩
      obtain ⟨g1, hg1⟩ : ∃ g, g = W1.heap.size := ⟨_, rfl⟩
      obtain ⟨v', W3, r3, HP⟩ := HG.out.push A1.lo A1.o hok.out hW2 (by rw [hgl.out]; omega)
      obtain ⟨oa', co', hv', _⟩ := HP.lsts
      rw [List.length_append, hgl.out] at hv'
      change v' = .slice oa' (i + 1) co' at hv'
      subst hv'
      rw [← hg1] at r3
      rw [hfx.out] at r1 hW2
      change (Builtin.append_ #[39, 39] 39 #[_, _]).run Try.prog W0 = _ at r1
      have hgs2 : Hid ((gs ++ [(⟨a1, fx.length, c1, fx⟩ : Lf)]).map Lf.xs = (fs.take (i + 1)).map Lf.xs) := by
        show _ = _
        rw [← hmap.out, List.map_append, hgs.out]; rfl
      replace r1 := hid r1
      replace r3 := hid r3
      replace HP := hid HP
      replace hW0 := hid hW0
      replace hg0 := hid hg0
      replace hW2 := hid hW2
      replace hg1 := hid hg1
      replace hti := hid hti
      replace hf := hid hf
      clear A0 A1 HG hc hmap HE
      replace hc0 := hc0.out
      rw [hW0.out] at hc0
      go_wp2_with (first | (at_builtin; rw [← hW0.out, ← hg0.out]; refine wpList_append_run rfl (.tmp 12) (.tmp 16) 39 39 rfl (.slice (some ⟨g0, 0, none⟩) 0 0) (.slice fa fn fc) (.slice a1 fn c1) rfl rfl r1.out ?_) | (at_builtin; rw [← hW2.out, ← hg1.out]; refine wpList_append_run rfl (.tmp 11) (.tmp 18) 22 22 rfl (.slice oa i co) (.slice (some ⟨g1, 0, none⟩) 1 1) (.slice oa' (i + 1) co') rfl rfl r3.out ?_))
      go_roundw
      case rel => exact ⟨i + 1, oa', co', _, by first | rfl | go_num, by omega, rfl, HP, hgs2⟩
      case measure => simp [intOf]; omega
    · have hie : i = n := by omega
      subst hie
      have hfin : Hid (gs.map Lf.xs = fs.map Lf.xs) := by
        show _ = _
        rw [hgs.out, ← hlen.out, List.take_length]
      go_wp2_with fail
      go_ret
      exact ⟨_, gs, rfl, HG.out, hfin.out⟩
end Go.Proofs.Ytgjodfaliajlgaa.Mc

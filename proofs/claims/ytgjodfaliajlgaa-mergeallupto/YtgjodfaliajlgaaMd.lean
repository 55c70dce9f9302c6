/- slices.Concat of lists of entries, and merge.All, by their contracts. -/
import Derived.Test.YtgjodfaliajlgaaMc
namespace Go.Proofs.Ytgjodfaliajlgaa.Md
open Go.ChangeShapes Go.WideShapes Go.ChangeAt Go.RowKit
open Go.Proofs.Ytgjodfaliajlgaa.Gr hiding hid addr_add
open Go.Proofs.Ytgjodfaliajlgaa.Ac
open Go.Proofs.Ytgjodfaliajlgaa.Ik
open Go.Proofs.Ytgjodfaliajlgaa.Ee
open Go.Proofs.Ytgjodfaliajlgaa.Sb
open Go.Proofs.Ytgjodfaliajlgaa.Ew
open Go.Proofs.Ytgjodfaliajlgaa.Sd hiding below_grown
open Go.Proofs.Ytgjodfaliajlgaa.Rsd
open Go.Proofs.Ytgjodfaliajlgaa.Ml
open Go.Proofs.Ytgjodfaliajlgaa.Mc
set_option linter.unusedVariables false
set_option linter.unusedSimpArgs false

theorem grow_any (n : Nat) (w : World) (h : n ≤ 1048576) :
    Calls Try.prog 59 #[.slice none 0 0, .int .i64 n] w fun e w' => ∃ v, e = .returned v ∧ Acc eE w w' v [] := by
  obtain ⟨i0, hi, hz0, hz1, hz2⟩ := info_parts eE.info
  have hb : i0.bytes = 48 := hz2
  have hs : i0.size = 4 := hz1
  have w0 : IntKind.i64.wrap (0 : Int) = 0 := by decide
  have w1 : IntKind.i64.wrap (n : Int) = (n : Int) := by rw [IntKind.wrap_i64]; omega
  by_cases hn : 0 < n
  · have c1 : ¬ (n : Int) < 0 := by omega
    have c2 : (0 : Int) < (n : Int) := by omega
    have hr := Go.Lib.run_append_nil_zeros (P := Try.prog) w 39 3 39 43 i0 _ .i64 .i64 Try.underlying39 Try.underlying3 hi hz0 n hn (by omega) (by omega) (by rw [hb]; omega)
    obtain ⟨cap, hcap⟩ : ∃ c, c = grownCap w n 0 43 := ⟨_, rfl⟩
    have k1 : n ≤ cap := by rw [hcap]; exact grownCap_ge _ _ _ _
    have k2 : cap ≤ maxLen := by rw [hcap]; exact grownCap_le_maxLen _ _ _ _ (by unfold maxLen; omega)
    rw [← hcap] at hr
    obtain ⟨W, hW⟩ : ∃ W, W = w.drew.alloc (.cells (Builtin.zeroCells eE.zv.cells n ++ Builtin.zeroCells eE.zv.cells (cap - n)) 43) := ⟨_, rfl⟩
    rw [← hW] at hr
    have hA : Hid (Acc eE w W (.slice (some ⟨w.heap.size, 0, none⟩) 0 cap) []) := by
      refine ⟨⟨rfl, .inr ⟨w.heap.size, cap, _, rfl, Nat.le_refl _, by rw [hW]; exact new_at w.drew _, Nat.zero_le _, k2, ?_, rfl⟩⟩, ?_⟩
      · rw [Array.size_append, size_zeroCells, size_zeroCells, eE.zc]
        show n * 4 + (cap - n) * 4 = cap * 4
        omega
      · rw [hW]; exact (drew_below w).trans (box_below w.drew _)
    obtain ⟨g, hg⟩ : ∃ g, g = w.heap.size := ⟨_, rfl⟩
    rw [← hg] at hr hA
    replace hcap := hid hcap
    replace hW := hid hW
    replace hg := hid hg
    replace hr := hid hr
    go_enter Try.func59, Try.ntmps59
    go_wp2_with (first | (at_builtin; refine wpList_append_run rfl (.tmp 20) (.tmp 21) 39 3 rfl (.slice none 0 0) (.int .i64 n) (.slice (some ⟨g, 0, none⟩) n cap) rfl rfl hr.out ?_))
    go_ret
    exact ⟨_, rfl, hA.out⟩
  · have h0 : n = 0 := by omega
    subst h0
    go_enter Try.func59, Try.ntmps59
    go_wp2_with fail
    go_ret
    exact ⟨_, rfl, Acc.nil eE w⟩
set_option maxHeartbeats 1000000 in
set_option maxRecDepth 20000 in
theorem concat_any (a : Option Addr) (n c : Nat) (fs : List Lf) (w : World) (H : Lsts w a n c fs) (hn8 : n ≤ 1048576) (ht8 : tot fs ≤ 1048576) :
    Calls Try.prog 43 #[.slice a n c] w fun e w' => ∃ v, e = .returned v ∧ Acc eE w w' v (all fs) := by
  have hlen : Hid (fs.length = n) := H.s.n
  have hnc := H.s.c
  have HL : Hid (∀ W, Below w.heap.size w W → Lsts W a n c fs) := fun W b => H.later b
  clear H
  replace ht8 := hid ht8
  go_enter Try.func43, Try.ntmps43
  go_wp2_with fail
  go_loopw [3, 11] (fun sv iv wr => ∃ (i s : Nat), iv = .int .i64 (i : Int) ∧ i ≤ n ∧ sv = .int .i64 (s : Int) ∧ Hid ((all (fs.take i)).length = s) ∧ wr = w) (fun _ iv _ => n - (intOf iv).toNat)
  case atStart => exact ⟨0, 0, rfl, Nat.zero_le _, rfl, rfl, rfl⟩
  case round =>
    obtain ⟨i, s, rfl, hi, rfl, hs, rfl⟩ := hrel
    have hs8 : s ≤ 1048576 := by have := tot_take fs i; have := ht8.out; have := hs.out; omega
    by_cases hlt : i < n
    · obtain ⟨b, o, ha, hc, HE⟩ := (HL.out wr (Below.refl _ _)).at_ i hlt
      subst ha
      have h2 := tot_take fs (i + 1)
      have hsn : Hid ((all (fs.take (i + 1))).length = s + (fs.getD i zl).xs.length) := by
        show _ = _
        rw [tot_snoc (by rw [hlen.out]; exact hlt), List.length_append, hs.out]
      have hfn := HE.1
      obtain ⟨f, hf⟩ : ∃ f, f = fs.getD i zl := ⟨_, rfl⟩
      rw [← hf] at hc hsn hfn
      obtain ⟨fa, fn, fc, fx⟩ := f
      dsimp only at hc hsn hfn
      rw [hfn] at hsn
      have h8 : s + fn ≤ 1048576 := by have := ht8.out; have := hsn.out; omega
      have m0 : (i : Int) < (n : Int) := by omega
      have m1 : (0 : Int) ≤ (i : Int) := by omega
      have q1 : IntKind.i64.wrap ((s : Int) + (fn : Int)) = ((s + fn : Nat) : Int) := by rw [IntKind.wrap_i64]; omega
      have q2 : ¬ (((s + fn : Nat) : Int)) < 0 := by omega
      have q3 : IntKind.i64.wrap ((i : Int) + 1) = ((i + 1 : Nat) : Int) := by rw [IntKind.wrap_i64]; omega
      replace hf := hid hf
      replace hfn := hid hfn
      clear HE h2
      go_wp2_with fail
      go_roundw
      case rel => exact ⟨i + 1, s + fn, by first | rfl | go_num, by omega, by first | rfl | go_num, hsn, by first | rfl | trivial⟩
      case measure => simp [intOf]; omega
    · have hie : i = n := by omega
      subst hie
      have m0 : ¬ (i : Int) < (i : Int) := by omega
      have HGr := hid (grow_any s wr hs8)
      go_wp2_with fail
      refine HGr.out.mono ?_
      rintro e w1 ⟨v1, rfl, A1⟩
      obtain ⟨a1, c1, hv1⟩ := A1.shape
      subst hv1
      change Acc eE wr w1 (.slice a1 0 c1) [] at A1
      replace A1 := hid A1
      obtain ⟨w, hw⟩ : ∃ W, W = wr := ⟨_, rfl⟩
      rw [← hw] at A1 HL
      replace hw := hid hw
      clear HGr hs
      go_wp2_with fail
      go_loopw [6, 27] (fun vo iv wr => ∃ (i : Nat) (oa : Option Addr) (lo co : Nat), iv = .int .i64 (i : Int) ∧ i ≤ fs.length ∧ vo = .slice oa lo co ∧ Hid (Acc eE w wr (.slice oa lo co) (all (fs.take i)))) (fun _ iv _ => fs.length - (intOf iv).toNat)
      case atStart => exact ⟨0, a1, 0, c1, rfl, Nat.zero_le _, rfl, A1⟩
      case round =>
        clear A1
        obtain ⟨j, oa, lo, co, rfl, hj, rfl, AO⟩ := hrel
        have hlo : Hid ((all (fs.take j)).length = lo) := by
          show _ = _
          obtain ⟨a2, c2, e2⟩ := AO.out.shape
          injection e2 with _ e3 _
          exact e3.symm
        by_cases hlt : j < i
        · obtain ⟨b, o, ha, hc, HE⟩ := (HL.out wr AO.out.lo).at_ j hlt
          subst ha
          have h2 := tot_take fs (j + 1)
          have hts := tot_snoc (fs := fs) (i := j) (by rw [hlen.out]; exact hlt)
          rw [hts, List.length_append, hlo.out] at h2
          have hfn := HE.1
          obtain ⟨f, hf⟩ : ∃ f, f = fs.getD j zl := ⟨_, rfl⟩
          rw [← hf] at hc hfn h2 hts HE
          obtain ⟨fa, fn, fc, fx⟩ := f
          dsimp only at hc hfn h2 hts HE
          have h8 : lo + fn ≤ 1048576 := by have := ht8.out; omega
          have m0 : (j : Int) < (i : Int) := by omega
          have m1 : (0 : Int) ≤ (j : Int) := by omega
          have q3 : IntKind.i64.wrap ((j : Int) + 1) = ((j + 1 : Nat) : Int) := by rw [IntKind.wrap_i64]; omega
          obtain ⟨v1, W1, r1, A1⟩ := AO.out.app (sl_of HE) (by rw [hlo.out]; show (lo + fn) * 48 ≤ _; omega) (by rw [hlo.out]; omega)
          rw [← hts] at A1
          obtain ⟨a1, c1, hv1⟩ := A1.shape
          obtain ⟨l1, hl1⟩ : ∃ l, l = (all (fs.take (j + 1))).length := ⟨_, rfl⟩
          rw [← hl1] at hv1
          subst hv1
          change (Builtin.append_ #[39, 39] 39 #[_, _]).run Try.prog _ = _ at r1
          replace r1 := hid r1
          replace A1 := hid A1
          replace hf := hid hf
          replace hfn := hid hfn
          replace hts := hid hts
          replace hl1 := hid hl1
          clear HE h2 AO
          go_wp2_with (first | (at_builtin; refine wpList_append_run rfl (.tmp 31) (.tmp 32) 39 39 rfl (.slice oa lo co) (.slice fa fn fc) (.slice a1 l1 c1) rfl rfl r1.out ?_))
          go_roundw
          case rel => exact ⟨j + 1, _, _, _, by first | rfl | go_num, by have := hlen.out; omega, rfl, A1⟩
          case measure => (simp [intOf]; have := hlen.out; omega)
        · have hje : j = i := by have := hlen.out; omega
          subst hje
          have hfin : Hid (Acc eE w wr (.slice oa lo co) (all fs)) := by
            have := AO.out
            rw [← hlen.out, List.take_length] at this
            exact this
          clear AO
          go_wp2_with fail
          go_ret
          exact ⟨.slice oa lo co, rfl, by rw [← hw.out]; exact hfin.out⟩
theorem all_ok {w : World} {a : Option Addr} {n c : Nat} {fs : List Lf} (H : Lsts w a n c fs) : ∀ x ∈ all fs, x.ok := by
  intro x hx
  unfold all at hx
  obtain ⟨f, hf, hxf⟩ := List.mem_flatMap.1 hx
  exact (H.e f hf).2.2.2.1 x hxf
/-- merge.All. -/
theorem mall_any (a : Option Addr) (n c : Nat) (fs : List Lf) (w : World) (H : Lsts w a n c fs) (hn8 : n ≤ 1048576) (ht8 : tot fs ≤ 1048576) :
    Calls Try.prog 23 #[.slice a n c] w fun e w' => ∃ g, e = .returned (.slice (some ⟨g, 0, none⟩) (tot fs) (tot fs)) ∧ w.heap.size ≤ g ∧ ERow w' g (tot fs) (srtE (all fs)) ∧ Below w.heap.size w w' := by
  have HC := hid (concat_any a n c fs w H hn8 ht8)
  have hok := hid (all_ok H)
  clear H
  go_enter Try.func23, Try.ntmps23
  go_wp2_with fail
  refine HC.out.mono ?_
  rintro e w1 ⟨v, rfl, A1⟩
  obtain ⟨a1, c1, hv, E1⟩ := own_ents A1.o hok.out
  subst hv
  change Ents w1 a1 (tot fs) c1 (all fs) at E1
  have b1 := hid A1.lo
  have HS := hid (sorted_any a1 (tot fs) c1 (all fs) w1 E1 (by omega))
  have hsl : (all fs).length = tot fs := rfl
  rw [hsl]
  clear hsl E1 A1 HC
  go_wp2_with fail
  refine HS.out.mono ?_
  rintro e w2 ⟨g, rfl, hg, R, b2⟩
  have hg' : Hid (w.heap.size ≤ g) := Nat.le_trans b1.out.size hg
  have b2' := hid (Below.up b1.out b2)
  replace R := hid R
  clear hg b2
  go_wp2_with fail
  go_ret
  exact ⟨g, rfl, hg'.out, R.out, b2'.out⟩
end Go.Proofs.Ytgjodfaliajlgaa.Md

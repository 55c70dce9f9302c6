/- The law's merged, walked. -/
import Derived.Test.YtgjodfaliajlgaaMb
import Derived.Test.YtgjodfaliajlgaaPa
import Derived.Test.YtgjodfaliajlgaaMr9
namespace Go.Proofs.Ytgjodfaliajlgaa.Mx
open Go.ChangeShapes Go.WideShapes Go.ChangeAt Go.RowKit
open Go.Sort (grow)
open Go.Proofs.Ytgjodfaliajlgaa.Gr hiding hid addr_add
open Go.Proofs.Ytgjodfaliajlgaa.Ac
open Go.Proofs.Ytgjodfaliajlgaa.Ik
open Go.Proofs.Ytgjodfaliajlgaa.Ee
open Go.Proofs.Ytgjodfaliajlgaa.Sb
open Go.Proofs.Ytgjodfaliajlgaa.Ew
open Go.Proofs.Ytgjodfaliajlgaa.Sd hiding below_grown
open Go.Proofs.Ytgjodfaliajlgaa.Ml
open Go.Proofs.Ytgjodfaliajlgaa.Mc
open Go.Proofs.Ytgjodfaliajlgaa.Mi
open Go.Proofs.Ytgjodfaliajlgaa.Hp
open Go.Proofs.Ytgjodfaliajlgaa.Hm hiding hv st5
open Go.Proofs.Ytgjodfaliajlgaa.Lm9
open Go.Proofs.Ytgjodfaliajlgaa.Gc9
open Go.Proofs.Ytgjodfaliajlgaa.Gb9
open Go.Proofs.Ytgjodfaliajlgaa.Pm
open Go.Proofs.Ytgjodfaliajlgaa.Pa
open Go.Proofs.Ytgjodfaliajlgaa.Mt
open Go.Proofs.Ytgjodfaliajlgaa.Mb
set_option linter.unusedVariables false
set_option linter.unusedSimpArgs false

theorem all_map {fs gs : List Lf} (h : gs.map Lf.xs = fs.map Lf.xs) : all gs = all fs := by
  unfold all
  rw [List.flatMap_def, List.flatMap_def, h]
theorem get_map {fs gs : List Lf} (h : gs.map Lf.xs = fs.map Lf.xs) (i : Nat) : (gs.getD i zl).xs = (fs.getD i zl).xs := by
  have := congrArg (fun l => l.getD i []) h
  simpa [List.getD_eq_getElem?_getD, List.getElem?_map, Option.getD_map] using (by
    rw [List.getD_eq_getElem?_getD, List.getD_eq_getElem?_getD, List.getElem?_map, List.getElem?_map] at this
    cases h1 : gs[i]? <;> cases h2 : fs[i]? <;> simp [h1, h2, zl] at this ⊢ <;> exact this : ((gs[i]?).getD zl).xs = ((fs[i]?).getD zl).xs)
set_option maxHeartbeats 1000000 in
set_option maxRecDepth 20000 in
theorem new_zero (c : Nat) (w : World) :
    Calls Try.prog 28 #[.slice none 0 0] w fun e w' => ∃ gm gs, e = .returned (.pointer (some ⟨gm, 0, none⟩)) ∧ w.heap.size ≤ gm ∧ w.heap.size ≤ gs ∧ gs ≠ gm ∧ gs < w'.heap.size ∧ Mg w' gm gs 0 0 (.slice none 0 0) true [] ∧ Below w.heap.size w w' := by
  go_enter Try.func28, Try.ntmps28
  go_wp2_with fail
  have hb := Af.two_below w (.cells #[] 75) (.cells #[.slice (some ⟨w.heap.size, 0, none⟩) 0 0, .slice none 0 0, .bool true] 61)
  have hn : ((w.alloc (.cells #[] 75)).alloc (.cells #[.slice (some ⟨w.heap.size, 0, none⟩) 0 0, .slice none 0 0, .bool true] 61)).heap[w.heap.size + 1]? = some (.cells #[.slice (some ⟨w.heap.size, 0, none⟩) 0 0, .slice none 0 0, .bool true] 61) := by
    have := new_at (w.alloc (.cells #[] 75)) (.cells #[.slice (some ⟨w.heap.size, 0, none⟩) 0 0, .slice none 0 0, .bool true] 61)
    rw [show (w.alloc (.cells #[] 75)).heap.size = w.heap.size + 1 by simp] at this
    exact this
  go_ret
  exact ⟨w.heap.size + 1, w.heap.size, rfl, by omega, Nat.le_refl _, by omega, by have := blk_lt hn; omega, ⟨hn, rfl, fun f hf => by omega⟩, hb⟩
theorem new_all (a : Option Addr) (n c : Nat) (S : List Src) (w : World) (H : eS.Sl w a n c S) (h0 : n = 0 → a = none ∧ c = 0) (hn8 : n ≤ 1048576) :
    Calls Try.prog 28 #[.slice a n c] w fun e w' => ∃ gm gs cs, e = .returned (.pointer (some ⟨gm, 0, none⟩)) ∧ w.heap.size ≤ gm ∧ w.heap.size ≤ gs ∧ gs ≠ gm ∧ gs < w'.heap.size ∧ Mg w' gm gs n cs (.slice none 0 0) true S ∧ Below w.heap.size w w' := by
  by_cases hn : 0 < n
  · refine (new_any a n c S w H hn hn8).mono ?_
    rintro e w' ⟨gm, gs, cs, h1, h2, h3, h4, h5, h6⟩
    exact ⟨gm, gs, cs, h1, h2, h3, h4, block_lt_of_cell (h5.s 0 hn), h5, h6⟩
  · have hz : n = 0 := by omega
    subst hz
    obtain ⟨rfl, rfl⟩ := h0 rfl
    have hS : S = [] := List.eq_nil_of_length_eq_zero H.n
    subst hS
    refine (new_zero 0 w).mono ?_
    rintro e w' ⟨gm, gs, h1, h2, h3, h4, h5, h6, h7⟩
    exact ⟨gm, gs, 0, h1, h2, h3, h4, h5, h6, h7⟩
set_option maxHeartbeats 2000000 in
set_option maxRecDepth 20000 in
theorem merged_any (a : Option Addr) (n c : Nat) (fs : List Lf) (w : World) (H : Lsts w a n c fs) (hn8 : n ≤ 1048576) (ht8 : tot fs ≤ 1048576) (hks : ∀ f ∈ fs, ∀ x ∈ f.xs, x.k.size ≤ 140737488351232) :
    Calls Try.prog 9 #[.slice a n c] w fun e w' => ∃ gm gs cs S, e = .returned (.pointer (some ⟨gm, 0, none⟩)) ∧ Ms w' gm gs n cs S (allI fs n) (fun j => j < w.heap.size) true 0 ∧ Below w.heap.size w w' := by
  have hlen : Hid (fs.length = n) := H.s.n
  have hnc := H.s.c
  have HT := hid (lent_any a n c fs w H hn8 ht8)
  have hokf : Hid (∀ f ∈ fs, ∀ x ∈ f.xs, x.ok) := fun f hf => (H.e f hf).2.2.2.1
  replace hks := hid hks
  clear H
  go_enter Try.func9, Try.ntmps9
  go_wp2_with fail
  refine HT.out.mono ?_
  rintro e w1 ⟨v, gs, rfl, HG, hgs⟩
  obtain ⟨ia, ic, hv, LG⟩ := HG.lsts
  have hgl : gs.length = n := by
    have := congrArg List.length hgs
    simp at this
    rw [this]; exact hlen.out
  rw [hgl] at hv LG
  subst hv
  have htot : tot gs = tot fs := by unfold tot; rw [all_map hgs]
  have b1 := hid HG.lo
  have LG1 : Hid (∀ W, Below w1.heap.size w1 W → Lsts W ia n ic gs) := fun W b => LG.later b
  have hnic := LG.s.c
  replace HG := hid HG
  replace hgs := hid hgs
  replace hgl := hid hgl
  replace htot := hid htot
  replace ht8 := hid ht8
  clear HT LG
  go_wp2_with fail
  go_loopw [4, 5] (fun sv iv wr => ∃ (i : Nat) (sa : Option Addr) (sc : Nat) (S : List Src), iv = .int .i64 (i : Int) ∧ i ≤ n ∧ sv = .slice sa i sc ∧ Hid (L1 w1 wr gs i (.slice sa i sc) S) ∧ Hid (i = 0 → sa = none ∧ sc = 0)) (fun _ iv _ => n - (intOf iv).toNat)
  case atStart => exact ⟨0, none, 0, [], rfl, Nat.zero_le _, rfl, L1.start w1 gs, fun _ => ⟨rfl, rfl⟩⟩
  case round =>
    obtain ⟨i, sa, sc, S, rfl, hi, rfl, HS, hz⟩ := hrel
    by_cases hlt : i < n
    · obtain ⟨b, o, ha, hc, HE⟩ := (LG1.out wr HS.out.acc.lo).at_ i hlt
      subst ha
      have hti := tot_one gs i (by rw [hgl.out]; exact hlt)
      have m0 : (i : Int) < (n : Int) := by omega
      have m1 : (0 : Int) ≤ (i : Int) := by omega
      have hn0 : (gs.getD i zl).n = (gs.getD i zl).xs.length := HE.1.symm
      have hn1 : (gs.getD i zl).n ≤ 1048576 := by have := ht8.out; have := htot.out; omega
      have HN := hid (newlist_any _ _ _ _ wr HE (by omega))
      have hpush : Hid (∀ g ga w2, Below wr.heap.size wr w2 → wr.heap.size ≤ g → wr.heap.size ≤ ga → Lc w2 g ga (gs.getD i zl).n (-1) (srtE (gs.getD i zl).xs) → ∃ sa' sc' W' S', (Builtin.append_ #[56, 56] 56 #[.slice sa i sc, .slice (some ⟨w2.heap.size, 0, none⟩) 1 1]).run Try.prog (w2.alloc (.cells #[.iface 40 (.pointer (some ⟨g, 0, none⟩))] 75)) = .ok (.slice sa' (i + 1) sc') W' ∧ L1 w1 W' gs (i + 1) (.slice sa' (i + 1) sc') S') := by
        intro g ga w2 b h1 h2 h3
        obtain ⟨v', W', r, h4⟩ := HS.out.push b h1 h2 h3 rfl (by omega) hn1
        obtain ⟨a', c', e⟩ := h4.acc.shape
        rw [h4.len] at e
        subst e
        exact ⟨a', c', W', _, r, h4⟩
      generalize (gs.getD i zl).a = fa at *
      generalize (gs.getD i zl).c = fc at *
      generalize (gs.getD i zl).xs = fx at *
      generalize (gs.getD i zl).n = fn at *
      clear HE HS hti hn0 hn1
      go_wp2_with fail
      refine HN.out.mono ?_
      rintro e w2 ⟨g, ga, rfl, h1, h2, h3, b2⟩
      obtain ⟨sa', sc', W', S', r, HL1⟩ := hpush.out g ga w2 b2 h1 h2 h3
      obtain ⟨Wb, hWb⟩ : ∃ W, W = w2.alloc (.cells #[.iface 40 (.pointer (some ⟨g, 0, none⟩))] 75) := ⟨_, rfl⟩
      rw [← hWb] at r
      replace hWb := hid hWb
      replace r := hid r
      replace HL1 := hid HL1
      clear hpush HN h1 h2 h3 b2
      go_wp2_with (first | (at_builtin; rw [← hWb.out]; refine wpList_append_run rfl (.tmp 18) (.tmp 25) 56 56 rfl (.slice sa i sc) (.slice (some ⟨w2.heap.size, 0, none⟩) 1 1) (.slice sa' (i + 1) sc') rfl rfl r.out ?_) | fail)
      go_roundw
      case rel => exact ⟨i + 1, sa', sc', S', by first | rfl | go_num, by omega, rfl, HL1, fun h => by omega⟩
      case measure => simp [intOf]; omega
    · have hie : i = n := by omega
      subst hie
      obtain ⟨w2, hw2⟩ : ∃ W, W = wr := ⟨_, rfl⟩
      rw [← hw2] at HS ⊢
      clear hw2
      have hgn : Hid (∀ j, j < i → (gs.getD j zl).n ≤ 1048576) := fun j hj => by
        have h1 := tot_one gs j (by rw [hgl.out]; exact hj)
        have h2 := (HG.out.ok _ (get_mem (l := gs) zl (by rw [hgl.out]; exact hj))).1
        have := ht8.out; have := htot.out; omega
      have hsl : eS.Sl w2 sa i sc S := by
        have h := Mr9.acc_sl HS.out.acc (fun _ _ => trivial)
        exact h
      have HNw := hid (new_all sa i sc S w2 hsl hz.out hn8)
      have hsc := hsl.c
      clear hsl
      go_wp2_with fail
      refine HNw.out.mono ?_
      rintro e w3 ⟨gm, gg, cs, rfl, g1, g2, g3, g4, HMg, b3⟩
      have b13 : Below w1.heap.size w1 w3 := Below.up HS.out.acc.lo b3
      have SP0 := hid (SpR.of HG.out hgl.out b13)
      have b03 := hid (Below.up b1.out b13)
      replace HMg := hid HMg
      replace b3 := hid b3
      have hgg : Hid (w2.heap.size ≤ gm ∧ w2.heap.size ≤ gg ∧ gg ≠ gm ∧ gg < w3.heap.size) := ⟨g1, g2, g3, g4⟩
      clear HNw g1 g2 g3 g4 b13
      go_wp2_with fail
      go_loopw [7] (fun iv wr => ∃ (j : Nat), iv = .int .i64 (j : Int) ∧ j ≤ i ∧ Hid (SpR w.heap.size w1.heap.size ia i gs wr) ∧ Hid (Fp (fun j => w.heap.size ≤ j ∧ j < w1.heap.size) w3 wr)) (fun iv _ => i - (intOf iv).toNat)
      case atStart => exact ⟨0, rfl, Nat.zero_le _, SP0, Fp.refl _ _⟩
      case round =>
        clear SP0
        obtain ⟨j, rfl, hj, SP, FS⟩ := hrel
        by_cases hjn : j < i
        · have j1 : (j : Int) < (i : Int) := by omega
          have j2 : (0 : Int) ≤ (j : Int) := by omega
          obtain ⟨wo, hwo⟩ : ∃ W, W = wr := ⟨_, rfl⟩
          rw [← hwo] at SP FS ⊢
          clear hwo
          go_wp2_with fail
          go_loopw [8] (fun iv wx => ∃ (k : Nat), iv = .int .i64 (k : Int) ∧ k ≤ (gs.getD j zl).n ∧ Hid (SpR w.heap.size w1.heap.size ia i gs wx) ∧ Hid (Fp (fun j => w.heap.size ≤ j ∧ j < w1.heap.size) w3 wx)) (fun iv _ => (gs.getD j zl).n - (intOf iv).toNat)
          case atStart => exact ⟨0, rfl, Nat.zero_le _, SP, FS⟩
          case round =>
            clear SP FS
            obtain ⟨k, rfl, hk, SP, FS⟩ := hrel
            obtain ⟨hb, ho, hia, hc, -⟩ := SP.out.h j hjn
            subst hia
            by_cases hkn : k < (gs.getD j zl).n
            · obtain ⟨g, ys, ha, hlo, hhi, RY, hyl⟩ := SP.out.r j hjn (by omega)
              have k1 : (k : Int) < ((gs.getD j zl).n : Int) := by omega
              have k2 : (0 : Int) ≤ (k : Int) := by omega
              have SPn := SP.out.set hjn ha RY hyl hkn ⟨⟨#[115, 112, 111, 105, 108, 116]⟩, 0, 0, ⟨#[]⟩⟩
              have FS0 := st4_fp (V := wr) (k * 4) ⟨⟨#[115, 112, 111, 105, 108, 116]⟩, 0, 0, ⟨#[]⟩⟩ (Fp.refl (· = g) wr)
              obtain ⟨p0, p1, p2, p3⟩ := RY.cell k (by omega)
              have f0 := RY.fz (k * 4)
              have f1 := RY.fz (k * 4 + 1)
              have f2 := RY.fz (k * 4 + 2)
              have f3 := RY.fz (k * 4 + 3)
              obtain ⟨WS, hWS⟩ : ∃ W, W = st4 wr g (k * 4) ⟨⟨#[115, 112, 111, 105, 108, 116]⟩, 0, 0, ⟨#[]⟩⟩ := ⟨_, rfl⟩
              rw [← hWS] at SPn FS0
              have FSn := hid (FS.out.tr (FS0.wide (fun j _ h => .inl (by subst h; exact ⟨hlo, hhi⟩))))
              replace SPn := hid SPn
              unfold st4 at hWS
              dsimp only at hWS
              replace hWS := hid hWS
              have hg8 := hgn.out j hjn
              have q3 : IntKind.i64.wrap ((k : Int) + 1) = ((k + 1 : Nat) : Int) := by rw [IntKind.wrap_i64]; omega
              rw [ha] at hc
              generalize (gs.getD j zl).c = fc at *
              generalize hfn : (gs.getD j zl).n = fn at *
              clear FS0 RY SP FS ha hyl
              go_wp2_with fail
              go_roundw
              case rel => exact ⟨k + 1, by first | rfl | go_num, by omega, by first | exact SPn | (have := SPn; rw [hWS.out] at this; exact this), by first | exact FSn | (have := FSn; rw [hWS.out] at this; exact this)⟩
              case measure => simp [intOf]; omega
            · have k1 : ¬ (k : Int) < ((gs.getD j zl).n : Int) := by omega
              generalize (gs.getD j zl).a = fa at *
              generalize (gs.getD j zl).c = fc at *
              generalize hfn : (gs.getD j zl).n = fn at *
              go_wp2_with fail
              go_roundw
              case rel => exact ⟨j + 1, by first | rfl | go_num, by omega, SP, FS⟩
              case measure => simp [intOf]; omega
        · have hje : j = i := by omega
          subst hje
          have j1 : ¬ (j : Int) < (j : Int) := by omega
          obtain ⟨w4, hw4⟩ : ∃ W, W = wr := ⟨_, rfl⟩
          rw [← hw4] at SP FS ⊢
          clear hw4 SP
          have RS : Hid (∀ f, f < j → ∃ g cur, sa = some ⟨g, 0, none⟩ ∧ (Value.slice sa j sc).ownBlock = some g ∧ w4.heap[g]? = some (.cells cur 75 (0, 0)) ∧ j ≤ cur.size) := by
            intro f hf
            rcases HS.out.acc.o.2 with ⟨e, h0⟩ | ⟨g, cap, cur, e, hb, hg, hle, hm, hs, ht⟩
            · have := HS.out.len; rw [h0] at this; omega
            · injection e with e1 e2 e3
              subst e1 e3
              have hlt := HS.out.len
              have h1 := (b3.out.block g (Array.getElem?_eq_some_iff.1 hg).1).trans hg
              have h2 := (FS.out.block g (Array.getElem?_eq_some_iff.1 h1).1 (by omega)).trans h1
              exact ⟨g, cur, rfl, rfl, h2, by rw [hs]; show _ ≤ _ * 1; omega⟩
          have hnc2 := hsc
          go_wp2_with fail
          go_loopw [9] (fun iv wr => ∃ (k : Nat), iv = .int .i64 (k : Int) ∧ k ≤ j ∧ Hid (∀ f, f < j → ∃ g cur, sa = some ⟨g, 0, none⟩ ∧ (Value.slice sa j sc).ownBlock = some g ∧ wr.heap[g]? = some (.cells cur 75 (0, 0)) ∧ j ≤ cur.size) ∧ Hid (Fp (fun b => (Value.slice sa j sc).ownBlock = some b) w4 wr)) (fun iv _ => j - (intOf iv).toNat)
          case atStart => exact ⟨0, rfl, Nat.zero_le _, RS, Fp.refl _ _⟩
          case round =>
            clear RS
            obtain ⟨k, rfl, hk, RS, F4⟩ := hrel
            by_cases hkj : k < j
            · obtain ⟨g, cur, rfl, hob, hg, hcur⟩ := RS.out k hkj
              have k1 : (k : Int) < (j : Int) := by omega
              have k2 : (0 : Int) ≤ (k : Int) := by omega
              obtain ⟨u, hu⟩ : ∃ u, cur[k]? = some u := ⟨_, Array.getElem?_eq_getElem (by omega)⟩
              have c0 := cell_of hg k u hu
              have f0 : wr.frozen? ⟨g, k, none⟩ = false := fz_of hg k
              obtain ⟨WS, hWS⟩ : ∃ W, W = wr.setCell ⟨g, k, none⟩ .nilIface := ⟨_, rfl⟩
              have hgS : WS.heap[g]? = some (.cells (cur.setIfInBounds k .nilIface) 75 (0, 0)) := by rw [hWS]; exact set_of hg k .nilIface
              have RSn : Hid (∀ f, f < j → ∃ g' cur, (some ⟨g, 0, none⟩ : Option Addr) = some ⟨g', 0, none⟩ ∧ (Value.slice (some ⟨g, 0, none⟩) j sc).ownBlock = some g' ∧ WS.heap[g']? = some (.cells cur 75 (0, 0)) ∧ j ≤ cur.size) := fun f hf => ⟨g, _, rfl, hob, hgS, by rw [Array.size_setIfInBounds]; exact hcur⟩
              have F4n : Hid (Fp (fun b => (Value.slice (some ⟨g, 0, none⟩) j sc).ownBlock = some b) w4 WS) := by
                show Fp _ _ _
                rw [hWS]; exact F4.out.set (.inl hob) k .nilIface
              have q3 : IntKind.i64.wrap ((k : Int) + 1) = ((k + 1 : Nat) : Int) := by rw [IntKind.wrap_i64]; omega
              replace hWS := hid hWS
              replace hob := hid hob
              clear hg hgS RS F4 hu hcur
              go_wp2_with fail
              go_roundw
              case rel => exact ⟨k + 1, by first | rfl | go_num, by omega, by first | exact RSn | (have := RSn; rw [hWS.out] at this; exact this), by first | exact F4n | (have := F4n; rw [hWS.out] at this; exact this)⟩
              case measure => simp [intOf]; omega
            · have k1 : ¬ (k : Int) < (j : Int) := by omega
              obtain ⟨w5, hw5⟩ : ∃ W, W = wr := ⟨_, rfl⟩
              rw [← hw5] at F4 ⊢
              clear hw5 RS
              have hfin : Hid (Ms w5 gm gg j cs S (allI fs j) (fun b => b < w.heap.size) true 0 ∧ Below w.heap.size w w5) := by
                obtain ⟨q1, q2, q3, q4⟩ := hgg.out
                have hS := HS.out
                have hsz1 := b1.out.size
                have hsz2 := hS.acc.sz
                have hsz3 := b3.out.size
                have hmine : ∀ b, Mine S b → w1.heap.size ≤ b ∧ b < w2.heap.size := fun b hb => by
                  refine ⟨?_, hS.own.mine hb⟩
                  obtain ⟨f, f1, f2, f3⟩ := hb
                  rw [f3]; exact (hS.lo f (by rw [← hS.len]; exact f1)).1
                have hgaX : ∀ f, f < j → w1.heap.size ≤ (S.getD f zs).ga ∧ (S.getD f zs).ga < w2.heap.size := fun f hf => ⟨(hS.lo f hf).2, (hS.own.l f (by rw [hS.len]; exact hf) (hS.src f hf).1).r.lt⟩
                have hown : ∀ b, (Value.slice sa j sc).ownBlock = some b → w1.heap.size ≤ b ∧ b < w2.heap.size := fun b hb => own_lt hS.acc.o b hb
                have hA : All S j (allI fs j) := by
                  refine all_of hlen.out hS.len (fun f hf => ?_) hokf.out hks.out
                  obtain ⟨s1, s2, s3⟩ := hS.src f hf
                  exact ⟨s1, by rw [s2, get_map hgs.out f], (hS.own.l f (by rw [hS.len]; exact hf) s1).n⟩
                have hT : Sts gm gg j S (allI fs j) (fun b => b < w.heap.size) := by
                  refine ⟨hA, hn8, fun f hf => (hS.own.lo f (by rw [hS.len]; exact hf) (hS.src f hf).1).2.2, fun h => ?_, fun h => ?_, q3, fun f hf => ?_, fun b hb => ⟨fun h => ?_, ?_, ?_, fun f hf => ?_⟩⟩
                  · have := hmine _ h; omega
                  · have := hmine _ h; omega
                  · have := hgaX f hf; omega
                  · have := hmine _ h; omega
                  · omega
                  · omega
                  · have := hgaX f hf; omega
                have o3 := hS.own.later b3.out
                have o4 : Own w4 S (fun _ => -1) := Mw.own_fp o3 FS.out hS.len (fun b hb h => by have := hmine b h; omega) (fun f b hb hf => by have := hgaX f hf; omega)
                have o5 : Own w5 S (fun _ => -1) := Mw.own_fp o4 F4.out hS.len (fun b hb h => by
                    obtain ⟨f, f1, f2, f3⟩ := h
                    exact (hS.sep f b (by rw [← hS.len]; exact f1) hb).1 f3) (fun f b hb hf => fun e => (hS.sep f b hf hb).2 e.symm)
                have hpl : pl (allI fs j) true 0 = fun _ => -1 := by
                  funext f
                  show (cnt (allI fs j) f 0 : Int) - 1 = -1
                  rw [cnt_zero]; rfl
                have hblk : ∀ b, w2.heap.size ≤ b → b < w3.heap.size → w5.heap[b]? = w3.heap[b]? := fun b h1 h2 => by
                  have e4 := FS.out.block b h2 (by omega)
                  exact (F4.out.block b (by have := FS.out.size; omega) (fun h => by have := hown b h; omega)).trans e4
                have hM := HMg.out
                have hB : Below w.heap.size w w5 := by
                  refine ⟨F4.out.os.trans (FS.out.os.trans b03.out.os), F4.out.tape.trans (FS.out.tape.trans b03.out.tape), F4.out.output.trans (FS.out.output.trans b03.out.output), Nat.le_trans b03.out.size (Nat.le_trans FS.out.size F4.out.size), fun b hb => ?_⟩
                  have e3 := b03.out.block b hb
                  have e4 := FS.out.block b (Nat.lt_of_lt_of_le hb b03.out.size) (by omega)
                  exact ((F4.out.block b (by have := FS.out.size; omega) (fun h => by have := hown b h; omega)).trans e4).trans e3
                have hs3 : ∀ f, f < j → w5.cell? ⟨gg, f, none⟩ = some (S.getD f zs).val := fun f hf => (World.cell?_of_block (a := ⟨gg, f, none⟩) (hblk gg q2 q4)).trans (hM.s f hf)
                refine ⟨⟨hT, Nat.zero_le _, ?_, hs3, by rw [hpl]; exact o5, fun b hb => Nat.lt_of_lt_of_le hb hB.size, .inr ⟨rfl, rfl, ?_⟩⟩, hB⟩
                · have := F4.out.size; have := FS.out.size; omega
                · have hgm := blk_lt hM.m
                  exact (hblk gm q1 hgm).trans hM.m
              clear HS HG F4 FS HMg hgg
              go_wp2_with fail
              go_ret
              first | exact ⟨gm, gg, cs, S, rfl, hfin.out⟩ | exact ⟨gm, rfl, ⟨gg, cs, S, hfin.out.1⟩, hfin.out.2⟩
end Go.Proofs.Ytgjodfaliajlgaa.Mx

/- TombCuts, walked. -/
import Derived.Test.YtfmpdalabgfigaaDoorLv
import Derived.Test.YtfmpdalabgfigaaDoorRh
import Derived.Test.YtfmpdalabgfigaaDoorCu
namespace Go.Proofs.YtfmpdalabgfigaaDoor.Lz
open Go.ChangeShapes Go.WideShapes Go.ChangeAt Go.RowKit Go.Shelf
open Go.Proofs.YtfmpdalabgfigaaDoor.Lx
open Go.Proofs.YtfmpdalabgfigaaDoor.Tm
open Go.Proofs.YtfmpdalabgfigaaDoor.Mm
open Go.Proofs.YtfmpdalabgfigaaDoor.Rw
open Go.Proofs.YtfmpdalabgfigaaDoor.Rf
open Go.Proofs.YtfmpdalabgfigaaDoor.Cu
open Go.Proofs.YtfmpdalabgfigaaDoor.Rh
open Go.Proofs.YtfmpdalabgfigaaDoor.Ln
open Go.Proofs.YtfmpdalabgfigaaDoor.Lv
set_option linter.unusedVariables false
set_option linter.unusedSimpArgs false

theorem at3_other {w w' : World} {b o : Nat} {x : T} (h : At3 w b o x) (e : w'.heap[b]? = w.heap[b]?) : At3 w' b o x := by
  unfold At3 World.cell? at *
  rw [e]
  exact h
theorem tbs_other {w w' : World} {a : Option Addr} {len cap : Nat} {xs : List T} (h : Tbs w a len cap xs) (e : ∀ b o p, a = some ⟨b, o, p⟩ → 0 < len → w'.heap[b]? = w.heap[b]?) : Tbs w' a len cap xs :=
  ⟨h.1, h.2.1, h.2.2.1, h.2.2.2.1, fun b o p hp hl => ⟨(h.2.2.2.2 b o p hp hl).1, fun i hi => at3_other ((h.2.2.2.2 b o p hp hl).2 i hi) (e b o p hp hl)⟩⟩
theorem tbs_lt {w : World} {a : Option Addr} {len cap : Nat} {xs : List T} (h : Tbs w a len cap xs) {b o : Nat} {p : Option Nat} (hp : a = some ⟨b, o, p⟩) (hl : 0 < len) : b < w.heap.size := by
  obtain ⟨rfl, hat⟩ := h.2.2.2.2 b o p hp hl
  exact block_lt_of_cell (hat 0 hl).1
/-- The row's block, where it has elements. -/
theorem own_blk {w : World} {base g c : Nat} {xs : List T} (h : OwnT w base (.slice (some ⟨g, 0, none⟩) xs.length c) xs) : base ≤ g ∧ ∃ cur, w.heap[g]? = some (.cells cur 27) ∧ xs.length * 3 ≤ cur.size := by
  rcases h.2 with ⟨e, _⟩ | ⟨g', c', cur, e, hb, hg, hn, hm, hs, ht⟩
  · simp at e
  · simp at e
    obtain ⟨rfl, rfl⟩ := e
    exact ⟨hb, cur, hg, by omega⟩
theorem set3_blk {w : World} {g i : Nat} {cur : Array Value} (h : w.heap[g]? = some (.cells cur 27)) (u v x : Value) : ∃ cur', (((w.setCell ⟨g, i, none⟩ u).setCell ⟨g, i + 1, none⟩ v).setCell ⟨g, i + 2, none⟩ x).heap[g]? = some (.cells cur' 27) ∧ cur'.size = cur.size :=
  ⟨_, set_of (set_of (set_of h _ _) _ _) _ _, by simp⟩
set_option maxRecDepth 100000 in
set_option maxHeartbeats 4000000 in
theorem cuts_law (a : Option Addr) (len cap : Nat) (xs : List T) (l m : ByteArray) (w : World) (M : Mk w) (H : Tbs w a len cap xs) (hlen : (len + 1) * 40 ≤ 140737488355328) (hl : l.size ≤ maxLen) (hm : m.size ≤ maxLen) :
    Calls Tryd.prog 5 #[.slice a len cap, .string l, .string m] w fun e w' => e = .returned (.bool true) ∧ Below w.heap.size w w' := by
  have HLn := hid (lent_any a len cap xs w M H hlen)
  have hok : ∀ x ∈ cut xs l m, x.ok := cut_ok H.2.2.2.1 hl hm
  have hcl : (cut xs l m).length ≤ len := by rw [← H.1]; exact Nat.le_trans (ctl_len l m _) (List.length_filter_le _ _)
  have HCt : Hid (∀ W a c, Tbs W a len c xs → Calls Tryd.prog 18 #[.slice a len c, .string l, .string m] W fun e w' => ∃ v, e = .returned v ∧ OwnT w' W.heap.size v (cut xs l m) ∧ Below W.heap.size W w') := fun W a c h => cut_any a len c xs l m W h (by omega)
  have HRC : Hid (∀ W a c, Tbs W a len c xs → Calls Tryd.prog 19 #[.slice a len c, .string l, .string m] W fun e w' => ∃ v, e = .returned v ∧ OwnT w' W.heap.size v (cut xs l m) ∧ Below W.heap.size W w') := fun W a c h => rcut_any a len c xs l m W h (by omega)
  generalize cut xs l m = C at *
  have hm0 : 0 < w.heap.size := block_lt_of_cell M.1
  replace hok := hid hok
  replace M := hid M
  replace H := hid H
  obtain ⟨N, hN⟩ : ∃ N, N = C.length := ⟨_, rfl⟩
  have hNl : N ≤ 3518437208883 := by omega
  go_enter Tryd.func5, Tryd.ntmps5
  go_wp2_with fail
  refine HLn.out.mono ?_
  rintro e w1 ⟨g, c, rfl, R1, b1⟩
  have T1 := marked_tbs R1 H.out.1 H.out.2.2.2.1
  have H1 := H.out.later b1
  have M1 := M.out.later b1
  have z1 := b1.size
  replace R1 := hid R1
  replace b1 := hid b1
  replace T1 := hid T1
  replace H1 := hid H1
  replace M1 := hid M1
  replace hN := hid hN
  go_wp2_with fail
  refine (HCt.out _ _ _ T1.out).mono ?_
  rintro e w2 ⟨vx, rfl, O2, b2⟩
  obtain ⟨ax, cx, rfl, X2, sx⟩ := O2.tbs hok.out
  have T2 := hid (T1.out.later b2)
  have z2 := b2.size
  rw [← hN.out] at O2 X2 ⊢
  replace b2 := hid b2
  replace O2 := hid O2
  replace X2 := hid X2
  replace sx := hid sx
  go_wp2_with fail
  refine (HCt.out _ _ _ T2.out).mono ?_
  rintro e w3 ⟨vy, rfl, O3, b3⟩
  obtain ⟨ay, cy, rfl, Y3, _⟩ := O3.tbs hok.out
  have H3 := hid ((H1.out.later b2.out).later b3)
  have z3 := b3.size
  rw [← hN.out] at O3 Y3 ⊢
  replace b3 := hid b3
  replace O3 := hid O3
  replace Y3 := hid Y3
  go_wp2_with fail
  refine (HRC.out _ _ _ H3.out).mono ?_
  rintro e w4 ⟨vz, rfl, O4, b4⟩
  obtain ⟨az, cz, rfl, Z4, _⟩ := O4.tbs hok.out
  have z4 := b4.size
  rw [← hN.out] at O4 Z4 ⊢
  have X4 := hid ((X2.out.later b3.out).later b4)
  have Y4 := hid (Y3.out.later b4)
  have H4 := hid (H3.out.later b4)
  have b24 := hid (b3.out.trans (b4.mono b3.out.size))
  have b14 := hid (b2.out.trans (b24.out.mono b2.out.size))
  have B4 := hid (b1.out.trans (b14.out.mono b1.out.size))
  have M4 := hid (M1.out.later b14.out)
  have R4 := hid (R1.out.later b14.out)
  replace b4 := hid b4
  replace O4 := hid O4
  replace Z4 := hid Z4
  go_wp2_with fail
  refine (same_any _ _ _ _ _ _ _ X4.out Z4.out (by omega)).mono ?_
  rintro e w5 ⟨rfl, n5, rfl⟩
  go_wp2_with fail
  have hx1 : Hid (∀ q, (Value.slice ax N cx).ownBlock = some q → w1.heap.size ≤ q ∧ q < w2.heap.size) := fun q e => World.ownsRow.lt O2.out q e
  have hy1 : Hid (∀ b o p, ay = some ⟨b, o, p⟩ → w2.heap.size ≤ b) := fun b o p e => (World.ownsRow.lt O3.out b (by rw [e]; rfl)).1
  have hz1 : Hid (∀ b o p, az = some ⟨b, o, p⟩ → w3.heap.size ≤ b) := fun b o p e => (World.ownsRow.lt O4.out b (by rw [e]; rfl)).1
  -- what stays while the first answer is written over
  have stay : Hid (∀ W : World, w4.grownBy W (Value.slice ax N cx).ownBlock → Tbs W ay N cy C ∧ Tbs W az N cz C ∧ Tbs W a len cap xs ∧ Mk W ∧ OwnT W w.heap.size (.slice (some ⟨g, 0, none⟩) (len + 1) c) (xs ++ [Ln.mark]) ∧ Below w.heap.size w W) := by
    intro W hg
    have nx : ∀ b, (b < w1.heap.size ∨ w2.heap.size ≤ b) → some b ≠ (Value.slice ax N cx).ownBlock := fun b hb e => by have := hx1.out b e.symm; omega
    refine ⟨tbs_other Y4.out (fun b o p e h => hg.block b (tbs_lt Y4.out e h) (nx b (.inr (hy1.out b o p e)))), tbs_other Z4.out (fun b o p e h => hg.block b (tbs_lt Z4.out e h) (nx b (.inr (by have := hz1.out b o p e; omega)))), tbs_other H4.out (fun b o p e h => hg.block b (tbs_lt H4.out e h) (nx b (.inl (by have := tbs_lt H.out e h; omega)))), at3_other M4.out (hg.block 0 (by omega) (nx 0 (.inl (by omega)))), ?_, ?_⟩
    · refine World.ownsRow.kept R4.out hg (.inr (fun e => ?_))
      exact nx g (.inl (World.ownsRow.lt R1.out g rfl).2) e
    · exact B4.out.grown hg (by omega) (fun k e => by have := hx1.out k e; omega)
  clear hx1 hy1 hz1
  go_loopw [11] (fun i wr => ∃ n : Nat, i = .int .i64 n ∧ n ≤ N ∧ Hid (w4.grownBy wr (Value.slice ax N cx).ownBlock) ∧ Hid (∀ q o, ax = some ⟨q, o, none⟩ → ∃ cur, wr.heap[q]? = some (.cells cur 27) ∧ N * 3 ≤ cur.size)) (fun i _ => N - (intOf i).toNat)
  case atStart =>
    refine ⟨0, rfl, by omega, grown_of (belowN (Below.refl _ _) n5), fun q o e => ?_⟩
    have e' := e
    rcases sx.out with h | ⟨g', h⟩
    · rw [h] at e; cases e
    · rw [h] at e; cases e
      subst h
      have O2' := O2.out
      rw [hN.out] at O2'
      obtain ⟨_, cur, h1, h2⟩ := own_blk O2'
      exact ⟨cur, (b24.out.block q (blk_lt h1)).trans h1, by rw [hN.out]; exact h2⟩
  case round =>
    obtain ⟨n, rfl, hn, HG, HX⟩ := hrel
    obtain ⟨sy, sz, sh, sm, sr, sb⟩ := stay.out wr HG.out
    by_cases hlt : n < N
    · have ik : (n : Int) < (N : Int) := by omega
      obtain ⟨g', rfl⟩ : ∃ g', ax = some ⟨g', 0, none⟩ := by
        rcases sx.out with rfl | h
        · have := (X2.out.2.2.1 rfl).1; omega
        · exact h
      obtain ⟨cur, hb, hs⟩ := HX.out g' 0 rfl
      obtain ⟨m1, m2, m3⟩ := sm
      have hcx := X2.out.2.1
      have f0 := fz_of hb (n * 3)
      have f1 := fz_of hb (n * 3 + 1)
      have f2 := fz_of hb (n * 3 + 2)
      have c0 := cell_of hb (n * 3) _ (Array.getElem?_eq_getElem (by omega))
      have c1 := cell_of hb (n * 3 + 1) _ (Array.getElem?_eq_getElem (by omega))
      have c2 := cell_of hb (n * 3 + 2) _ (Array.getElem?_eq_getElem (by omega))
      simp only [Ln.mark, Nat.zero_add] at m1 m2 m3
      obtain ⟨cur', hb', hs'⟩ := set3_blk (i := n * 3) hb (.string ⟨#[109, 97, 114, 107]⟩) (.string ⟨#[110, 97, 114, 107]⟩) (.int .u64 77)
      generalize cur[n * 3] = d0 at c0
      generalize cur[n * 3 + 1] = d1 at c1
      generalize cur[n * 3 + 2] = d2 at c2
      have hg3 : Hid (w4.grownBy (((wr.setCell ⟨g', n * 3, none⟩ (.string ⟨#[109, 97, 114, 107]⟩)).setCell ⟨g', n * 3 + 1, none⟩ (.string ⟨#[110, 97, 114, 107]⟩)).setCell ⟨g', n * 3 + 2, none⟩ (.int .u64 77)) (Value.slice (some ⟨g', 0, none⟩) N cx).ownBlock) :=
        ⟨HG.out.os, HG.out.tape, HG.out.output, by simpa using HG.out.size, fun q hq hne => ((set_ne _ _ _ _ _ (fun e => hne (by rw [e]; rfl))).trans ((set_ne _ _ _ _ _ (fun e => hne (by rw [e]; rfl))).trans (set_ne _ _ _ _ _ (fun e => hne (by rw [e]; rfl))))).trans (HG.out.block q hq hne)⟩
      have hx3 : Hid (∀ q o, some (⟨g', 0, none⟩ : Addr) = some ⟨q, o, none⟩ → ∃ cur, (((wr.setCell ⟨g', n * 3, none⟩ (.string ⟨#[109, 97, 114, 107]⟩)).setCell ⟨g', n * 3 + 1, none⟩ (.string ⟨#[110, 97, 114, 107]⟩)).setCell ⟨g', n * 3 + 2, none⟩ (.int .u64 77)).heap[q]? = some (.cells cur 27) ∧ N * 3 ≤ cur.size) := fun q o e => by
        cases e
        exact ⟨cur', hb', by omega⟩
      clear hb hb' hs hs' sy sz sh sr sb
      go_wp2_with fail
      go_roundw
      case rel => exact ⟨n + 1, by go_num, by omega, hg3, hx3⟩
      case measure => simp [intOf]; omega
    · have ik : ¬ (n : Int) < (N : Int) := by omega
      replace sy := hid sy
      replace sz := hid sz
      replace sh := hid sh
      replace sm := hid sm
      replace sr := hid sr
      replace sb := hid sb
      go_wp2_with fail
      refine (same_any _ _ _ _ _ _ _ sy.out sz.out (by omega)).mono ?_
      rintro e w6 ⟨rfl, n6, rfl⟩
      have d6 : Below wr.heap.size wr (wr.drewN n6) := belowN (Below.refl _ _) n6
      have M6 := hid (sm.out.later d6)
      have R6 := hid (sr.out.later d6)
      have H6 := hid (sh.out.later d6)
      have B6 := hid (belowN sb.out n6)
      clear d6
      go_wp2_with fail
      refine (kept_any _ _ _ _ _ _ _ _ M6 R6.out H6.out (by omega)).mono ?_
      rintro e w7 ⟨rfl, n7, rfl⟩
      go_wp2_with fail
      refine (names_any _).mono ?_
      rintro e w8 ⟨rfl, rfl⟩
      go_wp2_with fail
      go_ret
      exact ⟨rfl, belowN sb.out (n6 + n7)⟩
end Go.Proofs.YtfmpdalabgfigaaDoor.Lz

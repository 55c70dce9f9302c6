/- An edit's lists are written over. -/
import Derived.Test.YtnpeocoipodmfaaEs
namespace Go.Proofs.Ytnpeocoipodmfaa.Sl
open Go.ChangeShapes Go.WideShapes Go.ChangeAt Go.RowKit
open Go.Proofs.Ytnpeocoipodmfaa.Gr
open Go.Proofs.Ytnpeocoipodmfaa.Ev
open Go.Proofs.Ytnpeocoipodmfaa.Ss
open Go.Proofs.Ytnpeocoipodmfaa.Le
set_option linter.unusedVariables false
set_option linter.unusedSimpArgs false

theorem Pad.any {w : World} {b t m : Nat} (h : Pad w b t m) (g i : Nat) (v : Value) : Pad (w.setCell ⟨g, i, none⟩ v) b t m := by
  by_cases e : b = g
  · subst e; exact h.set i v
  · obtain ⟨cs, h1, h2⟩ := h
    exact ⟨cs, (set_ne w g b i v e).trans h1, h2⟩
theorem Pad.later {w w' : World} {b t m : Nat} (h : Pad w b t m) (hb : Below w.heap.size w w') : Pad w' b t m := by
  obtain ⟨cs, h1, h2⟩ := h
  exact ⟨cs, below_blk h1 hb, h2⟩
/-- What spoil's memory holds. -/
structure Sp (w : World) (v : Value) (g1 : Nat) (A : Array Value) (a a' : Option Addr) (n n' : Nat) (W : World) : Prop where
  b : W.heap[g1]? = some (.cells A 26)
  p : 0 < n → ∃ b, a = some ⟨b, 0, none⟩ ∧ b < g1 ∧ blks v b ∧ Pad W b 57 (n * 2)
  q : 0 < n' → ∃ b, a' = some ⟨b, 0, none⟩ ∧ b < g1 ∧ blks v b ∧ Pad W b 60 (n' * 7)
  f : Fp (blks v) w W
  s : w.heap.size ≤ g1
theorem Sp.set {w : World} {v : Value} {g1 : Nat} {A : Array Value} {a a' : Option Addr} {n n' : Nat} {W : World} (h : Sp w v g1 A a a' n n' W) (b i : Nat) (u : Value) (hb : b < g1) (hv : blks v b) : Sp w v g1 A a a' n n' (W.setCell ⟨b, i, none⟩ u) := by
  refine ⟨(set_ne W b g1 i u (by omega)).trans h.b, fun hn => ?_, fun hn => ?_, h.f.set (.inl hv) i u, h.s⟩
  · obtain ⟨b', h1, h2, h3, h4⟩ := h.p hn
    exact ⟨b', h1, h2, h3, Pad.any h4 b i u⟩
  · obtain ⟨b', h1, h2, h3, h4⟩ := h.q hn
    exact ⟨b', h1, h2, h3, Pad.any h4 b i u⟩
set_option maxHeartbeats 2000000 in
theorem spoil_any (v : Value) (x : Ed) (base : Nat) (w : World) (H : EO w base v x) :
    Calls Try.prog 16 #[v] w fun e w' => (∃ u, e = .returned u) ∧ Fp (blks v) w w' := by
  obtain ⟨hok, k1, k2, a, c, a', c', rfl, O1, O2⟩ := H
  have hng : x.go.length ≤ 1099511627776 := hok.2.2.2.1
  have hnc : x.co.length ≤ 1099511627776 := hok.2.2.2.2
  obtain ⟨v, hv⟩ : ∃ v, v = ev x a c a' c' := ⟨_, rfl⟩
  have S0 : Sp w v w.heap.size #[.int .i64 x.log, .int .i64 x.nx, .int .u64 x.sq, .slice a x.go.length c, .slice a' x.co.length c'] a a' x.go.length x.co.length (w.alloc (.cells #[.int .i64 x.log, .int .i64 x.nx, .int .u64 x.sq, .slice a x.go.length c, .slice a' x.co.length c'] 26)) := by
    refine ⟨new_at _ _, fun hn => ?_, fun hn => ?_, Fp.of (box_below _ _), Nat.le_refl _⟩
    · obtain ⟨b, rfl, h2, h3, h4⟩ := own_pad O1 hn
      exact ⟨b, rfl, (own_lt O1 b rfl).2, ⟨_, _, _, _, _, hv, .inl rfl⟩, Pad.later h4 (box_below _ _)⟩
    · obtain ⟨b, rfl, h2, h3, h4⟩ := own_pad O2 hn
      exact ⟨b, rfl, (own_lt O2 b rfl).2, ⟨_, _, _, _, _, hv, .inr rfl⟩, Pad.later h4 (box_below _ _)⟩
  have hc1 : x.go.length ≤ c := by
    rcases O1.2 with ⟨e, h0⟩ | ⟨g, cc, cur, e, hb, hg, hn, hm, hs, ht⟩
    · rw [h0]; omega
    · injection e with _ _ e3; subst e3; exact hn
  have hc2 : x.co.length ≤ c' := by
    rcases O2.2 with ⟨e, h0⟩ | ⟨g, cc, cur, e, hb, hg, hn, hm, hs, ht⟩
    · rw [h0]; omega
    · injection e with _ _ e3; subst e3; exact hn
  rw [← hv]
  have hv' := hv
  unfold ev at hv'
  rw [hv']
  rw [← hv'] 
  replace hv' := hid hv'
  replace hv := hid hv
  obtain ⟨g1, hg1⟩ : ∃ g, g = w.heap.size := ⟨_, rfl⟩
  obtain ⟨W0, hW0⟩ : ∃ W, W = w.alloc (.cells #[.int .i64 x.log, .int .i64 x.nx, .int .u64 x.sq, .slice a x.go.length c, .slice a' x.co.length c'] 26) := ⟨_, rfl⟩
  rw [← hg1, ← hW0] at S0
  replace S0 := hid S0
  replace hg1 := hid hg1
  replace hW0 := hid hW0
  rw [hv'.out]
  clear O1 O2 k1 k2 hok
  obtain ⟨BV, hBV⟩ : ∃ P : Nat → Prop, P = blks v := ⟨_, rfl⟩
  rw [← hv'.out, ← hBV]
  rw [hv'.out]
  replace hBV := hid hBV
  generalize hn1 : x.go.length = ng at *
  generalize hn2 : x.co.length = nc at *
  replace hn1 := hid hn1
  replace hn2 := hid hn2
  obtain ⟨xl, xn, xq, xg, xc⟩ := x
  dsimp only at *
  go_enter Try.func16, Try.ntmps16
  go_wp2_with fail
  rw [← hW0.out, ← hg1.out]
  go_loopw [2] (fun i wr => ∃ k : Nat, i = .int .i64 k ∧ k ≤ ng ∧ Sp w v g1 #[.int .i64 xl, .int .i64 xn, .int .u64 xq, .slice a ng c, .slice a' nc c'] a a' ng nc wr) (fun i _ => ng - (intOf i).toNat)
  case atStart => exact ⟨0, rfl, by omega, S0.out⟩
  case round =>
    clear S0
    obtain ⟨k, rfl, hk, S⟩ := hrel
    have b3 := cell_of S.b 3 _ rfl
    by_cases hlt : k < ng
    · obtain ⟨b, rfl, hb, hbv, hP⟩ := S.p (by omega)
      obtain ⟨u, hu⟩ := hP.cell (k * 2 + 1) (by omega)
      have fz := hP.fz (k * 2 + 1)
      have S' := hid (S.set b (k * 2 + 1) (.int .i64 (-5)) hb hbv)
      have ik0 : (k : Int) < (ng : Int) := by omega
      have ok0 : (0 : Int) ≤ (k : Int) := by omega
      replace S := hid S
      clear hP hbv hb
      go_wp2_with fail
      go_roundw
      case rel => exact ⟨k + 1, by go_num, by omega, S'.out⟩
      case measure => simp [intOf]; omega
    · have hke : k = ng := by omega
      subst hke
      have S0 := hid S
      clear S
      go_wp2_with fail
      clear b3
      go_loopw [3] (fun i wr => ∃ m : Nat, i = .int .i64 m ∧ m ≤ nc ∧ Sp w v g1 #[.int .i64 xl, .int .i64 xn, .int .u64 xq, .slice a k c, .slice a' nc c'] a a' k nc wr) (fun i _ => nc - (intOf i).toNat)
      case atStart => exact ⟨0, rfl, by omega, S0.out⟩
      case round =>
        clear S0
        obtain ⟨m, rfl, hm, S⟩ := hrel
        have b4 := cell_of S.b 4 _ rfl
        by_cases hlt : m < nc
        · obtain ⟨b, rfl, hb, hbv, hP⟩ := S.q (by omega)
          obtain ⟨u, hu⟩ := hP.cell (m * 7) (by omega)
          have fz := hP.fz (m * 7)
          have S' := hid (S.set b (m * 7) (.int .i64 (-5)) hb hbv)
          have ik0 : (m : Int) < (nc : Int) := by omega
          have ok0 : (0 : Int) ≤ (m : Int) := by omega
          replace S := hid S
          clear hP hbv hb
          go_wp2_with fail
          go_roundw
          case rel => exact ⟨m + 1, by go_num, by omega, S'.out⟩
          case measure => simp [intOf]; omega
        · have FF := hid S.f
          clear S
          go_wp2_with fail
          go_end0
          exact ⟨⟨_, rfl⟩, by rw [hBV.out]; exact FF.out⟩
end Go.Proofs.Ytnpeocoipodmfaa.Sl

/- Add of a builder, and its Bytes. -/
import Derived.Test.YtkanjbeijoeenaaBp
import Derived.Test.YtkanjbeijoeenaaBm
namespace Go.Proofs.Ytkanjbeijoeenaa.Ba
open Go.ChangeShapes Go.WideShapes Go.ChangeAt Go.RowKit
open Go.Sort (grow)
open Go.Proofs.Ytkanjbeijoeenaa.By
open Go.Proofs.Ytkanjbeijoeenaa.Bl
open Go.Proofs.Ytkanjbeijoeenaa.Bn
open Go.Proofs.Ytkanjbeijoeenaa.Bp
open Go.Proofs.Ytkanjbeijoeenaa.Bm
open Go.Proofs.Ytkanjbeijoeenaa.En (vld encode_yes encode_no Row_mono)
open Go.Proofs.Ytkanjbeijoeenaa.Cm (ik)
open Go.Proofs.Ytkanjbeijoeenaa.Mb (hid box_below blk_lt new_at size_alloc cell_of fz_of set_of set_ne Fp gw own_blocks own_lt E ze At4 Ents OwnE drew_below drewN_below gw_low region_tail compare_below gw_sub)
set_option linter.unusedVariables false
set_option linter.unusedSimpArgs false

/-- A builder that holds entries. -/
def Bs (w : World) (base g : Nat) (P : Nat → Prop) (r : Nat) (xs : List E) : Prop := ∃ gl ve vp, Bt w base g gl ve vp P (bst r xs)
theorem Bs.later {w w' : World} {base g : Nat} {P : Nat → Prop} {r : Nat} {xs : List E} (h : Bs w base g P r xs) (b : Below w.heap.size w w') : Bs w' base g P r xs := by
  obtain ⟨gl, ve, vp, h⟩ := h; exact ⟨gl, ve, vp, h.later b⟩
theorem Bs.fp {w w' : World} {base g : Nat} {P Q : Nat → Prop} {r : Nat} {xs : List E} (h : Bs w base g P r xs) (f : Fp Q w w') (hq : ∀ j, P j → ¬ Q j) : Bs w' base g P r xs := by
  obtain ⟨gl, ve, vp, h⟩ := h; exact ⟨gl, ve, vp, h.fp f hq⟩
theorem Bs.wide {w : World} {base g : Nat} {P Q : Nat → Prop} {r : Nat} {xs : List E} (h : Bs w base g P r xs) (hpq : ∀ j, P j → Q j) (hq : ∀ j, Q j → base ≤ j ∧ j < w.heap.size) : Bs w base g Q r xs := by
  obtain ⟨gl, ve, vp, h⟩ := h; exact ⟨gl, ve, vp, h.wide hpq hq⟩
theorem Bs.low {w : World} {base g : Nat} {P : Nat → Prop} {r : Nat} {xs : List E} (h : Bs w base g P r xs) : ∀ j, P j → base ≤ j ∧ j < w.heap.size := by
  obtain ⟨gl, ve, vp, h⟩ := h; exact h.low
theorem Bs.pg {w : World} {base g : Nat} {P : Nat → Prop} {r : Nat} {xs : List E} (h : Bs w base g P r xs) : P g := by
  obtain ⟨gl, ve, vp, h⟩ := h; exact h.pg
set_option maxRecDepth 100000 in
set_option maxHeartbeats 1000000 in
/-- Add where the key or the value may not be. -/
theorem add_arg {w : World} {base g : Nat} {P : Nat → Prop} {r : Nat} {xs : List E} (H : Bs w base g P r xs) (x : E) (hx : x.ok) (hm : may x = false) :
    Calls Try.prog 17 #[.pointer (some ⟨g, 0, none⟩), .agg #[.string x.k, .int .u64 x.s, .int .i64 x.c], .string x.v] w fun e w' => e = .returned (.int .i64 2) ∧ Below w.heap.size w w' := by
  obtain ⟨gl, ve, vp, H⟩ := H
  obtain ⟨k, s, c, v⟩ := x
  obtain ⟨hk, hs, hc, hv⟩ := hx
  dsimp only at *
  obtain ⟨W0, hW0⟩ : ∃ W, W = w.alloc (.cells #[.string k, .int .u64 s, .int .i64 c] 36) := ⟨_, rfl⟩
  have B0 : Below w.heap.size w W0 := by rw [hW0]; exact box_below _ _
  have k0 : W0.heap[w.heap.size]? = some (.cells #[.string k, .int .u64 s, .int .i64 c] 36) := by rw [hW0]; exact new_at _ _
  have HN := hid (isNone_any (H.later B0))
  have x0 := cell_of k0 0 _ rfl
  have x1 := cell_of k0 1 _ rfl
  have x2 := cell_of k0 2 _ rfl
  replace hW0 := hid hW0
  replace B0 := hid B0
  have hvm : v.size ≤ 9223372036854775807 := by unfold maxLen at hv; omega
  cases hvl : vld k s c with
  | false =>
    have HE := hid (encode_no k s c W0 hk hs.1 hvl)
    clear H hm k0 hvl
    go_enter Try.func17, Try.ntmps17
    go_wp2_with fail
    rw [← hW0.out]
    refine HN.out.mono ?_
    rintro e w1 ⟨rfl, rfl⟩
    go_wp2_with fail
    refine HE.out.mono ?_
    rintro e w2 ⟨rfl, b2⟩
    have B2 : Hid (Below w.heap.size w w2) := B0.out.trans (b2.mono B0.out.size)
    clear b2 x0 x1 x2
    go_wp2_with fail
    go_ret
    exact ⟨rfl, B2.out⟩
  | true =>
    have hvs : 65536 < v.size := by
      unfold may at hm
      rw [hvl, Bool.true_and] at hm
      have := of_decide_eq_false hm
      dsimp only at this
      omega
    have hvs' : (65536 : Int) < (v.size : Int) := by omega
    have HE := hid (encode_yes k s c W0 hk hs.1 hvl)
    clear H hm k0 hvl
    go_enter Try.func17, Try.ntmps17
    go_wp2_with fail
    rw [← hW0.out]
    refine HN.out.mono ?_
    rintro e w1 ⟨rfl, rfl⟩
    go_wp2_with fail
    refine HE.out.mono ?_
    rintro e w2 ⟨ge, rfl, re, b2⟩
    have B2 : Hid (Below w.heap.size w w2) := B0.out.trans (b2.mono B0.out.size)
    clear b2 x0 x1 x2 re
    go_wp2_with fail
    go_ret
    exact ⟨rfl, B2.out⟩
set_option maxRecDepth 100000 in
set_option maxHeartbeats 1000000 in
/-- Add where it is not behind the last one. -/
theorem add_order {w : World} {base g : Nat} {P : Nat → Prop} {r : Nat} {xs : List E} (H : Bs w base g P r xs) (x : E) (hx : x.ok) (hg : Gd xs) (hm : may x = true) (hb : beh xs x = false) :
    Calls Try.prog 17 #[.pointer (some ⟨g, 0, none⟩), .agg #[.string x.k, .int .u64 x.s, .int .i64 x.c], .string x.v] w fun e w' => e = .returned (.int .i64 80) ∧ Below w.heap.size w w' := by
  obtain ⟨gl, ve, vp, H⟩ := H
  obtain ⟨hd, hbh⟩ := beh_is r xs x hg
  rw [hb] at hbh
  obtain ⟨hvl, hvs⟩ := may_vld hm
  obtain ⟨k, s, c, v⟩ := x
  obtain ⟨hk, hs, hc, hv⟩ := hx
  dsimp only at *
  obtain ⟨W0, hW0⟩ : ∃ W, W = w.alloc (.cells #[.string k, .int .u64 s, .int .i64 c] 36) := ⟨_, rfl⟩
  have B0 : Below w.heap.size w W0 := by rw [hW0]; exact box_below _ _
  have k0 : W0.heap[w.heap.size]? = some (.cells #[.string k, .int .u64 s, .int .i64 c] 36) := by rw [hW0]; exact new_at _ _
  have HN := hid (isNone_any (H.later B0))
  have x0 := cell_of k0 0 _ rfl
  have x1 := cell_of k0 1 _ rfl
  have x2 := cell_of k0 2 _ rfl
  have HE := hid (encode_yes k s c W0 hk hs.1 hvl)
  have HBH : Hid (∀ W, Below w.heap.size w W → Calls Try.prog 38 #[.pointer (some ⟨g, 0, none⟩), .agg #[.string k, .int .u64 s, .int .i64 c]] W fun e w' => e = .returned (.bool false) ∧ Below W.heap.size W w') := by
    intro W hW
    have := behind_any (H.later hW) k s c hd
    rw [hbh] at this
    exact this
  replace hW0 := hid hW0
  replace B0 := hid B0
  replace k0 := hid k0
  have hvs' : ¬ (65536 : Int) < (v.size : Int) := by omega
  clear H hm hvl hd hbh hg
  go_enter Try.func17, Try.ntmps17
  go_wp2_with fail
  rw [← hW0.out]
  refine HN.out.mono ?_
  rintro e w1 ⟨rfl, rfl⟩
  go_wp2_with fail
  refine HE.out.mono ?_
  rintro e w2 ⟨ge, rfl, re, b2⟩
  have B2 : Hid (Below w.heap.size w w2) := B0.out.trans (b2.mono B0.out.size)
  have k2 := (b2.block _ (blk_lt k0.out)).trans k0.out
  have y0 := cell_of k2 0 _ rfl
  have y1 := cell_of k2 1 _ rfl
  have y2 := cell_of k2 2 _ rfl
  clear b2 x0 x1 x2 re k2
  go_wp2_with fail
  refine (HBH.out w2 B2.out).mono ?_
  rintro e w3 ⟨rfl, b3⟩
  have B3 : Hid (Below w.heap.size w w3) := B2.out.trans (b3.mono B2.out.size)
  clear b3 y0 y1 y2
  go_wp2_with fail
  go_ret
  exact ⟨rfl, B3.out⟩
set_option maxRecDepth 100000 in
set_option maxHeartbeats 1000000 in
/-- Add where it is taken. -/
theorem add_ok {w : World} {base g : Nat} {P : Nat → Prop} {r : Nat} {xs : List E} (H : Bs w base g P r xs) (x : E) (hx : x.ok) (hg : Gd xs) (hm : may x = true) (hb : beh xs x = true) (hbase : base ≤ w.heap.size) (hsz : Oi.wts xs ≤ 10000000) :
    Calls Try.prog 17 #[.pointer (some ⟨g, 0, none⟩), .agg #[.string x.k, .int .u64 x.s, .int .i64 x.c], .string x.v] w fun e w' => e = .returned (.int .i64 0) ∧ Bs w' base g (gw P w w') r (xs ++ [x]) ∧ Fp P w w' := by
  obtain ⟨gl, ve, vp, H⟩ := H
  obtain ⟨hd, hbh⟩ := beh_is r xs x hg
  rw [hb] at hbh
  obtain ⟨hvl, hvs⟩ := may_vld hm
  have hshd := shd_lt r xs x hg hm hx.2.1.1 hb
  have hlow := H.low
  have hl1 := bst_ent r xs
  have hl2 := bst_cnt r xs
  have hl3 := wts_len xs
  have hsn := hid (bst_snoc r xs x)
  have hkz := kbs_len x
  have hkb := kbs_bytes x
  have hkd : kbs x = tx x.k ++ lb 8 (x.s * 256 + x.c) := rfl
  have hks := Kd.size_true (En.vld_true hvl).1
  obtain ⟨k, s, c, v⟩ := x
  obtain ⟨hk, hs, hc, hv⟩ := hx
  dsimp only at *
  generalize kbs ⟨k, s, c, v⟩ = kz at *
  obtain ⟨W0, hW0⟩ : ∃ W, W = w.alloc (.cells #[.string k, .int .u64 s, .int .i64 c] 36) := ⟨_, rfl⟩
  have B0 : Below w.heap.size w W0 := by rw [hW0]; exact box_below _ _
  have k0 : W0.heap[w.heap.size]? = some (.cells #[.string k, .int .u64 s, .int .i64 c] 36) := by rw [hW0]; exact new_at _ _
  have HN := hid (isNone_any (H.later B0))
  have x0 := cell_of k0 0 _ rfl
  have x1 := cell_of k0 1 _ rfl
  have x2 := cell_of k0 2 _ rfl
  have HE := encode_yes k s c W0 hk hs.1 hvl
  rw [← hkd] at HE
  replace HE := hid HE
  have HBH : Hid (∀ W, Below w.heap.size w W → Calls Try.prog 38 #[.pointer (some ⟨g, 0, none⟩), .agg #[.string k, .int .u64 s, .int .i64 c]] W fun e w' => e = .returned (.bool true) ∧ Below W.heap.size W w') := by
    intro W hW
    have := behind_any (H.later hW) k s c hd
    rw [hbh] at this
    exact this
  have HPT : Hid (∀ (W : World) (ge : Nat), Below w.heap.size w W → w.heap.size ≤ ge → Row W w.heap.size ge (k.size + 8) (k.size + 8) kz → Calls Try.prog 39 #[.pointer (some ⟨g, 0, none⟩), .slice (some ⟨ge, 0, none⟩) (k.size + 8) (k.size + 8), .string v] W fun e w' => (∃ u, e = .returned u) ∧ (∃ ve' vp', Bt w' base g gl ve' vp' (gw P W w') (stp (bst r xs) kz v)) ∧ Fp P W w') := by
    intro W ge hW hge hR
    exact put_yes (H.later hW) ge (k.size + 8) kz v (hR.bytes hkb) hshd (by omega) (fun hp => by have := (hlow ge hp).2; omega) hvs (Nat.le_trans hbase hW.size) (by omega) (by omega) (by omega)
  replace hW0 := hid hW0
  replace B0 := hid B0
  replace k0 := hid k0
  replace hlow := hid hlow
  have hvs' : ¬ (65536 : Int) < (v.size : Int) := by omega
  clear H hm hvl hd hbh hg hl1 hl2 hl3 hkb hkd hshd hkz
  go_enter Try.func17, Try.ntmps17
  go_wp2_with fail
  rw [← hW0.out]
  refine HN.out.mono ?_
  rintro e w1 ⟨rfl, rfl⟩
  go_wp2_with fail
  refine HE.out.mono ?_
  rintro e w2 ⟨ge, rfl, re, b2⟩
  have B2 : Hid (Below w.heap.size w w2) := B0.out.trans (b2.mono B0.out.size)
  have k2 := (b2.block _ (blk_lt k0.out)).trans k0.out
  have y0 := cell_of k2 0 _ rfl
  have y1 := cell_of k2 1 _ rfl
  have y2 := cell_of k2 2 _ rfl
  have R2 := hid (Row_mono re B0.out.size)
  have hge : Hid (w.heap.size ≤ ge) := Nat.le_trans B0.out.size re.lt.1
  clear b2 x0 x1 x2 re k2
  go_wp2_with fail
  refine (HBH.out w2 B2.out).mono ?_
  rintro e w3 ⟨rfl, b3⟩
  have B3 : Hid (Below w.heap.size w w3) := B2.out.trans (b3.mono B2.out.size)
  have R3 := hid (row_below R2.out b3)
  clear b3 y0 y1 y2
  go_wp2_with fail
  refine (HPT.out w3 ge B3.out hge.out R3.out).mono ?_
  rintro e w4 ⟨⟨u, rfl⟩, ⟨ve', vp', B4⟩, F4⟩
  have B5 : Hid (Bs w4 base g (gw P w w4) r (xs ++ [⟨k, s, c, v⟩])) := by
    refine ⟨gl, ve', vp', ?_⟩
    rw [hsn.out]
    refine B4.wide ?_ (gw_low hbase (Nat.le_trans B3.out.size F4.size) hlow.out)
    rintro j (h | h)
    · exact .inl h
    · exact .inr ⟨Nat.le_trans B3.out.size h.1, h.2⟩
  have F5 : Hid (Fp P w w4) := (Fp.of B3.out).trans (F4.wide fun j _ hj => .inl hj)
  clear B4 F4
  go_wp2_with fail
  go_ret
  exact ⟨rfl, B5.out, F5.out⟩
end Go.Proofs.Ytkanjbeijoeenaa.Ba

/- A block read: the reading's memory; must, takePlace, takeNumber, takeBytes, isBehindLast where the bytes are a block's. -/
import Derived.Test.YtkanjbeijoeenaaBm
import Derived.Lib.QuietBelow
namespace Go.Proofs.Ytkanjbeijoeenaa.Rg
open Go.ChangeShapes Go.WideShapes Go.ChangeAt Go.RowKit
open Go.Sort (grow)
open Go.Proofs.Ytkanjbeijoeenaa.By
open Go.Proofs.Ytkanjbeijoeenaa.Bl
open Go.Proofs.Ytkanjbeijoeenaa.Bm
open Go.Proofs.Ytkanjbeijoeenaa.Ik
open Go.Proofs.Ytkanjbeijoeenaa.Cm (ik)
open Go.Proofs.Ytkanjbeijoeenaa.Mb (hid box_below blk_lt new_at size_alloc cell_of fz_of set_of set_ne Fp own_blocks own_lt E ze At4 Ents OwnE OwnE.ents drew_below drewN_below region_tail compare_below)
set_option linter.unusedVariables false
set_option linter.unusedSimpArgs false

theorem must_ok (w : World) : Calls Try.prog 66 #[.bool true] w fun e w' => e = .returned (.tuple #[]) ∧ w' = w := by
  go_enter Try.func66, Try.ntmps66
  go_wp2
  go_end0
  exact ⟨rfl, rfl⟩
/-- A reading's five cells. -/
def rc (b : Value) (at' : Nat) (pl vk vn : Value) : Array Value := #[b, .int .i64 (at' : Int), pl, vk, vn]
structure Rg (w : World) (base g : Nat) (b : Value) (at' : Nat) (pl vk vn : Value) (key : List Int) (es : List E) : Prop where
  blk : w.heap[g]? = some (.cells (rc b at' pl vk vn) 106)
  ok : OwnB w base vk key
  on : OwnE 85 w base vn es
  hb : base ≤ g
theorem Rg.later {w w' : World} {base g : Nat} {b : Value} {at' : Nat} {pl vk vn : Value} {key : List Int} {es : List E} (h : Rg w base g b at' pl vk vn key es) (k : Below w.heap.size w w') : Rg w' base g b at' pl vk vn key es :=
  ⟨(k.block g (blk_lt h.blk)).trans h.blk, h.ok.later k, h.on.later k, h.hb⟩
theorem row_type {w : World} {base e size n : Nat} {v : Value} {xs : List Value} (h : w.ownsRow base e size v n xs) {j : Nat} (hj : v.ownBlock = some j) : ∃ cur, w.heap[j]? = some (.cells cur e (0, 0)) := by
  rcases h.2 with ⟨h1, _⟩ | ⟨g, c, cur, h1, h2, h3, h4⟩
  · rw [h1] at hj; cases hj
  · rw [h1] at hj; cases hj; exact ⟨cur, h3⟩
theorem Rg.apart {w : World} {base g : Nat} {b : Value} {at' : Nat} {pl vk vn : Value} {key : List Int} {es : List E} (h : Rg w base g b at' pl vk vn key es) : vk.ownBlock ≠ some g ∧ vn.ownBlock ≠ some g ∧ ∀ j, vk.ownBlock = some j → vn.ownBlock ≠ some j := by
  have hb := h.blk
  refine ⟨fun e => ?_, fun e => ?_, fun j e1 e2 => ?_⟩
  · obtain ⟨c, hc⟩ := row_type h.ok e; rw [hc] at hb; simp at hb
  · obtain ⟨c, hc⟩ := row_type h.on e; rw [hc] at hb; simp at hb
  · obtain ⟨c, hc⟩ := row_type h.ok e1
    obtain ⟨c2, hc2⟩ := row_type h.on e2
    rw [hc] at hc2; simp at hc2
/-- A cell of the reading's own block was set. -/
theorem Rg.set {w : World} {base g : Nat} {b : Value} {at' : Nat} {pl vk vn : Value} {key : List Int} {es : List E} (h : Rg w base g b at' pl vk vn key es) (i : Nat) (v : Value) : (w.setCell ⟨g, i, none⟩ v).heap[g]? = some (.cells ((rc b at' pl vk vn).setIfInBounds i v) 106) ∧ OwnB (w.setCell ⟨g, i, none⟩ v) base vk key ∧ OwnE 85 (w.setCell ⟨g, i, none⟩ v) base vn es ∧ Below base w (w.setCell ⟨g, i, none⟩ v) :=
  ⟨set_of h.blk i v, own_blocks h.ok (fun j hj => set_ne _ _ _ _ _ (fun e => h.apart.1 (by rw [← e]; exact hj))), own_blocks h.on (fun j hj => set_ne _ _ _ _ _ (fun e => h.apart.2.1 (by rw [← e]; exact hj))), (Below.refl _ _).setCell h.hb v⟩
theorem takePlace_no {w : World} {base g : Nat} {b : Value} {at' : Nat} {pa : Option Addr} {pn pc : Nat} {vk vn : Value} {key : List Int} {es : List E} {ps : List Int} (H : Rg w base g b at' (.slice pa pn pc) vk vn key es) (HP : Bytes w pa pn pc ps) (hpn : pn ≤ 281474976710656) (hat : at' ≤ 1000000000000) (hno : (Fx.fread ps 0 4).2.2 ≠ 0 ∨ (Fx.fread ps 0 4).1 ≠ (at' : Int)) :
    Calls Try.prog 80 #[.pointer (some ⟨g, 0, none⟩)] w fun e w' => e = .returned (.bool false) ∧ w' = w := by
  have HF := fixed32_any pa pn pc ps 0 w HP hpn
  have hlt := Fx.fread_lt4 ps 0 HP.2.2.2.1
  have c1 : w.cell? ⟨g, 1, none⟩ = some (.int .i64 (at' : Int)) := cell_of H.blk 1 _ rfl
  have c2 : w.cell? ⟨g, 2, none⟩ = some (.slice pa pn pc) := cell_of H.blk 2 _ rfl
  clear H HP
  generalize (Fx.fread ps 0 4).1 = X at *
  generalize (Fx.fread ps 0 4).2.1 = Y at *
  generalize (Fx.fread ps 0 4).2.2 = Z at *
  replace HF := hid HF
  have u1 : IntKind.u64.wrap X = X := by rw [IntKind.wrap_u64]; omega
  have u2 : IntKind.u64.wrap (at' : Int) = (at' : Int) := by rw [IntKind.wrap_u64]; omega
  by_cases hz : Z = 0
  · have hx : X ≠ (at' : Int) := by rcases hno with h | h; exact absurd hz h; exact h
    have hx' : (X != (at' : Int)) = true := by simpa using hx
    have hz' : (Z != 0) = false := by simpa using hz
    clear hno
    go_enter Try.func80, Try.ntmps80
    go_wp2_with fail
    refine HF.out.mono ?_
    rintro e w ⟨rfl, rfl⟩
    go_wp2_with fail
    go_ret
    exact ⟨rfl, rfl⟩
  · have hz' : (Z != 0) = true := by simpa using hz
    clear hno
    go_enter Try.func80, Try.ntmps80
    go_wp2_with fail
    refine HF.out.mono ?_
    rintro e w ⟨rfl, rfl⟩
    go_wp2_with fail
    go_ret
    exact ⟨rfl, rfl⟩
theorem takePlace_yes {w : World} {base g : Nat} {b : Value} {at' : Nat} {pb po pn pc : Nat} {vk vn : Value} {key : List Int} {es : List E} {ps : List Int} (H : Rg w base g b at' (.slice (some ⟨pb, po, none⟩) pn pc) vk vn key es) (HP : Bytes w (some ⟨pb, po, none⟩) pn pc ps) (hpn : pn ≤ 281474976710656) (hpc : pc ≤ 9223372036854775807) (hat : at' ≤ 1000000000000) (hyes : Fx.fread ps 0 4 = ((at' : Int), 4, 0)) :
    Calls Try.prog 80 #[.pointer (some ⟨g, 0, none⟩)] w fun e w' => e = .returned (.bool true) ∧ (∃ po', (pn ≠ 4 → po' = po + 4) ∧ Rg w' base g b at' (.slice (some ⟨pb, po', none⟩) (pn - 4) (pc - 4)) vk vn key es) ∧ Below base w w' := by
  have HF := fixed32_any (some ⟨pb, po, none⟩) pn pc ps 0 w HP hpn
  rw [hyes] at HF
  replace HF := hid HF
  have h4 : 4 ≤ pn := by
    have : (Fx.fread ps 0 4).2.2 = 0 := by rw [hyes]
    unfold Fx.fread at this
    rw [← HP.1]
    by_cases h1 : (0 : Int) < 0 ∨ (ps.length : Int) < 0
    · rw [if_pos h1] at this; simp at this
    · rw [if_neg h1] at this
      by_cases h2 : (ps.length : Int) - 0 < (4 : Nat)
      · rw [if_pos h2] at this; simp at this
      · omega
  have hpl := HP.2.1
  have c1 : w.cell? ⟨g, 1, none⟩ = some (.int .i64 (at' : Int)) := cell_of H.blk 1 _ rfl
  have c2 : w.cell? ⟨g, 2, none⟩ = some (.slice (some ⟨pb, po, none⟩) pn pc) := cell_of H.blk 2 _ rfl
  have f2 : w.frozen? ⟨g, 2, none⟩ = false := fz_of H.blk 2
  have u2 : IntKind.u64.wrap (at' : Int) = (at' : Int) := by rw [IntKind.wrap_u64]; omega
  replace H := hid H
  have j1 : (4 : Int) ≤ (pn : Int) := by omega
  have j2 : (pn : Int) ≤ (pc : Int) := by omega
  clear HP hyes
  by_cases h5 : pc = 4
  · subst h5
    have hS := H.out.set 2 (.slice (some ⟨pb, po, none⟩) (pn - 4) (4 - 4))
    have K : Hid (Rg (w.setCell ⟨g, 2, none⟩ (.slice (some ⟨pb, po, none⟩) (pn - 4) (4 - 4))) base g b at' (.slice (some ⟨pb, po, none⟩) (pn - 4) (4 - 4)) vk vn key es ∧ Below base w (w.setCell ⟨g, 2, none⟩ (.slice (some ⟨pb, po, none⟩) (pn - 4) (4 - 4)))) := ⟨⟨hS.1, hS.2.1, hS.2.2.1, H.out.hb⟩, hS.2.2.2⟩
    obtain rfl : pn = 4 := by omega
    clear hS
    go_enter Try.func80, Try.ntmps80
    go_wp2_with fail
    refine HF.out.mono ?_
    rintro e w ⟨rfl, rfl⟩
    go_wp2_with fail
    go_ret
    exact ⟨rfl, ⟨po, fun h => absurd rfl h, K.out.1⟩, K.out.2⟩
  · have hS := H.out.set 2 (.slice (some ⟨pb, po + 4, none⟩) (pn - 4) (pc - 4))
    have K : Hid (Rg (w.setCell ⟨g, 2, none⟩ (.slice (some ⟨pb, po + 4, none⟩) (pn - 4) (pc - 4))) base g b at' (.slice (some ⟨pb, po + 4, none⟩) (pn - 4) (pc - 4)) vk vn key es ∧ Below base w (w.setCell ⟨g, 2, none⟩ (.slice (some ⟨pb, po + 4, none⟩) (pn - 4) (pc - 4)))) := ⟨⟨hS.1, hS.2.1, hS.2.2.1, H.out.hb⟩, hS.2.2.2⟩
    have h6 : 4 < pc := by omega
    clear hS
    go_enter Try.func80, Try.ntmps80
    go_wp2_with fail
    refine HF.out.mono ?_
    rintro e w ⟨rfl, rfl⟩
    go_wp2_with fail
    go_ret
    exact ⟨rfl, ⟨po + 4, fun _ => rfl, K.out.1⟩, K.out.2⟩
theorem takeNumber_ok {w : World} {base g : Nat} {ba : Option Addr} {bn bc at' : Nat} {pl vk vn : Value} {key : List Int} {es : List E} {zs : List Int} (H : Rg w base g (.slice ba bn bc) at' pl vk vn key es) (HZ : Bytes w ba bn bc zs) (hbn : bn ≤ 281474976710656) (n q : Nat) (hn : Vb.vread zs (at' : Int) = ((n : Int), (q : Int), 0)) :
    Calls Try.prog 81 #[.pointer (some ⟨g, 0, none⟩)] w fun e w' => e = .returned (.int .u64 (n : Int)) ∧ Rg w' base g (.slice ba bn bc) q pl vk vn key es ∧ Below base w w' := by
  have HV : Hid (∀ W, Below w.heap.size w W → Calls Try.prog 87 #[.slice ba bn bc, .int .i64 (at' : Int)] W fun e w' => e = .returned (.tuple #[.int .u64 (n : Int), .int .i64 (q : Int), .int .i64 0]) ∧ w' = W) := by
    intro W hW
    have := varint_any ba bn bc zs (at' : Int) W (bytes_kept HZ hW) hbn
    rw [hn] at this
    exact this
  have c0 : w.cell? ⟨g, 0, none⟩ = some (.slice ba bn bc) := cell_of H.blk 0 _ rfl
  have c1 : w.cell? ⟨g, 1, none⟩ = some (.int .i64 (at' : Int)) := cell_of H.blk 1 _ rfl
  replace H := hid H
  clear HZ hn
  go_enter Try.func81, Try.ntmps81
  go_wp2_with fail
  go_quiet (first | (go_at_call 87; exact Calls.quiet_of_same (HV.out _ (drewN_below _ _))))
  have b1 := drewN_below w nq
  generalize w.drewN nq = w1 at *
  have H1 := H.out.later b1
  have c1' : w1.cell? ⟨g, 1, none⟩ = some (.int .i64 (at' : Int)) := cell_of H1.blk 1 _ rfl
  have f1 : w1.frozen? ⟨g, 1, none⟩ = false := fz_of H1.blk 1
  have hS := H1.set 1 (.int .i64 (q : Int))
  have K : Hid (Rg (w1.setCell ⟨g, 1, none⟩ (.int .i64 (q : Int))) base g (.slice ba bn bc) q pl vk vn key es ∧ Below base w (w1.setCell ⟨g, 1, none⟩ (.int .i64 (q : Int)))) := ⟨⟨hS.1, hS.2.1, hS.2.2.1, H.out.hb⟩, ((b1.mono (Nat.le_of_lt (Nat.lt_of_le_of_lt H.out.hb (blk_lt H.out.blk)))).trans hS.2.2.2)⟩
  have HM := hid (must_ok w1)
  clear hS H1 b1 c0 c1 HV
  go_wp2_with fail
  refine HM.out.mono ?_
  rintro e w1 ⟨rfl, rfl⟩
  go_wp2_with fail
  go_ret
  exact ⟨rfl, K.out.1, K.out.2⟩
end Go.Proofs.Ytkanjbeijoeenaa.Rg

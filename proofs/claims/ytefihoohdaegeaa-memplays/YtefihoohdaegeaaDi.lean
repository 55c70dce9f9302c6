/- Tombs of a memtable, told wholly; two rows of the same tombs held against one another; rows that are written over. -/
import Derived.Test.YtefihoohdaegeaaDh
namespace Go.Proofs.Ytefihoohdaegeaa.Di
open Go.ChangeShapes Go.WideShapes Go.ChangeAt Go.RowKit Go.Shelf
open Go.Sort (grow)
open Go.Proofs.Ytefihoohdaegeaa.Lx (hid)
open Go.Proofs.Ytefihoohdaegeaa.Tm (T zt At3 Tbs)
open Go.Proofs.Ytefihoohdaegeaa.Rw
open Go.Proofs.Ytefihoohdaegeaa.Es
open Go.Proofs.Ytefihoohdaegeaa.Fm (own_lt own_blocks)
open Go.Proofs.Ytefihoohdaegeaa.Ee (E ze Ents)
open Go.Proofs.Ytefihoohdaegeaa.Tb
open Go.Proofs.Ytefihoohdaegeaa.Eo
open Go.Proofs.Ytefihoohdaegeaa.Mm (box_below)
open Go.Proofs.Ytefihoohdaegeaa.Tr (new_at cell_of size_alloc blk_lt fz_of set_of set_ne)
set_option linter.unusedVariables false
set_option linter.unusedSimpArgs false

theorem clone_own (a : Option Addr) (n c : Nat) (xs : List T) (w : World) (H : Tbs w a n c xs) (hn : n * 40 ≤ 140737488355328) :
    Calls Try.prog 91 #[.slice a n c] w fun e w' => ∃ a' c', e = .returned (.slice a' n c') ∧ OwnT w' w.heap.size (.slice a' n c') xs ∧ Below w.heap.size w w' := by
  cases a with
  | none =>
    obtain ⟨rfl, rfl⟩ := H.2.2.1 rfl
    have hx : xs = [] := List.eq_nil_of_length_eq_zero H.1
    subst hx
    have hE : Sem.run Try.prog (binOp .eql 26 (.slice none 0 0) (.slice none 0 0)) w = .ok (.bool true) w := by kernel_rfl
    clear H
    go_enter Try.func91, Try.ntmps91
    go_wp2
    go_ret
    exact ⟨_, _, rfl, OwnT.nil _ _, Below.refl _ _⟩
  | some ad =>
    have own0 : OwnT (w.alloc (.cells #[] 111)) w.heap.size (.slice (some ⟨w.heap.size, 0, none⟩) 0 0) [] := World.ownsRow_made w #[] 0 (Nat.le_refl _) (by unfold maxLen; omega) rfl
    have b0 : Below w.heap.size w (w.alloc (.cells #[] 111)) := box_below _ _
    have hE : Sem.run Try.prog (binOp .eql 26 (.slice (some ad) n c) (.slice none 0 0)) w = .ok (.bool false) w := by kernel_rfl
    obtain ⟨v5, W5, r5, o5, g5⟩ := Dc.app_tombs _ w.heap.size _ [] own0 (some ad) n c xs (Tm.Tbs.later H b0) (by simpa using hn) b0.size
    have B1 := hid (b0.grown g5 b0.size (by intro k hk; simp [Value.ownBlock] at hk; omega))
    rw [List.nil_append] at o5
    obtain ⟨a', c', rfl⟩ := Sa.row_block o5
    rw [H.1] at r5 o5
    replace r5 := hid r5
    replace o5 := hid o5
    clear g5 own0 b0 H
    go_enter Try.func91, Try.ntmps91
    go_wp2_with (at_builtin; refine Ob.wpList_append_run rfl (.tmp 5) (.tmp 6) 26 26 rfl (.slice (some ⟨w.heap.size, 0, none⟩) 0 0) (.slice (some ad) n c) (.slice a' n c') rfl rfl r5.out ?_)
    go_wp2
    go_ret
    exact ⟨_, _, rfl, o5.out, B1.out⟩
theorem tombs_own (base g : Nat) (P : Nat → Prop) (S : St) (w : World) (H : Tb.Tb w base g P S) (hr : S.ts.length * 40 ≤ 140737488355328) :
    Calls Try.prog 28 #[.pointer (some ⟨g, 0, none⟩)] w fun e w' => ∃ a c, e = .returned (.slice a S.ts.length c) ∧ OwnT w' w.heap.size (.slice a S.ts.length c) S.ts ∧ Below w.heap.size w w' := by
  obtain ⟨gl, bl, gs, bm, vt, H⟩ := H
  have HN := hid (isnone_any g gl gs bm S w H.c)
  have c3 : w.cell? ⟨g, 3, none⟩ = some (.pointer (some ⟨gs, 0, none⟩)) := H.c.cell 3
  obtain ⟨a, c, rfl, ht⟩ := H.o.tbs (fun x hx => (H.wf.tomb x hx).2.2)
  have HC := hid (clone_own a S.ts.length c S.ts w ht.1 hr)
  have HH := hid (held_any gs (.slice a S.ts.length c) w H.s ⟨_, _, _, rfl⟩)
  generalize hTS : S.ts = ts at *
  have HS : Hid (Calls Try.prog 69 #[.pointer (some ⟨gs, 0, none⟩)] w fun e w' => ∃ a c, e = .returned (.slice a ts.length c) ∧ OwnT w' w.heap.size (.slice a ts.length c) ts ∧ Below w.heap.size w w') := by
    generalize ts.length = n at *
    clear H ht c3 HN hr
    show Calls _ _ _ _ _
    go_enter Try.func69, Try.ntmps69
    go_wp2_with fail
    refine HH.out.mono ?_
    rintro e w1 ⟨rfl, rfl⟩
    go_wp2_with fail
    refine HC.out.mono ?_
    rintro e w2 ⟨a', c', rfl, o2, b2⟩
    replace o2 := hid o2
    go_wp2_with fail
    go_ret
    exact ⟨_, _, rfl, o2.out, b2⟩
  generalize ts.length = n at *
  clear H ht hr HC HH
  go_enter Try.func28, Try.ntmps28
  go_wp2_with fail
  refine HN.out.mono ?_
  rintro e w1 ⟨rfl, rfl⟩
  go_wp2_with fail
  refine HS.out.mono ?_
  rintro e w2 ⟨a', c', rfl, o2, b2⟩
  replace o2 := hid o2
  go_wp2_with fail
  go_ret
  exact ⟨_, _, rfl, o2.out, b2⟩
set_option maxHeartbeats 1000000 in
theorem tsame_any (a a' : Option Addr) (len cap cap' : Nat) (xs : List T) (w : World) (H : Tbs w a len cap xs) (H' : Tbs w a' len cap' xs) (hl : len ≤ 140737488351232) :
    Calls Try.prog 49 #[.slice a len cap, .slice a' len cap'] w fun e w' => e = .returned (.bool true) ∧ Below w.heap.size w w' := by
  have HH := hid H
  have HH' := hid H'
  clear H H'
  have t0 : ((len : Int) != (len : Int)) = false := bne_self_eq_false _
  go_enter Try.func49, Try.ntmps49
  go_wp2_with fail
  go_loopw [5] (fun i wr => ∃ k : Nat, i = .int .i64 k ∧ k ≤ len ∧ ∃ n, wr = w.drewN n) (fun i _ => len - (intOf i).toNat)
  case atStart => exact ⟨0, rfl, by omega, 0, rfl⟩
  case round =>
    obtain ⟨k, rfl, hk, n, rfl⟩ := hrel
    by_cases hlt : k < len
    · cases a with
      | none => have := (HH.out.2.2.1 rfl).1; omega
      | some ad =>
        cases a' with
        | none => have := (HH'.out.2.2.1 rfl).1; omega
        | some ad' =>
          obtain ⟨b, off, sp⟩ := ad
          obtain ⟨b', off', sp'⟩ := ad'
          obtain ⟨rfl, hat⟩ := HH.out.2.2.2.2 b off sp rfl (by omega)
          obtain ⟨rfl, hat'⟩ := HH'.out.2.2.2.2 b' off' sp' rfl (by omega)
          have hat := hat k hlt
          have hat' := hat' k hlt
          generalize xs.getD k zt = x at hat hat'
          obtain ⟨xb, xe, xs'⟩ := x
          obtain ⟨a1, a2, a3⟩ := hat
          obtain ⟨c1, c2, c3⟩ := hat'
          simp only at a1 a2 a3 c1 c2 c3
          have ik0 : (k : Int) < (len : Int) := by omega
          have ok0 : (0 : Int) ≤ (k : Int) := by omega
          have hlc := HH.out.2.1
          have hlc' := HH'.out.2.1
          go_wp2_with fail
          go_quiet (fail)
          go_wp2_with fail
          go_roundw
          case rel => exact ⟨k + 1, by go_num, by omega, n + nq, rfl⟩
          case measure => simp [intOf]; omega
    · go_wp2_with fail
      go_ret
      exact ⟨rfl, Li.drewN_below _ _⟩
/-- A block of a row that may be written. -/
def Pad (w : World) (b t m : Nat) : Prop := ∃ cs, w.heap[b]? = some (.cells cs t) ∧ m ≤ cs.size
theorem Pad.set {w : World} {b t m : Nat} (h : Pad w b t m) (i : Nat) (v : Value) : Pad (w.setCell ⟨b, i, none⟩ v) b t m := by
  obtain ⟨cs, h1, h2⟩ := h
  exact ⟨_, set_of h1 i v, by simpa using h2⟩
theorem Pad.cell {w : World} {b t m : Nat} (h : Pad w b t m) (i : Nat) (hi : i < m) : ∃ v, w.cell? ⟨b, i, none⟩ = some v := by
  obtain ⟨cs, h1, h2⟩ := h
  exact ⟨cs[i], cell_of h1 i _ (Array.getElem?_eq_getElem (by omega))⟩
theorem Pad.fz {w : World} {b t m : Nat} (h : Pad w b t m) (i : Nat) : w.frozen? ⟨b, i, none⟩ = false := by
  obtain ⟨cs, h1, h2⟩ := h
  exact fz_of h1 i
theorem own_pad {w : World} {base e size n c : Nat} {a : Option Addr} {xs : List Value} (h : w.ownsRow base e size (.slice a n c) n xs) (hn : 0 < n) (hl : xs.length = n * size) : ∃ b, a = some ⟨b, 0, none⟩ ∧ n ≤ c ∧ base ≤ b ∧ Pad w b e (n * size) := by
  rcases h.2 with ⟨e1, h0⟩ | ⟨g, cap, cur, e1, hb, hg, hn', hm, hs, ht⟩
  · omega
  · injection e1 with e2 _ e3
    subst e2 e3
    refine ⟨g, rfl, hn', hb, cur, hg, ?_⟩
    rw [hs]
    exact Nat.mul_le_mul_right _ hn'
end Go.Proofs.Ytefihoohdaegeaa.Di

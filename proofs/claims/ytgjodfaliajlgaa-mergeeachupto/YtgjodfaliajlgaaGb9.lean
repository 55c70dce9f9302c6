/- merge.New, a merged cursor that is none, its start, its Here and From. -/
import Derived.Test.YtgjodfaliajlgaaGa9
namespace Go.Proofs.Ytgjodfaliajlgaa.Gb9
open Go.ChangeShapes Go.WideShapes Go.ChangeAt Go.RowKit
open Go.Sort (grow)
open Go.Proofs.Ytgjodfaliajlgaa.Gr hiding hid addr_add
open Go.Proofs.Ytgjodfaliajlgaa.Ac
open Go.Proofs.Ytgjodfaliajlgaa.Ik
open Go.Proofs.Ytgjodfaliajlgaa.Ee
open Go.Proofs.Ytgjodfaliajlgaa.Hp
open Go.Proofs.Ytgjodfaliajlgaa.Hm hiding hv
open Go.Proofs.Ytgjodfaliajlgaa.Ls9 (Lb c4 hr hv hb)
open Go.Proofs.Ytgjodfaliajlgaa.Lm9
open Go.Proofs.Ytgjodfaliajlgaa.Gc9
open Go.Proofs.Ytgjodfaliajlgaa.Ga9
set_option linter.unusedVariables false
set_option linter.unusedSimpArgs false

set_option maxHeartbeats 1000000 in
theorem fill_small (gm gl n c : Nat) (bk b0 : Bool) (sv hv0 : Value) (H : List Hd) (w : World) (hr : HRow w gl c H) (hn : H.length = n) (h1 : n ≤ 1) (hm : w.heap[gm]? = some (.cells #[sv, hv0, .bool b0] 61)) (hne : gl ≠ gm) :
    Calls Try.prog 68 #[.pointer (some ⟨gm, 1, none⟩), .slice (some ⟨gl, 0, none⟩) n c, .bool bk] w fun e w' => e = .returned (.tuple #[]) ∧ ∃ H', HM w' gm gl sv n c bk H' ∧ HP bk 0 H' ∧ H'.Perm H ∧ Fp (fun j => j = gm ∨ j = gl) w w' := by
  obtain ⟨W1, hW1⟩ : ∃ W, W = (w.setCell ⟨gm, 1, none⟩ (.slice (some ⟨gl, 0, none⟩) n c)).setCell ⟨gm, 2, none⟩ (.bool bk) := ⟨_, rfl⟩
  have F1 : Fp (fun j => j = gm ∨ j = gl) w W1 := by
    rw [hW1]
    exact ((Fp.refl (fun j => j = gm ∨ j = gl) w).set (g := gm) (.inl (.inl rfl)) 1 _).set (g := gm) (.inl (.inl rfl)) 2 _
  have F2 : Fp (fun j => j = gm) w W1 := by
    rw [hW1]
    exact ((Fp.refl (fun j => j = gm) w).set (g := gm) (.inl rfl) 1 _).set (g := gm) (.inl rfl) 2 _
  have k1 := set_of (set_of hm 1 (.slice (some ⟨gl, 0, none⟩) n c)) 2 (.bool bk)
  rw [← hW1] at k1
  have M1 : Hid (HM W1 gm gl sv n c bk H) := ⟨k1, hr.block (F2.block gl hr.lt hne), hn, hne⟩
  have P1 : Hid (HP bk 0 H) := HP.start bk H 0 (by omega)
  have F3 : Hid (Fp (fun j => j = gm ∨ j = gl) w W1) := F1
  have c1 := cell_of hm 1 hv0 rfl
  have c2 := cell_of hm 2 (.bool b0) rfl
  have f1 := fz_of hm 1
  have f2 := fz_of hm 2
  have hW := hid hW1
  clear hr hm k1 F1 F2 hW1 hn
  have h01 : n = 0 ∨ n = 1 := by omega
  rcases h01 with rfl | rfl
  · go_enter Try.func68, Try.ntmps68
    go_wp2_with fail
    refine wp_loop_rounds 1 ?_
    rw [rounds_succ]
    go_wp2_with fail
    rw [← hW.out]
    exact bodyPost_end (results_none rfl _ _ _) rfl ⟨rfl, H, M1.out, P1.out, List.Perm.refl _, F3.out⟩
  · go_enter Try.func68, Try.ntmps68
    go_wp2_with fail
    refine wp_loop_rounds 1 ?_
    rw [rounds_succ]
    go_wp2_with fail
    rw [← hW.out]
    exact bodyPost_end (results_none rfl _ _ _) rfl ⟨rfl, H, M1.out, P1.out, List.Perm.refl _, F3.out⟩
set_option maxHeartbeats 1000000 in
set_option maxRecDepth 20000 in
theorem isnone_nil (w : World) : Calls Try.prog 44 #[.pointer none] w fun e w' => e = .returned (.bool true) ∧ w' = w := by
  go_enter Try.func44, Try.ntmps44
  go_wp2_with fail
  go_ret
  exact ⟨rfl, rfl⟩
set_option maxRecDepth 20000 in
theorem isnone_plain (gm n c : Nat) (w : World) (h : w.cell? ⟨gm, 0, none⟩ = some (.slice none 0 0)) : Calls Try.prog 44 #[.pointer (some ⟨gm, 0, none⟩)] w fun e w' => e = .returned (.bool true) ∧ w' = w := by
  have hq : ∀ w, (binOp BinOp.eql 56 (.slice none 0 0) (.slice none 0 0)).run Try.prog w = .ok (.bool true) w := fun w => by kernel_rfl
  go_enter Try.func44, Try.ntmps44
  go_wp2_with fail
  go_ret
  exact ⟨rfl, rfl⟩
set_option maxRecDepth 20000 in
theorem isnone_some (gm n c : Nat) (a : Addr) (w : World) (h : w.cell? ⟨gm, 0, none⟩ = some (.slice (some a) n c)) : Calls Try.prog 44 #[.pointer (some ⟨gm, 0, none⟩)] w fun e w' => e = .returned (.bool false) ∧ w' = w := by
  have hq : ∀ w, (binOp BinOp.eql 56 (.slice (some a) n c) (.slice none 0 0)).run Try.prog w = .ok (.bool false) w := fun w => by kernel_rfl
  go_enter Try.func44, Try.ntmps44
  go_wp2_with fail
  go_ret
  exact ⟨rfl, rfl⟩
def eS : El Src where
  st := 56
  et := 75
  k := 1
  by_ := 16
  cs := fun x => [x.val]
  z := zs
  zv := .nilIface
  len := fun _ => rfl
  one := by intro x u h; simp at h; subst h; unfold Src.val; cases x.nil <;> rfl
  und := Try.underlying56
  info := by kernel_rfl
  zc := rfl
  pos := by decide
  ok := fun x => True
/-- Whatever stands first in a merged cursor: its sources. -/
structure Mg (w : World) (gm gs N cs : Nat) (hv0 : Value) (b0 : Bool) (S : List Src) : Prop where
  m : w.heap[gm]? = some (.cells #[.slice (some ⟨gs, 0, none⟩) N cs, hv0, .bool b0] 61)
  n : S.length = N
  s : ∀ f, f < N → w.cell? ⟨gs, f, none⟩ = some (S.getD f zs).val
set_option maxHeartbeats 1000000 in
set_option maxRecDepth 20000 in
theorem new_any (a : Option Addr) (n c : Nat) (S : List Src) (w : World) (H : eS.Sl w a n c S) (hn : 0 < n) (hn8 : n ≤ 1048576) :
    Calls Try.prog 28 #[.slice a n c] w fun e w' => ∃ gm gs cs, e = .returned (.pointer (some ⟨gm, 0, none⟩)) ∧ w.heap.size ≤ gm ∧ w.heap.size ≤ gs ∧ gs ≠ gm ∧ Mg w' gm gs n cs (.slice none 0 0) true S ∧ Below w.heap.size w w' := by
  obtain ⟨W0, hW0⟩ : ∃ W, W = w.alloc (.cells #[] 75) := ⟨_, rfl⟩
  obtain ⟨g0, hg0⟩ : ∃ g, g = w.heap.size := ⟨_, rfl⟩
  have A0 : Acc eS w W0 (.slice (some ⟨g0, 0, none⟩) 0 0) [] := by rw [hW0, hg0]; exact Acc.made eS w
  obtain ⟨v1, W1, r1, A1⟩ := A0.app (H.later A0.lo) (by show (0 + n) * 16 ≤ _; omega) (by show 0 + n ≤ _; omega)
  rw [List.nil_append] at A1
  have hS : S.length = n := H.n
  obtain ⟨gs, cs, hv1⟩ := A1.nn (by intro e; rw [e] at hS; simp at hS; omega)
  subst hv1
  rw [hS] at A1 r1
  have hgs := (own_lt A1.o gs rfl)
  change (Builtin.append_ #[56, 56] 56 #[_, _]).run Try.prog W0 = _ at r1
  have hfin : Hid (∃ W2, W2 = W1.alloc (.cells #[.slice (some ⟨gs, 0, none⟩) n cs, .slice none 0 0, .bool true] 61) ∧ w.heap.size ≤ W1.heap.size ∧ w.heap.size ≤ gs ∧ gs ≠ W1.heap.size ∧ Mg W2 W1.heap.size gs n cs (.slice none 0 0) true S ∧ Below w.heap.size w W2) := by
    refine ⟨_, rfl, A1.sz, hgs.1, by omega, ⟨new_at _ _, hS, fun f hf => ?_⟩, Below.up A1.lo (box_below _ _)⟩
    have := (A1.o.later (box_below W1 (.cells #[.slice (some ⟨gs, 0, none⟩) n cs, .slice none 0 0, .bool true] 61))).at f (by rw [hS]; exact hf) 0 _ rfl
    rw [show eS.k = 1 from rfl, Nat.mul_one, Nat.add_zero] at this
    exact this
  replace r1 := hid r1
  replace hW0 := hid hW0
  replace hg0 := hid hg0
  clear A0 A1 H hgs hS
  go_enter Try.func28, Try.ntmps28
  go_wp2_with (first | (at_builtin; rw [← hW0.out, ← hg0.out]; refine wpList_append_run rfl (.tmp 3) (.tmp 4) 56 56 rfl (.slice (some ⟨g0, 0, none⟩) 0 0) (.slice a n c) (.slice (some ⟨gs, 0, none⟩) n cs) rfl rfl r1.out ?_) | fail)
  obtain ⟨W2, hW2, q1, q2, q3, q4, q5⟩ := hfin.out
  rw [← hW2]
  go_ret
  exact ⟨_, gs, cs, rfl, q1, q2, q3, q4, q5⟩
end Go.Proofs.Ytgjodfaliajlgaa.Gb9

/- bytes.Clone; Size. -/
import Derived.Test.YtgffojafdjcdoaaCs
namespace Go.Proofs.Ytgffojafdjcdoaa.Bc
open Go.ChangeShapes Go.WideShapes Go.ChangeAt Go.RowKit Go.Maps
open Go.Proofs.Ytgffojafdjcdoaa.By
open Go.Proofs.Ytgffojafdjcdoaa.Ln
open Go.Proofs.Ytgffojafdjcdoaa.Mp
open Go.Proofs.Ytgffojafdjcdoaa.Dk
open Go.Proofs.Ytgffojafdjcdoaa.Df
open Go.Proofs.Ytgffojafdjcdoaa.Dh
set_option linter.unusedVariables false
set_option linter.unusedSimpArgs false

set_option maxRecDepth 10000 in
theorem clone_bytes (a : Option Addr) (n c : Nat) (zs : List Int) (w : World) (H : Bytes w a n c zs) (hn : n ≤ 140737488355328) :
    Calls Try.prog 48 #[.slice a n c] w fun e w' => ∃ v, e = .returned v ∧ w'.ownsRow w.heap.size 5 1 v n (zs.map (Value.int .u8)) ∧ Below w.heap.size w w' := by
  obtain ⟨i0, hi, hz0, hz1, hz2⟩ := info_parts info5
  have HH := hid H
  have hlen : (zs.map (Value.int .u8)).length = n * 1 := by simp; exact H.1
  clear H
  have own0 : (w.alloc (.cells #[] 5)).ownsRow w.heap.size 5 1 (.slice (some ⟨w.heap.size, 0, none⟩) 0 0) 0 [] := World.ownsRow_made w #[] 0 (Nat.le_refl _) (by unfold maxLen; omega) rfl
  cases a with
  | none =>
    obtain ⟨rfl, rfl⟩ := HH.out.2.2.1 rfl
    have hz : zs = [] := List.eq_nil_of_length_eq_zero HH.out.1
    subst hz
    have hE : Sem.run Try.prog (binOp .eql 32 (.slice none 0 0) (.slice none 0 0)) w = .ok (.bool true) w := by kernel_rfl
    go_enter Try.func48, Try.ntmps48
    go_wp2
    go_ret
    exact ⟨_, rfl, World.ownsRow_nil _ _ _ _, Below.refl _ _⟩
  | some ad =>
    have hE : Sem.run Try.prog (binOp .eql 32 (.slice (some ad) n c) (.slice none 0 0)) w = .ok (.bool false) w := by kernel_rfl
    have b0 : Below w.heap.size w (w.alloc (.cells #[] 5)) := box_below _ _
    obtain ⟨v1, w1, hrun, own1, g1, _⟩ := Ap.app_run (w.alloc (.cells #[] 5)) w.heap.size ⟨.slice (some ⟨w.heap.size, 0, none⟩) 0 0, [], 0⟩ own0 (some ad) n c zs (bytes_kept HH.out b0) (by simpa using hn) b0.size
    have B1 := hid (b0.grown g1 b0.size (by intro k hk; simp [Value.ownBlock] at hk; omega))
    have O1 : Hid (w1.ownsRow w.heap.size 5 1 v1 n (zs.map (Value.int .u8))) := by
      show World.ownsRow _ _ _ _ _ _ _
      have := own1
      unfold ownB at this
      simp only [List.nil_append] at this
      rw [HH.out.1] at this
      exact this
    have hrun := hid hrun
    clear own1 g1 own0 b0
    go_enter Try.func48, Try.ntmps48
    go_wp2_with (at_builtin; refine Ap.wpList_append_run rfl _ _ 32 32 rfl _ _ _ rfl rfl hrun.out ?_)
    clear hrun
    go_wp2
    go_ret
    exact ⟨_, rfl, O1.out, B1.out⟩
set_option maxRecDepth 10000 in
theorem size_any {base g b : Nat} {P : Nat → Prop} {S : St} (s : ByteArray) (hs : s.size ≤ 9223372036854775807) (w : World) (H : Disk w base g b P S) : Calls Try.prog 19 #[.pointer (some ⟨g, 0, none⟩), .string s] w fun e w' => e = .returned (.tuple #[.int .i64 ((fnd S s).1.zs.length : Nat), .int .i64 ((fnd S s).1.k : Nat), .int .i64 (fnd S s).2]) ∧ Below w.heap.size w w' := by
  have HF0 := find_any s hs w H
  obtain ⟨a, c, hsl, hval⟩ := fnd_val H s
  rw [hval] at HF0
  have HF := hid HF0
  clear HF0
  generalize (fnd S s).1.zs.length = n at *
  generalize (fnd S s).1.k = k at *
  generalize (fnd S s).2 = E at *
  clear H hval hsl
  go_enter Try.func19, Try.ntmps19
  go_wp2_with fail
  refine HF.out.mono ?_
  rintro e w1 ⟨rfl, b1⟩
  have bb : Hid (Below w.heap.size w (w1.alloc (.cells #[.slice a n c, .int .i64 k] 83))) := b1.alloc b1.size _
  clear b1
  go_wp2_with fail
  go_quiet (fail)
  go_wp2_with fail
  go_ret3
  exact ⟨rfl, below_drewN bb.out _⟩
end Go.Proofs.Ytgffojafdjcdoaa.Bc

/- A piece put behind a buffer. -/
import Derived.Test.YtgkoopciajjonaaDoorWp
namespace Go.Proofs.YtgkoopciajjonaaDoor.Wq
open Go.ChangeShapes Go.WideShapes Go.ChangeAt Go.RowKit Go.Sort
open Go.Proofs.YtgkoopciajjonaaDoor.Crc
open Go.Proofs.YtgkoopciajjonaaDoor.Jm
open Go.Proofs.YtgkoopciajjonaaDoor.Ck
open Go.Proofs.YtgkoopciajjonaaDoor.Wt
open Go.Proofs.YtgkoopciajjonaaDoor.Wp
set_option linter.unusedVariables false
set_option linter.unusedSimpArgs false

def h7 (s : BitVec 32) (n : Nat) (k : Int) : List Int := [toI s % 256, toI s / 256 % 256, toI s / 65536 % 256, toI s / 16777216 % 256, (n : Int) % 256, (n : Int) / 256 % 256, k]
theorem h7_bd (s : BitVec 32) (n : Nat) (k : Int) (hk : 0 ≤ k ∧ k ≤ 255) : ∀ y ∈ h7 s n k, 0 ≤ y ∧ y ≤ 255 := by
  intro y hy
  simp only [h7, List.mem_cons, List.not_mem_nil, or_false] at hy
  rcases hy with rfl | rfl | rfl | rfl | rfl | rfl | rfl <;> omega
theorem pc_h7 (k : Int) (d : List Int) : pc k d = h7 (ks k d) d.length k ++ d := by
  unfold pc le4 le2 h7 toI
  simp
theorem h7_bytes (w : World) (s : BitVec 32) (n : Nat) (k : Int) (hk : 0 ≤ k ∧ k ≤ 255) :
    Bytes (w.alloc (.cells #[.int .u8 (toI s % 256), .int .u8 (toI s / 256 % 256), .int .u8 (toI s / 65536 % 256), .int .u8 (toI s / 16777216 % 256), .int .u8 ((n : Int) % 256), .int .u8 ((n : Int) / 256 % 256), .int .u8 k] 5)) (some ⟨w.heap.size, 0, none⟩) 7 7 (h7 s n k) :=
  built_bytes w (h7 s n k) (h7_bd s n k hk)
set_option maxHeartbeats 1000000 in
theorem put_any (w0 w : World) (v : Value) (xs : List Int) (k : Int) (a : Option Addr) (len cap : Nat) (d : List Int) (T : Hid (Tab w0)) (H : Bytes w0 a len cap d) (hB : Below w0.heap.size w0 w) (O : Own w w0.heap.size v xs) (hk : 0 ≤ k ∧ k ≤ 255) (hx : xs.length + 7 + len ≤ 140737488355328) :
    Calls Tryd.prog 29 #[v, .agg #[.int .u8 k, .slice a len cap]] w fun e w' => ∃ v', e = .returned v' ∧ Own w' w0.heap.size v' (xs ++ pc k d) ∧ Below w0.heap.size w0 w' := by
  have hv : ∀ j, v.ownBlock = some j → j < w.heap.size := fun j hj => (O.lt j hj).2
  have B1 := hB.trans ((box_below w (.cells #[.int .u8 k, .slice a len cap] 69)).mono hB.size)
  have HS : Hid (∀ dd os, Calls Tryd.prog 40 #[.agg #[.int .u8 k, .slice a len cap]] (grow (redrawn (w.alloc (.cells #[.int .u8 k, .slice a len cap] 69)) dd) os) fun e w' => e = .returned (.int .u32 (toI (ks k d))) ∧ Below (grow (redrawn (w.alloc (.cells #[.int .u8 k, .slice a len cap] 69)) dd) os).heap.size (grow (redrawn (w.alloc (.cells #[.int .u8 k, .slice a len cap] 69)) dd) os) w') := fun dd os => by
    have b := B1.trans ((below_regrown (w.alloc (.cells #[.int .u8 k, .slice a len cap] 69)) dd os).mono B1.size)
    exact sum_any k a len cap d _ (tab_later T b) (bytes_kept H b) (by omega) hk
  have hlen := H.1
  obtain ⟨s, hs⟩ : ∃ s, s = ks k d := ⟨_, rfl⟩
  have Hs := hid hs
  rw [← hs] at HS
  clear hs
  have c0 : (w.alloc (.cells #[.int .u8 k, .slice a len cap] 69)).cell? ⟨w.heap.size, 0, none⟩ = some (.int .u8 k) := by
    unfold World.cell?
    rw [show (w.alloc (.cells #[.int .u8 k, .slice a len cap] 69)).heap[w.heap.size]? = some (.cells #[.int .u8 k, .slice a len cap] 69) from by show (w.heap.push _)[w.heap.size]? = _; simp]
    rfl
  have c1 : (w.alloc (.cells #[.int .u8 k, .slice a len cap] 69)).cell? ⟨w.heap.size, 1, none⟩ = some (.slice a len cap) := by
    unfold World.cell?
    rw [show (w.alloc (.cells #[.int .u8 k, .slice a len cap] 69)).heap[w.heap.size]? = some (.cells #[.int .u8 k, .slice a len cap] 69) from by show (w.heap.push _)[w.heap.size]? = _; simp]
    rfl
  have O1 := hid (O.later (box_below w (.cells #[.int .u8 k, .slice a len cap] 69)))
  have B1 := hid B1
  have HH := hid H
  have d0 := fun dd os => cell_regrown c0 dd os
  have d1 := fun dd os => cell_regrown c1 dd os
  have c0 := hid c0
  have c1 := hid c1
  clear H O hB
  have hv := hid hv
  go_enter Tryd.func29, Tryd.ntmps29
  go_wp2_with fail
  refine wp_region_quiet_below (by kernel_rfl) (by kernel_rfl) ?_
  repeat (first | go_big_quiet_step (first | (go_at_call 40; exact Calls.regrown_of (HS.out _ _))) | quiet_step (first | (go_at_call 40; exact Calls.regrown_of (HS.out _ _))))
  refine wpQuiet_nil ?_
  intro w2 hw2
  have b2 : Hid (Below (w.alloc (.cells #[.int .u8 k, .slice a len cap] 69)).heap.size (w.alloc (.cells #[.int .u8 k, .slice a len cap] 69)) w2) := by
    obtain ⟨⟨dq, osq⟩, hw''⟩ := hw2
    rw [hw'']
    exact below_regrown _ dq osq
  have e0 : w2.cell? ⟨w.heap.size, 0, none⟩ = some (.int .u8 k) := cell_later b2.out c0.out
  have e1 : w2.cell? ⟨w.heap.size, 1, none⟩ = some (.slice a len cap) := cell_later b2.out c1.out
  have O2 := hid (O1.out.later b2.out)
  have B2 : Hid (Below w0.heap.size w0 w2) := B1.out.trans (b2.out.mono B1.out.size)
  clear hw2 b2 O1 B1 c0 c1 d0 d1 HS
  have b3 := box_below w2 (.cells #[.int .u8 (toI s % 256), .int .u8 (toI s / 256 % 256), .int .u8 (toI s / 65536 % 256), .int .u8 (toI s / 16777216 % 256), .int .u8 ((len : Int) % 256), .int .u8 ((len : Int) / 256 % 256), .int .u8 k] 5)
  have O3 := O2.out.later b3
  have B3 := B2.out.trans (b3.mono B2.out.size)
  obtain ⟨v4, w4, r4, O4, g4⟩ := app_bytes _ w0.heap.size v xs (h7 s len k) _ 7 7 O3 (h7_bytes w2 s len k hk) (by omega) B3.size
  have B4 : Below w0.heap.size w0 w4 := B3.trans (own_below O3 g4 B3.size)
  have e4 : w4.cell? ⟨w.heap.size, 1, none⟩ = some (.slice a len cap) := by
    have e3 := cell_later b3 e1
    exact cell_grown e3 g4 (fun e => by have := hv.out _ e.symm; simp at this)
  obtain ⟨v5, w5, r5, O5, g5⟩ := app_bytes w4 w0.heap.size v4 (xs ++ h7 s len k) d a len cap O4 (bytes_kept HH.out B4) (by simp [h7]; omega) B4.size
  have B5 : Hid (Below w0.heap.size w0 w5) := B4.trans (own_below O4 g5 B4.size)
  have O5 : Hid (Own w5 w0.heap.size v5 (xs ++ pc k d)) := by
    show Own _ _ _ _
    rw [pc_h7, ← Hs.out, hlen, ← List.append_assoc]
    exact O5
  have r4 := hid r4
  have r5 := hid r5
  clear O4 B4 O3 B3 b3 g4 g5 O2 B2 HH
  go_wp2_with (first | (at_builtin; refine wpList_append_run rfl _ _ _ _ rfl _ _ _ rfl rfl r4.out ?_) | (at_builtin; refine wpList_append_run rfl _ _ _ _ rfl _ _ _ rfl rfl r5.out ?_))
  go_ret
  exact ⟨v5, rfl, O5.out, B5.out⟩
end Go.Proofs.YtgkoopciajjonaaDoor.Wq

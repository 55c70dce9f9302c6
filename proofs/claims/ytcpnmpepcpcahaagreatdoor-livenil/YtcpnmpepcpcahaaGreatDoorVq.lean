/- isInOrder, countFiles, areUnlike by their contracts. -/
import Derived.Test.YtcpnmpepcpcahaaGreatDoorVp
namespace Go.Proofs.YtcpnmpepcpcahaaGreatDoor.Vq
open Go.ChangeShapes Go.WideShapes Go.ChangeAt Go.RowKit
open Go.Proofs.YtcpnmpepcpcahaaGreatDoor.Gr
open Go.Proofs.YtcpnmpepcpcahaaGreatDoor.Ev
open Go.Proofs.YtcpnmpepcpcahaaGreatDoor.Oe
open Go.Proofs.YtcpnmpepcpcahaaGreatDoor.Lv
open Go.Proofs.YtcpnmpepcpcahaaGreatDoor.Vp
set_option linter.unusedVariables false
set_option linter.unusedSimpArgs false

theorem not_lvOk {lv : Nat} {fs : List Fi} {i : Nat} (hi : i < fs.length) (h : okAt lv fs i = false) : ¬ lvOk lv fs := fun k => by have := k i hi; rw [h] at this; cases this
theorem not_inOrd {L : List (List Fi)} {k : Nat} (hk : k < L.length) (h : ¬ lvOk k (L.getD k [])) : ¬ inOrd L := fun k' => h (k' k hk)
set_option maxHeartbeats 2000000 in
theorem inorder_any (a : Option Addr) (len cap : Nat) (L : List (List Fi)) (w : World) (H : Lvs w a len cap L) (hw : wL L ≤ 1048576) :
    Calls Tryz.prog 56 #[.slice a len cap] w fun e w' => e = .returned (.bool (decide (inOrd L))) ∧ Below w.heap.size w w' := by
  obtain ⟨B, hB⟩ : ∃ B, B = decide (inOrd L) := ⟨_, rfl⟩
  rw [← hB]
  have hll := wL_len L
  have hlen := H.len_eq
  have hcap := H.cap_le
  have HL : Hid (∀ W, Below w.heap.size w W → Lvs W a len cap L) := fun W b => H.later b
  have hn8 : len ≤ 1048576 := by omega
  replace hB := hid hB
  replace hw := hid hw
  replace hlen := hid hlen
  clear H hll
  go_enter Tryz.func56, Tryz.ntmps56
  go_wp2_with fail
  go_loopw [9] (fun ii wr => ∃ i : Nat, ii = .int .i64 i ∧ i ≤ len ∧ (∀ j, j < i → lvOk j (L.getD j [])) ∧ Below w.heap.size w wr) (fun ii _ => len - (intOf ii).toNat)
  case atStart => exact ⟨0, rfl, by omega, fun j hj => by omega, Below.refl _ _⟩
  case round =>
    obtain ⟨i, rfl, hi, hall, bw⟩ := hrel
    replace hall := hid hall
    by_cases hlt : i < len
    · obtain ⟨lb, lof, la, ln, lc, rfl, cl, FS, hln⟩ := (HL.out wr bw).at i hlt
      have ik0 : (i : Int) < (len : Int) := by omega
      have ok0 : (0 : Int) ≤ (i : Int) := by omega
      have hsum := wL_at (L := L) (i := i) (by rw [hlen.out]; exact hlt)
      have hln8 : ln ≤ 1048576 := by have := hw.out; omega
      clear hsum
      have hnot : Hid (¬ lvOk i (L.getD i []) → ¬ inOrd L) := fun h => not_inOrd (by rw [hlen.out]; exact hlt) h
      obtain ⟨fs, hfs⟩ : ∃ fs, fs = L.getD i [] := ⟨_, rfl⟩
      rw [← hfs] at FS hln hnot
      have hlc := FS.c
      have HF : Hid (∀ W, Below wr.heap.size wr W → eFi.Sl W la ln lc fs) := fun W b => FS.later b
      clear FS
      replace bw := hid bw
      replace hfs := hid hfs
      replace hln := hid hln
      obtain ⟨wr0, hwr0⟩ : ∃ x, x = wr := ⟨_, rfl⟩
      rw [← hwr0] at bw HF
      rw [← hwr0] at cl
      rw [← hwr0]
      clear hwr0 wr
      go_wp2_with fail
      go_loopw [16] (fun ii wr => ∃ j : Nat, ii = .int .i64 j ∧ j ≤ ln ∧ (∀ m, m < j → okAt i fs m = true) ∧ Below wr0.heap.size wr0 wr) (fun ii _ => ln - (intOf ii).toNat)
      case atStart => exact ⟨0, rfl, by omega, fun j hj => by omega, Below.refl _ _⟩
      case round =>
        obtain ⟨j, rfl, hj, hal, bj⟩ := hrel
        replace hal := hid hal
        by_cases hjl : j < ln
        · obtain ⟨fb, fo, rfl, hat⟩ := get1 (HF.out wr bj) j hjl
          have hA := fi_at (hat j hjl)
          have hP : 0 < j → _ := fun h => fi_at (hat (j - 1) (by omega))
          have hmem : fs.getD j zf ∈ fs := El.get_mem (E := eFi) (by rw [← hln.out]; exact hjl)
          have hok := (HF.out wr bj).ok _ hmem
          have hmem' : fs.getD (j - 1) zf ∈ fs := El.get_mem (E := eFi) (by rw [← hln.out]; omega)
          have hok' := (HF.out wr bj).ok _ hmem'
          have hokA : okAt i fs j = (may (fs.getD j zf) && (decide (j = 0) || fol i (fs.getD (j - 1) zf) (fs.getD j zf))) := rfl
          replace hokA := hid hokA
          have hjlf : Hid (j < fs.length) := by show _ < _; rw [← hln.out]; exact hjl
          have hM := hid (maybe_any (fs.getD j zf) hok)
          have hF := hid (follow_any i (fs.getD (j - 1) zf) (fs.getD j zf))
          change _ ∧ _ at hA
          rw [show eFi.z = zf from rfl] at hA hP
          clear hok hok' hmem hmem' hat
          generalize fs.getD j zf = f at *
          generalize fs.getD (j - 1) zf = f' at *
          obtain ⟨n, z, s, t, lo, hi⟩ := f
          obtain ⟨n', z', s', t', lo', hi'⟩ := f'
          obtain ⟨e1, e2, e3, e4, e5, e6⟩ := hA
          simp only [show eFi.k = 6 from rfl] at e1 e2 e3 e4 e5 e6
          have jk0 : (j : Int) < (ln : Int) := by omega
          have jo0 : (0 : Int) ≤ (j : Int) := by omega
          unfold fv at hM hF
          dsimp only at hM hF
          obtain ⟨g, hg⟩ : ∃ g, g = wr.heap.size := ⟨_, rfl⟩
          obtain ⟨W1, hW1⟩ : ∃ W, W = wr.alloc (.cells #[.int .i64 n, .int .i64 z, .string s, .string t, .int .u64 lo, .int .u64 hi] 67) := ⟨_, rfl⟩
          have k1 : W1.heap[g]? = some (.cells #[.int .i64 n, .int .i64 z, .string s, .string t, .int .u64 lo, .int .u64 hi] 67) := by rw [hW1, hg]; exact new_at _ _
          have b1 : Below wr.heap.size wr W1 := by rw [hW1]; exact box_below _ _
          have r0 := fun d os => cell_regrown (cell_of k1 0 _ rfl) d os
          have r1 := fun d os => cell_regrown (cell_of k1 1 _ rfl) d os
          have r2 := fun d os => cell_regrown (cell_of k1 2 _ rfl) d os
          have r3 := fun d os => cell_regrown (cell_of k1 3 _ rfl) d os
          have r4 := fun d os => cell_regrown (cell_of k1 4 _ rfl) d os
          have r5 := fun d os => cell_regrown (cell_of k1 5 _ rfl) d os
          replace hW1 := hid hW1
          replace hg := hid hg
          replace b1 := hid b1
          replace bj := hid bj
          clear k1
          go_wp2_with fail
          rw [← hW1.out, ← hg.out]
          clear e1 e2 e3 e4 e5 e6
          generalize hm : may ⟨n, z, s, t, lo, hi⟩ = M at *
          cases M with
          | false =>
            have hBf : Hid (false = B) := by
              show _ = _
              rw [hB.out]; symm; apply decide_eq_false
              exact hnot.out (not_lvOk hjlf.out (by rw [hokA.out]; rfl))
            clear hP hm
            refine wp_region_quiet_below (by kernel_rfl) (by kernel_rfl) ?_
            repeat (go_big_quiet_step (first | (go_at_call 75; exact Calls.regrown_of (hM.out _))))
            refine wpQuiet_nil ?_
            intro w8 hw8
            have b8 : Hid (Below W1.heap.size W1 w8) := by
              obtain ⟨⟨dq, osq⟩, hw''⟩ := hw8
              rw [hw'']
              exact below_regrown _ dq osq
            clear hw8
            go_wp2_with fail
            go_ret
            exact ⟨ret_bool hBf.out, Below.up (Below.up bw.out (Below.up bj.out b1.out)) b8.out⟩
          | true =>
            by_cases hj0 : j = 0
            · have hz : decide (0 < j) = false := decide_eq_false (by omega)
              have hal' : Hid (∀ m, m < j + 1 → okAt i fs m = true) := by
                intro m hm'
                by_cases e : m < j
                · exact hal.out m e
                · rw [show m = j by omega, hokA.out]; simp [hj0]
              clear hP hm hj0
              refine wp_region_quiet_below (by kernel_rfl) (by kernel_rfl) ?_
              repeat (go_big_quiet_step (first | (go_at_call 75; exact Calls.regrown_of (hM.out _)) | (go_at_call 76; exact Calls.regrown_of (hF.out _))))
              refine wpQuiet_nil ?_
              intro w8 hw8
              have b8 : Hid (Below W1.heap.size W1 w8) := by
                obtain ⟨⟨dq, osq⟩, hw''⟩ := hw8
                rw [hw'']
                exact below_regrown _ dq osq
              clear hw8
              go_wp2_with fail
              go_roundw
              case rel => exact ⟨j + 1, by go_num, by omega, hal'.out, Below.up (Below.up bj.out b1.out) b8.out⟩
              case measure => simp [intOf]; omega
            · obtain ⟨m, rfl⟩ : ∃ m, j = m + 1 := ⟨j - 1, by omega⟩
              have hP' := hP (by omega)
              clear hP
              rw [show m + 1 - 1 = m from rfl] at hP'
              obtain ⟨p1, p2, p3, p4, p5, p6⟩ := hP'
              simp only [show eFi.k = 6 from rfl] at p1 p2 p3 p4 p5 p6
              have b1' := b1.out
              have q1 := fun d os => cell_regrown ((b1'.cell (block_lt_of_cell p1)).trans p1) d os
              have q2 := fun d os => cell_regrown ((b1'.cell (block_lt_of_cell p2)).trans p2) d os
              have q3 := fun d os => cell_regrown ((b1'.cell (block_lt_of_cell p3)).trans p3) d os
              have q4 := fun d os => cell_regrown ((b1'.cell (block_lt_of_cell p4)).trans p4) d os
              have q5 := fun d os => cell_regrown ((b1'.cell (block_lt_of_cell p5)).trans p5) d os
              have q6 := fun d os => cell_regrown ((b1'.cell (block_lt_of_cell p6)).trans p6) d os
              have mk0 : (m : Int) < (ln : Int) := by omega
              have mo0 : (0 : Int) ≤ (m : Int) := by omega
              clear p1 p2 p3 p4 p5 p6 b1' hj0
              generalize hf : fol i ⟨n', z', s', t', lo', hi'⟩ ⟨n, z, s, t, lo, hi⟩ = F at *
              cases F with
              | false =>
                have hBf : Hid (false = B) := by
                  show _ = _
                  rw [hB.out]; symm; apply decide_eq_false
                  exact hnot.out (not_lvOk hjlf.out (by rw [hokA.out]; simp))
                clear hm hf
                refine wp_region_quiet_below (by kernel_rfl) (by kernel_rfl) ?_
                repeat (go_big_quiet_step (first | (go_at_call 75; exact Calls.regrown_of (hM.out _)) | (go_at_call 76; exact Calls.regrown_of (hF.out _))))
                refine wpQuiet_nil ?_
                intro w8 hw8
                have b8 : Hid (Below W1.heap.size W1 w8) := by
                  obtain ⟨⟨dq, osq⟩, hw''⟩ := hw8
                  rw [hw'']
                  exact below_regrown _ dq osq
                clear hw8
                go_wp2_with fail
                go_ret
                exact ⟨ret_bool hBf.out, Below.up (Below.up bw.out (Below.up bj.out b1.out)) b8.out⟩
              | true =>
                have hal' : Hid (∀ k, k < m + 1 + 1 → okAt i fs k = true) := by
                  intro k hm'
                  by_cases e : k < m + 1
                  · exact hal.out k e
                  · rw [show k = m + 1 by omega, hokA.out]; simp
                clear hm hf
                refine wp_region_quiet_below (by kernel_rfl) (by kernel_rfl) ?_
                repeat (go_big_quiet_step (first | (go_at_call 75; exact Calls.regrown_of (hM.out _)) | (go_at_call 76; exact Calls.regrown_of (hF.out _))))
                refine wpQuiet_nil ?_
                intro w8 hw8
                have b8 : Hid (Below W1.heap.size W1 w8) := by
                  obtain ⟨⟨dq, osq⟩, hw''⟩ := hw8
                  rw [hw'']
                  exact below_regrown _ dq osq
                clear hw8
                go_wp2_with fail
                go_roundw
                case rel => exact ⟨m + 1 + 1, by go_num, by omega, hal'.out, Below.up (Below.up bj.out b1.out) b8.out⟩
                case measure => simp [intOf]; omega
        · have hje : j = ln := by omega
          subst hje
          have hal' : Hid (∀ k, k < i + 1 → lvOk k (L.getD k [])) := by
            intro k hk
            by_cases e : k < i
            · exact hall.out k e
            · rw [show k = i by omega, ← hfs.out]
              intro m hm
              exact hal.out m (by rw [hln.out]; exact hm)
          replace bj := hid bj
          go_wp2_with fail
          go_roundw
          case rel => exact ⟨i + 1, by go_num, by omega, hal'.out, Below.up bw.out bj.out⟩
          case measure => simp [intOf]; omega
    · have hie : i = len := by omega
      subst hie
      have hBt : Hid (true = B) := by
        show _ = _
        rw [hB.out]; symm; apply decide_eq_true
        intro k hk
        exact hall.out k (by rw [← hlen.out]; exact hk)
      replace bw := hid bw
      go_wp2_with fail
      go_ret
      exact ⟨ret_bool hBt.out, bw.out⟩
end Go.Proofs.YtcpnmpepcpcahaaGreatDoor.Vq

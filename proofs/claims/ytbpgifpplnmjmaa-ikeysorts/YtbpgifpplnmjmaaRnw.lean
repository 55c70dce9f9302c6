/- Newest by the document's definition. -/
import Derived.Test.YtbpgifpplnmjmaaNw
import Derived.Test.YtbpgifpplnmjmaaCr
namespace Go.Proofs.Ytbpgifpplnmjmaa.Nw
open Go.ChangeShapes Go.WideShapes Go.ChangeAt Go.RowKit
open Go.Sort
open Go.Proofs.Ytbpgifpplnmjmaa.Ik
open Go.Proofs.Ytbpgifpplnmjmaa.Ee
set_option linter.unusedVariables false

theorem rkey_any (k : ByteArray) (s c : Int) (v : ByteArray) (w : World) :
    Calls Try.prog 48 #[.agg #[.string k, .int .u64 s, .int .i64 c, .string v]] w fun e w' => e = .returned (.agg #[.string k, .int .u64 s, .int .i64 c]) ∧ Below w.heap.size w w' := by
  go_enter Try.func48, Try.ntmps48
  go_wp2
  exact bodyPost_ret (v := .agg #[.string k, .int .u64 s, .int .i64 c]) (by simp [results, Try.results48, go_sem]) rfl ⟨rfl, ((Below.refl _ _).alloc (Nat.le_refl _) _).alloc (by simp) _⟩
/-- Where the newest one so far lies. -/
def Lies (xs : List E) (key : ByteArray) (seq : Int) (k : Nat) (b : Int) : Prop := (newest key seq (xs.take k) = none ∧ b = -1) ∨ ∃ j : Nat, j < k ∧ b = (j : Int) ∧ newest key seq (xs.take k) = some (xs.getD j ze)

set_option maxHeartbeats 4000000 in
set_option maxRecDepth 100000 in
theorem rnewest_any (a : Option Addr) (len cap : Nat) (xs : List E) (key : ByteArray) (seq : Int) (w : World) (H : Ents w a len cap xs) (hl : len ≤ 140737488351232) :
    Calls Try.prog 31 #[.slice a len cap, .string key, .int .u64 seq] w fun e w' => e = .returned (.tuple #[.agg (c4 ((newest key seq xs).getD ze)), .bool (newest key seq xs).isSome]) ∧ Below w.heap.size w w' := by
  obtain ⟨g6, hg6⟩ : ∃ g, g = w.heap.size := ⟨_, rfl⟩
  obtain ⟨W, hW⟩ : ∃ W, W = w.alloc (.cells #[.string ⟨#[]⟩, .int .u64 0, .int .i64 0, .string ⟨#[]⟩] 55) := ⟨_, rfl⟩
  have K6 : Hid (Blk W g6 (c4 ze)) := by rw [hW, hg6]; exact Blk.new w (c4 ze)
  have HB : Hid (Below w.heap.size w W) := by rw [hW]; exact (Below.refl _ _).alloc (Nat.le_refl _) _
  have HH := hid (H.later HB.out)
  have HW : Hid (w.alloc (.cells #[.string ⟨#[]⟩, .int .u64 0, .int .i64 0, .string ⟨#[]⟩] 55) = W) := hW.symm
  have HG6 : Hid (w.heap.size = g6) := hg6.symm
  have gw6 : w.heap.size ≤ g6 := by omega
  clear hW hg6 H
  go_enter Try.func31, Try.ntmps31
  go_wp2_with fail
  rw [HW.out, HG6.out]
  go_loopw [8, 9] (fun f i wr => ∃ k : Nat, ∃ b : Int, f = .int .i64 b ∧ i = .int .i64 k ∧ k ≤ len ∧ Hid (Lies xs key seq k b) ∧ Hid (Below W.heap.size W wr)) (fun _ i _ => len - (intOf i).toNat)
  case atStart => exact ⟨0, -1, rfl, rfl, by omega, .inl ⟨rfl, rfl⟩, Below.refl _ _⟩
  case round =>
    obtain ⟨k, bi, rfl, rfl, hk, hli, hbel⟩ := hrel
    clear HW HG6
    by_cases hlt : k < len
    · have hxl := HH.out.1
      have hS := hid (newest_snoc key seq xs k (by omega))
      cases a with
      | none => have := (HH.out.2.2.1 rfl).1; omega
      | some ad =>
        obtain ⟨b, off, sp⟩ := ad
        obtain ⟨rfl, hats⟩ := HH.out.2.2.2.2 b off sp rfl (by omega)
        have hat := (hats k hlt).later hbel.out
        obtain ⟨x, hx⟩ : ∃ x, x = xs.getD k ze := ⟨_, rfl⟩
        have HX := hid hx
        rw [← hx] at hat hS
        clear hx
        obtain ⟨xk, xs', xc, xv⟩ := x
        obtain ⟨a1, a2, a3, a4⟩ := hat
        simp only at a1 a2 a3 a4
        have r1 := fun d os => cell_regrown a1 d os
        have r2 := fun d os => cell_regrown a2 d os
        have r3 := fun d os => cell_regrown a3 d os
        have r4 := fun d os => cell_regrown a4 d os
        have ik0 : (k : Int) < (len : Int) := by omega
        have ok0 : (0 : Int) ≤ (k : Int) := by omega
        have hlc := HH.out.2.1
        have keepL : (¬ takes key seq (newest key seq (xs.take k)) ⟨xk, xs', xc, xv⟩) → Hid (Lies xs key seq (k + 1) bi) := fun h => by
          rcases hli.out with ⟨h1, h2⟩ | ⟨j, h1, h2, h3⟩
          · exact .inl ⟨by rw [hS.out, step_no h, h1], h2⟩
          · exact .inr ⟨j, by omega, h2, by rw [hS.out, step_no h, h3]⟩
        have takeL : takes key seq (newest key seq (xs.take k)) ⟨xk, xs', xc, xv⟩ → Hid (Lies xs key seq (k + 1) (k : Int)) := fun h => .inr ⟨k, by omega, rfl, by rw [hS.out, step_yes h, HX.out]⟩
        by_cases e1 : xk = key
        · have t1 := text_eq e1
          by_cases e2 : xs' ≤ seq
          · rcases hli.out with ⟨h1, h2⟩ | ⟨j, h1, h2, h3⟩
            · have HS := takeL (by rw [h1]; exact ⟨e1, e2, trivial⟩)
              subst h2
              clear keepL takeL hS hli h1 hats hxl e1
              go_wp2_with fail
              refine wp_region_quiet_below (by kernel_rfl) (by kernel_rfl) ?_
              repeat (first | go_big_quiet_step ((first | (go_at_call 48; exact Calls.regrown_of (rkey_any _ _ _ _ _)) | (go_at_call 12; exact Calls.regrown_of (Cm.rcompare_any _ _ _ _ _ _ _)))) | quiet_step ((first | (go_at_call 48; exact Calls.regrown_of (rkey_any _ _ _ _ _)) | (go_at_call 12; exact Calls.regrown_of (Cm.rcompare_any _ _ _ _ _ _ _)))))
              refine wpQuiet_nil ?_
              intro _ hw'
              obtain ⟨⟨dq, osq⟩, hw''⟩ := hw'
              subst hw''
              have BN : Hid (Below W.heap.size W (grow (redrawn wr dq) osq)) := hbel.out.trans ((below_regrown wr dq osq).mono hbel.out.size)
              go_wp2_with fail
              go_roundw
              case rel => exact ⟨k + 1, (k : Int), rfl, by go_num, by omega, HS, BN⟩
              case measure => simp [intOf]; omega
            · have hatj := (hats j (by omega)).later hbel.out
              have HJ : Hid (newest key seq (xs.take k) = some (xs.getD j ze)) := h3
              clear h3
              obtain ⟨y, hy⟩ : ∃ y, y = xs.getD j ze := ⟨_, rfl⟩
              rw [← hy] at hatj HJ
              clear hy
              obtain ⟨yk, ys, yc, yv⟩ := y
              obtain ⟨b1, b2, b3, b4⟩ := hatj
              simp only at b1 b2 b3 b4
              have s1 := fun d os => cell_regrown b1 d os
              have s2 := fun d os => cell_regrown b2 d os
              have s3 := fun d os => cell_regrown b3 d os
              have s4 := fun d os => cell_regrown b4 d os
              have ij0 : (j : Int) < (len : Int) := by omega
              have oj0 : (0 : Int) ≤ (j : Int) := by omega
              have nj0 : decide ((j : Int) < 0) = false := decide_eq_false (by omega)
              subst h2
              by_cases hc : cmp (Cm.ik xk xs' xc) (Cm.ik yk ys yc) < 0
              · have HS := takeL (by rw [HJ.out]; exact ⟨e1, e2, hc⟩)
                clear keepL takeL hS hli hats hxl e1
                go_wp2_with fail
                refine wp_region_quiet_below (by kernel_rfl) (by kernel_rfl) ?_
                repeat (first | go_big_quiet_step ((first | (go_at_call 48; exact Calls.regrown_of (rkey_any _ _ _ _ _)) | (go_at_call 12; exact Calls.regrown_of (Cm.rcompare_any _ _ _ _ _ _ _)))) | quiet_step ((first | (go_at_call 48; exact Calls.regrown_of (rkey_any _ _ _ _ _)) | (go_at_call 12; exact Calls.regrown_of (Cm.rcompare_any _ _ _ _ _ _ _)))))
                refine wpQuiet_nil ?_
                intro _ hw'
                obtain ⟨⟨dq, osq⟩, hw''⟩ := hw'
                subst hw''
                have BN : Hid (Below W.heap.size W (grow (redrawn wr dq) osq)) := hbel.out.trans ((below_regrown wr dq osq).mono hbel.out.size)
                go_wp2_with fail
                go_roundw
                case rel => exact ⟨k + 1, (k : Int), rfl, by go_num, by omega, HS, BN⟩
                case measure => simp [intOf]; omega
              · have HS := keepL (by rw [HJ.out]; exact fun h => hc h.2.2)
                have dc := decide_eq_false hc
                clear keepL takeL hS hli hats hxl e1
                go_wp2_with fail
                refine wp_region_quiet_below (by kernel_rfl) (by kernel_rfl) ?_
                repeat (first | go_big_quiet_step ((first | (go_at_call 48; exact Calls.regrown_of (rkey_any _ _ _ _ _)) | (go_at_call 12; exact Calls.regrown_of (Cm.rcompare_any _ _ _ _ _ _ _)))) | quiet_step ((first | (go_at_call 48; exact Calls.regrown_of (rkey_any _ _ _ _ _)) | (go_at_call 12; exact Calls.regrown_of (Cm.rcompare_any _ _ _ _ _ _ _)))))
                refine wpQuiet_nil ?_
                intro _ hw'
                obtain ⟨⟨dq, osq⟩, hw''⟩ := hw'
                subst hw''
                have BN : Hid (Below W.heap.size W (grow (redrawn wr dq) osq)) := hbel.out.trans ((below_regrown wr dq osq).mono hbel.out.size)
                go_wp2_with fail
                go_roundw
                case rel => exact ⟨k + 1, (j : Int), rfl, by go_num, by omega, HS, BN⟩
                case measure => simp [intOf]; omega
          · have HS := keepL (fun h => e2 h.2.1)
            have d2 := decide_eq_false e2
            clear keepL takeL hS hli hats hxl e1
            go_wp2_with fail
            refine wp_region_quiet_below (by kernel_rfl) (by kernel_rfl) ?_
            repeat (first | go_big_quiet_step ((first | (go_at_call 48; exact Calls.regrown_of (rkey_any _ _ _ _ _)) | (go_at_call 12; exact Calls.regrown_of (Cm.rcompare_any _ _ _ _ _ _ _)))) | quiet_step ((first | (go_at_call 48; exact Calls.regrown_of (rkey_any _ _ _ _ _)) | (go_at_call 12; exact Calls.regrown_of (Cm.rcompare_any _ _ _ _ _ _ _)))))
            refine wpQuiet_nil ?_
            intro _ hw'
            obtain ⟨⟨dq, osq⟩, hw''⟩ := hw'
            subst hw''
            have BN : Hid (Below W.heap.size W (grow (redrawn wr dq) osq)) := hbel.out.trans ((below_regrown wr dq osq).mono hbel.out.size)
            go_wp2_with fail
            go_roundw
            case rel => exact ⟨k + 1, bi, rfl, by go_num, by omega, HS, BN⟩
            case measure => simp [intOf]; omega
        · have t1 := text_ne e1
          have HS := keepL (fun h => e1 h.1)
          clear keepL takeL hS hli hats hxl e1
          go_wp2_with fail
          refine wp_region_quiet_below (by kernel_rfl) (by kernel_rfl) ?_
          repeat (first | go_big_quiet_step ((first | (go_at_call 48; exact Calls.regrown_of (rkey_any _ _ _ _ _)) | (go_at_call 12; exact Calls.regrown_of (Cm.rcompare_any _ _ _ _ _ _ _)))) | quiet_step ((first | (go_at_call 48; exact Calls.regrown_of (rkey_any _ _ _ _ _)) | (go_at_call 12; exact Calls.regrown_of (Cm.rcompare_any _ _ _ _ _ _ _)))))
          refine wpQuiet_nil ?_
          intro _ hw'
          obtain ⟨⟨dq, osq⟩, hw''⟩ := hw'
          subst hw''
          have BN : Hid (Below W.heap.size W (grow (redrawn wr dq) osq)) := hbel.out.trans ((below_regrown wr dq osq).mono hbel.out.size)
          go_wp2_with fail
          go_roundw
          case rel => exact ⟨k + 1, bi, rfl, by go_num, by omega, HS, BN⟩
          case measure => simp [intOf]; omega
    · have hkl : k = len := by omega
      subst hkl
      have hxl := HH.out.1
      have k6 := hid (K6.out.later hbel.out)
      have p0 : wr.cell? ⟨g6, 0, none⟩ = some (.string ⟨#[]⟩) := k6.out.cell 0
      have p1 : wr.cell? ⟨g6, 1, none⟩ = some (.int .u64 0) := k6.out.cell 1
      have p2 : wr.cell? ⟨g6, 2, none⟩ = some (.int .i64 0) := k6.out.cell 2
      have p3 : wr.cell? ⟨g6, 3, none⟩ = some (.string ⟨#[]⟩) := k6.out.cell 3
      have z0 := k6.out.fz 0
      have z1 := k6.out.fz 1
      have z2 := k6.out.fz 2
      have z3 := k6.out.fz 3
      have ALL : xs.take k = xs := List.take_of_length_le (by omega)
      rcases hli.out with ⟨h1, h2⟩ | ⟨j, h1, h2, h3⟩
      · rw [ALL] at h1
        have HO : Hid (newest key seq xs = none) := h1
        obtain ⟨V, hV⟩ : ∃ V, V = st4 wr g6 ze := ⟨_, rfl⟩
        have J6 : Blk V g6 (c4 ze) := by rw [hV]; exact st4_blk _ k6.out
        have JB : Hid (Below w.heap.size w V) := by rw [hV]; exact st4_below _ (HB.out.trans (hbel.out.mono HB.out.size)) gw6
        have r0 : V.cell? ⟨g6, 0, none⟩ = some (.string ⟨#[]⟩) := J6.cell 0
        have r1 : V.cell? ⟨g6, 1, none⟩ = some (.int .u64 0) := J6.cell 1
        have r2 : V.cell? ⟨g6, 2, none⟩ = some (.int .i64 0) := J6.cell 2
        have r3 : V.cell? ⟨g6, 3, none⟩ = some (.string ⟨#[]⟩) := J6.cell 3
        have HV : Hid ((((wr.setCell ⟨g6, 0, none⟩ (.string ⟨#[]⟩)).setCell ⟨g6, 1, none⟩ (.int .u64 0)).setCell ⟨g6, 2, none⟩ (.int .i64 0)).setCell ⟨g6, 3, none⟩ (.string ⟨#[]⟩) = V) := hV.symm
        subst h2
        clear hli h1 hV J6 ALL hxl k6
        go_wp2_with fail
        rw [HV.out]
        exact bodyPost_ret (v := .tuple #[.agg #[.string ⟨#[]⟩, .int .u64 0, .int .i64 0, .string ⟨#[]⟩], .bool false]) (by simp [results, Try.results31, go_sem, r0, r1, r2, r3]) rfl ⟨by rw [HO.out]; rfl, JB.out⟩
      · rw [ALL] at h3
        cases a with
        | none => have := (HH.out.2.2.1 rfl).1; omega
        | some ad =>
          obtain ⟨b, off, sp⟩ := ad
          obtain ⟨rfl, hats⟩ := HH.out.2.2.2.2 b off sp rfl (by omega)
          have hatj := (hats j (by omega)).later hbel.out
          obtain ⟨y, hy⟩ : ∃ y, y = xs.getD j ze := ⟨_, rfl⟩
          rw [← hy] at hatj h3
          have HO : Hid (newest key seq xs = some y) := h3
          clear hy h3
          obtain ⟨yk, ys, yc, yv⟩ := y
          obtain ⟨b1, b2, b3, b4⟩ := hatj
          simp only at b1 b2 b3 b4
          have ij0 : (j : Int) < (k : Int) := by omega
          have oj0 : (0 : Int) ≤ (j : Int) := by omega
          have hlc := HH.out.2.1
          obtain ⟨V, hV⟩ : ∃ V, V = st4 wr g6 ⟨yk, ys, yc, yv⟩ := ⟨_, rfl⟩
          have J6 : Blk V g6 (c4 ⟨yk, ys, yc, yv⟩) := by rw [hV]; exact st4_blk _ k6.out
          have JB : Hid (Below w.heap.size w V) := by rw [hV]; exact st4_below _ (HB.out.trans (hbel.out.mono HB.out.size)) gw6
          have r0 : V.cell? ⟨g6, 0, none⟩ = some (.string yk) := J6.cell 0
          have r1 : V.cell? ⟨g6, 1, none⟩ = some (.int .u64 ys) := J6.cell 1
          have r2 : V.cell? ⟨g6, 2, none⟩ = some (.int .i64 yc) := J6.cell 2
          have r3 : V.cell? ⟨g6, 3, none⟩ = some (.string yv) := J6.cell 3
          have HV : Hid ((((wr.setCell ⟨g6, 0, none⟩ (.string yk)).setCell ⟨g6, 1, none⟩ (.int .u64 ys)).setCell ⟨g6, 2, none⟩ (.int .i64 yc)).setCell ⟨g6, 3, none⟩ (.string yv) = V) := hV.symm
          subst h2
          clear hli hV J6 ALL hxl k6 hats
          go_wp2_with fail
          rw [HV.out]
          exact bodyPost_ret (v := .tuple #[.agg #[.string yk, .int .u64 ys, .int .i64 yc, .string yv], .bool true]) (by simp [results, Try.results31, go_sem, r0, r1, r2, r3]) rfl ⟨by rw [HO.out]; rfl, JB.out⟩
end Go.Proofs.Ytbpgifpplnmjmaa.Nw

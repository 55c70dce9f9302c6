/- The walk of IkeyFirst where no entry is seen. -/
import Derived.Test.YtbpgifpplnmjmabFi
import Derived.Deep.RegionHeld3
import Derived.ShutString
import Derived.ChangeOld
import Derived.Below
import Derived.SizedLaws
import Derived.Deep.RegionWith
import Derived.Lib.SmallJoins
namespace Go.Proofs.Ytbpgifpplnmjmab.ikeyFirst
open Go.ChangeShapes Go.WideShapes Go.ChangeAt Go.RowKit Go.Joins
open Go.ChangeMaps (open_string shut_string)
set_option linter.unusedVariables false
open Go.Sort
open Go.Proofs.Ytbpgifpplnmjmab.Ik
open Go.Proofs.Ytbpgifpplnmjmab.Ee
open Go.Proofs.Ytbpgifpplnmjmab.Nw

set_option maxHeartbeats 8000000 in
set_option maxRecDepth 100000 in
theorem walk_no (a : Option Addr) (len cap : Nat) (xs : List E) (key : ByteArray) (seq : Int) (w : World) (H : Ents w a len cap xs) (hl : len ≤ 140737488351232) (hkz : key.size ≤ maxLen) (HE : newest key seq xs = none) :
    Calls Try.prog 5 #[.slice a len cap, .string key, .int .u64 seq] w fun e w' => e = .returned (.bool true) ∧ Below w.heap.size w w' := by
  have SP := newest_spec key seq xs
  rw [HE] at SP
  have S4 : Hid (∀ x ∈ xs, ¬ (x.k = key ∧ x.s ≤ seq)) := SP
  have N : ∀ W, Ents W a len cap xs → Calls Try.prog 11 #[.slice a len cap, .string key, .int .u64 seq] W fun e w' => e = .returned (.tuple #[.agg #[.string ze.k, .int .u64 ze.s, .int .i64 ze.c, .string ze.v], .bool false]) ∧ Below W.heap.size W w' := fun W hW => by
    have := newest_any a len cap xs key seq W hW hl hkz
    rw [HE] at this
    exact this
  obtain ⟨ek, hek⟩ : ∃ x, x = ze.k := ⟨_, rfl⟩
  obtain ⟨es, hes⟩ : ∃ x, x = ze.s := ⟨_, rfl⟩
  obtain ⟨ec, hec⟩ : ∃ x, x = ze.c := ⟨_, rfl⟩
  obtain ⟨ev, hev⟩ : ∃ x, x = ze.v := ⟨_, rfl⟩
  rw [← hek, ← hes, ← hec, ← hev] at N
  have HN := hid N
  have HH := hid H
  clear N H HE SP hkz hek hes hec hev
  obtain ⟨q, hq⟩ : ∃ q, q = atS seq := ⟨_, rfl⟩
  have HQ := hid hq
  go_enter Try.func5, Try.ntmps5
  go_wp2_with fail
  refine (at_any key seq _).mono ?_
  rw [← HQ.out]
  rintro e w1 ⟨rfl, b1⟩
  obtain ⟨w2, hw2⟩ : ∃ w2, w2 = w1.alloc (.cells #[.string key, .int .u64 q, .int .i64 255] 24) := ⟨_, rfl⟩
  obtain ⟨g7, hg7⟩ : ∃ g, g = w1.heap.size := ⟨_, rfl⟩
  have T2 : At3 w2 g7 key q 255 := by rw [hw2, hg7]; exact ⟨by go_simp, by go_simp, by go_simp⟩
  have B2 : Below w.heap.size w w2 := by rw [hw2]; exact b1.alloc b1.size _
  have HB2 := hid B2
  have HT2 := hid T2
  have HW2 := hid hw2.symm
  have HG7 := hid hg7.symm
  clear b1 T2 B2 hw2 hg7 hq
  go_wp2_with fail
  rw [HW2.out, HG7.out]
  refine (HN.out _ (HH.out.later HB2.out)).mono ?_
  rintro e w3 ⟨rfl, b3⟩
  obtain ⟨w4, hw4⟩ : ∃ w4, w4 = w3.alloc (.cells #[.string ek, .int .u64 es, .int .i64 ec, .string ev] 38) := ⟨_, rfl⟩
  obtain ⟨g8, hg8⟩ : ∃ g, g = w3.heap.size := ⟨_, rfl⟩
  have U4 : At4 w4 g8 0 ⟨ek, es, ec, ev⟩ := by rw [hw4, hg8]; exact ⟨by go_simp, by go_simp, by go_simp, by go_simp⟩
  have c4 : Below w3.heap.size w3 w4 := by rw [hw4]; exact (Below.refl _ _).alloc (Nat.le_refl _) _
  have HT4 := hid ((HT2.out.later b3).later c4)
  have B3 : Below w.heap.size w w3 := HB2.out.trans (b3.mono HB2.out.size)
  have HB4 : Hid (Below w.heap.size w w4) := B3.trans (c4.mono B3.size)
  have HU4 := hid U4
  have HW4 := hid hw4.symm
  have HG8 := hid hg8.symm
  clear b3 B3 U4 c4 hw4 hg8 HB2 HT2 HW2 HG7 HN
  go_wp2_with fail
  rw [HW4.out, HG8.out]
  go_loopw [10, 11] (fun t i wr => ∃ k : Nat, ∃ th : Bool, t = .bool th ∧ i = .int .i64 k ∧ k ≤ len ∧ Hid (At3 wr g7 key q 255) ∧ Hid (At4 wr g8 0 ⟨ek, es, ec, ev⟩) ∧ Hid (Below w.heap.size w wr)) (fun _ i _ => len - (intOf i).toNat)
  case atStart => exact ⟨0, false, rfl, rfl, by omega, HT4, HU4, HB4⟩
  case round =>
    obtain ⟨k, th, rfl, rfl, hk, t7, u8, hbel⟩ := hrel
    clear HT4 HU4 HB4 HW4 HG8
    by_cases hlt : k < len
    · have hxl := HH.out.1
      cases a with
      | none => have := (HH.out.2.2.1 rfl).1; omega
      | some ad =>
        obtain ⟨b, off, sp⟩ := ad
        obtain ⟨rfl, hat⟩ := HH.out.2.2.2.2 b off sp rfl (by omega)
        have hat := (hat k hlt).later hbel.out
        have hmem : xs.getD k ze ∈ xs := by
          rw [List.getD_eq_getElem?_getD, List.getElem?_eq_getElem (by omega)]
          exact List.getElem_mem _
        have C4 := S4.out _ hmem
        generalize xs.getD k ze = x at hat C4
        clear hmem hxl
        obtain ⟨xk, xs', xc, xv⟩ := x
        have HA := hid hat
        obtain ⟨a1, a2, a3, a4⟩ := hat
        simp only at a1 a2 a3 a4 C4
        have C4 := hid C4
        have ik0 : (k : Int) < (len : Int) := by omega
        have hlc := HH.out.2.1
        have hlc' : (len : Int) ≤ (cap : Int) := by omega
        have ok0 : (0 : Int) ≤ (k : Int) := by omega
        by_cases e1 : xk = key
        ·
          have l1 := text_eq e1
          by_cases f1 : xc < 0
          · clear e1 C4
            go_wp2_with fail
            go_roundw
            case rel => exact ⟨k + 1, th, rfl, by go_num, by omega, t7, u8, hbel⟩
            case measure => simp [intOf]; omega
          by_cases f2 : 255 < xc
          · clear e1 C4
            go_wp2_with fail
            go_roundw
            case rel => exact ⟨k + 1, th, rfl, by go_num, by omega, t7, u8, hbel⟩
            case measure => simp [intOf]; omega
          by_cases f3 : 72057594037927935 < xs'
          · clear e1 C4
            go_wp2_with fail
            go_roundw
            case rel => exact ⟨k + 1, th, rfl, by go_num, by omega, t7, u8, hbel⟩
            case measure => simp [intOf]; omega
          have e1' := e1.symm
          subst e1'
          clear e1 l1
          have DS : Hid (cmp (Cm.ik key q 255) (Cm.ik key xs' xc) ≤ 0 ↔ xs' ≤ seq) := by show _ ↔ _; rw [HQ.out]; exact at_seen key seq xs' xc (by omega) (by omega)
          have le : ¬ xs' ≤ seq := fun h => C4.out ⟨rfl, h⟩
          have nb := World.new_ne wr ⟨b, off + k * 4 + 1, none⟩ a2
          have nb2 := World.new_ne wr ⟨b, off + k * 4 + 2, none⟩ a3
          go_wp2_with fail
          go_region_held3 (fun W' => W'.cell? ⟨b, off + k * 4 + 1, none⟩ = some (.int .u64 xs') ∧ W'.cell? ⟨b, off + k * 4 + 2, none⟩ = some (.int .i64 xc)) (go_keep) (fail)
          rename_i hHd
          clear hHd nb nb2 a1 a2 a3 a4
          obtain ⟨W1, hW1⟩ : ∃ V, V = (wr.alloc (.cells #[.string key, .int .u64 xs', .int .i64 xc] 24)).drew := ⟨_, rfl⟩
          obtain ⟨gp, hgp⟩ : ∃ g, g = wr.heap.size := ⟨_, rfl⟩
          have BN : Below wr.heap.size wr W1 := by rw [hW1]; exact ((Below.refl _ _).alloc (Nat.le_refl _) _).drew
          have P1 : Hid (At3 W1 gp key xs' xc) := by rw [hW1, hgp]; exact ⟨by go_simp, by go_simp, by go_simp⟩
          have A1 := hid (HA.out.later BN)
          have T1 := hid (t7.out.later BN)
          have U1 := hid (u8.out.later BN)
          have B1 : Hid (Below w.heap.size w W1) := hbel.out.trans (BN.mono hbel.out.size)
          rw [← hW1, ← hgp]
          clear BN hW1 hgp C4 HA t7 u8 hbel
          have c2 := fun d os => cell_regrown A1.out.2.1 d os
          have c3 := fun d os => cell_regrown T1.out.1 d os
          have c4 := fun d os => cell_regrown T1.out.2.1 d os
          have c5 := fun d os => cell_regrown T1.out.2.2 d os
          have c6 := fun d os => cell_regrown P1.out.1 d os
          have c7 := fun d os => cell_regrown P1.out.2.1 d os
          have c8 := fun d os => cell_regrown P1.out.2.2 d os
          simp only at c2
          have dle : decide (xs' ≤ seq) = false := decide_eq_false (by omega)
          have gt : seq < xs' := by omega
          have D : ¬ cmp (Cm.ik key q 255) (Cm.ik key xs' xc) ≤ 0 := fun h => by have := DS.out.1 h; omega
          have dD := decide_eq_false D
          go_wp2_with fail
          refine wp_region_quiet_below (by kernel_rfl) (by kernel_rfl) ?_
          repeat (first | go_big_quiet_step ((go_at_call 12; exact Calls.regrown_of (compare_below _ _ _ _ _ _ _))) | quiet_step ((go_at_call 12; exact Calls.regrown_of (compare_below _ _ _ _ _ _ _))))
          refine wpQuiet_nil ?_
          intro _ hw'
          obtain ⟨⟨dq, osq⟩, hw''⟩ := hw'
          subst hw''
          obtain ⟨V2, hV2⟩ : ∃ V, V = grow (redrawn W1 dq) osq := ⟨_, rfl⟩
          have BN : Below W1.heap.size W1 V2 := by rw [hV2]; exact below_regrown W1 dq osq
          rw [← hV2]
          clear hV2
          have A2 := hid (A1.out.later BN)
          have T2 := hid (T1.out.later BN)
          have U2 := hid (U1.out.later BN)
          have P2 := hid (P1.out.later BN)
          have B2 : Hid (Below w.heap.size w V2) := B1.out.trans (BN.mono B1.out.size)
          clear BN A1 T1 U1 P1 B1 D dD c2 c3 c4 c5 c6 c7 c8
          obtain ⟨m1, m2, m3, m4⟩ := A2.out
          obtain ⟨v1, v2, v3, v4⟩ := U2.out
          obtain ⟨p1, p2, p3⟩ := P2.out
          simp only at m1 m2 m3 m4 v1 v2 v3 v4
          have A3 := A2
          have T3 := T2
          have U3 := U2
          have B3 := B2
          obtain ⟨V3, hV3⟩ : ∃ V, V = V2 := ⟨_, rfl⟩
          subst hV3
          clear A2 T2 U2 P2 B2 v1 v2 v3 v4 p1 p2 p3 m1 m3 m4
          obtain ⟨m1, m2, m3, m4⟩ := A3.out
          obtain ⟨v1, v2, v3, v4⟩ := U3.out
          simp only at m1 m2 m3 m4 v1 v2 v3 v4
          have r1 := fun d os => cell_regrown m1 d os
          have r2 := fun d os => cell_regrown m2 d os
          have r3 := fun d os => cell_regrown m3 d os
          have r4 := fun d os => cell_regrown m4 d os
          have r5 := fun d os => cell_regrown v1 d os
          have r6 := fun d os => cell_regrown v2 d os
          have r7 := fun d os => cell_regrown v3 d os
          have r8 := fun d os => cell_regrown v4 d os
          cases th with
          | true =>
            go_wp2_with fail
            refine wp_region_quiet_below (by kernel_rfl) (by kernel_rfl) ?_
            repeat (first | go_big_quiet_step (fail) | quiet_step (fail))
            refine wpQuiet_nil ?_
            intro _ hw'
            obtain ⟨⟨dq, osq⟩, hw''⟩ := hw'
            subst hw''
            have BN := below_regrown V3 dq osq
            have HT := hid (T3.out.later BN)
            have HU := hid (U3.out.later BN)
            have HBN : Hid (Below w.heap.size w (grow (redrawn V3 dq) osq)) := B3.out.trans (BN.mono B3.out.size)
            clear BN
            go_wp2_with fail
            go_roundw
            case rel => exact ⟨k + 1, true, rfl, by go_num, by omega, HT, HU, HBN⟩
            case measure => simp [intOf]; omega
          | false =>
            by_cases ne0 : key = ek
            · subst ne0
              by_cases ne : es = xs'
              · subst ne
                by_cases ne : ec = xc
                · subst ne
                  by_cases ne : ev = xv
                  · subst ne
                    go_wp2_with fail
                    refine wp_region_quiet_below (by kernel_rfl) (by kernel_rfl) ?_
                    repeat (first | go_big_quiet_step (fail) | quiet_step (fail))
                    refine wpQuiet_nil ?_
                    intro _ hw'
                    obtain ⟨⟨dq, osq⟩, hw''⟩ := hw'
                    subst hw''
                    have BN := below_regrown V3 dq osq
                    have HT := hid (T3.out.later BN)
                    have HU := hid (U3.out.later BN)
                    have HBN : Hid (Below w.heap.size w (grow (redrawn V3 dq) osq)) := B3.out.trans (BN.mono B3.out.size)
                    clear BN
                    go_wp2_with fail
                    go_roundw
                    case rel => exact ⟨k + 1, true, rfl, by go_num, by omega, HT, HU, HBN⟩
                    case measure => simp [intOf]; omega
                  · have ne2 : ¬ xv.toList = ev.toList := fun h => ne (toList_inj h).symm
                    go_wp2_with fail
                    refine wp_region_quiet_below (by kernel_rfl) (by kernel_rfl) ?_
                    repeat (first | go_big_quiet_step (fail) | quiet_step (fail))
                    refine wpQuiet_nil ?_
                    intro _ hw'
                    obtain ⟨⟨dq, osq⟩, hw''⟩ := hw'
                    subst hw''
                    have BN := below_regrown V3 dq osq
                    have HT := hid (T3.out.later BN)
                    have HU := hid (U3.out.later BN)
                    have HBN : Hid (Below w.heap.size w (grow (redrawn V3 dq) osq)) := B3.out.trans (BN.mono B3.out.size)
                    clear BN
                    go_wp2_with fail
                    go_roundw
                    case rel => exact ⟨k + 1, false, rfl, by go_num, by omega, HT, HU, HBN⟩
                    case measure => simp [intOf]; omega
                · skip
                  go_wp2_with fail
                  refine wp_region_quiet_below (by kernel_rfl) (by kernel_rfl) ?_
                  repeat (first | go_big_quiet_step (fail) | quiet_step (fail))
                  refine wpQuiet_nil ?_
                  intro _ hw'
                  obtain ⟨⟨dq, osq⟩, hw''⟩ := hw'
                  subst hw''
                  have BN := below_regrown V3 dq osq
                  have HT := hid (T3.out.later BN)
                  have HU := hid (U3.out.later BN)
                  have HBN : Hid (Below w.heap.size w (grow (redrawn V3 dq) osq)) := B3.out.trans (BN.mono B3.out.size)
                  clear BN
                  go_wp2_with fail
                  go_roundw
                  case rel => exact ⟨k + 1, false, rfl, by go_num, by omega, HT, HU, HBN⟩
                  case measure => simp [intOf]; omega
              · skip
                go_wp2_with fail
                refine wp_region_quiet_below (by kernel_rfl) (by kernel_rfl) ?_
                repeat (first | go_big_quiet_step (fail) | quiet_step (fail))
                refine wpQuiet_nil ?_
                intro _ hw'
                obtain ⟨⟨dq, osq⟩, hw''⟩ := hw'
                subst hw''
                have BN := below_regrown V3 dq osq
                have HT := hid (T3.out.later BN)
                have HU := hid (U3.out.later BN)
                have HBN : Hid (Below w.heap.size w (grow (redrawn V3 dq) osq)) := B3.out.trans (BN.mono B3.out.size)
                clear BN
                go_wp2_with fail
                go_roundw
                case rel => exact ⟨k + 1, false, rfl, by go_num, by omega, HT, HU, HBN⟩
                case measure => simp [intOf]; omega
            · have ne2 : ¬ key.toList = ek.toList := fun h => ne0 (toList_inj h)
              go_wp2_with fail
              refine wp_region_quiet_below (by kernel_rfl) (by kernel_rfl) ?_
              repeat (first | go_big_quiet_step (fail) | quiet_step (fail))
              refine wpQuiet_nil ?_
              intro _ hw'
              obtain ⟨⟨dq, osq⟩, hw''⟩ := hw'
              subst hw''
              have BN := below_regrown V3 dq osq
              have HT := hid (T3.out.later BN)
              have HU := hid (U3.out.later BN)
              have HBN : Hid (Below w.heap.size w (grow (redrawn V3 dq) osq)) := B3.out.trans (BN.mono B3.out.size)
              clear BN
              go_wp2_with fail
              go_roundw
              case rel => exact ⟨k + 1, false, rfl, by go_num, by omega, HT, HU, HBN⟩
              case measure => simp [intOf]; omega
        · have l1 := text_ne e1
          clear e1 C4
          go_wp2_with fail
          go_roundw
          case rel => exact ⟨k + 1, th, rfl, by go_num, by omega, t7, u8, hbel⟩
          case measure => simp [intOf]; omega
    · have hkl : k = len := by omega
      subst hkl
      obtain ⟨t1, t2, t3⟩ := t7.out
      cases th with
      | true =>
        go_wp2_with fail
        go_ret
        exact ⟨rfl, hbel.out⟩
      | false =>
        go_wp2_with fail
        go_ret
        exact ⟨rfl, hbel.out⟩
end Go.Proofs.Ytbpgifpplnmjmab.ikeyFirst

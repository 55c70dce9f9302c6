/- The walk of IkeyFirst. -/
import Derived.Test.YtbpgifpplnmjmabNw
import Derived.Deep.RegionHeld3
import Derived.ShutString
import Derived.ChangeOld
import Derived.Below
import Derived.SizedLaws
import Derived.Deep.RegionWith
import Derived.Lib.SmallJoins
namespace Go.Proofs.Ytbpgifpplnmjmab.ikeyFirst
open Go.ChangeShapes Go.WideShapes Go.ChangeAt Go.RowKit Go.Joins
open Go.ChangeMaps (open_string shut_string)
set_option linter.unusedVariables false
open Go.Sort
open Go.Proofs.Ytbpgifpplnmjmab.Ik
open Go.Proofs.Ytbpgifpplnmjmab.Ee
open Go.Proofs.Ytbpgifpplnmjmab.Nw

/-- An internal key lies at a place. -/
def At3 (w : World) (b : Nat) (k : ByteArray) (s c : Int) : Prop := w.cell? ⟨b, 0, none⟩ = some (.string k) ∧ w.cell? ⟨b, 1, none⟩ = some (.int .u64 s) ∧ w.cell? ⟨b, 2, none⟩ = some (.int .i64 c)
theorem At3.later {w w' : World} {b : Nat} {k : ByteArray} {s c : Int} (h : At3 w b k s c) (hb : Below w.heap.size w w') : At3 w' b k s c :=
  ⟨(hb.cell (block_lt_of_cell h.1)).trans h.1, (hb.cell (block_lt_of_cell h.2.1)).trans h.2.1, (hb.cell (block_lt_of_cell h.2.2)).trans h.2.2⟩
def atS (s : Int) : Int := if 72057594037927935 < s then 72057594037927935 else s
theorem at_any (a : ByteArray) (s : Int) (w : World) :
    Calls Try.prog 10 #[.string a, .int .u64 s] w fun e w' => e = .returned (.agg #[.string a, .int .u64 (atS s), .int .i64 255]) ∧ Below w.heap.size w w' := by
  unfold atS
  by_cases h : 72057594037927935 < s
  · rw [if_pos h]
    go_enter Try.func10, Try.ntmps10
    go_wp2
    exact bodyPost_ret (v := .agg #[.string a, .int .u64 72057594037927935, .int .i64 255]) (by simp [results, Try.results10, go_sem]; omega) rfl ⟨rfl, (Below.refl _ _).alloc (Nat.le_refl _) _⟩
  · rw [if_neg h]
    go_enter Try.func10, Try.ntmps10
    go_wp2
    exact bodyPost_ret (v := .agg #[.string a, .int .u64 s, .int .i64 255]) (by simp [results, Try.results10, go_sem]; omega) rfl ⟨rfl, (Below.refl _ _).alloc (Nat.le_refl _) _⟩
theorem cmp_key (k : ByteArray) (s c t m : Int) : cmp (Cm.ik k s c) (Cm.ik k t m) = if t < s then -1 else if s < t then 1 else if m < c then -1 else if c < m then 1 else 0 := by
  unfold cmp Cm.ik
  have := lt_irrefl k.data.toList
  simp [this]
/-- What is seen stands behind At, all else ahead of it. -/
theorem at_seen (key : ByteArray) (seq s c : Int) (hs : s ≤ 72057594037927935) (hc : 0 ≤ c ∧ c ≤ 255) : (cmp (Cm.ik key (atS seq) 255) (Cm.ik key s c) ≤ 0) ↔ s ≤ seq := by
  rw [cmp_key]
  unfold atS
  repeat' split
  all_goals omega

set_option maxHeartbeats 8000000 in
set_option maxRecDepth 100000 in
theorem walk_ok (a : Option Addr) (len cap : Nat) (xs : List E) (key : ByteArray) (seq : Int) (w : World) (H : Ents w a len cap xs) (hl : len ≤ 140737488351232) (hkz : key.size ≤ maxLen) (e : E) (HE : newest key seq xs = some e) :
    Calls Try.prog 5 #[.slice a len cap, .string key, .int .u64 seq] w fun e w' => e = .returned (.bool true) ∧ Below w.heap.size w w' := by
  have SP := newest_spec key seq xs
  rw [HE] at SP
  obtain ⟨se1, se2, se3, se4⟩ := SP
  obtain ⟨ek, es, ec, ev⟩ := e
  simp only at se2 se3
  subst se2
  have S1 : Hid ((⟨ek, es, ec, ev⟩ : E) ∈ xs) := se1
  have S4 : Hid (∀ x ∈ xs, x.k = ek → x.s ≤ seq → cmp (Cm.ik ek es ec) x.ik ≤ 0) := se4
  have N : ∀ W, Ents W a len cap xs → Calls Try.prog 11 #[.slice a len cap, .string ek, .int .u64 seq] W fun e w' => e = .returned (.tuple #[.agg #[.string ek, .int .u64 es, .int .i64 ec, .string ev], .bool true]) ∧ Below W.heap.size W w' := fun W hW => by
    have := newest_any a len cap xs ek seq W hW hl hkz
    rw [HE] at this
    exact this
  have HN := hid N
  have HH := hid H
  clear N H HE se1 se4 hkz
  obtain ⟨q, hq⟩ : ∃ q, q = atS seq := ⟨_, rfl⟩
  have HQ := hid hq
  go_enter Try.func5, Try.ntmps5
  go_wp2_with fail
  refine (at_any ek seq _).mono ?_
  rw [← HQ.out]
  rintro e w1 ⟨rfl, b1⟩
  obtain ⟨w2, hw2⟩ : ∃ w2, w2 = w1.alloc (.cells #[.string ek, .int .u64 q, .int .i64 255] 24) := ⟨_, rfl⟩
  obtain ⟨g7, hg7⟩ : ∃ g, g = w1.heap.size := ⟨_, rfl⟩
  have T2 : At3 w2 g7 ek q 255 := by rw [hw2, hg7]; exact ⟨by go_simp, by go_simp, by go_simp⟩
  have B2 : Below w.heap.size w w2 := by rw [hw2]; exact b1.alloc b1.size _
  have HB2 := hid B2
  have HT2 := hid T2
  have HW2 := hid hw2.symm
  have HG7 := hid hg7.symm
  clear b1 T2 B2 hw2 hg7 hq
  go_wp2_with fail
  rw [HW2.out, HG7.out]
  refine (HN.out _ (HH.out.later HB2.out)).mono ?_
  rintro e w3 ⟨rfl, b3⟩
  obtain ⟨w4, hw4⟩ : ∃ w4, w4 = w3.alloc (.cells #[.string ek, .int .u64 es, .int .i64 ec, .string ev] 38) := ⟨_, rfl⟩
  obtain ⟨g8, hg8⟩ : ∃ g, g = w3.heap.size := ⟨_, rfl⟩
  have U4 : At4 w4 g8 0 ⟨ek, es, ec, ev⟩ := by rw [hw4, hg8]; exact ⟨by go_simp, by go_simp, by go_simp, by go_simp⟩
  have c4 : Below w3.heap.size w3 w4 := by rw [hw4]; exact (Below.refl _ _).alloc (Nat.le_refl _) _
  have HT4 := hid ((HT2.out.later b3).later c4)
  have B3 : Below w.heap.size w w3 := HB2.out.trans (b3.mono HB2.out.size)
  have HB4 : Hid (Below w.heap.size w w4) := B3.trans (c4.mono B3.size)
  have HU4 := hid U4
  have HW4 := hid hw4.symm
  have HG8 := hid hg8.symm
  clear b3 B3 U4 c4 hw4 hg8 HB2 HT2 HW2 HG7 HN
  have h3 : ¬ seq < es := by omega
  go_wp2_with fail
  rw [HW4.out, HG8.out]
  go_loopw [10, 11] (fun t i wr => ∃ k : Nat, ∃ th : Bool, t = .bool th ∧ i = .int .i64 k ∧ k ≤ len ∧ Hid (∀ j, j < k → xs.getD j ze = ⟨ek, es, ec, ev⟩ → 0 ≤ ec → ec ≤ 255 → es ≤ 72057594037927935 → th = true) ∧ Hid (At3 wr g7 ek q 255) ∧ Hid (At4 wr g8 0 ⟨ek, es, ec, ev⟩) ∧ Hid (Below w.heap.size w wr)) (fun _ i _ => len - (intOf i).toNat)
  case atStart => exact ⟨0, false, rfl, rfl, by omega, fun j hj => by omega, HT4, HU4, HB4⟩
  case round =>
    obtain ⟨k, th, rfl, rfl, hk, hth, t7, u8, hbel⟩ := hrel
    clear HT4 HU4 HB4 HW4 HG8
    by_cases hlt : k < len
    · have hxl := HH.out.1
      cases a with
      | none => have := (HH.out.2.2.1 rfl).1; omega
      | some ad =>
        obtain ⟨b, off, sp⟩ := ad
        obtain ⟨rfl, hat⟩ := HH.out.2.2.2.2 b off sp rfl (by omega)
        have hat := (hat k hlt).later hbel.out
        have hmem : xs.getD k ze ∈ xs := by
          rw [List.getD_eq_getElem?_getD, List.getElem?_eq_getElem (by omega)]
          exact List.getElem_mem _
        have hxs := HH.out.2.2.2.1 _ hmem
        have C4 := S4.out _ hmem
        obtain ⟨x, hx⟩ : ∃ x, x = xs.getD k ze := ⟨_, rfl⟩
        rw [← hx] at hat hxs C4
        have HX := hid hx
        clear hx hmem hxl
        obtain ⟨xk, xs', xc, xv⟩ := x
        have HA := hid hat
        obtain ⟨a1, a2, a3, a4⟩ := hat
        simp only at a1 a2 a3 a4
        have ik0 : (k : Int) < (len : Int) := by omega
        have hlc := HH.out.2.1
        have hlc' : (len : Int) ≤ (cap : Int) := by omega
        have ok0 : (0 : Int) ≤ (k : Int) := by omega
        by_cases e1 : xk = ek
        ·
          have l1 := text_eq e1
          by_cases f1 : xc < 0
          · have HS : Hid (∀ j, j < k + 1 → xs.getD j ze = ⟨ek, es, ec, ev⟩ → 0 ≤ ec → ec ≤ 255 → es ≤ 72057594037927935 → th = true) := fun j hj he h1 h2 h3 => by
              rcases Nat.lt_or_ge j k with h' | h'
              · exact hth.out j h' he h1 h2 h3
              · have : j = k := by omega
                subst this
                rw [← HX.out] at he
                simp only [E.mk.injEq] at he
                omega
            clear hth HX C4 hxs
            clear e1
            go_wp2_with fail
            go_roundw
            case rel => exact ⟨k + 1, th, rfl, by go_num, by omega, HS, t7, u8, hbel⟩
            case measure => simp [intOf]; omega
          by_cases f2 : 255 < xc
          · have HS : Hid (∀ j, j < k + 1 → xs.getD j ze = ⟨ek, es, ec, ev⟩ → 0 ≤ ec → ec ≤ 255 → es ≤ 72057594037927935 → th = true) := fun j hj he h1 h2 h3 => by
              rcases Nat.lt_or_ge j k with h' | h'
              · exact hth.out j h' he h1 h2 h3
              · have : j = k := by omega
                subst this
                rw [← HX.out] at he
                simp only [E.mk.injEq] at he
                omega
            clear hth HX C4 hxs
            clear e1
            go_wp2_with fail
            go_roundw
            case rel => exact ⟨k + 1, th, rfl, by go_num, by omega, HS, t7, u8, hbel⟩
            case measure => simp [intOf]; omega
          by_cases f3 : 72057594037927935 < xs'
          · have HS : Hid (∀ j, j < k + 1 → xs.getD j ze = ⟨ek, es, ec, ev⟩ → 0 ≤ ec → ec ≤ 255 → es ≤ 72057594037927935 → th = true) := fun j hj he h1 h2 h3 => by
              rcases Nat.lt_or_ge j k with h' | h'
              · exact hth.out j h' he h1 h2 h3
              · have : j = k := by omega
                subst this
                rw [← HX.out] at he
                simp only [E.mk.injEq] at he
                omega
            clear hth HX C4 hxs
            clear e1
            go_wp2_with fail
            go_roundw
            case rel => exact ⟨k + 1, th, rfl, by go_num, by omega, HS, t7, u8, hbel⟩
            case measure => simp [intOf]; omega
          have e1' := e1.symm
          subst e1'
          clear e1 l1 hxs
          have DS : Hid (cmp (Cm.ik ek q 255) (Cm.ik ek xs' xc) ≤ 0 ↔ xs' ≤ seq) := by show _ ↔ _; rw [HQ.out]; exact at_seen ek seq xs' xc (by omega) (by omega)
          have C4' : Hid (xs' ≤ seq → cmp (Cm.ik ek es ec) (Cm.ik ek xs' xc) ≤ 0) := fun h => C4 rfl h
          clear C4
          have nb := World.new_ne wr ⟨b, off + k * 4 + 1, none⟩ a2
          have nb2 := World.new_ne wr ⟨b, off + k * 4 + 2, none⟩ a3
          go_wp2_with fail
          go_region_held3 (fun W' => W'.cell? ⟨b, off + k * 4 + 1, none⟩ = some (.int .u64 xs') ∧ W'.cell? ⟨b, off + k * 4 + 2, none⟩ = some (.int .i64 xc)) (go_keep) (fail)
          rename_i hHd
          clear hHd nb nb2 a1 a2 a3 a4
          obtain ⟨W1, hW1⟩ : ∃ V, V = (wr.alloc (.cells #[.string ek, .int .u64 xs', .int .i64 xc] 24)).drew := ⟨_, rfl⟩
          obtain ⟨gp, hgp⟩ : ∃ g, g = wr.heap.size := ⟨_, rfl⟩
          have BN : Below wr.heap.size wr W1 := by rw [hW1]; exact ((Below.refl _ _).alloc (Nat.le_refl _) _).drew
          have P1 : Hid (At3 W1 gp ek xs' xc) := by rw [hW1, hgp]; exact ⟨by go_simp, by go_simp, by go_simp⟩
          have A1 := hid (HA.out.later BN)
          have T1 := hid (t7.out.later BN)
          have U1 := hid (u8.out.later BN)
          have B1 : Hid (Below w.heap.size w W1) := hbel.out.trans (BN.mono hbel.out.size)
          rw [← hW1, ← hgp]
          clear BN hW1 hgp HA t7 u8 hbel
          have c2 := fun d os => cell_regrown A1.out.2.1 d os
          have c3 := fun d os => cell_regrown T1.out.1 d os
          have c4 := fun d os => cell_regrown T1.out.2.1 d os
          have c5 := fun d os => cell_regrown T1.out.2.2 d os
          have c6 := fun d os => cell_regrown P1.out.1 d os
          have c7 := fun d os => cell_regrown P1.out.2.1 d os
          have c8 := fun d os => cell_regrown P1.out.2.2 d os
          simp only at c2
          by_cases le : xs' ≤ seq
          ·
            have D : cmp (Cm.ik ek q 255) (Cm.ik ek xs' xc) ≤ 0 := DS.out.2 le
            
            go_wp2_with fail
            refine wp_region_quiet_below (by kernel_rfl) (by kernel_rfl) ?_
            repeat (first | go_big_quiet_step ((go_at_call 12; exact Calls.regrown_of (compare_below _ _ _ _ _ _ _))) | quiet_step ((go_at_call 12; exact Calls.regrown_of (compare_below _ _ _ _ _ _ _))))
            refine wpQuiet_nil ?_
            intro _ hw'
            obtain ⟨⟨dq, osq⟩, hw''⟩ := hw'
            subst hw''
            obtain ⟨V2, hV2⟩ : ∃ V, V = grow (redrawn W1 dq) osq := ⟨_, rfl⟩
            have BN : Below W1.heap.size W1 V2 := by rw [hV2]; exact below_regrown W1 dq osq
            rw [← hV2]
            clear hV2
            have A2 := hid (A1.out.later BN)
            have T2 := hid (T1.out.later BN)
            have U2 := hid (U1.out.later BN)
            have P2 := hid (P1.out.later BN)
            have B2 : Hid (Below w.heap.size w V2) := B1.out.trans (BN.mono B1.out.size)
            clear BN A1 T1 U1 P1 B1 D c2 c3 c4 c5 c6 c7 c8
            obtain ⟨m1, m2, m3, m4⟩ := A2.out
            obtain ⟨v1, v2, v3, v4⟩ := U2.out
            obtain ⟨p1, p2, p3⟩ := P2.out
            simp only at m1 m2 m3 m4 v1 v2 v3 v4
            have C : ¬ 0 < cmp (Cm.ik ek es ec) (Cm.ik ek xs' xc) := by have := C4'.out le; omega
            go_wp2_with fail
            refine (compare_below _ _ _ _ _ _ _).mono ?_
            rintro e V3 ⟨rfl, BN⟩
            have A3 := hid (A2.out.later BN)
            have T3 := hid (T2.out.later BN)
            have U3 := hid (U2.out.later BN)
            have B3 : Hid (Below w.heap.size w V3) := B2.out.trans (BN.mono B2.out.size)
            clear BN A2 T2 U2 P2 B2 m1 m2 m3 m4 v1 v2 v3 v4 p1 p2 p3
            obtain ⟨m1, m2, m3, m4⟩ := A3.out
            obtain ⟨v1, v2, v3, v4⟩ := U3.out
            simp only at m1 m2 m3 m4 v1 v2 v3 v4
            have r1 := fun d os => cell_regrown m1 d os
            have r2 := fun d os => cell_regrown m2 d os
            have r3 := fun d os => cell_regrown m3 d os
            have r4 := fun d os => cell_regrown m4 d os
            have r5 := fun d os => cell_regrown v1 d os
            have r6 := fun d os => cell_regrown v2 d os
            have r7 := fun d os => cell_regrown v3 d os
            have r8 := fun d os => cell_regrown v4 d os
            cases th with
            | true =>
              clear hth HX
              go_wp2_with fail
              refine wp_region_quiet_below (by kernel_rfl) (by kernel_rfl) ?_
              repeat (first | go_big_quiet_step (fail) | quiet_step (fail))
              refine wpQuiet_nil ?_
              intro _ hw'
              obtain ⟨⟨dq, osq⟩, hw''⟩ := hw'
              subst hw''
              have BN := below_regrown V3 dq osq
              have HT := hid (T3.out.later BN)
              have HU := hid (U3.out.later BN)
              have HBN : Hid (Below w.heap.size w (grow (redrawn V3 dq) osq)) := B3.out.trans (BN.mono B3.out.size)
              clear BN
              go_wp2_with fail
              go_roundw
              case rel => exact ⟨k + 1, true, rfl, by go_num, by omega, fun j hj he h1 h2 h3 => rfl, HT, HU, HBN⟩
              case measure => simp [intOf]; omega
            | false =>
              by_cases ne : es = xs'
              · subst ne
                by_cases ne : ec = xc
                · subst ne
                  by_cases ne : ev = xv
                  · subst ne
                    clear hth HX
                    go_wp2_with fail
                    refine wp_region_quiet_below (by kernel_rfl) (by kernel_rfl) ?_
                    repeat (first | go_big_quiet_step (fail) | quiet_step (fail))
                    refine wpQuiet_nil ?_
                    intro _ hw'
                    obtain ⟨⟨dq, osq⟩, hw''⟩ := hw'
                    subst hw''
                    have BN := below_regrown V3 dq osq
                    have HT := hid (T3.out.later BN)
                    have HU := hid (U3.out.later BN)
                    have HBN : Hid (Below w.heap.size w (grow (redrawn V3 dq) osq)) := B3.out.trans (BN.mono B3.out.size)
                    clear BN
                    go_wp2_with fail
                    go_roundw
                    case rel => exact ⟨k + 1, true, rfl, by go_num, by omega, fun j hj he h1 h2 h3 => rfl, HT, HU, HBN⟩
                    case measure => simp [intOf]; omega
                  · have ne2 : ¬ xv.toList = ev.toList := fun h => ne (toList_inj h).symm
                    have HS : Hid (∀ j, j < k + 1 → xs.getD j ze = ⟨ek, es, ec, ev⟩ → 0 ≤ ec → ec ≤ 255 → es ≤ 72057594037927935 → false = true) := fun j hj he h1 h2 h3 => by
                      rcases Nat.lt_or_ge j k with h' | h'
                      · exact hth.out j h' he h1 h2 h3
                      · have : j = k := by omega
                        subst this
                        rw [← HX.out] at he
                        simp only [E.mk.injEq] at he
                        exact absurd he.2.2.2.symm ne
                    clear hth HX
                    go_wp2_with fail
                    refine wp_region_quiet_below (by kernel_rfl) (by kernel_rfl) ?_
                    repeat (first | go_big_quiet_step (fail) | quiet_step (fail))
                    refine wpQuiet_nil ?_
                    intro _ hw'
                    obtain ⟨⟨dq, osq⟩, hw''⟩ := hw'
                    subst hw''
                    have BN := below_regrown V3 dq osq
                    have HT := hid (T3.out.later BN)
                    have HU := hid (U3.out.later BN)
                    have HBN : Hid (Below w.heap.size w (grow (redrawn V3 dq) osq)) := B3.out.trans (BN.mono B3.out.size)
                    clear BN
                    go_wp2_with fail
                    go_roundw
                    case rel => exact ⟨k + 1, false, rfl, by go_num, by omega, HS, HT, HU, HBN⟩
                    case measure => simp [intOf]; omega
                · skip
                  have HS : Hid (∀ j, j < k + 1 → xs.getD j ze = ⟨ek, es, ec, ev⟩ → 0 ≤ ec → ec ≤ 255 → es ≤ 72057594037927935 → false = true) := fun j hj he h1 h2 h3 => by
                    rcases Nat.lt_or_ge j k with h' | h'
                    · exact hth.out j h' he h1 h2 h3
                    · have : j = k := by omega
                      subst this
                      rw [← HX.out] at he
                      simp only [E.mk.injEq] at he
                      exact absurd he.2.2.1.symm ne
                  clear hth HX
                  go_wp2_with fail
                  refine wp_region_quiet_below (by kernel_rfl) (by kernel_rfl) ?_
                  repeat (first | go_big_quiet_step (fail) | quiet_step (fail))
                  refine wpQuiet_nil ?_
                  intro _ hw'
                  obtain ⟨⟨dq, osq⟩, hw''⟩ := hw'
                  subst hw''
                  have BN := below_regrown V3 dq osq
                  have HT := hid (T3.out.later BN)
                  have HU := hid (U3.out.later BN)
                  have HBN : Hid (Below w.heap.size w (grow (redrawn V3 dq) osq)) := B3.out.trans (BN.mono B3.out.size)
                  clear BN
                  go_wp2_with fail
                  go_roundw
                  case rel => exact ⟨k + 1, false, rfl, by go_num, by omega, HS, HT, HU, HBN⟩
                  case measure => simp [intOf]; omega
              · skip
                have HS : Hid (∀ j, j < k + 1 → xs.getD j ze = ⟨ek, es, ec, ev⟩ → 0 ≤ ec → ec ≤ 255 → es ≤ 72057594037927935 → false = true) := fun j hj he h1 h2 h3 => by
                  rcases Nat.lt_or_ge j k with h' | h'
                  · exact hth.out j h' he h1 h2 h3
                  · have : j = k := by omega
                    subst this
                    rw [← HX.out] at he
                    simp only [E.mk.injEq] at he
                    exact absurd he.2.1.symm ne
                clear hth HX
                go_wp2_with fail
                refine wp_region_quiet_below (by kernel_rfl) (by kernel_rfl) ?_
                repeat (first | go_big_quiet_step (fail) | quiet_step (fail))
                refine wpQuiet_nil ?_
                intro _ hw'
                obtain ⟨⟨dq, osq⟩, hw''⟩ := hw'
                subst hw''
                have BN := below_regrown V3 dq osq
                have HT := hid (T3.out.later BN)
                have HU := hid (U3.out.later BN)
                have HBN : Hid (Below w.heap.size w (grow (redrawn V3 dq) osq)) := B3.out.trans (BN.mono B3.out.size)
                clear BN
                go_wp2_with fail
                go_roundw
                case rel => exact ⟨k + 1, false, rfl, by go_num, by omega, HS, HT, HU, HBN⟩
                case measure => simp [intOf]; omega
          ·
            have dle : decide (xs' ≤ seq) = false := decide_eq_false le
            have gt : seq < xs' := by omega
            have D : ¬ cmp (Cm.ik ek q 255) (Cm.ik ek xs' xc) ≤ 0 := fun h => le (DS.out.1 h)
            have dD := decide_eq_false D
            go_wp2_with fail
            refine wp_region_quiet_below (by kernel_rfl) (by kernel_rfl) ?_
            repeat (first | go_big_quiet_step ((go_at_call 12; exact Calls.regrown_of (compare_below _ _ _ _ _ _ _))) | quiet_step ((go_at_call 12; exact Calls.regrown_of (compare_below _ _ _ _ _ _ _))))
            refine wpQuiet_nil ?_
            intro _ hw'
            obtain ⟨⟨dq, osq⟩, hw''⟩ := hw'
            subst hw''
            obtain ⟨V2, hV2⟩ : ∃ V, V = grow (redrawn W1 dq) osq := ⟨_, rfl⟩
            have BN : Below W1.heap.size W1 V2 := by rw [hV2]; exact below_regrown W1 dq osq
            rw [← hV2]
            clear hV2
            have A2 := hid (A1.out.later BN)
            have T2 := hid (T1.out.later BN)
            have U2 := hid (U1.out.later BN)
            have P2 := hid (P1.out.later BN)
            have B2 : Hid (Below w.heap.size w V2) := B1.out.trans (BN.mono B1.out.size)
            clear BN A1 T1 U1 P1 B1 D dD c2 c3 c4 c5 c6 c7 c8
            obtain ⟨m1, m2, m3, m4⟩ := A2.out
            obtain ⟨v1, v2, v3, v4⟩ := U2.out
            obtain ⟨p1, p2, p3⟩ := P2.out
            simp only at m1 m2 m3 m4 v1 v2 v3 v4
            have A3 := A2
            have T3 := T2
            have U3 := U2
            have B3 := B2
            obtain ⟨V3, hV3⟩ : ∃ V, V = V2 := ⟨_, rfl⟩
            subst hV3
            clear A2 T2 U2 P2 B2 v1 v2 v3 v4 p1 p2 p3 m1 m3 m4
            obtain ⟨m1, m2, m3, m4⟩ := A3.out
            obtain ⟨v1, v2, v3, v4⟩ := U3.out
            simp only at m1 m2 m3 m4 v1 v2 v3 v4
            have r1 := fun d os => cell_regrown m1 d os
            have r2 := fun d os => cell_regrown m2 d os
            have r3 := fun d os => cell_regrown m3 d os
            have r4 := fun d os => cell_regrown m4 d os
            have r5 := fun d os => cell_regrown v1 d os
            have r6 := fun d os => cell_regrown v2 d os
            have r7 := fun d os => cell_regrown v3 d os
            have r8 := fun d os => cell_regrown v4 d os
            cases th with
            | true =>
              clear hth HX
              go_wp2_with fail
              refine wp_region_quiet_below (by kernel_rfl) (by kernel_rfl) ?_
              repeat (first | go_big_quiet_step (fail) | quiet_step (fail))
              refine wpQuiet_nil ?_
              intro _ hw'
              obtain ⟨⟨dq, osq⟩, hw''⟩ := hw'
              subst hw''
              have BN := below_regrown V3 dq osq
              have HT := hid (T3.out.later BN)
              have HU := hid (U3.out.later BN)
              have HBN : Hid (Below w.heap.size w (grow (redrawn V3 dq) osq)) := B3.out.trans (BN.mono B3.out.size)
              clear BN
              go_wp2_with fail
              go_roundw
              case rel => exact ⟨k + 1, true, rfl, by go_num, by omega, fun j hj he h1 h2 h3 => rfl, HT, HU, HBN⟩
              case measure => simp [intOf]; omega
            | false =>
              have ne : ¬ es = xs' := by omega
              have HS : Hid (∀ j, j < k + 1 → xs.getD j ze = ⟨ek, es, ec, ev⟩ → 0 ≤ ec → ec ≤ 255 → es ≤ 72057594037927935 → false = true) := fun j hj he h1 h2 h3 => by
                rcases Nat.lt_or_ge j k with h' | h'
                · exact hth.out j h' he h1 h2 h3
                · have : j = k := by omega
                  subst this
                  rw [← HX.out] at he
                  simp only [E.mk.injEq] at he
                  exact absurd he.2.1.symm ne
              clear hth HX
              go_wp2_with fail
              refine wp_region_quiet_below (by kernel_rfl) (by kernel_rfl) ?_
              repeat (first | go_big_quiet_step (fail) | quiet_step (fail))
              refine wpQuiet_nil ?_
              intro _ hw'
              obtain ⟨⟨dq, osq⟩, hw''⟩ := hw'
              subst hw''
              have BN := below_regrown V3 dq osq
              have HT := hid (T3.out.later BN)
              have HU := hid (U3.out.later BN)
              have HBN : Hid (Below w.heap.size w (grow (redrawn V3 dq) osq)) := B3.out.trans (BN.mono B3.out.size)
              clear BN
              go_wp2_with fail
              go_roundw
              case rel => exact ⟨k + 1, false, rfl, by go_num, by omega, HS, HT, HU, HBN⟩
              case measure => simp [intOf]; omega
        · have l1 := text_ne e1
          have HS : Hid (∀ j, j < k + 1 → xs.getD j ze = ⟨ek, es, ec, ev⟩ → 0 ≤ ec → ec ≤ 255 → es ≤ 72057594037927935 → th = true) := fun j hj he h1 h2 h3 => by
            rcases Nat.lt_or_ge j k with h' | h'
            · exact hth.out j h' he h1 h2 h3
            · have : j = k := by omega
              subst this
              rw [← HX.out] at he
              simp only [E.mk.injEq] at he
              exact absurd he.1 e1
          clear hth HX C4 hxs
          clear e1
          go_wp2_with fail
          go_roundw
          case rel => exact ⟨k + 1, th, rfl, by go_num, by omega, HS, t7, u8, hbel⟩
          case measure => simp [intOf]; omega
    · have hkl : k = len := by omega
      subst hkl
      obtain ⟨t1, t2, t3⟩ := t7.out
      obtain ⟨u1, u2, u3, u4⟩ := u8.out
      simp only at u1 u2 u3 u4
      have FIN : Hid (th = true ∨ ec < 0 ∨ 255 < ec ∨ 72057594037927935 < es) := by
        show _ ∨ _
        by_cases hv : 0 ≤ ec ∧ ec ≤ 255 ∧ es ≤ 72057594037927935
        · left
          obtain ⟨j, hj, hje⟩ := List.getElem_of_mem S1.out
          refine hth.out j (by have := HH.out.1; omega) ?_ hv.1 hv.2.1 hv.2.2
          rw [List.getD_eq_getElem?_getD, List.getElem?_eq_getElem hj]
          exact hje
        · omega
      clear hth t7 u8
      cases th with
      | true =>
        go_wp2_with fail
        go_ret
        exact ⟨rfl, hbel.out⟩
      | false =>
        have F := FIN.out
        clear FIN
        have F : ec < 0 ∨ 255 < ec ∨ 72057594037927935 < es := by simpa using F
        by_cases f1 : ec < 0
        · clear F
          go_wp2_with fail
          go_ret
          exact ⟨rfl, hbel.out⟩
        · by_cases f2 : 255 < ec
          · clear F
            go_wp2_with fail
            go_ret
            exact ⟨rfl, hbel.out⟩
          · have f3 : 72057594037927935 < es := by omega
            clear F
            go_wp2_with fail
            go_ret
            exact ⟨rfl, hbel.out⟩
end Go.Proofs.Ytbpgifpplnmjmab.ikeyFirst

/- The law NamesParted walked. -/
import Derived.Test.YtcjlgjlediihoabDoorPt
namespace Go.Proofs.YtcjlgjlediihoabDoor.Rw
open Go.ChangeShapes Go.WideShapes Go.ChangeAt Go.RowKit
open Go.Proofs.YtcjlgjlediihoabDoor.Ut
open Go.Proofs.YtcjlgjlediihoabDoor.By
open Go.Proofs.YtcjlgjlediihoabDoor.Sq (Ws)
set_option linter.unusedVariables false
set_option linter.unusedSimpArgs false

/-- A slice of texts that can be read. -/
def Strs (w : World) (a : Option Addr) (len cap : Nat) (ss : List ByteArray) : Prop :=
  ss.length = len ∧ len ≤ cap ∧ ∀ i, i < len → ∃ b off, a = some ⟨b, off, none⟩ ∧ w.cell? ⟨b, off + i, none⟩ = some (.string (ss.getD i ⟨#[]⟩))
def Intz (w : World) (a : Option Addr) (len cap : Nat) (zs : List Int) : Prop :=
  zs.length = len ∧ len ≤ cap ∧ ∀ i, i < len → ∃ b off, a = some ⟨b, off, none⟩ ∧ w.cell? ⟨b, off + i, none⟩ = some (.int .i64 (zs.getD i 0))
theorem Strs.later {w w' : World} {a : Option Addr} {len cap : Nat} {ss : List ByteArray} (h : Strs w a len cap ss) (b : Below w.heap.size w w') : Strs w' a len cap ss :=
  ⟨h.1, h.2.1, fun i hi => by obtain ⟨g, off, e, c⟩ := h.2.2 i hi; exact ⟨g, off, e, cell_later b c⟩⟩
theorem Intz.later {w w' : World} {a : Option Addr} {len cap : Nat} {ss : List Int} (h : Intz w a len cap ss) (b : Below w.heap.size w w') : Intz w' a len cap ss :=
  ⟨h.1, h.2.1, fun i hi => by obtain ⟨g, off, e, c⟩ := h.2.2 i hi; exact ⟨g, off, e, cell_later b c⟩⟩
def wt : List ByteArray → Nat
  | [] => 0
  | s :: r => s.size + 1 + wt r
theorem wt_app (x y : List ByteArray) : wt (x ++ y) = wt x + wt y := by
  induction x with
  | nil => simp [wt]
  | cons a r ih => simp [wt, ih]; omega
theorem wt_take (ss : List ByteArray) (k : Nat) (h : k < ss.length) : wt (ss.take (k + 1)) = wt (ss.take k) + ((ss.getD k ⟨#[]⟩).size + 1) ∧ wt (ss.take k) + ((ss.getD k ⟨#[]⟩).size + 1) ≤ wt ss := by
  have e : ss.getD k ⟨#[]⟩ = ss[k] := by rw [List.getD_eq_getElem?_getD, List.getElem?_eq_getElem h]; rfl
  have h1 : wt (ss.take (k + 1)) = wt (ss.take k) + ((ss.getD k ⟨#[]⟩).size + 1) := by
    rw [List.take_succ_eq_append_getElem h, wt_app, e]
    simp [wt]
  refine ⟨h1, ?_⟩
  have h2 : wt (ss.take (k + 1)) + wt (ss.drop (k + 1)) = wt ss := by rw [← wt_app, List.take_append_drop]
  omega
/-- A row of bytes and a row of texts are never one. -/
theorem apart_rows {w : World} {base b2 : Nat} {v u : Value} {xs : List Int} {ws : List ByteArray} (H : Own w base v xs) (K : Ws w b2 u ws) : u.ownBlock = none ∨ u.ownBlock ≠ v.ownBlock := by
  cases hu : u.ownBlock with
  | none => exact .inl rfl
  | some g =>
    right
    intro e
    rcases H.2 with ⟨ev, _⟩ | ⟨g1, c1, cur1, ev, _, hg1, _⟩
    · rw [ev] at e; simp [Value.ownBlock] at e
    · rcases K.2 with ⟨eu, _⟩ | ⟨g2, c2, cur2, eu, _, hg2, _⟩
      · rw [eu] at hu; simp [Value.ownBlock] at hu
      · rw [ev] at e
        rw [eu] at hu
        simp [Value.ownBlock] at e hu
        subst e
        rw [hu] at hg2
        rw [hg1] at hg2
        simp at hg2
theorem Ws.kept2 {w w' : World} {base b2 : Nat} {v u : Value} {xs : List Int} {ws : List ByteArray} (K : Ws w b2 u ws) (H : Own w base v xs) (g : w.grownBy w' v.ownBlock) : Ws w' b2 u ws :=
  World.ownsRow.kept K g (apart_rows H K)
theorem Own.kept2 {w w' : World} {base b2 : Nat} {v u : Value} {xs : List Int} {ws : List ByteArray} (H : Own w base v xs) (K : Ws w b2 u ws) (g : w.grownBy w' u.ownBlock) : Own w' base v xs := by
  refine World.ownsRow.kept H g ?_
  rcases apart_rows H K with h | h
  · by_cases hv : v.ownBlock = none
    · exact .inl hv
    · right; rw [h]; exact hv
  · exact .inr (fun e => h e.symm)
theorem pad_mod (b : Int) : ∃ n : Nat, 1 ≤ n ∧ n ≤ 3 ∧ 1 + (b.tmod 3 + 3).tmod 3 = (n : Int) := by
  have h1 : -3 < b.tmod 3 ∧ b.tmod 3 < 3 := by
    rcases Int.le_total 0 b with h | h
    · rw [Int.tmod_eq_emod_of_nonneg h]; omega
    · have e : b = -(-b) := by omega
      rw [e, Int.neg_tmod, Int.tmod_eq_emod_of_nonneg (by omega)]
      omega
  have h2 : (b.tmod 3 + 3).tmod 3 = (b.tmod 3 + 3) % 3 := Int.tmod_eq_emod_of_nonneg (by omega)
  refine ⟨(1 + (b.tmod 3 + 3).tmod 3).toNat, ?_, ?_, ?_⟩ <;> omega
theorem pad_wrap (z : Int) : ∃ n : Nat, 1 ≤ n ∧ n ≤ 3 ∧ wrap64 (1 + (wrap64 (z.tmod 3 + 3)).tmod 3) = (n : Int) := by
  obtain ⟨n, h1, h2, h3⟩ := pad_mod z
  have hz : -3 < z.tmod 3 ∧ z.tmod 3 < 3 := by
    rcases Int.le_total 0 z with h | h
    · rw [Int.tmod_eq_emod_of_nonneg h]; omega
    · have e : z = -(-z) := by omega
      rw [e, Int.neg_tmod, Int.tmod_eq_emod_of_nonneg (by omega)]
      omega
  have e1 : wrap64 (z.tmod 3 + 3) = z.tmod 3 + 3 := by
    unfold wrap64; omega
  refine ⟨n, h1, h2, ?_⟩
  rw [e1, h3]
  unfold wrap64; omega
set_option maxRecDepth 1000000 in
set_option maxHeartbeats 2000000 in
theorem parted_walk (a : Option Addr) (len cap : Nat) (ss : List ByteArray) (a2 : Option Addr) (len2 cap2 : Nat) (zs : List Int) (w : World) (T : Hid (Lt w)) (F : Hid (Fm w)) (H : Strs w a len cap ss) (H2 : Intz w a2 len2 cap2 zs) (hw : wt ss ≤ 1048576) (hl : len ≤ 1048576) (hl2 : len2 ≤ 1048576) :
    Calls Tryd.prog 4 #[.slice a len cap, .slice a2 len2 cap2] w fun e w' => e = .returned (.bool true) ∧ Below w.heap.size w w' := by
  have HK := hid (works_any w T F)
  have HS := hid H
  have HZ := hid H2
  have hlc := H.2.1
  have hlc2 := H2.2.1
  have hsl := hid H.1
  clear H H2
  go_enter Tryd.func4, Tryd.ntmps4
  go_wp2_with fail
  refine HK.out.mono ?_
  rintro e w1 ⟨rfl, b1⟩
  have b1h := hid b1
  clear HK b1
  go_wp2_with fail
  have bA := box_below w1 (.cells #[] 5)
  have hsA : (w1.alloc (.cells #[] 5)).heap.size = w1.heap.size + 1 := by show (w1.heap.push _).size = _; simp
  have OA : Own (w1.alloc (.cells #[] 5)) w.heap.size (.slice (some ⟨w1.heap.size, 0, none⟩) 0 0) [] := World.ownsRow_made w1 #[] 0 b1h.out.size (by unfold maxLen; omega) rfl
  have WB : Ws ((w1.alloc (.cells #[] 5)).alloc (.cells #[] 9)) w.heap.size (.slice (some ⟨w1.heap.size + 1, 0, none⟩) 0 0) [] := by
    rw [← hsA]
    exact World.ownsRow_made _ #[] 0 (Nat.le_trans b1h.out.size bA.size) (by unfold maxLen; omega) rfl
  have OB := hid (OA.later (box_below _ (.cells #[] 9)))
  have WBh := hid WB
  have bB := hid ((b1h.out.alloc b1h.out.size (.cells #[] 5)).alloc (b1h.out.alloc b1h.out.size (.cells #[] 5)).size (.cells #[] 9))
  clear bA hsA OA WB b1h
  generalize (w1.alloc (.cells #[] 5)).alloc (.cells #[] 9) = W2 at *
  generalize Value.slice (some ⟨w1.heap.size, 0, none⟩) 0 0 = vA at *
  generalize Value.slice (some ⟨w1.heap.size + 1, 0, none⟩) 0 0 = vB at *
  go_loopw [5, 6, 7] (fun v u i wr => ∃ (k : Nat) (l : List (Nat × ByteArray)), i = .int .i64 (k : Int) ∧ k ≤ len ∧ l.length = k ∧ Hid (∀ x ∈ l, 1 ≤ x.1) ∧ (jl l).length ≤ 5 * wt (ss.take k) ∧ Hid (Own wr w.heap.size v (jl l)) ∧ Hid (Ws wr w.heap.size u (l.map (fun x => wo x.2))) ∧ Hid (Below w.heap.size w wr)) (fun _ _ i _ => len - (intOf i).toNat)
  case atStart => exact ⟨0, [], rfl, by omega, rfl, fun x hx => by simp at hx, by simp [jl], OB.out, WBh.out, bB.out⟩
  case round =>
    clear OB WBh bB
    obtain ⟨k, l, rfl, hk, hlk, hn1, hjl, HO, HW, HB⟩ := hrel
    have hlkh := hid hlk
    clear hlk
    by_cases hlt : k < len
    · obtain ⟨gb, off, rfl, hcell⟩ := (HS.out.later HB.out).2.2 k hlt
      have hwt := wt_take ss k (by rw [hsl.out]; exact hlt)
      generalize hs : ss.getD k ⟨#[]⟩ = s at hcell hwt
      have hsz : s.size ≤ 1048576 := by omega
      have hwl := wo_len s
      have HWD := hid (word_any s (by omega) wr (T.out.later HB.out))
      have hjl2 := hid hjl
      have hwth := hid hwt
      have hwlh := hid hwl
      clear hjl hwt hs hwl
      go_wp2_with fail
      refine HWD.out.mono ?_
      rintro e w3 ⟨rfl, b3⟩
      have O3 := hid (HO.out.later b3)
      have W3 := hid (Ws.kept2 HW.out HO.out ⟨b3.os, b3.tape, b3.output, b3.size, fun i hi _ => b3.block i hi⟩)
      have B3 := hid (HB.out.trans (b3.mono HB.out.size))
      clear HO HW HB HWD b3 hcell
      by_cases hz : 0 < len2
      · obtain ⟨g2, off2, rfl, hcell2⟩ := (HZ.out.later B3.out).2.2 (k % len2) (Nat.mod_lt _ hz)
        have hm : (k : Int).tmod (len2 : Int) = ((k % len2 : Nat) : Int) := by rw [Int.tmod_eq_emod_of_nonneg (by omega)]; omega
        have hml : ((k % len2 : Nat) : Int) < (len2 : Int) := by have := Nat.mod_lt k hz; omega
        generalize zs.getD (k % len2) 0 = z at hcell2
        generalize k % len2 = q at hcell2 hm hml
        have hz3 : ¬ (len2 : Int) = 0 := by omega
        obtain ⟨n, hn0, hn3, hne⟩ := pad_wrap z
        have hneh := hid hne
        clear hne
        go_wp2_with fail
        rw [hneh.out]
        clear hcell2 hm hml hz3 hneh
        go_loopw [5, 10] (fun v j wr => ∃ m : Nat, j = .int .i64 (m : Int) ∧ m ≤ n ∧ Hid (Own wr w.heap.size v (jl l ++ List.replicate m 32)) ∧ Hid (Ws wr w.heap.size u6 (l.map (fun x : Nat × ByteArray => wo x.2))) ∧ Hid (Below w.heap.size w wr)) (fun _ j _ => n - (intOf j).toNat)
        case atStart => exact ⟨0, rfl, by omega, by show Own _ _ _ _; simpa using O3.out, W3.out, B3.out⟩
        case round =>
          clear O3 W3 B3
          obtain ⟨m, rfl, hm3, O3, W3, B3⟩ := hrel
          have hjlen : (jl l ++ List.replicate m 32).length = (jl l).length + m := by rw [List.length_append, List.length_replicate]
          have hj1 := hjl2.out
          have hj2 := hwth.out
          have hj3 := hwlh.out
          by_cases hmn : m < n
          · have Bb := B3.out.alloc B3.out.size (.cells #[.int .u8 32] 5)
            have Ob := O3.out.later (box_below wr (.cells #[.int .u8 32] 5))
            have Wb := Sq.Ws.below W3.out (box_below wr (.cells #[.int .u8 32] 5))
            obtain ⟨v5, w5, r5, O5, g5⟩ := app_built _ w.heap.size u5 (jl l ++ List.replicate m 32) [32] wr.heap.size 1 Ob rfl (fun i hi => by
              have : i = 0 := by omega
              subst this
              exact one_cellb wr 32 5) (by omega) Bb.size
            have B5 := hid (Bb.grown g5 Bb.size (fun k hk => (Ob.lt k hk).1))
            have W5 := hid (Ws.kept2 Wb Ob g5)
            have O5h : Hid (Own w5 w.heap.size v5 (jl l ++ List.replicate (m + 1) 32)) := by
              show Own _ _ _ _
              rw [List.replicate_succ', ← List.append_assoc]
              exact O5
            have r5h := hid r5
            clear Bb Ob Wb O5 g5 r5 O3 W3 B3 hj1 hj2 hj3 hjlen
            go_wp2_with (at_builtin; refine wpList_append_run rfl _ _ 31 31 rfl _ _ _ rfl rfl r5h.out ?_)
            clear r5h
            go_wp2_with fail
            go_roundw
            case rel => exact ⟨m + 1, by go_num, by omega, O5h.out, W5.out, B5.out⟩
            case measure => first | (simp [intOf]; done) | (simp [intOf]; omega)
          · have hmn2 : m = n := by omega
            have hts : (tx (wo s)).length = (wo s).size := tx_len _
            obtain ⟨v5, w5, r5, O5, g5⟩ := app_text wr w.heap.size u5 (jl l ++ List.replicate m 32) (wo s) O3.out (by omega) B3.out.size
            have W5 := Ws.kept2 W3.out O3.out g5
            have B5 := B3.out.grown g5 B3.out.size (fun k hk => (O3.out.lt k hk).1)
            have b6 := box_below w5 (.cells #[.string (wo s)] 9)
            have O6 := O5.later b6
            have W6 := Sq.Ws.below W5 b6
            have B6 := B5.alloc B5.size (.cells #[.string (wo s)] 9)
            have hlen6 : (l.map (fun x : Nat × ByteArray => wo x.2)).length ≤ 1048576 := by rw [List.length_map, hlkh.out]; omega
            obtain ⟨v7, w7, r7, W7, g7⟩ := Sq.app_str _ w.heap.size u6 (l.map (fun x : Nat × ByteArray => wo x.2)) (wo s) w5.heap.size W6 (Sq.new_cell _ _ _ rfl) (by omega) B6.size
            have O7 := O6.kept2 W6 g7
            have B7 := hid (B6.grown g7 B6.size (fun k hk => (W6.lt k hk).1))
            have r5h := hid r5
            have r7h := hid r7
            have ejl : jl (l ++ [((n : Nat), s)]) = (jl l ++ List.replicate m 32) ++ tx (wo s) := by rw [jl_app, hmn2]; simp [jl]
            have O7h : Hid (Own w7 w.heap.size v5 (jl (l ++ [((n : Nat), s)]))) := by
              show Own _ _ _ _
              rw [ejl]
              exact O7
            have W7h : Hid (Ws w7 w.heap.size v7 ((l ++ [((n : Nat), s)]).map (fun x : Nat × ByteArray => wo x.2))) := by
              show Ws _ _ _ _
              rw [List.map_append]
              exact W7
            have hjl7 : Hid ((jl (l ++ [((n : Nat), s)])).length ≤ 5 * wt (ss.take (k + 1))) := by
              show _ ≤ _
              rw [ejl, List.length_append, hjlen, hts]
              omega
            have hn7 : Hid (∀ x ∈ l ++ [((n : Nat), s)], 1 ≤ x.1) := by
              intro x hx
              rcases List.mem_append.1 hx with hx | hx
              · exact hn1.out x hx
              · simp at hx
                rw [hx]
                show 1 ≤ n
                omega
            clear O5 W5 B5 b6 O6 W6 B6 W7 g5 g7 O7 r5 r7 O3 W3 B3 hj1 hj2 hj3 hjlen ejl hts hlen6
            go_wp2_with (at_builtin; first | refine wpList_append_run rfl _ _ 31 9 rfl _ _ _ rfl rfl r5h.out ?_ | refine Sq.wpList_append_run rfl _ _ 29 29 rfl _ _ _ rfl rfl r7h.out ?_)
            clear r5h r7h
            go_wp2_with fail
            go_roundw
            case rel => exact ⟨k + 1, l ++ [((n : Nat), s)], by go_num, by omega, by rw [List.length_append, hlkh.out]; rfl, hn7.out, hjl7.out, O7h.out, W7h.out, B7.out⟩
            case measure => simp [intOf]; omega
      · have hzi : ¬ (0 : Int) < (len2 : Int) := by omega
        have hzd : decide (0 < len2) = false := by simpa using hz
        have hzdh := hid hzd
        clear hz hzd
        go_wp2_with fail
        try rw [hzdh.out]
        clear hzi
        go_loopw [5, 10] (fun v j wr => ∃ m : Nat, j = .int .i64 (m : Int) ∧ m ≤ 1 ∧ Hid (Own wr w.heap.size v (jl l ++ List.replicate m 32)) ∧ Hid (Ws wr w.heap.size u6 (l.map (fun x : Nat × ByteArray => wo x.2))) ∧ Hid (Below w.heap.size w wr)) (fun _ j _ => 1 - (intOf j).toNat)
        case atStart => exact ⟨0, rfl, by omega, by show Own _ _ _ _; simpa using O3.out, W3.out, B3.out⟩
        case round =>
          clear O3 W3 B3
          obtain ⟨m, rfl, hm3, O3, W3, B3⟩ := hrel
          have hjlen : (jl l ++ List.replicate m 32).length = (jl l).length + m := by rw [List.length_append, List.length_replicate]
          have hj1 := hjl2.out
          have hj2 := hwth.out
          have hj3 := hwlh.out
          by_cases hmn : m < 1
          · obtain rfl : m = 0 := by omega
            clear hmn hm3
            have Bb := B3.out.alloc B3.out.size (.cells #[.int .u8 32] 5)
            have Ob := O3.out.later (box_below wr (.cells #[.int .u8 32] 5))
            have Wb := Sq.Ws.below W3.out (box_below wr (.cells #[.int .u8 32] 5))
            obtain ⟨v5, w5, r5, O5, g5⟩ := app_built _ w.heap.size u5 (jl l ++ List.replicate 0 32) [32] wr.heap.size 1 Ob rfl (fun i hi => by
              have : i = 0 := by omega
              subst this
              exact one_cellb wr 32 5) (by omega) Bb.size
            have B5 := hid (Bb.grown g5 Bb.size (fun k hk => (Ob.lt k hk).1))
            have W5 := hid (Ws.kept2 Wb Ob g5)
            have O5h : Hid (Own w5 w.heap.size v5 (jl l ++ List.replicate (0 + 1) 32)) := by
              show Own _ _ _ _
              rw [List.replicate_succ', ← List.append_assoc]
              exact O5
            have r5h := hid r5
            clear Bb Ob Wb O5 g5 r5 O3 W3 B3 hj1 hj2 hj3 hjlen
            go_wp2_with (at_builtin; refine wpList_append_run rfl _ _ 31 31 rfl _ _ _ rfl rfl r5h.out ?_)
            clear r5h
            go_wp2_with fail
            go_roundw
            case rel => exact ⟨1, by first | rfl | go_num, by omega, O5h.out, W5.out, B5.out⟩
            case measure => first | (simp [intOf]; done) | (simp [intOf]; omega)
          · have hmn2 : m = 1 := by omega
            have hts : (tx (wo s)).length = (wo s).size := tx_len _
            obtain ⟨v5, w5, r5, O5, g5⟩ := app_text wr w.heap.size u5 (jl l ++ List.replicate m 32) (wo s) O3.out (by omega) B3.out.size
            have W5 := Ws.kept2 W3.out O3.out g5
            have B5 := B3.out.grown g5 B3.out.size (fun k hk => (O3.out.lt k hk).1)
            have b6 := box_below w5 (.cells #[.string (wo s)] 9)
            have O6 := O5.later b6
            have W6 := Sq.Ws.below W5 b6
            have B6 := B5.alloc B5.size (.cells #[.string (wo s)] 9)
            have hlen6 : (l.map (fun x : Nat × ByteArray => wo x.2)).length ≤ 1048576 := by rw [List.length_map, hlkh.out]; omega
            obtain ⟨v7, w7, r7, W7, g7⟩ := Sq.app_str _ w.heap.size u6 (l.map (fun x : Nat × ByteArray => wo x.2)) (wo s) w5.heap.size W6 (Sq.new_cell _ _ _ rfl) (by omega) B6.size
            have O7 := O6.kept2 W6 g7
            have B7 := hid (B6.grown g7 B6.size (fun k hk => (W6.lt k hk).1))
            have r5h := hid r5
            have r7h := hid r7
            have ejl : jl (l ++ [((1 : Nat), s)]) = (jl l ++ List.replicate m 32) ++ tx (wo s) := by rw [jl_app, hmn2]; simp [jl]
            have O7h : Hid (Own w7 w.heap.size v5 (jl (l ++ [((1 : Nat), s)]))) := by
              show Own _ _ _ _
              rw [ejl]
              exact O7
            have W7h : Hid (Ws w7 w.heap.size v7 ((l ++ [((1 : Nat), s)]).map (fun x : Nat × ByteArray => wo x.2))) := by
              show Ws _ _ _ _
              rw [List.map_append]
              exact W7
            have hjl7 : Hid ((jl (l ++ [((1 : Nat), s)])).length ≤ 5 * wt (ss.take (k + 1))) := by
              show _ ≤ _
              rw [ejl, List.length_append, hjlen, hts]
              omega
            have hn7 : Hid (∀ x ∈ l ++ [((1 : Nat), s)], 1 ≤ x.1) := by
              intro x hx
              rcases List.mem_append.1 hx with hx | hx
              · exact hn1.out x hx
              · simp at hx
                rw [hx]
                show 1 ≤ 1
                omega
            clear O5 W5 B5 b6 O6 W6 B6 W7 g5 g7 O7 r5 r7 O3 W3 B3 hj1 hj2 hj3 hjlen ejl hts hlen6
            go_wp2_with (at_builtin; first | refine wpList_append_run rfl _ _ 31 9 rfl _ _ _ rfl rfl r5h.out ?_ | refine Sq.wpList_append_run rfl _ _ 29 29 rfl _ _ _ rfl rfl r7h.out ?_)
            clear r5h r7h
            go_wp2_with fail
            go_roundw
            case rel => exact ⟨k + 1, l ++ [((1 : Nat), s)], by go_num, by omega, by rw [List.length_append, hlkh.out]; rfl, hn7.out, hjl7.out, O7h.out, W7h.out, B7.out⟩
            case measure => simp [intOf]; omega
    · have hkl : k = len := by omega
      subst hkl
      have hsp := split_jl l hn1.out
      have hlen : (jl l).length ≤ 5242880 := by
        rw [List.take_of_length_le (by rw [hsl.out]; omega)] at hjl
        omega
      have hcv := HO.out.conv
      have hss : (str (jl l)).size = (jl l).length := str_size _
      have HSP := hid (Sq.split_any (str (jl l)) (by omega) wr)
      rw [hsp] at HSP
      generalize str (jl l) = SS at *
      have HWh := hid HW.out
      generalize l.map (fun x => wo x.2) = ws at *
      clear hsp hlen hss hjl HO
      go_wp2_with fail
      refine HSP.out.mono ?_
      rintro e w4 ⟨v4, rfl, W4, b4⟩
      have W4h := hid W4
      have W5h := hid (Sq.Ws.below HW.out b4)
      have B4 := hid (HB.out.trans (b4.mono HB.out.size))
      clear HSP W4 b4 HW HWh HB hcv
      go_wp2_with fail
      refine (Sq.texts_any W4h.out W5h.out).mono ?_
      rintro e w6 ⟨rfl, b6⟩
      have B6 := hid (B4.out.trans (b6.mono B4.out.size))
      clear b6 B4 W4h W5h
      go_wp2_with fail
      go_ret
      exact ⟨rfl, B6.out⟩
end Go.Proofs.YtcjlgjlediihoabDoor.Rw

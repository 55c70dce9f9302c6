/- Rows of texts; a line's words by the program. -/
import Derived.Test.YtcjlgjlediihoabDoorWq
import Derived.Deep.AppendSrc
namespace Go.Proofs.YtcjlgjlediihoabDoor.Sq
open Go.ChangeShapes Go.WideShapes Go.ChangeAt Go.RowKit
open Go.Proofs.YtcjlgjlediihoabDoor.Ut
open Go.Proofs.YtcjlgjlediihoabDoor.Sp
open Go.Proofs.YtcjlgjlediihoabDoor.By
set_option linter.unusedVariables false
set_option linter.unusedSimpArgs false

def sv (ws : List ByteArray) : List Value := ws.map Value.string
theorem sv_len (ws : List ByteArray) : (sv ws).length = ws.length := by simp [sv]
theorem sv_one (ws : List ByteArray) : ∀ u ∈ sv ws, u.oneCell' = true := by
  intro u hu
  obtain ⟨x, _, rfl⟩ := List.mem_map.1 hu
  rfl
/-- A row of texts of the call's own. -/
def Ws (w : World) (base : Nat) (v : Value) (ws : List ByteArray) : Prop := w.ownsRow base 9 1 v ws.length (sv ws)
theorem Ws.nil (w : World) (base : Nat) : Ws w base (.slice none 0 0) [] := World.ownsRow_nil _ _ _ _
theorem info9 : (Tryd.prog.info? 9).map (fun i => (i.zero, i.size, i.bytes)) = some (some (.string ⟨#[]⟩), 1, 16) := by kernel_rfl
theorem wpList_append_run {P : Program} {w w' : World} {ops : Array Oper} {rest : List Oper} {o : Oper} {a : Act} {Q : Exit → Act → World → Prop} (hg : o.guard = none) (s x : Operand) (t tx : TypeId) (hop : o.op = Op.call { callee := Callee.builtin Builtin.append, args := #[s, x], argTypes := #[t, tx] })
    (u v v' : Value) (hs : a.eval s = u) (hx : a.eval x = v) (hrun : (Builtin.append_ #[t, tx] o.type #[u, v]).run P w = .ok v' w') (hK : wpList P ops Q rest (a.put o.dst v') w') : wpList P ops Q (o :: rest) a w := by
  refine wpList_plain hg fun K' hK' => ?_
  unfold Oper.wp
  simp [execOp, hop, resolve, invoke, builtin, hs, hx, hrun, Result.andThen]
  exact hK' _ _ hK
theorem app_str (w : World) (base : Nat) (v : Value) (ws : List ByteArray) (x : ByteArray) (gz : Nat) (H : Ws w base v ws) (hc : w.cell? ⟨gz, 0, none⟩ = some (.string x)) (hn : (ws.length + 1) * 16 ≤ 140737488355328) (hbase : base ≤ w.heap.size) :
    ∃ v' w', (Builtin.append_ #[29, 29] 29 #[v, .slice (some ⟨gz, 0, none⟩) 1 1]).run Tryd.prog w = .ok v' w' ∧ Ws w' base v' (ws ++ [x]) ∧ w.grownBy w' v.ownBlock := by
  obtain ⟨i0, hi, hz0, hz1, hz2⟩ := info_parts info9
  obtain ⟨v5, W5, r5, o5, g5, _⟩ := run_append_own (P := Tryd.prog) w base 29 29 9 i0 (.string ⟨#[]⟩) 1 16 Tryd.underlying29 hi hz0 hz1 hz2 rfl (by decide) v ws.length (sv ws) H ⟨gz, 0, none⟩ 1 1 [.string x] rfl (by
    intro j u hu
    match j, hu with
    | 0, hu =>
      simp at hu
      subst hu
      simpa [Addr.add] using hc
    | j + 1, hu => simp at hu) (by simp [Value.oneCell']) (by unfold maxLen; omega) hn hbase
  refine ⟨v5, W5, r5, ?_, g5⟩
  unfold Ws
  rw [List.length_append, List.length_singleton]
  have : sv (ws ++ [x]) = sv ws ++ [.string x] := by simp [sv]
  rw [this]
  exact o5
theorem Ws.below {w w' : World} {base : Nat} {v : Value} {ws : List ByteArray} (H : Ws w base v ws) (b : Below w.heap.size w w') : Ws w' base v ws := by
  by_cases h : v.ownBlock = none
  · exact World.ownsRow.kept (row := none) H ⟨b.os, b.tape, b.output, b.size, fun k hk _ => b.block k hk⟩ (.inl h)
  · exact World.ownsRow.kept (row := none) H ⟨b.os, b.tape, b.output, b.size, fun k hk _ => b.block k hk⟩ (.inr h)
theorem Ws.lt {w : World} {base : Nat} {v : Value} {ws : List ByteArray} (H : Ws w base v ws) : ∀ k, v.ownBlock = some k → base ≤ k ∧ k < w.heap.size := fun k hk => World.ownsRow.lt H k hk
theorem new_cell (w : World) (v : Value) (t : TypeId) (hv : v.oneCell' = true) : (w.alloc (.cells #[v] t)).cell? ⟨w.heap.size, 0, none⟩ = some v := by
  first | (simp [World.cell?]; done) | (simp [World.cell?, World.getObj?]; done) | (simp [go_sem]; done) | exact World.cell_one_new _ _ _
theorem spA_step (s : ByteArray) (F b : Nat) (ws : List ByteArray) (hb : b < s.size) (h32 : ¬ bt s b = 32) : spA s F b ws =
    if (we s b).2 = false ∧ F = s.size then ([], b, 61) else if (we s b).1 < s.size ∧ bt s (we s b).1 ≠ 32 then ([], min (we s b).1 F, 61) else spA s F (we s b).1 (ws ++ [s.extract b (we s b).1]) := by
  rw [spA, dif_pos hb, dif_neg h32]
/-- What a line tells, by the program. -/
def split (s : ByteArray) : Ans := spA s (fb forb s 0) 0 []
set_option maxRecDepth 1000000 in
set_option maxHeartbeats 2000000 in
theorem split_any (s : ByteArray) (hs : s.size ≤ 1099511627776) (w : World) :
    Calls Tryd.prog 12 #[.string s] w fun e w' => ∃ v, e = .returned (.tuple #[v, .int .i64 ((split s).2.1 : Nat), .int .i64 ((split s).2.2 : Nat)]) ∧ Ws w' w.heap.size v (split s).1 ∧ Below w.heap.size w w' := by
  have HF := hid (forb_any s w)
  have HS := hid (fb_spec forb s 0 (by omega))
  have HE : Hid (split s = spA s (fb forb s 0) 0 []) := rfl
  generalize fb forb s 0 = F at *
  have hF : F ≤ s.size := HS.out.2.1
  generalize split s = A at *
  obtain ⟨A1, A2, A3⟩ := A
  clear HS
  go_enter Tryd.func12, Tryd.ntmps12
  go_wp2_with fail
  refine HF.out.mono ?_
  rintro e w1 ⟨rfl, b1⟩
  clear HF
  go_wp2_with fail
  go_loopw [2, 3, 4, 6] (fun v x y b w' => ∃ (k : Nat) (ws : List ByteArray), x = .int .i64 0 ∧ y = .int .i64 0 ∧ b = .int .i64 (k : Int) ∧ k ≤ s.size ∧ ws.length ≤ k ∧ Hid ((A1, A2, A3) = spA s F k ws) ∧ Hid (Ws w' w.heap.size v ws) ∧ Hid (Below w.heap.size w w')) (fun _ _ _ b _ => s.size - (intOf b).toNat)
  case atStart => exact ⟨0, [], rfl, rfl, rfl, by omega, by simp, HE.out, Ws.nil _ _, b1⟩
  case round =>
    obtain ⟨b, ws, rfl, rfl, rfl, hb, hws, hA, hW, hB⟩ := hrel
    by_cases hlt : b < s.size
    · have hi : (s[b]'hlt).toNat = bt s b := bt_eq s b hlt
      by_cases h32 : bt s b = 32
      · have hA2 : Hid ((A1, A2, A3) = spA s F (b + 1) ws) := by
          show _ = _
          rw [hA.out, spA, dif_pos hlt, dif_pos h32]
        clear hA HE
        go_wp2_with fail
        go_roundw
        case rel => exact ⟨b + 1, ws, rfl, rfl, by go_num, by omega, by omega, hA2.out, hW.out, hB.out⟩
        case measure => simp [intOf]; omega
      · have HWE : Hid (∀ W, Calls Tryd.prog 21 #[.string s, .int .i64 b] W fun e w' => e = .returned (.tuple #[.int .i64 ((we s b).1 : Nat), .bool (we s b).2]) ∧ Below W.heap.size W w') := fun W => we_any s (by omega) b hlt W
        have hg := we_gt s b hlt h32
        have hA0 : (A1, A2, A3) = spA s F b ws := hA.out
        rw [spA_step s F b ws hlt h32] at hA0
        generalize we s b = q at HWE hg hA0
        obtain ⟨q1, q2⟩ := q
        have hq0 : b < q1 := hg.1
        have hq1 : q1 ≤ s.size := hg.2
        clear hg hA HE
        by_cases hx : q2 = false ∧ F = s.size
        · obtain ⟨rfl, rfl⟩ := hx
          rw [if_pos ⟨rfl, rfl⟩] at hA0
          obtain ⟨rfl, rfl, rfl⟩ : A1 = [] ∧ A2 = b ∧ A3 = 61 := by simpa using hA0
          clear hA0
          go_wp2_with fail
          refine (HWE.out _).mono ?_
          rintro e w2 ⟨rfl, b2⟩
          clear HWE
          go_wp2_with fail
          go_ret3
          exact ⟨_, rfl, Ws.nil _ _, (hB.out.trans (b2.mono hB.out.size))⟩
        · rw [if_neg hx] at hA0
          have hA : Hid ((q1 < s.size ∧ bt s q1 ≠ 32 → (A1, A2, A3) = (([] : List ByteArray), min q1 F, 61)) ∧ (¬ (q1 < s.size ∧ bt s q1 ≠ 32) → (A1, A2, A3) = spA s F q1 (ws ++ [s.extract b q1]))) :=
            ⟨fun h => by rw [hA0, if_pos h], fun h => by rw [hA0, if_neg h]⟩
          clear hA0
          cases q2 with
          | true =>
            clear hx
            by_cases hc : q1 < s.size
            · by_cases hd : bt s q1 = 32
              · have hA2 : Hid ((A1, A2, A3) = spA s F q1 (ws ++ [s.extract b q1])) := hA.out.2 (fun h => h.2 hd)
                have hj : (s[q1]'hc).toNat = bt s q1 := bt_eq s q1 hc
                clear hA
                go_wp2_with fail
                refine (HWE.out _).mono ?_
                rintro e w2 ⟨rfl, b2⟩
                clear HWE
                have hW3 : Ws (w2.alloc (.cells #[.string (s.extract b q1)] 9)) w.heap.size u2 ws := (hW.out.below b2).below (box_below _ _)
                have hB3 : Below w.heap.size w (w2.alloc (.cells #[.string (s.extract b q1)] 9)) := (hB.out.trans (b2.mono hB.out.size)).alloc (Nat.le_trans hB.out.size b2.size) _
                obtain ⟨v4, w4, r4, W4, g4⟩ := app_str _ w.heap.size u2 ws (s.extract b q1) w2.heap.size hW3 (new_cell _ _ _ rfl) (by omega) hB3.size
                have r4 := hid r4
                have W4 := hid W4
                have B4 := hid (hB3.grown g4 hB3.size (fun k hk => (hW3.lt k hk).1))
                clear hW3 hB3 g4 hW hB b2
                go_wp2_with (at_builtin; refine wpList_append_run rfl _ _ 29 29 rfl _ _ _ rfl rfl r4.out ?_)
                clear r4
                go_wp2_with fail
                go_roundw
                case rel => exact ⟨q1, ws ++ [s.extract b q1], rfl, rfl, rfl, hq1, by rw [List.length_append, List.length_singleton]; omega, hA2.out, W4.out, B4.out⟩
                case measure => simp [intOf]; omega
              · have hj : (s[q1]'hc).toNat = bt s q1 := bt_eq s q1 hc
                by_cases hm : F < q1
                · obtain ⟨rfl, rfl, rfl⟩ : A1 = [] ∧ A2 = F ∧ A3 = 61 := by
                    have h := hA.out.1 ⟨hc, hd⟩
                    rw [Nat.min_eq_right (by omega)] at h
                    simpa using h
                  clear hA
                  go_wp2_with fail
                  refine (HWE.out _).mono ?_
                  rintro e w2 ⟨rfl, b2⟩
                  clear HWE
                  go_wp2_with fail
                  go_ret3
                  exact ⟨_, rfl, Ws.nil _ _, (hB.out.trans (b2.mono hB.out.size))⟩
                · obtain ⟨rfl, rfl, rfl⟩ : A1 = [] ∧ A2 = q1 ∧ A3 = 61 := by
                    have h := hA.out.1 ⟨hc, hd⟩
                    rw [Nat.min_eq_left (by omega)] at h
                    simpa using h
                  clear hA
                  go_wp2_with fail
                  refine (HWE.out _).mono ?_
                  rintro e w2 ⟨rfl, b2⟩
                  clear HWE
                  go_wp2_with fail
                  go_ret3
                  exact ⟨_, rfl, Ws.nil _ _, (hB.out.trans (b2.mono hB.out.size))⟩
            · have hA2 : Hid ((A1, A2, A3) = spA s F q1 (ws ++ [s.extract b q1])) := hA.out.2 (fun h => hc h.1)
              clear hA
              go_wp2_with fail
              refine (HWE.out _).mono ?_
              rintro e w2 ⟨rfl, b2⟩
              clear HWE
              have hW3 : Ws (w2.alloc (.cells #[.string (s.extract b q1)] 9)) w.heap.size u2 ws := (hW.out.below b2).below (box_below _ _)
              have hB3 : Below w.heap.size w (w2.alloc (.cells #[.string (s.extract b q1)] 9)) := (hB.out.trans (b2.mono hB.out.size)).alloc (Nat.le_trans hB.out.size b2.size) _
              obtain ⟨v4, w4, r4, W4, g4⟩ := app_str _ w.heap.size u2 ws (s.extract b q1) w2.heap.size hW3 (new_cell _ _ _ rfl) (by omega) hB3.size
              have r4 := hid r4
              have W4 := hid W4
              have B4 := hid (hB3.grown g4 hB3.size (fun k hk => (hW3.lt k hk).1))
              clear hW3 hB3 g4 hW hB b2
              go_wp2_with (at_builtin; refine wpList_append_run rfl _ _ 29 29 rfl _ _ _ rfl rfl r4.out ?_)
              clear r4
              go_wp2_with fail
              go_roundw
              case rel => exact ⟨q1, ws ++ [s.extract b q1], rfl, rfl, rfl, hq1, by rw [List.length_append, List.length_singleton]; omega, hA2.out, W4.out, B4.out⟩
              case measure => simp [intOf]; omega
          | false =>
            have hFn : ¬ F = s.size := fun h => hx ⟨rfl, h⟩
            clear hx
            by_cases hc : q1 < s.size
            · by_cases hd : bt s q1 = 32
              · have hA2 : Hid ((A1, A2, A3) = spA s F q1 (ws ++ [s.extract b q1])) := hA.out.2 (fun h => h.2 hd)
                have hj : (s[q1]'hc).toNat = bt s q1 := bt_eq s q1 hc
                clear hA
                go_wp2_with fail
                refine (HWE.out _).mono ?_
                rintro e w2 ⟨rfl, b2⟩
                clear HWE
                have hW3 : Ws (w2.alloc (.cells #[.string (s.extract b q1)] 9)) w.heap.size u2 ws := (hW.out.below b2).below (box_below _ _)
                have hB3 : Below w.heap.size w (w2.alloc (.cells #[.string (s.extract b q1)] 9)) := (hB.out.trans (b2.mono hB.out.size)).alloc (Nat.le_trans hB.out.size b2.size) _
                obtain ⟨v4, w4, r4, W4, g4⟩ := app_str _ w.heap.size u2 ws (s.extract b q1) w2.heap.size hW3 (new_cell _ _ _ rfl) (by omega) hB3.size
                have r4 := hid r4
                have W4 := hid W4
                have B4 := hid (hB3.grown g4 hB3.size (fun k hk => (hW3.lt k hk).1))
                clear hW3 hB3 g4 hW hB b2
                go_wp2_with (at_builtin; refine wpList_append_run rfl _ _ 29 29 rfl _ _ _ rfl rfl r4.out ?_)
                clear r4
                go_wp2_with fail
                go_roundw
                case rel => exact ⟨q1, ws ++ [s.extract b q1], rfl, rfl, rfl, hq1, by rw [List.length_append, List.length_singleton]; omega, hA2.out, W4.out, B4.out⟩
                case measure => simp [intOf]; omega
              · have hj : (s[q1]'hc).toNat = bt s q1 := bt_eq s q1 hc
                by_cases hm : F < q1
                · obtain ⟨rfl, rfl, rfl⟩ : A1 = [] ∧ A2 = F ∧ A3 = 61 := by
                    have h := hA.out.1 ⟨hc, hd⟩
                    rw [Nat.min_eq_right (by omega)] at h
                    simpa using h
                  clear hA
                  go_wp2_with fail
                  refine (HWE.out _).mono ?_
                  rintro e w2 ⟨rfl, b2⟩
                  clear HWE
                  go_wp2_with fail
                  go_ret3
                  exact ⟨_, rfl, Ws.nil _ _, (hB.out.trans (b2.mono hB.out.size))⟩
                · obtain ⟨rfl, rfl, rfl⟩ : A1 = [] ∧ A2 = q1 ∧ A3 = 61 := by
                    have h := hA.out.1 ⟨hc, hd⟩
                    rw [Nat.min_eq_left (by omega)] at h
                    simpa using h
                  clear hA
                  go_wp2_with fail
                  refine (HWE.out _).mono ?_
                  rintro e w2 ⟨rfl, b2⟩
                  clear HWE
                  go_wp2_with fail
                  go_ret3
                  exact ⟨_, rfl, Ws.nil _ _, (hB.out.trans (b2.mono hB.out.size))⟩
            · have hA2 : Hid ((A1, A2, A3) = spA s F q1 (ws ++ [s.extract b q1])) := hA.out.2 (fun h => hc h.1)
              clear hA
              go_wp2_with fail
              refine (HWE.out _).mono ?_
              rintro e w2 ⟨rfl, b2⟩
              clear HWE
              have hW3 : Ws (w2.alloc (.cells #[.string (s.extract b q1)] 9)) w.heap.size u2 ws := (hW.out.below b2).below (box_below _ _)
              have hB3 : Below w.heap.size w (w2.alloc (.cells #[.string (s.extract b q1)] 9)) := (hB.out.trans (b2.mono hB.out.size)).alloc (Nat.le_trans hB.out.size b2.size) _
              obtain ⟨v4, w4, r4, W4, g4⟩ := app_str _ w.heap.size u2 ws (s.extract b q1) w2.heap.size hW3 (new_cell _ _ _ rfl) (by omega) hB3.size
              have r4 := hid r4
              have W4 := hid W4
              have B4 := hid (hB3.grown g4 hB3.size (fun k hk => (hW3.lt k hk).1))
              clear hW3 hB3 g4 hW hB b2
              go_wp2_with (at_builtin; refine wpList_append_run rfl _ _ 29 29 rfl _ _ _ rfl rfl r4.out ?_)
              clear r4
              go_wp2_with fail
              go_roundw
              case rel => exact ⟨q1, ws ++ [s.extract b q1], rfl, rfl, rfl, hq1, by rw [List.length_append, List.length_singleton]; omega, hA2.out, W4.out, B4.out⟩
              case measure => simp [intOf]; omega
    · have hA0 : (A1, A2, A3) = spA s F b ws := hA.out
      rw [spA, dif_neg hlt] at hA0
      by_cases hFn : F < s.size
      · rw [if_pos hFn] at hA0
        obtain ⟨rfl, rfl, rfl⟩ : A1 = [] ∧ A2 = F ∧ A3 = 61 := by simpa using hA0
        clear hA0 hA HE
        go_wp2_with fail
        go_ret3
        exact ⟨_, rfl, Ws.nil _ _, hB.out⟩
      · rw [if_neg hFn] at hA0
        obtain ⟨rfl, rfl, rfl⟩ : A1 = ws ∧ A2 = 0 ∧ A3 = 0 := by simpa using hA0
        clear hA0 hA HE
        go_wp2_with fail
        go_ret3
        exact ⟨_, rfl, hW.out, hB.out⟩
end Go.Proofs.YtcjlgjlediihoabDoor.Sq

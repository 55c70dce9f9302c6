/- The document's Width; the law's texts and numbers. -/
import Derived.Test.YtcjlgjlediihoaaRu
import Derived.Lib.ConvBytes
import Derived.BigQuiet
namespace Go.Proofs.Ytcjlgjlediihoaa.Rw
open Go.ChangeShapes Go.WideShapes Go.ChangeAt Go.RowKit
open Go.Proofs.Ytcjlgjlediihoaa.Ut
open Go.Proofs.Ytcjlgjlediihoaa.Sp
open Go.Proofs.Ytcjlgjlediihoaa.By
set_option linter.unusedVariables false
set_option linter.unusedSimpArgs false

theorem tx_get (t : ByteArray) (j : Nat) : (tx t).getD j 0 = ((bt t j : Nat) : Int) := by
  unfold tx
  by_cases h : j < t.size
  · have h' : j < t.data.toList.length := by rw [Array.length_toList]; exact h
    rw [List.getD_eq_getElem?_getD, List.getElem?_map, List.getElem?_eq_getElem h']
    simp only [Option.map_some, Option.getD_some]
    rw [bt_data]
  · have h' : ¬ j < t.data.toList.length := by rw [Array.length_toList]; exact h
    rw [bt_end t j (by omega), List.getD_eq_getElem?_getD, List.getElem?_map, List.getElem?_eq_none (by omega)]
    rfl
theorem conv_bytes (t : ByteArray) (w : World) : ∃ (W1 : World) (cap : Nat), Sem.run Try.prog (convert 9 37 (.string t)) w = .ok (.slice (some ⟨w.heap.size, 0, none⟩) t.size cap) W1 ∧
    Bytes W1 (some ⟨w.heap.size, 0, none⟩) t.size cap (tx t) ∧ Below w.heap.size w W1 := by
  refine ⟨Lib.bytesWorld w 5 t, grownCap w t.size 0 5, Lib.run_convert_string_bytes w 9 37 5 t Try.underlying9 Try.underlying37 Try.underlying5, ?_, ⟨rfl, rfl, rfl, by rw [Lib.bytesWorld_size]; omega, fun k hk => Lib.bytesWorld_at_old w 5 t k hk⟩⟩
  refine ⟨tx_len t, grownCap_ge w t.size 0 5, fun e => (by simp at e), tx_bytes t, ?_⟩
  intro x hx i hi
  simp at hx
  subst hx
  rw [addr_add, Nat.zero_add, Lib.bytesWorld_cell w 5 t i hi, tx_get]
  congr 2
  have h' : i < t.data.toList.length := by rw [Array.length_toList]; exact hi
  rw [List.getD_eq_getElem?_getD, List.getElem?_eq_getElem h']
  simp only [Option.getD_some]
  rw [bt_data]
theorem decN_min (N M b0 b1 b2 b3 : Nat) (h1 : 1 < N ↔ 1 < M) (h2 : 2 < N ↔ 2 < M) (h3 : 3 < N ↔ 3 < M) : Lib.decodeN N b0 b1 b2 b3 = Lib.decodeN M b0 b1 b2 b3 := by
  unfold Lib.decodeN
  simp only [h1, h2, h3]
/-- The rune at a place of a text, of the four bytes there. -/
theorem rune_ext (s : ByteArray) (p e : Nat) (hp : p < s.size) (he : e ≤ s.size) (h4 : e = s.size ∨ p + 4 ≤ e) (hpe : p < e) :
    Lib.decodeN ((s.extract p e).size - 0) ((tx (s.extract p e)).getD 0 0).toNat ((tx (s.extract p e)).getD (0 + 1) 0).toNat ((tx (s.extract p e)).getD (0 + 2) 0).toNat ((tx (s.extract p e)).getD (0 + 3) 0).toNat = Utf8.decode s p := by
  have hsz := ext_size s p e he
  have hb : ∀ j, j < 4 → ((tx (s.extract p e)).getD j 0).toNat = bt s (p + j) := by
    intro j hj
    rw [tx_get, Int.toNat_natCast]
    by_cases h : p + j < e
    · exact ext_bt s p e j he h
    · rw [bt_end _ j (by omega), bt_end s (p + j) (by omega)]
  rw [hb 0 (by omega), hb (0 + 1) (by omega), hb (0 + 2) (by omega), hb (0 + 3) (by omega), dec_at]
  exact decN_min _ _ _ _ _ _ (by omega) (by omega) (by omega)
theorem rn_wd (d : Nat × Nat) (h : 1 ≤ d.2) : ((rn d).2 < 1 → d.2 = 1) ∧ (¬ (rn d).2 < 1 → d.2 = (rn d).2) := by
  unfold rn
  split
  · rename_i h'; exact ⟨fun _ => by rw [h'], fun h => by simp at h⟩
  · exact ⟨fun x => by omega, fun _ => rfl⟩

set_option maxRecDepth 1000000 in
set_option maxHeartbeats 4000000 in
theorem rwidth_any (s : ByteArray) (hs : s.size ≤ 281474976710656) (w : World) :
    Calls Try.prog 8 #[.string s] w fun e w' => e = .returned (.int .i64 (Lib.runeCount s : Nat)) ∧ Below w.heap.size w w' := by
  go_enter Try.func8, Try.ntmps8
  go_wp2_with fail
  go_loopw [3, 4] (fun n at' w' => ∃ (pos f k : Nat), n = .int .i64 (k : Int) ∧ at' = .int .i64 (pos : Int) ∧ pos ≤ s.size ∧ k ≤ pos ∧ s.size ≤ pos + f ∧ Hid (Lib.runeCount s = k + Lib.runeCountFrom s f pos) ∧ Hid (Below w.heap.size w w')) (fun _ at' _ => s.size - (intOf at').toNat)
  case atStart => exact ⟨0, s.size, 0, rfl, rfl, by omega, by omega, by omega, by show _ = _; rw [Nat.zero_add]; rfl, Below.refl _ _⟩
  case round =>
    obtain ⟨pos, f, k, rfl, rfl, hps, hk, hf, hq, hB⟩ := hrel
    by_cases hp : pos < s.size
    · have HW := hid (dec_wd s pos hp)
      have HN : Hid (Lib.runeCountFrom s f pos = 1 + Lib.runeCountFrom s (f - 1) (pos + (Utf8.decode s pos).2)) := by
        show _ = _
        obtain ⟨g, rfl⟩ : ∃ g, f = g + 1 := ⟨f - 1, by omega⟩
        rw [Lib.runeCountFrom, if_pos hp]
        rfl
      have hE : ∃ e : Nat, e ≤ s.size ∧ pos < e ∧ (e = s.size ∧ s.size < pos + 4 ∨ e = pos + 4 ∧ ¬ s.size < pos + 4) := by
        by_cases h : s.size < pos + 4
        · exact ⟨s.size, by omega, by omega, .inl ⟨rfl, h⟩⟩
        · exact ⟨pos + 4, by omega, by omega, .inr ⟨rfl, h⟩⟩
      obtain ⟨e, he1, he2, he3⟩ := hE
      have hdd := rune_ext s pos e hp he1 (by omega) he2
      obtain ⟨W1, cap, run1, B1, b1⟩ := conv_bytes (s.extract pos e) wr
      have HR0 := rune_any (some ⟨wr.heap.size, 0, none⟩) (s.extract pos e).size cap (tx (s.extract pos e)) 0 W1 B1 (by rw [ext_size s pos e he1]; omega) (by rw [ext_size s pos e he1]; omega)
      rw [hdd] at HR0
      generalize (s.extract pos e).size = n at HR0 run1
      have HR := hid HR0
      have run1 := hid run1
      have B2 := hid (hB.out.trans (b1.mono hB.out.size))
      clear HR0 B1 b1 hB hdd
      have hrw := hid (rn_wd (Utf8.decode s pos) HW.out.1)
      generalize hd : Utf8.decode s pos = d at HW HN HR hrw
      have hd := hid hd
      obtain ⟨r, wd⟩ := d
      have hw := HW.out.1
      have hw' := HW.out.2.1
      clear HW hd
      have hw1 : 1 ≤ wd := hw
      have hw2 : pos + wd ≤ s.size := hw'
      clear hw hw'
      generalize hx : rn (r, wd) = x at HR hrw
      clear hx
      obtain ⟨x1, x2⟩ := x
      rcases he3 with ⟨rfl, he3⟩ | ⟨rfl, he3⟩
      · have run2 := run1.out
        clear run1
        go_wp2_with fail
        refine HR.out.mono ?_
        rintro e w1 ⟨rfl, rfl⟩
        clear HR run2
        by_cases hx2 : x2 < 1
        · have e1 : wd = 1 := hrw.out.1 hx2
          have e0 : x2 = 0 := by omega
          subst e0
          subst e1
          clear hrw
          go_wp2_with fail
          go_roundw
          case rel => exact ⟨pos + 1, f - 1, k + 1, by go_num, by go_num, by omega, by omega, by omega, by (have h2 : Lib.runeCountFrom s f pos = 1 + Lib.runeCountFrom s (f - 1) (pos + 1) := HN.out); show _ = _; rw [hq.out, h2]; omega, B2.out⟩
          case measure => simp [intOf]; omega
        · have e1 : wd = x2 := hrw.out.2 hx2
          subst e1
          clear hrw
          go_wp2_with fail
          go_roundw
          case rel => exact ⟨pos + wd, f - 1, k + 1, by go_num, by go_num, by omega, by omega, by omega, by (have h2 : Lib.runeCountFrom s f pos = 1 + Lib.runeCountFrom s (f - 1) (pos + wd) := HN.out); show _ = _; rw [hq.out, h2]; omega, B2.out⟩
          case measure => simp [intOf]; omega
      · have run2 := run1.out
        clear run1
        go_wp2_with fail
        refine HR.out.mono ?_
        rintro e w1 ⟨rfl, rfl⟩
        clear HR run2
        by_cases hx2 : x2 < 1
        · have e1 : wd = 1 := hrw.out.1 hx2
          have e0 : x2 = 0 := by omega
          subst e0
          subst e1
          clear hrw
          go_wp2_with fail
          go_roundw
          case rel => exact ⟨pos + 1, f - 1, k + 1, by go_num, by go_num, by omega, by omega, by omega, by (have h2 : Lib.runeCountFrom s f pos = 1 + Lib.runeCountFrom s (f - 1) (pos + 1) := HN.out); show _ = _; rw [hq.out, h2]; omega, B2.out⟩
          case measure => simp [intOf]; omega
        · have e1 : wd = x2 := hrw.out.2 hx2
          subst e1
          clear hrw
          go_wp2_with fail
          go_roundw
          case rel => exact ⟨pos + wd, f - 1, k + 1, by go_num, by go_num, by omega, by omega, by omega, by (have h2 : Lib.runeCountFrom s f pos = 1 + Lib.runeCountFrom s (f - 1) (pos + wd) := HN.out); show _ = _; rw [hq.out, h2]; omega, B2.out⟩
          case measure => simp [intOf]; omega
    · have hN := hid (Lib.runeCountFrom_end s f pos hp)
      go_wp2
      go_ret
      exact ⟨by rw [hq.out, hN.out]; rfl, hB.out⟩

theorem Ws.shape {w : World} {base : Nat} {v : Value} {ws : List ByteArray} (H : Ws w base v ws) : ∃ a c, v = .slice a ws.length c ∧ ws.length ≤ c ∧ Hid (∀ i (h : i < ws.length), ∃ g, a = some ⟨g, 0, none⟩ ∧ w.cell? ⟨g, i, none⟩ = some (.string (ws[i]'h))) := by
  have h0 := H
  unfold Ws at H
  rcases H.2 with ⟨e1, e2⟩ | ⟨g, c, cur, e, _, _, hn, _⟩
  · refine ⟨none, 0, by rw [e1, e2], by omega, ?_⟩
    intro i h
    omega
  · refine ⟨some ⟨g, 0, none⟩, c, e, by omega, ?_⟩
    intro i h
    refine ⟨g, rfl, ?_⟩
    subst e
    rw [World.ownsRow.cellAt H i (by omega), sv, List.getElem?_map, List.getElem?_eq_getElem h]
    rfl
theorem Ws.max {w : World} {base : Nat} {v : Value} {ws : List ByteArray} (H : Ws w base v ws) : ws.length ≤ 9223372036854775807 := by
  unfold Ws at H
  rcases H.2 with ⟨_, e2⟩ | ⟨g, c, cur, e, _, _, hn, hm, _⟩
  · omega
  · unfold maxLen at hm; omega
set_option maxRecDepth 1000000 in
/-- The law's 'texts' of two rows of the same texts. -/
theorem texts_any {w : World} {b1 b2 : Nat} {v1 v2 : Value} {ws : List ByteArray} (H1 : Ws w b1 v1 ws) (H2 : Ws w b2 v2 ws) :
    Calls Try.prog 6 #[v1, v2] w fun e w' => e = .returned (.bool true) ∧ Below w.heap.size w w' := by
  obtain ⟨a1, c1, rfl, hc1, K1⟩ := H1.shape
  obtain ⟨a2, c2, rfl, hc2, K2⟩ := H2.shape
  have hl := H1.max
  clear H1 H2
  have t0 : ((ws.length : Int) != (ws.length : Int)) = false := bne_self_eq_false _
  go_enter Try.func6, Try.ntmps6
  go_wp2_with fail
  go_loopw [5] (fun i wr => ∃ k : Nat, i = .int .i64 k ∧ k ≤ ws.length ∧ ∃ n, wr = w.drewN n) (fun i _ => ws.length - (intOf i).toNat)
  case atStart => exact ⟨0, rfl, by omega, 0, rfl⟩
  case round =>
    obtain ⟨k, rfl, hk, n, rfl⟩ := hrel
    by_cases hlt : k < ws.length
    · obtain ⟨g1, rfl, d1⟩ := K1.out k hlt
      obtain ⟨g2, rfl, d2⟩ := K2.out k hlt
      generalize ws[k]'hlt = x at d1 d2
      have ik0 : (k : Int) < (ws.length : Int) := by omega
      have ok0 : (0 : Int) ≤ (k : Int) := by omega
      go_wp2_with fail
      go_quiet (fail)
      go_wp2_with fail
      go_roundw
      case rel => exact ⟨k + 1, by go_num, by omega, n + nq, rfl⟩
      case measure => simp [intOf]; omega
    · go_wp2_with fail
      go_ret
      exact ⟨rfl, below_drewN (Below.refl _ _) _⟩
theorem numbers_any (w : World) : Calls Try.prog 9 #[] w fun e w' => e = .returned (.bool true) ∧ w' = w := by
  go_enter Try.func9, Try.ntmps9
  go_wp2
  go_ret
  exact ⟨rfl, rfl⟩
end Go.Proofs.Ytcjlgjlediihoaa.Rw

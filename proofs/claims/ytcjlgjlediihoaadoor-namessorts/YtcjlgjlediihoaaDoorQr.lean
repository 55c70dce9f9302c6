/- The document's Quote by its contract. -/
import Derived.Test.YtcjlgjlediihoaaDoorRu
import Derived.Lib.ConvBytes
namespace Go.Proofs.YtcjlgjlediihoaaDoor.Rw
open Go.ChangeShapes Go.WideShapes Go.ChangeAt Go.RowKit
open Go.Proofs.YtcjlgjlediihoaaDoor.Ut
open Go.Proofs.YtcjlgjlediihoaaDoor.By
set_option linter.unusedVariables false
set_option linter.unusedSimpArgs false

theorem conv_bytes (t : ByteArray) (w : World) : ∃ (W1 : World) (cap : Nat), Sem.run Tryd.prog (convert 9 60 (.string t)) w = .ok (.slice (some ⟨w.heap.size, 0, none⟩) t.size cap) W1 ∧
    Bytes W1 (some ⟨w.heap.size, 0, none⟩) t.size cap (tx t) ∧ Below w.heap.size w W1 := by
  refine ⟨Lib.bytesWorld w 5 t, grownCap w t.size 0 5, Lib.run_convert_string_bytes w 9 60 5 t Tryd.underlying9 Tryd.underlying60 Tryd.underlying5, ?_, ⟨rfl, rfl, rfl, by rw [Lib.bytesWorld_size]; omega, fun k hk => Lib.bytesWorld_at_old w 5 t k hk⟩⟩
  refine ⟨tx_len t, grownCap_ge w t.size 0 5, fun e => (by simp at e), tx_bytes t, ?_⟩
  intro x hx i hi
  simp at hx
  subst hx
  rw [addr_add, Nat.zero_add, Lib.bytesWorld_cell w 5 t i hi, tx_get]
  congr 2
  have h' : i < t.data.toList.length := by rw [Array.length_toList]; exact hi
  rw [List.getD_eq_getElem?_getD, List.getElem?_eq_getElem h']
  simp only [Option.getD_some]
  rw [bt_data]
set_option maxRecDepth 1000000 in
theorem rplain_any (r : Nat) (w : World) : Calls Tryd.prog 41 #[.int .u32 (r : Int)] w fun e w' => e = .returned (.bool (plain r)) ∧ w' = w := by
  by_cases h1 : 32 < r
  · by_cases h3 : r = 34
    · subst h3
      go_enter Tryd.func41, Tryd.ntmps41
      go_wp2
      go_ret
      exact ⟨rfl, rfl⟩
    · by_cases h4 : r = 92
      · subst h4
        go_enter Tryd.func41, Tryd.ntmps41
        go_wp2
        go_ret
        exact ⟨rfl, rfl⟩
      · have n1 : ((r : Int) != 34) = true := by simp; omega
        have n2 : ((r : Int) != 92) = true := by simp; omega
        by_cases h5 : r < 127
        · have e : plain r = true := by simp [plain]; omega
          rw [e]
          go_enter Tryd.func41, Tryd.ntmps41
          go_wp2
          go_ret
          exact ⟨by first | (simp [n1, n2]; done) | rfl | (simp; omega), rfl⟩
        · by_cases h6 : 160 < r
          · have e : plain r = true := by simp [plain]; omega
            rw [e]
            go_enter Tryd.func41, Tryd.ntmps41
            go_wp2
            go_ret
            exact ⟨by first | (simp [n1, n2]; done) | rfl | (simp; omega), rfl⟩
          · have e : plain r = false := by simp [plain]; omega
            rw [e]
            go_enter Tryd.func41, Tryd.ntmps41
            go_wp2
            go_ret
            exact ⟨by first | (simp [n1, n2]; done) | rfl | (simp; omega), rfl⟩
  · have e : plain r = false := by simp [plain]; omega
    rw [e]
    go_enter Tryd.func41, Tryd.ntmps41
    go_wp2
    go_ret
    exact ⟨rfl, rfl⟩
theorem hx_str (c : Nat) (h : c < 256) : ((⟨#[92, 120]⟩ : ByteArray) ++ hexs.extract (c / 16) (c / 16 + 1)) ++ hexs.extract (c % 16) (c % 16 + 1) = str (hx c) := by
  have : ∀ c, c < 256 → ((⟨#[92, 120]⟩ : ByteArray) ++ hexs.extract (c / 16) (c / 16 + 1)) ++ hexs.extract (c % 16) (c % 16 + 1) = str (hx c) := by decide +kernel
  exact this c h
set_option maxRecDepth 1000000 in
theorem rhex_any (c : Nat) (hc : c < 256) (w : World) : Calls Tryd.prog 65 #[.int .u8 (c : Int)] w fun e w' => e = .returned (.string (str (hx c))) ∧ ∃ n, w' = w.drewN n := by
  have HX := hid (hx_str c hc)
  go_enter Tryd.func65, Tryd.ntmps65
  go_wp2_with fail
  go_quiet (fail)
  go_wp2_with fail
  go_ret
  exact ⟨by rw [← HX.out]; rfl, _, rfl⟩
/-- The rune at a place of a text's bytes. -/
theorem rune_at (s : ByteArray) (p : Nat) : Lib.decodeN (s.size - p) ((tx s).getD p 0).toNat ((tx s).getD (p + 1) 0).toNat ((tx s).getD (p + 2) 0).toNat ((tx s).getD (p + 3) 0).toNat = Utf8.decode s p := by
  rw [tx_get, tx_get, tx_get, tx_get, dec_at]
  simp only [Int.toNat_natCast]
/-- Some of a text's bytes, as a slice of their own. -/
theorem bytes_sub {W : World} {g cap : Nat} {s : ByteArray} (H : Bytes W (some ⟨g, 0, none⟩) s.size cap (tx s)) (p n : Nat) (h : p + n ≤ s.size) : Bytes W (some ⟨g, p, none⟩) n (cap - p) (tx (s.extract p (p + n))) := by
  have hsz := ext_size s p (p + n) h
  refine ⟨by rw [tx_len, hsz]; omega, by have := H.2.1; omega, fun e => (by simp at e), tx_bytes _, ?_⟩
  intro x hx i hi
  simp at hx
  subst hx
  have := H.2.2.2.2 _ rfl (p + i) (by omega)
  rw [addr_add, Nat.zero_add] at this
  rw [addr_add, this, tx_get, tx_get, ext_bt s p (p + n) i h (by omega)]
theorem str1 : (⟨#[92]⟩ : ByteArray) = str [92] := by decide +kernel
theorem str_tx (s : ByteArray) : str (tx s) = s := by
  have h : ∀ (l : List UInt8) (r : ByteArray), (l.map fun b => (b.toNat : Int)).foldl (fun r n => r.push (UInt8.ofNat n.toNat)) r = ⟨r.data ++ l.toArray⟩ := by
    intro l
    induction l with
    | nil => intro r; cases r; simp
    | cons b l ih =>
      intro r
      rw [List.map_cons, List.foldl_cons, ih]
      simp [ByteArray.push]
  unfold str tx
  rw [h]
  cases s
  simp [ByteArray.empty, ByteArray.emptyWithCapacity]
  try rfl
set_option maxRecDepth 1000000 in
set_option maxHeartbeats 1500000 in
theorem rpiece_any (s : ByteArray) (hs : s.size ≤ 4294967296) (p : Nat) (hp : p < s.size) (g cap : Nat) (w : World) (H : Bytes w (some ⟨g, 0, none⟩) s.size cap (tx s)) :
    Calls Tryd.prog 43 #[.slice (some ⟨g, 0, none⟩) s.size cap, .int .i64 p] w fun e w' => e = .returned (.tuple #[.string (str (pc s p)), .int .i64 ((Utf8.decode s p).2 : Nat)]) ∧ ∃ n, w' = w.drewN n := by
  have HR0 := rune_any (some ⟨g, 0, none⟩) s.size cap (tx s) p w H (by omega) hp
  rw [rune_at] at HR0
  have HR := hid HR0
  have hw := dec_wd s p hp
  have hbt := bt_lt s p
  have hcl := H.2.1
  clear HR0
  have hC : Hid (∀ j, p + j < s.size → w.cell? ⟨g, p + j, none⟩ = some (.int .u8 ((bt s (p + j) : Nat) : Int))) := fun j hj => by
    have := H.2.2.2.2 _ rfl (p + j) hj
    rw [addr_add, Nat.zero_add, tx_get] at this
    exact this
  have c0 := hC.out 0 (by omega)
  rw [Nat.add_zero] at c0
  by_cases hst : Utf8.decode s p = (65533, 1)
  · have hP : pc s p = hx (bt s p) := by unfold pc; rw [if_pos hst]
    rw [hP, hst]
    rw [hst] at HR
    have HX0 := fun W => rhex_any (bt s p) hbt W
    have HX := hid HX0
    clear HX0
    generalize bt s p = b at *
    clear hP hst hw hC H
    go_enter Tryd.func43, Tryd.ntmps43
    go_wp2_with fail
    refine HR.out.mono ?_
    rintro e w ⟨rfl, rfl⟩
    clear HR
    go_wp2_with fail
    refine (HX.out _).mono ?_
    rintro e w2 ⟨rfl, n2, rfl⟩
    clear HX
    go_wp2_with fail
    go_ret2
    exact ⟨rfl, _, rfl⟩
  · have hrn : rn (Utf8.decode s p) = Utf8.decode s p := by unfold rn; rw [if_neg hst]
    rw [hrn] at HR
    have hlt0 := dec_lt s p hp
    have hP0 : pc s p = if (Utf8.decode s p).1 = 10 then [92, 110] else if (Utf8.decode s p).1 = 9 then [92, 116] else if (Utf8.decode s p).1 = 32 then [92, 115] else if (Utf8.decode s p).1 = 34 then [92, 34] else if (Utf8.decode s p).1 = 92 then [92, 92]
        else if plain (Utf8.decode s p).1 = true then tx (s.extract p (p + (Utf8.decode s p).2)) else hxs (tx (s.extract p (p + (Utf8.decode s p).2))) := by
      unfold pc
      rw [if_neg hst]
    have HPL0 := fun W => rplain_any (Utf8.decode s p).1 W
    have HPL := hid HPL0
    clear HPL0
    generalize hd : Utf8.decode s p = d at *
    clear hrn hst hd
    obtain ⟨r, wd⟩ := d
    have hw1 : 1 ≤ wd := hw.1
    have hw2 : p + wd ≤ s.size := hw.2.1
    have hlt1 : r < 128 → bt s p < 128 ∧ r = bt s p ∧ wd = 1 := fun h => by
      have h1 := hlt0 h
      simp at h1
      exact ⟨h1.1, h1.2.1, h1.2.2⟩
    have hlt := hid hlt1
    have hP := hid hP0
    clear hw hlt0 hlt1 hP0
    cases hpl : plain r with
    | true =>
      have hne : r ≠ 10 ∧ r ≠ 9 ∧ r ≠ 32 ∧ r ≠ 34 ∧ r ≠ 92 := by
        refine ⟨?_, ?_, ?_, ?_, ?_⟩ <;> (rintro rfl; revert hpl; decide)
      have hP2 : pc s p = tx (s.extract p (p + wd)) := by
        rw [hP.out, if_neg hne.1, if_neg hne.2.1, if_neg hne.2.2.1, if_neg hne.2.2.2.1, if_neg hne.2.2.2.2, if_pos hpl]
      have hcv0 := (bytes_sub H p wd hw2).conv
      rw [← hP2] at hcv0
      have HPL2 : Hid (∀ W, Calls Tryd.prog 41 #[.int .u32 (r : Int)] W fun e w' => e = .returned (.bool true) ∧ w' = W) := fun W => by have := HPL.out W; rw [hpl] at this; exact this
      generalize pc s p = P at *
      have hcv := hid hcv0
      clear hP hP2 hC H c0 hlt hne hcv0 HPL
      go_enter Tryd.func43, Tryd.ntmps43
      go_wp2_with fail
      refine HR.out.mono ?_
      rintro e w ⟨rfl, rfl⟩
      clear HR
      have hz : ((wd : Int) == 0) = false := by simp; omega
      go_wp2_with fail
      refine (HPL2.out _).mono ?_
      rintro e w ⟨rfl, rfl⟩
      have hcv2 := hcv.out
      clear HPL2 hcv
      go_wp2_with fail
      go_ret2
      exact ⟨rfl, 0, rfl⟩
    | false =>
      have HPL2 : Hid (∀ W, Calls Tryd.prog 41 #[.int .u32 (r : Int)] W fun e w' => e = .returned (.bool false) ∧ w' = W) := fun W => by have := HPL.out W; rw [hpl] at this; exact this
      clear HPL
      have hz : ((wd : Int) == 0) = false := by simp; omega
      by_cases a1 : r = 10
      · obtain ⟨hy1, hy2, rfl⟩ := hlt.out (by omega)
        clear hy1 hy2
        have hP2 : pc s p = [92, 110] := by rw [hP.out, if_pos a1]
        rw [hP2]
        have hstr : Hid (str [92, 110] = ⟨#[92, 110]⟩) := by show _ = _; decide +kernel
        have q1 : ((r : Int) == 10) = true := by simp [a1]
        clear hP hP2 hC H c0 hlt a1 hpl
        go_enter Tryd.func43, Tryd.ntmps43
        go_wp2_with fail
        refine HR.out.mono ?_
        rintro e w ⟨rfl, rfl⟩
        clear HR
        go_wp2_with fail
        refine (HPL2.out _).mono ?_
        rintro e w ⟨rfl, rfl⟩
        clear HPL2
        go_wp2_with fail
        go_ret2
        exact ⟨by rw [hstr.out]; rfl, 0, rfl⟩
      · by_cases a2 : r = 9
        · obtain ⟨hy1, hy2, rfl⟩ := hlt.out (by omega)
          clear hy1 hy2
          have hP2 : pc s p = [92, 116] := by rw [hP.out, if_neg a1, if_pos a2]
          rw [hP2]
          have hstr : Hid (str [92, 116] = ⟨#[92, 116]⟩) := by show _ = _; decide +kernel
          have n1 : ((r : Int) == 10) = false := by simp; omega
          have q2 : ((r : Int) == 9) = true := by simp [a2]
          clear hP hP2 hC H c0 hlt a2 hpl
          go_enter Tryd.func43, Tryd.ntmps43
          go_wp2_with fail
          refine HR.out.mono ?_
          rintro e w ⟨rfl, rfl⟩
          clear HR
          go_wp2_with fail
          refine (HPL2.out _).mono ?_
          rintro e w ⟨rfl, rfl⟩
          clear HPL2
          go_wp2_with fail
          go_ret2
          exact ⟨by rw [hstr.out]; rfl, 0, rfl⟩
        · by_cases a3 : r = 32
          · obtain ⟨hy1, hy2, rfl⟩ := hlt.out (by omega)
            clear hy1 hy2
            have hP2 : pc s p = [92, 115] := by rw [hP.out, if_neg a1, if_neg a2, if_pos a3]
            rw [hP2]
            have hstr : Hid (str [92, 115] = ⟨#[92, 115]⟩) := by show _ = _; decide +kernel
            have n1 : ((r : Int) == 10) = false := by simp; omega
            have n2 : ((r : Int) == 9) = false := by simp; omega
            have q3 : ((r : Int) == 32) = true := by simp [a3]
            clear hP hP2 hC H c0 hlt a3 hpl
            go_enter Tryd.func43, Tryd.ntmps43
            go_wp2_with fail
            refine HR.out.mono ?_
            rintro e w ⟨rfl, rfl⟩
            clear HR
            go_wp2_with fail
            refine (HPL2.out _).mono ?_
            rintro e w ⟨rfl, rfl⟩
            clear HPL2
            go_wp2_with fail
            go_ret2
            exact ⟨by rw [hstr.out]; rfl, 0, rfl⟩
          · by_cases a4 : r = 34
            · obtain ⟨hy1, hbr, rfl⟩ := hlt.out (by omega)
              clear hy1
              have hP2 : pc s p = [92, 34] := by rw [hP.out, if_neg a1, if_neg a2, if_neg a3, if_pos a4]
              rw [hP2]
              have hcv0 := (bytes_sub H p 1 hw2).conv
              have h1 : tx (s.extract p (p + 1)) = [34] := by
                have hl : (tx (s.extract p (p + 1))).length = 1 := by rw [tx_len, ext_size s p (p + 1) hw2]; omega
                have hg := tx_get (s.extract p (p + 1)) 0
                have hbb : bt s (p + 0) = r := hbr.symm
                rw [ext_bt s p (p + 1) 0 hw2 (by omega), hbb, a4] at hg
                match hq : tx (s.extract p (p + 1)), hl, hg with
                | [x], _, hg => simp at hg; rw [hg]
              rw [h1] at hcv0
              have hstr : Hid ((⟨#[92]⟩ : ByteArray) ++ str [34] = str [92, 34]) := by show _ = _; decide +kernel
              have hss : (str [34]).size = 1 := by decide +kernel
              have hcv := hid hcv0
              have n1 : ((r : Int) == 10) = false := by simp; omega
              have n2 : ((r : Int) == 9) = false := by simp; omega
              have n3 : ((r : Int) == 32) = false := by simp; omega
              have q4 : ((r : Int) == 34) = true := by simp [a4]
              clear hP hP2 hC H c0 hlt hcv0 h1 hbr a4 hpl
              go_enter Tryd.func43, Tryd.ntmps43
              go_wp2_with fail
              refine HR.out.mono ?_
              rintro e w ⟨rfl, rfl⟩
              clear HR
              go_wp2_with fail
              refine (HPL2.out _).mono ?_
              rintro e w ⟨rfl, rfl⟩
              have hcv2 := hcv.out
              clear HPL2 hcv
              go_wp2_with fail
              go_ret2
              exact ⟨by rw [← hstr.out]; rfl, 0, rfl⟩
            · by_cases a5 : r = 92
              · obtain ⟨hy1, hbr, rfl⟩ := hlt.out (by omega)
                clear hy1
                have hP2 : pc s p = [92, 92] := by rw [hP.out, if_neg a1, if_neg a2, if_neg a3, if_neg a4, if_pos a5]
                rw [hP2]
                have hcv0 := (bytes_sub H p 1 hw2).conv
                have h1 : tx (s.extract p (p + 1)) = [92] := by
                  have hl : (tx (s.extract p (p + 1))).length = 1 := by rw [tx_len, ext_size s p (p + 1) hw2]; omega
                  have hg := tx_get (s.extract p (p + 1)) 0
                  have hbb : bt s (p + 0) = r := hbr.symm
                  rw [ext_bt s p (p + 1) 0 hw2 (by omega), hbb, a5] at hg
                  match hq : tx (s.extract p (p + 1)), hl, hg with
                  | [x], _, hg => simp at hg; rw [hg]
                rw [h1] at hcv0
                have hstr : Hid ((⟨#[92]⟩ : ByteArray) ++ str [92] = str [92, 92]) := by show _ = _; decide +kernel
                have hss : (str [92]).size = 1 := by decide +kernel
                have hcv := hid hcv0
                have n1 : ((r : Int) == 10) = false := by simp; omega
                have n2 : ((r : Int) == 9) = false := by simp; omega
                have n3 : ((r : Int) == 32) = false := by simp; omega
                have n4 : ((r : Int) == 34) = false := by simp; omega
                have q5 : ((r : Int) == 92) = true := by simp [a5]
                clear hP hP2 hC H c0 hlt hcv0 h1 hbr a5 hpl
                go_enter Tryd.func43, Tryd.ntmps43
                go_wp2_with fail
                refine HR.out.mono ?_
                rintro e w ⟨rfl, rfl⟩
                clear HR
                go_wp2_with fail
                refine (HPL2.out _).mono ?_
                rintro e w ⟨rfl, rfl⟩
                have hcv2 := hcv.out
                clear HPL2 hcv
                go_wp2_with fail
                go_ret2
                exact ⟨by rw [← hstr.out]; rfl, 0, rfl⟩
              · have hP2 : pc s p = hxs (tx (s.extract p (p + wd))) := by
                  rw [hP.out, if_neg a1, if_neg a2, if_neg a3, if_neg a4, if_neg a5, if_neg (by rw [hpl]; simp)]
                have n1 : ((r : Int) == 10) = false := by simp; omega
                have n2 : ((r : Int) == 9) = false := by simp; omega
                have n3 : ((r : Int) == 32) = false := by simp; omega
                have n4 : ((r : Int) == 34) = false := by simp; omega
                have n5 : ((r : Int) == 92) = false := by simp; omega
                have hT : Hid (∀ i, i < wd → hxs ((tx (s.extract p (p + wd))).take (i + 1)) = hxs ((tx (s.extract p (p + wd))).take i) ++ hx (bt s (p + i))) := fun i hi => by
                  have hl : (tx (s.extract p (p + wd))).length = wd := by rw [tx_len, ext_size s p (p + wd) hw2]; omega
                  have hg := tx_get (s.extract p (p + wd)) i
                  rw [ext_bt s p (p + wd) i hw2 (by omega)] at hg
                  rw [List.take_succ_eq_append_getElem (by omega), hxs_append]
                  rw [List.getD_eq_getElem?_getD, List.getElem?_eq_getElem (by omega)] at hg
                  have hg : (tx (s.extract p (p + wd)))[i] = ((bt s (p + i) : Nat) : Int) := hg
                  rw [hg]
                  simp [hxs]
                have hF : Hid (hxs (tx (s.extract p (p + wd))) = hxs ((tx (s.extract p (p + wd))).take wd)) := by
                  show _ = _
                  rw [List.take_of_length_le (by rw [tx_len, ext_size s p (p + wd) hw2]; omega)]
                have hL : Hid (∀ i, i ≤ wd → (hxs ((tx (s.extract p (p + wd))).take i)).length ≤ 4 * i) := fun i hi => by rw [hxs_len, List.length_take]; omega
                rw [hP2, hF.out]
                generalize tx (s.extract p (p + wd)) = Z at *
                clear hP hP2 H c0 hlt hF
                go_enter Tryd.func43, Tryd.ntmps43
                go_wp2_with fail
                refine HR.out.mono ?_
                rintro e w ⟨rfl, rfl⟩
                clear HR
                go_wp2_with fail
                refine (HPL2.out _).mono ?_
                rintro e w ⟨rfl, rfl⟩
                clear HPL2
                go_wp2_with fail
                go_loopw [8, 9] (fun t i wr => ∃ k : Nat, i = .int .i64 (k : Int) ∧ k ≤ wd ∧ t = .string (str (hxs (Z.take k))) ∧ ∃ n, wr = w.drewN n) (fun _ i _ => wd - (intOf i).toNat)
                case atStart => exact ⟨0, rfl, by omega, rfl, 0, rfl⟩
                case round =>
                  obtain ⟨k, rfl, hk, rfl, n, rfl⟩ := hrel
                  by_cases hlk : k < wd
                  · have ck := hC.out k (by omega)
                    have hbk := bt_lt s (p + k)
                    have hT2 := hid (hT.out k hlk)
                    have hLk := hL.out k (by omega)
                    have hsz : (str (hxs (Z.take k))).size = (hxs (Z.take k)).length := str_size _
                    have hsx : ∀ b, (str (hx b)).size = 4 := fun b => by rw [str_size]; rfl
                    have hsx := hsx (bt s (p + k))
                    have HX := hid (rhex_any (bt s (p + k)) hbk (w.drewN n))
                    generalize bt s (p + k) = b at *
                    clear hC hT hL
                    go_wp2_with fail
                    refine HX.out.mono ?_
                    rintro e w2 ⟨rfl, n2, rfl⟩
                    clear HX
                    go_wp2_with fail
                    go_roundw
                    case rel => exact ⟨k + 1, by go_num, by omega, by rw [hT2.out, ← str_append], n + n2, rfl⟩
                    case measure => simp [intOf]; omega
                  · have hkn : k = wd := by omega
                    subst hkn
                    go_wp2_with fail
                    go_ret2
                    exact ⟨rfl, n, rfl⟩
theorem tx_str (l : List Int) (h : ∀ y ∈ l, 0 ≤ y ∧ y ≤ 255) : tx (str l) = l := by
  have e : (str l).data.toList = l.map (fun n => UInt8.ofNat n.toNat) := by
    have h : ∀ (zs : List Int) (r : ByteArray), (zs.foldl (fun r n => r.push (UInt8.ofNat n.toNat)) r).data.toList = r.data.toList ++ zs.map (fun n => UInt8.ofNat n.toNat) := by
      intro zs
      induction zs with
      | nil => intro r; simp
      | cons z t ih => intro r; rw [List.foldl_cons, ih]; simp [ByteArray.push]
    have := h l ByteArray.empty
    simpa [str] using this
  unfold tx
  rw [e, List.map_map]
  conv => rhs; rw [← List.map_id l]
  refine List.map_congr_left fun y hy => ?_
  have := h y hy
  simp only [Function.comp, id]
  show ((UInt8.ofNat y.toNat).toNat : Int) = y
  rw [UInt8.toNat_ofNat']
  omega
set_option maxRecDepth 1000000 in
set_option maxHeartbeats 1500000 in
theorem rquote_any (s : ByteArray) (hs : s.size ≤ 4294967296) (w : World) :
    Calls Tryd.prog 23 #[.string s] w fun e w' => e = .returned (.string (str (qt s))) ∧ Below w.heap.size w w' := by
  obtain ⟨Q, hQ0⟩ : ∃ Q, Q = qt s := ⟨_, rfl⟩
  rw [← hQ0]
  have HQ := hid hQ0
  clear hQ0
  obtain ⟨W1, cap, run1, BY1, b1⟩ := conv_bytes s w
  have hgb : w.heap.size ≤ W1.heap.size := b1.size
  have b1h := hid b1
  clear b1
  generalize hbase0 : w.heap.size = base0 at run1 BY1
  have HB0 := hid hbase0
  clear hbase0
  have hcap := BY1.2.1
  have run2 := hid run1
  have BY := hid BY1
  have Ob : Own (W1.alloc (.cells #[.int .u8 34] 5)) W1.heap.size (.slice (some ⟨W1.heap.size, 0, none⟩) 1 1) [34] :=
    ⟨rfl, .inr ⟨W1.heap.size, 1, #[.int .u8 34], rfl, Nat.le_refl _, heap_alloc_new W1 _, Nat.le_refl _, by unfold maxLen; omega, rfl, rfl⟩⟩
  have OB := hid Ob
  have BB := hid (box_below W1 (.cells #[.int .u8 34] 5))
  have run3 := run2.out
  clear run1 BY1 Ob run2
  go_enter Tryd.func23, Tryd.ntmps23
  go_wp2_with fail
  clear run3
  generalize W1.alloc (.cells #[.int .u8 34] 5) = W2 at *
  go_loopw [4, 5] (fun b i wr => ∃ (pos f : Nat) (ys : List Int), i = .int .i64 (pos : Int) ∧ pos ≤ s.size ∧ s.size ≤ pos + f ∧ ys.length ≤ 4 * pos + 1 ∧ Hid (Q = ys ++ (qf s f pos ++ [34])) ∧ Hid (Own wr W1.heap.size b ys) ∧ Hid (Below W1.heap.size W1 wr)) (fun _ i _ => s.size - (intOf i).toNat)
  case atStart => exact ⟨0, s.size, [34], rfl, by omega, by omega, by simp, HQ.out, OB.out, BB.out⟩
  case round =>
    clear HQ OB BB
    obtain ⟨pos, f, ys, rfl, hps, hf, hyl, HQ, HO, HB⟩ := hrel
    by_cases hp : pos < s.size
    · have hw := dec_wd s pos hp
      have hpl := pc_len s pos hp
      have hpb := pc_bytes s pos
      have HQ2 : Hid (Q = (ys ++ pc s pos) ++ (qf s (f - 1) (pos + (Utf8.decode s pos).2) ++ [34])) := by
        show _ = _
        rw [HQ.out, qf_step s f pos hp hf]
        simp
      have HP := hid (rpiece_any s hs pos hp base0 cap wr (bytes_kept BY.out HB.out))
      generalize hd : Utf8.decode s pos = d at hw hpl HQ2 HP
      obtain ⟨r, wd⟩ := d
      have htx : tx (str (pc s pos)) = pc s pos := tx_str _ hpb
      have hsz : (str (pc s pos)).size = (pc s pos).length := str_size _
      generalize pc s pos = P at *
      have hw1 : 1 ≤ wd := hw.1
      have hw2 : pos + wd ≤ s.size := hw.2.1
      have hpl2 : P.length ≤ 4 * wd := hpl
      have HAP : Hid (∀ n, ∃ v' w', (Builtin.append_ #[60, 9] 60 #[u4, .string (str P)]).run Tryd.prog (wr.drewN n) = .ok v' w' ∧ Own w' W1.heap.size v' (ys ++ P) ∧ Below W1.heap.size W1 w') := fun n => by
        have bd : Below wr.heap.size wr (wr.drewN n) := below_drewN (Below.refl _ _) _
        obtain ⟨v4, w4, r4, O4, g4⟩ := app_text (wr.drewN n) W1.heap.size u4 ys (str P) (HO.out.later bd) (by rw [hsz]; omega) (Nat.le_trans HB.out.size bd.size)
        rw [htx] at O4
        exact ⟨v4, w4, r4, O4, (HB.out.trans (bd.mono HB.out.size)).trans (Gr.grown (HO.out.later bd) g4 (Nat.le_trans HB.out.size bd.size)).1⟩
      clear hd hw hpl HO HB HQ hpb htx
      go_wp2_with fail
      refine HP.out.mono ?_
      rintro e w3 ⟨rfl, n3, rfl⟩
      obtain ⟨v4, w4, r4, O4, B4⟩ := HAP.out n3
      have r4h := hid r4
      have O4h := hid O4
      have B4h := hid B4
      clear HP HAP r4 O4 B4
      go_wp2_with (at_builtin; refine wpList_append_run rfl _ _ 60 9 rfl _ _ _ rfl rfl r4h.out ?_)
      clear r4h
      go_wp2_with fail
      go_roundw
      case rel => exact ⟨pos + wd, f - 1, ys ++ P, by go_num, hw2, by omega, by rw [List.length_append]; omega, HQ2.out, O4h.out, B4h.out⟩
      case measure => simp [intOf]; omega
    · have hqe := qf_end s f pos hp
      have Bb := HB.out.alloc HB.out.size (.cells #[.int .u8 34] 5)
      have Ob := HO.out.later (box_below wr (.cells #[.int .u8 34] 5))
      obtain ⟨v5, w5, r5, O5, g5⟩ := app_built _ W1.heap.size u4 ys [34] wr.heap.size 1 Ob rfl (fun i hi => by
        have : i = 0 := by omega
        subst this
        exact one_cellb wr 34 5) (by omega) Bb.size
      have B5 := hid ((Bb.grown g5 Bb.size (fun k hk => (Ob.lt k hk).1)))
      have hcv := O5.conv
      have hQ5 : ys ++ [34] = Q := by rw [HQ.out, hqe]; simp
      rw [hQ5] at hcv
      have r5h := hid r5
      clear Bb Ob O5 g5 HO HB HQ hqe hQ5 r5
      go_wp2_with (at_builtin; refine wpList_append_run rfl _ _ 60 60 rfl _ _ _ rfl rfl r5h.out ?_)
      clear r5h
      go_wp2_with fail
      go_ret
      exact ⟨rfl, by have := b1h.out.trans (B5.out.mono b1h.out.size); rw [HB0.out] at this; exact this⟩
end Go.Proofs.YtcjlgjlediihoaaDoor.Rw

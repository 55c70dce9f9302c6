/- Between of the program: what two texts share, a byte raised, the shortest text between them. -/
import Derived.Test.YtbpgifpplnmjmabMr
import Derived.Test.YtbpgifpplnmjmabBm
import Derived.BigQuiet
import Derived.Deep.QuietTactic
namespace Go.Proofs.Ytbpgifpplnmjmab.Bt
open Go.ChangeShapes Go.WideShapes Go.ChangeAt Go.RowKit
open Go.Proofs.Ytbpgifpplnmjmab.Ik
open Go.Proofs.Ytbpgifpplnmjmab.By
open Go.Proofs.Ytbpgifpplnmjmab.Mr
set_option linter.unusedVariables false

theorem less_eq : ∀ (x y : Tx), Op.bytesLess x y = decide (x < y)
  | [], [] => by simp [Op.bytesLess]
  | _ :: _, [] => by simp [Op.bytesLess]
  | [], _ :: _ => by simp [Op.bytesLess]
  | a :: x, b :: y => by
    rw [Op.bytesLess, less_eq x y]
    rw [Bool.eq_iff_iff]
    simp [lt_cons]
theorem less_yes {a b : ByteArray} (h : a.data.toList < b.data.toList) : Op.bytesLess a.toList b.toList = true := by
  rw [less_eq, ByteArray.toList_eq, ByteArray.toList_eq]; exact decide_eq_true h
theorem less_no {a b : ByteArray} (h : ¬ a.data.toList < b.data.toList) : Op.bytesLess a.toList b.toList = false := by
  rw [less_eq, ByteArray.toList_eq, ByteArray.toList_eq]; exact decide_eq_false h

/-- Texts as values of a list of bytes. -/
def tb (t : Tx) : ByteArray := ⟨t.toArray⟩
theorem tb_data (t : Tx) : (tb t).data.toList = t := by simp [tb]
theorem tb_of (s : ByteArray) : tb s.data.toList = s := by obtain ⟨⟨l⟩⟩ := s; rfl

set_option maxHeartbeats 400000 in
theorem raised_any (s : ByteArray) (i : Nat) (w : World) (hi : i < s.size) (hs : s.size ≤ maxLen) :
    Calls Try.prog 21 #[.string s, .int .i64 i] w fun e w' => e = .returned (.string (tb (rs s.data.toList i))) ∧ Below w.heap.size w w' := by
  have hs' := hs
  unfold maxLen at hs
  obtain ⟨t, htd⟩ : ∃ t, t = s.extract 0 (i + 1) := ⟨_, rfl⟩
  have hts : t.size = i + 1 := by rw [htd]; simp; omega
  obtain ⟨W1, cap, run1, row1, b1, z1, c1⟩ := conv_bytes t w (by unfold maxLen; omega)
  have hl : (tx t).length = i + 1 := by rw [tx_len, hts]
  rw [hts] at run1
  have cell1 := row1.cell i (by omega)
  have fr1 := row1.frozen i (by have := row1.le; omega)
  have hle : i + 1 ≤ cap := by have := row1.le; omega
  have hx : (tx t).getD i 0 = (s.data.toList.getD i 0).toNat := by
    rw [htd]
    have e : i < s.data.size := hi
    simp only [tx, extract_data, List.getD_eq_getElem?_getD, List.getElem?_map, List.getElem?_take]
    simp [List.getElem?_eq_getElem (show i < s.data.toList.length by simpa using hi)]
  rw [hx] at cell1
  obtain ⟨x, hxx⟩ : ∃ x, x = s.data.toList.getD i 0 := ⟨_, rfl⟩
  rw [← hxx] at cell1
  have hx1 : x.toNat < 256 := x.toNat_lt
  obtain ⟨y, hy⟩ : ∃ y : Int, y = ((x.toNat : Int) + 1) % 256 := ⟨_, rfl⟩
  have row2 := row1.set i y (by omega)
  have conv2 := row2.conv
  rw [List.length_set, hl] at conv2
  have FIN : Hid (str ((tx t).set i y) = tb (rs s.data.toList i)) := by
    show _ = _
    apply byte_eq
    rw [str_data, tb_data]
    unfold rs
    have e1 : tx t = (s.data.toList.take i).map (fun b => (b.toNat : Int)) ++ [(x.toNat : Int)] := by
      rw [htd]
      unfold tx
      rw [extract_data, List.take_succ_eq_append_getElem (by simpa using hi), List.map_append]
      simp [hxx, List.getD_eq_getElem?_getD, List.getElem?_eq_getElem (show i < s.data.toList.length by simpa using hi)]
    rw [e1, List.set_append_right _ _ (by simp; omega)]
    have e2 : i - ((s.data.toList.take i).map (fun b => (b.toNat : Int))).length = 0 := by simp; omega
    rw [e2, List.set_cons_zero, List.map_append, List.map_map, ← hxx]
    congr 1
    · conv => rhs; rw [← List.map_id (s.data.toList.take i)]
      apply List.map_congr_left
      intro b _
      simp
    · simp only [List.map_cons, List.map_nil, List.cons.injEq, and_true]
      rw [hy]
      apply UInt8.toNat_inj.1
      rw [UInt8.toNat_ofNat', UInt8.toNat_add]
      simp
      omega
  have HB : Hid (Below w.heap.size w (W1.setCell ⟨w.heap.size, i, none⟩ (.int .u8 y))) := b1.setCell (Nat.le_refl _) _
  rw [htd] at run1
  rw [hy] at conv2 HB FIN
  clear row1 row2 b1 z1 c1 hl hts hx hxx hy
  have HT : Hid (t = s.extract 0 (i + 1)) := htd
  clear htd
  have hi1 : (i : Int) < (i : Int) + 1 := by omega
  go_enter Try.func21, Try.ntmps21
  go_wp2
  go_ret
  exact ⟨by rw [FIN.out]; rfl, HB.out⟩

theorem neq_u8 {x y : UInt8} (h : x ≠ y) : ((x.toNat : Int) != (y.toNat : Int)) = true := by
  rw [bne_iff_ne]
  intro e
  exact h (u8_eq x y (by omega))
theorem eq_u8 {x y : UInt8} (h : x = y) : ((x.toNat : Int) != (y.toNat : Int)) = false := by
  rw [h]; exact bne_self_eq_false _
theorem getD_at (s : ByteArray) (k : Nat) (h : k < s.size) : s.data.toList.getD k 0 = s[k] := by
  rw [List.getD_eq_getElem?_getD, List.getElem?_eq_getElem (by simpa using h)]
  rfl
theorem size_eq (s : ByteArray) : s.data.toList.length = s.size := by simp

set_option maxHeartbeats 1000000 in
theorem shared_any (a b : ByteArray) (w : World) (ha : a.size ≤ maxLen) (hb : b.size ≤ maxLen) :
    Calls Try.prog 20 #[.string a, .string b] w fun e w' => ∃ n : Nat, e = .returned (.int .i64 n) ∧ Sh a.data.toList b.data.toList n ∧ ∃ q, w' = w.drewN q := by
  unfold maxLen at ha hb
  by_cases hab : b.size < a.size
  ·
    go_enter Try.func20, Try.ntmps20
    go_wp2
    go_loopw [13] (fun i wr => ∃ k : Nat, i = .int .i64 k ∧ k ≤ b.size ∧ Hid (∀ j, j < k → a.data.toList.getD j 0 = b.data.toList.getD j 0) ∧ ∃ q, wr = w.drewN q) (fun i _ => b.size - (intOf i).toNat)
    case atStart => exact ⟨0, rfl, by omega, fun j hj => by omega, 0, rfl⟩
    case round =>
      obtain ⟨k, rfl, hk, hag, q, rfl⟩ := hrel
      by_cases hlt : k < b.size
      · have la : k < a.size := by omega
        have lb : k < b.size := by omega
        have ia : (k : Int) < (a.size : Int) := by omega
        have ib : (k : Int) < (b.size : Int) := by omega
        have k0 : (0 : Int) ≤ (k : Int) := by omega
        by_cases he : a[k] = b[k]
        · have hne := eq_u8 he
          have HG : Hid (∀ j, j < k + 1 → a.data.toList.getD j 0 = b.data.toList.getD j 0) := fun j hj => by
            rcases Nat.lt_or_ge j k with h' | h'
            · exact hag.out j h'
            · have : j = k := by omega
              subst this
              rw [getD_at a j la, getD_at b j lb]; exact he
          clear he hag
          go_wp2
          go_quiet (fail)
          go_wp2
          go_roundw
          case rel => exact ⟨k + 1, by go_num, by omega, HG, q + nq, rfl⟩
          case measure => simp [intOf]; omega
        · have hne := neq_u8 he
          have HS : Hid (Sh a.data.toList b.data.toList k) := ⟨by rw [size_eq]; omega, by rw [size_eq]; omega, hag.out, fun _ _ => by rw [getD_at a k la, getD_at b k lb]; exact he⟩
          clear he hag
          go_wp2
          go_quiet (fail)
          go_wp2
          go_ret
          exact ⟨k, rfl, HS.out, q + nq, by rw [World.drewN_drewN]⟩
      · have HS : Hid (Sh a.data.toList b.data.toList k) := ⟨by rw [size_eq]; omega, by rw [size_eq]; omega, hag.out, fun h1 h2 => by rw [size_eq] at h1 h2; omega⟩
        have HK : Hid (k = b.size) := by show _ = _; omega
        clear hag
        go_wp2
        go_ret
        exact ⟨k, by rw [HK.out]; rfl, HS.out, q, rfl⟩
  ·
    go_enter Try.func20, Try.ntmps20
    go_wp2
    go_loopw [13] (fun i wr => ∃ k : Nat, i = .int .i64 k ∧ k ≤ a.size ∧ Hid (∀ j, j < k → a.data.toList.getD j 0 = b.data.toList.getD j 0) ∧ ∃ q, wr = w.drewN q) (fun i _ => a.size - (intOf i).toNat)
    case atStart => exact ⟨0, rfl, by omega, fun j hj => by omega, 0, rfl⟩
    case round =>
      obtain ⟨k, rfl, hk, hag, q, rfl⟩ := hrel
      by_cases hlt : k < a.size
      · have la : k < a.size := by omega
        have lb : k < b.size := by omega
        have ia : (k : Int) < (a.size : Int) := by omega
        have ib : (k : Int) < (b.size : Int) := by omega
        have k0 : (0 : Int) ≤ (k : Int) := by omega
        by_cases he : a[k] = b[k]
        · have hne := eq_u8 he
          have HG : Hid (∀ j, j < k + 1 → a.data.toList.getD j 0 = b.data.toList.getD j 0) := fun j hj => by
            rcases Nat.lt_or_ge j k with h' | h'
            · exact hag.out j h'
            · have : j = k := by omega
              subst this
              rw [getD_at a j la, getD_at b j lb]; exact he
          clear he hag
          go_wp2
          go_quiet (fail)
          go_wp2
          go_roundw
          case rel => exact ⟨k + 1, by go_num, by omega, HG, q + nq, rfl⟩
          case measure => simp [intOf]; omega
        · have hne := neq_u8 he
          have HS : Hid (Sh a.data.toList b.data.toList k) := ⟨by rw [size_eq]; omega, by rw [size_eq]; omega, hag.out, fun _ _ => by rw [getD_at a k la, getD_at b k lb]; exact he⟩
          clear he hag
          go_wp2
          go_quiet (fail)
          go_wp2
          go_ret
          exact ⟨k, rfl, HS.out, q + nq, by rw [World.drewN_drewN]⟩
      · have HS : Hid (Sh a.data.toList b.data.toList k) := ⟨by rw [size_eq]; omega, by rw [size_eq]; omega, hag.out, fun h1 h2 => by rw [size_eq] at h1 h2; omega⟩
        have HK : Hid (k = a.size) := by show _ = _; omega
        clear hag
        go_wp2
        go_ret
        exact ⟨k, by rw [HK.out]; rfl, HS.out, q, rfl⟩
theorem tb_size (t : Tx) : (tb t).size = t.length := by rw [← size_eq, tb_data]
theorem drewN_below (w : World) (q : Nat) : Below w.heap.size w (w.drewN q) := by
  induction q with
  | zero => exact Below.refl _ _
  | succ q ih => rw [show w.drewN (q + 1) = (w.drewN q).drew from rfl]; exact ih.drew

set_option maxHeartbeats 1000000 in
theorem between_any (a b : ByteArray) (w : World) (ha : a.size ≤ maxLen) (hb : b.size ≤ maxLen) :
    Calls Try.prog 9 #[.string a, .string b] w fun e w' => e = .returned (.string (tb (between a.data.toList b.data.toList))) ∧ Below w.heap.size w w' := by
  by_cases hab : a.data.toList < b.data.toList
  · have HA : Hid (a.data.toList < b.data.toList) := hab
    have l1 := less_yes hab
    have ha' := ha
    unfold maxLen at ha'
    clear hab
    have MA : Hid (a.size ≤ maxLen) := ha
    have MB : Hid (b.size ≤ maxLen) := hb
    clear ha hb
    go_enter Try.func9, Try.ntmps9
    go_wp2_with fail
    refine (shared_any a b _ MA.out MB.out).mono ?_
    rintro e w1 ⟨n, rfl, hsh, q, rfl⟩
    have hn : n ≤ a.size := by have := hsh.1; rw [size_eq] at this; exact this
    have HS : Hid (Sh a.data.toList b.data.toList n) := hsh
    clear hsh
    go_wp2_with fail
    go_loopw [5] (fun i wr => ∃ k : Nat, i = .int .i64 k ∧ k ≤ a.size ∧ Hid (Past a.data.toList b.data.toList n k) ∧ Hid (Below w.heap.size w wr)) (fun i _ => a.size - (intOf i).toNat)
    case atStart => exact ⟨n, rfl, hn, fun j h1 h2 => by omega, drewN_below w q⟩
    case round =>
      obtain ⟨k, rfl, hk, hp, hbel⟩ := hrel
      by_cases hlt : (k : Int) < (a.size : Int) - 1
      · have la : k < a.size := by omega
        by_cases h255 : a[k] = 255
        · have t1 : ((a[k].toNat : Int) == 255) = true := by rw [h255]; rfl
          have HP : Hid (Past a.data.toList b.data.toList n (k + 1)) := fun j h1 h2 h3 => by
            rcases Nat.lt_or_ge j k with h' | h'
            · exact hp.out j h1 h' h3
            · have : j = k := by omega
              subst this
              rw [getD_at a j la] at h3
              exact absurd h255 h3
          clear h255 hp
          go_wp2
          go_roundw
          case rel => exact ⟨k + 1, by go_num, by omega, HP, hbel⟩
          case measure => simp [intOf]; omega
        · have t1 : ((a[k].toNat : Int) == 255) = false := by
            rw [beq_eq_false_iff_ne]
            intro e
            exact h255 (u8_eq _ _ (by show a[k].toNat = 255; omega))
          have H255 : Hid (a.data.toList.getD k 0 ≠ 255) := by show _ ≠ _; rw [getD_at a k la]; exact h255
          clear h255
          by_cases hr : rs a.data.toList k < b.data.toList
          · have l2 : Op.bytesLess (tb (rs a.data.toList k)).toList b.toList = true := less_yes (by rw [tb_data]; exact hr)
            have FIN : Hid (rs a.data.toList k = between a.data.toList b.data.toList) := between_rs _ _ n k HA.out HS.out (by rw [size_eq]; omega) hp.out H255.out hr
            clear hr hp
            go_wp2_with fail
            refine (raised_any a k _ la MA.out).mono ?_
            rintro e w2 ⟨rfl, b2⟩
            have HB2 : Hid (Below w.heap.size w w2) := hbel.out.trans (b2.mono hbel.out.size)
            clear b2 hbel
            go_wp2
            go_ret
            exact ⟨by rw [← FIN.out]; rfl, HB2.out⟩
          · have l2 : Op.bytesLess (tb (rs a.data.toList k)).toList b.toList = false := less_no (by rw [tb_data]; exact hr)
            have HP : Hid (Past a.data.toList b.data.toList n (k + 1)) := fun j h1 h2 h3 => by
              rcases Nat.lt_or_ge j k with h' | h'
              · exact hp.out j h1 h' h3
              · have : j = k := by omega
                subst this
                exact hr
            clear hr hp
            go_wp2_with fail
            refine (raised_any a k _ la MA.out).mono ?_
            rintro e w2 ⟨rfl, b2⟩
            have HB2 : Hid (Below w.heap.size w w2) := hbel.out.trans (b2.mono hbel.out.size)
            clear b2 hbel
            go_wp2
            go_roundw
            case rel => exact ⟨k + 1, by go_num, by omega, HP, HB2⟩
            case measure => simp [intOf]; omega
      · have FIN : Hid (a = tb (between a.data.toList b.data.toList)) := by
          show _ = _
          rw [← between_self _ _ n k HA.out HS.out (by rw [size_eq]; omega) hp.out, tb_of]
        go_wp2
        go_ret
        exact ⟨by rw [← FIN.out]; rfl, hbel.out⟩
  · have l1 := less_no hab
    have FIN : Hid (a = tb (between a.data.toList b.data.toList)) := by
      show _ = _
      rw [between_not _ _ hab, tb_of]
    clear hab
    go_enter Try.func9, Try.ntmps9
    go_wp2
    go_ret
    exact ⟨by rw [← FIN.out]; rfl, Below.refl _ _⟩
end Go.Proofs.Ytbpgifpplnmjmab.Bt

/- risingNumbers and Valid by their contracts. -/
import Derived.Test.YtcpnmpepcpcahaaGreatDoorVr
namespace Go.Proofs.YtcpnmpepcpcahaaGreatDoor.Vs
open Go.ChangeShapes Go.WideShapes Go.ChangeAt Go.RowKit
open Go.Sort (Holds putRow)
open Go.Proofs.YtcpnmpepcpcahaaGreatDoor.Gr
open Go.Proofs.YtcpnmpepcpcahaaGreatDoor.Ev
open Go.Proofs.YtcpnmpepcpcahaaGreatDoor.Oe
open Go.Proofs.YtcpnmpepcpcahaaGreatDoor.Lv
open Go.Proofs.YtcpnmpepcpcahaaGreatDoor.Vp
open Go.Proofs.YtcpnmpepcpcahaaGreatDoor.Vq
open Go.Proofs.YtcpnmpepcpcahaaGreatDoor.Vr
set_option linter.unusedVariables false
set_option linter.unusedSimpArgs false

theorem cl_int : ∀ xs : List Int, eInt.cl xs = xs.map (Value.int .i64)
  | [] => rfl
  | x :: r => by show _ :: eInt.cl r = _; rw [cl_int r]; rfl
/-- Behind the sort. -/
theorem sorted_own {w W : World} {g c n : Nat} {os : Array Obj} {xs : List Int} (h : Acc eInt w W (.slice (some ⟨g, 0, none⟩) xs.length c) xs) :
    Holds (Value.int .i64) W g 0 xs.toArray ∧ g < W.heap.size ∧ ∀ n os, Acc eInt w (Sort.grow (putRow (Value.int .i64) (Sort.ahead W n) g 0 (srt xs).toArray) os) (.slice (some ⟨g, 0, none⟩) xs.length c) (srt xs) := by
  have ho := h.o
  unfold El.Own at ho
  rw [cl_int] at ho
  rcases ho.2 with ⟨hnil, _⟩ | ⟨gl, cap, cur, hsv, hbase, hb, h1, h2, h3, h4⟩
  · cases hnil
  · cases hsv
    refine ⟨holds_of_blockI hb (by simpa [show eInt.k = 1 from rfl] using h4), (Array.getElem?_eq_some_iff.1 hb).1, fun n os => ⟨?_, below_grown h.lo h.sz (grownBy_sortedI _) (fun j hj => by cases hj; exact hbase)⟩⟩
    have := ownsRow_sortedI (n := n) (os := os) (ts := srt xs) (ss := xs) (srt_len xs) hbase hb h1 h2 (by simpa [show eInt.k = 1 from rfl] using h3)
    unfold El.Own
    rw [srt_len, cl_int]
    exact this
set_option maxHeartbeats 2000000 in
theorem rising_any (a : Option Addr) (len cap : Nat) (L : List (List Fi)) (w : World) (H : Lvs w a len cap L) (hw : wL L ≤ 1048576) :
    Calls Tryz.prog 58 #[.slice a len cap] w fun e w' => ∃ g c, e = .returned (.slice (some ⟨g, 0, none⟩) (nums L).length c) ∧ Acc eInt w w' (.slice (some ⟨g, 0, none⟩) (nums L).length c) (srt (nums L)) := by
  obtain ⟨i0, hi, hz0, hz1, hz2⟩ := info_parts eInt.info
  have hll := wL_len L
  have hlen := H.len_eq
  have hcap := H.cap_le
  have hn8 : len ≤ 1048576 := by omega
  have hnl := nums_len L
  have HL : Hid (∀ W, Below w.heap.size w W → Lvs W a len cap L) := fun W b => H.later b
  have HC := hid (count_any a len cap L w H hw)
  have h8 : (nums L).length ≤ 1048576 := by omega
  replace hlen := hid hlen
  replace hw := hid hw
  clear H hll hnl
  obtain ⟨z0, hz⟩ : ∃ z, z = (nums L).length := ⟨_, rfl⟩
  rw [← hz] at HC h8 ⊢
  replace hz := hid hz
  go_enter Tryz.func58, Tryz.ntmps58
  go_wp2_with (first
    | (go_at_call 77; refine HC.out.mono ?_; rintro e wa ⟨rfl, hww⟩; subst hww)
    | (at_make; refine wpList_make_own _ rfl _ _ 29 rfl wa.heap.size 3 i0 (.int .i64 0) 1 Tryz.underlying29 hi hz0 hz1 _ _ _ z0 rfl rfl rfl (by rw [hz2]; show 8 * z0 ≤ _; omega) (by unfold maxLen; omega) (Nat.le_refl _) ?_; intro w1 hrow1 hg1))
  have A1 : Acc eInt wa w1 (.slice (some ⟨wa.heap.size, 0, none⟩) 0 z0) [] := by
    exact ⟨hrow1, ⟨hg1.os, hg1.tape, hg1.output, hg1.size, fun j hj => hg1.block j hj (by simp)⟩⟩
  replace A1 := hid A1
  clear hrow1 hg1 HC
  go_loopw [3, 13] (fun v ii wr => ∃ i g c : Nat, ii = .int .i64 i ∧ i ≤ len ∧ v = .slice (some ⟨g, 0, none⟩) (nums (L.take i)).length c ∧ Acc eInt wa wr (.slice (some ⟨g, 0, none⟩) (nums (L.take i)).length c) (nums (L.take i))) (fun _ ii _ => len - (intOf ii).toNat)
  case atStart => exact ⟨0, _, _, rfl, by omega, rfl, A1.out⟩
  case round =>
    clear A1
    obtain ⟨i, g, c, rfl, hi, rfl, A⟩ := hrel
    by_cases hlt : i < len
    · obtain ⟨lb, lof, la, ln, lc, rfl, cl0, FS, hln⟩ := (HL.out wa (Below.refl _ _)).at i hlt
      have cl := (A.lo.cell (block_lt_of_cell cl0)).trans cl0
      clear cl0
      have ik0 : (i : Int) < (len : Int) := by omega
      have ok0 : (0 : Int) ≤ (i : Int) := by omega
      have hs := nums_snoc (L := L) (i := i) (by rw [hlen.out]; exact hlt)
      have hs8 := nums_take (L := L) (i + 1)
      rw [hs, List.length_append, List.length_map, ← hln] at hs8
      have hs9 : (nums (L.take i)).length + ln ≤ 1048576 := by have := hw.out; omega
      obtain ⟨fs, hfs⟩ : ∃ fs, fs = L.getD i [] := ⟨_, rfl⟩
      rw [← hfs] at FS hln hs
      have hlc := FS.c
      have HF : Hid (∀ W, Below wa.heap.size wa W → eFi.Sl W la ln lc fs) := fun W b => FS.later b
      obtain ⟨Y, hY⟩ : ∃ Y, Y = nums (L.take i) := ⟨_, rfl⟩
      rw [← hY] at A hs hs9
      rw [← hY]
      replace A := hid A
      replace hs := hid hs
      replace hfs := hid hfs
      replace hln := hid hln
      replace hY := hid hY
      obtain ⟨y0, hy0⟩ : ∃ y, y = Y.length := ⟨_, rfl⟩
      rw [← hy0] at hs9 A
      rw [← hy0]
      replace hy0 := hid hy0
      clear FS hs8 hi
      go_wp2_with fail
      go_loopw [3, 19] (fun v ii wr => ∃ j g c : Nat, ii = .int .i64 j ∧ j ≤ ln ∧ v = .slice (some ⟨g, 0, none⟩) (y0 + j) c ∧ Acc eInt wa wr (.slice (some ⟨g, 0, none⟩) (y0 + j) c) (Y ++ (fs.take j).map Fi.n)) (fun _ ii _ => ln - (intOf ii).toNat)
      case atStart => exact ⟨0, _, _, rfl, by omega, rfl, by simpa using A.out⟩
      case round =>
        clear A
        obtain ⟨j, g, c, rfl, hj, rfl, A⟩ := hrel
        by_cases hjl : j < ln
        · obtain ⟨fb, fo, rfl, hat⟩ := get1 (HF.out wr A.lo) j hjl
          have hA := fi_at (hat j hjl)
          have htk : Hid (Y ++ (fs.take (j + 1)).map Fi.n = Y ++ (fs.take j).map Fi.n ++ [(fs.getD j zf).n]) := by
            show _ = _
            rw [El.take_snoc (E := eFi) (by rw [← hln.out]; exact hjl), List.map_append, List.append_assoc]
            rfl
          rw [show eFi.z = zf from rfl] at hA
          clear hat
          generalize fs.getD j zf = f at *
          obtain ⟨n, z, s, t, lo, hi'⟩ := f
          obtain ⟨e1, e2, e3, e4, e5, e6⟩ := hA
          simp only [show eFi.k = 6 from rfl] at e1 e2 e3 e4 e5 e6
          have jk0 : (j : Int) < (ln : Int) := by omega
          have jo0 : (0 : Int) ≤ (j : Int) := by omega
          have hyl : (Y ++ (fs.take j).map Fi.n).length = y0 + j := by
            rw [List.length_append, List.length_map, List.length_take, ← hy0.out, Nat.min_eq_left (by rw [← hln.out]; omega)]
          have b1 := box_below wr (.cells #[.int .i64 n, .int .i64 z, .string s, .string t, .int .u64 lo, .int .u64 hi'] 67)
          obtain ⟨v', W', r1, A'⟩ := (A.later b1).app1 n #[.int .i64 n] rfl (by rw [hyl]; show (_ + 1) * 8 ≤ _; omega) (by rw [hyl]; omega)
          rw [size_alloc] at r1
          rw [← htk.out] at A'
          obtain ⟨g', c', hv'⟩ := A'.nn (by rw [htk.out]; simp)
          have hyl' : (Y ++ (fs.take (j + 1)).map Fi.n).length = y0 + (j + 1) := by rw [htk.out, List.length_append, hyl]; rfl
          rw [hyl'] at hv'
          subst hv'
          change (Builtin.append_ #[29, 29] 29 #[_, _]).run Tryz.prog ((wr.alloc _).alloc (.cells #[.int .i64 n] 3)) = _ at r1
          replace r1 := hid r1
          replace A' := hid A'
          clear A hyl hyl' htk b1
          go_wp2_with (first | (at_builtin; refine wpList_append_run rfl (.tmp 23) (.tmp 26) 29 29 rfl (.slice (some ⟨g, 0, none⟩) (y0 + j) c) (.slice (some ⟨wr.heap.size + 1, 0, none⟩) 1 1) (.slice (some ⟨g', 0, none⟩) (y0 + (j + 1)) c') rfl rfl r1.out ?_))
          go_roundw
          case rel => exact ⟨j + 1, g', c', by go_num, by omega, rfl, A'.out⟩
          case measure => simp [intOf]; omega
        · have hje : j = ln := by omega
          subst hje
          have hal : Hid (Y ++ (fs.take j).map Fi.n = nums (L.take (i + 1))) := by
            show _ = _
            rw [hs.out, hln.out, List.take_length]
          have hyl : y0 + j = (nums (L.take (i + 1))).length := by
            rw [← hal.out, hln.out, List.take_length, List.length_append, List.length_map, ← hy0.out]
          rw [hal.out, hyl] at A
          rw [hyl]
          replace A := hid A
          clear hyl
          go_wp2_with fail
          go_roundw
          case rel => exact ⟨i + 1, g, c, by go_num, by omega, rfl, A.out⟩
          case measure => simp [intOf]; omega
    · have hie : i = len := by omega
      subst hie
      have hal : L.take i = L := by rw [← hlen.out, List.take_length]
      rw [hal] at A
      rw [hal]
      obtain ⟨hH, hglt, hfin⟩ := sorted_own (n := 0) (os := #[]) A
      have hc := hid (Sh.sort_ints g 0 c (nums L) wr hH hglt (by rw [← hz.out]; omega))
      replace hfin := hid hfin
      rw [← hz.out] at hc hfin
      rw [← hz.out]
      clear hH hglt A hal
      go_wp2_with (first | (go_at_call 52; refine hc.out.mono ?_; rintro e w9 ⟨rfl, n9, os9, rfl⟩))
      go_ret
      exact ⟨g, c, rfl, hfin.out n9 os9⟩
end Go.Proofs.YtcpnmpepcpcahaaGreatDoor.Vs

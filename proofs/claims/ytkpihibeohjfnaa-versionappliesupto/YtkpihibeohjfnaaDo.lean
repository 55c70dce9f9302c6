/- The document's numbers by its contract. -/
import Derived.Test.YtkpihibeohjfnaaDn
namespace Go.Proofs.Ytkpihibeohjfnaa.Do
open Go.ChangeShapes Go.WideShapes Go.ChangeAt Go.RowKit
open Go.Proofs.Ytkpihibeohjfnaa.Gr
open Go.Proofs.Ytkpihibeohjfnaa.Ev
open Go.Proofs.Ytkpihibeohjfnaa.Oe
open Go.Proofs.Ytkpihibeohjfnaa.Lv
open Go.Proofs.Ytkpihibeohjfnaa.Vp
open Go.Proofs.Ytkpihibeohjfnaa.Vq
open Go.Proofs.Ytkpihibeohjfnaa.Vr
open Go.Proofs.Ytkpihibeohjfnaa.Vt
open Go.Proofs.Ytkpihibeohjfnaa.Dn
set_option linter.unusedVariables false
set_option linter.unusedSimpArgs false

theorem Acc.cap {α : Type} {E : El α} {w W : World} {a : Option Addr} {n c : Nat} {xs : List α} (h : Acc E w W (.slice a n c) xs) : n = xs.length ∧ xs.length ≤ c := by
  rcases h.o.2 with ⟨h1, h2⟩ | ⟨g, c', cur, h1, _, _, h3, _⟩
  · cases h1; exact ⟨h2.symm, by omega⟩
  · cases h1; exact ⟨rfl, h3⟩
set_option maxHeartbeats 2000000 in
theorem rnums_any (a : Option Addr) (len cap : Nat) (L : List (List Fi)) (w : World) (H : Lvs w a len cap L) (hw : wL L ≤ 1048576) :
    Calls Try.prog 41 #[.slice a len cap] w fun e w' => ∃ v, e = .returned v ∧ Acc eInt w w' v (srt (nums L)) := by
  have hll := wL_len L
  have hlen := H.len_eq
  have hcap := H.cap_le
  have hn8 : len ≤ 1048576 := by omega
  have hnl := nums_len L
  have HL : Hid (∀ W, Below w.heap.size w W → Lvs W a len cap L) := fun W b => H.later b
  have h8 : (nums L).length ≤ 1048576 := by omega
  replace hlen := hid hlen
  replace hw := hid hw
  clear H hll hnl
  go_enter Try.func41, Try.ntmps41
  go_wp2_with fail
  go_loopw [3, 4, 5] (fun v ii jj wr => ∃ (i : Nat) (ao : Option Addr) (n c : Nat), ii = .int .i64 i ∧ i ≤ len ∧ v = .slice ao n c ∧ Acc eInt w wr (.slice ao n c) (nums (L.take i))) (fun _ ii _ _ => len - (intOf ii).toNat)
  case atStart => exact ⟨0, none, 0, 0, rfl, by omega, rfl, Acc.nil _ _⟩
  case round =>
    obtain ⟨i, ao, n, c, rfl, hi, rfl, A⟩ := hrel
    obtain ⟨hn, hcn⟩ := Acc.cap A
    by_cases hlt : i < len
    · obtain ⟨lb, lof, la, ln, lc, rfl, cl0, FS, hln⟩ := (HL.out w (Below.refl _ _)).at i hlt
      have ik0 : (i : Int) < (len : Int) := by omega
      have ok0 : (0 : Int) ≤ (i : Int) := by omega
      have hs := nums_snoc (L := L) (i := i) (by rw [hlen.out]; exact hlt)
      have hs8 := nums_take (L := L) (i + 1)
      rw [hs, List.length_append, List.length_map, ← hln] at hs8
      have hs9 : n + ln ≤ 1048576 := by have := hw.out; omega
      obtain ⟨fs, hfs⟩ : ∃ fs, fs = L.getD i [] := ⟨_, rfl⟩
      rw [← hfs] at FS hln hs
      have hlc := FS.c
      have HF : Hid (∀ W, Below w.heap.size w W → eFi.Sl W la ln lc fs) := fun W b => FS.later b
      obtain ⟨Y, hY⟩ : ∃ Y, Y = nums (L.take i) := ⟨_, rfl⟩
      rw [← hY] at A hs hn
      replace A := hid A
      replace hs := hid hs
      replace hfs := hid hfs
      replace hln := hid hln
      replace hY := hid hY
      replace hn := hid hn
      have hcl : Hid (∀ W, Below w.heap.size w W → W.cell? _ = _) := fun W b => (b.cell (block_lt_of_cell cl0)).trans cl0
      clear FS hs8 hi hcn cl0
      go_wp2_with fail
      go_loopw [3, 5] (fun v ii wr => ∃ (j : Nat) (ao : Option Addr) (c : Nat), ii = .int .i64 j ∧ j ≤ ln ∧ v = .slice ao (n + j) c ∧ Acc eInt w wr (.slice ao (n + j) c) (Y ++ (fs.take j).map Fi.n)) (fun _ ii _ => ln - (intOf ii).toNat)
      case atStart => exact ⟨0, _, _, rfl, by omega, rfl, by simpa using A.out⟩
      case round =>
        clear A
        obtain ⟨j, ao, c, rfl, hj, rfl, A⟩ := hrel
        have cl := hcl.out wr A.lo
        by_cases hjl : j < ln
        · obtain ⟨fb, fo, rfl, hat⟩ := get1 (HF.out wr A.lo) j hjl
          have hA := fi_at (hat j hjl)
          have htk : Hid (Y ++ (fs.take (j + 1)).map Fi.n = Y ++ (fs.take j).map Fi.n ++ [(fs.getD j zf).n]) := by
            show _ = _
            rw [El.take_snoc (E := eFi) (by rw [← hln.out]; exact hjl), List.map_append, List.append_assoc]
            rfl
          rw [show eFi.z = zf from rfl] at hA
          clear hat
          generalize fs.getD j zf = f at *
          obtain ⟨fn, z, s, t, lo, hi'⟩ := f
          obtain ⟨e1, e2, e3, e4, e5, e6⟩ := hA
          simp only [show eFi.k = 6 from rfl] at e1 e2 e3 e4 e5 e6
          have jk0 : (j : Int) < (ln : Int) := by omega
          have jo0 : (0 : Int) ≤ (j : Int) := by omega
          have hyl : (Y ++ (fs.take j).map Fi.n).length = n + j := by
            rw [List.length_append, List.length_map, List.length_take, ← hn.out, Nat.min_eq_left (by rw [← hln.out]; omega)]
          obtain ⟨v', W', r1, A'⟩ := A.app1 fn #[.int .i64 fn] rfl (by rw [hyl]; show (_ + 1) * 8 ≤ _; omega) (by rw [hyl]; omega)
          rw [← htk.out] at A'
          obtain ⟨g', c', hv'⟩ := A'.nn (by rw [htk.out]; simp)
          have hyl' : (Y ++ (fs.take (j + 1)).map Fi.n).length = n + (j + 1) := by rw [htk.out, List.length_append, hyl]; rfl
          rw [hyl'] at hv'
          subst hv'
          change (Builtin.append_ #[49, 49] 49 #[_, _]).run Try.prog (wr.alloc (.cells #[.int .i64 fn] 3)) = _ at r1
          replace r1 := hid r1
          replace A' := hid A'
          clear A hyl hyl' htk
          go_wp2_with (first | (at_builtin; refine wpList_append_run rfl (.tmp 21) (.tmp 30) 49 49 rfl (.slice ao (n + j) c) (.slice (some ⟨wr.heap.size, 0, none⟩) 1 1) (.slice (some ⟨g', 0, none⟩) (n + (j + 1)) c') rfl rfl r1.out ?_))
          go_roundw
          case rel => exact ⟨j + 1, _, c', by go_num, by omega, rfl, A'.out⟩
          case measure => simp [intOf]; omega
        · have hje : j = ln := by omega
          subst hje
          have hal : Hid (Y ++ (fs.take j).map Fi.n = nums (L.take (i + 1))) := by
            show _ = _
            rw [hs.out, hln.out, List.take_length]
          rw [hal.out] at A
          replace A := hid A
          go_wp2_with fail
          go_roundw
          case rel => exact ⟨i + 1, _, _, _, by go_num, by omega, rfl, A.out⟩
          case measure => simp [intOf]; omega
    · have hie : i = len := by omega
      subst hie
      have hal : L.take i = L := by rw [← hlen.out, List.take_length]
      rw [hal] at A hn
      have hc := hid (sorted_any ao n c (nums L) wr (Acc.sl A (fun _ _ => trivial)).2 (by omega))
      replace A := hid A
      have hn' : n ≤ 1048576 := by omega
      clear hal hn hcn
      go_wp2_with (first | (go_at_call 59; refine hc.out.mono ?_; rintro e w9 ⟨v9, rfl, A9⟩; replace A9 := hid A9))
      go_ret
      have h := A9.out
      have hb := A.out.lo
      exact ⟨_, rfl, own_base h.o (fun j hj => Nat.le_trans hb.size (own_lt h.o j hj).1), Below.up hb h.lo⟩
end Go.Proofs.Ytkpihibeohjfnaa.Do

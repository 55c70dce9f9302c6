/- Same of both. -/
import Derived.Test.YtkpihibeohjfnaaFq
import Derived.BigQuiet
namespace Go.Proofs.Ytkpihibeohjfnaa.Sm
open Go.ChangeShapes Go.WideShapes Go.ChangeAt Go.RowKit
open Go.Proofs.Ytkpihibeohjfnaa.Gr
open Go.Proofs.Ytkpihibeohjfnaa.Ev
open Go.Proofs.Ytkpihibeohjfnaa.Oe
open Go.Proofs.Ytkpihibeohjfnaa.Lv
open Go.Proofs.Ytkpihibeohjfnaa.Vp
open Go.Proofs.Ytkpihibeohjfnaa.Vu
open Go.Proofs.Ytkpihibeohjfnaa.Fq
set_option linter.unusedVariables false
set_option linter.unusedSimpArgs false

theorem ext_getD {α : Type} {d : α} {xs ys : List α} (h : xs.length = ys.length) (he : ∀ i, i < xs.length → xs.getD i d = ys.getD i d) : xs = ys := by
  apply List.ext_getElem h
  intro i h1 h2
  have := he i h1
  rw [List.getD_eq_getElem?_getD, List.getD_eq_getElem?_getD, List.getElem?_eq_getElem h1, List.getElem?_eq_getElem h2] at this
  exact this
set_option maxRecDepth 100000 in
set_option maxHeartbeats 2000000 in
theorem same_any (a b : Option Addr) (len cap len2 cap2 : Nat) (L M : List (List Fi)) (w : World) (HA : Lvs w a len cap L) (HB : Lvs w b len2 cap2 M) (hw : wL L ≤ 1048576) (hw2 : wL M ≤ 1048576) :
    Calls Try.prog 35 #[.slice a len cap, .slice b len2 cap2] w fun e w' => e = .returned (.bool (decide (L = M))) ∧ Below w.heap.size w w' := by
  obtain ⟨B, hB⟩ : ∃ B, B = decide (L = M) := ⟨_, rfl⟩
  rw [← hB]
  have hneL : Hid (L ≠ M → false = B) := fun h => by rw [hB]; exact (decide_eq_false h).symm
  have heqL : Hid (L = M → true = B) := fun h => by rw [hB]; exact (decide_eq_true h).symm
  have hll := wL_len L
  have hlm := wL_len M
  have hlen := HA.len_eq
  have hlen2 := HB.len_eq
  have hcap := HA.cap_le
  have hcap2 := HB.cap_le
  have hn8 : len ≤ 1048576 := by omega
  have hm8 : len2 ≤ 1048576 := by omega
  replace hB := hid hB
  by_cases hlt2 : len = len2
  · subst hlt2
    have hnb : ((len : Int) != (len : Int)) = false := bne_self_eq_false _
    have HL : Hid (∀ W', Below w.heap.size w W' → Lvs W' a len cap L) := fun W' b => HA.later b
    have HM : Hid (∀ W', Below w.heap.size w W' → Lvs W' b len cap2 M) := fun W' b => HB.later b
    replace hlen := hid hlen
    replace hlen2 := hid hlen2
    replace hw := hid hw
    replace hw2 := hid hw2
    clear HA HB hll hlm
    go_enter Try.func35, Try.ntmps35
    go_wp2_with fail
    go_loopw [16] (fun ii wr => ∃ i : Nat, ii = .int .i64 i ∧ i ≤ len ∧ Hid (∀ m, m < i → L.getD m [] = M.getD m []) ∧ Hid (Below w.heap.size w wr)) (fun ii _ => len - (intOf ii).toNat)
    case atStart => exact ⟨0, rfl, by omega, fun m hm => by omega, Below.refl _ _⟩
    case round =>
      obtain ⟨i, rfl, hi, hall, bw⟩ := hrel
      by_cases hlt : i < len
      · obtain ⟨lb, lof, la, ln, lc, hla, cl0, FS, hln⟩ := (HL.out w (Below.refl _ _)).at i hlt
        obtain ⟨mb, mof, ma, mn, mc, hma, cm0, GS, hmn⟩ := (HM.out w (Below.refl _ _)).at i hlt
        subst hla hma
        have cl := cell_later cl0 bw.out
        have cm1 := cell_later cm0 bw.out
        have ik0 : (i : Int) < (len : Int) := by omega
        have ok0 : (0 : Int) ≤ (i : Int) := by omega
        have hsum := wL_at (L := L) (i := i) (by rw [hlen.out]; exact hlt)
        have hsum2 := wL_at (L := M) (i := i) (by rw [hlen2.out]; exact hlt)
        have hln8 : ln ≤ 1048576 := by have := hw.out; omega
        have hmn8 : mn ≤ 1048576 := by have := hw2.out; omega
        have hneF : Hid (L.getD i [] ≠ M.getD i [] → false = B) := fun h => hneL.out (fun e => h (by rw [e]))
        obtain ⟨fs, hfs⟩ : ∃ fs, fs = L.getD i [] := ⟨_, rfl⟩
        obtain ⟨gs, hgs⟩ : ∃ gs, gs = M.getD i [] := ⟨_, rfl⟩
        rw [← hfs] at FS hln
        rw [← hgs] at GS hmn
        rw [← hfs, ← hgs] at hneF
        have HF : Hid (∀ W', Below w.heap.size w W' → eFi.Sl W' la ln lc fs) := fun W' b => FS.later b
        have HG : Hid (∀ W', Below w.heap.size w W' → eFi.Sl W' ma mn mc gs) := fun W' b => GS.later b
        have hlcf := FS.c
        have hlcg := GS.c
        replace hfs := hid hfs
        replace hgs := hid hgs
        clear FS GS hsum hsum2
        by_cases hlm : ln = mn
        · subst hlm
          have hnb2 : ((ln : Int) != (ln : Int)) = false := bne_self_eq_false _
          replace hln := hid hln
          replace hmn := hid hmn
          go_wp2_with fail
          go_loopw [31] (fun jj wr => ∃ j : Nat, jj = .int .i64 j ∧ j ≤ ln ∧ Hid (∀ m, m < j → fs.getD m zf = gs.getD m zf) ∧ Hid (Below w.heap.size w wr)) (fun jj _ => ln - (intOf jj).toNat)
          case atStart => exact ⟨0, rfl, by omega, fun m hm => by omega, bw⟩
          case round =>
            clear bw
            obtain ⟨j, rfl, hj, hjs, bj⟩ := hrel
            by_cases hjl : j < ln
            · have clj := cell_later cl0 bj.out
              have cm := cell_later cm0 bj.out
              obtain ⟨fb, fo, hfa, hat⟩ := get1 (HF.out wr bj.out) j hjl
              obtain ⟨gb, go, hga, hat2⟩ := get1 (HG.out wr bj.out) j hjl
              have hA := fi_at (hat j hjl)
              have hG := fi_at (hat2 j hjl)
              rw [show eFi.z = zf from rfl] at hA hG
              have hlc := (HF.out wr bj.out).c
              have hld := (HG.out wr bj.out).c
              have hre := run_neq (fs.getD j zf) (gs.getD j zf)
              have hno : Hid (fs.getD j zf ≠ gs.getD j zf → false = B) := fun h => hneF.out (fun e => h (by rw [e]))
              have hyes : Hid (fs.getD j zf = gs.getD j zf → ∀ m, m < j + 1 → fs.getD m zf = gs.getD m zf) := by
                intro h m hm
                by_cases e : m < j
                · exact hjs.out m e
                · rw [show m = j by omega]; exact h
              have hfi := feq_iff (fs.getD j zf) (gs.getD j zf)
              clear hat hat2
              subst hfa hga
              generalize fs.getD j zf = f at *
              generalize gs.getD j zf = g at *
              generalize hfb : feq f g = FB at *
              obtain ⟨fn, fz, ft, fu, flo, fhi⟩ := f
              obtain ⟨gn, gz, gt, gu, glo, ghi⟩ := g
              obtain ⟨e1, e2, e3, e4, e5, e6⟩ := hA
              obtain ⟨g1, g2, g3, g4, g5, g6⟩ := hG
              simp only [show eFi.k = 6 from rfl] at e1 e2 e3 e4 e5 e6 g1 g2 g3 g4 g5 g6
              have jk0 : (j : Int) < (ln : Int) := by omega
              have jo0 : (0 : Int) ≤ (j : Int) := by omega
              unfold fv at hre
              dsimp only at hre
              obtain ⟨W7, hW7⟩ : ∃ W, W = wr.alloc (.cells #[.int .i64 fn, .int .i64 fz, .string ft, .string fu, .int .u64 flo, .int .u64 fhi] 43) := ⟨_, rfl⟩
              obtain ⟨g7, hg7⟩ : ∃ g, g = wr.heap.size := ⟨_, rfl⟩
              have bx : Below wr.heap.size wr W7 := by rw [hW7]; exact box_below _ _
              have kx : W7.heap[g7]? = some (.cells #[.int .i64 fn, .int .i64 fz, .string ft, .string fu, .int .u64 flo, .int .u64 fhi] 43) := by rw [hW7, hg7]; exact new_at _ _
              have y0 := cell_of kx 0 _ rfl
              have y1 := cell_of kx 1 _ rfl
              have y2 := cell_of kx 2 _ rfl
              have y3 := cell_of kx 3 _ rfl
              have y4 := cell_of kx 4 _ rfl
              have y5 := cell_of kx 5 _ rfl
              have b7 := hid (Below.up bj.out bx)
              have dm := cell_later cm bx
              have d1 := cell_later g1 bx
              have d2 := cell_later g2 bx
              have d3 := cell_later g3 bx
              have d4 := cell_later g4 bx
              have d5 := cell_later g5 bx
              have d6 := cell_later g6 bx
              replace hW7 := hid hW7
              replace hg7 := hid hg7
              clear kx bx cm g1 g2 g3 g4 g5 g6
              cases FB with
              | true =>
                have hj2 := hid (hyes.out (hfi.1 rfl))
                clear hfb hfi
                go_wp2_with fail
                rw [← hW7.out, ← hg7.out]
                go_quiet (fail)
                go_wp2_with fail
                go_roundw
                case rel => exact ⟨j + 1, by go_num, by omega, hj2, hid (Below.up b7.out (drewN_below _ _))⟩
                case measure => simp [intOf]; omega
              | false =>
                have hBf := hid (hno.out (fun e => by have := hfi.2 e; cases this))
                clear hfb hfi
                go_wp2_with fail
                rw [← hW7.out, ← hg7.out]
                go_quiet (fail)
                go_wp2_with fail
                go_ret
                exact ⟨ret_bool hBf.out, Below.up b7.out (drewN_below _ _)⟩
            · have hje : j = ln := by omega
              subst hje
              have hall2 : Hid (∀ m, m < i + 1 → L.getD m [] = M.getD m []) := by
                intro m hm
                by_cases e : m < i
                · exact hall.out m e
                · rw [show m = i by omega, ← hfs.out, ← hgs.out]
                  exact ext_getD (d := zf) (by rw [← hln.out, ← hmn.out]) (fun q hq => hjs.out q (by rw [hln.out]; exact hq))
              skip
              skip
              go_wp2_with fail
              go_roundw
              case rel => exact ⟨i + 1, by go_num, by omega, hall2, bj⟩
              case measure => simp [intOf]; omega
        · have hnb2 : ((ln : Int) != (mn : Int)) = true := by rw [bne_iff_ne]; omega
          have hBf := hid (hneF.out (fun e => hlm (by rw [hln, hmn, e])))
          clear hlm hln hmn
          go_wp2_with fail
          go_ret
          exact ⟨ret_bool hBf.out, bw.out⟩
      · have hie : i = len := by omega
        subst hie
        have hBt := hid (heqL.out (ext_getD (d := []) (by rw [hlen.out, hlen2.out]) (fun m hm => hall.out m (by rw [← hlen.out]; exact hm))))
        go_wp2_with fail
        go_ret
        exact ⟨ret_bool hBt.out, bw.out⟩
  · have hnb : ((len : Int) != (len2 : Int)) = true := by rw [bne_iff_ne]; omega
    have hBf := hid (hneL.out (fun e => hlt2 (by rw [← hlen, ← hlen2, e])))
    clear hlt2 hlen hlen2 HA HB hll hlm
    go_enter Try.func35, Try.ntmps35
    go_wp2_with fail
    go_ret
    exact ⟨ret_bool hBf.out, Below.refl _ _⟩
set_option maxRecDepth 100000 in
set_option maxHeartbeats 2000000 in
theorem rsame_any (a b : Option Addr) (len cap len2 cap2 : Nat) (L M : List (List Fi)) (w : World) (HA : Lvs w a len cap L) (HB : Lvs w b len2 cap2 M) (hw : wL L ≤ 1048576) (hw2 : wL M ≤ 1048576) :
    Calls Try.prog 15 #[.slice a len cap, .slice b len2 cap2] w fun e w' => e = .returned (.bool (decide (L = M))) ∧ Below w.heap.size w w' := by
  obtain ⟨B, hB⟩ : ∃ B, B = decide (L = M) := ⟨_, rfl⟩
  rw [← hB]
  have hneL : Hid (L ≠ M → false = B) := fun h => by rw [hB]; exact (decide_eq_false h).symm
  have heqL : Hid (L = M → true = B) := fun h => by rw [hB]; exact (decide_eq_true h).symm
  have hll := wL_len L
  have hlm := wL_len M
  have hlen := HA.len_eq
  have hlen2 := HB.len_eq
  have hcap := HA.cap_le
  have hcap2 := HB.cap_le
  have hn8 : len ≤ 1048576 := by omega
  have hm8 : len2 ≤ 1048576 := by omega
  replace hB := hid hB
  by_cases hlt2 : len = len2
  · subst hlt2
    have hnb : ((len : Int) != (len : Int)) = false := bne_self_eq_false _
    have HL : Hid (∀ W', Below w.heap.size w W' → Lvs W' a len cap L) := fun W' b => HA.later b
    have HM : Hid (∀ W', Below w.heap.size w W' → Lvs W' b len cap2 M) := fun W' b => HB.later b
    replace hlen := hid hlen
    replace hlen2 := hid hlen2
    replace hw := hid hw
    replace hw2 := hid hw2
    clear HA HB hll hlm
    go_enter Try.func15, Try.ntmps15
    go_wp2_with fail
    go_loopw [5] (fun ii wr => ∃ i : Nat, ii = .int .i64 i ∧ i ≤ len ∧ Hid (∀ m, m < i → L.getD m [] = M.getD m []) ∧ Hid (Below w.heap.size w wr)) (fun ii _ => len - (intOf ii).toNat)
    case atStart => exact ⟨0, rfl, by omega, fun m hm => by omega, Below.refl _ _⟩
    case round =>
      obtain ⟨i, rfl, hi, hall, bw⟩ := hrel
      by_cases hlt : i < len
      · obtain ⟨lb, lof, la, ln, lc, hla, cl0, FS, hln⟩ := (HL.out w (Below.refl _ _)).at i hlt
        obtain ⟨mb, mof, ma, mn, mc, hma, cm0, GS, hmn⟩ := (HM.out w (Below.refl _ _)).at i hlt
        subst hla hma
        have cl := cell_later cl0 bw.out
        have cm1 := cell_later cm0 bw.out
        have ik0 : (i : Int) < (len : Int) := by omega
        have ok0 : (0 : Int) ≤ (i : Int) := by omega
        have hsum := wL_at (L := L) (i := i) (by rw [hlen.out]; exact hlt)
        have hsum2 := wL_at (L := M) (i := i) (by rw [hlen2.out]; exact hlt)
        have hln8 : ln ≤ 1048576 := by have := hw.out; omega
        have hmn8 : mn ≤ 1048576 := by have := hw2.out; omega
        have hneF : Hid (L.getD i [] ≠ M.getD i [] → false = B) := fun h => hneL.out (fun e => h (by rw [e]))
        obtain ⟨fs, hfs⟩ : ∃ fs, fs = L.getD i [] := ⟨_, rfl⟩
        obtain ⟨gs, hgs⟩ : ∃ gs, gs = M.getD i [] := ⟨_, rfl⟩
        rw [← hfs] at FS hln
        rw [← hgs] at GS hmn
        rw [← hfs, ← hgs] at hneF
        have HF : Hid (∀ W', Below w.heap.size w W' → eFi.Sl W' la ln lc fs) := fun W' b => FS.later b
        have HG : Hid (∀ W', Below w.heap.size w W' → eFi.Sl W' ma mn mc gs) := fun W' b => GS.later b
        have hlcf := FS.c
        have hlcg := GS.c
        replace hfs := hid hfs
        replace hgs := hid hgs
        clear FS GS hsum hsum2
        by_cases hlm : ln = mn
        · subst hlm
          have hnb2 : ((ln : Int) != (ln : Int)) = false := bne_self_eq_false _
          replace hln := hid hln
          replace hmn := hid hmn
          go_wp2_with fail
          go_quiet (fail)
          go_wp2_with fail
          go_loopw [6] (fun jj wr => ∃ j : Nat, jj = .int .i64 j ∧ j ≤ ln ∧ Hid (∀ m, m < j → fs.getD m zf = gs.getD m zf) ∧ Hid (Below w.heap.size w wr)) (fun jj _ => ln - (intOf jj).toNat)
          case atStart => exact ⟨0, rfl, by omega, fun m hm => by omega, hid (Below.up bw.out (drewN_below _ _))⟩
          case round =>
            clear bw
            obtain ⟨j, rfl, hj, hjs, bj⟩ := hrel
            by_cases hjl : j < ln
            · have clj := cell_later cl0 bj.out
              have cm := cell_later cm0 bj.out
              obtain ⟨fb, fo, hfa, hat⟩ := get1 (HF.out wr bj.out) j hjl
              obtain ⟨gb, go, hga, hat2⟩ := get1 (HG.out wr bj.out) j hjl
              have hA := fi_at (hat j hjl)
              have hG := fi_at (hat2 j hjl)
              rw [show eFi.z = zf from rfl] at hA hG
              have hlc := (HF.out wr bj.out).c
              have hld := (HG.out wr bj.out).c
              have hre := run_neq (fs.getD j zf) (gs.getD j zf)
              have hno : Hid (fs.getD j zf ≠ gs.getD j zf → false = B) := fun h => hneF.out (fun e => h (by rw [e]))
              have hyes : Hid (fs.getD j zf = gs.getD j zf → ∀ m, m < j + 1 → fs.getD m zf = gs.getD m zf) := by
                intro h m hm
                by_cases e : m < j
                · exact hjs.out m e
                · rw [show m = j by omega]; exact h
              have hfi := feq_iff (fs.getD j zf) (gs.getD j zf)
              clear hat hat2
              subst hfa hga
              generalize fs.getD j zf = f at *
              generalize gs.getD j zf = g at *
              generalize hfb : feq f g = FB at *
              obtain ⟨fn, fz, ft, fu, flo, fhi⟩ := f
              obtain ⟨gn, gz, gt, gu, glo, ghi⟩ := g
              obtain ⟨e1, e2, e3, e4, e5, e6⟩ := hA
              obtain ⟨g1, g2, g3, g4, g5, g6⟩ := hG
              simp only [show eFi.k = 6 from rfl] at e1 e2 e3 e4 e5 e6 g1 g2 g3 g4 g5 g6
              have jk0 : (j : Int) < (ln : Int) := by omega
              have jo0 : (0 : Int) ≤ (j : Int) := by omega
              unfold fv at hre
              dsimp only at hre

              cases FB with
              | true =>
                have hj2 := hid (hyes.out (hfi.1 rfl))
                clear hfb hfi
                go_wp2_with fail
                go_quiet (fail)
                go_wp2_with fail
                go_roundw
                case rel => exact ⟨j + 1, by go_num, by omega, hj2, hid (Below.up bj.out (drewN_below _ _))⟩
                case measure => simp [intOf]; omega
              | false =>
                have hBf := hid (hno.out (fun e => by have := hfi.2 e; cases this))
                clear hfb hfi
                go_wp2_with fail
                go_quiet (fail)
                go_wp2_with fail
                go_ret
                exact ⟨ret_bool hBf.out, Below.up bj.out (drewN_below _ _)⟩
            · have hje : j = ln := by omega
              subst hje
              have hall2 : Hid (∀ m, m < i + 1 → L.getD m [] = M.getD m []) := by
                intro m hm
                by_cases e : m < i
                · exact hall.out m e
                · rw [show m = i by omega, ← hfs.out, ← hgs.out]
                  exact ext_getD (d := zf) (by rw [← hln.out, ← hmn.out]) (fun q hq => hjs.out q (by rw [hln.out]; exact hq))
              have clj := cell_later cl0 bj.out
              have cmj := cell_later cm0 bj.out
              go_wp2_with fail
              go_roundw
              case rel => exact ⟨i + 1, by go_num, by omega, hall2, bj⟩
              case measure => simp [intOf]; omega
        · have hnb2 : ((ln : Int) != (mn : Int)) = true := by rw [bne_iff_ne]; omega
          have hBf := hid (hneF.out (fun e => hlm (by rw [hln, hmn, e])))
          clear hlm hln hmn
          go_wp2_with fail
          go_quiet (fail)
          go_wp2_with fail
          go_ret
          exact ⟨ret_bool hBf.out, Below.up bw.out (drewN_below _ _)⟩
      · have hie : i = len := by omega
        subst hie
        have hBt := hid (heqL.out (ext_getD (d := []) (by rw [hlen.out, hlen2.out]) (fun m hm => hall.out m (by rw [← hlen.out]; exact hm))))
        go_wp2_with fail
        go_ret
        exact ⟨ret_bool hBt.out, bw.out⟩
  · have hnb : ((len : Int) != (len2 : Int)) = true := by rw [bne_iff_ne]; omega
    have hBf := hid (hneL.out (fun e => hlt2 (by rw [← hlen, ← hlen2, e])))
    clear hlt2 hlen hlen2 HA HB hll hlm
    go_enter Try.func15, Try.ntmps15
    go_wp2_with fail
    go_ret
    exact ⟨ret_bool hBf.out, Below.refl _ _⟩
end Go.Proofs.Ytkpihibeohjfnaa.Sm

/- The document's Valid by its contract. -/
import Derived.Test.YtkpihibeohjfnaaDo
import Derived.Test.YtkpihibeohjfnaaDm
namespace Go.Proofs.Ytkpihibeohjfnaa.Dv
open Go.ChangeShapes Go.WideShapes Go.ChangeAt Go.RowKit
open Go.Proofs.Ytkpihibeohjfnaa.Gr
open Go.Proofs.Ytkpihibeohjfnaa.Ev
open Go.Proofs.Ytkpihibeohjfnaa.Oe
open Go.Proofs.Ytkpihibeohjfnaa.Lv
open Go.Proofs.Ytkpihibeohjfnaa.Vp
open Go.Proofs.Ytkpihibeohjfnaa.Vq
open Go.Proofs.Ytkpihibeohjfnaa.Vr
open Go.Proofs.Ytkpihibeohjfnaa.Vt
open Go.Proofs.Ytkpihibeohjfnaa.Dn
open Go.Proofs.Ytkpihibeohjfnaa.Do
open Go.Proofs.Ytkpihibeohjfnaa.Dm
open Go.Proofs.Ytkpihibeohjfnaa.Lx (lt)
set_option linter.unusedVariables false
set_option linter.unusedSimpArgs false

set_option maxRecDepth 20000 in
set_option maxHeartbeats 4000000 in
theorem rvalid_any (a : Option Addr) (len cap : Nat) (L : List (List Fi)) (w : World) (H : Lvs w a len cap L) (hw : wL L ≤ 1048576) :
    Calls Try.prog 12 #[.slice a len cap] w fun e w' => e = .returned (.bool (vld L)) ∧ Below w.heap.size w w' := by
  obtain ⟨B, hB⟩ : ∃ B, B = vld L := ⟨_, rfl⟩
  rw [← hB]
  have hll := wL_len L
  have hlen := H.len_eq
  have hcap := H.cap_le
  have HL : Hid (∀ W, Below w.heap.size w W → Lvs W a len cap L) := fun W b => H.later b
  have HN : Hid (∀ W, Below w.heap.size w W → Calls Try.prog 41 #[.slice a len cap] W fun e w' => ∃ v, e = .returned v ∧ Acc eInt W w' v (srt (nums L))) := fun W b => rnums_any a len cap L W (H.later b) hw
  have hn8 : len ≤ 1048576 := by omega
  have hnl := hid (nums_len L)
  replace hB := hid hB
  replace hw := hid hw
  replace hlen := hid hlen
  clear H hll
  by_cases hl1 : len < 1
  · have hBf : Hid (false = B) := by
      show _ = _
      rw [hB.out]; unfold vld fr
      rw [hlen.out]
      simp; intro h; omega
    have q1 : decide ((len : Int) < 1) = true := decide_eq_true (by omega)
    clear hl1
    go_enter Try.func12, Try.ntmps12
    go_wp2_with fail
    go_ret
    exact ⟨ret_bool hBf.out, Below.refl _ _⟩
  · by_cases hl7 : 7 < len
    · have hBf : Hid (false = B) := by
        show _ = _
        rw [hB.out]; unfold vld fr
        rw [hlen.out]
        simp; intro h; omega
      have q1 : decide ((len : Int) < 1) = false := decide_eq_false (by omega)
      have q2 : decide ((7 : Int) < (len : Int)) = true := decide_eq_true (by omega)
      clear hl1 hl7
      go_enter Try.func12, Try.ntmps12
      go_wp2_with fail
      go_ret
      exact ⟨ret_bool hBf.out, Below.refl _ _⟩
    · have hBv : Hid (B = (decide (inOrd L) && decide (adj (srt (nums L))))) := by
        show _ = _
        rw [hB.out]; unfold vld fr
        rw [hlen.out, decide_eq_true (by omega : (1 : Int) ≤ (len : Int)), decide_eq_true (by omega : (len : Int) ≤ 7)]
        rfl
      clear hB
      have q1 : decide ((len : Int) < 1) = false := decide_eq_false (by omega)
      have q2 : decide ((7 : Int) < (len : Int)) = false := decide_eq_false (by omega)
      have hnot : Hid (¬ inOrd L → false = B) := by
        intro h; rw [hBv.out, decide_eq_false h]; rfl
      go_enter Try.func12, Try.ntmps12
      go_wp2_with fail
      go_loopw [3, 4] (fun ii jj wr => ∃ i : Nat, ii = .int .i64 i ∧ i ≤ len ∧ (∀ j, j < i → lvOk j (L.getD j [])) ∧ Below w.heap.size w wr) (fun ii _ _ => len - (intOf ii).toNat)
      case atStart => exact ⟨0, rfl, by omega, fun j hj => by omega, Below.refl _ _⟩
      case round =>
        obtain ⟨i, rfl, hi, hall, bw⟩ := hrel
        replace hall := hid hall
        by_cases hlt : i < len
        · obtain ⟨lb, lof, la, ln, lc, rfl, cl0, FS, hln⟩ := (HL.out w (Below.refl _ _)).at i hlt
          have ik0 : (i : Int) < (len : Int) := by omega
          have ok0 : (0 : Int) ≤ (i : Int) := by omega
          have hsum := wL_at (L := L) (i := i) (by rw [hlen.out]; exact hlt)
          have hln8 : ln ≤ 1048576 := by have := hw.out; omega
          clear hsum
          have hno : Hid (¬ lvOk i (L.getD i []) → false = B) := fun h => hnot.out (not_inOrd (by rw [hlen.out]; exact hlt) h)
          obtain ⟨fs, hfs⟩ : ∃ fs, fs = L.getD i [] := ⟨_, rfl⟩
          rw [← hfs] at FS hln hno
          have hlc := FS.c
          have HF : Hid (∀ W, Below w.heap.size w W → eFi.Sl W la ln lc fs) := fun W b => FS.later b
          have hcl : Hid (∀ W, Below w.heap.size w W → W.cell? _ = _) := fun W b => (b.cell (block_lt_of_cell cl0)).trans cl0
          clear FS cl0
          replace bw := hid bw
          replace hfs := hid hfs
          replace hln := hid hln
          go_wp2_with fail
          go_loopw [4] (fun ii wr => ∃ j : Nat, ii = .int .i64 j ∧ j ≤ ln ∧ (∀ m, m < j → okAt i fs m = true) ∧ Below w.heap.size w wr) (fun ii _ => ln - (intOf ii).toNat)
          case atStart => exact ⟨0, rfl, by omega, fun j hj => by omega, bw.out⟩
          case round =>
            clear bw
            obtain ⟨j, rfl, hj, hal, bj⟩ := hrel
            replace hal := hid hal
            have cl := hcl.out wr bj
            by_cases hjl : j < ln
            · obtain ⟨fb, fo, rfl, hat⟩ := get1 (HF.out wr bj) j hjl
              have hA := fi_at (hat j hjl)
              have hmem : fs.getD j zf ∈ fs := El.get_mem (E := eFi) (by rw [← hln.out]; exact hjl)
              have hok := (HF.out wr bj).ok _ hmem
              have hokA : okAt i fs j = (may (fs.getD j zf) && (decide (j = 0) || fol i (fs.getD (j - 1) zf) (fs.getD j zf))) := rfl
              replace hokA := hid hokA
              have hjlf : Hid (j < fs.length) := by show _ < _; rw [← hln.out]; exact hjl
              have hM := hid (rmay_any (fs.getD j zf) hok)
              have hat' := hid (fun m h => fi_at (hat m h))
              have hcl2 := hcl
              rw [show eFi.z = zf from rfl] at hA
              clear hok hmem hat
              have jk0 : (j : Int) < (ln : Int) := by omega
              have jo0 : (0 : Int) ≤ (j : Int) := by omega
              obtain ⟨f, hf⟩ : ∃ f, f = fs.getD j zf := ⟨_, rfl⟩
              rw [← hf] at hA hokA hM
              replace hf := hid hf
              obtain ⟨n, z, s, t, lo, hi'⟩ := f
              obtain ⟨e1, e2, e3, e4, e5, e6⟩ := hA
              simp only [show eFi.k = 6 from rfl] at e1 e2 e3 e4 e5 e6
              unfold fv at hM
              dsimp only at hM
              replace bj := hid bj
              generalize hm : may ⟨n, z, s, t, lo, hi'⟩ = M at *
              replace hm := hid hm
              cases M with
              | false =>
                have hBf : Hid (false = B) := hno.out (not_lvOk hjlf.out (by rw [hokA.out]; rfl))
                go_wp2_with (first | (go_at_call 40; refine (hM.out _).mono ?_; rintro e w8 ⟨rfl, B8⟩; replace B8 := hid B8))
                go_ret
                exact ⟨ret_bool hBf.out, Below.up bj.out B8.out⟩
              | true =>
                go_wp2_with (first | (go_at_call 40; refine (hM.out _).mono ?_; rintro e w8 ⟨rfl, B8⟩; replace B8 := hid B8))
                have bw8 : Hid (Below w.heap.size w w8) := Below.up bj.out B8.out
                replace cl := hcl.out w8 bw8.out
                have d1 := B8.out.cell (block_lt_of_cell e1) |>.trans e1
                have d3 := B8.out.cell (block_lt_of_cell e3) |>.trans e3
                have B9 := B8
                clear e1 e2 e3 e4 e5 e6 B8
                by_cases hj0 : j = 0
                · have hz : decide (0 < j) = false := decide_eq_false (by omega)
                  have hal' : Hid (∀ m, m < j + 1 → okAt i fs m = true) := by
                    intro m hm'
                    by_cases e : m < j
                    · exact hal.out m e
                    · rw [show m = j by omega, hokA.out]; simp [hj0]
                  clear hj0 d1 d3
                  go_quiet (fail)
                  go_wp2_with fail
                  go_roundw
                  case rel => exact ⟨j + 1, by go_num, by omega, hal'.out, Below.up bw8.out (drewN_below _ _)⟩
                  case measure => simp [intOf]; omega
                · obtain ⟨j', hj'⟩ : ∃ j', j = j' + 1 := ⟨j - 1, by omega⟩
                  subst hj'
                  obtain ⟨p1, p2, p3, p4, p5, p6⟩ := hat'.out j' (by omega)
                  obtain ⟨f', hf'⟩ : ∃ f', f' = fs.getD j' zf := ⟨_, rfl⟩
                  rw [show eFi.z = zf from rfl] at p1 p4
                  rw [← hf'] at p1 p4
                  have hokB : Hid (okAt i fs (j' + 1) = fol i f' ⟨n, z, s, t, lo, hi'⟩) := by
                    show _ = _
                    rw [hokA.out, hf', show j' + 1 - 1 = j' by omega, decide_eq_false (by omega : ¬ j' + 1 = 0)]; rfl
                  clear hokA hf'
                  obtain ⟨n', z', s', t', lo', hi2⟩ := f'
                  dsimp only at p1 p4
                  simp only [show eFi.k = 6 from rfl] at p1 p4
                  have b1 := B9.out.cell (block_lt_of_cell p1) |>.trans p1
                  have b4 := B9.out.cell (block_lt_of_cell p4) |>.trans p4
                  clear p1 p2 p3 p4 p5 p6 B9 hat'
                  have k0 : (j' : Int) < (ln : Int) := by omega
                  have k1 : (0 : Int) ≤ (j' : Int) := by omega
                  have k2 : (j' : Int) + 1 < (ln : Int) := by omega
                  have k3 : (0 : Int) ≤ (j' : Int) + 1 := by omega
                  have k4 : (0 : Int) < (j' : Int) + 1 := by omega
                  have hyes : Hid (fol i ⟨n', z', s', t', lo', hi2⟩ ⟨n, z, s, t, lo, hi'⟩ = true → ∀ m, m < j' + 1 + 1 → okAt i fs m = true) := by
                    intro h m hm'
                    by_cases e : m < j' + 1
                    · exact hal.out m e
                    · rw [show m = j' + 1 by omega, hokB.out]; exact h
                  have hbad : Hid (fol i ⟨n', z', s', t', lo', hi2⟩ ⟨n, z, s, t, lo, hi'⟩ = false → false = B) := fun h => hno.out (not_lvOk hjlf.out (by rw [hokB.out]; exact h))
                  clear hal hokB hno hjlf hj0
                  by_cases hi0 : i = 0
                  · subst hi0
                    simp only [Nat.zero_mul, Nat.add_zero] at cl
                    by_cases hle : n ≤ n'
                    · have hBf : Hid (false = B) := hbad.out (by unfold fol; rw [if_pos rfl]; exact decide_eq_false (by show ¬ n' < n; omega))
                      clear hbad hyes
                      go_quiet (fail)
                      go_wp2_with fail
                      go_ret
                      exact ⟨ret_bool hBf.out, Below.up bw8.out (drewN_below _ _)⟩
                    · have hal' := hid (hyes.out (by unfold fol; rw [if_pos rfl]; exact decide_eq_true (by show n' < n; omega)))
                      have hle' : decide (n ≤ n') = false := decide_eq_false hle
                      clear hbad hyes hle
                      go_quiet (fail)
                      go_wp2_with fail
                      go_roundw
                      case rel => exact ⟨j' + 1 + 1, by go_num, by omega, hal'.out, Below.up bw8.out (drewN_below _ _)⟩
                      case measure => simp [intOf]; omega
                  · have i1 : ((i : Int) == 0) = false := by rw [beq_eq_false_iff_ne]; omega
                    have i2 : (0 : Int) < (i : Int) := by omega
                    have i3 : 0 < i := by omega
                    have gs := Lx.gtr_s 9 t' s
                    change binOp .gtr 9 (.string t') (.string s) = pure (.bool (lt s t')) at gs
                    have hff : fol i ⟨n', z', s', t', lo', hi2⟩ ⟨n, z, s, t, lo, hi'⟩ = !(lt s t') := by unfold fol; rw [if_neg hi0]
                    rw [hff] at hbad hyes
                    clear hff
                    generalize lt s t' = c at *
                    cases c with
                    | true =>
                      have hBf : Hid (false = B) := hbad.out rfl
                      clear hbad hyes
                      go_quiet (fail)
                      go_wp2_with fail
                      go_ret
                      exact ⟨ret_bool hBf.out, Below.up bw8.out (drewN_below _ _)⟩
                    | false =>
                      have hal' := hid (hyes.out rfl)
                      clear hbad hyes
                      go_quiet (fail)
                      go_wp2_with fail
                      go_roundw
                      case rel => exact ⟨j' + 1 + 1, by go_num, by omega, hal'.out, Below.up bw8.out (drewN_below _ _)⟩
                      case measure => simp [intOf]; omega
            · have hie : j = ln := by omega
              subst hie
              have hl2 : Hid (∀ k, k < i + 1 → lvOk k (L.getD k [])) := by
                intro k hk
                by_cases e : k < i
                · exact hall.out k e
                · rw [show k = i by omega, ← hfs.out]
                  exact fun m hm => hal.out m (by rw [hln.out]; exact hm)
              replace bj := hid bj
              clear hal hall hl1 hl7 HF hcl hno hnot hi hj hjl
              go_wp2_with fail
              go_roundw
              case rel => exact ⟨i + 1, by go_num, by omega, hl2.out, bj.out⟩
              case measure => simp [intOf]; omega
        · have hie : i = len := by omega
          subst hie
          have hord : inOrd L := fun k hk => hall.out k (by rw [← hlen.out]; exact hk)
          have hB2 : Hid (B = decide (adj (srt (nums L)))) := by
            show _ = _
            rw [hBv.out, decide_eq_true hord]; rfl
          have hsl := hid (srt_len (nums L))
          have hc := hid (HN.out wr bw)
          replace bw := hid bw
          clear hord hBv hnot hall HN HL
          obtain ⟨N, hN⟩ : ∃ N, N = (nums L).length := ⟨_, rfl⟩
          obtain ⟨X, hX⟩ : ∃ X, X = srt (nums L) := ⟨_, rfl⟩
          rw [← hX] at hc hB2 hsl
          rw [← hN] at hsl hnl
          have hN8 : N ≤ 1048576 := Nat.le_trans hnl.out hw.out
          replace hX := hid hX
          replace hN := hid hN
          go_wp2_with (first | (go_at_call 41; refine hc.out.mono ?_; rintro e w9 ⟨v9, rfl, A9⟩; obtain ⟨a9, c9, rfl⟩ := A9.shape; rw [hsl.out] at A9; replace A9 := hid A9; rw [hsl.out]))
          have HS := hid (Acc.sl A9.out (fun _ _ => trivial)).2
          have hnc := HS.out.c
          have b9 : Hid (Below w.heap.size w w9) := Below.up bw.out A9.out.lo
          clear A9 hc
          go_loopw [6] (fun ii wr => ∃ m : Nat, ii = .int .i64 ((m : Int) + 1) ∧ m ≤ N ∧ Hid (∀ k, k < m → k + 1 < N → X.getD k 0 ≠ X.getD (k + 1) 0) ∧ ∃ q, wr = w9.drewN q) (fun ii _ => N - (intOf ii).toNat)
          case atStart => exact ⟨0, rfl, by omega, fun k hk => by omega, 0, rfl⟩
          case round =>
            obtain ⟨m, rfl, hm, hal2, q, rfl⟩ := hrel
            by_cases hlt2 : m + 1 < N
            · obtain ⟨b, o, rfl, hat⟩ := get1 HS.out m (by omega)
              have e1 := in_at (hat m (by omega))
              have e2 := in_at (hat (m + 1) (by omega))
              rw [show eInt.z = 0 from rfl] at e1 e2
              rw [show eInt.k = 1 from rfl, Nat.mul_one] at e1 e2
              have m0 : (m : Int) < (N : Int) := by omega
              have m1 : (0 : Int) ≤ (m : Int) := by omega
              have m2 : (m : Int) + 1 < (N : Int) := by omega
              have m3 : (0 : Int) ≤ (m : Int) + 1 := by omega
              clear hat
              by_cases he : X.getD m 0 = X.getD (m + 1) 0
              · have hBf : Hid (false = B) := by
                  show _ = _
                  rw [hB2.out]; symm; apply decide_eq_false
                  exact fun h => h m (by rw [hsl.out]; exact hlt2) he
                rw [← he] at e2
                clear he
                generalize X.getD m 0 = x at e1 e2
                have t1 : (x == x) = true := beq_self_eq_true x
                go_wp2_with fail
                go_quiet (fail)
                go_wp2_with fail
                go_ret
                exact ⟨ret_bool hBf.out, Below.up b9.out (Below.up (drewN_below _ _) (drewN_below _ _))⟩
              · have hal3 : Hid (∀ k, k < m + 1 → k + 1 < N → X.getD k 0 ≠ X.getD (k + 1) 0) := by
                  intro k hk hkn
                  by_cases e : k < m
                  · exact hal2.out k e hkn
                  · rw [show k = m by omega]; exact he
                have t1 : (X.getD m 0 == X.getD (m + 1) 0) = false := by simpa using he
                clear he
                generalize X.getD m 0 = x at e1 t1
                generalize X.getD (m + 1) 0 = y at e2 t1
                go_wp2_with fail
                go_quiet (fail)
                go_wp2_with fail
                go_roundw
                case rel => exact ⟨m + 1, by go_num, by omega, hal3, q + nq, rfl⟩
                case measure => simp [intOf]; omega
            · have hBt : Hid (true = B) := by
                show _ = _
                rw [hB2.out]; symm; apply decide_eq_true
                intro k hk
                exact hal2.out k (by rw [hsl.out] at hk; omega) (by rw [hsl.out] at hk; exact hk)
              have hf : decide ((m : Int) + 1 < (N : Int)) = false := decide_eq_false (by omega)
              go_wp2_with fail
              go_ret
              exact ⟨ret_bool hBt.out, Below.up b9.out (drewN_below _ _)⟩
end Go.Proofs.Ytkpihibeohjfnaa.Dv

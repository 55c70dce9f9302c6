/- VersionBears walked. -/
import Derived.Test.YtkpihibeohjfnaaOn
import Derived.Test.YtkpihibeohjfnaaBp
import Derived.BigQuiet
namespace Go.Proofs.Ytkpihibeohjfnaa.Lb
open Go.ChangeShapes Go.WideShapes Go.ChangeAt Go.RowKit
open Go.Proofs.Ytkpihibeohjfnaa.Gr
open Go.Proofs.Ytkpihibeohjfnaa.Ev
open Go.Proofs.Ytkpihibeohjfnaa.Oe
open Go.Proofs.Ytkpihibeohjfnaa.Lv
open Go.Proofs.Ytkpihibeohjfnaa.Vp
open Go.Proofs.Ytkpihibeohjfnaa.Vq
open Go.Proofs.Ytkpihibeohjfnaa.Vr
open Go.Proofs.Ytkpihibeohjfnaa.Vt
open Go.Proofs.Ytkpihibeohjfnaa.Vu
open Go.Proofs.Ytkpihibeohjfnaa.Vv
open Go.Proofs.Ytkpihibeohjfnaa.Vw
open Go.Proofs.Ytkpihibeohjfnaa.Vx
open Go.Proofs.Ytkpihibeohjfnaa.Aq
open Go.Proofs.Ytkpihibeohjfnaa.On
open Go.Proofs.Ytkpihibeohjfnaa.Fd
open Go.Proofs.Ytkpihibeohjfnaa.Bp
open Go.Proofs.Ytkpihibeohjfnaa.Lx (lt)
set_option linter.unusedVariables false
set_option linter.unusedSimpArgs false

theorem pl_ok {L : List (List Fi)} {a : Option Addr} {len cap : Nat} {w : World} (H : Lvs w a len cap L) (hn : len ≤ 1048576) (key : ByteArray) (i : Nat) (hi : i ≤ len) : ∀ p ∈ askTo L key i, p.ok := by
  intro p hp
  unfold askTo at hp
  obtain ⟨k, hk, hp⟩ := List.mem_flatMap.1 hp
  rw [List.mem_range] at hk
  have hl := ask_l hp
  have hf : ∃ f ∈ L.getD k [], p.n = f.n := by
    unfold askAt at hp
    split at hp
    · rename_i e
      subst e
      unfold ask0 at hp
      obtain ⟨j, hj, rfl⟩ := List.mem_map.1 hp
      exact ⟨_, El.get_mem (E := eFi) (dn_lt (List.mem_filter.1 hj).1), rfl⟩
    · unfold askL at hp
      obtain ⟨f, hf, rfl⟩ := List.mem_map.1 hp
      exact ⟨f, (List.mem_filter.1 hf).1, rfl⟩
  obtain ⟨f, hf, hfn⟩ := hf
  obtain ⟨_, _, _, _, _, _, _, hs, _⟩ := H.at k (by omega)
  have := hs.ok f hf
  refine ⟨?_, by rw [hfn]; exact this.1⟩
  rw [hl]
  exact ⟨by omega, by omega⟩
set_option maxRecDepth 100000 in
set_option maxHeartbeats 2000000 in
theorem bears_no (a : Option Addr) (len cap : Nat) (L : List (List Fi)) (key : ByteArray) (w : World) (H : Lvs w a len cap L) (hw : wL L ≤ 1048576) (hv : vld L = false) :
    Calls Try.prog 8 #[.slice a len cap, .string key] w fun e w' => e = .returned (.bool true) ∧ Below w.heap.size w w' := by
  have c1 := hid (one_any w)
  have c2 : Hid (∀ W, Below w.heap.size w W → Calls Try.prog 30 #[.slice a len cap, .string key] W fun e w' => ∃ b c, e = .returned (.slice b 0 c) ∧ Below W.heap.size W w') := by
    intro W b
    refine (asks_any a len cap L key W (H.later b) hw).mono ?_
    rintro e w' ⟨v, rfl, A⟩
    obtain ⟨b', c', hv'⟩ := A.shape
    unfold asks at hv'
    rw [if_neg (by rw [hv]; simp)] at hv'
    exact ⟨b', c', by rw [hv']; rfl, A.lo⟩
  have c3 : Hid (∀ W, Below w.heap.size w W → Calls Try.prog 11 #[.slice a len cap] W fun e w' => e = .returned (.bool false) ∧ Below W.heap.size W w') := by
    intro W b
    have := valid_any a len cap L W (H.later b) hw
    rwa [hv] at this
  clear hv H
  go_enter Try.func8, Try.ntmps8
  go_wp2_with (first | (go_at_call 22; refine c1.out.mono ?_; rintro e w1 ⟨rfl, b1⟩; replace b1 := hid b1) | (go_at_call 30; refine (c2.out _ b1.out).mono ?_; rintro e w2 ⟨pb, pc, rfl, b2⟩; replace b2 := hid (Below.up b1.out b2)) | (go_at_call 11; refine (c3.out _ b2.out).mono ?_; rintro e w3 ⟨rfl, b3⟩; replace b3 := hid (Below.up b2.out b3)))
  go_ret
  exact ⟨rfl, b3.out⟩
set_option maxRecDepth 100000 in
set_option maxHeartbeats 4000000 in
theorem bears_yes (a : Option Addr) (len cap : Nat) (L : List (List Fi)) (key : ByteArray) (w : World) (H : Lvs w a len cap L) (hw : wL L ≤ 1048576) (hv : vld L = true) :
    Calls Try.prog 8 #[.slice a len cap, .string key] w fun e w' => e = .returned (.bool true) ∧ Below w.heap.size w w' := by
  have hll := wL_len L
  have hlen := H.len_eq
  have hcap := H.cap_le
  have hn8 : len ≤ 1048576 := by omega
  obtain ⟨hord, hnd, _, _⟩ := vld_parts hv
  have hpr := (askTo_pair hord key L.length (Nat.le_refl _)).1
  have hpo := pl_ok H hn8 key len (Nat.le_refl _)
  rw [hlen] at hpr
  have hfi : Hid (∀ p ∈ askTo L key len, ∃ (k : Nat) (f : Fi), p = ⟨(k : Int), f.n⟩ ∧ fndL p.n 0 L = some (k, f) ∧ bears key f = true) := fun p hp => askTo_find hnd key (by rw [hlen]; exact Nat.le_refl _) hp
  have hPl : (askTo L key len).length ≤ 1048576 := by
    have h1 := askTo_len L key len (by rw [hlen]; exact Nat.le_refl _)
    have h2 := nums_take (L := L) len
    omega
  have c1 := hid (one_any w)
  have c2 : Hid (∀ W, Below w.heap.size w W → Calls Try.prog 30 #[.slice a len cap, .string key] W fun e w' => ∃ b c, e = .returned (.slice b (askTo L key len).length c) ∧ ePl.Sl w' b (askTo L key len).length c (askTo L key len) ∧ Below W.heap.size W w') := by
    intro W b
    refine (asks_any a len cap L key W (H.later b) hw).mono ?_
    rintro e w' ⟨v, rfl, A⟩
    unfold asks at A
    rw [if_pos hv, hlen] at A
    obtain ⟨b', c', hv'⟩ := A.shape
    subst hv'
    exact ⟨b', c', rfl, (Acc.sl A hpo).2, A.lo⟩
  have c3 : Hid (∀ W, Below w.heap.size w W → Calls Try.prog 11 #[.slice a len cap] W fun e w' => e = .returned (.bool true) ∧ Below W.heap.size W w') := by
    intro W b
    have := valid_any a len cap L W (H.later b) hw
    rwa [hv] at this
  have c4 : Hid (∀ W num, Below w.heap.size w W → Calls Try.prog 17 #[.slice a len cap, .int .i64 num] W fun e w' => e = .returned (fa (fndL num 0 L)) ∧ Below W.heap.size W w') := fun W num b => find_good a len cap L num W (H.later b) hw hv
  have HL : Hid (∀ W', Below w.heap.size w W' → Lvs W' a len cap L) := fun W' b => H.later b
  have hst : Hid (∀ i, askTo L key (i + 1) = askTo L key i ++ askAt L key i) := fun i => askTo_succ L key i
  have hct : Hid (∀ k, (askAt L key k).length = ((L.getD k []).filter (bears key)).length) := fun k => askAt_cnt L key k
  have hmx : Hid (∀ i, i ≤ len → (askTo L key i).length ≤ 1048576) := by
    intro i hi
    have h1 := askTo_len L key i (by rw [hlen]; exact hi)
    have h2 := nums_take (L := L) i
    omega
  obtain ⟨P, hP⟩ : ∃ P, P = askTo L key len := ⟨_, rfl⟩
  rw [← hP] at hpr hfi hPl c2
  obtain ⟨np, hnp⟩ : ∃ n, n = P.length := ⟨_, rfl⟩
  rw [← hnp] at hPl c2
  replace hP := hid hP
  replace hnp := hid hnp
  replace hpr := hid hpr
  replace hlen := hid hlen
  replace hw := hid hw
  clear H hv hord hnd hpo hll
  go_enter Try.func8, Try.ntmps8
  go_wp2_with (first | (go_at_call 22; refine c1.out.mono ?_; rintro e w1 ⟨rfl, b1⟩; replace b1 := hid b1) | (go_at_call 30; refine (c2.out _ b1.out).mono ?_; rintro e w2 ⟨pb, pc, rfl, S2, b2⟩; replace S2 := hid S2; replace b2 := hid (Below.up b1.out b2)) | (go_at_call 11; refine (c3.out _ b2.out).mono ?_; rintro e w3 ⟨rfl, b3⟩; have S3 := hid (S2.out.later b3); replace b3 := hid (Below.up b2.out b3)))
  clear c1 c2 c3 S2 b1 b2
  go_loopw [6, 7] (fun nv ii wr => ∃ i n : Nat, ii = .int .i64 i ∧ i ≤ len ∧ nv = .int .i64 n ∧ Hid (n = (askTo L key i).length) ∧ Hid (wr = w3)) (fun _ ii _ => len - (intOf ii).toNat)
  case atStart => exact ⟨0, 0, rfl, by omega, rfl, rfl, rfl⟩
  case round =>
    obtain ⟨i, n, rfl, hi, rfl, hn, hwr⟩ := hrel
    have hwr' := hwr.out
    subst hwr'
    clear hwr
    by_cases hlt : i < len
    · obtain ⟨lb, lof, la, ln, lc, rfl, cl, FS, hln⟩ := (HL.out wr b3.out).at i hlt
      have ik0 : (i : Int) < (len : Int) := by omega
      have ok0 : (0 : Int) ≤ (i : Int) := by omega
      have hm1 := hmx.out (i + 1) (by omega)
      rw [hst.out, List.length_append, hct.out, ← hn.out] at hm1
      have hnx : Hid (n + ((L.getD i []).filter (bears key)).length = (askTo L key (i + 1)).length) := by
        show _ = _
        rw [hst.out, List.length_append, hct.out, ← hn.out]
      have hsum := wL_at (L := L) (i := i) (by rw [hlen.out]; exact hlt)
      have hln8 : ln ≤ 1048576 := by have := hw.out; omega
      obtain ⟨fs, hfs⟩ : ∃ fs, fs = L.getD i [] := ⟨_, rfl⟩
      rw [← hfs] at FS hln hm1 hnx
      have hlc := FS.c
      have HF := hid FS
      replace hln := hid hln
      have hbd : Hid (∀ j, n + ((fs.take j).filter (bears key)).length ≤ 1048576) := by
        intro j
        have h1 : ((fs.take j).filter (bears key)).length ≤ (fs.filter (bears key)).length := ((List.take_sublist j fs).filter _).length_le
        omega
      clear hm1 hsum FS hfs
      go_wp2_with fail
      go_loopw [6, 8] (fun nv ii wr' => ∃ j z : Nat, ii = .int .i64 j ∧ j ≤ ln ∧ nv = .int .i64 z ∧ Hid (z = n + ((fs.take j).filter (bears key)).length) ∧ Hid (wr' = wr)) (fun _ ii _ => ln - (intOf ii).toNat)
      case atStart => exact ⟨0, n, rfl, by omega, rfl, by show _ = _; simp, rfl⟩
      case round =>
        rename_i wrj
        obtain ⟨j, z, rfl, hj, rfl, hz, hwj⟩ := hrel
        have hwj' := hwj.out
        subst hwj'
        clear hwj
        by_cases hjl : j < ln
        · obtain ⟨fb, fo, rfl, hat⟩ := get1 HF.out j hjl
          have hA := fi_at (hat j hjl)
          rw [show eFi.z = zf from rfl, show eFi.k = 6 from rfl] at hA
          have e3 := hA.2.2.1
          have e4 := hA.2.2.2.1
          have hjf : j < fs.length := by rw [← hln.out]; exact hjl
          have htk := hid (filter_snoc (bears key) hjf)
          have hb1 := hbd.out (j + 1)
          rw [htk.out, List.length_append, ← Nat.add_assoc, ← hz.out] at hb1
          have hzz : Hid (z + (if bears key (fs.getD j zf) = true then [fs.getD j zf] else []).length = n + ((fs.take (j + 1)).filter (bears key)).length) := by
            show _ = _
            rw [htk.out, List.length_append, ← Nat.add_assoc, ← hz.out]
          clear hat hA htk
          obtain ⟨X, hX⟩ : ∃ X, X = n + ((fs.take (j + 1)).filter (bears key)).length := ⟨_, rfl⟩
          rw [← hX] at hzz
          replace hX := hid hX
          unfold bears at hzz hb1
          generalize fs.getD j zf = f at *
          obtain ⟨fn, fz, ft, fu, flo, fhi⟩ := f
          dsimp only at *
          have ls := Lx.leq_s 9 ft key
          change binOp .leq 9 (.string ft) (.string key) = pure (.bool (!(lt key ft))) at ls
          have lss : binOp .lss 9 (.string key) (.string fu) = pure (.bool (lt key fu)) := by simp [binOp, Op.stringOp]
          have jk0 : (j : Int) < (ln : Int) := by omega
          have jo0 : (0 : Int) ≤ (j : Int) := by omega
          generalize lt key ft = b1 at *
          generalize lt key fu = b2 at *
          cases b1 with
          | true =>
            have hz2 : Hid (z = n + ((fs.take (j + 1)).filter (bears key)).length) := by
              show _ = _
              rw [← hX.out]; have := hzz.out; simpa using this
            clear hb1 hzz
            go_wp2_with fail
            go_roundw
            case rel => exact ⟨j + 1, z, by go_num, by omega, rfl, hz2, hid trivial⟩
            case measure => simp [intOf]; omega
          | false =>
            cases b2 with
            | false =>
              have hz2 : Hid (z = n + ((fs.take (j + 1)).filter (bears key)).length) := by
                show _ = _
                rw [← hX.out]; have := hzz.out; simpa using this
              clear hb1 hzz
              go_wp2_with fail
              go_roundw
              case rel => exact ⟨j + 1, z, by go_num, by omega, rfl, hz2, hid trivial⟩
              case measure => simp [intOf]; omega
            | true =>
              have hz2 : Hid (z + 1 = n + ((fs.take (j + 1)).filter (bears key)).length) := by
                show _ = _
                rw [← hX.out]; have := hzz.out; simpa using this
              have hz8 : z + 1 ≤ 1048576 := by simpa using hb1
              clear hb1 hzz
              go_wp2_with fail
              go_roundw
              case rel => exact ⟨j + 1, z + 1, by go_num, by omega, by go_num, hz2, hid trivial⟩
              case measure => simp [intOf]; omega
        · have hje : j = ln := by omega
          subst hje
          have hz2 : Hid (z = (askTo L key (i + 1)).length) := by
            show _ = _
            rw [hz.out, hln.out, List.take_length, hnx.out]
          go_wp2_with fail
          go_roundw
          case rel => exact ⟨i + 1, z, by go_num, by omega, rfl, hz2, hid trivial⟩
          case measure => simp [intOf]; omega
    · have hie : i = len := by omega
      subst hie
      obtain rfl : n = np := by rw [hn.out, hnp.out, hP.out]
      have hnb : ((n : Int) != (n : Int)) = false := bne_self_eq_false _
      have hpc : n ≤ pc := S3.out.c
      clear hn
      obtain ⟨w5, hw5⟩ : ∃ x, x = wr := ⟨_, rfl⟩
      rw [← hw5] at S3 b3
      rw [← hw5]
      clear hw5 wr
      go_wp2_with fail
      go_loopw [9] (fun ii wr => ∃ m : Nat, ii = .int .i64 m ∧ m ≤ n ∧ Hid (Below w5.heap.size w5 wr)) (fun ii _ => n - (intOf ii).toNat)
      case atStart => exact ⟨0, rfl, by omega, Below.refl _ _⟩
      case round =>
        obtain ⟨m, rfl, hm, bm⟩ := hrel
        have S4 := hid (S3.out.later bm.out)
        have b4 := hid (Below.up b3.out bm.out)
        by_cases hml : m < n
        · obtain ⟨qb, qo, rfl, hat⟩ := get1 S4.out m hml
          have hA := pl_at (hat m hml)
          rw [show ePl.z = zp from rfl, show ePl.k = 2 from rfl] at hA
          have hmP : m < P.length := by rw [← hnp.out]; exact hml
          obtain ⟨k, f, hpf, hff, hbf⟩ := hfi.out _ (El.get_mem (E := ePl) hmP)
          rw [show ePl.z = zp from rfl] at hpf hff
          rw [hpf] at hA hff
          dsimp only at hA hff
          obtain ⟨e0, e1⟩ := hA
          have C4 := c4.out wr f.n b4.out
          rw [hff] at C4
          have mk0 : (m : Int) < (n : Int) := by omega
          have mo0 : (0 : Int) ≤ (m : Int) := by omega
          have hb1 : lt key f.a = false := by unfold bears at hbf; simp only [Bool.and_eq_true, Bool.not_eq_true'] at hbf; exact hbf.1
          have hb2 : lt key f.b = true := by unfold bears at hbf; simp only [Bool.and_eq_true, Bool.not_eq_true'] at hbf; exact hbf.2
          have hprev : Hid (∀ t, m = t + 1 → ∃ pl pn, wr.cell? ⟨qb, qo + t * 2, none⟩ = some (.int .i64 pl) ∧ wr.cell? ⟨qb, qo + t * 2 + 1, none⟩ = some (.int .i64 pn) ∧ (pl < (k : Int) ∨ (pl = 0 ∧ (k : Int) = 0 ∧ f.n < pn))) := by
            intro t ht
            have h1 := pl_at (hat t (by omega))
            rw [show ePl.z = zp from rfl, show ePl.k = 2 from rfl] at h1
            refine ⟨_, _, h1.1, h1.2, ?_⟩
            have h2 := List.pairwise_iff_getElem.1 hpr.out t m (by omega) hmP (by omega)
            have g1 : P.getD t zp = P[t]'(by omega) := by rw [List.getD_eq_getElem?_getD, List.getElem?_eq_getElem (by omega : t < P.length)]; rfl
            have g2 : P[m]'hmP = ⟨(k : Int), f.n⟩ := by rw [← hpf, List.getD_eq_getElem?_getD, List.getElem?_eq_getElem hmP]; rfl
            rw [g2] at h2
            rw [g1]
            exact h2
          clear hat hpf hff hbf
          unfold fa at C4
          obtain ⟨fn, fz, ft, fu, flo, fhi⟩ := f
          unfold fv at C4
          dsimp only at *
          replace C4 := hid C4
          have ls : binOp .lss 9 (.string key) (.string ft) = pure (.bool (lt key ft)) := by simp [binOp, Op.stringOp]
          have gs := Lx.geq_s 9 key fu
          change binOp .geq 9 (.string key) (.string fu) = pure (.bool (!(lt key fu))) at gs
          rw [hb1] at ls
          rw [hb2] at gs
          clear hb1 hb2
          have hkk : ((k : Int) != (k : Int)) = false := bne_self_eq_false _
          have hE0 : Hid (∀ V, Below wr.heap.size wr V → ∀ (g : Nat) (v : Value), wr.cell? ⟨qb, g, none⟩ = some v → V.cell? ⟨qb, g, none⟩ = some v) := fun V b g v h => cell_later h b
          go_wp2_with fail
          refine C4.out.mono ?_
          rintro e w6 ⟨rfl, b6⟩
          obtain ⟨W7, hW7⟩ : ∃ W, W = w6.alloc (.cells #[.int .i64 fn, .int .i64 fz, .string ft, .string fu, .int .u64 flo, .int .u64 fhi] 43) := ⟨_, rfl⟩
          obtain ⟨g7, hg7⟩ : ∃ g, g = w6.heap.size := ⟨_, rfl⟩
          have bx : Below w6.heap.size w6 W7 := by rw [hW7]; exact box_below _ _
          have kx : W7.heap[g7]? = some (.cells #[.int .i64 fn, .int .i64 fz, .string ft, .string fu, .int .u64 flo, .int .u64 fhi] 43) := by rw [hW7, hg7]; exact new_at _ _
          have b67 := Below.up b6 bx
          have x2 := cell_of kx 2 _ rfl
          have x3 := cell_of kx 3 _ rfl
          have y0 := cell_later e0 b67
          have y1 := cell_later e1 b67
          have y0L := y0
          rw [hW7] at y0L
          clear x2 x3
          have b7 := hid (Below.up bm.out b67)
          have hpv : Hid (∀ t, m = t + 1 → ∃ pl pn, W7.cell? ⟨qb, qo + t * 2, none⟩ = some (.int .i64 pl) ∧ W7.cell? ⟨qb, qo + t * 2 + 1, none⟩ = some (.int .i64 pn) ∧ (pl < (k : Int) ∨ (pl = 0 ∧ (k : Int) = 0 ∧ fn < pn))) := by
            intro t ht
            obtain ⟨pl, pn, h1, h2, h3⟩ := hprev.out t ht
            exact ⟨pl, pn, cell_later h1 b67, cell_later h2 b67, h3⟩
          replace hW7 := hid hW7
          replace hg7 := hid hg7
          clear e0 e1 b67 bx kx hprev b6 C4 hE0
          go_wp2_with fail
          rw [← hW7.out, ← hg7.out]
          clear y0L
          by_cases hm0 : m = 0
          · have hz : decide (0 < m) = false := decide_eq_false (by omega)
            clear hm0 hpv
            go_quiet (fail)
            go_wp2_with fail
            go_roundw
            case rel => exact ⟨m + 1, by go_num, by omega, hid (Below.up b7.out (drewN_below _ _))⟩
            case measure => simp [intOf]; omega
          · obtain ⟨t, rfl⟩ : ∃ t, m = t + 1 := ⟨m - 1, by omega⟩
            obtain ⟨pl, pn, p0, p1, hor⟩ := hpv.out t rfl
            have tk0 : (t : Int) < (n : Int) := by omega
            have to0 : (0 : Int) ≤ (t : Int) := by omega
            clear hm0 hpv
            rcases hor with hlt | ⟨rfl, hk0, hpn⟩
            · have g1 : decide ((k : Int) < pl) = false := decide_eq_false (by omega)
              have g2 : (pl == (k : Int)) = false := by rw [beq_eq_false_iff_ne]; omega
              clear hlt
              go_quiet (fail)
              go_wp2_with fail
              go_roundw
              case rel => exact ⟨t + 1 + 1, by go_num, by omega, hid (Below.up b7.out (drewN_below _ _))⟩
              case measure => simp [intOf]; omega
            · obtain rfl : k = 0 := by omega
              have g3 : decide (pn ≤ fn) = false := decide_eq_false (by omega)
              clear hk0 hpn
              go_quiet (fail)
              go_wp2_with fail
              go_roundw
              case rel => exact ⟨t + 1 + 1, by go_num, by omega, hid (Below.up b7.out (drewN_below _ _))⟩
              case measure => simp [intOf]; omega
        · have hme : m = n := by omega
          subst hme
          go_wp2_with fail
          go_ret
          exact ⟨rfl, b4.out⟩
theorem bears_any (a : Option Addr) (len cap : Nat) (L : List (List Fi)) (key : ByteArray) (w : World) (H : Lvs w a len cap L) (hw : wL L ≤ 1048576) :
    Calls Try.prog 8 #[.slice a len cap, .string key] w fun e w' => e = .returned (.bool true) ∧ Below w.heap.size w w' := by
  cases hv : vld L with
  | true => exact bears_yes a len cap L key w H hw hv
  | false => exact bears_no a len cap L key w H hw hv
end Go.Proofs.Ytkpihibeohjfnaa.Lb

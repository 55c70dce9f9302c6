/- The document's Find by its contract. -/
import Derived.Test.YtkpihibeohjfnaaDg
import Derived.Test.YtkpihibeohjfnaaFd
namespace Go.Proofs.Ytkpihibeohjfnaa.Dh
open Go.ChangeShapes Go.WideShapes Go.ChangeAt Go.RowKit
open Go.Proofs.Ytkpihibeohjfnaa.Gr
open Go.Proofs.Ytkpihibeohjfnaa.Ev
open Go.Proofs.Ytkpihibeohjfnaa.Oe
open Go.Proofs.Ytkpihibeohjfnaa.Lv
open Go.Proofs.Ytkpihibeohjfnaa.Vp
open Go.Proofs.Ytkpihibeohjfnaa.Vq
open Go.Proofs.Ytkpihibeohjfnaa.Vr
open Go.Proofs.Ytkpihibeohjfnaa.Vt
open Go.Proofs.Ytkpihibeohjfnaa.Vu (cell_later)
open Go.Proofs.Ytkpihibeohjfnaa.De
open Go.Proofs.Ytkpihibeohjfnaa.Dg
open Go.Proofs.Ytkpihibeohjfnaa.Fd
set_option linter.unusedVariables false
set_option linter.unusedSimpArgs false

theorem fnd_at {L : List (List Fi)} {num : Int} {f : Fi} (hf : f.n = num) {i j : Nat} (hi : i < L.length) (hall : ∀ m : Nat, m < i → no num (lvl L m)) (hj : j < (lvl L i).length) (hn : no num ((lvl L i).take j)) (he : (lvl L i).getD j zf = f) : fnd L num = some (i, f) := by
  cases hv : vld L with
  | false => rw [lvl_no hv] at hj; cases hj
  | true =>
    unfold fnd
    rw [if_pos hv]
    rw [lvl_yes hv hi] at hj hn he
    have := fndL_at hf (L := L) 0 i j hi (fun m hm => by have := hall m hm; rwa [lvl_yes hv (by omega)] at this) hj hn he
    rwa [Nat.zero_add] at this
theorem fnd_none {L : List (List Fi)} {num : Int} (hall : ∀ m : Nat, m < L.length → no num (lvl L m)) : fnd L num = none := by
  unfold fnd
  split
  · rename_i hv
    refine fndL_no 0 (fun fs hfs => ?_)
    obtain ⟨m, hm, e⟩ := List.getElem_of_mem hfs
    have := hall m hm
    rw [lvl_yes hv hm] at this
    rwa [List.getD_eq_getElem?_getD, List.getElem?_eq_getElem hm, Option.getD_some, e] at this
  · rfl
set_option maxRecDepth 100000 in
set_option maxHeartbeats 2000000 in
theorem rfind_any (a : Option Addr) (len cap : Nat) (L : List (List Fi)) (num : Int) (w : World) (H : Lvs w a len cap L) (hw : wL L ≤ 1048576) :
    Calls Try.prog 18 #[.slice a len cap, .int .i64 num] w fun e w' => e = .returned (fa (fnd L num)) ∧ Below w.heap.size w w' := by
  have hlen := hid H.len_eq
  have hcap := H.cap_le
  have hll := wL_len L
  have hn8 : len ≤ 1048576 := by have := hlen.out; omega
  obtain ⟨gr, hgr⟩ : ∃ g, g = w.heap.size := ⟨_, rfl⟩
  obtain ⟨W0, hW0⟩ : ∃ W, W = w.alloc (.cells Z6 43) := ⟨_, rfl⟩
  have k0 : W0.heap[gr]? = some (.cells Z6 43) := by rw [hW0, hgr]; exact new_at _ _
  have b0 : Below w.heap.size w W0 := by rw [hW0]; exact box_below _ _
  have HC : Hid (∀ (i : Int) W, Below w.heap.size w W → Calls Try.prog 45 #[.slice a len cap, .int .i64 i] W fun e w' => ∃ la ln lc, e = .returned (.slice la ln lc) ∧ eFi.Sl w la ln lc (lvl L i) ∧ Below W.heap.size W w') := fun i W b => level_from a len cap L i w W H b hw
  have h8 : Hid (∀ i : Int, (lvl L i).length ≤ 1048576) := fun i => Nat.le_trans (lvl_w L i) hw
  obtain ⟨R, hR⟩ : ∃ R, R = fnd L num := ⟨_, rfl⟩
  rw [← hR]
  have hfat : Hid (∀ {i j : Nat} {f : Fi}, f.n = num → i < len → (∀ m : Nat, m < i → no num (lvl L m)) → j < (lvl L i).length → no num ((lvl L i).take j) → (lvl L i).getD j zf = f → R = some (i, f)) := by
    intro i j f h1 h2 h3 h4 h5 h6; rw [hR]; exact fnd_at h1 (by rw [hlen.out]; exact h2) h3 h4 h5 h6
  have hfno : Hid ((∀ m : Nat, m < len → no num (lvl L m)) → R = none) := by intro h; rw [hR]; exact fnd_none (by rw [hlen.out]; exact h)
  replace k0 := hid k0
  replace hW0 := hid hW0
  replace hgr := hid hgr
  replace b0 := hid b0
  clear H hll hw hR
  go_enter Try.func18, Try.ntmps18
  go_wp2_with fail
  rw [← hW0.out, ← hgr.out]
  go_loopw [4, 6, 7, 8, 9] (fun l0 o0 ii ff jj wr => ∃ i : Nat, l0 = .int .i64 0 ∧ o0 = .bool false ∧ ii = .int .i64 i ∧ i ≤ len ∧ Hid (∀ m : Nat, m < i → no num (lvl L m)) ∧ Hid (wr.heap[gr]? = some (.cells Z6 43)) ∧ Hid (Below w.heap.size w wr)) (fun _ _ ii _ _ _ => len - (intOf ii).toNat)
  case atStart => exact ⟨0, rfl, rfl, rfl, by omega, fun m hm => by omega, k0, b0⟩
  case round =>
    clear k0 b0
    obtain ⟨i, rfl, rfl, rfl, hi, hall, k1, bw⟩ := hrel
    by_cases hlt : i < len
    · have ik0 : (i : Int) < (len : Int) := by omega
      have hc := hid (HC.out (i : Int) wr bw.out)
      have h80 := hid (h8.out (i : Int))
      have hfa : Hid (∀ {j : Nat} {f : Fi}, f.n = num → j < (lvl L i).length → no num ((lvl L i).take j) → (lvl L i).getD j zf = f → R = some (i, f)) := fun h1 h4 h5 h6 => hfat.out h1 hlt hall.out h4 h5 h6
      go_wp2_with (first | (go_at_call 45; refine hc.out.mono ?_; rintro e w1 ⟨la, ln, lc, rfl, S1, B1⟩; obtain ⟨fs, hfs⟩ : ∃ fs, fs = lvl L (i : Int) := ⟨_, rfl⟩; rw [← hfs] at S1 h80 hfa; have hfl := hid S1.n; have hlc := S1.c; have hln8 : ln ≤ 1048576 := (by rw [← S1.n]; exact h80.out); have HF : Hid (∀ W, Below w.heap.size w W → eFi.Sl W la ln lc fs) := fun W b => S1.later b; replace k1 := hid ((B1.block _ (blk_lt k1.out)).trans k1.out); replace bw := hid (Below.up bw.out B1); clear S1 B1; replace hfs := hid hfs))
      clear hc h80
      go_loopw [4, 6, 9] (fun l0 o0 jj wr => ∃ j : Nat, l0 = .int .i64 0 ∧ o0 = .bool false ∧ jj = .int .i64 j ∧ j ≤ ln ∧ Hid (no num (fs.take j)) ∧ Hid (wr.heap[gr]? = some (.cells Z6 43)) ∧ Hid (Below w.heap.size w wr)) (fun _ _ jj _ => ln - (intOf jj).toNat)
      case atStart => exact ⟨0, rfl, rfl, rfl, by omega, (fun f hf => by simp at hf), k1, bw⟩
      case round =>
        clear k1 bw
        obtain ⟨j, rfl, rfl, rfl, hj, hno, k1, bw⟩ := hrel
        by_cases hjl : j < ln
        · obtain ⟨fb, fo, rfl, hat⟩ := get1 (HF.out wr bw.out) j hjl
          have hA := fi_at (hat j hjl)
          rw [show eFi.z = zf from rfl] at hA
          have hjf : j < fs.length := by rw [hfl.out]; exact hjl
          have htk := hid (El.take_snoc (E := eFi) hjf)
          rw [show eFi.z = zf from rfl] at htk
          have hfx : Hid (∀ f, fs.getD j zf = f → f.n = num → R = some (i, f)) := fun f he hf => hfa.out hf hjf hno.out he
          clear hat
          generalize fs.getD j zf = f at *
          obtain ⟨n, z, s, t, lo, hi'⟩ := f
          obtain ⟨e1, e2, e3, e4, e5, e6⟩ := hA
          simp only [show eFi.k = 6 from rfl] at e1 e2 e3 e4 e5 e6
          have jk0 : (j : Int) < (ln : Int) := by omega
          have jo0 : (0 : Int) ≤ (j : Int) := by omega
          by_cases hn : n = num
          · have hnb : (n == num) = true := by rw [hn]; exact beq_self_eq_true _
            have hR := hid (hfx.out _ rfl hn)
            have kr := k1.out
            have q0 := cell_of kr 0 _ rfl
            have z0 := fz_of kr 0
            have q1 := cell_of kr 1 _ rfl
            have z1 := fz_of kr 1
            have q2 := cell_of kr 2 _ rfl
            have z2 := fz_of kr 2
            have q3 := cell_of kr 3 _ rfl
            have z3 := fz_of kr 3
            have q4 := cell_of kr 4 _ rfl
            have z4 := fz_of kr 4
            have q5 := cell_of kr 5 _ rfl
            have z5 := fz_of kr 5
            have hne : fb ≠ gr := by
              intro e
              have h1 := HF.out w (Below.refl _ _)
              obtain ⟨fb', fo', e', hat'⟩ := get1 h1 j hjl
              cases e'
              have h2 := block_lt_of_cell (fi_at (hat' j hjl)).1
              have h3 := hgr.out
              simp at h2
              omega
            have m2 := set6 kr (.int .i64 n) (.int .i64 z) (.string s) (.string t) (.int .u64 lo) (.int .u64 hi')
            have mb := set6_below bw.out (Nat.le_of_eq hgr.out.symm) (.int .i64 n) (.int .i64 z) (.string s) (.string t) (.int .u64 lo) (.int .u64 hi')
            obtain ⟨WA, hWA⟩ : ∃ WA, WA = ((((((wr.setCell ⟨gr, 0, none⟩ (.int .i64 n)).setCell ⟨gr, 1, none⟩ (.int .i64 z)).setCell ⟨gr, 2, none⟩ (.string s)).setCell ⟨gr, 3, none⟩ (.string t)).setCell ⟨gr, 4, none⟩ (.int .u64 lo)).setCell ⟨gr, 5, none⟩ (.int .u64 hi')).drew := ⟨_, rfl⟩
            have m3 : WA.heap[gr]? = some (.cells #[.int .i64 n, .int .i64 z, .string s, .string t, .int .u64 lo, .int .u64 hi'] 43) := by rw [hWA]; exact blk_drew m2
            have mb3 : Below w.heap.size w WA := by rw [hWA]; exact below_drew mb
            have x0 := cell_of m3 0 _ rfl
            have x1 := cell_of m3 1 _ rfl
            have x2 := cell_of m3 2 _ rfl
            have x3 := cell_of m3 3 _ rfl
            have x4 := cell_of m3 4 _ rfl
            have x5 := cell_of m3 5 _ rfl
            replace mb3 := hid mb3
            replace hWA := hid hWA
            clear hn kr m2 mb m3
            go_wp2_with fail
            go_region
            rw [← hWA.out]
            clear q0 z0 q1 z1 q2 z2 q3 z3 q4 z4 q5 z5 e1 e2 e3 e4 e5 e6
            go_wp2_with fail
            exact bodyPost_ret (v := .tuple #[.int .i64 i, .agg #[.int .i64 n, .int .i64 z, .string s, .string t, .int .u64 lo, .int .u64 hi'], .bool true]) (by simp [results, Try.results18, go_sem, fa, fv, zf, x0, x1, x2, x3, x4, x5]) rfl ⟨by rw [hR.out] <;> rfl, mb3.out⟩
          · have hnb : (n == num) = false := by rw [beq_eq_false_iff_ne]; exact hn
            have hno' : Hid (no num (fs.take (j + 1))) := by
              intro f hf
              rw [htk.out] at hf
              rcases List.mem_append.1 hf with h | h
              · exact hno.out f h
              · rw [List.mem_singleton] at h; subst h; exact hn
            clear hn
            go_wp2_with fail
            go_roundw
            case rel => exact ⟨j + 1, rfl, rfl, by go_num, by omega, hno', k1, bw⟩
            case measure => simp [intOf]; omega
        · have hje : j = ln := by omega
          subst hje
          have hall' : Hid (∀ m : Nat, m < i + 1 → no num (lvl L m)) := by
            intro m hm
            by_cases e : m < i
            · exact hall.out m e
            · rw [show m = i by omega, ← hfs.out]
              have := hno.out
              rwa [← hfl.out, List.take_length] at this
          go_wp2_with fail
          go_roundw
          case rel => exact ⟨i + 1, rfl, rfl, by go_num, by omega, hall', k1, bw⟩
          case measure => simp [intOf]; omega
    · have hie : i = len := by omega
      subst hie
      have hR : Hid (R = none) := hfno.out hall.out
      have k4 := k1.out
      have q0 := cell_of k4 0 _ rfl
      have z0 := fz_of k4 0
      have q1 := cell_of k4 1 _ rfl
      have z1 := fz_of k4 1
      have q2 := cell_of k4 2 _ rfl
      have z2 := fz_of k4 2
      have q3 := cell_of k4 3 _ rfl
      have z3 := fz_of k4 3
      have q4 := cell_of k4 4 _ rfl
      have z4 := fz_of k4 4
      have q5 := cell_of k4 5 _ rfl
      have z5 := fz_of k4 5
      have d2 := set6 k4 (.int .i64 0) (.int .i64 0) (.string ⟨#[]⟩) (.string ⟨#[]⟩) (.int .u64 0) (.int .u64 0)
      have b2 := set6_below bw.out (Nat.le_of_eq hgr.out.symm) (.int .i64 0) (.int .i64 0) (.string ⟨#[]⟩) (.string ⟨#[]⟩) (.int .u64 0) (.int .u64 0)
      obtain ⟨WB, hWB⟩ : ∃ WB, WB = ((((((wr.setCell ⟨gr, 0, none⟩ (.int .i64 0)).setCell ⟨gr, 1, none⟩ (.int .i64 0)).setCell ⟨gr, 2, none⟩ (.string ⟨#[]⟩)).setCell ⟨gr, 3, none⟩ (.string ⟨#[]⟩)).setCell ⟨gr, 4, none⟩ (.int .u64 0)).setCell ⟨gr, 5, none⟩ (.int .u64 0)) := ⟨_, rfl⟩
      rw [← hWB] at d2 b2
      have x0 := cell_of d2 0 _ rfl
      have x1 := cell_of d2 1 _ rfl
      have x2 := cell_of d2 2 _ rfl
      have x3 := cell_of d2 3 _ rfl
      have x4 := cell_of d2 4 _ rfl
      have x5 := cell_of d2 5 _ rfl
      replace hWB := hid hWB
      replace b2 := hid b2
      clear k4 d2
      go_wp2_with fail
      rw [← hWB.out]
      clear q0 z0 q1 z1 q2 z2 q3 z3 q4 z4 q5 z5
      exact bodyPost_ret (v := fa none) (by simp [results, Try.results18, go_sem, fa, fv, zf, x0, x1, x2, x3, x4, x5]) rfl ⟨by rw [hR.out] <;> rfl, b2.out⟩
end Go.Proofs.Ytkpihibeohjfnaa.Dh

/- Numbers, Size, Below of the document, Size and Below of the program, the law's ints and names. -/
import Derived.Test.YtkpihibeohjfnaaDe
import Derived.Test.YtkpihibeohjfnaaWi
namespace Go.Proofs.Ytkpihibeohjfnaa.Dg
open Go.ChangeShapes Go.WideShapes Go.ChangeAt Go.RowKit
open Go.Proofs.Ytkpihibeohjfnaa.Gr
open Go.Proofs.Ytkpihibeohjfnaa.Ev
open Go.Proofs.Ytkpihibeohjfnaa.Oe
open Go.Proofs.Ytkpihibeohjfnaa.Lv
open Go.Proofs.Ytkpihibeohjfnaa.Vp
open Go.Proofs.Ytkpihibeohjfnaa.Vq
open Go.Proofs.Ytkpihibeohjfnaa.Vr
open Go.Proofs.Ytkpihibeohjfnaa.Vt
open Go.Proofs.Ytkpihibeohjfnaa.Vu (cell_later)
open Go.Proofs.Ytkpihibeohjfnaa.Vx (adown)
open Go.Proofs.Ytkpihibeohjfnaa.Do
open Go.Proofs.Ytkpihibeohjfnaa.Dv
open Go.Proofs.Ytkpihibeohjfnaa.De
set_option linter.unusedVariables false
set_option linter.unusedSimpArgs false

theorem rnumbers_any (a : Option Addr) (len cap : Nat) (L : List (List Fi)) (w : World) (H : Lvs w a len cap L) (hw : wL L ≤ 1048576) :
    Calls Try.prog 19 #[.slice a len cap] w fun e w' => ∃ v, e = .returned v ∧ Acc eInt w w' v (if vld L = true then srt (nums L) else []) := by
  have c1 := hid (rvalid_any a len cap L w H hw)
  have c2 : Hid (∀ W, Below w.heap.size w W → Calls Try.prog 41 #[.slice a len cap] W fun e w' => ∃ v, e = .returned v ∧ Acc eInt W w' v (srt (nums L))) := fun W b => rnums_any a len cap L W (H.later b) hw
  clear H
  generalize vld L = b at *
  cases b with
  | false =>
    rw [if_neg (by simp)]
    go_enter Try.func19, Try.ntmps19
    go_wp2_with (first | (go_at_call 12; refine c1.out.mono ?_; rintro e w1 ⟨rfl, B1⟩; replace B1 := hid B1))
    go_ret
    exact ⟨_, rfl, (Acc.nil eInt w).later B1.out⟩
  | true =>
    rw [if_pos rfl]
    go_enter Try.func19, Try.ntmps19
    go_wp2_with (first | (go_at_call 12; refine c1.out.mono ?_; rintro e w1 ⟨rfl, B1⟩; replace B1 := hid B1) | (go_at_call 41; refine (c2.out _ B1.out).mono ?_; rintro e w2 ⟨v2, rfl, A2⟩; replace A2 := hid A2))
    go_ret
    exact ⟨_, rfl, adown A2.out B1.out⟩
theorem names_any (w : World) : Calls Try.prog 9 #[] w fun e w' => e = .returned (.bool true) ∧ w' = w := by
  go_enter Try.func9, Try.ntmps9
  go_wp2_with fail
  go_ret
  exact ⟨rfl, rfl⟩
set_option maxHeartbeats 1000000 in
theorem ints_same (a b : Option Addr) (n c d : Nat) (xs : List Int) (w : World) (HA : eInt.Sl w a n c xs) (HB : eInt.Sl w b n d xs) (hn8 : n ≤ 1048576) :
    Calls Try.prog 26 #[.slice a n c, .slice b n d] w fun e w' => e = .returned (.bool true) ∧ Below w.heap.size w w' := by
  have hnb : ((n : Int) != (n : Int)) = false := bne_self_eq_false _
  have hc := HA.c
  have hd := HB.c
  replace HA := hid HA
  replace HB := hid HB
  go_enter Try.func26, Try.ntmps26
  go_wp2_with fail
  go_loopw [5] (fun jj wr => ∃ j : Nat, jj = .int .i64 j ∧ j ≤ n ∧ ∃ q, wr = w.drewN q) (fun jj _ => n - (intOf jj).toNat)
  case atStart => exact ⟨0, rfl, by omega, 0, rfl⟩
  case round =>
    obtain ⟨j, rfl, hj, q, rfl⟩ := hrel
    by_cases hjl : j < n
    · obtain ⟨fb, fo, rfl, hat⟩ := get1 HA.out j hjl
      obtain ⟨gb, go, rfl, hat2⟩ := get1 HB.out j hjl
      have e1 := in_at (hat j hjl)
      have e2 := in_at (hat2 j hjl)
      rw [show eInt.z = 0 from rfl] at e1 e2
      rw [show eInt.k = 1 from rfl, Nat.mul_one] at e1 e2
      clear hat hat2
      generalize xs.getD j 0 = x at *
      have hxx : (x != x) = false := bne_self_eq_false _
      have jk0 : (j : Int) < (n : Int) := by omega
      have jo0 : (0 : Int) ≤ (j : Int) := by omega
      go_wp2_with fail
      go_quiet (fail)
      go_wp2_with fail
      go_roundw
      case rel => exact ⟨j + 1, by go_num, by omega, q + nq, rfl⟩
      case measure => simp [intOf]; omega
    · have hje : j = n := by omega
      subst hje
      go_wp2_with fail
      go_ret
      exact ⟨rfl, drewN_below _ _⟩
theorem may_z {f : Fi} (h : may f = true) : 1 ≤ f.z ∧ f.z ≤ 268435456 := by
  unfold may fr at h
  simp only [Bool.and_eq_true, decide_eq_true_eq] at h
  exact h.2.1
theorem lvl_z (L : List (List Fi)) (i : Int) : ∀ f ∈ lvl L i, 1 ≤ f.z ∧ f.z ≤ 268435456 := by
  intro f hf
  unfold lvl at hf
  split at hf
  · rename_i h
    obtain ⟨hv, h0, h1⟩ := h
    unfold vld at hv
    simp only [Bool.and_eq_true, decide_eq_true_eq] at hv
    have hl := hv.2.1 i.toNat (by omega)
    obtain ⟨j, hj, e⟩ := List.getElem_of_mem hf
    have := hl j hj
    unfold okAt at this
    rw [Bool.and_eq_true] at this
    have hm := this.1
    rw [List.getD_eq_getElem?_getD, List.getElem?_eq_getElem hj, Option.getD_some, e] at hm
    exact may_z hm
  · cases hf
def sz (fs : List Fi) : Int := (fs.map Fi.z).sum
theorem sz_snoc {fs : List Fi} {j : Nat} (h : j < fs.length) : sz (fs.take (j + 1)) = sz (fs.take j) + (fs.getD j zf).z := by
  unfold sz
  rw [El.take_snoc (E := eFi) h]
  simp
  rfl
theorem sz_le {fs : List Fi} (h : ∀ f ∈ fs, 1 ≤ f.z ∧ f.z ≤ 268435456) : ∀ j, j ≤ fs.length → 0 ≤ sz (fs.take j) ∧ sz (fs.take j) ≤ j * 268435456
  | 0, _ => by simp [sz]
  | j + 1, hj => by
    obtain ⟨h1, h2⟩ := sz_le h j (by omega)
    rw [sz_snoc (by omega)]
    have := h _ (El.get_mem (E := eFi) (k := j) (xs := fs) (by omega))
    rw [show eFi.z = zf from rfl] at this
    omega
set_option maxHeartbeats 1000000 in
theorem rsize_any (a : Option Addr) (len cap : Nat) (L : List (List Fi)) (i : Int) (w : World) (H : Lvs w a len cap L) (hw : wL L ≤ 1048576) :
    Calls Try.prog 24 #[.slice a len cap, .int .i64 i] w fun e w' => e = .returned (.int .i64 (sz (lvl L i))) ∧ Below w.heap.size w w' := by
  have hc := hid (level_any a len cap L i w H hw)
  have h8 : (lvl L i).length ≤ 1048576 := Nat.le_trans (lvl_w L i) hw
  have hz := lvl_z L i
  clear H hw
  generalize lvl L i = fs at *
  replace hz := hid (sz_le hz)
  obtain ⟨T, hT⟩ : ∃ T, T = sz fs := ⟨_, rfl⟩
  rw [← hT]
  replace hT := hid hT
  go_enter Try.func24, Try.ntmps24
  go_wp2_with (first | (go_at_call 45; refine hc.out.mono ?_; rintro e w1 ⟨la, ln, lc, rfl, S1, B1⟩; have hlen := hid S1.n; have hlc := S1.c; have hln8 : ln ≤ 1048576 := (by rw [← S1.n]; exact h8); have HF : Hid (eFi.Sl w1 la ln lc fs) := S1.later B1; clear S1; replace B1 := hid B1))
  clear hc h8
  go_loopw [5, 7] (fun v ii wr => ∃ (j : Nat) (S : Int), ii = .int .i64 j ∧ j ≤ ln ∧ v = .int .i64 S ∧ Hid (S = sz (fs.take j)) ∧ wr = w1) (fun _ ii _ => ln - (intOf ii).toNat)
  case atStart => exact ⟨0, 0, rfl, by omega, rfl, rfl, rfl⟩
  case round =>
    obtain ⟨j, S, rfl, hj, rfl, hS, rfl⟩ := hrel
    by_cases hjl : j < ln
    · obtain ⟨fb, fo, rfl, hat⟩ := get1 HF.out j hjl
      have hA := fi_at (hat j hjl)
      rw [show eFi.z = zf from rfl] at hA
      have hjf : j < fs.length := by rw [hlen.out]; exact hjl
      obtain ⟨s1, s2⟩ := hz.out j (by omega)
      obtain ⟨s3, s4⟩ := hz.out (j + 1) (by omega)
      have hsn := sz_snoc hjf
      rw [← hS.out] at s1 s2 hsn
      rw [hsn] at s3 s4
      have hS' := hid hsn.symm
      clear hat hsn hjf
      generalize fs.getD j zf = f at *
      obtain ⟨n, z, s, t, lo, hi'⟩ := f
      obtain ⟨e1, e2, e3, e4, e5, e6⟩ := hA
      simp only [show eFi.k = 6 from rfl] at e1 e2 e3 e4 e5 e6
      dsimp only at s3 s4 hS'
      have jk0 : (j : Int) < (ln : Int) := by omega
      have jo0 : (0 : Int) ≤ (j : Int) := by omega
      have r1 : S + z ≤ 9223372036854775807 := by omega
      have r2 : -9223372036854775808 ≤ S + z := by omega
      go_wp2_with fail
      go_roundw
      case rel => exact ⟨j + 1, S + z, by go_num, by omega, by first | rfl | go_num, hS', trivial⟩
      case measure => simp [intOf]; omega
    · have hje : j = ln := by omega
      subst hje
      have hTT : Hid (S = T) := by
        show _ = _
        rw [hS.out, hT.out, ← hlen.out, List.take_length]
      go_wp2_with fail
      go_ret
      exact ⟨ret_int hTT.out, B1.out⟩
set_option maxHeartbeats 2000000 in
theorem size_any (a : Option Addr) (len cap : Nat) (L : List (List Fi)) (i : Int) (w : World) (H : Lvs w a len cap L) (hw : wL L ≤ 1048576) :
    Calls Try.prog 23 #[.slice a len cap, .int .i64 i] w fun e w' => e = .returned (.int .i64 (sz (lvl L i))) ∧ Below w.heap.size w w' := by
  have hlen := H.len_eq
  have hcap := H.cap_le
  have hll := wL_len L
  have hn8 : len ≤ 1048576 := by omega
  have hc := hid (valid_any a len cap L w H hw)
  have ht := hid (fun W => isThere_any a len cap i W hn8 hcap)
  cases hv : vld L with
  | false =>
    have he : lvl L i = [] := by unfold lvl; rw [if_neg (by rw [hv]; simp)]
    rw [he]
    rw [hv] at hc
    clear H hlen hll hv hw he
    go_enter Try.func23, Try.ntmps23
    go_wp2_with (first | (go_at_call 11; refine hc.out.mono ?_; rintro e w1 ⟨rfl, B1⟩; replace B1 := hid B1))
    go_ret
    exact ⟨rfl, B1.out⟩
  | true =>
    rw [hv] at hc
    cases hf : fr 0 i ((len : Int) - 1) with
    | false =>
      have he : lvl L i = [] := by
        unfold lvl
        rw [if_neg]
        intro h
        unfold fr at hf
        simp at hf
        omega
      rw [he]
      rw [hf] at ht
      clear H hlen hll hv hw he hf
      go_enter Try.func23, Try.ntmps23
      go_wp2_with (first | (go_at_call 11; refine hc.out.mono ?_; rintro e w1 ⟨rfl, B1⟩; replace B1 := hid B1) | (go_at_call 46; refine (ht.out _).mono ?_; rintro e w2 ⟨rfl, hw2⟩; subst hw2))
      go_ret
      exact ⟨rfl, B1.out⟩
    | true =>
      rw [hf] at ht
      have hf' := hf
      unfold fr at hf'
      simp only [Bool.and_eq_true, decide_eq_true_eq] at hf'
      obtain ⟨k, hk⟩ : ∃ k : Nat, i = k := ⟨i.toNat, by omega⟩
      subst hk
      have hkl : k < len := by omega
      have he : lvl L (k : Int) = L.getD k [] := by unfold lvl; rw [if_pos ⟨hv, by omega, by omega⟩]; rfl
      have h8 : (lvl L (k : Int)).length ≤ 1048576 := Nat.le_trans (lvl_w L _) hw
      have hz := lvl_z L (k : Int)
      obtain ⟨lb, lof, la, ln, lc, rfl, cl0, FS, hln⟩ := H.at k hkl
      rw [← he] at FS hln
      have hcl : Hid (∀ W, Below w.heap.size w W → W.cell? _ = _) := fun W b => (b.cell (block_lt_of_cell cl0)).trans cl0
      generalize lvl L (k : Int) = fs at *
      replace hz := hid (sz_le hz)
      have hlc := FS.c
      have hln8 : ln ≤ 1048576 := by omega
      have ik0 : (k : Int) < (len : Int) := by omega
      have ok0 : (0 : Int) ≤ (k : Int) := by omega
      have HF : Hid (∀ W, Below w.heap.size w W → eFi.Sl W la ln lc fs) := fun W b => FS.later b
      obtain ⟨T, hT⟩ : ∃ T, T = sz fs := ⟨_, rfl⟩
      rw [← hT]
      replace hT := hid hT
      replace hln := hid hln
      clear H hlen hll hv hw he hf hf' h8 FS cl0
      go_enter Try.func23, Try.ntmps23
      go_wp2_with (first | (go_at_call 11; refine hc.out.mono ?_; rintro e w1 ⟨rfl, B1⟩; have cl := hcl.out _ B1; replace B1 := hid B1) | (go_at_call 46; refine (ht.out _).mono ?_; rintro e w2 ⟨rfl, hw2⟩; subst hw2))
      go_loopw [5, 22] (fun v ii wr => ∃ (j : Nat) (S : Int), ii = .int .i64 j ∧ j ≤ ln ∧ v = .int .i64 S ∧ Hid (S = sz (fs.take j)) ∧ Hid (Below w.heap.size w wr)) (fun _ ii _ => ln - (intOf ii).toNat)
      case atStart => exact ⟨0, 0, rfl, by omega, rfl, rfl, B1⟩
      case round =>
        clear B1 cl
        obtain ⟨j, S, rfl, hj, rfl, hS, bw⟩ := hrel
        by_cases hjl : j < ln
        · obtain ⟨fb, fo, rfl, hat⟩ := get1 (HF.out wr bw.out) j hjl
          have hA := fi_at (hat j hjl)
          rw [show eFi.z = zf from rfl] at hA
          have hjf : j < fs.length := by rw [← hln.out]; exact hjl
          obtain ⟨s1, s2⟩ := hz.out j (by omega)
          obtain ⟨s3, s4⟩ := hz.out (j + 1) (by omega)
          have hsn := sz_snoc hjf
          rw [← hS.out] at s1 s2 hsn
          rw [hsn] at s3 s4
          have hS' := hid hsn.symm
          clear hat hsn hjf
          generalize fs.getD j zf = f at *
          obtain ⟨n, z, s, t, lo, hi'⟩ := f
          obtain ⟨e1, e2, e3, e4, e5, e6⟩ := hA
          simp only [show eFi.k = 6 from rfl] at e1 e2 e3 e4 e5 e6
          dsimp only at s3 s4 hS'
          have jk0 : (j : Int) < (ln : Int) := by omega
          have jo0 : (0 : Int) ≤ (j : Int) := by omega
          have r1 : S + z ≤ 9223372036854775807 := by omega
          have r2 : -9223372036854775808 ≤ S + z := by omega
          have bw1 : Hid (Below w.heap.size w (wr.alloc (.cells #[.int .i64 n, .int .i64 z, .string s, .string t, .int .u64 lo, .int .u64 hi'] 43))) := Below.up bw.out (box_below _ _)
          go_wp2_with fail
          go_roundw
          case rel => exact ⟨j + 1, S + z, by go_num, by omega, by first | rfl | go_num, hS', bw1⟩
          case measure => simp [intOf]; omega
        · have hje : j = ln := by omega
          subst hje
          have hTT : Hid (S = T) := by
            show _ = _
            rw [hS.out, hT.out, hln.out, List.take_length]
          go_wp2_with fail
          go_ret
          exact ⟨ret_int hTT.out, bw.out⟩
/-- The files of the levels below one. -/
def bl (L : List (List Fi)) (lv : Int) (i : Nat) : List Fi := (List.range i).flatMap fun (k : Nat) => if lv < (k : Int) then lvl L (k : Int) else []
theorem bl_succ (L : List (List Fi)) (lv : Int) (i : Nat) : bl L lv (i + 1) = bl L lv i ++ if lv < (i : Int) then lvl L i else [] := by
  unfold bl; rw [List.range_succ, List.flatMap_append]; simp
theorem lvl_no {L : List (List Fi)} (h : vld L = false) (i : Int) : lvl L i = [] := by unfold lvl; rw [if_neg (fun k => by rw [h] at k; cases k.1)]
theorem lvl_yes {L : List (List Fi)} (h : vld L = true) {k : Nat} (hk : k < L.length) : lvl L k = L.getD k [] := by
  unfold lvl; rw [if_pos ⟨h, by omega, by omega⟩]; rfl
theorem bl_no {L : List (List Fi)} (h : vld L = false) (lv : Int) : ∀ i, bl L lv i = []
  | 0 => rfl
  | i + 1 => by rw [bl_succ, bl_no h lv i, lvl_no h]; simp
theorem bl_len (L : List (List Fi)) (lv : Int) : ∀ i, i ≤ L.length → (bl L lv i).length ≤ (nums (L.take i)).length
  | 0, _ => Nat.zero_le _
  | i + 1, hi => by
    have h1 := bl_len L lv i (by omega)
    rw [bl_succ, nums_snoc (by omega), List.length_append, List.length_append, List.length_map]
    have : (if lv < (i : Int) then lvl L i else []).length ≤ (L.getD i []).length := by
      split
      · unfold lvl; split
        · exact Nat.le_refl _
        · exact Nat.zero_le _
      · exact Nat.zero_le _
    omega
theorem bl_len8 {L : List (List Fi)} (lv : Int) (hw : wL L ≤ 1048576) {i : Nat} (hi : i ≤ L.length) : (bl L lv i).length ≤ 1048576 := Nat.le_trans (bl_len L lv i hi) (Nat.le_trans (nums_take i) hw)
set_option maxHeartbeats 1000000 in
theorem rbelow_any (a : Option Addr) (len cap : Nat) (L : List (List Fi)) (lv : Int) (w : World) (H : Lvs w a len cap L) (hw : wL L ≤ 1048576) :
    Calls Try.prog 28 #[.slice a len cap, .int .i64 lv] w fun e w' => ∃ v, e = .returned v ∧ Acc eFi w w' v (bl L lv len) := by
  have hlen := hid H.len_eq
  have hcap := H.cap_le
  have hll := wL_len L
  have hn8 : len ≤ 1048576 := by have := hlen.out; omega
  have HC : Hid (∀ (i : Int) W, Below w.heap.size w W → Calls Try.prog 45 #[.slice a len cap, .int .i64 i] W fun e w' => ∃ la ln lc, e = .returned (.slice la ln lc) ∧ eFi.Sl w la ln lc (lvl L i) ∧ Below W.heap.size W w') := fun i W b => level_from a len cap L i w W H b hw
  have h8 : Hid (∀ {i : Nat}, i ≤ len → (bl L lv i).length ≤ 1048576) := fun {i} h => bl_len8 lv hw (by rw [hlen.out]; exact h)
  clear H hll hw
  go_enter Try.func28, Try.ntmps28
  go_wp2_with fail
  go_loopw [5, 6] (fun v ii wr => ∃ (i : Nat) (a : Option Addr) (n c : Nat), ii = .int .i64 i ∧ i ≤ len ∧ v = .slice a n c ∧ Acc eFi w wr (.slice a n c) (bl L lv i)) (fun _ ii _ => len - (intOf ii).toNat)
  case atStart => exact ⟨0, _, _, _, rfl, by omega, rfl, Acc.nil _ _⟩
  case round =>
    obtain ⟨i, ao, n0, c0, rfl, hi, rfl, A⟩ := hrel
    by_cases hlt : i < len
    · have ik0 : (i : Int) < (len : Int) := by omega
      have hs := hid (bl_succ L lv i)
      have hx8 := h8.out (i := i + 1) (by omega)
      rw [hs.out, List.length_append] at hx8
      by_cases hlv : lv < (i : Int)
      · rw [if_pos hlv] at hs hx8
        have hc := hid (HC.out (i : Int) wr A.lo)
        have hap : Hid (∀ la ln lc w2, eFi.Sl w la ln lc (lvl L i) → Below wr.heap.size wr w2 → ∃ a' n' c' W', (Builtin.append_ #[39, 39] 39 #[.slice ao n0 c0, .slice la ln lc]).run Try.prog w2 = .ok (.slice a' n' c') W' ∧ Acc eFi w W' (.slice a' n' c') (bl L lv (i + 1))) := by
          intro la ln lc w2 S b
          have hn := S.n
          obtain ⟨v', W', r1, A'⟩ := (A.later b).app (S.later (Below.up A.lo b)) (by show (_ + ln) * 64 ≤ _; omega) (by omega)
          rw [← hs.out] at A'
          obtain ⟨a', c', hv'⟩ := A'.shape
          subst hv'
          exact ⟨_, _, _, W', r1, A'⟩
        clear A
        go_wp2_with (first | (go_at_call 45; refine hc.out.mono ?_; rintro e w1 ⟨la, ln, lc, rfl, S1, B1⟩; obtain ⟨a', n', c', W', r2, A2⟩ := hap.out la ln lc w1 S1 B1; clear S1; replace B1 := hid B1; replace r2 := hid r2; replace A2 := hid A2) | (at_builtin; refine wpList_append_run rfl (.tmp 16) (.tmp 19) 39 39 rfl (.slice ao n0 c0) (.slice la ln lc) (.slice a' n' c') rfl rfl r2.out ?_))
        go_roundw
        case rel => exact ⟨i + 1, _, _, _, by go_num, by omega, rfl, A2.out⟩
        case measure => simp [intOf]; omega
      · rw [if_neg hlv, List.append_nil] at hs
        have hlv' : decide (lv < (i : Int)) = false := decide_eq_false hlv
        rw [← hs.out] at A
        replace A := hid A
        clear hlv
        go_wp2_with fail
        go_roundw
        case rel => exact ⟨i + 1, _, _, _, by go_num, by omega, rfl, A.out⟩
        case measure => simp [intOf]; omega
    · have hie : i = len := by omega
      subst hie
      replace A := hid A
      go_wp2_with fail
      go_ret
      exact ⟨_, rfl, A.out⟩
set_option maxHeartbeats 2000000 in
theorem below_any (a : Option Addr) (len cap : Nat) (L : List (List Fi)) (lv : Int) (w : World) (H : Lvs w a len cap L) (hw : wL L ≤ 1048576) :
    Calls Try.prog 21 #[.slice a len cap, .int .i64 lv] w fun e w' => ∃ v, e = .returned v ∧ Acc eFi w w' v (bl L lv len) := by
  have hlen := hid H.len_eq
  have hcap := H.cap_le
  have hll := wL_len L
  have hn8 : len ≤ 1048576 := by have := hlen.out; omega
  have hc := hid (valid_any a len cap L w H hw)
  have h8 : Hid (∀ {i : Nat}, i ≤ len → (bl L lv i).length ≤ 1048576) := fun {i} h => bl_len8 lv hw (by rw [hlen.out]; exact h)
  cases hv : vld L with
  | false =>
    rw [bl_no hv]
    rw [hv] at hc
    clear H hll hw hv
    go_enter Try.func21, Try.ntmps21
    go_wp2_with fail
    refine wp_scope_straight ?_
    go_wp2_with (first | (go_at_call 11; refine hc.out.mono ?_; rintro e w1 ⟨rfl, B1⟩; replace B1 := hid B1))
    simp only [Exit.noGoto]
    go_ret
    exact ⟨_, rfl, (Acc.nil eFi w).later B1.out⟩
  | true =>
    rw [hv] at hc
    have HL : Hid (∀ W, Below w.heap.size w W → Lvs W a len cap L) := fun W b => H.later b
    have hly : Hid (∀ {k : Nat}, k < len → lvl L k = L.getD k []) := fun {k} h => lvl_yes hv (by rw [hlen.out]; exact h)
    clear H hll hw hv
    go_enter Try.func21, Try.ntmps21
    go_wp2_with fail
    refine wp_scope_straight ?_
    go_wp2_with (first | (go_at_call 11; refine hc.out.mono ?_; rintro e w1 ⟨rfl, B1⟩; replace B1 := hid B1))
    refine wp_label ?_
    go_wp2_with fail
    go_loopw [5, 13] (fun v ii wr => ∃ (i : Nat) (a : Option Addr) (n c : Nat), ii = .int .i64 i ∧ i ≤ len ∧ v = .slice a n c ∧ Acc eFi w wr (.slice a n c) (bl L lv i)) (fun _ ii _ => len - (intOf ii).toNat)
    case atStart => exact ⟨0, _, _, _, rfl, by omega, rfl, (Acc.nil _ _).later B1.out⟩
    case round =>
      clear B1
      obtain ⟨i, ao, n0, c0, rfl, hi, rfl, A⟩ := hrel
      by_cases hlt : i < len
      · have ik0 : (i : Int) < (len : Int) := by omega
        have ok0 : (0 : Int) ≤ (i : Int) := by omega
        have hs := hid (bl_succ L lv i)
        have hx8 := h8.out (i := i + 1) (by omega)
        rw [hs.out, List.length_append] at hx8
        obtain ⟨lb, lof, la, ln, lc, rfl, cl0, FS, hln⟩ := (HL.out w (Below.refl _ _)).at i hlt
        have cl := cell_later cl0 A.lo
        by_cases hlv : lv < (i : Int)
        · rw [if_pos hlv, hly.out hlt] at hs hx8
          have hlv' : decide ((i : Int) ≤ lv) = false := decide_eq_false (by omega)
          have hn := FS.n
          obtain ⟨v', W', r1, A'⟩ := A.app (FS.later A.lo) (by show (_ + ln) * 64 ≤ _; omega) (by omega)
          rw [← hs.out] at A'
          obtain ⟨a', c', hv'⟩ := A'.shape
          subst hv'
          generalize (bl L lv (i + 1)).length = n' at *
          change (Builtin.append_ #[39, 39] 39 #[_, _]).run Try.prog wr = _ at r1
          replace r1 := hid r1
          replace A' := hid A'
          clear A FS cl0 hlv hn hln hs hx8
          go_wp2_with (first | (at_builtin; refine wpList_append_run rfl (.tmp 21) (.tmp 22) 39 39 rfl (.slice ao n0 c0) (.slice la ln lc) (.slice a' n' c') rfl rfl r1.out ?_))
          go_roundw
          case rel => exact ⟨i + 1, _, _, _, by go_num, by omega, rfl, A'.out⟩
          case measure => simp [intOf]; omega
        · rw [if_neg hlv, List.append_nil] at hs
          have hlv' : (i : Int) ≤ lv := by omega
          rw [← hs.out] at A
          replace A := hid A
          clear hlv FS cl0 hln hs hx8
          go_wp2_with fail
          go_roundw
          case rel => exact ⟨i + 1, _, _, _, by go_num, by omega, rfl, A.out⟩
          case measure => simp [intOf]; omega
      · have hie : i = len := by omega
        subst hie
        replace A := hid A
        go_wp2_with fail
        simp only [Exit.noGoto]
        go_ret
        exact ⟨_, rfl, A.out⟩
end Go.Proofs.Ytkpihibeohjfnaa.Dg

/- The document's Asks by its contract. -/
import Derived.Test.YtkpihibeohjfnaaDe
import Derived.Test.YtkpihibeohjfnaaOn
namespace Go.Proofs.Ytkpihibeohjfnaa.Df
open Go.ChangeShapes Go.WideShapes Go.ChangeAt Go.RowKit
open Go.Proofs.Ytkpihibeohjfnaa.Gr
open Go.Proofs.Ytkpihibeohjfnaa.Ev
open Go.Proofs.Ytkpihibeohjfnaa.Oe
open Go.Proofs.Ytkpihibeohjfnaa.Lv
open Go.Proofs.Ytkpihibeohjfnaa.Vp
open Go.Proofs.Ytkpihibeohjfnaa.Vq
open Go.Proofs.Ytkpihibeohjfnaa.Vr
open Go.Proofs.Ytkpihibeohjfnaa.Vt
open Go.Proofs.Ytkpihibeohjfnaa.Vu (cell_later)
open Go.Proofs.Ytkpihibeohjfnaa.Ba
open Go.Proofs.Ytkpihibeohjfnaa.Aq
open Go.Proofs.Ytkpihibeohjfnaa.Dm
open Go.Proofs.Ytkpihibeohjfnaa.De
open Go.Proofs.Ytkpihibeohjfnaa.Lx (lt)
set_option linter.unusedVariables false
set_option linter.unusedSimpArgs false

/-- What the document's Asks has behind the levels below i. -/
def rk (L : List (List Fi)) (key : ByteArray) (i : Nat) : List Pl := ask0 key (lvl L 0) (dn (lvl L 0).length) ++ (List.range i).flatMap fun k => if k = 0 then [] else askL key k (lvl L k)
theorem rk_one (L : List (List Fi)) (key : ByteArray) : rk L key 1 = ask0 key (lvl L 0) (dn (lvl L 0).length) := by
  unfold rk; simp
theorem rk_succ (L : List (List Fi)) (key : ByteArray) {i : Nat} (h : 0 < i) : rk L key (i + 1) = rk L key i ++ askL key i (lvl L i) := by
  unfold rk
  rw [List.range_succ, List.flatMap_append, List.append_assoc]
  congr 1
  congr 1
  simp; intro e; omega
theorem ask0_len (key : ByteArray) (fs : List Fi) (is : List Nat) : (ask0 key fs is).length ≤ is.length := by
  unfold ask0; rw [List.length_map]; exact List.length_filter_le _ _
theorem askL_len (key : ByteArray) (k : Nat) (fs : List Fi) : (askL key k fs).length ≤ fs.length := by
  unfold askL; rw [List.length_map]; exact List.length_filter_le _ _
theorem rk_len (L : List (List Fi)) (key : ByteArray) (hw : wL L ≤ 1048576) : ∀ i, (rk L key (i + 1)).length ≤ 1048576 + i * 1048576
  | 0 => by
    rw [rk_one]
    have h1 := ask0_len key (lvl L 0) (dn (lvl L 0).length)
    have h2 := lvl_w L 0
    rw [dn_len] at h1
    omega
  | i + 1 => by
    rw [rk_succ L key (by omega), List.length_append]
    have h1 := rk_len L key hw i
    have h2 := askL_len key (i + 1) (lvl L ((i + 1 : Nat) : Int))
    have h3 := lvl_w L ((i + 1 : Nat) : Int)
    omega
theorem lvl_no {L : List (List Fi)} (h : ¬ vld L = true) (i : Int) : lvl L i = [] := by unfold lvl; rw [if_neg (fun k => h k.1)]
theorem lvl_yes {L : List (List Fi)} (h : vld L = true) {k : Nat} (hk : k < L.length) : lvl L k = L.getD k [] := by
  unfold lvl; rw [if_pos ⟨h, by omega, by omega⟩]; rfl
theorem rk_no {L : List (List Fi)} (h : ¬ vld L = true) (key : ByteArray) : ∀ i, rk L key (i + 1) = []
  | 0 => by rw [rk_one, lvl_no h]; rfl
  | i + 1 => by rw [rk_succ L key (by omega), rk_no h key i, lvl_no h]; rfl
theorem rk_yes {L : List (List Fi)} (h : vld L = true) (key : ByteArray) : ∀ i, i + 1 ≤ L.length → rk L key (i + 1) = askTo L key (i + 1)
  | 0, hi => by
    have e := lvl_yes h (k := 0) (by omega)
    rw [rk_one, askTo_succ]
    have e' : lvl L 0 = L.getD 0 [] := e
    rw [e']
    unfold askTo askAt; simp
  | i + 1, hi => by
    rw [rk_succ L key (by omega), rk_yes h key i (by omega), askTo_succ, askTo_succ]
    rw [lvl_yes h (by omega)]
    rw [← askTo_succ]
    congr 1
theorem rk_all (L : List (List Fi)) (key : ByteArray) {n : Nat} (hn : n = L.length ∨ (n = 1 ∧ L.length = 0)) (h1 : 1 ≤ n) : rk L key n = asks L key := by
  obtain ⟨m, rfl⟩ : ∃ m, n = m + 1 := ⟨n - 1, by omega⟩
  unfold asks
  by_cases h : vld L = true
  · rw [if_pos h]
    have hl : 1 ≤ L.length := by
      have := h; unfold vld fr at this; simp at this; omega
    rcases hn with e | ⟨_, e⟩
    · rw [← e]; exact rk_yes h key m (by omega)
    · omega
  · rw [if_neg h]; exact rk_no h key m
theorem askL_snoc (key : ByteArray) (k : Nat) {fs : List Fi} {j : Nat} (h : j < fs.length) : askL key k (fs.take (j + 1)) = askL key k (fs.take j) ++ if bears key (fs.getD j zf) = true then [⟨(k : Int), (fs.getD j zf).n⟩] else [] := by
  unfold askL
  rw [El.take_snoc (E := eFi) h, List.filter_append, List.map_append]
  congr 1
  show (List.filter (bears key) [fs.getD j zf]).map _ = _
  cases hb : bears key (fs.getD j zf)
  · rw [List.filter_cons_of_neg (by rw [hb]; exact Bool.false_ne_true)]; rfl
  · rw [List.filter_cons_of_pos hb]; rfl
set_option maxRecDepth 20000 in
set_option maxHeartbeats 4000000 in
theorem rasks_any (a : Option Addr) (len cap : Nat) (L : List (List Fi)) (key : ByteArray) (w : World) (H : Lvs w a len cap L) (hw : wL L ≤ 1048576) :
    Calls Try.prog 31 #[.slice a len cap, .string key] w fun e w' => ∃ v, e = .returned v ∧ Acc ePl w w' v (asks L key) := by
  have hlen := hid H.len_eq
  have hcap := H.cap_le
  have hll := wL_len L
  have hn8 : len ≤ 1048576 := by have := hlen.out; omega
  have HC : Hid (∀ (i : Int) W, Below w.heap.size w W → Calls Try.prog 45 #[.slice a len cap, .int .i64 i] W fun e w' => ∃ la ln lc, e = .returned (.slice la ln lc) ∧ eFi.Sl w la ln lc (lvl L i) ∧ Below W.heap.size W w') := fun i W b => level_from a len cap L i w W H b hw
  have h8 : Hid (∀ i : Int, (lvl L i).length ≤ 1048576) := fun i => Nat.le_trans (lvl_w L i) hw
  have hr8 := hid (rk_len L key hw)
  have hone := hid (rk_one L key)
  have hsucc : Hid (∀ {i : Nat}, 0 < i → rk L key (i + 1) = rk L key i ++ askL key i (lvl L i)) := fun h => rk_succ L key h
  have hend : Hid (∀ {n : Nat}, (n = len ∨ (n = 1 ∧ len = 0)) → 1 ≤ n → rk L key n = asks L key) := by intro n h h1; rw [← hlen.out] at h; exact rk_all L key h h1
  have hp : Hid (∀ f : Fi, ∀ W, Calls Try.prog 54 #[fv f, .string key] W fun e w' => e = .returned (.bool (bears key f)) ∧ Below W.heap.size W w') := fun f W => rbears_any f key W
  clear H hw hll
  have hc := hid (HC.out 0 w (Below.refl _ _))
  have h80 := hid (h8.out 0)
  go_enter Try.func31, Try.ntmps31
  go_wp2_with (first | (go_at_call 45; refine hc.out.mono ?_; rintro e w1 ⟨la, ln, lc, rfl, S1, B1⟩; obtain ⟨fs, hfs⟩ : ∃ fs, fs = lvl L 0 := ⟨_, rfl⟩; rw [← hfs] at S1 h80 hone; have hfl := hid S1.n; have hlc := S1.c; have hln8 : ln ≤ 1048576 := (by rw [← S1.n]; exact h80.out); have HF : Hid (∀ W, Below w.heap.size w W → eFi.Sl W la ln lc fs) := fun W b => S1.later b; clear S1; replace B1 := hid B1; replace hfs := hid hfs))
  clear hc h80
  rw [hfl.out] at hone
  go_loopw [5, 7] (fun v ii wr => ∃ (m : Nat) (a : Option Addr) (n c : Nat), ii = .int .i64 ((m : Int) - 1) ∧ m ≤ ln ∧ v = .slice a n c ∧ Acc ePl w wr (.slice a n c) (ask0 key fs ((dn ln).take (ln - m)))) (fun _ ii _ => (intOf ii + 1).toNat)
  case atStart => exact ⟨ln, _, _, _, rfl, by omega, rfl, by rw [Nat.sub_self]; exact (Acc.nil _ _).later B1.out⟩
  case round =>
    clear B1
    obtain ⟨m, ao, n0, c0, rfl, hm, rfl, A⟩ := hrel
    by_cases hm0 : m = 0
    · subst hm0
      rw [show (((0 : Nat) : Int) - 1) = -1 from rfl]
      rw [dn_all] at A
      rw [← hone.out] at A
      replace A := hid A
      clear hone HF hfl hm
      go_wp2_with fail
      go_loopw [5, 6, 8, 9] (fun v ff ii jj wr => ∃ (i : Nat) (a : Option Addr) (n c : Nat), ii = .int .i64 i ∧ 1 ≤ i ∧ (i ≤ len ∨ i = 1) ∧ v = .slice a n c ∧ Acc ePl w wr (.slice a n c) (rk L key i)) (fun _ _ ii _ _ => len - (intOf ii).toNat)
      case atStart => exact ⟨1, _, _, _, rfl, by omega, .inr rfl, rfl, A.out⟩
      case round =>
        clear A hfs hlc hln8
        obtain ⟨i, ao, n0, c0, rfl, hi1, hi, rfl, A⟩ := hrel
        by_cases hlt : i < len
        · have ik0 : (i : Int) < (len : Int) := by omega
          have hc := hid (HC.out (i : Int) wr A.lo)
          have h80 := hid (h8.out (i : Int))
          have hsu := hid (hsucc.out hi1)
          have hrl := hr8.out (i - 1)
          rw [show i - 1 + 1 = i by omega] at hrl
          replace A := hid A
          go_wp2_with (first | (go_at_call 45; refine hc.out.mono ?_; rintro e w1 ⟨la, ln, lc, rfl, S1, B1⟩; obtain ⟨fs, hfs⟩ : ∃ fs, fs = lvl L (i : Int) := ⟨_, rfl⟩; rw [← hfs] at S1 h80 hsu; have hfl := hid S1.n; have hlc := S1.c; have hln8 : ln ≤ 1048576 := (by rw [← S1.n]; exact h80.out); have A1 := A.out.later B1; have HF : Hid (∀ W, Below w.heap.size w W → eFi.Sl W la ln lc fs) := fun W b => S1.later b; clear S1 B1; replace hfs := hid hfs; replace A1 := hid A1))
          clear hc h80 A
          obtain ⟨X, hX⟩ : ∃ X, X = rk L key i := ⟨_, rfl⟩
          rw [← hX] at hrl hsu A1
          replace hX := hid hX
          go_loopw [5, 9] (fun v jj wr => ∃ (j : Nat) (a : Option Addr) (n c : Nat), jj = .int .i64 j ∧ j ≤ ln ∧ v = .slice a n c ∧ Acc ePl w wr (.slice a n c) (X ++ askL key i (fs.take j))) (fun _ jj _ => ln - (intOf jj).toNat)
          case atStart => exact ⟨0, _, _, _, rfl, by omega, rfl, by simpa [askL] using A1.out⟩
          case round =>
            clear A1
            obtain ⟨j, ao, n0, c0, rfl, hj, rfl, A⟩ := hrel
            by_cases hjl : j < ln
            · have hal := askL_len key i (fs.take j)
              rw [List.length_take, hfl.out, Nat.min_eq_left hj] at hal
              have hx8 : (X ++ askL key i (fs.take j)).length ≤ 1099512676352 := by
                rw [List.length_append]
                omega
              have htk : Hid (X ++ askL key i (fs.take (j + 1)) = X ++ askL key i (fs.take j) ++ if bears key (fs.getD j zf) = true then [⟨(i : Int), (fs.getD j zf).n⟩] else []) := by
                show _ = _
                rw [askL_snoc key i (by rw [hfl.out]; exact hjl), List.append_assoc]
              clear hal
              obtain ⟨fb, fo, rfl, hat⟩ := get1 (HF.out wr A.lo) j (by omega)
              have hA := fi_at (hat j (by omega))
              rw [show eFi.z = zf from rfl] at hA
              clear hat
              generalize fs.getD j zf = f at *
              have hcf := hid (hp.out f wr)
              generalize bears key f = P at *
              obtain ⟨n, z, s, t, lo, hi'⟩ := f
              obtain ⟨e1, e2, e3, e4, e5, e6⟩ := hA
              simp only [show eFi.k = 6 from rfl] at e1 e2 e3 e4 e5 e6
              unfold fv at hcf
              dsimp only at hcf htk
              have jk0 : (j : Int) < (ln : Int) := by omega
              have jo0 : (0 : Int) ≤ (j : Int) := by omega
              cases P with
              | false =>
                rw [show (if false = true then [(⟨(i : Int), n⟩ : Pl)] else []) = [] from rfl, List.append_nil] at htk
                replace A := hid A
                go_wp2_with (first | (go_at_call 54; refine hcf.out.mono ?_; rintro e w2 ⟨rfl, b2⟩; replace b2 := hid b2))
                go_roundw
                case rel => exact ⟨j + 1, _, _, _, by go_num, by omega, rfl, by rw [htk.out]; exact A.out.later b2.out⟩
                case measure => simp [intOf]; omega
              | true =>
                rw [show (if true = true then [(⟨(i : Int), n⟩ : Pl)] else []) = [⟨(i : Int), n⟩] from rfl] at htk
                have hq : Hid (∀ w2, Below wr.heap.size wr w2 → _) := fun w2 b => cell_later e1 b
                have hap : Hid (∀ w2, Below wr.heap.size wr w2 → ∃ a' n' c' W', (Builtin.append_ #[25, 25] 25 #[.slice ao n0 c0, .slice (some ⟨w2.heap.size, 0, none⟩) 1 1]).run Try.prog (w2.alloc (.cells #[.int .i64 (i : Int), .int .i64 n] 41)) = .ok (.slice a' n' c') W' ∧ Acc ePl w W' (.slice a' n' c') (X ++ askL key i (fs.take (j + 1)))) := by
                  intro w2 b
                  obtain ⟨v', W', r1, A'⟩ := (A.later b).app1 ⟨(i : Int), n⟩ #[.int .i64 (i : Int), .int .i64 n] rfl (by show (_ + 1) * 16 ≤ _; omega) (by omega)
                  rw [← htk.out] at A'
                  obtain ⟨a', c', hv'⟩ := A'.shape
                  subst hv'
                  exact ⟨_, _, _, W', r1, A'⟩
                clear A
                go_wp2_with (first | (go_at_call 54; refine hcf.out.mono ?_; rintro e w2 ⟨rfl, b2⟩; clear e1 e2 e3 e4 e5 e6; have q0 := hq.out w2 b2; obtain ⟨a', n', c', W', r2, A2⟩ := hap.out w2 b2; replace b2 := hid b2; replace r2 := hid r2; replace A2 := hid A2) | (at_builtin; refine wpList_append_run rfl (.tmp 55) (.tmp 63) 25 25 rfl (.slice ao n0 c0) (.slice (some ⟨w2.heap.size, 0, none⟩) 1 1) (.slice a' n' c') rfl rfl r2.out ?_))
                go_roundw
                case rel => exact ⟨j + 1, _, _, _, by go_num, by omega, rfl, A2.out⟩
                case measure => simp [intOf]; omega
            · have hje : j = ln := by omega
              subst hje
              rw [show fs.take j = fs by rw [← hfl.out, List.take_length], ← hsu.out] at A
              replace A := hid A
              go_wp2_with fail
              go_roundw
              case rel => exact ⟨i + 1, _, _, _, by go_num, by omega, by omega, rfl, A.out⟩
              case measure => simp [intOf]; omega
        · rw [hend.out (by omega) hi1] at A
          have hlt' : decide ((i : Int) < (len : Int)) = false := decide_eq_false (by omega)
          replace A := hid A
          go_wp2_with fail
          go_ret
          exact ⟨_, rfl, A.out⟩
    · obtain ⟨r, hr⟩ : ∃ r, m = r + 1 := ⟨m - 1, by omega⟩
      subst hr
      rw [show ((r + 1 : Nat) : Int) - 1 = (r : Int) by omega]
      have hal := ask0_len key fs ((dn ln).take (ln - (r + 1)))
      rw [List.length_take, dn_len] at hal
      have hx8 : (ask0 key fs ((dn ln).take (ln - (r + 1)))).length ≤ 1048576 := by omega
      have htk : Hid (ask0 key fs ((dn ln).take (ln - r)) = ask0 key fs ((dn ln).take (ln - (r + 1))) ++ if bears key (fs.getD r zf) = true then [⟨0, (fs.getD r zf).n⟩] else []) := by
        show _ = _
        rw [dn_step (by omega), ask0_snoc]
      clear hal hm0 hone
      obtain ⟨fb, fo, rfl, hat⟩ := get1 (HF.out wr A.lo) r (by omega)
      have hA := fi_at (hat r (by omega))
      rw [show eFi.z = zf from rfl] at hA
      clear hat
      generalize fs.getD r zf = f at *
      have hcf := hid (hp.out f wr)
      generalize bears key f = P at *
      obtain ⟨n, z, s, t, lo, hi'⟩ := f
      obtain ⟨e1, e2, e3, e4, e5, e6⟩ := hA
      simp only [show eFi.k = 6 from rfl] at e1 e2 e3 e4 e5 e6
      unfold fv at hcf
      dsimp only at hcf htk
      have jk0 : (r : Int) < (ln : Int) := by omega
      have jo0 : (0 : Int) ≤ (r : Int) := by omega
      cases P with
      | false =>
        rw [show (if false = true then [(⟨0, n⟩ : Pl)] else []) = [] from rfl, List.append_nil] at htk
        replace A := hid A
        go_wp2_with (first | (go_at_call 54; refine hcf.out.mono ?_; rintro e w2 ⟨rfl, b2⟩; replace b2 := hid b2))
        go_roundw
        case rel => exact ⟨r, _, _, _, rfl, by omega, rfl, by rw [htk.out]; exact A.out.later b2.out⟩
        case measure => simp [intOf]
      | true =>
        rw [show (if true = true then [(⟨0, n⟩ : Pl)] else []) = [⟨0, n⟩] from rfl] at htk
        have hq : Hid (∀ w2, Below wr.heap.size wr w2 → _) := fun w2 b => cell_later e1 b
        have hap : Hid (∀ w2, Below wr.heap.size wr w2 → ∃ a' n' c' W', (Builtin.append_ #[25, 25] 25 #[.slice ao n0 c0, .slice (some ⟨w2.heap.size, 0, none⟩) 1 1]).run Try.prog (w2.alloc (.cells #[.int .i64 0, .int .i64 n] 41)) = .ok (.slice a' n' c') W' ∧ Acc ePl w W' (.slice a' n' c') (ask0 key fs ((dn ln).take (ln - r)))) := by
          intro w2 b
          obtain ⟨v', W', r1, A'⟩ := (A.later b).app1 ⟨0, n⟩ #[.int .i64 0, .int .i64 n] rfl (by show (_ + 1) * 16 ≤ _; omega) (by omega)
          rw [← htk.out] at A'
          obtain ⟨a', c', hv'⟩ := A'.shape
          subst hv'
          exact ⟨_, _, _, W', r1, A'⟩
        clear A
        go_wp2_with (first | (go_at_call 54; refine hcf.out.mono ?_; rintro e w2 ⟨rfl, b2⟩; clear e1 e2 e3 e4 e5 e6; have q0 := hq.out w2 b2; obtain ⟨a', n', c', W', r2, A2⟩ := hap.out w2 b2; replace b2 := hid b2; replace r2 := hid r2; replace A2 := hid A2) | (at_builtin; refine wpList_append_run rfl (.tmp 25) (.tmp 32) 25 25 rfl (.slice ao n0 c0) (.slice (some ⟨w2.heap.size, 0, none⟩) 1 1) (.slice a' n' c') rfl rfl r2.out ?_))
        go_roundw
        case rel => exact ⟨r, _, _, _, rfl, by omega, rfl, A2.out⟩
        case measure => simp [intOf]
end Go.Proofs.Ytkpihibeohjfnaa.Df

/- The document's level and Over by their contracts. -/
import Derived.Test.YtkpihibeohjfnaaDv
import Derived.Test.YtkpihibeohjfnaaVx
namespace Go.Proofs.Ytkpihibeohjfnaa.De
open Go.ChangeShapes Go.WideShapes Go.ChangeAt Go.RowKit
open Go.Proofs.Ytkpihibeohjfnaa.Gr
open Go.Proofs.Ytkpihibeohjfnaa.Ev
open Go.Proofs.Ytkpihibeohjfnaa.Oe
open Go.Proofs.Ytkpihibeohjfnaa.Lv
open Go.Proofs.Ytkpihibeohjfnaa.Vp
open Go.Proofs.Ytkpihibeohjfnaa.Vq
open Go.Proofs.Ytkpihibeohjfnaa.Vr
open Go.Proofs.Ytkpihibeohjfnaa.Vt
open Go.Proofs.Ytkpihibeohjfnaa.Vu (cell_later)
open Go.Proofs.Ytkpihibeohjfnaa.Vv
open Go.Proofs.Ytkpihibeohjfnaa.Vx
open Go.Proofs.Ytkpihibeohjfnaa.Dm
open Go.Proofs.Ytkpihibeohjfnaa.Dv
open Go.Proofs.Ytkpihibeohjfnaa.Lx (lt)
set_option linter.unusedVariables false
set_option linter.unusedSimpArgs false

/-- A level of valid levels, none of what there is not. -/
def lvl (L : List (List Fi)) (i : Int) : List Fi := if vld L = true ∧ 0 ≤ i ∧ i < (L.length : Int) then L.getD i.toNat [] else []
theorem lvl_w (L : List (List Fi)) (i : Int) : (lvl L i).length ≤ wL L := by
  unfold lvl
  split
  · rename_i h
    have := wL_at (L := L) (i := i.toNat) (by omega)
    omega
  · exact Nat.zero_le _
theorem over_eq (L : List (List Fi)) (i : Int) (least limit : ByteArray) : (lvl L i).filter (rov least limit) = over L i least limit := by
  unfold lvl over
  by_cases hv : vld L = true
  · by_cases hi : 0 ≤ i ∧ i < (L.length : Int)
    · rw [if_pos ⟨hv, hi⟩]
      have hf : fr 0 i ((L.length : Int) - 1) = true := by unfold fr; simp; omega
      by_cases hl : limit.size = 0 ∨ lt least limit = true
      · rw [if_pos ⟨hv, hf, hl⟩]
        congr 1
        funext f
        unfold rov ovl
        rcases hl with h | h
        · rw [decide_eq_true h]; simp
        · rw [h]; simp
      · rw [if_neg (fun h => hl h.2.2)]
        rw [List.filter_eq_nil_iff]
        intro f _
        unfold rov
        have h1 : ¬ limit.size = 0 := fun h => hl (.inl h)
        have h2 : lt least limit = false := by cases h : lt least limit; rfl; exact absurd (.inr h) hl
        rw [decide_eq_false h1, h2]; simp
    · rw [if_neg (fun h => hi h.2), if_neg]
      · rfl
      · intro h
        have := h.2.1
        unfold fr at this
        simp at this
        omega
  · rw [if_neg (fun h => hv h.1), if_neg (fun h => hv h.1)]
    rfl
set_option maxHeartbeats 1000000 in
theorem level_from (a : Option Addr) (len cap : Nat) (L : List (List Fi)) (i : Int) (w0 w : World) (H : Lvs w0 a len cap L) (b0 : Below w0.heap.size w0 w) (hw : wL L ≤ 1048576) :
    Calls Try.prog 45 #[.slice a len cap, .int .i64 i] w fun e w' => ∃ la ln lc, e = .returned (.slice la ln lc) ∧ eFi.Sl w0 la ln lc (lvl L i) ∧ Below w.heap.size w w' := by
  have hlen := H.len_eq
  have hcap := H.cap_le
  have hll := wL_len L
  have hn8 : len ≤ 1048576 := by omega
  have hc := hid (rvalid_any a len cap L w (H.later b0) hw)
  unfold lvl
  rw [hlen]
  cases hv : vld L with
  | false =>
    rw [if_neg (by simp)]
    rw [hv] at hc
    have hS := hid (El.Sl.none eFi w0)
    clear H hlen hll hv hw
    go_enter Try.func45, Try.ntmps45
    go_wp2_with (first | (go_at_call 12; refine hc.out.mono ?_; rintro e w1 ⟨rfl, B1⟩; replace B1 := hid B1))
    go_ret
    exact ⟨_, _, _, rfl, hS.out, B1.out⟩
  | true =>
    rw [hv] at hc
    by_cases h0 : i < 0
    · rw [if_neg (by omega)]
      have hS := hid (El.Sl.none eFi w0)
      clear H hlen hll hv hw
      go_enter Try.func45, Try.ntmps45
      go_wp2_with (first | (go_at_call 12; refine hc.out.mono ?_; rintro e w1 ⟨rfl, B1⟩; replace B1 := hid B1))
      go_ret
      exact ⟨_, _, _, rfl, hS.out, B1.out⟩
    · obtain ⟨k, hk⟩ : ∃ k : Nat, i = k := ⟨i.toNat, by omega⟩
      subst hk
      by_cases h1 : len ≤ k
      · rw [if_neg (by omega)]
        have hS := hid (El.Sl.none eFi w0)
        have h2 : decide ((len : Int) ≤ (k : Int)) = true := decide_eq_true (by omega)
        have h3 : decide ((k : Int) < 0) = false := decide_eq_false (by omega)
        clear H hlen hll hv hw h0
        go_enter Try.func45, Try.ntmps45
        go_wp2_with (first | (go_at_call 12; refine hc.out.mono ?_; rintro e w1 ⟨rfl, B1⟩; replace B1 := hid B1))
        go_ret
        exact ⟨_, _, _, rfl, hS.out, B1.out⟩
      · rw [if_pos ⟨rfl, by omega, by omega⟩, show ((k : Nat) : Int).toNat = k from rfl]
        obtain ⟨lb, lof, la, ln, lc, rfl, cl0, FS, hln⟩ := H.at k (by omega)
        have hcl : Hid (∀ W, Below w.heap.size w W → W.cell? _ = _) := fun W b => ((Below.up b0 b).cell (block_lt_of_cell cl0)).trans cl0
        have ik0 : (k : Int) < (len : Int) := by omega
        have ok0 : (0 : Int) ≤ (k : Int) := by omega
        have h2 : decide ((len : Int) ≤ (k : Int)) = false := decide_eq_false (by omega)
        have h3 : decide ((k : Int) < 0) = false := decide_eq_false (by omega)
        replace FS := hid FS
        clear H hlen hll hv hw h0 h1 cl0 hln
        go_enter Try.func45, Try.ntmps45
        go_wp2_with (first | (go_at_call 12; refine hc.out.mono ?_; rintro e w1 ⟨rfl, B1⟩; have cl := hcl.out _ B1; replace B1 := hid B1))
        go_ret
        exact ⟨_, _, _, rfl, FS.out, B1.out⟩
theorem level_any (a : Option Addr) (len cap : Nat) (L : List (List Fi)) (i : Int) (w : World) (H : Lvs w a len cap L) (hw : wL L ≤ 1048576) :
    Calls Try.prog 45 #[.slice a len cap, .int .i64 i] w fun e w' => ∃ la ln lc, e = .returned (.slice la ln lc) ∧ eFi.Sl w la ln lc (lvl L i) ∧ Below w.heap.size w w' := level_from a len cap L i w w H (Below.refl _ _) hw
set_option maxHeartbeats 2000000 in
theorem rover_any (a : Option Addr) (len cap : Nat) (L : List (List Fi)) (i : Int) (least limit : ByteArray) (w : World) (H : Lvs w a len cap L) (hw : wL L ≤ 1048576) :
    Calls Try.prog 32 #[.slice a len cap, .int .i64 i, .string least, .string limit] w fun e w' => ∃ v, e = .returned v ∧ Acc eFi w w' v (over L i least limit) := by
  rw [← over_eq]
  have hc := hid (level_any a len cap L i w H hw)
  have h8 : (lvl L i).length ≤ 1048576 := Nat.le_trans (lvl_w L i) hw
  clear H hw
  generalize lvl L i = fs at *
  have hp : Hid (∀ f : Fi, ∀ W, Calls Try.prog 55 #[fv f, .string least, .string limit] W fun e w' => e = .returned (.bool (rov least limit f)) ∧ Below W.heap.size W w') := fun f W => rovl_any f least limit W
  generalize rov least limit = p at *
  go_enter Try.func32, Try.ntmps32
  go_wp2_with (first | (go_at_call 45; refine hc.out.mono ?_; rintro e w1 ⟨la, ln, lc, rfl, S1, B1⟩; have hlen := hid S1.n; have hlc := S1.c; have hln8 : ln ≤ 1048576 := (by rw [← S1.n]; exact h8); have HF : Hid (∀ W, Below w.heap.size w W → eFi.Sl W la ln lc fs) := fun W b => S1.later b; clear S1; replace B1 := hid B1))
  clear hc h8
  go_loopw [9, 11] (fun v ii wr => ∃ j, ∃ (a : Option Addr) (n c : Nat), ii = .int .i64 (j : Nat) ∧ j ≤ ln ∧ v = .slice a n c ∧ Acc eFi w wr (.slice a n c) ((fs.take j).filter p)) (fun _ ii _ => ln - (intOf ii).toNat)
  case atStart => exact ⟨0, _, _, _, rfl, by omega, rfl, (Acc.nil _ _).later B1.out⟩
  case round =>
    clear B1
    obtain ⟨j, a, n0, c0, rfl, hj, rfl, A⟩ := hrel
    by_cases hjl : j < ln
    · obtain ⟨fb, fo, rfl, hat⟩ := get1 (HF.out wr A.lo) j hjl
      have hA := fi_at (hat j hjl)
      have hjf : j < fs.length := by rw [hlen.out]; exact hjl
      have htk := hid (filter_snoc p hjf)
      have hfl : ((fs.take j).filter p).length ≤ j := Nat.le_trans (List.length_filter_le _ _) (by rw [List.length_take]; omega)
      have hfl8 : ((fs.take j).filter p).length + 1 ≤ 1048576 := by omega
      rw [show eFi.z = zf from rfl] at hA
      clear hat hfl hjf
      generalize fs.getD j zf = f at *
      have hcf := hid (hp.out f wr)
      generalize p f = P at *
      obtain ⟨n, z, s, t, lo, hi'⟩ := f
      obtain ⟨e1, e2, e3, e4, e5, e6⟩ := hA
      simp only [show eFi.k = 6 from rfl] at e1 e2 e3 e4 e5 e6
      unfold fv at hcf
      dsimp only at hcf
      have jk0 : (j : Int) < (ln : Int) := by omega
      have jo0 : (0 : Int) ≤ (j : Int) := by omega
      cases P with
      | false =>
        rw [show (if false = true then [(⟨n, z, s, t, lo, hi'⟩ : Fi)] else []) = [] from rfl, List.append_nil] at htk
        replace A := hid A
        go_wp2_with (first | (go_at_call 55; refine hcf.out.mono ?_; rintro e w2 ⟨rfl, b2⟩; replace b2 := hid b2))
        go_roundw
        case rel => exact ⟨j + 1, _, _, _, by go_num, by omega, rfl, by rw [htk.out]; exact A.out.later b2.out⟩
        case measure => simp [intOf]; omega
      | true =>
        rw [show (if true = true then [(⟨n, z, s, t, lo, hi'⟩ : Fi)] else []) = [⟨n, z, s, t, lo, hi'⟩] from rfl] at htk
        have hq : Hid (∀ w2, Below wr.heap.size wr w2 → _ ∧ _ ∧ _ ∧ _ ∧ _ ∧ _) := fun w2 b => ⟨cell_later e1 b, cell_later e2 b, cell_later e3 b, cell_later e4 b, cell_later e5 b, cell_later e6 b⟩
        have hap : Hid (∀ w2, Below wr.heap.size wr w2 → ∃ a' n' c' W', (Builtin.append_ #[39, 39] 39 #[.slice a n0 c0, .slice (some ⟨w2.heap.size, 0, none⟩) 1 1]).run Try.prog (w2.alloc (.cells #[.int .i64 n, .int .i64 z, .string s, .string t, .int .u64 lo, .int .u64 hi'] 43)) = .ok (.slice a' n' c') W' ∧ Acc eFi w W' (.slice a' n' c') ((fs.take (j + 1)).filter p)) := by
          intro w2 b
          obtain ⟨v', W', r1, A'⟩ := (A.later b).app1 ⟨n, z, s, t, lo, hi'⟩ #[.int .i64 n, .int .i64 z, .string s, .string t, .int .u64 lo, .int .u64 hi'] rfl (by show (_ + 1) * 64 ≤ _; omega) (by omega)
          rw [← htk.out] at A'
          obtain ⟨a', c', hv'⟩ := A'.shape
          subst hv'
          exact ⟨_, _, _, W', r1, A'⟩
        clear A
        go_wp2_with (first | (go_at_call 55; refine hcf.out.mono ?_; rintro e w2 ⟨rfl, b2⟩; clear e1 e2 e3 e4 e5 e6; obtain ⟨q0, q1, q2, q3, q4, q5⟩ := hq.out w2 b2; obtain ⟨a', n', c', W', r2, A2⟩ := hap.out w2 b2; replace b2 := hid b2; replace r2 := hid r2; replace A2 := hid A2) | (at_builtin; refine wpList_append_run rfl (.tmp 28) (.tmp 33) 39 39 rfl (.slice a n0 c0) (.slice (some ⟨w2.heap.size, 0, none⟩) 1 1) (.slice a' n' c') rfl rfl r2.out ?_))
        go_roundw
        case rel => exact ⟨j + 1, _, _, _, by go_num, by omega, rfl, A2.out⟩
        case measure => simp [intOf]; omega
    · have hje : j = ln := by omega
      subst hje
      rw [show fs.take j = fs by rw [← hlen.out, List.take_length]] at A
      replace A := hid A
      go_wp2_with fail
      go_ret
      exact ⟨_, rfl, A.out⟩
end Go.Proofs.Ytkpihibeohjfnaa.De

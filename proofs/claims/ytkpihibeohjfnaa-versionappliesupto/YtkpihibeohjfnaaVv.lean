/- keep; the closures of Over. -/
import Derived.Test.YtkpihibeohjfnaaVu
namespace Go.Proofs.Ytkpihibeohjfnaa.Vv
open Go.ChangeShapes Go.WideShapes Go.ChangeAt Go.RowKit
open Go.Proofs.Ytkpihibeohjfnaa.Gr
open Go.Proofs.Ytkpihibeohjfnaa.Ev
open Go.Proofs.Ytkpihibeohjfnaa.Oe
open Go.Proofs.Ytkpihibeohjfnaa.Lv
open Go.Proofs.Ytkpihibeohjfnaa.Vp
open Go.Proofs.Ytkpihibeohjfnaa.Vq
open Go.Proofs.Ytkpihibeohjfnaa.Vr
open Go.Proofs.Ytkpihibeohjfnaa.Vt
open Go.Proofs.Ytkpihibeohjfnaa.Vu
open Go.Proofs.Ytkpihibeohjfnaa.Lx (lt)
set_option linter.unusedVariables false
set_option linter.unusedSimpArgs false

theorem filter_snoc {xs : List Fi} {k : Nat} (p : Fi → Bool) (h : k < xs.length) : (xs.take (k + 1)).filter p = (xs.take k).filter p ++ if p (xs.getD k zf) = true then [xs.getD k zf] else [] := by
  rw [El.take_snoc (E := eFi) h, List.filter_append]
  congr 1
  simp [List.filter_cons]; rfl
set_option maxHeartbeats 2000000 in
theorem keep_any (g : Nat) (c1 c2 : Value) (p : Fi → Bool) (la : Option Addr) (ln lc : Nat) (fs : List Fi) (w : World) (H : eFi.Sl w la ln lc fs) (hn : ln ≤ 1048576)
    (eg : ∀ args w, (callFunc g args).run Try.prog w = .ok (.enter g args) w)
    (hcall : ∀ f : Fi, f.ok → ∀ W, Below w.heap.size w W → Calls Try.prog g #[fv f, c1, c2] W fun e w' => e = .returned (.bool (p f)) ∧ Below W.heap.size W w') :
    Calls Try.prog 48 #[.slice la ln lc, .func (.func g) #[] #[c1, c2]] w fun e w' => ∃ v, e = .returned v ∧ Acc eFi w w' v (fs.filter p) := by
  have hc := hid hcall
  have hlen := hid H.n
  have hlc := H.c
  have HF : Hid (∀ W, Below w.heap.size w W → eFi.Sl W la ln lc fs) := fun W b => H.later b
  clear hcall H
  go_enter Try.func48, Try.ntmps48
  go_wp2_with fail
  go_loopw [5, 10] (fun v ii wr => ∃ j, ∃ (a : Option Addr) (n c : Nat), ii = .int .i64 (j : Nat) ∧ j ≤ ln ∧ v = .slice a n c ∧ Acc eFi w wr (.slice a n c) ((fs.take j).filter p)) (fun _ ii _ => ln - (intOf ii).toNat)
  case atStart => exact ⟨0, _, _, _, rfl, by omega, rfl, Acc.nil _ _⟩
  case round =>
    obtain ⟨j, a, n0, c0, rfl, hj, rfl, A⟩ := hrel
    by_cases hjl : j < ln
    · obtain ⟨fb, fo, rfl, hat⟩ := get1 (HF.out wr A.lo) j hjl
      have hA := fi_at (hat j hjl)
      have hjf : j < fs.length := by rw [hlen.out]; exact hjl
      have htk := hid (filter_snoc p hjf)
      have hok : (fs.getD j zf).ok := (HF.out wr A.lo).ok _ (El.get_mem (E := eFi) hjf)
      have hfl : ((fs.take j).filter p).length ≤ j := Nat.le_trans (List.length_filter_le _ _) (by rw [List.length_take]; omega)
      have hfl8 : ((fs.take j).filter p).length + 1 ≤ 1048576 := by omega
      rw [show eFi.z = zf from rfl] at hA
      clear hat hfl hjf
      generalize fs.getD j zf = f at *
      have hcf := hid (fun W b => hc.out f hok W b)
      generalize p f = P at *
      obtain ⟨n, z, s, t, lo, hi'⟩ := f
      obtain ⟨e1, e2, e3, e4, e5, e6⟩ := hA
      simp only [show eFi.k = 6 from rfl] at e1 e2 e3 e4 e5 e6
      unfold fv at hcf
      dsimp only at hcf
      have jk0 : (j : Int) < (ln : Int) := by omega
      have jo0 : (0 : Int) ≤ (j : Int) := by omega
      obtain ⟨gw, hgw⟩ : ∃ x, x = wr.heap.size := ⟨_, rfl⟩
      obtain ⟨W1, hW1⟩ : ∃ W, W = wr.alloc (.cells #[.int .i64 n, .int .i64 z, .string s, .string t, .int .u64 lo, .int .u64 hi'] 43) := ⟨_, rfl⟩
      have k1 : W1.heap[gw]? = some (.cells #[.int .i64 n, .int .i64 z, .string s, .string t, .int .u64 lo, .int .u64 hi'] 43) := by rw [hW1, hgw]; exact new_at _ _
      have b1 : Below wr.heap.size wr W1 := by rw [hW1]; exact box_below _ _
      have A1 := A.later b1
      have hcW := hid (hcf.out W1 A1.lo)
      cases P with
      | false =>
        rw [show (if false = true then [(⟨n, z, s, t, lo, hi'⟩ : Fi)] else []) = [] from rfl, List.append_nil] at htk
        have A1' := hid A1
        replace hW1 := hid hW1
        replace hgw := hid hgw
        clear A A1 b1 hcf k1 hok
        go_wp2_with (first | (go_at_fn g; rw [← hW1.out]; refine hcW.out.mono ?_; rintro e w2 ⟨rfl, b2⟩; replace b2 := hid b2))
        go_roundw
        case rel => exact ⟨j + 1, _, _, _, by go_num, by omega, rfl, by rw [htk.out]; exact A1'.out.later b2.out⟩
        case measure => simp [intOf]; omega
      | true =>
        rw [show (if true = true then [(⟨n, z, s, t, lo, hi'⟩ : Fi)] else []) = [⟨n, z, s, t, lo, hi'⟩] from rfl] at htk
        have q0 := cell_of k1 0 _ rfl
        have q1 := cell_of k1 1 _ rfl
        have q2 := cell_of k1 2 _ rfl
        have q3 := cell_of k1 3 _ rfl
        have q4 := cell_of k1 4 _ rfl
        have q5 := cell_of k1 5 _ rfl
        have A1' := hid A1
        replace hW1 := hid hW1
        replace hgw := hid hgw
        have hq : Hid (∀ w2, Below W1.heap.size W1 w2 → w2.cell? ⟨gw, 0, none⟩ = some (.int .i64 n) ∧ w2.cell? ⟨gw, 1, none⟩ = some (.int .i64 z) ∧ w2.cell? ⟨gw, 2, none⟩ = some (.string s) ∧ w2.cell? ⟨gw, 3, none⟩ = some (.string t) ∧ w2.cell? ⟨gw, 4, none⟩ = some (.int .u64 lo) ∧ w2.cell? ⟨gw, 5, none⟩ = some (.int .u64 hi')) := fun w2 b => ⟨cell_later q0 b, cell_later q1 b, cell_later q2 b, cell_later q3 b, cell_later q4 b, cell_later q5 b⟩
        have hap : Hid (∀ w2, Below W1.heap.size W1 w2 → ∃ a' n' c' W', (Builtin.append_ #[39, 39] 39 #[.slice a n0 c0, .slice (some ⟨w2.heap.size, 0, none⟩) 1 1]).run Try.prog (w2.alloc (.cells #[.int .i64 n, .int .i64 z, .string s, .string t, .int .u64 lo, .int .u64 hi'] 43)) = .ok (.slice a' n' c') W' ∧ Acc eFi w W' (.slice a' n' c') ((fs.take (j + 1)).filter p)) := by
          intro w2 b
          obtain ⟨v', W', r1, A'⟩ := (A1'.out.later b).app1 ⟨n, z, s, t, lo, hi'⟩ #[.int .i64 n, .int .i64 z, .string s, .string t, .int .u64 lo, .int .u64 hi'] rfl (by show (_ + 1) * 64 ≤ _; omega) (by omega)
          rw [← htk.out] at A'
          obtain ⟨a', c', hv'⟩ := A'.shape
          subst hv'
          exact ⟨_, _, _, W', r1, A'⟩
        clear A A1 b1 hcf k1 hok q0 q1 q2 q3 q4 q5
        go_wp2_with (first | (go_at_fn g; rw [← hW1.out, ← hgw.out]; refine hcW.out.mono ?_; rintro e w2 ⟨rfl, b2⟩; obtain ⟨q0, q1, q2, q3, q4, q5⟩ := hq.out w2 b2; obtain ⟨a', n', c', W', r2, A2⟩ := hap.out w2 b2; replace b2 := hid b2; replace r2 := hid r2; replace A2 := hid A2) | (at_builtin; refine wpList_append_run rfl (.tmp 17) (.tmp 19) 39 39 rfl (.slice a n0 c0) (.slice (some ⟨w2.heap.size, 0, none⟩) 1 1) (.slice a' n' c') rfl rfl r2.out ?_))
        go_roundw
        case rel => exact ⟨j + 1, _, _, _, by go_num, by omega, rfl, A2.out⟩
        case measure => simp [intOf]; omega
    · have hje : j = ln := by omega
      subst hje
      rw [show fs.take j = fs by rw [← hlen.out, List.take_length]] at A
      replace A := hid A
      go_wp2_with fail
      go_ret
      exact ⟨_, rfl, A.out⟩
/-- A file overlaps the keys from least up to limit (which is empty or above it). -/
def ovl (least limit : ByteArray) (f : Fi) : Bool := lt least f.b && (decide (limit.size = 0) || lt f.a limit)
theorem emp {s : ByteArray} (h : s.size = 0) : s = ⟨#[]⟩ := by
  obtain ⟨a⟩ := s
  have : a = #[] := Array.eq_empty_of_size_eq_zero h
  rw [this]
theorem ne_emp {s : ByteArray} (h : ¬ s.size = 0) : (s.toList == ([] : List UInt8)) = false := by
  rw [beq_eq_false_iff_ne]
  intro e
  apply h
  have : s.toList.length = s.size := by rw [ByteArray.toList_eq]; simp
  rw [← this, e]; rfl
set_option maxHeartbeats 1000000 in
theorem over1 (g1 g2 : Nat) (least limit : ByteArray) (f : Fi) (w : World) (k1 : w.cell? ⟨g1, 0, none⟩ = some (.string least)) (k2 : w.cell? ⟨g2, 0, none⟩ = some (.string limit)) :
    Calls Try.prog 49 #[fv f, .pointer (some ⟨g1, 0, none⟩), .pointer (some ⟨g2, 0, none⟩)] w fun e w' => e = .returned (.bool (ovl least limit f)) ∧ Below w.heap.size w w' := by
  obtain ⟨n, z, s, t, lo, hi'⟩ := f
  unfold fv ovl
  dsimp only
  have hB := hid (box_below w (.cells #[.int .i64 n, .int .i64 z, .string s, .string t, .int .u64 lo, .int .u64 hi'] 43))
  have gs := Lx.gtr_s 9 t least
  change binOp .gtr 9 (.string t) (.string least) = pure (.bool (lt least t)) at gs
  generalize lt least t = b1 at *
  have c1 := cell_later k1 hB.out
  have c2 := cell_later k2 hB.out
  cases b1 with
  | false =>
    go_enter Try.func49, Try.ntmps49
    go_wp2_with fail
    go_ret
    exact ⟨rfl, hB.out⟩
  | true =>
    by_cases h0 : limit.size = 0
    · rw [decide_eq_true h0]
      have : limit = ⟨#[]⟩ := emp h0
      subst this
      clear h0
      go_enter Try.func49, Try.ntmps49
      go_wp2_with fail
      go_ret
      exact ⟨rfl, hB.out⟩
    · rw [decide_eq_false h0]
      have h1 := ne_emp h0
      clear h0
      go_enter Try.func49, Try.ntmps49
      go_wp2_with fail
      go_ret
      exact ⟨rfl, hB.out⟩
end Go.Proofs.Ytkpihibeohjfnaa.Vv

/- Seek: the first entry that is not below a key, by halves. -/
import Derived.Test.YtkanjbeijoeenaaCu
import Derived.Lib.QuietBelow
namespace Go.Proofs.Ytkanjbeijoeenaa.Sk
open Go.ChangeShapes Go.WideShapes Go.ChangeAt Go.RowKit
open Go.Sort (grow)
open Go.Proofs.Ytkanjbeijoeenaa.Mb
open Go.Proofs.Ytkanjbeijoeenaa.Cu
open Go.Proofs.Ytkanjbeijoeenaa.Ik
open Go.Proofs.Ytkanjbeijoeenaa.Cm (ik)
set_option linter.unusedVariables false
set_option linter.unusedSimpArgs false

theorem compareTo_any (x : E) (k : ByteArray) (s c : Int) (w : World) :
    Calls Try.prog 50 #[.agg #[.string x.k, .int .u64 x.s, .int .i64 x.c, .string x.v], .agg #[.string k, .int .u64 s, .int .i64 c]] w fun e w' => e = .returned (.int .i64 (cmp x.ik (ik k s c))) ∧ Below w.heap.size w w' := by
  obtain ⟨xk, xs, xc, xv⟩ := x
  obtain ⟨W, hW⟩ : ∃ W, W = (w.alloc (.cells #[.string xk, .int .u64 xs, .int .i64 xc, .string xv] 85)).alloc (.cells #[.string k, .int .u64 s, .int .i64 c] 36) := ⟨_, rfl⟩
  have BW : Hid (Below w.heap.size w W) := by show Below _ _ _; rw [hW]; exact (box_below _ _).alloc (by rw [size_alloc]; omega) _
  have HC := hid (compare_below xk xs xc k s c W)
  replace hW := hid hW
  dsimp only
  go_enter Try.func50, Try.ntmps50
  go_wp2_with fail
  rw [← hW.out]
  refine HC.out.mono ?_
  rintro e w1 ⟨rfl, b1⟩
  have K : Hid (Below w.heap.size w w1) := BW.out.trans (b1.mono BW.out.size)
  clear b1
  go_wp2_with fail
  go_ret
  exact ⟨rfl, K.out⟩
/-- Of entries just the first m are below a key. -/
def Cut (xs : List E) (q : IK) (m : Nat) : Prop := m ≤ xs.length ∧ (∀ i, i < m → cmp (xs.getD i ze).ik q < 0) ∧ (∀ i, m ≤ i → i < xs.length → ¬ cmp (xs.getD i ze).ik q < 0)
def fnd (xs : List E) (q : IK) (m : Nat) : Bool := decide (m < xs.length) && (cmp (xs.getD m ze).ik q == 0)
set_option maxHeartbeats 1000000 in
set_option maxRecDepth 100000 in
theorem search_any (a : Option Addr) (n cap m : Nat) (xs : List E) (k : ByteArray) (s c : Int) (w : World) (H : Ents w a n cap xs) (hn : n ≤ 1000000000000) (hm : Cut xs (ik k s c) m) :
    Calls Try.prog 49 #[.slice a n cap, .agg #[.string k, .int .u64 s, .int .i64 c], .func (.func 50) #[] #[]] w fun e w' => e = .returned (.tuple #[.int .i64 m, .bool (fnd xs (ik k s c) m)]) ∧ Below w.heap.size w w' := by
  have hlen := H.1
  have hcap := H.2.1
  have hm1 : m ≤ n := by rw [← hlen]; exact hm.1
  obtain ⟨W, hW⟩ : ∃ W, W = w.alloc (.cells #[.string k, .int .u64 s, .int .i64 c] 36) := ⟨_, rfl⟩
  obtain ⟨g, hg⟩ : ∃ g, g = w.heap.size := ⟨_, rfl⟩
  have BW : Hid (Below w.heap.size w W) := by show Below _ _ _; rw [hW]; exact box_below _ _
  have KB : Hid (W.heap[g]? = some (.cells #[.string k, .int .u64 s, .int .i64 c] 36)) := by show _ = _; rw [hW, hg]; exact new_at _ _
  replace hW := hid hW
  replace hg := hid hg
  replace H := hid H
  replace hm := hid hm
  replace hlen := hid hlen
  go_enter Try.func49, Try.ntmps49
  go_wp2_with fail
  rw [← hW.out, ← hg.out]
  go_loopw [9, 10] (fun iv jv wr => ∃ i j : Nat, iv = .int .i64 (i : Int) ∧ jv = .int .i64 (j : Int) ∧ i ≤ m ∧ m ≤ j ∧ j ≤ n ∧ Hid (Below w.heap.size w wr) ∧ Hid (wr.heap[g]? = some (.cells #[.string k, .int .u64 s, .int .i64 c] 36)))
    (fun iv jv _ => (intOf jv - intOf iv).toNat)
  case atStart => exact ⟨0, n, rfl, rfl, by omega, hm1, Nat.le_refl _, BW, KB⟩
  case round =>
    obtain ⟨i, j, rfl, rfl, hi, hj, hjn, HB, HK⟩ := hrel
    have k0 := cell_regrown (cell_of HK.out 0 _ rfl)
    have k1 := cell_regrown (cell_of HK.out 1 _ rfl)
    have k2 := cell_regrown (cell_of HK.out 2 _ rfl)
    by_cases hij : i < j
    · cases a with
      | none => exact absurd (H.out.2.2.1 rfl).1 (by omega)
      | some ad =>
        obtain ⟨b, o, p⟩ := ad
        obtain ⟨rfl, hat⟩ := H.out.2.2.2.2 b o p rfl (by omega)
        have hij' : (i : Int) < (j : Int) := by omega
        obtain ⟨h, hh⟩ : ∃ h, h = (i + j) / 2 := ⟨_, rfl⟩
        have hh1 : IntKind.i64.wrap ((i : Int) + (j : Int)) = (i : Int) + (j : Int) := by rw [IntKind.wrap_i64]; omega
        have hh2 : IntKind.u64.wrap ((i : Int) + (j : Int)) = (i : Int) + (j : Int) := by rw [IntKind.wrap_u64]; omega
        have hh3 : ((i : Int) + (j : Int)) / 2 = (h : Int) := by omega
        have hh4 : IntKind.i64.wrap (h : Int) = (h : Int) := by rw [IntKind.wrap_i64]; omega
        have hlt : (h : Int) < (n : Int) := by omega
        obtain ⟨x0, x1, x2, x3⟩ := (hat h (by omega)).later HB.out
        have HCm : Hid (∀ W, Calls Try.prog 50 #[.agg #[.string (xs.getD h ze).k, .int .u64 (xs.getD h ze).s, .int .i64 (xs.getD h ze).c, .string (xs.getD h ze).v], .agg #[.string k, .int .u64 s, .int .i64 c]] W fun e w' => e = .returned (.int .i64 (cmp (xs.getD h ze).ik (ik k s c))) ∧ Below W.heap.size W w') := fun W => compareTo_any _ _ _ _ W
        have hside : (cmp (xs.getD h ze).ik (ik k s c) < 0 ∧ h < m) ∨ (¬ cmp (xs.getD h ze).ik (ik k s c) < 0 ∧ m ≤ h) := by
          by_cases hhm : h < m
          · exact .inl ⟨hm.out.2.1 h hhm, hhm⟩
          · exact .inr ⟨hm.out.2.2 h (by omega) (by rw [hlen.out]; omega), by omega⟩
        generalize cmp (xs.getD h ze).ik (ik k s c) = C at *
        generalize (xs.getD h ze).k = yk at *
        generalize (xs.getD h ze).s = ys at *
        generalize (xs.getD h ze).c = yc at *
        generalize (xs.getD h ze).v = yv at *
        replace x0 := cell_regrown x0
        replace x1 := cell_regrown x1
        replace x2 := cell_regrown x2
        replace x3 := cell_regrown x3
        replace hh := hid hh
        clear hij hat
        rcases hside with ⟨hC, hs⟩ | ⟨hC, hs⟩
        · go_wp2_with fail
          refine wp_region_quiet_below (by kernel_rfl) (by kernel_rfl) ?_
          repeat (first | go_big_quiet_step (first | (go_at_call 50; exact Calls.regrown_of (HCm.out _))) | quiet_step (first | (go_at_call 50; exact Calls.regrown_of (HCm.out _))))
          refine wpQuiet_nil ?_
          intro w3 hw3
          have b3 : Below wr.heap.size wr w3 := by
            obtain ⟨⟨dq, osq⟩, hw''⟩ := hw3
            rw [hw'']
            exact below_regrown _ dq osq
          have HB3 := hid (HB.out.trans (b3.mono HB.out.size))
          have HK3 := hid ((b3.block g (blk_lt HK.out)).trans HK.out)
          clear hw3 b3 x0 x1 x2 x3 k0 k1 k2 HCm
          have h5 : IntKind.i64.wrap ((h : Int) + 1) = ((h + 1 : Nat) : Int) := by rw [IntKind.wrap_i64]; omega
          go_wp2_with fail
          refine ⟨⟨h + 1, j, by first | rfl | go_num, rfl, by omega, hj, hjn, HB3, HK3⟩, ?_⟩
          simp only [intOf]
          have := hh.out
          omega
        · go_wp2_with fail
          refine wp_region_quiet_below (by kernel_rfl) (by kernel_rfl) ?_
          repeat (first | go_big_quiet_step (first | (go_at_call 50; exact Calls.regrown_of (HCm.out _))) | quiet_step (first | (go_at_call 50; exact Calls.regrown_of (HCm.out _))))
          refine wpQuiet_nil ?_
          intro w3 hw3
          have b3 : Below wr.heap.size wr w3 := by
            obtain ⟨⟨dq, osq⟩, hw''⟩ := hw3
            rw [hw'']
            exact below_regrown _ dq osq
          have HB3 := hid (HB.out.trans (b3.mono HB.out.size))
          have HK3 := hid ((b3.block g (blk_lt HK.out)).trans HK.out)
          clear hw3 b3 x0 x1 x2 x3 k0 k1 k2 HCm
          go_wp2_with fail
          refine ⟨⟨i, h, rfl, rfl, hi, hs, by omega, HB3, HK3⟩, ?_⟩
          simp only [intOf]
          have := hh.out
          omega
    · have him : i = m := by omega
      have hij' : ¬ (i : Int) < (j : Int) := by omega
      subst him
      by_cases hin : i < n
      · cases a with
        | none => exact absurd (H.out.2.2.1 rfl).1 (by omega)
        | some ad =>
          obtain ⟨b, o, p⟩ := ad
          obtain ⟨rfl, hat⟩ := H.out.2.2.2.2 b o p rfl (by omega)
          obtain ⟨x0, x1, x2, x3⟩ := (hat i hin).later HB.out
          have HCm : Hid (∀ W, Calls Try.prog 50 #[.agg #[.string (xs.getD i ze).k, .int .u64 (xs.getD i ze).s, .int .i64 (xs.getD i ze).c, .string (xs.getD i ze).v], .agg #[.string k, .int .u64 s, .int .i64 c]] W fun e w' => e = .returned (.int .i64 (cmp (xs.getD i ze).ik (ik k s c))) ∧ Below W.heap.size W w') := fun W => compareTo_any _ _ _ _ W
          have hf : Hid (fnd xs (ik k s c) i = (cmp (xs.getD i ze).ik (ik k s c) == 0)) := by
            show _ = _
            unfold fnd
            rw [decide_eq_true (by rw [hlen.out]; exact hin), Bool.true_and]
          generalize cmp (xs.getD i ze).ik (ik k s c) = C at *
          generalize (xs.getD i ze).k = yk at *
          generalize (xs.getD i ze).s = ys at *
          generalize (xs.getD i ze).c = yc at *
          generalize (xs.getD i ze).v = yv at *
          replace x0 := cell_regrown x0
          replace x1 := cell_regrown x1
          replace x2 := cell_regrown x2
          replace x3 := cell_regrown x3
          have hlt : (i : Int) < (n : Int) := by omega
          clear hij hat
          go_wp2_with fail
          refine wp_region_quiet_below (by kernel_rfl) (by kernel_rfl) ?_
          repeat (first | go_big_quiet_step (first | (go_at_call 50; exact Calls.regrown_of (HCm.out _))) | quiet_step (first | (go_at_call 50; exact Calls.regrown_of (HCm.out _))))
          refine wpQuiet_nil ?_
          intro w3 hw3
          have b3 : Below wr.heap.size wr w3 := by
            obtain ⟨⟨dq, osq⟩, hw''⟩ := hw3
            rw [hw'']
            exact below_regrown _ dq osq
          have HB3 := hid (HB.out.trans (b3.mono HB.out.size))
          have HK3 := hid ((b3.block g (blk_lt HK.out)).trans HK.out)
          clear hw3 b3 x0 x1 x2 x3 k0 k1 k2 HCm
          go_wp2_with fail
          go_ret2
          exact ⟨by rw [hf.out]; rfl, HB3.out⟩
      · have hlt : ¬ (i : Int) < (n : Int) := by omega
        have hdn : decide ((i : Int) < (n : Int)) = false := decide_eq_false hlt
        have hf : Hid (fnd xs (ik k s c) i = false) := by
          show _ = _
          unfold fnd
          rw [decide_eq_false (by rw [hlen.out]; exact hin)]; rfl
        clear k0 k1 k2
        go_wp2_with fail
        go_quiet (fail)
        have HB4 := fun nq => hid (HB.out.trans ((drewN_below wr nq).mono HB.out.size))
        go_wp2_with fail
        go_ret2
        exact ⟨by rw [hf.out]; rfl, (HB4 _).out⟩
set_option maxHeartbeats 1000000 in
theorem seek_any (gc : Nat) (a : Option Addr) (n cap m : Nat) (i : Int) (xs : List E) (k : ByteArray) (s c : Int) (w : World) (H : Cb w gc a n cap i) (HE : Ents w a n cap xs) (hn : n ≤ 1000000000000) (hm : Cut xs (ik k s c) m) :
    Calls Try.prog 25 #[.pointer (some ⟨gc, 0, none⟩), .agg #[.string k, .int .u64 s, .int .i64 c]] w fun e w' => e = .returned (.bool (at1 n ((m : Int) + 1))) ∧ Moved gc a n cap ((m : Int) + 1) w w' := by
  have hmn : m ≤ n := by rw [← HE.1]; exact hm.1
  obtain ⟨W, hW⟩ : ∃ W, W = w.alloc (.cells #[.string k, .int .u64 s, .int .i64 c] 36) := ⟨_, rfl⟩
  obtain ⟨g, hg⟩ : ∃ g, g = w.heap.size := ⟨_, rfl⟩
  have BW : Below w.heap.size w W := by rw [hW]; exact box_below _ _
  have KB : W.heap[g]? = some (.cells #[.string k, .int .u64 s, .int .i64 c] 36) := by rw [hW, hg]; exact new_at _ _
  have k0 := cell_regrown (cell_of KB 0 _ rfl)
  have k1 := cell_regrown (cell_of KB 1 _ rfl)
  have k2 := cell_regrown (cell_of KB 2 _ rfl)
  have c0 := cell_regrown (H.later BW).c0
  have HS : Hid (∀ W', Below W.heap.size W W' → Calls Try.prog 49 #[.slice a n cap, .agg #[.string k, .int .u64 s, .int .i64 c], .func (.func 50) #[] #[]] W' fun e w' => e = .returned (.tuple #[.int .i64 m, .bool (fnd xs (ik k s c) m)]) ∧ Below W'.heap.size W' w') := fun W' hb => search_any a n cap m xs k s c W' (HE.later (BW.trans (hb.mono BW.size))) hn hm
  generalize fnd xs (ik k s c) m = F at *
  have hwr : IntKind.i64.wrap ((m : Int) + 1) = (m : Int) + 1 := by rw [IntKind.wrap_i64]; omega
  have HSt : Hid (∀ W', Below w.heap.size w W' → Calls Try.prog 48 #[.pointer (some ⟨gc, 0, none⟩), .int .i64 ((m : Int) + 1)] W' fun e w' => e = .returned (.bool (at1 n ((m : Int) + 1))) ∧ Moved gc a n cap ((m : Int) + 1) W' w') := fun W' hb => stand_any gc a n cap i _ W' (H.later hb)
  replace hW := hid hW
  replace hg := hid hg
  replace BW := hid BW
  clear KB H HE hm
  go_enter Try.func25, Try.ntmps25
  go_wp2_with fail
  rw [← hW.out, ← hg.out]
  refine wp_region_quiet_below (by kernel_rfl) (by kernel_rfl) ?_
  repeat (first | go_big_quiet_step (first | (go_at_call 49; exact Calls.regrown_of (HS.out _ (below_regrown _ _ _)))) | quiet_step (first | (go_at_call 49; exact Calls.regrown_of (HS.out _ (below_regrown _ _ _)))))
  refine wpQuiet_nil ?_
  intro w3 hw3
  have b3 : Below W.heap.size W w3 := by
    obtain ⟨⟨dq, osq⟩, hw''⟩ := hw3
    rw [hw'']
    exact below_regrown _ dq osq
  have HB3 := hid (BW.out.trans (b3.mono BW.out.size))
  clear hw3 b3 k0 k1 k2 c0 HS
  go_wp2_with fail
  refine (HSt.out _ HB3.out).mono ?_
  rintro e w4 ⟨rfl, m4⟩
  have K4 : Hid (Moved gc a n cap ((m : Int) + 1) w w4) := ⟨m4.1, (Fp.of HB3.out).trans (m4.2.wide fun k _ hk => .inl hk)⟩
  clear m4
  go_wp2_with fail
  go_ret
  exact ⟨rfl, K4.out⟩
end Go.Proofs.Ytkanjbeijoeenaa.Sk

/- find of a list's cursor: the first entry that is not below a key, by halves. -/
import Derived.Test.YtgjodfaliajlgaaLs9
import Derived.Lib.QuietBelow
namespace Go.Proofs.Ytgjodfaliajlgaa.Sk9
open Go.ChangeShapes Go.WideShapes Go.ChangeAt Go.RowKit
open Go.Sort (grow)
open Go.Proofs.Ytgjodfaliajlgaa.Gr hiding hid addr_add
open Go.Proofs.Ytgjodfaliajlgaa.Ee
open Go.Proofs.Ytgjodfaliajlgaa.Ik
open Go.Proofs.Ytgjodfaliajlgaa.Cm (ik)
open Go.Proofs.Ytgjodfaliajlgaa.Ls9
set_option linter.unusedVariables false
set_option linter.unusedSimpArgs false

theorem mkeyOf_any (k : ByteArray) (s c : Int) (v : ByteArray) (w : World) :
    Calls Try.prog 58 #[.agg #[.string k, .int .u64 s, .int .i64 c, .string v]] w fun e w' => e = .returned (.agg #[.string k, .int .u64 s, .int .i64 c]) ∧ Below w.heap.size w w' := by
  go_enter Try.func58, Try.ntmps58
  go_wp2
  exact bodyPost_ret (v := .agg #[.string k, .int .u64 s, .int .i64 c]) (by simp [results, Try.results58, go_sem]) rfl ⟨rfl, ((Below.refl _ _).alloc (Nat.le_refl _) _).alloc (by simp) _⟩
set_option maxHeartbeats 1000000 in
theorem compareTo_any (k : ByteArray) (s c : Int) (v : ByteArray) (k' : ByteArray) (s' c' : Int) (w : World) :
    Calls Try.prog 57 #[.agg #[.string k, .int .u64 s, .int .i64 c, .string v], .agg #[.string k', .int .u64 s', .int .i64 c']] w fun e w' => e = .returned (.int .i64 (cmp (ik k s c) (ik k' s' c'))) ∧ Below w.heap.size w w' := by
  obtain ⟨W, hW⟩ : ∃ W, W = (w.alloc (.cells #[.string k, .int .u64 s, .int .i64 c, .string v] 43)).alloc (.cells #[.string k', .int .u64 s', .int .i64 c'] 33) := ⟨_, rfl⟩
  have HB : Hid (Below w.heap.size w W) := by
    rw [hW]; exact ((Below.refl _ _).alloc (Nat.le_refl _) _).alloc (by simp) _
  obtain ⟨g, hg⟩ : ∃ g, g = w.heap.size := ⟨_, rfl⟩
  have c1 : W.cell? ⟨g, 0, none⟩ = some (.string k) := by rw [hW, hg]; go_simp
  have c2 : W.cell? ⟨g, 1, none⟩ = some (.int .u64 s) := by rw [hW, hg]; go_simp
  have c3 : W.cell? ⟨g, 2, none⟩ = some (.int .i64 c) := by rw [hW, hg]; go_simp
  have c4 : W.cell? ⟨g, 3, none⟩ = some (.string v) := by rw [hW, hg]; go_simp
  have c5 : W.cell? ⟨g + 1, 0, none⟩ = some (.string k') := by rw [hW, hg]; go_simp
  have c6 : W.cell? ⟨g + 1, 1, none⟩ = some (.int .u64 s') := by rw [hW, hg]; go_simp
  have c7 : W.cell? ⟨g + 1, 2, none⟩ = some (.int .i64 c') := by rw [hW, hg]; go_simp
  have d1 := fun d os => cell_regrown c1 d os
  have d2 := fun d os => cell_regrown c2 d os
  have d3 := fun d os => cell_regrown c3 d os
  have d4 := fun d os => cell_regrown c4 d os
  have d5 := fun d os => cell_regrown c5 d os
  have d6 := fun d os => cell_regrown c6 d os
  have d7 := fun d os => cell_regrown c7 d os
  have HW : Hid (W = (w.alloc (.cells #[.string k, .int .u64 s, .int .i64 c, .string v] 43)).alloc (.cells #[.string k', .int .u64 s', .int .i64 c'] 33)) := hW
  have HG : Hid (g = w.heap.size) := hg
  clear hW hg
  go_enter Try.func57, Try.ntmps57
  go_wp2_with fail
  rw [← HW.out, ← HG.out]
  refine wp_region_quiet_below (by kernel_rfl) (by kernel_rfl) ?_
  repeat (quiet_step (first | (go_at_call 58; exact Calls.regrown_of (mkeyOf_any _ _ _ _ _)) | (go_at_call 32; exact Calls.regrown_of (compare_below _ _ _ _ _ _ _))))
  refine wpQuiet_nil ?_
  intro _ hw'
  obtain ⟨⟨dq, osq⟩, hw''⟩ := hw'
  subst hw''
  have HB1 : Hid (Below w.heap.size w (grow (redrawn W dq) osq)) := HB.out.trans ((below_regrown W dq osq).mono HB.out.size)
  go_wp2_with fail
  go_ret
  exact ⟨rfl, HB1.out⟩
/-- Of entries just the first m are below a key. -/
def Cut (xs : List E) (q : IK) (m : Nat) : Prop := m ≤ xs.length ∧ (∀ i, i < m → cmp (xs.getD i ze).ik q < 0) ∧ (∀ i, m ≤ i → i < xs.length → ¬ cmp (xs.getD i ze).ik q < 0)
def fnd (xs : List E) (q : IK) (m : Nat) : Bool := decide (m < xs.length) && (cmp (xs.getD m ze).ik q == 0)
set_option maxHeartbeats 1000000 in
set_option maxRecDepth 100000 in
theorem search_any (a : Option Addr) (n cap m : Nat) (xs : List E) (k : ByteArray) (s c : Int) (w : World) (H : Ents w a n cap xs) (hn : n ≤ 4000000000000) (hm : Cut xs (ik k s c) m) :
    Calls Try.prog 56 #[.slice a n cap, .agg #[.string k, .int .u64 s, .int .i64 c], .func (.func 57) #[] #[]] w fun e w' => e = .returned (.tuple #[.int .i64 m, .bool (fnd xs (ik k s c) m)]) ∧ Below w.heap.size w w' := by
  have hlen := H.1
  have hcap := H.2.1
  have hm1 : m ≤ n := by rw [← hlen]; exact hm.1
  obtain ⟨W, hW⟩ : ∃ W, W = w.alloc (.cells #[.string k, .int .u64 s, .int .i64 c] 33) := ⟨_, rfl⟩
  obtain ⟨g, hg⟩ : ∃ g, g = w.heap.size := ⟨_, rfl⟩
  have BW : Hid (Below w.heap.size w W) := by show Below _ _ _; rw [hW]; exact box_below _ _
  have KB : Hid (W.heap[g]? = some (.cells #[.string k, .int .u64 s, .int .i64 c] 33)) := by show _ = _; rw [hW, hg]; exact new_at _ _
  replace hW := hid hW
  replace hg := hid hg
  replace H := hid H
  replace hm := hid hm
  replace hlen := hid hlen
  go_enter Try.func56, Try.ntmps56
  go_wp2_with fail
  rw [← hW.out, ← hg.out]
  go_loopw [9, 10] (fun iv jv wr => ∃ i j : Nat, iv = .int .i64 (i : Int) ∧ jv = .int .i64 (j : Int) ∧ i ≤ m ∧ m ≤ j ∧ j ≤ n ∧ Hid (Below w.heap.size w wr) ∧ Hid (wr.heap[g]? = some (.cells #[.string k, .int .u64 s, .int .i64 c] 33)))
    (fun iv jv _ => (intOf jv - intOf iv).toNat)
  case atStart => exact ⟨0, n, rfl, rfl, by omega, hm1, Nat.le_refl _, BW, KB⟩
  case round =>
    obtain ⟨i, j, rfl, rfl, hi, hj, hjn, HB, HK⟩ := hrel
    have k0 := cell_regrown (cell_of HK.out 0 _ rfl)
    have k1 := cell_regrown (cell_of HK.out 1 _ rfl)
    have k2 := cell_regrown (cell_of HK.out 2 _ rfl)
    by_cases hij : i < j
    · cases a with
      | none => exact absurd (H.out.2.2.1 rfl).1 (by omega)
      | some ad =>
        obtain ⟨b, o, p⟩ := ad
        obtain ⟨rfl, hat⟩ := H.out.2.2.2.2 b o p rfl (by omega)
        have hij' : (i : Int) < (j : Int) := by omega
        obtain ⟨h, hh⟩ : ∃ h, h = (i + j) / 2 := ⟨_, rfl⟩
        have hh1 : IntKind.i64.wrap ((i : Int) + (j : Int)) = (i : Int) + (j : Int) := by rw [IntKind.wrap_i64]; omega
        have hh2 : IntKind.u64.wrap ((i : Int) + (j : Int)) = (i : Int) + (j : Int) := by rw [IntKind.wrap_u64]; omega
        have hh3 : ((i : Int) + (j : Int)) / 2 = (h : Int) := by omega
        have hh4 : IntKind.i64.wrap (h : Int) = (h : Int) := by rw [IntKind.wrap_i64]; omega
        have hlt : (h : Int) < (n : Int) := by omega
        obtain ⟨x0, x1, x2, x3⟩ := (hat h (by omega)).later HB.out
        have HCm : Hid (∀ W, Calls Try.prog 57 #[.agg #[.string (xs.getD h ze).k, .int .u64 (xs.getD h ze).s, .int .i64 (xs.getD h ze).c, .string (xs.getD h ze).v], .agg #[.string k, .int .u64 s, .int .i64 c]] W fun e w' => e = .returned (.int .i64 (cmp (xs.getD h ze).ik (ik k s c))) ∧ Below W.heap.size W w') := fun W => compareTo_any _ _ _ _ _ _ _ W
        have hside : (cmp (xs.getD h ze).ik (ik k s c) < 0 ∧ h < m) ∨ (¬ cmp (xs.getD h ze).ik (ik k s c) < 0 ∧ m ≤ h) := by
          by_cases hhm : h < m
          · exact .inl ⟨hm.out.2.1 h hhm, hhm⟩
          · exact .inr ⟨hm.out.2.2 h (by omega) (by rw [hlen.out]; omega), by omega⟩
        generalize cmp (xs.getD h ze).ik (ik k s c) = C at *
        generalize (xs.getD h ze).k = yk at *
        generalize (xs.getD h ze).s = ys at *
        generalize (xs.getD h ze).c = yc at *
        generalize (xs.getD h ze).v = yv at *
        replace x0 := cell_regrown x0
        replace x1 := cell_regrown x1
        replace x2 := cell_regrown x2
        replace x3 := cell_regrown x3
        replace hh := hid hh
        clear hij hat
        rcases hside with ⟨hC, hs⟩ | ⟨hC, hs⟩
        · go_wp2_with fail
          refine wp_region_quiet_below (by kernel_rfl) (by kernel_rfl) ?_
          repeat (first | go_big_quiet_step (first | (go_at_call 57; exact Calls.regrown_of (HCm.out _))) | quiet_step (first | (go_at_call 57; exact Calls.regrown_of (HCm.out _))))
          refine wpQuiet_nil ?_
          intro w3 hw3
          have b3 : Below wr.heap.size wr w3 := by
            obtain ⟨⟨dq, osq⟩, hw''⟩ := hw3
            rw [hw'']
            exact below_regrown _ dq osq
          have HB3 := hid (HB.out.trans (b3.mono HB.out.size))
          have HK3 := hid ((b3.block g (blk_lt HK.out)).trans HK.out)
          clear hw3 b3 x0 x1 x2 x3 k0 k1 k2 HCm
          have h5 : IntKind.i64.wrap ((h : Int) + 1) = ((h + 1 : Nat) : Int) := by rw [IntKind.wrap_i64]; omega
          go_wp2_with fail
          refine ⟨⟨h + 1, j, by first | rfl | go_num, rfl, by omega, hj, hjn, HB3, HK3⟩, ?_⟩
          simp only [intOf]
          have := hh.out
          omega
        · go_wp2_with fail
          refine wp_region_quiet_below (by kernel_rfl) (by kernel_rfl) ?_
          repeat (first | go_big_quiet_step (first | (go_at_call 57; exact Calls.regrown_of (HCm.out _))) | quiet_step (first | (go_at_call 57; exact Calls.regrown_of (HCm.out _))))
          refine wpQuiet_nil ?_
          intro w3 hw3
          have b3 : Below wr.heap.size wr w3 := by
            obtain ⟨⟨dq, osq⟩, hw''⟩ := hw3
            rw [hw'']
            exact below_regrown _ dq osq
          have HB3 := hid (HB.out.trans (b3.mono HB.out.size))
          have HK3 := hid ((b3.block g (blk_lt HK.out)).trans HK.out)
          clear hw3 b3 x0 x1 x2 x3 k0 k1 k2 HCm
          go_wp2_with fail
          refine ⟨⟨i, h, rfl, rfl, hi, hs, by omega, HB3, HK3⟩, ?_⟩
          simp only [intOf]
          have := hh.out
          omega
    · have him : i = m := by omega
      have hij' : ¬ (i : Int) < (j : Int) := by omega
      subst him
      by_cases hin : i < n
      · cases a with
        | none => exact absurd (H.out.2.2.1 rfl).1 (by omega)
        | some ad =>
          obtain ⟨b, o, p⟩ := ad
          obtain ⟨rfl, hat⟩ := H.out.2.2.2.2 b o p rfl (by omega)
          obtain ⟨x0, x1, x2, x3⟩ := (hat i hin).later HB.out
          have HCm : Hid (∀ W, Calls Try.prog 57 #[.agg #[.string (xs.getD i ze).k, .int .u64 (xs.getD i ze).s, .int .i64 (xs.getD i ze).c, .string (xs.getD i ze).v], .agg #[.string k, .int .u64 s, .int .i64 c]] W fun e w' => e = .returned (.int .i64 (cmp (xs.getD i ze).ik (ik k s c))) ∧ Below W.heap.size W w') := fun W => compareTo_any _ _ _ _ _ _ _ W
          have hf : Hid (fnd xs (ik k s c) i = (cmp (xs.getD i ze).ik (ik k s c) == 0)) := by
            show _ = _
            unfold fnd
            rw [decide_eq_true (by rw [hlen.out]; exact hin), Bool.true_and]
          generalize cmp (xs.getD i ze).ik (ik k s c) = C at *
          generalize (xs.getD i ze).k = yk at *
          generalize (xs.getD i ze).s = ys at *
          generalize (xs.getD i ze).c = yc at *
          generalize (xs.getD i ze).v = yv at *
          replace x0 := cell_regrown x0
          replace x1 := cell_regrown x1
          replace x2 := cell_regrown x2
          replace x3 := cell_regrown x3
          have hlt : (i : Int) < (n : Int) := by omega
          clear hij hat
          go_wp2_with fail
          refine wp_region_quiet_below (by kernel_rfl) (by kernel_rfl) ?_
          repeat (first | go_big_quiet_step (first | (go_at_call 57; exact Calls.regrown_of (HCm.out _))) | quiet_step (first | (go_at_call 57; exact Calls.regrown_of (HCm.out _))))
          refine wpQuiet_nil ?_
          intro w3 hw3
          have b3 : Below wr.heap.size wr w3 := by
            obtain ⟨⟨dq, osq⟩, hw''⟩ := hw3
            rw [hw'']
            exact below_regrown _ dq osq
          have HB3 := hid (HB.out.trans (b3.mono HB.out.size))
          have HK3 := hid ((b3.block g (blk_lt HK.out)).trans HK.out)
          clear hw3 b3 x0 x1 x2 x3 k0 k1 k2 HCm
          go_wp2_with fail
          go_ret2
          exact ⟨by rw [hf.out]; rfl, HB3.out⟩
      · have hlt : ¬ (i : Int) < (n : Int) := by omega
        have hdn : decide ((i : Int) < (n : Int)) = false := decide_eq_false hlt
        have hf : Hid (fnd xs (ik k s c) i = false) := by
          show _ = _
          unfold fnd
          rw [decide_eq_false (by rw [hlen.out]; exact hin)]; rfl
        clear k0 k1 k2
        go_wp2_with fail
        go_quiet (fail)
        have HB4 := fun nq => hid (HB.out.trans ((drewN_below wr nq).mono HB.out.size))
        go_wp2_with fail
        go_ret2
        exact ⟨by rw [hf.out]; rfl, (HB4 _).out⟩
theorem cut_ex (xs : List E) (q : IK) (hs : Sb.Srt Ew.le xs) : ∃ m, Cut xs q m := by
  obtain ⟨s, h1, h2, h3, h4⟩ := Sb.turn_ex (fun i => decide (cmp (xs.getD i ze).ik q < 0)) xs.length 0 (by
    intro i j _ hij hj h
    have h := of_decide_eq_true h
    have hl := Sb.srt_get hs Ew.le_tot ze hij (by omega)
    have hle : cmp (xs.getD i ze).ik (xs.getD j ze).ik ≤ 0 := of_decide_eq_true hl
    refine decide_eq_true ?_
    obtain ⟨t1, t2⟩ := cmp_trans _ _ _ hle (by omega : cmp (xs.getD j ze).ik q ≤ 0)
    rcases Int.lt_or_eq_of_le t1 with h5 | h5
    · exact h5
    · have := (t2.1 h5).2; omega)
  exact ⟨s, by omega, fun i hi => of_decide_eq_true (h3 i (by omega) hi), fun i hi hl => by have := h4 i hi (by omega); simpa using this⟩
theorem cut_one {xs : List E} {q : IK} {m m' : Nat} (h : Cut xs q m) (h' : Cut xs q m') : m = m' := by
  rcases Nat.lt_trichotomy m m' with k | k | k
  · exact absurd (h'.2.1 m k) (h.2.2 m (Nat.le_refl _) (by have := h'.1; omega))
  · exact k
  · exact absurd (h.2.1 m' k) (h'.2.2 m' (Nat.le_refl _) (by have := h.1; omega))
set_option maxHeartbeats 1000000 in
theorem find_any (g : Nat) (a : Option Addr) (n c m : Nat) (i : Int) (ys : List E) (k : ByteArray) (s cc : Int) (w : World) (H : Lb w g a n c i) (HE : Ents w a n c ys) (hn : n ≤ 4000000000000) (hm : Cut ys (ik k s cc) m) :
    Calls Try.prog 42 #[.pointer (some ⟨g, 0, none⟩), .agg #[.string k, .int .u64 s, .int .i64 cc]] w fun e w' => e = .returned (.int .i64 m) ∧ Below w.heap.size w w' := by
  obtain ⟨W, hW⟩ : ∃ W, W = w.alloc (.cells #[.string k, .int .u64 s, .int .i64 cc] 33) := ⟨_, rfl⟩
  obtain ⟨gk, hgk⟩ : ∃ g, g = w.heap.size := ⟨_, rfl⟩
  have BW : Below w.heap.size w W := by rw [hW]; exact box_below _ _
  have KB : W.heap[gk]? = some (.cells #[.string k, .int .u64 s, .int .i64 cc] 33) := by rw [hW, hgk]; exact new_at _ _
  have c0 := cell_regrown (H.later BW).c0
  have k0 := cell_regrown (cell_of KB 0 _ rfl)
  have k1 := cell_regrown (cell_of KB 1 _ rfl)
  have k2 := cell_regrown (cell_of KB 2 _ rfl)
  have HS : Hid (∀ d os, Calls Try.prog 56 #[.slice a n c, .agg #[.string k, .int .u64 s, .int .i64 cc], .func (.func 57) #[] #[]] (grow (redrawn W d) os) fun e w' => e = .returned (.tuple #[.int .i64 m, .bool (fnd ys (ik k s cc) m)]) ∧ Below (grow (redrawn W d) os).heap.size (grow (redrawn W d) os) w') := fun d os => search_any a n c m ys k s cc _ (HE.later (Below.up BW (below_regrown W d os))) hn hm
  generalize fnd ys (ik k s cc) m = fb at *
  replace BW := hid BW
  replace hW := hid hW
  replace hgk := hid hgk
  clear H HE KB hm
  go_enter Try.func42, Try.ntmps42
  go_wp2_with fail
  rw [← hW.out, ← hgk.out]
  refine wp_region_quiet_below (by kernel_rfl) (by kernel_rfl) ?_
  repeat (first | go_big_quiet_step (first | (go_at_call 56; exact Calls.regrown_of (HS.out _ _))) | quiet_step (first | (go_at_call 56; exact Calls.regrown_of (HS.out _ _))))
  refine wpQuiet_nil ?_
  intro w3 hw3
  have b3 : Hid (Below w.heap.size w w3) := by
    obtain ⟨⟨dq, osq⟩, hw''⟩ := hw3
    show Below _ _ _
    rw [hw'']
    exact Below.up BW.out (below_regrown _ dq osq)
  clear hw3
  go_wp2_with fail
  go_ret
  exact ⟨rfl, b3.out⟩
end Go.Proofs.Ytgjodfaliajlgaa.Sk9

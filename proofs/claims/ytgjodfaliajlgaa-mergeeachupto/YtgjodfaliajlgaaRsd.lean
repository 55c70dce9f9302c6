/- The document's Sorted by its contract: halves in order, merged. -/
import Derived.Test.YtgjodfaliajlgaaSd
import Derived.Test.YtgjodfaliajlgaaAc
import Derived.Test.YtgjodfaliajlgaaRcm
namespace Go.Proofs.Ytgjodfaliajlgaa.Rsd
open Go.ChangeShapes Go.WideShapes Go.ChangeAt Go.RowKit
open Go.Sort (grow)
open Go.Proofs.Ytgjodfaliajlgaa.Gr hiding hid addr_add
open Go.Proofs.Ytgjodfaliajlgaa.Ac
open Go.Proofs.Ytgjodfaliajlgaa.Ik
open Go.Proofs.Ytgjodfaliajlgaa.Ee
open Go.Proofs.Ytgjodfaliajlgaa.Sb
open Go.Proofs.Ytgjodfaliajlgaa.Ew
open Go.Proofs.Ytgjodfaliajlgaa.Sd hiding below_grown
open Go.Proofs.Ytgjodfaliajlgaa.Cm (rcompare_any)
open Go.Proofs.Ytgjodfaliajlgaa.Rcm
set_option linter.unusedVariables false
set_option linter.unusedSimpArgs false

theorem srt_any_fuel {l : List E} (k : Nat) (hk : l.length ≤ k) : srt le k l = srtE l :=
  (srt_is le_tot le_trn (srtE_spec l).1 (srtE_spec l).2 k hk).symm
theorem srtE_short {l : List E} (h : l.length < 2) : srtE l = l := by
  have := srt_is le_tot le_trn (Srt.short h) (Eqf.refl l) l.length (Nat.le_refl _)
  exact this.symm
theorem srtE_mrg {l : List E} (h : 2 ≤ l.length) : srtE l = mrg le (srtE (l.take (l.length / 2))) (srtE (l.drop (l.length / 2))) := by
  have e : srtE l = srt le (l.length + 1) l := (srt_any_fuel _ (by omega)).symm
  rw [e]
  show (if l.length < 2 then l else mrg le (srt le l.length (l.take (l.length / 2))) (srt le l.length (l.drop (l.length / 2)))) = _
  rw [if_neg (by omega), srt_any_fuel _ (by rw [List.length_take]; omega), srt_any_fuel _ (by rw [List.length_drop]; omega)]
/-- The beginning of a slice of entries. -/
theorem ents_take {w : World} {a : Option Addr} {n c m : Nat} {xs : List E} (h : Ents w a n c xs) (hm : m ≤ n) : Ents w a m c (xs.take m) := by
  obtain ⟨h1, h2, h3, h4, h5⟩ := h
  refine ⟨by rw [List.length_take]; omega, by omega, fun e => ⟨by have := (h3 e).1; omega, (h3 e).2⟩, fun x hx => h4 x (List.mem_of_mem_take hx), fun b o p hp hl => ?_⟩
  obtain ⟨k1, k2⟩ := h5 b o p hp (by omega)
  refine ⟨k1, fun i hi => ?_⟩
  have := k2 i (by omega)
  rw [List.getD_eq_getElem?_getD] at this ⊢
  rwa [List.getElem?_take, if_pos hi]
/-- Its end. -/
theorem ents_drop {w : World} {b o : Nat} {n c m : Nat} {xs : List E} (h : Ents w (some ⟨b, o, none⟩) n c xs) (hm : m ≤ n) : Ents w (some ⟨b, o + m * 4, none⟩) (n - m) (c - m) (xs.drop m) := by
  obtain ⟨h1, h2, h3, h4, h5⟩ := h
  refine ⟨by rw [List.length_drop]; omega, by omega, fun e => (by cases e), fun x hx => h4 x (List.mem_of_mem_drop hx), fun b' o' p hp hl => ?_⟩
  injection hp with hp; injection hp with e1 e2 e3; subst e1 e2 e3
  obtain ⟨k1, k2⟩ := h5 b o none rfl (by omega)
  refine ⟨rfl, fun i hi => ?_⟩
  have := k2 (m + i) (by omega)
  rw [show o + m * 4 + i * 4 = o + (m + i) * 4 by omega]
  rw [List.getD_eq_getElem?_getD] at this ⊢
  rwa [List.getElem?_drop]
theorem ents_tail {w : World} {b o : Nat} {n c : Nat} {x : E} {xs : List E} (h : Ents w (some ⟨b, o, none⟩) (n + 1) (c + 1) (x :: xs)) : Ents w (some ⟨b, o + 4, none⟩) n c xs := by
  have := ents_drop h (m := 1) (by omega)
  exact this
theorem ents_empty {w : World} {a : Option Addr} {c : Nat} (h : a = none → c = 0) : Ents w a 0 c [] :=
  ⟨rfl, Nat.zero_le _, fun e => ⟨rfl, h e⟩, fun x hx => (by cases hx), fun b o p hp hl => by omega⟩
theorem own_ents {w : World} {base : Nat} {v : Value} {xs : List E} (h : eE.Own w base v xs) (hok : ∀ x ∈ xs, x.ok) : ∃ a c, v = .slice a xs.length c ∧ Ents w a xs.length c xs := by
  obtain ⟨a, c, e, s, _⟩ := h.sl hok
  exact ⟨a, c, e, ents_of s⟩

set_option maxHeartbeats 2000000 in
set_option maxRecDepth 20000 in
theorem rsorted_more (a : Option Addr) (n c : Nat) (xs : List E) (w : World) (H : Ents w a n c xs) (h2 : 2 ≤ n) (hbig : n * 48 ≤ 140737488355328)
    (IH : ∀ (a : Option Addr) (m c : Nat) (xs : List E) (w : World), m < n → Ents w a m c xs → Calls Try.prog 30 #[.slice a m c] w fun e w' => ∃ v, e = .returned v ∧ Acc eE w w' v (srtE xs)) :
    Calls Try.prog 30 #[.slice a n c] w fun e w' => ∃ v, e = .returned v ∧ Acc eE w w' v (srtE xs) := by
  have hln := H.1
  have hnc := H.2.1
  cases a with
  | none => have := (H.2.2.1 rfl).1; omega
  | some ad =>
    obtain ⟨b, o, p⟩ := ad
    obtain ⟨rfl, _⟩ := H.2.2.2.2 b o p rfl (by omega)
    have hok := H.2.2.2.1
    obtain ⟨m, hm⟩ : ∃ m, m = n / 2 := ⟨_, rfl⟩
    have hm1 : (n : Int) / 2 = (m : Int) := by omega
    have hm2 : Int.tdiv (n : Int) 2 = (m : Int) := by rw [Int.tdiv_eq_ediv_of_nonneg (by omega)]; exact hm1
    have hm3 : IntKind.i64.wrap (m : Int) = (m : Int) := by rw [IntKind.wrap_i64]; omega
    have HT := ents_take H (m := m) (by omega)
    have HD := ents_drop H (m := m) (by omega)
    have I1 := hid (IH _ m c _ w (by omega) HT)
    have I2 : Hid (∀ W, Below w.heap.size w W → Calls Try.prog 30 #[.slice (some ⟨b, o + m * 4, none⟩) (n - m) (c - m)] W fun e w' => ∃ v, e = .returned v ∧ Acc eE W w' v (srtE (xs.drop m))) := fun W bW => IH _ (n - m) (c - m) _ W (by omega) (HD.later bW)
    have hmrg : Hid (srtE xs = mrg le (srtE (xs.take m)) (srtE (xs.drop m))) := by
      have := srtE_mrg (l := xs) (by omega)
      rw [hln, ← hm] at this
      exact this
    have hl1 : Hid ((srtE (xs.take m)).length = m) := by show _ = _; rw [srtE_len, List.length_take]; omega
    have hl2 : Hid ((srtE (xs.drop m)).length = n - m) := by show _ = _; rw [srtE_len, List.length_drop]; omega
    have ok1 : Hid (∀ x ∈ srtE (xs.take m), x.ok) := srtE_ok HT.2.2.2.1
    have ok2 : Hid (∀ x ∈ srtE (xs.drop m), x.ok) := srtE_ok HD.2.2.2.1
    have c1 : (m : Int) ≤ (n : Int) := by omega
    have c2 : (m : Int) ≤ (c : Int) := by omega
    have c3 : (n : Int) ≤ (c : Int) := by omega
    have c4 : (0 : Int) ≤ (m : Int) := by omega
    have c5 : ¬ (n : Int) < 2 := by omega
    have c6 : m < c := by omega
    have c7 : ((c : Int) == (m : Int)) = false := by rw [beq_eq_false_iff_ne]; omega
    obtain ⟨A, hA⟩ : ∃ A, A = srtE (xs.take m) := ⟨_, rfl⟩
    obtain ⟨B, hB⟩ : ∃ B, B = srtE (xs.drop m) := ⟨_, rfl⟩
    obtain ⟨T, hT⟩ : ∃ T, T = srtE xs := ⟨_, rfl⟩
    rw [← hT] at hmrg ⊢
    rw [← hA] at hmrg hl1 ok1
    rw [← hB] at hmrg hl2 ok2
    have I1' : Hid (Calls Try.prog 30 #[.slice (some ⟨b, o, none⟩) m c] w fun e w' => ∃ v, e = .returned v ∧ Acc eE w w' v A) := by rw [hA]; exact I1.out
    have I2' : Hid (∀ W, Below w.heap.size w W → Calls Try.prog 30 #[.slice (some ⟨b, o + m * 4, none⟩) (n - m) (c - m)] W fun e w' => ∃ v, e = .returned v ∧ Acc eE W w' v B) := by rw [hB]; exact I2.out
    replace hA := hid hA
    replace hB := hid hB
    replace hT := hid hT
    replace hm := hid hm
    replace hln := hid hln
    clear I1 I2 IH HT HD H hok
    go_enter Try.func30, Try.ntmps30
    go_wp2_with fail
    refine I1'.out.mono ?_
    rintro e w1 ⟨v, rfl, A1⟩
    obtain ⟨a1, k1, hv, E1⟩ := own_ents A1.o ok1.out
    rw [hl1.out] at hv E1
    subst hv
    have I2 := hid (I2'.out w1 A1.lo)
    replace A1 := hid A1
    replace E1 := hid E1
    clear I1' I2'
    go_wp2_with fail
-- TAIL
    refine I2.out.mono ?_
    rintro e w2 ⟨v, rfl, A2⟩
    obtain ⟨a2, k2, hv, E2⟩ := own_ents A2.o ok2.out
    rw [hl2.out] at hv E2
    subst hv
    have b2 : Hid (Below w.heap.size w w2) := Below.up A1.out.lo A2.lo
    replace E1 := hid (E1.out.later A2.lo)
    replace E2 := hid E2
    clear A1 A2 I2
    go_wp2_with fail
    go_loopw [4, 5, 6] (fun va vb vo wr => ∃ (aa : Option Addr) (la ca : Nat) (ba : Option Addr) (lb cb : Nat) (oa : Option Addr) (lo co : Nat) (As Bs O : List E), va = .slice aa la ca ∧ vb = .slice ba lb cb ∧ vo = .slice oa lo co ∧ Hid (Ents w2 aa la ca As) ∧ Hid (Ents w2 ba lb cb Bs) ∧ Hid (Acc eE w2 wr (.slice oa lo co) O) ∧ Hid (O ++ mrg le As Bs = T) ∧ Hid (O.length = lo) ∧ la + lb + lo ≤ n) (fun va vb _ _ => (match va with | .slice _ k _ => k | _ => 0) + (match vb with | .slice _ k _ => k | _ => 0))
    case atStart =>
      refine ⟨_, _, _, _, _, _, _, _, _, A, B, [], rfl, rfl, rfl, E1, E2, Acc.nil _ _, ?_, rfl, by omega⟩
      show _ = _
      rw [List.nil_append]; exact hmrg.out.symm
    case round =>
      clear E1 E2 hmrg hl1 hl2 ok1 ok2
      obtain ⟨aa, la, ca, ba, lb, cb, oa, lo, co, As, Bs, O, rfl, rfl, rfl, HA, HB, AO, hTT, hO, hsum⟩ := hrel
      by_cases hgo : 0 < la ∧ 0 < lb
      · obtain ⟨g1, g2⟩ := hgo
        obtain ⟨x0, As', hAs⟩ := cons_ex (P := As) (by rw [HA.out.1]; exact g1)
        obtain ⟨y0, Bs', hBs⟩ := cons_ex (P := Bs) (by rw [HB.out.1]; exact g2)
        subst hAs hBs
        obtain ⟨la', hla⟩ : ∃ k, la = k + 1 := ⟨la - 1, by omega⟩
        obtain ⟨lb', hlb⟩ : ∃ k, lb = k + 1 := ⟨lb - 1, by omega⟩
        subst hla hlb
        have hc1 := HA.out.2.1
        have hc2 := HB.out.2.1
        obtain ⟨ca', hca⟩ : ∃ k, ca = k + 1 := ⟨ca - 1, by omega⟩
        obtain ⟨cb', hcb⟩ : ∃ k, cb = k + 1 := ⟨cb - 1, by omega⟩
        subst hca hcb
        cases aa with
        | none => have := (HA.out.2.2.1 rfl).1; omega
        | some aa =>
        cases ba with
        | none => have := (HB.out.2.2.1 rfl).1; omega
        | some ba =>
        obtain ⟨ab, ao, ap⟩ := aa
        obtain ⟨bb, bo, bp⟩ := ba
        obtain ⟨rfl, hx⟩ := HA.out.2.2.2.2 ab ao ap rfl (by omega)
        obtain ⟨rfl, hy⟩ := HB.out.2.2.2.2 bb bo bp rfl (by omega)
        have hx := hx 0 (by omega)
        have hy := hy 0 (by omega)
        simp only [Nat.zero_mul, Nat.add_zero, List.getD_cons_zero] at hx hy
        obtain ⟨x10, x11, x12, x13⟩ := hx.later AO.out.lo
        obtain ⟨y10, y11, y12, y13⟩ := hy.later AO.out.lo
        clear hx hy
        have x20 := cell_regrown x10
        have x21 := cell_regrown x11
        have x22 := cell_regrown x12
        have x23 := cell_regrown x13
        have y20 := cell_regrown y10
        have y21 := cell_regrown y11
        have y22 := cell_regrown y12
        have y23 := cell_regrown y13
        clear x10 x11 x12 x13 y10 y11 y12 y13
        have HC : Hid (∀ W, Calls Try.prog 37 #[.agg #[.string x0.k, .int .u64 x0.s, .int .i64 x0.c], .agg #[.string y0.k, .int .u64 y0.s, .int .i64 y0.c]] W fun e w' => e = .returned (.int .i64 (cmp x0.ik y0.ik)) ∧ Below W.heap.size W w') := fun W => rcompare_any _ _ _ _ _ _ W
        have hside : (cmp x0.ik y0.ik ≤ 0 ∧ Hid (le x0 y0 = true)) ∨ (¬ cmp x0.ik y0.ik ≤ 0 ∧ Hid (le x0 y0 = false)) := by
          by_cases h : cmp x0.ik y0.ik ≤ 0
          · exact .inl ⟨h, decide_eq_true h⟩
          · exact .inr ⟨h, decide_eq_false h⟩
        generalize cmp x0.ik y0.ik = C at *
        obtain ⟨xk, xs_, xc, xv⟩ := x0
        obtain ⟨yk, ys_, yc, yv⟩ := y0
        dsimp only at HC x20 x21 x22 x23 y20 y21 y22 y23
        have j1 : (0 : Int) < (la' : Int) + 1 := by omega
        have j2 : (0 : Int) < (lb' : Int) + 1 := by omega
        have j3 : (1 : Int) ≤ (la' : Int) + 1 := by omega
        have j4 : (1 : Int) ≤ (lb' : Int) + 1 := by omega
        have j5 : (la' : Int) + 1 ≤ (ca' : Int) + 1 := by omega
        have j6 : (lb' : Int) + 1 ≤ (cb' : Int) + 1 := by omega
        clear hc1 hc2
        rcases hside with ⟨hC, hle⟩ | ⟨hC, hle⟩
        · go_wp2_with fail
          refine wp_region_quiet_below (by kernel_rfl) (by kernel_rfl) ?_
          repeat (first | go_big_quiet_step (first | (go_at_call 38; exact Calls.regrown_of (rkey_any _ _ _ _ _)) | (go_at_call 37; exact Calls.regrown_of (HC.out _))) | quiet_step (first | (go_at_call 38; exact Calls.regrown_of (rkey_any _ _ _ _ _)) | (go_at_call 37; exact Calls.regrown_of (HC.out _))))
          refine wpQuiet_nil ?_
          intro w3 hw3
          have b3 : Below wr.heap.size wr w3 := by
            obtain ⟨⟨dq, osq⟩, hw''⟩ := hw3
            rw [hw'']
            exact below_regrown _ dq osq
          replace b3 := hid b3
          clear hw3 x20 x21 x22 x23 y20 y21 y22 y23 HC
          have AO3 := hid (AO.out.later b3.out)
          obtain ⟨z0, z1, z2, z3⟩ := (HA.out.2.2.2.2 _ _ _ rfl (by omega)).2 0 (by omega)
          have q0 := (AO3.out.lo.cell (block_lt_of_cell z0)).trans z0
          have q1 := (AO3.out.lo.cell (block_lt_of_cell z1)).trans z1
          have q2 := (AO3.out.lo.cell (block_lt_of_cell z2)).trans z2
          have q3 := (AO3.out.lo.cell (block_lt_of_cell z3)).trans z3
          clear z0 z1 z2 z3
          simp only [Nat.zero_mul, Nat.add_zero, List.getD_cons_zero] at q0 q1 q2 q3
          obtain ⟨v', W', r1, A'⟩ := AO3.out.app1 (⟨xk, xs_, xc, xv⟩ : E) #[.string xk, .int .u64 xs_, .int .i64 xc, .string xv] rfl (by rw [hO.out]; show (_ + 1) * 48 ≤ _; omega) (by rw [hO.out]; omega)
          obtain ⟨g, co', hv'⟩ := A'.nn (by simp)
          rw [List.length_append, hO.out] at hv'
          change v' = .slice (some ⟨g, 0, none⟩) (lo + 1) co' at hv'
          subst hv'
          change (Builtin.append_ #[39, 39] 39 #[_, _]).run Try.prog (w3.alloc (.cells #[.string xk, .int .u64 xs_, .int .i64 xc, .string xv] 43)) = _ at r1
          replace r1 := hid r1
          replace A' := hid A'
          have hO' : Hid ((O ++ [(⟨xk, xs_, xc, xv⟩ : E)]).length = lo + 1) := by show _ = _; rw [List.length_append, hO.out]; rfl
          have hT2 : Hid ((O ++ [(⟨xk, xs_, xc, xv⟩ : E)]) ++ mrg le As' ((⟨yk, ys_, yc, yv⟩ : E) :: Bs') = T) := by
            show _ = _
            have h1 := hTT.out
            rw [mrg_cons, if_pos hle.out] at h1
            rw [← h1]
            simp
          clear AO3 AO b3
          by_cases hc1 : ca' = 0
          · have hc2 : (ca' : Int) = 0 := by omega
            subst hc1
            have hl0 : la' = 0 := by omega
            subst hl0
            go_wp2_with (first | (at_builtin; refine wpList_append_run rfl (.tmp 42) (.tmp 46) 39 39 rfl (.slice oa lo co) (.slice (some ⟨w3.heap.size, 0, none⟩) 1 1) (.slice (some ⟨g, 0, none⟩) (lo + 1) co') rfl rfl r1.out ?_))
            go_roundw
            case rel =>
              have e0 : As' = [] := List.eq_nil_of_length_eq_zero (by have := HA.out.1; simpa using this)
              subst e0
              refine ⟨_, _, _, _, _, _, _, _, _, _, _, _, rfl, rfl, rfl, ents_empty (fun e => by cases e), HB, A', ?_, hO', by omega⟩
              exact hT2.out
            case measure => simp
          · obtain ⟨d, hd⟩ : ∃ d, ca' = d + 1 := ⟨ca' - 1, by omega⟩
            subst hd
            have hc2 : ((d : Int) + 1 + 1 == 1) = false := by rw [beq_eq_false_iff_ne]; omega
            have hc3 : (1 : Int) ≤ (d : Int) + 1 + 1 := by omega
            go_wp2_with (first | (at_builtin; refine wpList_append_run rfl (.tmp 42) (.tmp 46) 39 39 rfl (.slice oa lo co) (.slice (some ⟨w3.heap.size, 0, none⟩) 1 1) (.slice (some ⟨g, 0, none⟩) (lo + 1) co') rfl rfl r1.out ?_))
            go_roundw
            case rel => exact ⟨_, _, _, _, _, _, _, _, _, _, _, _, rfl, rfl, rfl, ents_tail HA.out, HB, A', hT2, hO', by omega⟩
            case measure => simp
        · go_wp2_with fail
          refine wp_region_quiet_below (by kernel_rfl) (by kernel_rfl) ?_
          repeat (first | go_big_quiet_step (first | (go_at_call 38; exact Calls.regrown_of (rkey_any _ _ _ _ _)) | (go_at_call 37; exact Calls.regrown_of (HC.out _))) | quiet_step (first | (go_at_call 38; exact Calls.regrown_of (rkey_any _ _ _ _ _)) | (go_at_call 37; exact Calls.regrown_of (HC.out _))))
          refine wpQuiet_nil ?_
          intro w3 hw3
          have b3 : Below wr.heap.size wr w3 := by
            obtain ⟨⟨dq, osq⟩, hw''⟩ := hw3
            rw [hw'']
            exact below_regrown _ dq osq
          replace b3 := hid b3
          clear hw3 x20 x21 x22 x23 y20 y21 y22 y23 HC
          have AO3 := hid (AO.out.later b3.out)
          obtain ⟨z0, z1, z2, z3⟩ := (HB.out.2.2.2.2 _ _ _ rfl (by omega)).2 0 (by omega)
          have q0 := (AO3.out.lo.cell (block_lt_of_cell z0)).trans z0
          have q1 := (AO3.out.lo.cell (block_lt_of_cell z1)).trans z1
          have q2 := (AO3.out.lo.cell (block_lt_of_cell z2)).trans z2
          have q3 := (AO3.out.lo.cell (block_lt_of_cell z3)).trans z3
          clear z0 z1 z2 z3
          simp only [Nat.zero_mul, Nat.add_zero, List.getD_cons_zero] at q0 q1 q2 q3
          obtain ⟨v', W', r1, A'⟩ := AO3.out.app1 (⟨yk, ys_, yc, yv⟩ : E) #[.string yk, .int .u64 ys_, .int .i64 yc, .string yv] rfl (by rw [hO.out]; show (_ + 1) * 48 ≤ _; omega) (by rw [hO.out]; omega)
          obtain ⟨g, co', hv'⟩ := A'.nn (by simp)
          rw [List.length_append, hO.out] at hv'
          change v' = .slice (some ⟨g, 0, none⟩) (lo + 1) co' at hv'
          subst hv'
          change (Builtin.append_ #[39, 39] 39 #[_, _]).run Try.prog (w3.alloc (.cells #[.string yk, .int .u64 ys_, .int .i64 yc, .string yv] 43)) = _ at r1
          replace r1 := hid r1
          replace A' := hid A'
          have hO' : Hid ((O ++ [(⟨yk, ys_, yc, yv⟩ : E)]).length = lo + 1) := by show _ = _; rw [List.length_append, hO.out]; rfl
          have hT2 : Hid ((O ++ [(⟨yk, ys_, yc, yv⟩ : E)]) ++ mrg le ((⟨xk, xs_, xc, xv⟩ : E) :: As') Bs' = T) := by
            show _ = _
            have h1 := hTT.out
            rw [mrg_cons, if_neg (by rw [hle.out]; simp)] at h1
            rw [← h1]
            simp
          clear AO3 AO b3
          by_cases hc1 : cb' = 0
          · have hc2 : (cb' : Int) = 0 := by omega
            subst hc1
            have hl0 : lb' = 0 := by omega
            subst hl0
            go_wp2_with (first | (at_builtin; refine wpList_append_run rfl (.tmp 50) (.tmp 54) 39 39 rfl (.slice oa lo co) (.slice (some ⟨w3.heap.size, 0, none⟩) 1 1) (.slice (some ⟨g, 0, none⟩) (lo + 1) co') rfl rfl r1.out ?_))
            go_roundw
            case rel =>
              have e0 : Bs' = [] := List.eq_nil_of_length_eq_zero (by have := HB.out.1; simpa using this)
              subst e0
              refine ⟨_, _, _, _, _, _, _, _, _, _, _, _, rfl, rfl, rfl, HA, ents_empty (fun e => by cases e), A', ?_, hO', by omega⟩
              exact hT2.out
            case measure => simp
          · obtain ⟨d, hd⟩ : ∃ d, cb' = d + 1 := ⟨cb' - 1, by omega⟩
            subst hd
            have hc2 : ((d : Int) + 1 + 1 == 1) = false := by rw [beq_eq_false_iff_ne]; omega
            have hc3 : (1 : Int) ≤ (d : Int) + 1 + 1 := by omega
            go_wp2_with (first | (at_builtin; refine wpList_append_run rfl (.tmp 50) (.tmp 54) 39 39 rfl (.slice oa lo co) (.slice (some ⟨w3.heap.size, 0, none⟩) 1 1) (.slice (some ⟨g, 0, none⟩) (lo + 1) co') rfl rfl r1.out ?_))
            go_roundw
            case rel => exact ⟨_, _, _, _, _, _, _, _, _, _, _, _, rfl, rfl, rfl, HA, ents_tail HB.out, A', hT2, hO', by omega⟩
            case measure => simp
      · have hmr : Hid (O ++ As ++ Bs = T) := by
          show _ = _
          rw [← hTT.out]
          by_cases h : 0 < la
          · have hb0 : Bs = [] := List.eq_nil_of_length_eq_zero (by rw [HB.out.1]; omega)
            rw [hb0, mrg_right]; simp
          · have ha0 : As = [] := List.eq_nil_of_length_eq_zero (by rw [HA.out.1]; omega)
            rw [ha0, mrg_nil]; simp
        obtain ⟨v1, W1, r1, A1⟩ := AO.out.app (sl_of (HA.out.later AO.out.lo)) (by rw [hO.out]; show (_ + _) * 48 ≤ _; omega) (by rw [hO.out]; omega)
        obtain ⟨a1, c1', hv1⟩ := A1.shape
        obtain ⟨v2, W2, r2, A3⟩ := A1.app (sl_of (HB.out.later A1.lo)) (by rw [List.length_append, hO.out, HA.out.1]; show (_ + _) * 48 ≤ _; omega) (by rw [List.length_append, hO.out, HA.out.1]; omega)
        obtain ⟨a3, c3', hv2⟩ := A3.shape
        have hT3 : Hid (Acc eE w W2 v2 T) := by
          have := A3.from_ b2.out
          rw [hmr.out] at this
          exact this
        rw [List.length_append, hO.out, HA.out.1] at hv1
        obtain ⟨l3, hl3⟩ : ∃ l, l = (O ++ As ++ Bs).length := ⟨_, rfl⟩
        rw [← hl3] at hv2
        subst hv1 hv2
        change (Builtin.append_ #[39, 39] 39 #[_, _]).run Try.prog _ = _ at r1 r2
        replace r1 := hid r1
        replace r2 := hid r2
        replace hl3 := hid hl3
        clear A1 A3 AO
        by_cases h : 0 < la
        · have g1 : (0 : Int) < (la : Int) := by omega
          have g2 : ¬ (0 : Int) < (lb : Int) := by omega
          go_wp2_with (first | (at_builtin; refine wpList_append_run rfl (.tmp 58) (.tmp 59) 39 39 rfl (.slice oa lo co) (.slice aa la ca) (.slice a1 (lo + la) c1') rfl rfl r1.out ?_) | (at_builtin; refine wpList_append_run rfl (.tmp 60) (.tmp 61) 39 39 rfl (.slice a1 (lo + la) c1') (.slice ba lb cb) (.slice a3 l3 c3') rfl rfl r2.out ?_))
          go_ret
          exact ⟨_, rfl, hT3.out⟩
        · have g1 : ¬ (0 : Int) < (la : Int) := by omega
          go_wp2_with (first | (at_builtin; refine wpList_append_run rfl (.tmp 58) (.tmp 59) 39 39 rfl (.slice oa lo co) (.slice aa la ca) (.slice a1 (lo + la) c1') rfl rfl r1.out ?_) | (at_builtin; refine wpList_append_run rfl (.tmp 60) (.tmp 61) 39 39 rfl (.slice a1 (lo + la) c1') (.slice ba lb cb) (.slice a3 l3 c3') rfl rfl r2.out ?_))
          go_ret
          exact ⟨_, rfl, hT3.out⟩
theorem rsorted_all : ∀ (k : Nat) (a : Option Addr) (n c : Nat) (xs : List E) (w : World), n < k → Ents w a n c xs → n * 48 ≤ 140737488355328 → Calls Try.prog 30 #[.slice a n c] w fun e w' => ∃ v, e = .returned v ∧ Acc eE w w' v (srtE xs) := by
  intro k
  induction k with
  | zero => intro a n c xs w h; omega
  | succ k ih =>
    intro a n c xs w hk H hbig
    by_cases h2 : 2 ≤ n
    · exact rsorted_more a n c xs w H h2 hbig (fun a m c xs w hm H => ih a m c xs w (by omega) H (by omega))
    · have hsh := srtE_short (l := xs) (by rw [H.1]; omega)
      rw [hsh]
      have g1 : (n : Int) < 2 := by omega
      obtain ⟨W0, hW0⟩ : ∃ W, W = w.alloc (.cells #[] 43) := ⟨_, rfl⟩
      have A0 : Acc eE w W0 (.slice (some ⟨w.heap.size, 0, none⟩) 0 0) [] := by rw [hW0]; exact Acc.made eE w
      obtain ⟨v1, W1, r1, A1⟩ := A0.app (sl_of (H.later A0.lo)) (by show (0 + n) * 48 ≤ _; omega) (by show 0 + n ≤ _; omega)
      obtain ⟨a1, c1, hv1⟩ := A1.shape
      rw [List.nil_append] at A1 hv1
      obtain ⟨l1, hl1⟩ : ∃ l, l = xs.length := ⟨_, rfl⟩
      rw [← hl1] at hv1
      subst hv1
      change (Builtin.append_ #[39, 39] 39 #[_, _]).run Try.prog _ = _ at r1
      obtain ⟨gw, hgw⟩ : ∃ g, g = w.heap.size := ⟨_, rfl⟩
      rw [← hgw] at r1
      replace r1 := hid r1
      replace A1 := hid A1
      replace hW0 := hid hW0
      replace hgw := hid hgw
      replace hl1 := hid hl1
      clear hsh A0 H
      go_enter Try.func30, Try.ntmps30
      go_wp2_with (first | (at_builtin; rw [← hW0.out, ← hgw.out]; refine wpList_append_run rfl (.tmp 10) (.tmp 11) 39 39 rfl (.slice (some ⟨gw, 0, none⟩) 0 0) (.slice a n c) (.slice a1 l1 c1) rfl rfl r1.out ?_))
      go_ret
      exact ⟨_, rfl, A1.out⟩
theorem rsorted_any (a : Option Addr) (n c : Nat) (xs : List E) (w : World) (H : Ents w a n c xs) (hbig : n * 48 ≤ 140737488355328) :
    Calls Try.prog 30 #[.slice a n c] w fun e w' => ∃ v, e = .returned v ∧ Acc eE w w' v (srtE xs) := rsorted_all (n + 1) a n c xs w (by omega) H hbig
end Go.Proofs.Ytgjodfaliajlgaa.Rsd

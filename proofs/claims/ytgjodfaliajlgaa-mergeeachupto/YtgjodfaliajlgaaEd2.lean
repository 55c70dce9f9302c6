/- MergeEach, walked: the walk. -/
import Derived.Test.YtgjodfaliajlgaaEc
import Derived.Deep.CutRange
namespace Go.Proofs.Ytgjodfaliajlgaa.Ed2
open Go.ChangeShapes Go.WideShapes Go.ChangeAt Go.RowKit
open Go.Sort (grow)
open Go.Proofs.Ytgjodfaliajlgaa.Gr hiding hid addr_add
open Go.Proofs.Ytgjodfaliajlgaa.Ac
open Go.Proofs.Ytgjodfaliajlgaa.Ik
open Go.Proofs.Ytgjodfaliajlgaa.Ee
open Go.Proofs.Ytgjodfaliajlgaa.Cm (ik)
open Go.Proofs.Ytgjodfaliajlgaa.Sd hiding below_grown
open Go.Proofs.Ytgjodfaliajlgaa.Ml
open Go.Proofs.Ytgjodfaliajlgaa.Mi
open Go.Proofs.Ytgjodfaliajlgaa.Mc (tot_one)
open Go.Proofs.Ytgjodfaliajlgaa.Hp
open Go.Proofs.Ytgjodfaliajlgaa.Ls9 (Lb c4 hr hv hb)
open Go.Proofs.Ytgjodfaliajlgaa.Gc9
open Go.Proofs.Ytgjodfaliajlgaa.Pm
open Go.Proofs.Ytgjodfaliajlgaa.Mt
open Go.Proofs.Ytgjodfaliajlgaa.My (pos tgt)
open Go.Proofs.Ytgjodfaliajlgaa.Mx (merged_any)
open Go.Proofs.Ytgjodfaliajlgaa.Mq
open Go.Proofs.Ytgjodfaliajlgaa.Eq
open Go.Proofs.Ytgjodfaliajlgaa.Ec
set_option linter.unusedVariables false
set_option linter.unusedSimpArgs false

theorem hb_pred (T j : Nat) (h : j ≤ T) : hb T ((j : Int) - 1) = decide (0 < j) := by
  unfold hb
  by_cases h0 : 0 < j
  · rw [decide_eq_true h0, decide_eq_true (show (0 : Int) ≤ (j : Int) - 1 by omega), decide_eq_true (show (j : Int) - 1 < (T : Int) by omega)]; rfl
  · rw [decide_eq_false h0, decide_eq_false (show ¬ (0 : Int) ≤ (j : Int) - 1 by omega)]; rfl
def lenOf : Value → Nat
  | .slice _ l _ => l
  | _ => 0
set_option maxHeartbeats 4000000 in
set_option maxRecDepth 100000 in
theorem meach_any (a : Option Addr) (n c : Nat) (fs : List Lf) (w : World) (H : Lsts w a n c fs) (hn8 : n ≤ 1048576) (ht8 : tot fs ≤ 1048576) (hks : ∀ f ∈ fs, ∀ x ∈ f.xs, x.k.size ≤ 140737488351232) :
    Calls Try.prog 7 #[.slice a n c] w fun e w' => e = .returned (.bool true) ∧ Below w.heap.size w w' := by
  have hlen : Hid (fs.length = n) := H.s.n
  have hnc := H.s.c
  have HMg := hid (merged_any a n c fs w H hn8 ht8 hks)
  have HL : Hid (∀ V, Below w.heap.size w V → Lsts V a n c fs) := fun V b => H.later b
  obtain ⟨L, hL⟩ : ∃ L, L = allI fs n := ⟨_, rfl⟩
  rw [← hL] at HMg
  have hLe : L.map It.e = srtE (all fs) := by rw [hL, allI_e fs n (by rw [hlen.out]; omega), ← hlen.out, List.take_length]
  obtain ⟨M, hM⟩ : ∃ M, M = L.map It.e := ⟨_, rfl⟩
  have hMs : Hid (Sb.Srt Ew.le M) := by show Sb.Srt _ _; rw [hM, hLe]; exact (srtE_spec _).1
  have hMok : Hid (∀ x ∈ M, x.ok) := by
    show ∀ x ∈ M, _
    rw [hM, hLe]
    exact srtE_ok (fun x hx => by
      unfold all at hx
      obtain ⟨f, hf, hx⟩ := List.mem_flatMap.1 hx
      exact (H.e f hf).2.2.2.1 x hx)
  have hMct : Hid (∀ x, ct x M = ct x (all fs)) := fun x => by rw [hM, hLe]; exact ct_srt x _
  obtain ⟨T, hT⟩ : ∃ T, T = L.length := ⟨_, rfl⟩
  have hMT : Hid (M.length = T) := by show _ = _; rw [hM, List.length_map, hT]
  have hTt : Hid (T = (all fs).length) := by show _ = _; have := congrArg List.length hLe; rw [List.length_map, srtE_len] at this; rw [hT]; exact this
  have hT8 : T ≤ 1048576 := by have := hTt.out; unfold tot at ht8; omega
  have hLf : Hid (∀ j, j < T → (L.getD j zi).f < n) := fun j hj => by rw [hL] at hT ⊢; exact Pa.allI_f fs n _ (get_mem zi (by omega))
  have hLM : Hid (∀ j, j < T → M.getD j ze = (L.getD j zi).e) := fun j hj => by
    rw [hM, getD_get ze (by rw [List.length_map]; omega), List.getElem_map, getD_get zi (by omega)]
  replace hL := hid hL
  replace hM := hid hM
  replace hLe := hid hLe
  replace hT := hid hT
  replace ht8 := hid ht8
  clear H hks
  go_enter Try.func7, Try.ntmps7
  go_wp2_with fail
  refine HMg.out.mono ?_
  rintro e w1 ⟨gm, gg, cs, S, rfl, M1, b1⟩
  obtain ⟨X0, hX0⟩ : ∃ X0 : Nat → Prop, X0 = (fun j => j < w.heap.size) := ⟨_, rfl⟩
  rw [← hX0] at M1
  have P1 : Hid (Mp w1 gm gg n cs S L X0 (-1)) := ⟨true, 0, M1, rfl⟩
  have hXB : Hid (∀ V, Fp (fun j => ¬ X0 j) w1 V → Below w.heap.size w V) := by
    intro V f
    exact ⟨f.os.trans b1.os, f.tape.trans b1.tape, f.output.trans b1.output, Nat.le_trans b1.size f.size, fun j hj => (f.block j (Nat.lt_of_lt_of_le hj b1.size) (by rw [hX0]; exact fun h => h hj)).trans (b1.block j hj)⟩
  have hXn : Hid (∀ b, w1.heap.size ≤ b → ¬ X0 b) := fun b hb => by rw [hX0]; have := b1.size; show ¬ _ < _; omega
  have bw1 := hid b1
  replace hX0 := hid hX0
  clear M1 b1 HMg
  go_wp2_with fail
  go_loopw [4, 5] (fun tv iv wr => ∃ (i t : Nat), tv = .int .i64 (t : Int) ∧ iv = .int .i64 (i : Int) ∧ i ≤ n ∧ Hid (t = (all (fs.take i)).length) ∧ Hid (w1 = wr)) (fun _ iv _ => n - (intOf iv).toNat)
  case atStart => exact ⟨0, 0, by first | rfl | go_num, rfl, Nat.zero_le _, rfl, rfl⟩
  case round =>
    obtain ⟨i, t, rfl, rfl, hi, ht, hwr⟩ := hrel
    have hwr := hwr.out
    subst hwr
    by_cases hlt : i < n
    · have m0 : (i : Int) < (n : Int) := by omega
      have m1 : (0 : Int) ≤ (i : Int) := by omega
      obtain ⟨b, o, ha, hc, HE⟩ := (HL.out _ bw1.out).at_ i hlt
      subst ha
      have hall : Hid (all (fs.take (i + 1)) = all (fs.take i) ++ (fs.getD i zl).xs) := tot_snoc (by rw [hlen.out]; exact hlt)
      have htt := tot_take fs (i + 1)
      have ht2 : Hid (t + (fs.getD i zl).n = (all (fs.take (i + 1))).length) := by show _ = _; rw [hall.out, List.length_append, ht.out, HE.1]
      have hq : IntKind.i64.wrap ((t : Int) + ((fs.getD i zl).n : Int)) = ((t + (fs.getD i zl).n : Nat) : Int) := by have := ht2.out; have := ht8.out; rw [IntKind.wrap_i64]; omega
      generalize (fs.getD i zl).a = fa at *
      generalize (fs.getD i zl).c = fc at *
      generalize (fs.getD i zl).xs = fx at *
      generalize (fs.getD i zl).n = fn at *
      clear HE htt hall
      go_wp2_with fail
      go_roundw
      case rel => exact ⟨i + 1, t + fn, by first | rfl | go_num, by first | rfl | go_num, by omega, ht2, by first | exact rfl | exact trivial⟩
      case measure => simp [intOf]; omega
    · have hie : i = n := by omega
      subst hie
      have htT : t = T := by rw [ht.out, ← hlen.out, List.take_length, hTt.out]
      subst htT
      clear ht
      have HF := hid (first_p P1.out)
      have hT0 : L.length = t := hT.out.symm
      rw [hT0, show (0 : Int) = ((0 : Nat) : Int) from rfl, hb_of 0] at HF
      obtain ⟨B0v, hB0v⟩ : ∃ b, b = decide (0 < t) := ⟨_, rfl⟩
      rw [← hB0v] at HF
      replace hB0v := hid hB0v
      replace hT0 := hid hT0
      go_wp2_with fail
      refine HF.out.mono ?_
      rintro e w2 ⟨rfl, m2, f2⟩
      have D2 : Hid (Tld w2 w1.heap.size gm gg i cs S L X0 M (.slice none 0 0) 0 ((0 : Nat) : Int)) := ⟨El.Own.nil eE w2 _, X0, fun b h => h, fun b h => (by cases h), m2⟩
      have F2 := hid f2
      clear m2 f2 HF P1
      go_wp2_with fail
      go_loopw [6, 7] (fun tv ov wr2 => ∃ (j : Nat) (ta : Option Addr) (tc : Nat), tv = .slice ta j tc ∧ ov = .bool (decide (j < t)) ∧ j ≤ t ∧ Hid (Tld wr2 w1.heap.size gm gg i cs S L X0 M (.slice ta j tc) j (j : Int)) ∧ Hid (Fp (fun b => ¬ X0 b) w1 wr2)) (fun tv _ _ => t - lenOf tv)
      case atStart => exact ⟨0, none, 0, rfl, by rw [hB0v.out], Nat.zero_le _, D2, F2⟩
      case round =>
        clear D2 F2
        obtain ⟨j, ta, tc, rfl, rfl, hj, D, F⟩ := hrel
        have hT0' := hT0.out
        by_cases hjt : j < t
        · have hd : decide (j < t) = true := decide_eq_true hjt
          obtain ⟨x, hx⟩ : ∃ x, x = M.getD j ze := ⟨_, rfl⟩
          have hH := hid (D.out.here (by omega) rfl x (by rw [hx]; exact hLM.out j hjt))
          have hcmp : Hid (0 < j → cmp (M.getD (j - 1) ze).ik x.ik ≤ 0) := fun h0 => by
            rw [hx]
            exact of_decide_eq_true (Sb.srt_get hMs.out Ew.le_tot ze (i := j - 1) (j := j) (by omega) (by rw [hMT.out]; exact hjt))
          have hpush : Hid (∀ V, Below wr.heap.size wr V → ∃ a' c' W', (Builtin.append_ #[39, 39] 39 #[.slice ta j tc, .slice (some ⟨V.heap.size, 0, none⟩) 1 1]).run Try.prog (V.alloc (.cells #[.string x.k, .int .u64 x.s, .int .i64 x.c, .string x.v] 43)) = .ok (.slice a' (j + 1) c') W' ∧ Tld W' w1.heap.size gm gg i cs S L X0 M (.slice a' (j + 1) c') (j + 1) (j : Int) ∧ Fp (fun b => ¬ X0 b) w1 W') := fun V b => by
            obtain ⟨a', c', W', r, d, f⟩ := (D.out.later b).push (by rw [hMT.out]; exact hjt) (by rw [hMT.out]; exact hT8) (by have := F.out.size; have := b.size; omega) hXn.out #[.string x.k, .int .u64 x.s, .int .i64 x.c, .string x.v] (by rw [← hx]; rfl)
            exact ⟨a', c', W', r, d, (F.out.below b).tr (f.wide (fun j _ h => .inl h))⟩
          replace hx := hid hx
          obtain ⟨xk, xs, xc, xv⟩ := x
          dsimp only at hH hpush
          go_wp2_with fail
          refine hH.out.mono ?_
          rintro e w3 ⟨rfl, b3⟩
          obtain ⟨W3, hW3⟩ : ∃ W, W = w3.alloc (.cells #[.string xk, .int .u64 xs, .int .i64 xc, .string xv] 43) := ⟨_, rfl⟩
          obtain ⟨ge, hge⟩ : ∃ g, g = w3.heap.size := ⟨_, rfl⟩
          have B3 : Below wr.heap.size wr W3 := by rw [hW3]; exact Below.up b3 (box_below _ _)
          have KE : W3.heap[ge]? = some (.cells #[.string xk, .int .u64 xs, .int .i64 xc, .string xv] 43) := by rw [hW3, hge]; exact new_at _ _
          have hFr := hid ((D.out.later B3).from_ (i := j) (by omega) rfl)
          obtain ⟨ff, hff⟩ : ∃ f, f = (L.getD j zi).f := ⟨_, rfl⟩
          rw [← hff] at hFr
          have hfn : ff < i := by rw [hff]; exact hLf.out j hjt
          have f1 : ¬ (ff : Int) < 0 := by omega
          have f2 : ¬ (i : Int) ≤ (ff : Int) := by omega
          have f3 : ((j : Int) == (t : Int)) = false := by rw [beq_eq_false_iff_ne]; omega
          have f4 : j ≠ t := by omega
          replace hff := hid hff
          replace hW3 := hid hW3
          replace hge := hid hge
          replace B3 := hid B3
          replace KE := hid KE
          clear b3 hH
          go_wp2_with fail
          rw [← hW3.out, ← hge.out]
          refine hFr.out.mono ?_
          rintro e w4 ⟨rfl, b4⟩
          have B4 := hid (Below.up B3.out b4)
          have KE4 := hid ((b4.block ge (blk_lt KE.out)).trans KE.out)
          have S4 := hid ((D.out.later B4.out).sl hMok.out (by rw [hMT.out]; exact hj))
          replace hfn := hid hfn
          clear b4 hFr B3 KE
          go_upto_region 17 with fail
          rcases Nat.eq_zero_or_pos j with hj0 | hj0
          · subst hj0
            clear S4 hcmp
            refine wp_region_quiet_below (by kernel_rfl) (by kernel_rfl) ?_
            repeat (first | go_big_quiet_step (fail) | quiet_step (fail))
            refine wpQuiet_nil ?_
            intro w5 hw5
            have b5 : Below w4.heap.size w4 w5 := by
              obtain ⟨⟨dq, osq⟩, hw''⟩ := hw5
              rw [hw'']
              exact below_regrown _ dq osq
            clear hw5
            obtain ⟨a', c', W', hrun, D5, F5⟩ := hpush.out w5 (Below.up B4.out b5)
            have KE5 := (b5.block ge (blk_lt KE4.out)).trans KE4.out
            obtain ⟨Wb, hWb⟩ : ∃ W, W = w5.alloc (.cells #[.string xk, .int .u64 xs, .int .i64 xc, .string xv] 43) := ⟨_, rfl⟩
            rw [← hWb] at hrun
            have e0 := cell_of KE5 0 _ rfl
            have e1 := cell_of KE5 1 _ rfl
            have e2 := cell_of KE5 2 _ rfl
            have e3 := cell_of KE5 3 _ rfl
            have HN := hid D5.next
            rw [show tgt L.length false (((0 : Nat) : Int) : Int) = ((0 + 1 : Nat) : Int) by show min _ (L.length : Int) = _; omega, hT0', hb_of] at HN
            replace hWb := hid hWb
            replace hrun := hid hrun
            replace F5 := hid F5
            clear D5 KE5 b5 KE4 hpush
            go_wp2_with (first | (at_builtin; rw [← hWb.out]; refine wpList_append_run rfl (.tmp 84) (.tmp 86) 39 39 rfl (.slice ta 0 tc) (.slice (some ⟨w5.heap.size, 0, none⟩) 1 1) (.slice a' (0 + 1) c') rfl rfl hrun.out ?_) | fail)
            refine HN.out.mono ?_
            rintro e w6 ⟨rfl, D6, F6⟩
            have F6b := hid (F5.out.tr (F6.wide (fun j _ h => .inl h)))
            replace D6 := hid D6
            clear F6 HN F5 e0 e1 e2 e3
            go_wp2_with fail
            go_roundw
            case rel => first | exact ⟨0 + 1, a', c', rfl, by first | rfl | (simp; done) | (congr 1), by omega, D6, F6b⟩ | ((repeat apply Exists.intro); exact ⟨⟨0 + 1, a', c', rfl, by first | rfl | (simp; done) | (congr 1), by omega, D6, F6b⟩, rfl⟩)
            case measure => (try simp [lenOf]); (try omega)
          · obtain ⟨l, rfl⟩ : ∃ l, j = l + 1 := ⟨j - 1, by omega⟩
            obtain ⟨bt, ot, hta, hy⟩ := sl_at S4.out l (by omega)
            subst hta
            have hy := at4_of hy
            rw [show eE.k = 4 from rfl, show eE.z = ze from rfl] at hy
            have hyM : (M.take (l + 1)).getD l ze = M.getD l ze := by
              rw [List.getD_eq_getElem?_getD, List.getElem?_take, if_pos (by omega), ← List.getD_eq_getElem?_getD]
            rw [hyM] at hy
            have hcm := hcmp.out (by omega)
            rw [Nat.add_sub_cancel] at hcm
            obtain ⟨⟨yk, ys, yc, yv⟩, hyy⟩ : ∃ y, y = M.getD l ze := ⟨_, rfl⟩
            rw [← hyy] at hy hcm
            obtain ⟨y0, y1, y2, y3⟩ := hy
            dsimp only at y0 y1 y2 y3
            replace y0 := cell_regrown y0
            replace y1 := cell_regrown y1
            replace y2 := cell_regrown y2
            replace y3 := cell_regrown y3
            have x0 := cell_regrown (cell_of KE4.out 0 _ rfl)
            have x1 := cell_regrown (cell_of KE4.out 1 _ rfl)
            have x2 := cell_regrown (cell_of KE4.out 2 _ rfl)
            have x3 := cell_regrown (cell_of KE4.out 3 _ rfl)
            obtain ⟨C, hC⟩ : ∃ C, C = cmp (ik yk ys yc) (ik xk xs xc) := ⟨_, rfl⟩
            have hC0 : C ≤ 0 := by rw [hC]; exact hcm
            have hC1 : ¬ (0 : Int) < C := by omega
            have hC2 : decide ((0 : Int) < C) = false := decide_eq_false hC1
            have HC : Hid (∀ V, Calls Try.prog 32 #[.agg #[.string yk, .int .u64 ys, .int .i64 yc], .agg #[.string xk, .int .u64 xs, .int .i64 xc]] V fun e w' => e = .returned (.int .i64 C) ∧ Below V.heap.size V w') := fun V => by rw [hC]; exact compare_below _ _ _ _ _ _ V
            have HK1 : Hid (∀ V, Calls Try.prog 33 #[.agg #[.string yk, .int .u64 ys, .int .i64 yc, .string yv]] V fun e w' => e = .returned (.agg #[.string yk, .int .u64 ys, .int .i64 yc]) ∧ Below V.heap.size V w') := fun V => lkey_any yk ys yc yv V
            have HK2 : Hid (∀ V, Calls Try.prog 33 #[.agg #[.string xk, .int .u64 xs, .int .i64 xc, .string xv]] V fun e w' => e = .returned (.agg #[.string xk, .int .u64 xs, .int .i64 xc]) ∧ Below V.heap.size V w') := fun V => lkey_any xk xs xc xv V
            have hl0 : (0 : Int) < ((l + 1 : Nat) : Int) := by omega
            have hl2 : (0 : Int) ≤ (l : Int) := by omega
            have hl3 : (l : Int) < ((l + 1 : Nat) : Int) := by omega
            have hlw : IntKind.i64.wrap (((l + 1 : Nat) : Int) - 1) = (l : Int) := by rw [IntKind.wrap_i64]; omega
            have hlw2 : IntKind.i64.wrap ((l : Int) + 1 - 1) = (l : Int) := by rw [IntKind.wrap_i64]; omega
            replace hC := hid hC
            replace hyy := hid hyy
            replace hcm := hid hcm
            clear S4 hcmp hyM
            refine wp_region_quiet_below (by kernel_rfl) (by kernel_rfl) ?_
            repeat (first | go_big_quiet_step (first | (go_at_call 33; exact Calls.regrown_of (HK1.out _)) | (go_at_call 33; exact Calls.regrown_of (HK2.out _)) | (go_at_call 32; exact Calls.regrown_of (HC.out _))) | quiet_step (first | (go_at_call 33; exact Calls.regrown_of (HK1.out _)) | (go_at_call 33; exact Calls.regrown_of (HK2.out _)) | (go_at_call 32; exact Calls.regrown_of (HC.out _))))
            refine wpQuiet_nil ?_
            intro w5 hw5
            have b5 : Below w4.heap.size w4 w5 := by
              obtain ⟨⟨dq, osq⟩, hw''⟩ := hw5
              rw [hw'']
              exact below_regrown _ dq osq
            clear hw5 x0 x1 x2 x3 y0 y1 y2 y3 HC HK1 HK2 hC1 hC2 hC0
            obtain ⟨a', c', W', hrun, D5, F5⟩ := hpush.out w5 (Below.up B4.out b5)
            have KE5 := (b5.block ge (blk_lt KE4.out)).trans KE4.out
            obtain ⟨Wb, hWb⟩ : ∃ W, W = w5.alloc (.cells #[.string xk, .int .u64 xs, .int .i64 xc, .string xv] 43) := ⟨_, rfl⟩
            rw [← hWb] at hrun
            have e0 := cell_of KE5 0 _ rfl
            have e1 := cell_of KE5 1 _ rfl
            have e2 := cell_of KE5 2 _ rfl
            have e3 := cell_of KE5 3 _ rfl
            have HN := hid D5.next
            rw [show tgt L.length false (((l + 1 : Nat) : Int) : Int) = ((l + 1 + 1 : Nat) : Int) by show min _ (L.length : Int) = _; omega, hT0', hb_of] at HN
            replace hWb := hid hWb
            replace hrun := hid hrun
            replace F5 := hid F5
            clear D5 KE5 b5 KE4 hpush
            go_wp2_with (first | (at_builtin; rw [← hWb.out]; refine wpList_append_run rfl (.tmp 84) (.tmp 86) 39 39 rfl (.slice (some ⟨bt, ot, none⟩) (l + 1) tc) (.slice (some ⟨w5.heap.size, 0, none⟩) 1 1) (.slice a' ((l + 1) + 1) c') rfl rfl hrun.out ?_) | fail)
            refine HN.out.mono ?_
            rintro e w6 ⟨rfl, D6, F6⟩
            have F6b := hid (F5.out.tr (F6.wide (fun j _ h => .inl h)))
            replace D6 := hid D6
            clear F6 HN F5 e0 e1 e2 e3
            go_wp2_with fail
            go_roundw
            case rel => first | exact ⟨l + 1 + 1, a', c', rfl, by first | rfl | (simp; done) | (congr 1), by omega, D6, F6b⟩ | ((repeat apply Exists.intro); exact ⟨⟨l + 1 + 1, a', c', rfl, by first | rfl | (simp; done) | (congr 1), by omega, D6, F6b⟩, rfl⟩)
            case measure => (try simp [lenOf]); (try omega)
        · have hje : t = j := by omega
          subst hje
          have HN := hid D.out.next
          rw [show tgt L.length false ((t : Nat) : Int) = ((t : Nat) : Int) by show min _ (L.length : Int) = _; omega, hT0', hb_of t, decide_eq_false (show ¬ t < t by omega)] at HN
          go_wp2_with fail
          refine HN.out.mono ?_
          rintro e w3 ⟨rfl, D3, f3⟩
          have F3 := hid (F.out.tr (f3.wide (fun j _ h => .inl h)))
          have S3 : Hid (eE.Sl w3 ta t tc M) := by
            have := D3.sl hMok.out (by rw [hMT.out]; exact Nat.le_refl _)
            rw [show M.take t = M by rw [← hMT.out, List.take_length]] at this
            exact this
          have HB3 : Hid (∀ V, Below w3.heap.size w3 V → Below w.heap.size w V) := fun V b => hXB.out V (F3.out.below b)
          have htc := S3.out.c
          replace D3 := hid D3
          clear f3 HN D F
          go_wp2_with fail
          go_loopw [11] (fun iv wr => ∃ (pp : Nat), iv = .int .i64 (pp : Int) ∧ pp ≤ i ∧ Hid (Below w3.heap.size w3 wr)) (fun iv _ => i - (intOf iv).toNat)
          case atStart => exact ⟨0, rfl, Nat.zero_le _, Below.refl _ _⟩
          case round =>
            obtain ⟨pp, rfl, hpi, B⟩ := hrel
            by_cases hpn : pp < i
            · have p0 : (pp : Int) < (i : Int) := by omega
              have p1 : (0 : Int) ≤ (pp : Int) := by omega
              obtain ⟨Fp_, hFp⟩ : ∃ F, F = fs.getD pp zl := ⟨_, rfl⟩
              obtain ⟨b0, o0, ha0, hc0, HE0⟩ := (HL.out wr (HB3.out wr B.out)).at_ pp hpn
              subst ha0
              have hFn : Hid (Fp_.xs.length = Fp_.n) := by rw [hFp]; exact HE0.1
              have hF8 : Hid (Fp_.n ≤ 1048576) := by
                show _ ≤ _
                have h1 := tot_one fs pp (by rw [hlen.out]; exact hpn)
                rw [← hFp] at h1
                have := hFn.out; have := ht8.out; omega
              clear hc0 HE0
              replace hFp := hid hFp
              obtain ⟨wo, hwo⟩ : ∃ V, V = wr := ⟨_, rfl⟩
              rw [← hwo] at B ⊢
              clear hwo
              go_wp2_with fail
              go_loopw [12] (fun kv wr => ∃ (k : Nat), kv = .int .i64 (k : Int) ∧ k ≤ Fp_.n ∧ Hid (Below w3.heap.size w3 wr)) (fun kv _ => Fp_.n - (intOf kv).toNat)
              case atStart => exact ⟨0, rfl, Nat.zero_le _, B⟩
              case round =>
                clear B
                obtain ⟨k, rfl, hk, B⟩ := hrel
                obtain ⟨bq, oq, haq, hcq, HEq⟩ := (HL.out wr (HB3.out wr B.out)).at_ pp hpn
                injection haq with haq; injection haq with h1 h2
                subst h1 h2
                rw [← hFp.out] at hcq
                clear HEq
                by_cases hkn : k < Fp_.n
                · have k0 : (k : Int) < (Fp_.n : Int) := by omega
                  have k1 : (0 : Int) ≤ (k : Int) := by omega
                  obtain ⟨⟨xk, xs, xc, xv⟩, hxx⟩ : ∃ x, x = Fp_.xs.getD k ze := ⟨_, rfl⟩
                  have hkw : IntKind.i64.wrap ((k : Int) + 1) = ((k + 1 : Nat) : Int) := by have := hF8.out; rw [IntKind.wrap_i64]; omega
                  replace hxx := hid hxx
                  go_wp2_with fail
                  obtain ⟨wo5, hwo5⟩ : ∃ V, V = wr := ⟨_, rfl⟩
                  rw [← hwo5] at B ⊢
                  clear hwo5 hcq
                  go_loopw [13, 15] (fun av jv wr => ∃ (j q : Nat), av = .int .i64 (q : Int) ∧ jv = .int .i64 (j : Int) ∧ j ≤ t ∧ Hid (q = ct ⟨xk, xs, xc, xv⟩ (M.take j)) ∧ Hid (Below w3.heap.size w3 wr)) (fun _ jv _ => t - (intOf jv).toNat)
                  case atStart => exact ⟨0, 0, by first | rfl | go_num, rfl, Nat.zero_le _, rfl, B⟩
                  case round =>
                    clear B
                    obtain ⟨j, q, rfl, rfl, hj, hq, B⟩ := hrel
                    by_cases hjt : j < t
                    · have j0 : (j : Int) < (t : Int) := by omega
                      have j1 : (0 : Int) ≤ (j : Int) := by omega
                      obtain ⟨bt, ot, hta, hy⟩ := sl_at (S3.out.later B.out) j hjt
                      subst hta
                      have hy := at4_of hy
                      rw [show eE.k = 4 from rfl, show eE.z = ze from rfl] at hy
                      obtain ⟨⟨yk, ys, yc, yv⟩, hyy⟩ : ∃ y, y = M.getD j ze := ⟨_, rfl⟩
                      rw [← hyy] at hy
                      have hsn : Hid (ct ⟨xk, xs, xc, xv⟩ (M.take (j + 1)) = ct ⟨xk, xs, xc, xv⟩ (M.take j) + if eqE ⟨yk, ys, yc, yv⟩ ⟨xk, xs, xc, xv⟩ = true then 1 else 0) := by
                        show _ = _
                        rw [hyy]; exact ct_snoc _ (by rw [hMT.out]; exact hjt)
                      have hqb : q ≤ 1048576 := by
                        have h1 := ct_le ⟨xk, xs, xc, xv⟩ (M.take j)
                        rw [List.length_take] at h1
                        have := hq.out; omega
                      have hrt := fun w => run_two ⟨yk, ys, yc, yv⟩ ⟨xk, xs, xc, xv⟩ w
                      dsimp only at hrt
                      obtain ⟨EQ, hEQ⟩ : ∃ b, b = eqE ⟨yk, ys, yc, yv⟩ ⟨xk, xs, xc, xv⟩ := ⟨_, rfl⟩
                      rw [← hEQ] at hsn hrt
                      obtain ⟨y0, y1, y2, y3⟩ := hy
                      dsimp only at y0 y1 y2 y3
                      replace y0 := cell_regrown y0
                      replace y1 := cell_regrown y1
                      replace y2 := cell_regrown y2
                      replace y3 := cell_regrown y3
                      obtain ⟨bh, oh, hah, hch, HEh⟩ := (HL.out wr (HB3.out wr B.out)).at_ pp hpn
                      injection hah with hah; injection hah with h1 h2
                      subst h1 h2
                      rw [← hFp.out] at hch HEh
                      obtain ⟨bx, ox, hax, hx⟩ := sl_at (Sd.sl_of HEh) k hkn
                      have hx := at4_of hx
                      rw [show eE.k = 4 from rfl, show eE.z = ze from rfl, ← hxx.out] at hx
                      obtain ⟨x0, x1, x2, x3⟩ := hx
                      dsimp only at x0 x1 x2 x3
                      rw [hax] at hch
                      have hch := cell_regrown hch
                      replace x0 := cell_regrown x0
                      replace x1 := cell_regrown x1
                      replace x2 := cell_regrown x2
                      replace x3 := cell_regrown x3
                      have hjw : IntKind.i64.wrap ((j : Int) + 1) = ((j + 1 : Nat) : Int) := by rw [IntKind.wrap_i64]; omega
                      have hqw : IntKind.i64.wrap ((q : Int) + 1) = ((q + 1 : Nat) : Int) := by rw [IntKind.wrap_i64]; omega
                      replace hyy := hid hyy
                      replace hEQ := hid hEQ
                      clear HEh hax
                      go_wp2_with fail
                      refine wp_region_quiet_below (by kernel_rfl) (by kernel_rfl) ?_
                      repeat (first | go_big_quiet_step (fail) | quiet_step (fail))
                      refine wpQuiet_nil ?_
                      intro w5 hw5
                      have b5 : Below wr.heap.size wr w5 := by
                        obtain ⟨⟨dq, osq⟩, hw''⟩ := hw5
                        rw [hw'']
                        exact below_regrown _ dq osq
                      have B5 := hid (Below.up B.out b5)
                      clear hw5 b5 x0 x1 x2 x3 y0 y1 y2 y3 hch hrt
                      cases EQ with
                      | true =>
                        have hs2 : Hid (q + 1 = ct ⟨xk, xs, xc, xv⟩ (M.take (j + 1))) := by show _ = _; rw [hsn.out, if_pos rfl, hq.out]
                        go_wp2_with fail
                        go_roundw
                        case rel => exact ⟨j + 1, q + 1, by first | rfl | go_num, by first | rfl | go_num, by omega, hs2, B5⟩
                        case measure => simp [intOf]; omega
                      | false =>
                        have hs2 : Hid (q = ct ⟨xk, xs, xc, xv⟩ (M.take (j + 1))) := by show _ = _; rw [hsn.out, if_neg (by simp), hq.out]; rfl
                        go_wp2_with fail
                        go_roundw
                        case rel => exact ⟨j + 1, q, rfl, by first | rfl | go_num, by omega, hs2, B5⟩
                        case measure => simp [intOf]; omega
                    · have hje : t = j := by omega
                      subst hje
                      have hqA : Hid (q = ct ⟨xk, xs, xc, xv⟩ (all fs)) := by show _ = _; rw [hq.out, show M.take t = M by rw [← hMT.out, List.take_length], hMct.out]
                      clear hq
                      go_wp2_with fail
                      obtain ⟨wo6, hwo6⟩ : ∃ V, V = wr := ⟨_, rfl⟩
                      rw [← hwo6] at B ⊢
                      clear hwo6
                      go_loopw [14, 16] (fun bv yv wr => ∃ (y q2 : Nat), bv = .int .i64 (q2 : Int) ∧ yv = .int .i64 (y : Int) ∧ y ≤ i ∧ Hid (q2 = ct ⟨xk, xs, xc, xv⟩ (all (fs.take y))) ∧ Hid (Below w3.heap.size w3 wr)) (fun _ yv _ => i - (intOf yv).toNat)
                      case atStart => exact ⟨0, 0, by first | rfl | go_num, rfl, Nat.zero_le _, rfl, B⟩
                      case round =>
                        clear B
                        obtain ⟨y, q2, rfl, rfl, hy, hq2, B⟩ := hrel
                        by_cases hyi : y < i
                        · have y0' : (y : Int) < (i : Int) := by omega
                          have y1' : (0 : Int) ≤ (y : Int) := by omega
                          obtain ⟨G, hG⟩ : ∃ F, F = fs.getD y zl := ⟨_, rfl⟩
                          have hall : Hid (all (fs.take (y + 1)) = all (fs.take y) ++ G.xs) := by show _ = _; rw [hG]; exact tot_snoc (by rw [hlen.out]; exact hyi)
                          have hGn : Hid (G.xs.length = G.n) := by
                            obtain ⟨_, _, _, _, HEg⟩ := (HL.out wr (HB3.out wr B.out)).at_ y hyi
                            show _ = _; rw [hG]; exact HEg.1
                          have hb2 : Hid (∀ z, q2 + ct ⟨xk, xs, xc, xv⟩ (G.xs.take z) ≤ 1048576 ∧ G.n ≤ 1048576) := by
                            intro z
                            have e1 := ct_le ⟨xk, xs, xc, xv⟩ (all (fs.take y))
                            have e2 := ct_le ⟨xk, xs, xc, xv⟩ (G.xs.take z)
                            rw [List.length_take] at e2
                            have e3 := congrArg List.length hall.out
                            rw [List.length_append] at e3
                            have e4 := tot_take fs (y + 1)
                            have e5 := ht8.out
                            have e6 := hq2.out
                            have e7 := hGn.out
                            omega
                          replace hG := hid hG
                          go_wp2_with fail
                          obtain ⟨wo7, hwo7⟩ : ∃ V, V = wr := ⟨_, rfl⟩
                          rw [← hwo7] at B ⊢
                          clear hwo7
                          go_loopw [14, 17] (fun bv zv wr => ∃ (z q3 : Nat), bv = .int .i64 (q3 : Int) ∧ zv = .int .i64 (z : Int) ∧ z ≤ G.n ∧ Hid (q3 = q2 + ct ⟨xk, xs, xc, xv⟩ (G.xs.take z)) ∧ Hid (Below w3.heap.size w3 wr)) (fun _ zv _ => G.n - (intOf zv).toNat)
                          case atStart => exact ⟨0, q2, rfl, rfl, Nat.zero_le _, rfl, B⟩
                          case round =>
                            clear B
                            obtain ⟨z, q3, rfl, rfl, hz, hq3, B⟩ := hrel
                            obtain ⟨bg, og, hag, hcg, HEg⟩ := (HL.out wr (HB3.out wr B.out)).at_ y hyi
                            injection hag with hag; injection hag with h1 h2
                            subst h1 h2
                            rw [← hG.out] at hcg HEg
                            by_cases hzn : z < G.n
                            · have z0' : (z : Int) < (G.n : Int) := by omega
                              have z1' : (0 : Int) ≤ (z : Int) := by omega
                              obtain ⟨bt, ot, hta, hyc⟩ := sl_at (Sd.sl_of HEg) z hzn
                              have hyc := at4_of hyc
                              rw [show eE.k = 4 from rfl, show eE.z = ze from rfl] at hyc
                              obtain ⟨⟨yk, ys, yc, yv⟩, hyy⟩ : ∃ y, y = G.xs.getD z ze := ⟨_, rfl⟩
                              rw [← hyy] at hyc
                              have hsn : Hid (ct ⟨xk, xs, xc, xv⟩ (G.xs.take (z + 1)) = ct ⟨xk, xs, xc, xv⟩ (G.xs.take z) + if eqE ⟨yk, ys, yc, yv⟩ ⟨xk, xs, xc, xv⟩ = true then 1 else 0) := by
                                show _ = _
                                rw [hyy]; exact ct_snoc _ (by rw [hGn.out]; exact hzn)
                              have hqb : q3 ≤ 1048576 ∧ G.n ≤ 1048576 := by
                                have := (hb2.out z); have := hq3.out; omega
                              have hrt := fun w => run_two ⟨yk, ys, yc, yv⟩ ⟨xk, xs, xc, xv⟩ w
                              dsimp only at hrt
                              obtain ⟨EQ, hEQ⟩ : ∃ b, b = eqE ⟨yk, ys, yc, yv⟩ ⟨xk, xs, xc, xv⟩ := ⟨_, rfl⟩
                              rw [← hEQ] at hsn hrt
                              obtain ⟨y0, y1, y2, y3⟩ := hyc
                              dsimp only at y0 y1 y2 y3
                              rw [hta] at hcg
                              have hcg := cell_regrown hcg
                              replace y0 := cell_regrown y0
                              replace y1 := cell_regrown y1
                              replace y2 := cell_regrown y2
                              replace y3 := cell_regrown y3
                              obtain ⟨bh, oh, hah, hch, HEh⟩ := (HL.out wr (HB3.out wr B.out)).at_ pp hpn
                              injection hah with hah; injection hah with h1 h2
                              subst h1 h2
                              rw [← hFp.out] at hch HEh
                              obtain ⟨bx, ox, hax, hx⟩ := sl_at (Sd.sl_of HEh) k hkn
                              have hx := at4_of hx
                              rw [show eE.k = 4 from rfl, show eE.z = ze from rfl, ← hxx.out] at hx
                              obtain ⟨x0, x1, x2, x3⟩ := hx
                              dsimp only at x0 x1 x2 x3
                              rw [hax] at hch
                              have hch := cell_regrown hch
                              replace x0 := cell_regrown x0
                              replace x1 := cell_regrown x1
                              replace x2 := cell_regrown x2
                              replace x3 := cell_regrown x3
                              have hzw : IntKind.i64.wrap ((z : Int) + 1) = ((z + 1 : Nat) : Int) := by have := hqb.2; rw [IntKind.wrap_i64]; omega
                              have hqw : IntKind.i64.wrap ((q3 : Int) + 1) = ((q3 + 1 : Nat) : Int) := by have := hqb.1; rw [IntKind.wrap_i64]; omega
                              replace hyy := hid hyy
                              replace hEQ := hid hEQ
                              clear HEh hax HEg hta hqb
                              go_wp2_with fail
                              refine wp_region_quiet_below (by kernel_rfl) (by kernel_rfl) ?_
                              repeat (first | go_big_quiet_step (fail) | quiet_step (fail))
                              refine wpQuiet_nil ?_
                              intro w5 hw5
                              have b5 : Below wr.heap.size wr w5 := by
                                obtain ⟨⟨dq, osq⟩, hw''⟩ := hw5
                                rw [hw'']
                                exact below_regrown _ dq osq
                              have B5 := hid (Below.up B.out b5)
                              clear hw5 b5 x0 x1 x2 x3 y0 y1 y2 y3 hch hcg hrt
                              cases EQ with
                              | true =>
                                have hs2 : Hid (q3 + 1 = q2 + ct ⟨xk, xs, xc, xv⟩ (G.xs.take (z + 1))) := by show _ = _; rw [hsn.out, if_pos rfl, hq3.out]; omega
                                go_wp2_with fail
                                go_roundw
                                case rel => exact ⟨z + 1, q3 + 1, by first | rfl | go_num, by first | rfl | go_num, by omega, hs2, B5⟩
                                case measure => simp [intOf]; omega
                              | false =>
                                have hs2 : Hid (q3 = q2 + ct ⟨xk, xs, xc, xv⟩ (G.xs.take (z + 1))) := by show _ = _; rw [hsn.out, if_neg (by simp), hq3.out]; rfl
                                go_wp2_with fail
                                go_roundw
                                case rel => exact ⟨z + 1, q3, rfl, by first | rfl | go_num, by omega, hs2, B5⟩
                                case measure => simp [intOf]; omega
                            · have z0' : ¬ (z : Int) < (G.n : Int) := by omega
                              have hq4 : Hid (q3 = ct ⟨xk, xs, xc, xv⟩ (all (fs.take (y + 1)))) := by
                                show _ = _
                                rw [hall.out, ct_app, hq3.out, hq2.out, show z = G.xs.length by rw [hGn.out]; omega, List.take_length]
                              have hyw : IntKind.i64.wrap ((y : Int) + 1) = ((y + 1 : Nat) : Int) := by rw [IntKind.wrap_i64]; omega
                              clear HEg
                              go_wp2_with fail
                              go_roundw
                              case rel => exact ⟨y + 1, q3, rfl, by first | rfl | go_num, by omega, hq4, B⟩
                              case measure => simp [intOf]; omega
                        · have hye : i = y := by omega
                          subst hye
                          have hqq : q2 = q := by rw [hqA.out, hq2.out, ← hlen.out, List.take_length]
                          subst hqq
                          clear hq2
                          go_wp2_with fail
                          go_roundw
                          case rel => exact ⟨k + 1, by first | rfl | go_num, by omega, B⟩
                          case measure => simp [intOf]; omega
                · have k0 : ¬ (k : Int) < (Fp_.n : Int) := by omega
                  go_wp2_with fail
                  go_roundw
                  case rel => exact ⟨pp + 1, by first | rfl | go_num, by omega, B⟩
                  case measure => simp [intOf]; omega
            · have hpe : i = pp := by omega
              subst hpe
              have HPv := hid (D3.out.later B.out).prev
              rw [show tgt L.length true ((t : Nat) : Int) = (t : Int) - 1 by show max _ (-1) = _; omega, hT0', hb_pred t t (Nat.le_refl _)] at HPv
              obtain ⟨B1v, hB1v⟩ : ∃ b, b = decide (0 < t) := ⟨_, rfl⟩
              rw [← hB1v] at HPv
              replace hB1v := hid hB1v
              have FX3 := hid (F3.out.below B.out)
              go_wp2_with fail
              refine HPv.out.mono ?_
              rintro e w9 ⟨rfl, D9, F9⟩
              have F9b := hid (FX3.out.tr (F9.wide (fun j _ h => .inl h)))
              replace D9 := hid D9
              clear F9 HPv FX3 B D3 F3 S3
              go_wp2_with fail
              go_loopw [6, 18] (fun tv ov wr2 => ∃ (j : Nat), tv = .slice ta j tc ∧ ov = .bool (decide (0 < j)) ∧ j ≤ t ∧ Hid (Tld wr2 w1.heap.size gm gg i cs S L X0 M (.slice ta j tc) j ((j : Int) - 1)) ∧ Hid (Fp (fun b => ¬ X0 b) w1 wr2)) (fun tv _ _ => lenOf tv)
              case atStart => exact ⟨t, rfl, by rw [hB1v.out], Nat.le_refl _, D9, F9b⟩
              case round =>
                clear D9 F9b
                obtain ⟨j, rfl, rfl, hj, D, F⟩ := hrel
                by_cases hj0 : 0 < j
                · obtain ⟨l, rfl⟩ : ∃ l, j = l + 1 := ⟨j - 1, by omega⟩
                  obtain ⟨x, hx⟩ : ∃ x, x = M.getD l ze := ⟨_, rfl⟩
                  have hH := hid (D.out.here (i := l) (by omega) (by omega) x (by rw [hx]; exact hLM.out l (by omega)))
                  obtain ⟨xk, xs, xc, xv⟩ := x
                  dsimp only at hH
                  have hre := fun w => run_ne xk xs xc xv w
                  go_wp2_with fail
                  refine hH.out.mono ?_
                  rintro e w3 ⟨rfl, b3⟩
                  obtain ⟨W3, hW3⟩ : ∃ W, W = w3.alloc (.cells #[.string xk, .int .u64 xs, .int .i64 xc, .string xv] 43) := ⟨_, rfl⟩
                  obtain ⟨ge, hge⟩ : ∃ g, g = w3.heap.size := ⟨_, rfl⟩
                  have B3 : Below wr.heap.size wr W3 := by rw [hW3]; exact Below.up b3 (box_below _ _)
                  have KE : W3.heap[ge]? = some (.cells #[.string xk, .int .u64 xs, .int .i64 xc, .string xv] 43) := by rw [hW3, hge]; exact new_at _ _
                  have y0 := cell_regrown (cell_of KE 0 _ rfl)
                  have y1 := cell_regrown (cell_of KE 1 _ rfl)
                  have y2 := cell_regrown (cell_of KE 2 _ rfl)
                  have y3 := cell_regrown (cell_of KE 3 _ rfl)
                  have S4 := (D.out.later B3).sl hMok.out (by rw [hMT.out]; exact hj)
                  have hl4 := S4.c
                  obtain ⟨bt, ot, hta, hy⟩ := sl_at S4 l (by omega)
                  subst hta
                  have hy := at4_of hy
                  rw [show eE.k = 4 from rfl, show eE.z = ze from rfl] at hy
                  have hyM : (M.take (l + 1)).getD l ze = M.getD l ze := by
                    rw [List.getD_eq_getElem?_getD, List.getElem?_take, if_pos (by omega), ← List.getD_eq_getElem?_getD]
                  rw [hyM, ← hx] at hy
                  obtain ⟨z0, z1, z2, z3⟩ := hy
                  dsimp only at z0 z1 z2 z3
                  replace z0 := cell_regrown z0
                  replace z1 := cell_regrown z1
                  replace z2 := cell_regrown z2
                  replace z3 := cell_regrown z3
                  have n0 : (((l + 1 : Nat) : Int) == 0) = false := by rw [beq_eq_false_iff_ne]; omega
                  have n1 : (0 : Int) ≤ (l : Int) := by omega
                  have n2 : (l : Int) < ((l + 1 : Nat) : Int) := by omega
                  have n3 : IntKind.i64.wrap (((l + 1 : Nat) : Int) - 1) = (l : Int) := by rw [IntKind.wrap_i64]; omega
                  have n4 : IntKind.i64.wrap ((l : Int) + 1 - 1) = (l : Int) := by rw [IntKind.wrap_i64]; omega
                  have nA : ((l : Int) + 1 == 0) = false := by rw [beq_eq_false_iff_ne]; omega
                  have nB : IntKind.i64.wrap (l : Int) = (l : Int) := by rw [IntKind.wrap_i64]; omega
                  have n7 : ((l + 1 : Nat) : Int) - 1 = (l : Int) := by omega
                  have n8 : (l : Int) + 1 - 1 = (l : Int) := by omega
                  have n9 : (l : Int) < (l : Int) + 1 := by omega
                  have n5 : (l : Int) ≤ (tc : Int) := by omega
                  have n6 : l ≤ tc := by omega
                  have hpop : Hid (∀ V, Below W3.heap.size W3 V → Tld V w1.heap.size gm gg i cs S L X0 M (.slice (some ⟨bt, ot, none⟩) l tc) l (((l + 1 : Nat) : Int) - 1) ∧ Fp (fun b => ¬ X0 b) w1 V) := fun V b => ⟨((D.out.later B3).later b).pop (by rw [hMT.out]; omega), (F.out.below B3).below b⟩
                  replace hx := hid hx
                  replace hW3 := hid hW3
                  replace hge := hid hge
                  clear b3 hH S4 B3 KE D F hyM
                  go_upto_region 48 with fail
                  rw [← hW3.out, ← hge.out]
                  refine wp_region_quiet_below (by kernel_rfl) (by kernel_rfl) ?_
                  repeat (first | go_big_quiet_step (fail) | quiet_step (fail))
                  refine wpQuiet_nil ?_
                  intro w5 hw5
                  have b5 : Below W3.heap.size W3 w5 := by
                    obtain ⟨⟨dq, osq⟩, hw''⟩ := hw5
                    rw [hw'']
                    exact below_regrown _ dq osq
                  obtain ⟨D5, F5⟩ := hpop.out w5 b5
                  have HN := hid D5.prev
                  rw [show tgt L.length true (((l + 1 : Nat) : Int) - 1) = (l : Int) - 1 by show max _ (-1) = _; omega, hT0', hb_pred t l (by omega)] at HN
                  replace F5 := hid F5
                  clear hw5 b5 D5 hpop y0 y1 y2 y3 z0 z1 z2 z3 hre
                  go_wp2_with fail
                  refine HN.out.mono ?_
                  rintro e w6 ⟨rfl, D6, F6⟩
                  have F6b := hid (F5.out.tr (F6.wide (fun j _ h => .inl h)))
                  replace D6 := hid D6
                  clear F6 HN F5
                  go_wp2_with fail
                  go_roundw
                  case rel => first | exact ⟨l, rfl, rfl, by omega, D6, F6b⟩ | ((repeat apply Exists.intro); exact ⟨⟨l, rfl, rfl, by omega, D6, F6b⟩, rfl⟩)
                  case measure => (try simp [lenOf]); (try omega)
                · have hje0 : j = 0 := by omega
                  subst hje0
                  have BF := hid (hXB.out _ F.out)
                  clear D F
                  go_wp2_with fail
                  go_ret
                  exact ⟨rfl, BF.out⟩
end Go.Proofs.Ytgjodfaliajlgaa.Ed2

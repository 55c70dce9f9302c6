/- Both together: the law walked. -/
import Derived.Test.YtempagacpfejdabTw
namespace Go.Proofs.Ytempagacpfejdab.Lu
open Go.ChangeShapes Go.WideShapes Go.ChangeAt Go.RowKit Go.Shelf
open Go.Proofs.Ytempagacpfejdab.Wd
open Go.Proofs.Ytempagacpfejdab.Pr
open Go.Proofs.Ytempagacpfejdab.Rq
open Go.Proofs.Ytempagacpfejdab.Bi
open Go.Proofs.Ytempagacpfejdab.Fl
open Go.Proofs.Ytempagacpfejdab.Mk
open Go.Proofs.Ytempagacpfejdab.By
open Go.Proofs.Ytempagacpfejdab.Op
open Go.Proofs.Ytempagacpfejdab.Fu
open Go.Proofs.Ytempagacpfejdab.St
open Go.Proofs.Ytempagacpfejdab.Tw
set_option linter.unusedVariables false
set_option linter.unusedSimpArgs false

theorem two_new (w : World) : Two w w.heap.size (.slice (some ⟨w.heap.size, 0, none⟩) 0 0) (.slice (some ⟨w.heap.size + 1, 0, none⟩) 0 0) [] [] ((w.alloc (.cells #[] 9)).alloc (.cells #[] 9)) := by
  have h1 := (OwnS.empty w).later (box_below _ (.cells #[] 9))
  have h2 := OwnS.empty (w.alloc (.cells #[] 9))
  rw [size_alloc] at h2
  exact ⟨h1, own_base h2 (by omega), by simp [Value.ownBlock], (box_below w _).alloc (by simp) _, by simp; omega⟩
set_option maxRecDepth 100000 in
set_option maxHeartbeats 400000 in
theorem union_no (a : Option Addr) (len cap : Nat) (a' : Option Addr) (len' cap' : Nat) (b : Int) (w : World) (h : len = 0 ∨ len' = 0) :
    Calls Try.prog 3 #[.slice a len cap, .slice a' len' cap', .int .i64 b] w fun e w' => e = .returned (.bool true) ∧ Below w.heap.size w w' := by
  obtain ⟨p, hp1, hp2, hpb⟩ : ∃ p : Nat, 1 ≤ p ∧ p ≤ 64 ∧ b % ((64 : Nat) : Int) = (p : Int) - 1 := ⟨(1 + b % 64).toNat, by omega, by omega, by omega⟩
  have HA := hid (fun W => among_any b 64 W (by omega))
  rw [hpb] at HA
  clear hpb
  have e1 : 1 + ((p : Int) - 1) = (p : Int) := by omega
  by_cases h0 : len = 0
  · subst h0
    go_enter Try.func3, Try.ntmps3
    go_wp2_with fail
    refine (works_any w).mono ?_
    rintro e w1 ⟨rfl, hb1⟩
    replace hb1 := hid hb1
    go_wp2_with fail
    refine (HA.out w1).mono ?_
    rintro e w1' ⟨rfl, rfl⟩
    go_wp2_with fail
    go_ret
    exact ⟨rfl, hb1.out⟩
  · have h1 : len' = 0 := by omega
    subst h1
    have hl : ((len : Int) == 0) = false := by simp; omega
    go_enter Try.func3, Try.ntmps3
    go_wp2_with fail
    refine (works_any w).mono ?_
    rintro e w1 ⟨rfl, hb1⟩
    replace hb1 := hid hb1
    go_wp2_with fail
    refine (HA.out w1).mono ?_
    rintro e w1' ⟨rfl, rfl⟩
    go_wp2_with fail
    go_ret
    exact ⟨rfl, hb1.out⟩
set_option maxRecDepth 100000 in
set_option maxHeartbeats 1000000 in
theorem union_yes (a : Option Addr) (len cap : Nat) (ks : List ByteArray) (a' : Option Addr) (len' cap' : Nat) (ls : List ByteArray) (b : Int) (w : World) (H : Strs w a len cap ks) (hlen : len ≤ 1048576) (H' : Strs w a' len' cap' ls) (hlen' : len' ≤ 1048576) (h0 : 0 < len) (h0' : 0 < len') :
    Calls Try.prog 3 #[.slice a len cap, .slice a' len' cap', .int .i64 b] w fun e w' => e = .returned (.bool true) ∧ Below w.heap.size w w' := by
  obtain ⟨p, hp1, hp2, hpb⟩ : ∃ p : Nat, 1 ≤ p ∧ p ≤ 64 ∧ b % ((64 : Nat) : Int) = (p : Int) - 1 := ⟨(1 + b % 64).toNat, by omega, by omega, by omega⟩
  have HA := hid (fun W => among_any b 64 W (by omega))
  rw [hpb] at HA
  clear hpb
  have e1 : 1 + ((p : Int) - 1) = (p : Int) := by omega
  have hl : ((len : Int) == 0) = false := by simp; omega
  have hl' : ((len' : Int) == 0) = false := by simp; omega
  have hks := hid H.1
  have hls := hid H'.1
  have hS := hid (fun W h => H.later h : ∀ W, Below w.heap.size w W → Strs W a len cap ks)
  have hS' := hid (fun W h => H'.later h : ∀ W, Below w.heap.size w W → Strs W a' len' cap' ls)
  have hsm := hid H.2.2.1
  have hsm' := hid H'.2.2.1
  obtain ⟨n, hn⟩ : ∃ n, n = len + len' := ⟨_, rfl⟩
  have en : (len : Int) + (len' : Int) = (n : Int) := by omega
  have hn2 : n ≤ 2097152 := by omega
  replace hn := hid hn
  clear H H'
  go_enter Try.func3, Try.ntmps3
  go_wp2_with fail
  refine (works_any w).mono ?_
  rintro e w1 ⟨rfl, hb1⟩
  replace hb1 := hid hb1
  go_wp2_with fail
  refine (HA.out w1).mono ?_
  rintro e w1' ⟨rfl, rfl⟩
  have T0 := hid (two_new w1')
  go_wp2_with fail
  go_loopw [8, 9, 10] (fun xv yv iv wr => ∃ (i : Nat) (g : Option Addr) (c : Nat) (g' : Option Addr) (c' : Nat), i ≤ n ∧ xv = .slice g i c ∧ yv = .slice g' i c' ∧ iv = .int .i64 (i : Int) ∧ Hid (Two w1' w1'.heap.size (.slice g i c) (.slice g' i c') (cyc ks i) (cyc ls i) wr)) (fun _ _ iv _ => n - (intOf iv).toNat)
  case atStart => exact ⟨0, _, 0, _, 0, by omega, rfl, rfl, rfl, T0⟩
  case round =>
    obtain ⟨i, g, c, g', c', hi, rfl, rfl, rfl, hT⟩ := hrel
    have hbw := hid (hb1.out.trans (hT.out.lo.mono hb1.out.size))
    by_cases hlt : i < n
    · obtain ⟨j, hj, hjl⟩ : ∃ j : Nat, (i : Int) % (len : Int) = (j : Int) ∧ j = i % len := ⟨_, by rw [← Int.natCast_emod], rfl⟩
      obtain ⟨j', hj', hjl'⟩ : ∃ j : Nat, (i : Int) % (len' : Int) = (j : Int) ∧ j = i % len' := ⟨_, by rw [← Int.natCast_emod], rfl⟩
      have hjn : j < len := by rw [hjl]; exact Nat.mod_lt _ h0
      have hjn' : j' < len' := by rw [hjl']; exact Nat.mod_lt _ h0'
      obtain ⟨bk, off, rfl, cj⟩ := (hS.out wr hbw.out).2.2.2.2 j hjn
      have hC := hid (cyc_succ ks i)
      have hC' := hid (cyc_succ ls i)
      rw [hks.out, ← hjl] at hC
      rw [hls.out, ← hjl'] at hC'
      obtain ⟨g2, c2, W2, r2, T2⟩ := hT.out.app (ks.getD j ByteArray.empty) (by rw [cyc_len]; omega)
      rw [cyc_len, ← hC.out] at T2
      rw [cyc_len] at r2
      obtain ⟨g3, c3, W3, r3, T3⟩ := T2.swap.app (ls.getD j' ByteArray.empty) (by rw [cyc_len]; omega)
      rw [cyc_len, ← hC'.out] at T3
      rw [cyc_len] at r3
      obtain ⟨bk', off', rfl, cj'⟩ := (hS'.out W2 (hb1.out.trans (T2.lo.mono hb1.out.size))).2.2.2.2 j' hjn'
      replace T3 := hid T3.swap
      replace T2 := hid T2
      generalize ks.getD j ByteArray.empty = s at *
      generalize ls.getD j' ByteArray.empty = s' at *
      have hjb : (j : Int) < (len : Int) := by omega
      have hjb' : (j' : Int) < (len' : Int) := by omega
      have ii : (i : Int) < (n : Int) := by omega
      replace hjl := hid hjl
      replace hjl' := hid hjl'
      replace r2 := hid r2
      replace r3 := hid r3
      go_wp2_with (first | (at_builtin; refine wpList_append_run rfl (.tmp 43) (.tmp 51) 22 22 rfl (.slice g i c) (.slice (some ⟨wr.heap.size, 0, none⟩) 1 1) (.slice g2 (i + 1) c2) rfl rfl r2.out ?_) | (at_builtin; refine wpList_append_run rfl (.tmp 53) (.tmp 61) 22 22 rfl (.slice g' i c') (.slice (some ⟨W2.heap.size, 0, none⟩) 1 1) (.slice g3 (i + 1) c3) rfl rfl r3.out ?_))
      exact ⟨⟨i + 1, g2, c2, g3, c3, by omega, rfl, rfl, by go_num, T3⟩, by simp [intOf]; omega⟩
    · have e2 : i = n := by omega
      subst e2
      have hmk := cyc_mem ks i (by have := hks.out; omega) (by have := hks.out; have := hn.out; omega)
      have hml := cyc_mem ls i (by have := hls.out; omega) (by have := hls.out; have := hn.out; omega)
      have hck := cyc_len ks i
      have hcl := cyc_len ls i
      obtain ⟨ga, gc, he, hOx⟩ := own_strs hT.out.x (fun s hs => hsm.out s ((hmk s).1 hs))
      obtain ⟨ga', gc', he', hOy⟩ := own_strs hT.out.y (fun s hs => hsm'.out s ((hml s).1 hs))
      rw [hck] at he hOx
      rw [hcl] at he' hOy
      simp only [Value.slice.injEq] at he he'
      obtain ⟨rfl, _, rfl⟩ := he
      obtain ⟨rfl, _, rfl⟩ := he'
      have hF := hid (fun j hj => flt_or (cyc ks i) (cyc ls i) (ks ++ ls) (room i p) (pb p) j hj (fun s => by rw [hmk, hml, List.mem_append]) : ∀ j, j < room i p → _)
      have hkl : (ks ++ ls).length = i := by rw [List.length_append, hks.out, hls.out, hn.out]
      generalize cyc ks i = xs at *
      generalize cyc ls i = ys at *
      replace hOx := hid hOx
      replace hOy := hid hOy
      replace hmk := hid hmk
      replace hml := hid hml
      have hr8 := room_ge i p
      have hrl := room_le i p hp2
      clear hT
      have i0 : ¬ (i : Int) < (i : Int) := by omega
      go_wp2_with fail
      refine (make_ok g i c xs p wr hOx.out hp1 hp2 (by omega)).mono ?_
      rintro e w4 ⟨rfl, hf4, hb4⟩
      replace hf4 := hid hf4
      replace hb4 := hid hb4
      go_wp2_with fail
      refine (make_ok g' i c' ys p w4 (hOy.out.later hb4.out) hp1 hp2 (by omega)).mono ?_
      rintro e w5 ⟨rfl, hf5, hb5⟩
      have b05 := hid (hb4.out.trans (hb5.mono hb4.out.size))
      have bw5 := hid (hbw.out.trans (b05.out.mono hbw.out.size))
      have f45 := hid (hf4.out.later hb5)
      replace hf5 := hid hf5
      replace hb5 := hid hb5
      obtain ⟨v6, W6, r6, o6, g6⟩ := app_strs (w5.alloc (.cells #[] 9)) w5.heap.size (.slice (some ⟨w5.heap.size, 0, none⟩) 0 0) [] a len cap ks (OwnS.empty w5) ((hS.out w5 bw5.out).later (box_below _ _)) (by simp; omega) (by simp)
      have b6 : Below w5.heap.size w5 W6 := (box_below w5 _).grown g6 (by simp) (fun q e => by simp [Value.ownBlock] at e; omega)
      obtain ⟨v7, W7, r7, o7, g7⟩ := app_strs W6 w5.heap.size v6 ([] ++ ks) a' len' cap' ls o6 ((hS'.out w5 bw5.out).later b6) (by rw [List.nil_append, hks.out]; omega) b6.size
      have b7 : Below w5.heap.size w5 W7 := b6.grown g7 b6.size (fun q e => (World.ownsRow.lt o6 q e).1)
      rw [List.nil_append] at o7
      obtain ⟨g7a, g7c, rfl, hO7⟩ := own_strs o7 (fun s hs => by
        rcases List.mem_append.1 hs with h | h
        · exact hsm.out s h
        · exact hsm'.out s h)
      rw [hkl] at r7 hO7
      replace b7 := hid b7
      replace o7 := hid o7
      replace hO7 := hid hO7
      replace r6 := hid r6
      replace r7 := hid r7
      clear g6 g7 o6 b6
      go_wp2_with (first | (at_builtin; refine wpList_append_run rfl (.tmp 76) (.tmp 77) 22 22 rfl (.slice (some ⟨w5.heap.size, 0, none⟩) 0 0) (.slice a len cap) v6 rfl rfl r6.out ?_) | (at_builtin; refine wpList_append_run rfl (.tmp 78) (.tmp 79) 22 22 rfl v6 (.slice a' len' cap') (.slice g7a i g7c) rfl rfl r7.out ?_))
      refine (make_ok g7a i g7c (ks ++ ls) p W7 hO7.out hp1 hp2 (by omega)).mono ?_
      rintro e w8 ⟨rfl, hf8, hb8⟩
      have b58 := hid (b7.out.trans (hb8.mono b7.out.size))
      have fx := hid (f45.out.later b58.out)
      have fy := hid (hf5.out.later b58.out)
      have bw8 := hid (bw5.out.trans (b58.out.mono bw5.out.size))
      have z8 := hid hb8.size
      replace hf8 := hid hf8
      replace hb8 := hid hb8
      obtain ⟨r, hr⟩ : ∃ r, r = room i p := ⟨_, rfl⟩
      have hFr := hid (fun j (hj : j < r) => by
        rw [hr] at hj
        have := hF.out j hj
        rw [← mkf_at xs i p j hck hj, ← mkf_at ys i p j hcl hj, ← mkf_at (ks ++ ls) i p j hkl hj] at this
        exact this : ∀ j, j < r → (mkf xs p).getD j 0#8 ||| (mkf ys p).getD j 0#8 = (mkf (ks ++ ls) p).getD j 0#8)
      have hE1 := mkf_end xs i p hck
      have hE2 := mkf_end (ks ++ ls) i p hkl
      have m1 := mkf_len xs p
      have m2 := mkf_len ys p
      have m3 := mkf_len (ks ++ ls) p
      rw [hck] at m1
      rw [hcl] at m2
      rw [hkl] at m3
      rw [← hr] at hr8 hrl hE1 hE2 m1 m2 m3 ⊢
      generalize mkf xs p = f1 at *
      generalize mkf ys p = f2 at *
      generalize mkf (ks ++ ls) p = f3 at *
      have hr9 : ¬ ((r : Int) + 1 < 9) := by omega
      replace hr := hid hr
      go_wp2_with fail
      go_loopw [17] (fun jv wq => ∃ j n : Nat, j ≤ r ∧ jv = .int .i64 (j : Int) ∧ wq = w8.drewN n) (fun jv _ => r - (intOf jv).toNat)
      case atStart => exact ⟨0, 0, by omega, rfl, rfl⟩
      case round =>
        obtain ⟨j, n, hj, rfl, rfl⟩ := hrel
        have hjb : (j : Int) < (r : Int) + 1 := by omega
        have hjc : (j : Int) < ((r + 1 : Nat) : Int) := by omega
        by_cases hlj : j < r
        · have y1 := fx.out.cell j (by rw [m1]; omega)
          have y2 := fy.out.cell j (by rw [m2]; omega)
          have y3 := hf8.out.cell j (by rw [m3]; omega)
          have oo := or_b (f1.getD j 0#8) (f2.getD j 0#8)
          rw [hFr.out j hlj] at oo
          generalize f1.getD j 0#8 = v1 at y1 oo
          generalize f2.getD j 0#8 = v2 at y2 oo
          generalize f3.getD j 0#8 = v3 at y3 oo
          have hjr : (j : Int) < (r : Int) := by omega
          go_wp2_with fail
          go_quiet (fail)
          go_wp2_with fail
          exact ⟨⟨j + 1, n + nq, by omega, by go_num, rfl⟩, by simp [intOf]; omega⟩
        · have e3 : j = r := by omega
          subst e3
          have y1 := fx.out.cell j (by rw [m1]; omega)
          have y3 := hf8.out.cell j (by rw [m3]; omega)
          rw [hE1] at y1
          rw [hE2] at y3
          generalize BitVec.ofNat 8 (pb p) = v1 at y1 y3
          have hjr : ¬ (j : Int) < (j : Int) := by omega
          go_wp2_with fail
          go_quiet (fail)
          go_wp2_with fail
          go_ret
          exact ⟨by first | rfl | simp, below_drewN (below_drewN bw8.out _) _⟩
theorem union_any (a : Option Addr) (len cap : Nat) (ks : List ByteArray) (a' : Option Addr) (len' cap' : Nat) (ls : List ByteArray) (b : Int) (w : World) (H : Strs w a len cap ks) (hlen : len ≤ 1048576) (H' : Strs w a' len' cap' ls) (hlen' : len' ≤ 1048576) (hb : -9223372036854775808 ≤ b ∧ b ≤ 9223372036854775807) :
    Calls Try.prog 3 #[.slice a len cap, .slice a' len' cap', .int .i64 b] w fun e w' => e = .returned (.bool true) ∧ Below w.heap.size w w' := by
  by_cases h : len = 0 ∨ len' = 0
  · exact union_no a len cap a' len' cap' b w h
  · exact union_yes a len cap ks a' len' cap' ls b w H hlen H' hlen' (by omega) (by omega)
end Go.Proofs.Ytempagacpfejdab.Lu

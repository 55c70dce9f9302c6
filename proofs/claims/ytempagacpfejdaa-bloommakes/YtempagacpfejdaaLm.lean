/- The filter of any keys: the law walked. -/
import Derived.Test.YtempagacpfejdaaRm
namespace Go.Proofs.Ytempagacpfejdaa.Lm
open Go.ChangeShapes Go.WideShapes Go.ChangeAt Go.RowKit Go.Shelf
open Go.Proofs.Ytempagacpfejdaa.Wd
open Go.Proofs.Ytempagacpfejdaa.Pr
open Go.Proofs.Ytempagacpfejdaa.Rq
open Go.Proofs.Ytempagacpfejdaa.Bi
open Go.Proofs.Ytempagacpfejdaa.Fl
open Go.Proofs.Ytempagacpfejdaa.Mk
open Go.Proofs.Ytempagacpfejdaa.By
open Go.Proofs.Ytempagacpfejdaa.Op
open Go.Proofs.Ytempagacpfejdaa.St
open Go.Proofs.Ytempagacpfejdaa.Rm
set_option linter.unusedVariables false
set_option linter.unusedSimpArgs false

/-- Two slices of the same texts, gone through: what the law's last loop asks. -/
theorem grown_trans {a b c : World} {row : Option Nat} (h : a.grownBy b row) (k : b.grownBy c row) : a.grownBy c row :=
  ⟨k.os.trans h.os, k.tape.trans h.tape, k.output.trans h.output, Nat.le_trans h.size k.size, fun j hj hne => (k.block j (Nat.lt_of_lt_of_le hj h.size) hne).trans (h.block j hj hne)⟩
theorem grown_refl (a : World) (row : Option Nat) : a.grownBy a row := ⟨rfl, rfl, rfl, Nat.le_refl _, fun _ _ _ => rfl⟩
theorem strs_kept {w w' : World} {a : Option Addr} {len cap : Nat} {ss : List ByteArray} {q : Nat} (H : Strs w a len cap ss) (g : w.grownBy w' (some q)) (hq : ∀ b off, a = some ⟨b, off, none⟩ → b ≠ q) : Strs w' a len cap ss :=
  ⟨H.1, H.2.1, H.2.2.1, H.2.2.2.1, fun i hi => by
    obtain ⟨b, off, h1, h2⟩ := H.2.2.2.2 i hi
    refine ⟨b, off, h1, ?_⟩
    rw [← h2]
    exact World.cell?_of_block (a := ⟨b, off + i, none⟩) (g.block b (World.block_lt_of_cell? _ _ h2) (by simpa using hq b off h1))⟩
theorem own_strs2 {w : World} {base : Nat} {v : Value} {xs : List ByteArray} (h : OwnS w base v xs) (hs : ∀ s ∈ xs, s.size ≤ 9223372036854775807) : ∃ a c, v = .slice a xs.length c ∧ Strs w a xs.length c xs ∧ ∀ b off, a = some ⟨b, off, none⟩ → b < w.heap.size := by
  obtain ⟨a, c, rfl, hS⟩ := own_strs h hs
  refine ⟨a, c, rfl, hS, fun b off e => ?_⟩
  subst e
  obtain ⟨a', c', he, ha⟩ := h.shape
  simp only [Value.slice.injEq] at he
  rcases ha with rfl | ⟨g, rfl⟩
  · simp at he
  · simp at he
    obtain ⟨⟨rfl, rfl⟩, _⟩ := he
    exact (World.ownsRow.lt h b rfl).2
set_option maxRecDepth 100000 in
set_option maxHeartbeats 400000 in
theorem makes_no (a : Option Addr) (len cap : Nat) (ks : List ByteArray) (b : Int) (w : World) (H : Strs w a len cap ks) (hlen : len ≤ 8796093021952) (hb : b < 1 ∨ 64 < b) :
    Calls Try.prog 5 #[.slice a len cap, .int .i64 b] w fun e w' => e = .returned (.bool true) ∧ Below w.heap.size w w' := by
  have hks := H.1
  obtain ⟨v6, W6, r6, o6, g6⟩ := app_strs (w.alloc (.cells #[] 9)) w.heap.size (.slice (some ⟨w.heap.size, 0, none⟩) 0 0) [] a len cap ks (OwnS.empty w) (H.later (box_below _ _)) (by simp; omega) (by simp)
  have b6 : Below w.heap.size w W6 := (box_below w _).grown g6 (by simp) (fun q e => by simp [Value.ownBlock] at e; omega)
  rw [List.nil_append] at o6
  obtain ⟨ga, gc, rfl, hO, _⟩ := own_strs2 o6 H.2.2.1
  have hS := H.later b6
  have cn := Bytes.conv (nil_bytes W6)
  have cnn : ∀ n, Sem.run Try.prog (convert 33 9 (.slice none 0 0)) (W6.drewN n) = .ok (.string (str [])) (W6.drewN n) := fun n => Bytes.conv (nil_bytes _)
  rw [hks] at r6 hO
  replace r6 := hid r6
  replace b6 := hid b6
  replace hO := hid hO
  replace hS := hid hS
  clear g6 o6 H
  go_enter Try.func5, Try.ntmps5
  go_wp2_with (first | (at_builtin; refine wpList_append_run rfl (.tmp 14) (.tmp 15) 32 32 rfl (.slice (some ⟨w.heap.size, 0, none⟩) 0 0) (.slice a len cap) (.slice ga len gc) rfl rfl r6.out ?_))
  refine (make_no _ b W6 hb).mono ?_
  rintro e w' ⟨rfl, rfl⟩
  go_wp2_with fail
  refine (make_no _ b _ hb).mono ?_
  rintro e w2 ⟨rfl, rfl⟩
  go_wp2_with fail
  refine (rmake_no _ b _ hb).mono ?_
  rintro e w3 ⟨rfl, rfl⟩
  go_wp2_with fail
  refine (names_any _).mono ?_
  rintro e w4 ⟨rfl, rfl⟩
  go_wp2_with fail
  refine wp_loop_rounds 1 ?_
  rw [rounds_succ]
  go_wp2_with fail
  go_loopw [13] (fun iv wr => ∃ i n : Nat, i ≤ len ∧ iv = .int .i64 (i : Int) ∧ wr = w4.drewN n) (fun iv _ => len - (intOf iv).toNat)
  case atStart => exact ⟨0, 0, by omega, rfl, rfl⟩
  case round =>
    obtain ⟨i, n, hi, rfl, rfl⟩ := hrel
    by_cases hlt : i < len
    · obtain ⟨b1, o1, rfl, c1⟩ := hO.out.2.2.2.2 i hlt
      obtain ⟨b2, o2, rfl, c2⟩ := hS.out.2.2.2.2 i hlt
      generalize ks.getD i ByteArray.empty = s at c1 c2
      have ii : (i : Int) < (len : Int) := by omega
      go_wp2_with fail
      go_quiet (fail)
      go_wp2_with fail
      exact ⟨⟨i + 1, n + nq, by omega, by go_num, rfl⟩, by simp [intOf]; omega⟩
    · have e1 : i = len := by omega
      subst e1
      have ii : ¬ (i : Int) < (i : Int) := by omega
      go_wp2_with fail
      go_ret
      exact ⟨by first | rfl | simp, below_drewN b6.out _⟩

set_option maxRecDepth 100000 in
set_option maxHeartbeats 400000 in
theorem makes_yes (a : Option Addr) (len cap : Nat) (ks : List ByteArray) (b : Nat) (w : World) (H : Strs w a len cap ks) (hlen : len ≤ 8796093021952) (hb1 : 1 ≤ b) (hb2 : b ≤ 64) :
    Calls Try.prog 5 #[.slice a len cap, .int .i64 (b : Int)] w fun e w' => e = .returned (.bool true) ∧ Below w.heap.size w w' := by
  have hks := H.1
  obtain ⟨v6, W6, r6, o6, g6⟩ := app_strs (w.alloc (.cells #[] 9)) w.heap.size (.slice (some ⟨w.heap.size, 0, none⟩) 0 0) [] a len cap ks (OwnS.empty w) (H.later (box_below _ _)) (by simp; omega) (by simp)
  have b6 : Below w.heap.size w W6 := (box_below w _).grown g6 (by simp) (fun q e => by simp [Value.ownBlock] at e; omega)
  rw [List.nil_append] at o6
  obtain ⟨ga, gc, rfl, hO, hgb⟩ := own_strs2 o6 H.2.2.1
  have hS := hid (fun W h => H.later h : ∀ W, Below w.heap.size w W → Strs W a len cap ks)
  have hab : ∀ b off, a = some ⟨b, off, none⟩ → 0 < len → b < w.heap.size := by
    intro b off e h0
    obtain ⟨b', off', e', hc⟩ := H.2.2.2.2 0 h0
    rw [e] at e'
    cases e'
    exact World.block_lt_of_cell? _ _ hc
  rw [hks] at r6 hO
  replace r6 := hid r6
  replace b6 := hid b6
  replace hO := hid hO
  replace hgb := hid hgb
  replace hab := hid hab
  have hr8 := room_ge len b
  have hrl := room_le len b hb2
  clear g6 o6 H
  go_enter Try.func5, Try.ntmps5
  go_wp2_with (first | (at_builtin; refine wpList_append_run rfl (.tmp 14) (.tmp 15) 32 32 rfl (.slice (some ⟨w.heap.size, 0, none⟩) 0 0) (.slice a len cap) (.slice ga len gc) rfl rfl r6.out ?_))
  refine (make_ok ga len gc ks b W6 hO.out hb1 hb2 (by omega)).mono ?_
  rintro e w2 ⟨rfl, hf2, hb2'⟩
  replace hf2 := hid hf2
  replace hb2' := hid hb2'
  go_wp2_with fail
  refine (make_ok ga len gc ks b w2 (hO.out.later hb2'.out) hb1 hb2 (by omega)).mono ?_
  rintro e w3 ⟨rfl, hf3, hb3⟩
  have b3 := hid (b6.out.trans ((hb2'.out.trans (hb3.mono hb2'.out.size)).mono b6.out.size))
  have b63 := hid (hb2'.out.trans (hb3.mono hb2'.out.size))
  have f23 := hid (hf2.out.later hb3)
  have z23 := hid (blk_lt hf2.out)
  replace hf3 := hid hf3
  replace hb3 := hid hb3
  go_wp2_with fail
  refine (rmake_ok a len cap ks b w3 (hS.out w3 b3.out) hb1 hb2 (by omega)).mono ?_
  rintro e w4 ⟨rfl, hf4, hb4⟩
  have fa := f23.out.later hb4
  have fb := hf3.out.later hb4
  have z3 := blk_lt hf3.out
  have b4 := hid (b3.out.trans (hb4.mono b3.out.size))
  have b64 := hid (b63.out.trans (hb4.mono b63.out.size))
  have z6 := hb2'.out.size
  have z7 := hb3.out.size
  have z8 := z23.out
  have z9 := b6.out.size
  obtain ⟨r, hr⟩ : ∃ r, r = room len b := ⟨_, rfl⟩
  rw [← hr] at hr8 hrl ⊢
  have hml : (mkf ks b).length = r + 1 := by rw [mkf_len, hks, hr]
  have q1 := Bytes.conv (fb_bts fa (r + 1) hml)
  have q3 := Bytes.conv (fb_bts hf4 (r + 1) hml)
  obtain ⟨na, hna⟩ : ∃ na, na = W6.heap.size := ⟨_, rfl⟩
  obtain ⟨nb, hnb⟩ : ∃ nb, nb = w2.heap.size := ⟨_, rfl⟩
  obtain ⟨nc, hnc⟩ : ∃ nc, nc = w3.heap.size := ⟨_, rfl⟩
  rw [← hna] at q1 fa z8 z6 ⊢
  rw [← hnb] at fb z3 z7 z8 z6 ⊢
  rw [← hnc] at q3 hf4 z3 z7 ⊢
  have nab : na ≠ nb := by omega
  have nac : na ≠ nc := by omega
  have hO4 := hid (hO.out.later b64.out)
  have hS4 := hid (hS.out w4 b4.out)
  have hga := hid (fun b off e => by have := hgb.out b off e; omega : ∀ b off, ga = some ⟨b, off, none⟩ → b ≠ na)
  have hwn := hid (by omega : w.heap.size ≤ na)
  generalize hzz : str ((mkf ks b).map bi) = zs at q1 q3
  generalize mkf ks b = f0 at *
  replace hzz := hid hzz
  replace hna := hid hna
  replace hnb := hid hnb
  replace hnc := hid hnc
  replace fa := hid fa
  replace fb := hid fb
  replace hf4 := hid hf4
  replace hr := hid hr
  clear z3 z6 z7 z8 z9 hb4
  go_wp2_with fail
  refine (names_any _).mono ?_
  rintro e w5 ⟨rfl, rfl⟩
  go_wp2_with fail
  clear q1 q3
  go_loopw [12] (fun iv wr => ∃ (i : Nat) (f : List B8), i ≤ r + 1 ∧ iv = .int .i64 (i : Int) ∧ f.length = r + 1 ∧ Hid (Fb wr na f) ∧ Hid (w5.grownBy wr (some na))) (fun iv _ => r + 1 - (intOf iv).toNat)
  case atStart => exact ⟨0, f0, by omega, rfl, hml, fa, grown_refl _ _⟩
  case round =>
    obtain ⟨i, f, hi, rfl, hfl, hF, hG⟩ := hrel
    by_cases hlt : i < r + 1
    · have c1 := hF.out.cell i (by omega)
      have z1 := fz_of hF.out i
      have ii : (i : Int) < (r : Int) + 1 := by omega
      have hbd := bi_bd (f.getD i 0#8)
      generalize f.getD i 0#8 = v at c1 hbd
      have e5 : (bi v + 1) % 256 = bi (v + 1#8) := by unfold bi; rw [BitVec.toNat_add]; simp
      have hF' := hid (hF.out.set i (v + 1#8))
      have hG' := hid (grown_trans hG.out ⟨rfl, rfl, rfl, by simp, fun q _ hne => set_ne _ _ _ _ _ (fun e => hne (by rw [e]))⟩ : w5.grownBy (wr.setCell ⟨na, i, none⟩ (.int .u8 (bi (v + 1#8)))) (some na))
      go_wp2_with fail
      exact ⟨⟨i + 1, _, by omega, by go_num, by rw [List.length_set]; exact hfl, hF', hG'⟩, by simp [intOf]; omega⟩
    · have e1 : i = r + 1 := by omega
      subst e1
      have ii : ¬ ((r : Int) + 1 < (r : Int) + 1) := by omega
      have hB5 := hid (b4.out.grown hG.out b4.out.size (fun q e => by cases e; exact hwn.out) : Below w.heap.size w wr)
      have hSk := hid (hS.out wr hB5.out)
      have hOi := hid (strs_kept hO4.out hG.out hga.out)
      have q2 := Bytes.conv (fb_bts (hf4.out.kept hG.out (by simpa using fun e => nac e.symm)) (r + 1) hml)
      have q4 := Bytes.conv (fb_bts (fb.out.kept hG.out (by simpa using fun e => nab e.symm)) (r + 1) hml)
      rw [hzz.out] at q2 q4
      have q2n : ∀ n, Sem.run Try.prog (convert 33 9 (.slice (some ⟨nc, 0, none⟩) (r + 1) (r + 1))) (wr.drewN n) = .ok (.string zs) (wr.drewN n) := fun n => by
        have := Bytes.conv ((fb_bts (hf4.out.kept hG.out (by simpa using fun e => nac e.symm)) (r + 1) hml).later (below_drewN (Below.refl _ _) n))
        rw [hzz.out] at this
        exact this
      have q4n : ∀ n, Sem.run Try.prog (convert 33 9 (.slice (some ⟨nb, 0, none⟩) (r + 1) (r + 1))) (wr.drewN n) = .ok (.string zs) (wr.drewN n) := fun n => by
        have := Bytes.conv ((fb_bts (fb.out.kept hG.out (by simpa using fun e => nab e.symm)) (r + 1) hml).later (below_drewN (Below.refl _ _) n))
        rw [hzz.out] at this
        exact this
      clear q2 q4
      go_wp2_with fail
      go_loopw [13] (fun iv wq => ∃ i n : Nat, i ≤ len ∧ iv = .int .i64 (i : Int) ∧ wq = wr.drewN n) (fun iv _ => len - (intOf iv).toNat)
      case atStart => exact ⟨0, 0, by omega, rfl, rfl⟩
      case round =>
        obtain ⟨i, n, hi, rfl, rfl⟩ := hrel
        by_cases hlt : i < len
        · obtain ⟨b1, o1, rfl, c1⟩ := hOi.out.2.2.2.2 i hlt
          obtain ⟨b2, o2, rfl, c2⟩ := hSk.out.2.2.2.2 i hlt
          generalize ks.getD i ByteArray.empty = s at c1 c2
          have ii : (i : Int) < (len : Int) := by omega
          go_wp2_with fail
          go_quiet (fail)
          go_wp2_with fail
          exact ⟨⟨i + 1, n + nq, by omega, by go_num, rfl⟩, by simp [intOf]; omega⟩
        · have e1 : i = len := by omega
          subst e1
          have ii : ¬ (i : Int) < (i : Int) := by omega
          go_wp2_with fail
          go_ret
          exact ⟨by first | rfl | simp, below_drewN hB5.out _⟩
theorem makes_any (a : Option Addr) (len cap : Nat) (ks : List ByteArray) (b : Int) (w : World) (H : Strs w a len cap ks) (hlen : len ≤ 8796093021952) (hb : -9223372036854775808 ≤ b ∧ b ≤ 9223372036854775807) :
    Calls Try.prog 5 #[.slice a len cap, .int .i64 b] w fun e w' => e = .returned (.bool true) ∧ Below w.heap.size w w' := by
  by_cases h : b < 1 ∨ 64 < b
  · exact makes_no a len cap ks b w H hlen h
  · obtain ⟨n, rfl⟩ := Int.eq_ofNat_of_zero_le (show 0 ≤ b by omega)
    exact makes_yes a len cap ks n w H hlen (by omega) (by omega)
end Go.Proofs.Ytempagacpfejdaa.Lm

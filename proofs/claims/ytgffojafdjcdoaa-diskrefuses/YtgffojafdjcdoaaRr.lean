/- DiskRefuses, walked. -/
import Derived.Test.YtgffojafdjcdoaaSm
import Derived.Test.YtgffojafdjcdoaaLl
namespace Go.Proofs.Ytgffojafdjcdoaa.Rr
open Go.ChangeShapes Go.WideShapes Go.ChangeAt Go.RowKit
open Go.Proofs (encStr)
open Go.Proofs.Ytgffojafdjcdoaa.By
open Go.Proofs.Ytgffojafdjcdoaa.Ln
open Go.Proofs.Ytgffojafdjcdoaa.Ac
open Go.Proofs.Ytgffojafdjcdoaa.Mp
open Go.Proofs.Ytgffojafdjcdoaa.Dk
open Go.Proofs.Ytgffojafdjcdoaa.Df
open Go.Proofs.Ytgffojafdjcdoaa.Dg
open Go.Proofs.Ytgffojafdjcdoaa.Dh
open Go.Proofs.Ytgffojafdjcdoaa.Ap
open Go.Proofs.Ytgffojafdjcdoaa.Us
open Go.Proofs.Ytgffojafdjcdoaa.Lt
open Go.Proofs.Ytgffojafdjcdoaa.Cl (clone_any)
open Go.Proofs.Ytgffojafdjcdoaa.De
open Go.Proofs.Ytgffojafdjcdoaa.Sm
open Go.Proofs.Ytgffojafdjcdoaa.Ll
set_option linter.unusedVariables false
set_option linter.unusedSimpArgs false

set_option maxRecDepth 10000 in
theorem refuses_no (q : Int) (va : Value) (w : World) (h : isQ q = false) : Calls Try.prog 7 #[.int .i64 q, va] w fun e w' => e = .returned (.bool true) ∧ Below w.heap.size w w' := by
  have HN := hid (new_no q h w)
  have hE : ∀ w, Sem.run Try.prog (binOp .eql 23 (.pointer none) (.pointer none)) w = .ok (.bool true) w := fun w => rfl
  have hq : q < 0 ∨ 268435456 < q := by unfold isQ at h; simp at h; omega
  clear h
  rcases hq with hq | hq
  · go_enter Try.func7, Try.ntmps7
    go_wp2_with fail
    refine HN.out.mono ?_
    rintro e w1 ⟨rfl, rfl⟩
    go_wp2_with fail
    go_ret
    exact ⟨rfl, Below.refl _ _⟩
  · have hq2 : decide (q < 0) = false := decide_eq_false (by omega)
    go_enter Try.func7, Try.ntmps7
    go_wp2_with fail
    refine HN.out.mono ?_
    rintro e w1 ⟨rfl, rfl⟩
    go_wp2_with fail
    go_ret
    exact ⟨rfl, Below.refl _ _⟩
def nobody : ByteArray := { data := #[97, 32, 102, 105, 108, 101, 32, 116, 104, 97, 116, 32, 110, 111, 98, 111, 100, 121, 32, 110, 97, 109, 101, 100] }
theorem nobody_ok : isN nobody = true := by decide
/-- Once the plan is through, what has room is taken; with a plan of one, the next is refused. -/
theorem crt_code (S : St) (hf : ¬ 4096 ≤ S.fs.length) (h0 : S.af = 0) (h1 : S.ct = 0) : ((crt S nobody).2 = 0 ∨ (crt S nobody).2 = 50) ∧ (seek (crt S nobody).1.fs nobody.data.toList).isSome = true ∧ (crt S nobody).1.rf = S.rf := by
  have hn : nxt S.af S.ct = (0, 0, false) := by unfold nxt; rw [if_pos ⟨h0, h1⟩]
  have hfl : full S = false := decide_eq_false hf
  have ht : tr S (full S) = ({ S with af := 0, ct := 0 }, false) := by unfold tr; rw [hn, hfl]; rfl
  rcases fnd_cases S nobody with h | h | h
  · rw [nobody_ok] at h; cases h.2
  · unfold crt
    rw [if_pos h.1, ht]
    refine ⟨.inl rfl, ?_, rfl⟩
    show (seek (put S.fs nobody.data.toList nilF) nobody.data.toList).isSome = true
    rw [seek_put_same]; rfl
  · unfold crt
    rw [if_neg (by rw [h.1]; decide), if_pos h.1]
    refine ⟨.inr rfl, ?_, rfl⟩
    show (seek S.fs nobody.data.toList).isSome = true
    rw [h.2.2]; rfl
theorem apd_code52 (S : St) (h : (seek S.fs nobody.data.toList).isSome = true) (h0 : S.af = 0) (h1 : S.ct = 1) (zs : List Int) (v : Value) : (apd S nobody zs v).2 = 52 := by
  have hn : nxt S.af S.ct = (0, 0, true) := by rw [h0, h1]; rfl
  have ht : (tr S (big S zs.length)).2 = true := by unfold tr; rw [hn]; rfl
  rcases fnd_cases S nobody with h2 | h2 | h2
  · rw [nobody_ok] at h2; cases h2.2
  · rw [h2.2.2] at h; cases h
  · unfold apd
    rw [if_pos h2.1, if_pos ht]
set_option maxRecDepth 100000 in
set_option maxHeartbeats 4000000 in
theorem refuses_yes (q : Int) (a : Option Addr) (len cap : Nat) (xs : List A) (w : World) (H : Acts w a len cap xs) (hl : len ≤ 140737488351232) (h : isQ q = true) :
    Calls Try.prog 7 #[.int .i64 q, .slice a len cap] w fun e w' => e = .returned (.bool true) ∧ Below w.heap.size w w' := by
  have HN := hid (new_ok q h w)
  have hE : ∀ (x : Addr) (w : World), Sem.run Try.prog (binOp .eql 23 (.pointer (some x)) (.pointer none)) w = .ok (.bool false) w := fun x w => rfl
  obtain ⟨n0, hn0⟩ : ∃ n0, n0 = w.heap.size := ⟨_, rfl⟩
  have hA := hid (fun W (h : Below n0 w W) => H.later (by rw [← hn0]; exact h) : ∀ W, Below n0 w W → Acts W a len cap xs)
  have hxl := H.1
  have hcap := H.2.1
  rw [← hn0] at HN
  replace hn0 := hid hn0
  clear H h
  go_enter Try.func7, Try.ntmps7
  go_wp2_with fail
  refine HN.out.mono ?_
  rintro e w1 ⟨g, b, rfl, D1, b1⟩
  replace D1 := hid D1
  replace b1 := hid b1
  go_wp2_with fail
  go_loopw [7] (fun iv wr => ∃ (i : Nat) (S : St) (P : Nat → Prop), iv = .int .i64 (i : Int) ∧ i ≤ len ∧ S.rf ≤ (i : Int) ∧ Hid (Disk wr n0 g b P S) ∧ Hid (Below n0 w wr)) (fun iv _ => len - (intOf iv).toNat)
  case atStart => exact ⟨0, _, _, rfl, by omega, by simp, D1, b1⟩
  case round =>
    obtain ⟨i, S, P, rfl, hi, hrf, hD, hB⟩ := hrel
    have hnw : n0 ≤ wr.heap.size := by have := hB.out.size; have := hn0.out; omega
    by_cases hlt : i < len
    · have ii : (i : Int) < (len : Int) := by omega
      have HCl := hid (clone_any wr hD.out)
      go_wp2_with fail
      refine HCl.out.mono ?_
      rintro e w2 ⟨g2, b2, fs2, rfl, D2, Al, bb2⟩
      have hPw := hid hD.out.plow
      have hPP : Hid (∀ j, (wr.heap.size ≤ j ∧ j < w2.heap.size) → ¬ P j) := fun j hj hp => by have := hPw.out j hp; omega
      replace hD := hid (hD.out.later bb2)
      replace hB := hid (hB.out.trans (bb2.mono hnw))
      have hn2 : n0 ≤ w2.heap.size := Nat.le_trans hnw bb2.size
      replace D2 := hid D2
      replace Al := hid Al
      clear HCl bb2
      have HA := hA.out w2 hB.out
      obtain ⟨bk, o, rfl, hc⟩ : ∃ bk o, a = some ⟨bk, o, none⟩ ∧ ∀ k, k < 7 → w2.cell? ⟨bk, o + i * 7 + k, none⟩ = (xs.getD i za).cells[k]? := by
        cases a with
        | none => have := HA.2.2.1 rfl; omega
        | some ad =>
          obtain ⟨bk, o, p⟩ := ad
          obtain ⟨rfl, h⟩ := HA.2.2.2.2 bk o p rfl (by omega)
          exact ⟨bk, o, rfl, h i hlt⟩
      have hm : xs.getD i za ∈ xs := by rw [List.getD_eq_getElem?_getD, List.getElem?_eq_getElem (by omega)]; exact List.getElem_mem _
      obtain ⟨hok, hnm, hto⟩ := HA.2.2.2.1 _ hm
      have HDo := hid (does_any (xs.getD i za) w2 hD.out hn2 (by omega) hok hnm hto)
      have hkind : Hid (∀ W, Below n0 w W → W.cell? ⟨bk, o + i * 7, none⟩ = some (.int .i64 (xs.getD i za).kind)) := fun W hW => by
        have := ((hA.out W hW).2.2.2.2 bk o none rfl (by omega)).2 i hlt 0 (by omega)
        simpa [A.cells] using this
      have c0 : w2.cell? ⟨bk, o + i * 7, none⟩ = _ := hc 0 (by omega)
      have c1 := hc 1 (by omega)
      have c2 := hc 2 (by omega)
      have c3 := hc 3 (by omega)
      have c4 := hc 4 (by omega)
      have c5 := hc 5 (by omega)
      have c6 := hc 6 (by omega)
      revert HDo hkind c0 c1 c2 c3 c4 c5 c6
      clear hok hnm hto hm hc HA
      generalize xs.getD i za = x
      obtain ⟨x0, x1, x2, x3, x4, x5, x6, x7, x8, x9, xa, xb, xc⟩ := x
      intro HDo hkind c0 c1 c2 c3 c4 c5 c6
      simp only [A.cells] at c0 c1 c2 c3 c4 c5 c6
      go_wp2_with fail
      refine HDo.out.mono ?_
      rintro e w3 ⟨cc, rfl, S', P', D', F', r', An⟩
      have Dw3 := hid (disk_beside D2.out F' hPP.out)
      have B3 := hid (hB.out.trans (Dd.Fr.low F' n0 hn2 (fun j hj => (hD.out.low j hj).1)))
      have hn3 : n0 ≤ w3.heap.size := Nat.le_trans hn2 F'.size
      have hro := hid D'.ok.rf
      have hro1 := hid hD.out.ok.rf
      replace D' := hid D'
      replace An := hid An
      clear F' HDo c0 c1 c2 c3 c4 c5 c6
      have hSm : Hid (cc ≠ 0 → ∀ W, Below w3.heap.size w3 W → Calls Try.prog 16 #[.pointer (some ⟨g, 0, none⟩), .pointer (some ⟨g2, 0, none⟩)] W fun e w' => e = .returned (.bool true) ∧ Below W.heap.size W w') := fun hc W hW => same_yes W (D'.out.later hW) (Dw3.out.later hW) (by rw [An.out.same hc]; exact Al.out)
      have hRf : Hid (∀ W, Below w3.heap.size w3 W → Calls Try.prog 23 #[.pointer (some ⟨g, 0, none⟩)] W fun e w' => e = .returned (.int .i64 S'.rf) ∧ w' = W) := fun W hW => refused_any W (D'.out.later hW)
      have hRw : Hid (∀ W, Below w3.heap.size w3 W → Calls Try.prog 23 #[.pointer (some ⟨g2, 0, none⟩)] W fun e w' => e = .returned (.int .i64 S.rf) ∧ w' = W) := fun W hW => refused_any (S := { S with fs := fs2 }) W (Dw3.out.later hW)
      have hEnd : Hid (∀ W, Below w3.heap.size w3 W → ∃ (i' : Nat) (S : St) (P : Nat → Prop), Value.int .i64 ((i : Int) + 1) = .int .i64 (i' : Int) ∧ i' ≤ len ∧ S.rf ≤ (i' : Int) ∧ Hid (Disk W n0 g b P S) ∧ Hid (Below n0 w W)) := fun W hW => ⟨i + 1, S', P', by go_num, by omega, by omega, D'.out.later hW, B3.out.trans (hW.mono hn3)⟩
      have hMs : len - (i + 1) < len - i := by omega
      by_cases h52 : cc = 52
      · subst h52
        have e1 := An.out.no rfl
        have e1b : S.rf + 1 ≤ 9223372036854775807 := by have := hro1.out; omega
        have e1a : -9223372036854775808 ≤ S.rf := by have := hro1.out; omega
        have HS := hSm.out (by decide)
        go_wp2_with fail
        refine (HS _ (Below.refl _ _)).mono ?_
        rintro e w4 ⟨rfl, b4⟩
        have R1 := hid (hRf.out w4 b4)
        have R2 := hid (hRw.out w4 b4)
        have HS4 := hid (HS w4 b4)
        replace b4 := hid b4
        rw [e1] at R1
        go_wp2_with fail
        refine R1.out.mono ?_
        rintro e w5 ⟨rfl, rfl⟩
        go_wp2_with fail
        refine R2.out.mono ?_
        rintro e w5 ⟨rfl, rfl⟩
        go_wp2_with fail
        refine HS4.out.mono ?_
        rintro e w6 ⟨rfl, b6⟩
        have b36 := hid (b4.out.trans (b6.mono b4.out.size))
        have qk := hkind.out w6 (B3.out.trans (b36.out.mono hn3))
        clear b6 HS4 HS R1 R2 b4
        by_cases hk1 : x0 = 1
        · subst hk1
          go_wp2_with fail
          exact ⟨hEnd.out w6 b36.out, by simp [intOf]; omega⟩
        · have hk2 : (x0 == 1) = false := by simp [hk1]
          go_wp2_with fail
          exact ⟨hEnd.out w6 b36.out, by simp [intOf]; omega⟩
      · have e1 := An.out.yes h52
        have n52 : (cc == 52) = false := by simp [h52]
        have d52 : decide (cc = 52) = false := decide_eq_false h52
        rw [e1] at hRf
        go_wp2_with fail
        refine (hRf.out _ (Below.refl _ _)).mono ?_
        rintro e w4 ⟨rfl, rfl⟩
        go_wp2_with fail
        refine (hRw.out _ (Below.refl _ _)).mono ?_
        rintro e w4 ⟨rfl, rfl⟩
        by_cases hc0 : cc = 0
        · subst hc0
          by_cases hk1 : x0 = 1
          · subst hk1
            have hro2 := An.out.room rfl rfl
            have HU := hid (used_any w4 D'.out)
            have HQ := hid (fun W (h : Below w4.heap.size w4 W) => quota_any W (D'.out.later h))
            have qk := hkind.out w4 B3.out
            go_wp2_with fail
            refine HU.out.mono ?_
            rintro e w5 ⟨rfl, b5⟩
            have HQ5 := hid (HQ.out w5 b5)
            replace b5 := hid b5
            go_wp2_with fail
            refine HQ5.out.mono ?_
            rintro e w5 ⟨rfl, rfl⟩
            have hd5 : decide (S'.q < ((used S'.fs : Nat) : Int)) = false := decide_eq_false (by omega)
            go_wp2_with fail
            exact ⟨hEnd.out _ b5.out, by simp [intOf]; omega⟩
          · have hk2 : (x0 == 1) = false := by simp [hk1]
            have qk := hkind.out w4 B3.out
            go_wp2_with fail
            exact ⟨hEnd.out _ (Below.refl _ _), by simp [intOf]; omega⟩
        · have n0c : (cc == 0) = false := by simp [hc0]
          have HS := hid (hSm.out hc0 w4 (Below.refl _ _))
          go_wp2_with fail
          refine HS.out.mono ?_
          rintro e w6 ⟨rfl, b6⟩
          have qk := hkind.out w6 (B3.out.trans (b6.mono hn3))
          replace b6 := hid b6
          by_cases hk1 : x0 = 1
          · subst hk1
            go_wp2_with fail
            exact ⟨hEnd.out w6 b6.out, by simp [intOf]; omega⟩
          · have hk2 : (x0 == 1) = false := by simp [hk1]
            go_wp2_with fail
            exact ⟨hEnd.out w6 b6.out, by simp [intOf]; omega⟩
    · have e1 : i = len := by omega
      subst e1
      have ii : ¬ (i : Int) < (i : Int) := by omega
      have hro := hD.out.ok.rf
      have HR0 := hid (refuse_any 0 0 (by omega) (by omega) wr hD.out)
      rw [if_pos (by omega), if_pos (by omega)] at HR0
      have hlen := hD.out.ok.len
      go_wp2_with fail
      refine HR0.out.mono ?_
      rintro e w2 ⟨rfl, D2, F2⟩
      have B2 := hid (hB.out.trans (Dd.Fr.low F2 n0 hnw (fun j hj => (hD.out.low j hj).1)))
      have hn2 : n0 ≤ w2.heap.size := Nat.le_trans hnw F2.size
      have HL := hid (fun W (h : Below w2.heap.size w2 W) => list_any W (D2.later h))
      replace D2 := hid D2
      clear F2 HR0
      dsimp only at HL
      go_wp2_with fail
      refine (HL.out w2 (Below.refl _ _)).mono ?_
      rintro e w3 ⟨gl, cl, rfl, _, b3⟩
      have B3 := hid (B2.out.trans (b3.mono hn2))
      have hn3 : n0 ≤ w3.heap.size := Nat.le_trans hn2 b3.size
      by_cases hfull : 4096 ≤ S.fs.length
      · have HL3 := hid (HL.out w3 b3)
        have i4 : (4096 : Int) ≤ (S.fs.length : Int) := by omega
        have i5 : (S.fs.length : Int) ≤ 4096 := by omega
        go_wp2_with fail
        refine HL3.out.mono ?_
        rintro e w4 ⟨gm, cm, rfl, _, b4⟩
        have B4 := hid (B3.out.trans (b4.mono hn3))
        go_wp2_with fail
        go_ret
        exact ⟨by first | rfl | (simp; omega), by rw [← hn0.out]; exact B4.out⟩
      · have i4 : ¬ (4096 : Int) ≤ (S.fs.length : Int) := by omega
        have D3 := hid (D2.out.later b3)
        obtain ⟨hc, hsk, hcr⟩ := crt_code { S with af := 0, ct := 0 } hfull rfl rfl
        have HCr := hid (create_any nobody (by decide) w3 D3.out (by show S.rf < _; omega))
        have hS1 : Hid (S.rf < 4611686018427387904) := by show _ < _; omega
        clear D3 HL D2 hcap hxl hA HN D1 b1
        generalize hS4 : (crt { S with af := 0, ct := 0 } nobody).1 = S4 at *
        clear hS4
        rcases hc with hc | hc
        · rw [hc] at HCr
          clear hc
          go_wp2_with fail
          refine HCr.out.mono ?_
          rintro e w4 ⟨rfl, D4, F4⟩
          have B4 := hid (B3.out.trans (Dd.Fr.low F4 n0 hn3 (fun j hj => (hD.out.low j hj).1)))
          have hn4 : n0 ≤ w4.heap.size := Nat.le_trans hn3 F4.size
          have HR1 := hid (refuse_any 0 1 (by omega) (by omega) w4 D4)
          rw [if_pos (by omega), if_pos (by omega)] at HR1
          clear F4 HCr
          go_wp2_with fail
          refine HR1.out.mono ?_
          rintro e w5 ⟨rfl, D5, F5⟩
          have B5 := hid (B4.out.trans (Dd.Fr.low F5 n0 hn4 (fun j hj => (hD.out.low j hj).1)))
          have hn5 : n0 ≤ w5.heap.size := Nat.le_trans hn4 F5.size
          have HAp := hid (append_any nobody (by decide) none 0 0 [] w5 D5 (by show S4.rf < _; rw [hcr]; exact hS1.out) (nil_bytes _) (by omega) (fun x hx h => by omega))
          rw [apd_code52 { S4 with af := 0, ct := 1 } hsk rfl rfl] at HAp
          clear F5 HR1 D5 D4
          go_wp2_with fail
          refine HAp.out.mono ?_
          rintro e w6 ⟨rfl, sl, P6, D6, F6, hP6, _⟩
          have B6 := hid (B5.out.trans (Dd.Fr.low F6 n0 hn5 (fun j hj => (hD.out.low j hj).1)))
          clear F6 D6 hP6 HAp
          go_wp2_with fail
          go_ret
          exact ⟨rfl, by rw [← hn0.out]; exact B6.out⟩
        · rw [hc] at HCr
          clear hc
          go_wp2_with fail
          refine HCr.out.mono ?_
          rintro e w4 ⟨rfl, D4, F4⟩
          have B4 := hid (B3.out.trans (Dd.Fr.low F4 n0 hn3 (fun j hj => (hD.out.low j hj).1)))
          have hn4 : n0 ≤ w4.heap.size := Nat.le_trans hn3 F4.size
          have HR1 := hid (refuse_any 0 1 (by omega) (by omega) w4 D4)
          rw [if_pos (by omega), if_pos (by omega)] at HR1
          clear F4 HCr
          go_wp2_with fail
          refine HR1.out.mono ?_
          rintro e w5 ⟨rfl, D5, F5⟩
          have B5 := hid (B4.out.trans (Dd.Fr.low F5 n0 hn4 (fun j hj => (hD.out.low j hj).1)))
          have hn5 : n0 ≤ w5.heap.size := Nat.le_trans hn4 F5.size
          have HAp := hid (append_any nobody (by decide) none 0 0 [] w5 D5 (by show S4.rf < _; rw [hcr]; exact hS1.out) (nil_bytes _) (by omega) (fun x hx h => by omega))
          rw [apd_code52 { S4 with af := 0, ct := 1 } hsk rfl rfl] at HAp
          clear F5 HR1 D5 D4
          go_wp2_with fail
          refine HAp.out.mono ?_
          rintro e w6 ⟨rfl, sl, P6, D6, F6, hP6, _⟩
          have B6 := hid (B5.out.trans (Dd.Fr.low F6 n0 hn5 (fun j hj => (hD.out.low j hj).1)))
          clear F6 D6 hP6 HAp
          go_wp2_with fail
          go_ret
          exact ⟨rfl, by rw [← hn0.out]; exact B6.out⟩
end Go.Proofs.Ytgffojafdjcdoaa.Rr

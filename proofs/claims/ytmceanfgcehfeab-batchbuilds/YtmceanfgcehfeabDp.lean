/- The law's does where the step asks for the bytes. -/
import Derived.Test.YtmceanfgcehfeabDo
import Derived.Test.YtmceanfgcehfeabEd
namespace Go.Proofs.Ytmceanfgcehfeab.Dp
open Go.ChangeShapes Go.WideShapes Go.ChangeAt Go.RowKit
open Go.Sort
open Go.Proofs.Ytmceanfgcehfeab.By
open Go.Proofs.Ytmceanfgcehfeab.Ob
open Go.Proofs.Ytmceanfgcehfeab.En
open Go.Proofs.Ytmceanfgcehfeab.Bu
open Go.Proofs.Ytmceanfgcehfeab.Bv
open Go.Proofs.Ytmceanfgcehfeab.Bp
open Go.Proofs.Ytmceanfgcehfeab.Do
open Go.Proofs.Ytmceanfgcehfeab.De (row_ops may_ok)
open Go.Proofs.Ytmceanfgcehfeab.Jo (Res encR)
set_option linter.unusedVariables false

theorem rencode_res (s : Int) (a : Option Addr) (len cap : Nat) (xs : List O) (w : World) (H : Ops w a len cap xs) (hl : len ≤ 140737488351232) (hs : 0 ≤ s ∧ s ≤ 18446744073709551615) :
    Calls Try.prog 14 #[.int .u64 s, .slice a len cap] w fun e w' => ∃ v, e = .returned (.tuple #[v, .int .i64 (encR s xs).1]) ∧ Res w' w.heap.size v (encR s xs).2 ∧ Below w.heap.size w w' := by
  unfold encR
  by_cases h : encE s xs = 0
  · rw [if_pos h]
    refine (rencode_ok s a len cap xs w H hs h).mono ?_
    rintro e w' ⟨g, c, rfl, R, b⟩
    rw [← enc_len s xs] at R ⊢
    exact ⟨_, rfl, .inr ⟨g, c, rfl, R⟩, b⟩
  · rw [if_neg h]
    refine (rencode_no s a len cap xs w H hl hs h).mono ?_
    rintro e w' ⟨rfl, b⟩
    exact ⟨_, rfl, .inl ⟨rfl, rfl⟩, b⟩
/-- A row of bytes that may be written. -/
def Pad (w : World) (g n : Nat) : Prop := ∀ j, j < n → (∃ y : Int, w.cell? ⟨g, j, none⟩ = some (.int .u8 y)) ∧ w.frozen? ⟨g, j, none⟩ = false
theorem Pad.of {w : World} {base g n cap : Nat} {zs : List Int} (h : Row w base g n cap zs) : Pad w g n := fun j hj => by
  refine ⟨⟨_, h.cell j hj⟩, ?_⟩
  rcases h.2 with ⟨e, _⟩ | ⟨g', cap', cur, e, hb, hg, hr⟩
  · cases e
  · cases e
    simp [World.frozen?, hg]
theorem Pad.set {w : World} {g n : Nat} (h : Pad w g n) (i : Nat) (y : Int) (hi : i < n) : Pad (w.setCell ⟨g, i, none⟩ (.int .u8 y)) g n := fun j hj => by
  obtain ⟨⟨z, hz⟩, hf⟩ := h j hj
  refine ⟨?_, by simpa using hf⟩
  by_cases e : j = i
  · subst e
    exact ⟨y, by simp [go_sem, hz]⟩
  · exact ⟨z, by rw [← hz]; first | exact World.cell?_setCell_other (by intro e2; injection e2; omega) | exact World.cell?_setCell_other _ (by intro e2; injection e2; omega) | exact World.cell?_setCell_other _ _ _ _ (by intro e2; injection e2; omega) | exact World.cell?_setCell_other w _ (by intro e2; injection e2; omega)⟩
theorem res_open {w : World} {base : Nat} {v : Value} {zs : List Int} (h : Res w base v zs) (hb : ∀ y ∈ zs, 0 ≤ y ∧ y ≤ 255) : ∃ a c, v = .slice a zs.length c ∧ Sem.run Try.prog (convert 33 9 (.slice a zs.length c)) w = .ok (.string (str zs)) w ∧ zs.length ≤ c ∧ (zs.length = 0 ∨ ∃ g, a = some ⟨g, 0, none⟩ ∧ base ≤ g ∧ Pad w g zs.length) := by
  rcases h with ⟨rfl, rfl⟩ | ⟨g, c, rfl, R⟩
  · exact ⟨none, 0, rfl, (nil_bytes w).conv, by simp, .inl rfl⟩
  · exact ⟨_, c, rfl, R.conv, (R.bytes hb).2.1, .inr ⟨g, rfl, R.lt.1, Pad.of R⟩⟩
set_option maxRecDepth 100000 in
set_option maxHeartbeats 4000000 in
theorem does4 (g base : Nat) (v0 : Value) (xs : List O) (x m : Int) (k v : ByteArray) (s : Int) (w : World) (H : Two w base g v0 xs) (hs : 0 ≤ s ∧ s ≤ 18446744073709551615) (HA0 : ∀ w, Calls Try.prog 23 #[.int .i64 x, .int .i64 5] w fun e w' => e = .returned (.int .i64 4) ∧ w' = w) :
    Calls Try.prog 12 #[.pointer (some ⟨g, 0, none⟩), v0, .agg #[.int .i64 x, .int .i64 m, .string k, .string v, .int .u64 s]] w fun e w' => ∃ u xs', e = .returned (.tuple #[u, .bool true]) ∧ Two w' base g u xs' ∧ Below base w w' := by
  obtain ⟨a, cc, hv0, _⟩ := H.ops
  subst hv0
  obtain ⟨W0, hW0⟩ : ∃ W0, W0 = w.alloc (.cells #[.int .i64 x, .int .i64 m, .string k, .string v, .int .u64 s] 30) := ⟨_, rfl⟩
  obtain ⟨gx, hgx⟩ : ∃ gx, gx = w.heap.size := ⟨_, rfl⟩
  have bb : Below w.heap.size w W0 := by rw [hW0]; exact box_below _ _
  have AX : Hid (Ax W0 gx x m k v s) := by show W0.heap[gx]? = _; rw [hW0, hgx]; show (w.heap.push _)[w.heap.size]? = _; simp
  have T0 := hid (H.later bb)
  obtain ⟨P, hPd⟩ : ∃ P : Nat → Prop, P = fun j => Of (.slice a xs.length cc) j ∨ j = gx := ⟨_, rfl⟩
  have PX : Hid (P gx) := by rw [hPd]; exact .inr rfl
  have hP : Hid (∀ j, Of (.slice a xs.length cc) j → P j) := fun j hj => by rw [hPd]; exact .inl hj
  have hp : Hid (∀ j, P j → j < W0.heap.size) := fun j hj => by
    rw [hPd] at hj
    rcases hj with hj | hj
    · exact T0.out.hp j hj
    · have := bb.size; rw [hj]; exact (Array.getElem?_eq_some_iff.1 AX.out).1
  have hpg : Hid (¬ P g) := fun hj => by
    rw [hPd] at hj
    rcases hj with hj | hj
    · exact T0.out.hpg hj
    · have := Bp.Bs.lt H.1; omega
  have B0 : Hid (Bs W0 base g P xs) := by show Bs _ _ _ _ _; rw [hPd, hgx]; exact Bp.Bs.more H.1 bb
  have hf := hid H.2.2.1
  have hb0 := hid T0.out.2.2.2
  have BW0 : Hid (Below base w W0) := bb.mono H.2.2.2
  have HW0 := hid hW0
  have HGX := hid hgx
  have HA := hid HA0
  clear hW0 hgx bb hPd H HA0
  have FP := hid (bytes_any g s xs base P W0 B0.out hf.out hs)
  have FR : Hid (∀ W, Ops W a xs.length cc xs → Calls Try.prog 14 #[.int .u64 s, .slice a xs.length cc] W fun e w' => ∃ v, e = .returned (.tuple #[v, .int .i64 (encR s xs).1]) ∧ Res w' W.heap.size v (encR s xs).2 ∧ Below W.heap.size W w') := fun W h => rencode_res s a xs.length cc xs W h (by have := hf.out.2.1; omega) hs
  have HBy := hid (Jo.encR_bytes s xs)
  have hln := Jo.encR_len s xs
  clear hs
  generalize encR s xs = r at *
  obtain ⟨E, Z⟩ := r
  simp only at hln
  go_enter Try.func12, Try.ntmps12
  go_wp2_with fail
  rw [← HW0.out, ← HGX.out]
  refine (HA.out W0).mono ?_
  rintro e w0 ⟨rfl, rfl⟩
  have x1 : w0.cell? ⟨gx, 2, none⟩ = some (.string k) := AX.out.cell 2
  have x2 : w0.cell? ⟨gx, 3, none⟩ = some (.string v) := AX.out.cell 3
  have x3 : w0.cell? ⟨gx, 4, none⟩ = some (.int .u64 s) := AX.out.cell 4
  clear HA HW0
  go_wp2_with fail
  refine FP.out.mono ?_
  rintro e w1 ⟨v1, rfl, R1, b1⟩
  have T1 := hid (T0.out.later b1)
  have y3 : w1.cell? ⟨gx, 4, none⟩ = some (.int .u64 s) := (World.cell?_of_block (a := ⟨gx, 4, none⟩) (b1.block gx (hp.out gx PX.out))).trans x3
  obtain ⟨a', c', hv', O1⟩ := T1.out.ops
  cases hv'
  have FR1 := hid (FR.out w1 O1)
  have R1 := hid R1
  have b1 := hid b1
  clear FR FP O1 x1 x2 x3
  go_wp2_with fail
  refine FR1.out.mono ?_
  rintro e w2 ⟨v2, rfl, R2, b2⟩
  obtain ⟨a1, c1, hv1, C1, hc1, PD⟩ := res_open (R1.out.later b2) HBy.out
  obtain ⟨a2, c2, hv2, C2, _, _⟩ := res_open R2 HBy.out
  try simp only at hv1 C1 hv2 C2 PD hc1
  subst hv1 hv2
  have BB2 : Hid (Below w0.heap.size w0 w2) := b1.out.trans (b2.mono b1.out.size)
  have PD := hid PD
  clear R1 R2 b1 b2 T1 FR1 y3
  generalize Z.length = N at *
  generalize str Z = SZ at *
  go_wp2_with fail
  go_loopw [14] (fun i wr => ∃ kk : Nat, i = .int .i64 kk ∧ kk ≤ N ∧ Hid (Below w0.heap.size w0 wr) ∧ Hid (N = 0 ∨ ∃ g, a1 = some ⟨g, 0, none⟩ ∧ w0.heap.size ≤ g ∧ Pad wr g N)) (fun i _ => N - (intOf i).toNat)
  case atStart => exact ⟨0, rfl, by omega, BB2, PD⟩
  case round =>
    obtain ⟨kk, rfl, hk, hbel, hpd⟩ := hrel
    by_cases hlt : kk < N
    · obtain ⟨g9, ha1, hg9, pad⟩ : ∃ g, a1 = some ⟨g, 0, none⟩ ∧ w0.heap.size ≤ g ∧ Pad wr g N := by
        rcases hpd.out with h | h
        · omega
        · exact h
      subst ha1
      obtain ⟨⟨y, hy⟩, hfz⟩ := pad kk hlt
      have ik0 : (kk : Int) < (N : Int) := by omega
      have HPadS : Hid (∀ y', Pad (wr.setCell ⟨g9, kk, none⟩ (.int .u8 y')) g9 N) := fun y' => pad.set kk y' hlt
      have HBelS : Hid (∀ y', Below w0.heap.size w0 (wr.setCell ⟨g9, kk, none⟩ y')) := fun y' => hbel.out.setCell hg9 _
      have HG9 := hid hg9
      clear pad hpd hbel hg9
      go_wp2_with fail
      go_roundw
      case rel => exact ⟨kk + 1, by go_num, by omega, HBelS.out _, .inr ⟨g9, rfl, HG9.out, HPadS.out _⟩⟩
      case measure => simp [intOf]; omega
    · have T2 := hid (T0.out.later hbel.out)
      have BW2 : Hid (Below base w wr) := BW0.out.trans (hbel.out.mono hb0.out)
      have nlt : ¬ (kk : Int) < (N : Int) := by omega
      clear hpd
      obtain ⟨a2, c2, hu2, O2⟩ := T2.out.ops
      cases hu2
      have O2 := hid O2
      have hl2 : Hid (xs.length ≤ 8192) := Nat.le_trans T2.out.2.2.1.2.1 (by omega)
      have hm2 := hid T2.out.2.2.1.1
      have HLn := hid (len_any g xs base _ wr T2.out.1)
      have HSz := hid (size_any g xs base _ wr T2.out.1)
      have HRb := hid (Bp.rbytes_any a xs.length cc xs wr O2.out hl2.out hm2.out)
      clear O2 hl2 hm2
      generalize hz : bsz xs = z at *
      have HZ := hid hz
      clear hz
      go_wp2_with fail
      refine HLn.out.mono ?_
      rintro e w3 ⟨rfl, rfl⟩
      go_wp2_with fail
      refine HSz.out.mono ?_
      rintro e w4 ⟨rfl, rfl⟩
      go_wp2_with fail
      refine HRb.out.mono ?_
      rintro e w5 ⟨rfl, b5⟩
      have T5 := hid (T2.out.later b5)
      have BW5 : Hid (Below base w w5) := BW2.out.trans (b5.mono T2.out.2.2.2)
      clear b5
      go_wp2_with fail
      go_ret2
      exact ⟨_, _, rfl, T5.out, BW5.out⟩
theorem does_any (g base : Nat) (v0 : Value) (xs : List O) (x m : Int) (k v : ByteArray) (s : Int) (w : World) (H : Two w base g v0 xs) (hx : -9223372036854775808 ≤ x ∧ x ≤ 9223372036854775807) (hs : 0 ≤ s ∧ s ≤ 18446744073709551615) :
    Calls Try.prog 12 #[.pointer (some ⟨g, 0, none⟩), v0, .agg #[.int .i64 x, .int .i64 m, .string k, .string v, .int .u64 s]] w fun e w' => ∃ u xs', e = .returned (.tuple #[u, .bool true]) ∧ Two w' base g u xs' ∧ Below base w w' := by
  obtain ⟨K, hK, HA⟩ := among_fix x 5 hx ⟨by omega, by omega⟩
  match K, hK, HA with
  | 0, _, HA => exact does0 g base v0 xs x m k v s w H HA
  | 1, _, HA => exact does1 g base v0 xs x m k v s w H HA
  | 2, _, HA => exact does2 g base v0 xs x m k v s w H HA
  | 3, _, HA => exact does3 g base v0 xs x m k v s w H HA
  | 4, _, HA => exact does4 g base v0 xs x m k v s w H hs HA
end Go.Proofs.Ytmceanfgcehfeab.Dp

/- The document's disk: Used, try, SetQuota, Refuse, New. -/
import Derived.Test.YtgffojafdjcdoaaQa
namespace Go.Proofs.Ytgffojafdjcdoaa.Qb
open Go.ChangeShapes Go.WideShapes Go.ChangeAt Go.RowKit Go.Maps
open Go.Sort (grow)
open Go.Proofs.Ytgffojafdjcdoaa.Dk
open Go.Proofs.Ytgffojafdjcdoaa.Df (isN isQ isN_size)
open Go.Proofs.Ytgffojafdjcdoaa.Pd
open Go.Proofs.Ytgffojafdjcdoaa.Qa
set_option linter.unusedVariables false
set_option linter.unusedSimpArgs false

theorem tot_app (a b : List RF) : tot (a ++ b) = tot a + tot b := by simp [tot]
theorem tot_take (rs : List RF) (i : Nat) : tot (rs.take i) ≤ tot rs := by
  conv => rhs; rw [← List.take_append_drop i rs]
  rw [tot_app]; omega
theorem take_snoc {α : Type} {L : List α} {j : Nat} {x : α} (h : L[j]? = some x) : L.take (j + 1) = L.take j ++ [x] := by
  have hj := (List.getElem?_eq_some_iff.1 h).1
  rw [List.take_succ_eq_append_getElem hj]
  rw [List.getElem?_eq_getElem hj] at h
  rw [Option.some.inj h]
set_option maxHeartbeats 2000000 in
set_option maxRecDepth 100000 in
theorem rused_any {base g : Nat} {v : Value} {P : Nat → Prop} {R : RS} (w : World) (H : RDk w base g v P R) (hok : RS.ok R) : Calls Try.prog 44 #[.pointer (some ⟨g, 0, none⟩)] w fun e w' => e = .returned (.int .i64 ((tot R.rs : Nat) : Int)) ∧ w' = w := by
  have hlen := hok.len
  have htot := hok.tot
  obtain ⟨a, c, rfl, hnc, hsome, _⟩ := H.own.shape
  have HO := hid H.own
  have c0 := H.cell 0 _ rfl
  obtain ⟨N, hN⟩ : ∃ N, N = R.rs.length := ⟨_, rfl⟩
  obtain ⟨T, hT⟩ : ∃ T, T = tot R.rs := ⟨_, rfl⟩
  rw [← hN] at c0 hlen hsome hnc
  rw [← hT] at htot ⊢
  replace hN := hid hN
  replace hT := hid hT
  replace hsome := hid hsome
  have i64 : (N : Int) ≤ 4096 := by omega
  clear H hok
  go_enter Try.func44, Try.ntmps44
  go_wp2_with fail
  go_loopw [3, 4] (fun sv iv wr => ∃ i : Nat, i ≤ N ∧ iv = .int .i64 (i : Int) ∧ sv = .int .i64 ((tot (R.rs.take i) : Nat) : Int) ∧ wr = w) (fun _ iv _ => N - (intOf iv).toNat)
  case atStart => exact ⟨0, Nat.zero_le _, rfl, rfl, rfl⟩
  case round =>
    obtain ⟨i, hi, rfl, rfl, rfl⟩ := hrel
    by_cases hiN : i < N
    · obtain ⟨x, hx⟩ : ∃ x, R.rs[i]? = some x := ⟨_, List.getElem?_eq_getElem (by have := hN.out; omega)⟩
      obtain ⟨gv, rfl⟩ := hsome.out (by omega)
      obtain ⟨k0, k1, k2⟩ := HO.out.cells i x hx
      have i1 : (i : Int) < (N : Int) := by omega
      have e1 : tot (R.rs.take (i + 1)) = tot (R.rs.take i) + x.b.size := by rw [take_snoc hx, tot_app]; simp [tot]
      have e2 := tot_take R.rs (i + 1)
      rw [← hT.out] at e2
      obtain ⟨A, hA⟩ : ∃ A, A = tot (R.rs.take i) := ⟨_, rfl⟩
      rw [← hA] at e1 ⊢
      have hw2 : IntKind.i64.wrap ((A : Int) + (x.b.size : Int)) = ((A + x.b.size : Nat) : Int) := by rw [IntKind.wrap_i64]; omega
      have hwr : IntKind.i64.wrap ((i : Int) + 1) = ((i + 1 : Nat) : Int) := by rw [IntKind.wrap_i64]; omega
      replace hA := hid hA
      replace e1 := hid e1
      clear hx e2
      go_wp2_with fail
      refine ⟨⟨i + 1, by omega, by first | rfl | go_num, by rw [e1.out]; first | rfl | go_num, by first | rfl | trivial⟩, ?_⟩
      simp only [intOf]; omega
    · have i1 : ¬ (i : Int) < (N : Int) := by omega
      have e1 : R.rs.take i = R.rs := List.take_of_length_le (by have := hN.out; omega)
      rw [e1, ← hT.out]
      go_wp2_with fail
      go_ret
      exact ⟨rfl, rfl⟩
/-- The disk's numbers change. -/
theorem RDk.nums {w w' : World} {base g : Nat} {v : Value} {P : Nat → Prop} {R : RS} (h : RDk w base g v P R) (q af ct rf : Int) (hc : w'.heap[g]? = some (.cells #[v, .int .i64 q, .int .i64 af, .int .i64 ct, .int .i64 rf] 69)) (ho : ∀ j, j ≠ g → w'.heap[j]? = w.heap[j]?) (hs : w.heap.size ≤ w'.heap.size) : RDk w' base g v P { R with q := q, af := af, ct := ct, rf := rf } :=
  ⟨hc, h.own.blk (fun j hj => ho j (fun e => h.ne (by rw [hj, e]))), h.pg, h.pv, fun j hj => ⟨(h.low j hj).1, Nat.lt_of_lt_of_le (h.low j hj).2 hs⟩⟩
theorem fr_set {P : Nat → Prop} {w w1 : World} (h : Fr P w w1) {g : Nat} (hr : P g) (i : Nat) (v : Value) : Fr P w (w1.setCell ⟨g, i, none⟩ v) := h.set (.inl hr) i v
theorem sz_set (w : World) (a : Addr) (v : Value) : (w.setCell a v).heap.size = w.heap.size := by simp
set_option maxHeartbeats 2000000 in
set_option maxRecDepth 100000 in
theorem try_a0 {base g : Nat} {v : Value} {P : Nat → Prop} {R : RS} (full : Bool) (w : World) (H : RDk w base g v P R) (hok : RS.ok R) (hrf : R.rf < 4611686018427387904) (ha : 0 < R.af) (hf : full = false) : Calls Try.prog 58 #[.pointer (some ⟨g, 0, none⟩), .bool full] w fun e w' => e = .returned (.bool false) ∧ RDk w' base g v P { R with af := R.af - 1, ct := R.ct, rf := R.rf } ∧ Fr P w w' := by
  have k0 := H.cells
  have a1 := hok.af
  have a2 := hok.ct
  have a3 := hok.rf
  obtain ⟨qq, hqq⟩ : ∃ x, x = R.q := ⟨_, rfl⟩
  obtain ⟨aa, haa⟩ : ∃ x, x = R.af := ⟨_, rfl⟩
  obtain ⟨cc, hcc⟩ : ∃ x, x = R.ct := ⟨_, rfl⟩
  obtain ⟨rr, hrr⟩ : ∃ x, x = R.rf := ⟨_, rfl⟩
  rw [← hqq, ← haa, ← hcc, ← hrr] at k0
  rw [← haa] at a1
  rw [← hcc] at a2
  rw [← hrr] at a3 hrf
  rw [← haa] at ha
  subst hf
  have c2 := cell_of k0 2 (.int .i64 aa) rfl
  have c3 := cell_of k0 3 (.int .i64 cc) rfl
  have c4 := cell_of k0 4 (.int .i64 rr) rfl
  have f0 := fz_of k0
  have k1 : (w.setCell ⟨g, 2, none⟩ (.int .i64 (aa - 1))).heap[g]? = some (.cells #[v, .int .i64 qq, .int .i64 (aa - 1), .int .i64 cc, .int .i64 rr] 69) := by rw [set_of k0 2 _]; rfl
  have x12 := cell_of k1 2 (.int .i64 (aa - 1)) rfl
  have x13 := cell_of k1 3 (.int .i64 cc) rfl
  have x14 := cell_of k1 4 (.int .i64 rr) rfl
  have f1 := fz_of k1
  have HR : Hid (RDk (w.setCell ⟨g, 2, none⟩ (.int .i64 (aa - 1))) base g v P { R with af := R.af - 1, ct := R.ct, rf := R.rf }) := by
    have hz : (w.setCell ⟨g, 2, none⟩ (.int .i64 (aa - 1))).heap[g]? = some (.cells #[v, .int .i64 R.q, .int .i64 (R.af - 1), .int .i64 (R.ct), .int .i64 (R.rf)] 69) := by rw [k1]; simp only [hqq, haa, hcc, hrr]
    exact RDk.nums H R.q (R.af - 1) (R.ct) (R.rf) hz (fun j hj => by
      first
        | rw [set_ne _ _ _ _ _ hj, set_ne _ _ _ _ _ hj]
        | rw [set_ne _ _ _ _ _ hj]) (by simp)
  have HF : Hid (Fr P w (w.setCell ⟨g, 2, none⟩ (.int .i64 (aa - 1)))) := (fr_set (Fr.refl P w) H.pg 2 _)
  have hE : Hid (true = true) := rfl
  replace hqq := hid hqq; replace haa := hid haa; replace hcc := hid hcc; replace hrr := hid hrr
  clear H hok k0 k1
  have w1 : IntKind.i64.wrap (aa - 1) = aa - 1 := by rw [IntKind.wrap_i64]; omega
  go_enter Try.func58, Try.ntmps58
  go_wp2_with fail
  go_ret
  exact ⟨rfl, HR.out, HF.out⟩
set_option maxHeartbeats 2000000 in
set_option maxRecDepth 100000 in
theorem try_a1 {base g : Nat} {v : Value} {P : Nat → Prop} {R : RS} (full : Bool) (w : World) (H : RDk w base g v P R) (hok : RS.ok R) (hrf : R.rf < 4611686018427387904) (ha : 0 < R.af) (hf : full = true) : Calls Try.prog 58 #[.pointer (some ⟨g, 0, none⟩), .bool full] w fun e w' => e = .returned (.bool true) ∧ RDk w' base g v P { R with af := R.af - 1, ct := R.ct, rf := R.rf + 1 } ∧ Fr P w w' := by
  have k0 := H.cells
  have a1 := hok.af
  have a2 := hok.ct
  have a3 := hok.rf
  obtain ⟨qq, hqq⟩ : ∃ x, x = R.q := ⟨_, rfl⟩
  obtain ⟨aa, haa⟩ : ∃ x, x = R.af := ⟨_, rfl⟩
  obtain ⟨cc, hcc⟩ : ∃ x, x = R.ct := ⟨_, rfl⟩
  obtain ⟨rr, hrr⟩ : ∃ x, x = R.rf := ⟨_, rfl⟩
  rw [← hqq, ← haa, ← hcc, ← hrr] at k0
  rw [← haa] at a1
  rw [← hcc] at a2
  rw [← hrr] at a3 hrf
  rw [← haa] at ha
  subst hf
  have c2 := cell_of k0 2 (.int .i64 aa) rfl
  have c3 := cell_of k0 3 (.int .i64 cc) rfl
  have c4 := cell_of k0 4 (.int .i64 rr) rfl
  have f0 := fz_of k0
  have k1 : (w.setCell ⟨g, 2, none⟩ (.int .i64 (aa - 1))).heap[g]? = some (.cells #[v, .int .i64 qq, .int .i64 (aa - 1), .int .i64 cc, .int .i64 rr] 69) := by rw [set_of k0 2 _]; rfl
  have x12 := cell_of k1 2 (.int .i64 (aa - 1)) rfl
  have x13 := cell_of k1 3 (.int .i64 cc) rfl
  have x14 := cell_of k1 4 (.int .i64 rr) rfl
  have f1 := fz_of k1
  have k2 : ((w.setCell ⟨g, 2, none⟩ (.int .i64 (aa - 1))).setCell ⟨g, 4, none⟩ (.int .i64 (rr + 1))).heap[g]? = some (.cells #[v, .int .i64 qq, .int .i64 (aa - 1), .int .i64 cc, .int .i64 (rr + 1)] 69) := by rw [set_of k1 4 _]; rfl
  have x22 := cell_of k2 2 (.int .i64 (aa - 1)) rfl
  have x23 := cell_of k2 3 (.int .i64 cc) rfl
  have x24 := cell_of k2 4 (.int .i64 (rr + 1)) rfl
  have f2 := fz_of k2
  have HR : Hid (RDk ((w.setCell ⟨g, 2, none⟩ (.int .i64 (aa - 1))).setCell ⟨g, 4, none⟩ (.int .i64 (rr + 1))) base g v P { R with af := R.af - 1, ct := R.ct, rf := R.rf + 1 }) := by
    have hz : ((w.setCell ⟨g, 2, none⟩ (.int .i64 (aa - 1))).setCell ⟨g, 4, none⟩ (.int .i64 (rr + 1))).heap[g]? = some (.cells #[v, .int .i64 R.q, .int .i64 (R.af - 1), .int .i64 (R.ct), .int .i64 (R.rf + 1)] 69) := by rw [k2]; simp only [hqq, haa, hcc, hrr]
    exact RDk.nums H R.q (R.af - 1) (R.ct) (R.rf + 1) hz (fun j hj => by
      first
        | rw [set_ne _ _ _ _ _ hj, set_ne _ _ _ _ _ hj]
        | rw [set_ne _ _ _ _ _ hj]) (by simp)
  have HF : Hid (Fr P w ((w.setCell ⟨g, 2, none⟩ (.int .i64 (aa - 1))).setCell ⟨g, 4, none⟩ (.int .i64 (rr + 1)))) := (fr_set (fr_set (Fr.refl P w) H.pg 2 _) H.pg 4 _)
  have hE : Hid (true = true) := rfl
  replace hqq := hid hqq; replace haa := hid haa; replace hcc := hid hcc; replace hrr := hid hrr
  clear H hok k0 k1 k2
  have w1 : IntKind.i64.wrap (aa - 1) = aa - 1 := by rw [IntKind.wrap_i64]; omega
  have w3 : IntKind.i64.wrap (rr + 1) = rr + 1 := by rw [IntKind.wrap_i64]; omega
  go_enter Try.func58, Try.ntmps58
  go_wp2_with fail
  go_ret
  exact ⟨rfl, HR.out, HF.out⟩
set_option maxHeartbeats 2000000 in
set_option maxRecDepth 100000 in
theorem try_c {base g : Nat} {v : Value} {P : Nat → Prop} {R : RS} (full : Bool) (w : World) (H : RDk w base g v P R) (hok : RS.ok R) (hrf : R.rf < 4611686018427387904) (ha : ¬ 0 < R.af) (hc : 0 < R.ct) : Calls Try.prog 58 #[.pointer (some ⟨g, 0, none⟩), .bool full] w fun e w' => e = .returned (.bool true) ∧ RDk w' base g v P { R with af := R.af, ct := R.ct - 1, rf := R.rf + 1 } ∧ Fr P w w' := by
  have k0 := H.cells
  have a1 := hok.af
  have a2 := hok.ct
  have a3 := hok.rf
  obtain ⟨qq, hqq⟩ : ∃ x, x = R.q := ⟨_, rfl⟩
  obtain ⟨aa, haa⟩ : ∃ x, x = R.af := ⟨_, rfl⟩
  obtain ⟨cc, hcc⟩ : ∃ x, x = R.ct := ⟨_, rfl⟩
  obtain ⟨rr, hrr⟩ : ∃ x, x = R.rf := ⟨_, rfl⟩
  rw [← hqq, ← haa, ← hcc, ← hrr] at k0
  rw [← haa] at a1
  rw [← hcc] at a2
  rw [← hrr] at a3 hrf
  rw [← haa] at ha
  rw [← hcc] at hc
  have c2 := cell_of k0 2 (.int .i64 aa) rfl
  have c3 := cell_of k0 3 (.int .i64 cc) rfl
  have c4 := cell_of k0 4 (.int .i64 rr) rfl
  have f0 := fz_of k0
  have k1 : (w.setCell ⟨g, 3, none⟩ (.int .i64 (cc - 1))).heap[g]? = some (.cells #[v, .int .i64 qq, .int .i64 aa, .int .i64 (cc - 1), .int .i64 rr] 69) := by rw [set_of k0 3 _]; rfl
  have x12 := cell_of k1 2 (.int .i64 aa) rfl
  have x13 := cell_of k1 3 (.int .i64 (cc - 1)) rfl
  have x14 := cell_of k1 4 (.int .i64 rr) rfl
  have f1 := fz_of k1
  have k2 : ((w.setCell ⟨g, 3, none⟩ (.int .i64 (cc - 1))).setCell ⟨g, 4, none⟩ (.int .i64 (rr + 1))).heap[g]? = some (.cells #[v, .int .i64 qq, .int .i64 aa, .int .i64 (cc - 1), .int .i64 (rr + 1)] 69) := by rw [set_of k1 4 _]; rfl
  have x22 := cell_of k2 2 (.int .i64 aa) rfl
  have x23 := cell_of k2 3 (.int .i64 (cc - 1)) rfl
  have x24 := cell_of k2 4 (.int .i64 (rr + 1)) rfl
  have f2 := fz_of k2
  have HR : Hid (RDk ((w.setCell ⟨g, 3, none⟩ (.int .i64 (cc - 1))).setCell ⟨g, 4, none⟩ (.int .i64 (rr + 1))) base g v P { R with af := R.af, ct := R.ct - 1, rf := R.rf + 1 }) := by
    have hz : ((w.setCell ⟨g, 3, none⟩ (.int .i64 (cc - 1))).setCell ⟨g, 4, none⟩ (.int .i64 (rr + 1))).heap[g]? = some (.cells #[v, .int .i64 R.q, .int .i64 (R.af), .int .i64 (R.ct - 1), .int .i64 (R.rf + 1)] 69) := by rw [k2]; simp only [hqq, haa, hcc, hrr]
    exact RDk.nums H R.q (R.af) (R.ct - 1) (R.rf + 1) hz (fun j hj => by
      first
        | rw [set_ne _ _ _ _ _ hj, set_ne _ _ _ _ _ hj]
        | rw [set_ne _ _ _ _ _ hj]) (by simp)
  have HF : Hid (Fr P w ((w.setCell ⟨g, 3, none⟩ (.int .i64 (cc - 1))).setCell ⟨g, 4, none⟩ (.int .i64 (rr + 1)))) := (fr_set (fr_set (Fr.refl P w) H.pg 3 _) H.pg 4 _)
  have hE : Hid (true = true) := rfl
  replace hqq := hid hqq; replace haa := hid haa; replace hcc := hid hcc; replace hrr := hid hrr
  clear H hok k0 k1 k2
  have w2 : IntKind.i64.wrap (cc - 1) = cc - 1 := by rw [IntKind.wrap_i64]; omega
  have w3 : IntKind.i64.wrap (rr + 1) = rr + 1 := by rw [IntKind.wrap_i64]; omega
  go_enter Try.func58, Try.ntmps58
  go_wp2_with fail
  go_ret
  exact ⟨rfl, HR.out, HF.out⟩
set_option maxHeartbeats 2000000 in
set_option maxRecDepth 100000 in
theorem try_n0 {base g : Nat} {v : Value} {P : Nat → Prop} {R : RS} (full : Bool) (w : World) (H : RDk w base g v P R) (hok : RS.ok R) (hrf : R.rf < 4611686018427387904) (ha : ¬ 0 < R.af) (hc : ¬ 0 < R.ct) (hf : full = false) : Calls Try.prog 58 #[.pointer (some ⟨g, 0, none⟩), .bool full] w fun e w' => e = .returned (.bool false) ∧ RDk w' base g v P { R with af := R.af, ct := R.ct, rf := R.rf } ∧ Fr P w w' := by
  have k0 := H.cells
  have a1 := hok.af
  have a2 := hok.ct
  have a3 := hok.rf
  obtain ⟨qq, hqq⟩ : ∃ x, x = R.q := ⟨_, rfl⟩
  obtain ⟨aa, haa⟩ : ∃ x, x = R.af := ⟨_, rfl⟩
  obtain ⟨cc, hcc⟩ : ∃ x, x = R.ct := ⟨_, rfl⟩
  obtain ⟨rr, hrr⟩ : ∃ x, x = R.rf := ⟨_, rfl⟩
  rw [← hqq, ← haa, ← hcc, ← hrr] at k0
  rw [← haa] at a1
  rw [← hcc] at a2
  rw [← hrr] at a3 hrf
  rw [← haa] at ha
  rw [← hcc] at hc
  subst hf
  have c2 := cell_of k0 2 (.int .i64 aa) rfl
  have c3 := cell_of k0 3 (.int .i64 cc) rfl
  have c4 := cell_of k0 4 (.int .i64 rr) rfl
  have f0 := fz_of k0
  have HR : Hid (RDk w base g v P { R with af := R.af, ct := R.ct, rf := R.rf }) := by
    exact H
  have HF : Hid (Fr P w w) := (Fr.refl P w)
  have hE : Hid (true = true) := rfl
  replace hqq := hid hqq; replace haa := hid haa; replace hcc := hid hcc; replace hrr := hid hrr
  clear H hok k0
  go_enter Try.func58, Try.ntmps58
  go_wp2_with fail
  go_ret
  exact ⟨rfl, HR.out, HF.out⟩
set_option maxHeartbeats 2000000 in
set_option maxRecDepth 100000 in
theorem try_n1 {base g : Nat} {v : Value} {P : Nat → Prop} {R : RS} (full : Bool) (w : World) (H : RDk w base g v P R) (hok : RS.ok R) (hrf : R.rf < 4611686018427387904) (ha : ¬ 0 < R.af) (hc : ¬ 0 < R.ct) (hf : full = true) : Calls Try.prog 58 #[.pointer (some ⟨g, 0, none⟩), .bool full] w fun e w' => e = .returned (.bool true) ∧ RDk w' base g v P { R with af := R.af, ct := R.ct, rf := R.rf + 1 } ∧ Fr P w w' := by
  have k0 := H.cells
  have a1 := hok.af
  have a2 := hok.ct
  have a3 := hok.rf
  obtain ⟨qq, hqq⟩ : ∃ x, x = R.q := ⟨_, rfl⟩
  obtain ⟨aa, haa⟩ : ∃ x, x = R.af := ⟨_, rfl⟩
  obtain ⟨cc, hcc⟩ : ∃ x, x = R.ct := ⟨_, rfl⟩
  obtain ⟨rr, hrr⟩ : ∃ x, x = R.rf := ⟨_, rfl⟩
  rw [← hqq, ← haa, ← hcc, ← hrr] at k0
  rw [← haa] at a1
  rw [← hcc] at a2
  rw [← hrr] at a3 hrf
  rw [← haa] at ha
  rw [← hcc] at hc
  subst hf
  have c2 := cell_of k0 2 (.int .i64 aa) rfl
  have c3 := cell_of k0 3 (.int .i64 cc) rfl
  have c4 := cell_of k0 4 (.int .i64 rr) rfl
  have f0 := fz_of k0
  have k1 : (w.setCell ⟨g, 4, none⟩ (.int .i64 (rr + 1))).heap[g]? = some (.cells #[v, .int .i64 qq, .int .i64 aa, .int .i64 cc, .int .i64 (rr + 1)] 69) := by rw [set_of k0 4 _]; rfl
  have x12 := cell_of k1 2 (.int .i64 aa) rfl
  have x13 := cell_of k1 3 (.int .i64 cc) rfl
  have x14 := cell_of k1 4 (.int .i64 (rr + 1)) rfl
  have f1 := fz_of k1
  have HR : Hid (RDk (w.setCell ⟨g, 4, none⟩ (.int .i64 (rr + 1))) base g v P { R with af := R.af, ct := R.ct, rf := R.rf + 1 }) := by
    have hz : (w.setCell ⟨g, 4, none⟩ (.int .i64 (rr + 1))).heap[g]? = some (.cells #[v, .int .i64 R.q, .int .i64 (R.af), .int .i64 (R.ct), .int .i64 (R.rf + 1)] 69) := by rw [k1]; simp only [hqq, haa, hcc, hrr]
    exact RDk.nums H R.q (R.af) (R.ct) (R.rf + 1) hz (fun j hj => by
      first
        | rw [set_ne _ _ _ _ _ hj, set_ne _ _ _ _ _ hj]
        | rw [set_ne _ _ _ _ _ hj]) (by simp)
  have HF : Hid (Fr P w (w.setCell ⟨g, 4, none⟩ (.int .i64 (rr + 1)))) := (fr_set (Fr.refl P w) H.pg 4 _)
  have hE : Hid (true = true) := rfl
  replace hqq := hid hqq; replace haa := hid haa; replace hcc := hid hcc; replace hrr := hid hrr
  clear H hok k0 k1
  have w3 : IntKind.i64.wrap (rr + 1) = rr + 1 := by rw [IntKind.wrap_i64]; omega
  go_enter Try.func58, Try.ntmps58
  go_wp2_with fail
  go_ret
  exact ⟨rfl, HR.out, HF.out⟩
theorem try_any {base g : Nat} {v : Value} {P : Nat → Prop} {R : RS} (full : Bool) (w : World) (H : RDk w base g v P R) (hok : RS.ok R) (hrf : R.rf < 4611686018427387904) : Calls Try.prog 58 #[.pointer (some ⟨g, 0, none⟩), .bool full] w fun e w' => e = .returned (.bool (rtr R full).2) ∧ RDk w' base g v P (rtr R full).1 ∧ Fr P w w' := by
  unfold rtr
  by_cases ha : 0 < R.af
  · rw [if_pos ha]
    cases full
    · exact try_a0 false w H hok hrf ha rfl
    · exact try_a1 true w H hok hrf ha rfl
  · rw [if_neg ha]
    by_cases hc : 0 < R.ct
    · rw [if_pos hc]
      exact try_c full w H hok hrf ha hc
    · rw [if_neg hc]
      cases full
      · exact try_n0 false w H hok hrf ha hc rfl
      · exact try_n1 true w H hok hrf ha hc rfl
set_option maxHeartbeats 2000000 in
set_option maxRecDepth 100000 in
theorem rquota_any {base g : Nat} {v : Value} {P : Nat → Prop} {R : RS} (n : Int) (w : World) (H : RDk w base g v P R) : Calls Try.prog 40 #[.pointer (some ⟨g, 0, none⟩), .int .i64 n] w fun e w' => e = .returned (.int .i64 (rqta R n).2) ∧ RDk w' base g v P (rqta R n).1 ∧ Fr P w w' := by
  unfold rqta
  by_cases hq : isQ n = true
  · rw [if_pos hq]
    have k1 := set_of H.cells 1 (.int .i64 n)
    have HR : Hid (RDk (w.setCell ⟨g, 1, none⟩ (.int .i64 n)) base g v P { R with q := n }) := RDk.nums H n R.af R.ct R.rf k1 (fun j hj => set_ne _ _ _ _ _ hj) (by simp)
    have HF : Hid (Fr P w (w.setCell ⟨g, 1, none⟩ (.int .i64 n))) := fr_set (Fr.refl P w) H.pg 1 _
    have c1 := H.cell 1 _ rfl
    have f0 := fz_of H.cells
    unfold isQ at hq
    simp only [Bool.and_eq_true, decide_eq_true_eq] at hq
    have i1 : ¬ n < 0 := by omega
    have i2 : ¬ 268435456 < n := by omega
    clear H k1
    go_enter Try.func40, Try.ntmps40
    go_wp2_with fail
    go_ret
    exact ⟨rfl, HR.out, HF.out⟩
  · rw [if_neg hq]
    have HR := hid H
    unfold isQ at hq
    simp only [Bool.and_eq_true, decide_eq_true_eq] at hq
    clear H
    by_cases i1 : n < 0
    · go_enter Try.func40, Try.ntmps40
      go_wp2_with fail
      go_ret
      exact ⟨rfl, HR.out, Fr.refl _ _⟩
    · have i2 : 268435456 < n := by omega
      go_enter Try.func40, Try.ntmps40
      go_wp2_with fail
      go_ret
      exact ⟨rfl, HR.out, Fr.refl _ _⟩
set_option maxHeartbeats 2000000 in
set_option maxRecDepth 100000 in
theorem rrefuse_any {base g : Nat} {v : Value} {P : Nat → Prop} {R : RS} (a n : Int) (w : World) (H : RDk w base g v P R) : Calls Try.prog 41 #[.pointer (some ⟨g, 0, none⟩), .int .i64 a, .int .i64 n] w fun e w' => e = .returned (.int .i64 (rrfs R a n).2) ∧ RDk w' base g v P (rrfs R a n).1 ∧ Fr P w w' := by
  unfold rrfs
  by_cases hq : 0 ≤ a ∧ 0 ≤ n
  · rw [if_pos hq]
    have k1 := set_of H.cells 2 (.int .i64 a)
    have c3 := cell_of k1 3 (.int .i64 R.ct) rfl
    have f1 := fz_of k1
    have k2 := set_of k1 3 (.int .i64 n)
    have HR : Hid (RDk ((w.setCell ⟨g, 2, none⟩ (.int .i64 a)).setCell ⟨g, 3, none⟩ (.int .i64 n)) base g v P { R with af := a, ct := n }) := RDk.nums H R.q a n R.rf k2 (fun j hj => by rw [set_ne _ _ _ _ _ hj, set_ne _ _ _ _ _ hj]) (by simp)
    have HF : Hid (Fr P w ((w.setCell ⟨g, 2, none⟩ (.int .i64 a)).setCell ⟨g, 3, none⟩ (.int .i64 n))) := fr_set (fr_set (Fr.refl P w) H.pg 2 _) H.pg 3 _
    have c2 := H.cell 2 _ rfl
    have f0 := fz_of H.cells
    have i1 : ¬ a < 0 := by omega
    have i2 : ¬ n < 0 := by omega
    clear H k1 k2
    go_enter Try.func41, Try.ntmps41
    go_wp2_with fail
    go_ret
    exact ⟨rfl, HR.out, HF.out⟩
  · rw [if_neg hq]
    have HR := hid H
    clear H
    by_cases i1 : a < 0
    · go_enter Try.func41, Try.ntmps41
      go_wp2_with fail
      go_ret
      exact ⟨rfl, HR.out, Fr.refl _ _⟩
    · have i2 : n < 0 := by omega
      go_enter Try.func41, Try.ntmps41
      go_wp2_with fail
      go_ret
      exact ⟨rfl, HR.out, Fr.refl _ _⟩
theorem rnew_no (q : Int) (h : isQ q = false) (w : World) : Calls Try.prog 9 #[.int .i64 q] w fun e w' => e = .returned (.tuple #[.pointer none, .int .i64 2]) ∧ w' = w := by
  unfold isQ at h
  by_cases i1 : q < 0
  · go_enter Try.func9, Try.ntmps9
    go_wp2_with fail
    exact bodyPost_ret (v := .tuple #[.pointer none, .int .i64 2]) (by simp [results, Try.results9, go_sem]) rfl ⟨rfl, rfl⟩
  · have i2 : 268435456 < q := by
      have : ¬ (0 ≤ q ∧ q ≤ 268435456) := fun x => by simp [x.1, x.2] at h
      omega
    clear h
    go_enter Try.func9, Try.ntmps9
    go_wp2_with fail
    exact bodyPost_ret (v := .tuple #[.pointer none, .int .i64 2]) (by simp [results, Try.results9, go_sem]) rfl ⟨rfl, rfl⟩
theorem rnew_ok (q : Int) (h : isQ q = true) (w : World) : Calls Try.prog 9 #[.int .i64 q] w fun e w' => e = .returned (.tuple #[.pointer (some ⟨w.heap.size, 0, none⟩), .int .i64 0]) ∧ RDk w' w.heap.size w.heap.size (.slice none 0 0) (fun j => j = w.heap.size) ⟨[], q, 0, 0, 0⟩ ∧ Below w.heap.size w w' := by
  unfold isQ at h
  simp only [Bool.and_eq_true, decide_eq_true_eq] at h
  have i1 : ¬ q < 0 := by omega
  have i2 : ¬ 268435456 < q := by omega
  have HR : Hid (RDk (w.alloc (.cells #[.slice none 0 0, .int .i64 q, .int .i64 0, .int .i64 0, .int .i64 0] 69)) w.heap.size w.heap.size (.slice none 0 0) (fun j => j = w.heap.size) ⟨[], q, 0, 0, 0⟩) :=
    ⟨new_at _ _, World.ownsRow_nil _ _ _ _, rfl, fun j hj => (by cases hj), fun j hj => (by rw [hj, size_alloc]; omega)⟩
  have HB := hid (box_below w (.cells #[.slice none 0 0, .int .i64 q, .int .i64 0, .int .i64 0, .int .i64 0] 69))
  go_enter Try.func9, Try.ntmps9
  go_wp2_with fail
  exact bodyPost_ret (v := .tuple #[.pointer (some ⟨w.heap.size, 0, none⟩), .int .i64 0]) (by simp [results, Try.results9, go_sem]) rfl ⟨rfl, HR.out, HB.out⟩
end Go.Proofs.Ytgffojafdjcdoaa.Qb

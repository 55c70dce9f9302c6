/- The disk's numbers: refuses, SetQuota, Refuse, Quota, Refused; New. -/
import Derived.Test.YtgffojafdjcdoaaDf
namespace Go.Proofs.Ytgffojafdjcdoaa.Dg
open Go.ChangeShapes Go.WideShapes Go.ChangeAt Go.RowKit Go.Maps
open Go.Proofs.Ytgffojafdjcdoaa.By
open Go.Proofs.Ytgffojafdjcdoaa.Ln
open Go.Proofs.Ytgffojafdjcdoaa.Mp
open Go.Proofs.Ytgffojafdjcdoaa.Dk
open Go.Proofs.Ytgffojafdjcdoaa.Df
set_option linter.unusedVariables false
set_option linter.unusedSimpArgs false

/-- A try. -/
def tr (S : St) (full : Bool) : St × Bool := if ((nxt S.af S.ct).2.2 || full) = true then ({ S with af := (nxt S.af S.ct).1, ct := (nxt S.af S.ct).2.1, rf := S.rf + 1 }, true) else ({ S with af := (nxt S.af S.ct).1, ct := (nxt S.af S.ct).2.1 }, false)
theorem nxt_bd {a c : Int} (ha : 0 ≤ a ∧ a ≤ 9223372036854775807) (hc : 0 ≤ c ∧ c ≤ 9223372036854775807) : (0 ≤ (nxt a c).1 ∧ (nxt a c).1 ≤ 9223372036854775807) ∧ (0 ≤ (nxt a c).2.1 ∧ (nxt a c).2.1 ≤ 9223372036854775807) := by
  unfold nxt
  split
  · simp
  · split
    · simp only; omega
    · simp only
      rename_i h1 h2
      have : c ≠ 0 := fun e => h1 ⟨by omega, e⟩
      omega
theorem tr_fs (S : St) (full : Bool) : (tr S full).1.fs = S.fs := by unfold tr; split <;> rfl
set_option maxRecDepth 10000 in
theorem refuses_any {base g b : Nat} {P : Nat → Prop} {S : St} (full : Bool) (w : World) (H : Disk w base g b P S) (hr : S.rf < 4611686018427387904) : Calls Try.prog 54 #[.pointer (some ⟨g, 0, none⟩), .bool full] w fun e w' => e = .returned (.bool (tr S full).2) ∧ Disk w' base g b P (tr S full).1 ∧ Fr P w w' := by
  have c2 : w.cell? ⟨g, 2, none⟩ = some (.int .i64 S.af) := H.cell 2
  have c3 : w.cell? ⟨g, 3, none⟩ = some (.int .i64 S.ct) := H.cell 3
  have HN := hid (next_any S.af S.ct H.ok.af H.ok.ct w)
  have hbd := nxt_bd H.ok.af H.ok.ct
  have HH := hid H
  have hrf := H.ok.rf
  unfold tr
  clear H
  generalize nxt S.af S.ct = r at *
  obtain ⟨a', c', no⟩ := r
  simp only at hbd ⊢
  go_enter Try.func54, Try.ntmps54
  go_wp2_with fail
  refine HN.out.mono ?_
  rintro e w1 ⟨rfl, b1⟩
  have b2 : Below w.heap.size w (w1.alloc (.cells #[.int .i64 a', .int .i64 c'] 48)) := b1.alloc b1.size _
  have HD := hid (HH.out.later b2)
  have k2 : (w1.alloc (.cells #[.int .i64 a', .int .i64 c'] 48)).cell? ⟨g, 2, none⟩ = some (.int .i64 S.af) := HD.out.cell 2
  have k3 : (w1.alloc (.cells #[.int .i64 a', .int .i64 c'] 48)).cell? ⟨g, 3, none⟩ = some (.int .i64 S.ct) := HD.out.cell 3
  have k4 : (w1.alloc (.cells #[.int .i64 a', .int .i64 c'] 48)).cell? ⟨g, 4, none⟩ = some (.int .i64 S.rf) := HD.out.cell 4
  have f2 := HD.out.fz 2
  have f3 := HD.out.fz 3
  have f4 := HD.out.fz 4
  have FR : Hid (Fr P w (w1.alloc (.cells #[.int .i64 a', .int .i64 c'] 48))) := (Fr.refl P w).below b2
  have hne : g ≠ w1.heap.size := by
    have := HH.out.plow g HH.out.pg
    have := b1.size
    omega
  have hok := HH.out.ok
  have D2 : Hid (Disk (((w1.alloc (.cells #[.int .i64 a', .int .i64 c'] 48)).setCell ⟨g, 2, none⟩ (.int .i64 a')).setCell ⟨g, 3, none⟩ (.int .i64 c')) base g b P { S with af := a', ct := c' }) :=
    HD.out.nums (((Kp.refl P _ _).set (.inr rfl) 2 _).set (.inr rfl) 3 _) _ rfl (by have := set_cells (set_cells HD.out.cells 2 (.int .i64 a')) 3 (.int .i64 c'); simpa [St.cells] using this) ⟨hok.q, hbd.1, hbd.2, hok.rf, hok.len, hok.used, hok.name⟩
  have D3 : Hid (Disk ((((w1.alloc (.cells #[.int .i64 a', .int .i64 c'] 48)).setCell ⟨g, 2, none⟩ (.int .i64 a')).setCell ⟨g, 3, none⟩ (.int .i64 c')).setCell ⟨g, 4, none⟩ (.int .i64 (S.rf + 1))) base g b P { S with af := a', ct := c', rf := S.rf + 1 }) :=
    HD.out.nums ((((Kp.refl P _ _).set (.inr rfl) 2 _).set (.inr rfl) 3 _).set (.inr rfl) 4 _) _ rfl (by have := set_cells (set_cells (set_cells HD.out.cells 2 (.int .i64 a')) 3 (.int .i64 c')) 4 (.int .i64 (S.rf + 1)); simpa [St.cells] using this) ⟨hok.q, hbd.1, hbd.2, by show 0 ≤ S.rf + 1 ∧ S.rf + 1 ≤ _; omega, hok.len, hok.used, hok.name⟩
  have F2 : Hid (Fr P w (((w1.alloc (.cells #[.int .i64 a', .int .i64 c'] 48)).setCell ⟨g, 2, none⟩ (.int .i64 a')).setCell ⟨g, 3, none⟩ (.int .i64 c'))) := (FR.out.set (.inl HH.out.pg) 2 _).set (.inl HH.out.pg) 3 _
  have F3 : Hid (Fr P w ((((w1.alloc (.cells #[.int .i64 a', .int .i64 c'] 48)).setCell ⟨g, 2, none⟩ (.int .i64 a')).setCell ⟨g, 3, none⟩ (.int .i64 c')).setCell ⟨g, 4, none⟩ (.int .i64 (S.rf + 1)))) := F2.out.set (.inl HH.out.pg) 4 _
  clear HN b1 b2 c2 c3 hok
  cases no <;> cases full
  · go_wp2_with fail
    go_ret
    exact ⟨rfl, D2.out, F2.out⟩
  · go_wp2_with fail
    go_ret
    exact ⟨rfl, D3.out, F3.out⟩
  · go_wp2_with fail
    go_ret
    exact ⟨rfl, D3.out, F3.out⟩
  · go_wp2_with fail
    go_ret
    exact ⟨rfl, D3.out, F3.out⟩
theorem setquota_any {base g b : Nat} {P : Nat → Prop} {S : St} (n : Int) (w : World) (H : Disk w base g b P S) : Calls Try.prog 34 #[.pointer (some ⟨g, 0, none⟩), .int .i64 n] w fun e w' => e = .returned (.int .i64 (if isQ n = true then 0 else 2)) ∧ Disk w' base g b P (if isQ n = true then { S with q := n } else S) ∧ Fr P w w' := by
  have HH := hid H
  have k1 : w.cell? ⟨g, 1, none⟩ = some (.int .i64 S.q) := H.cell 1
  have f1 := H.fz 1
  have HQ := hid (isquota_any n)
  have hok := hid H.ok
  have D2 : Hid (isQ n = true → Disk (w.setCell ⟨g, 1, none⟩ (.int .i64 n)) base g b P { S with q := n }) := fun hn =>
    H.nums ((Kp.refl P _ _).set (.inr rfl) 1 _) _ rfl (by have := set_cells H.cells 1 (.int .i64 n); simpa [St.cells] using this) ⟨by unfold isQ at hn; simpa using hn, hok.out.af, hok.out.ct, hok.out.rf, hok.out.len, hok.out.used, hok.out.name⟩
  have F2 : Hid (Fr P w (w.setCell ⟨g, 1, none⟩ (.int .i64 n))) := (Fr.refl P w).set (.inl H.pg) 1 _
  clear H
  cases hq : isQ n
  · rw [hq] at HQ
    go_enter Try.func34, Try.ntmps34
    go_wp2_with fail
    refine (isnone_any w HH.out).mono ?_
    rintro e w' ⟨rfl, rfl⟩
    go_wp2_with fail
    refine (HQ.out _).mono ?_
    rintro e w' ⟨rfl, rfl⟩
    go_wp2_with fail
    go_ret
    exact ⟨rfl, HH.out, Fr.refl _ _⟩
  · rw [hq] at HQ
    go_enter Try.func34, Try.ntmps34
    go_wp2_with fail
    refine (isnone_any w HH.out).mono ?_
    rintro e w' ⟨rfl, rfl⟩
    go_wp2_with fail
    refine (HQ.out _).mono ?_
    rintro e w' ⟨rfl, rfl⟩
    go_wp2_with fail
    go_ret
    exact ⟨rfl, D2.out hq, F2.out⟩
theorem refuse_any {base g b : Nat} {P : Nat → Prop} {S : St} (a n : Int) (ha : -9223372036854775808 ≤ a ∧ a ≤ 9223372036854775807) (hn : -9223372036854775808 ≤ n ∧ n ≤ 9223372036854775807) (w : World) (H : Disk w base g b P S) : Calls Try.prog 26 #[.pointer (some ⟨g, 0, none⟩), .int .i64 a, .int .i64 n] w fun e w' => e = .returned (.int .i64 (if 0 ≤ a ∧ 0 ≤ n then 0 else 2)) ∧ Disk w' base g b P (if 0 ≤ a ∧ 0 ≤ n then { S with af := a, ct := n } else S) ∧ Fr P w w' := by
  have HH := hid H
  have k2 : w.cell? ⟨g, 2, none⟩ = some (.int .i64 S.af) := H.cell 2
  have k3 : w.cell? ⟨g, 3, none⟩ = some (.int .i64 S.ct) := H.cell 3
  have f2 := H.fz 2
  have f3 := H.fz 3
  have hok := hid H.ok
  have D2 : Hid (0 ≤ a ∧ 0 ≤ n → Disk ((w.setCell ⟨g, 2, none⟩ (.int .i64 a)).setCell ⟨g, 3, none⟩ (.int .i64 n)) base g b P { S with af := a, ct := n }) := fun hh =>
    H.nums (((Kp.refl P _ _).set (.inr rfl) 2 _).set (.inr rfl) 3 _) _ rfl (by have := set_cells (set_cells H.cells 2 (.int .i64 a)) 3 (.int .i64 n); simpa [St.cells] using this) ⟨hok.out.q, by show 0 ≤ a ∧ a ≤ _; omega, by show 0 ≤ n ∧ n ≤ _; omega, hok.out.rf, hok.out.len, hok.out.used, hok.out.name⟩
  have F2 : Hid (Fr P w ((w.setCell ⟨g, 2, none⟩ (.int .i64 a)).setCell ⟨g, 3, none⟩ (.int .i64 n))) := ((Fr.refl P w).set (.inl H.pg) 2 _).set (.inl H.pg) 3 _
  clear H
  by_cases h1 : 0 ≤ a
  · by_cases h2 : 0 ≤ n
    · have i1 : ¬ a < 0 := by omega
      have i2 : ¬ n < 0 := by omega
      have D3 := hid (D2.out ⟨h1, h2⟩)
      rw [if_pos ⟨h1, h2⟩, if_pos ⟨h1, h2⟩]
      clear D2
      go_enter Try.func26, Try.ntmps26
      go_wp2_with fail
      refine (isnone_any w HH.out).mono ?_
      rintro e w' ⟨rfl, rfl⟩
      go_wp2_with fail
      go_ret
      exact ⟨rfl, D3.out, F2.out⟩
    · have i1 : ¬ a < 0 := by omega
      have i2 : n < 0 := by omega
      rw [if_neg (fun h => h2 h.2), if_neg (fun h => h2 h.2)]
      clear D2
      go_enter Try.func26, Try.ntmps26
      go_wp2_with fail
      refine (isnone_any w HH.out).mono ?_
      rintro e w' ⟨rfl, rfl⟩
      go_wp2_with fail
      go_ret
      exact ⟨rfl, HH.out, Fr.refl _ _⟩
  · have i1 : a < 0 := by omega
    rw [if_neg (fun h => h1 h.1), if_neg (fun h => h1 h.1)]
    clear D2
    go_enter Try.func26, Try.ntmps26
    go_wp2_with fail
    refine (isnone_any w HH.out).mono ?_
    rintro e w' ⟨rfl, rfl⟩
    go_wp2_with fail
    go_ret
    exact ⟨rfl, HH.out, Fr.refl _ _⟩
theorem quota_any {base g b : Nat} {P : Nat → Prop} {S : St} (w : World) (H : Disk w base g b P S) : Calls Try.prog 22 #[.pointer (some ⟨g, 0, none⟩)] w fun e w' => e = .returned (.int .i64 S.q) ∧ w' = w := by
  have HH := hid H
  have k1 : w.cell? ⟨g, 1, none⟩ = some (.int .i64 S.q) := H.cell 1
  clear H
  go_enter Try.func22, Try.ntmps22
  go_wp2_with fail
  refine (isnone_any w HH.out).mono ?_
  rintro e w' ⟨rfl, rfl⟩
  go_wp2_with fail
  go_ret
  exact ⟨rfl, rfl⟩
theorem refused_any {base g b : Nat} {P : Nat → Prop} {S : St} (w : World) (H : Disk w base g b P S) : Calls Try.prog 23 #[.pointer (some ⟨g, 0, none⟩)] w fun e w' => e = .returned (.int .i64 S.rf) ∧ w' = w := by
  have HH := hid H
  have k1 : w.cell? ⟨g, 4, none⟩ = some (.int .i64 S.rf) := H.cell 4
  clear H
  go_enter Try.func23, Try.ntmps23
  go_wp2_with fail
  refine (isnone_any w HH.out).mono ?_
  rintro e w' ⟨rfl, rfl⟩
  go_wp2_with fail
  go_ret
  exact ⟨rfl, rfl⟩
theorem new_no (q : Int) (h : isQ q = false) (w : World) : Calls Try.prog 8 #[.int .i64 q] w fun e w' => e = .returned (.tuple #[.pointer none, .int .i64 2]) ∧ w' = w := by
  have HQ := hid (isquota_any q w)
  rw [h] at HQ
  go_enter Try.func8, Try.ntmps8
  go_wp2_with fail
  refine HQ.out.mono ?_
  rintro e w' ⟨rfl, rfl⟩
  go_wp2_with fail
  go_ret2
  exact ⟨rfl, rfl⟩
theorem new_ok (q : Int) (h : isQ q = true) (w : World) : Calls Try.prog 8 #[.int .i64 q] w fun e w' => ∃ g b, e = .returned (.tuple #[.pointer (some ⟨g, 0, none⟩), .int .i64 0]) ∧ Disk w' w.heap.size g b (fun j => w.heap.size ≤ j ∧ j < w'.heap.size) ⟨[], q, 0, 0, 0⟩ ∧ Below w.heap.size w w' := by
  have HQ := hid (isquota_any q w)
  rw [h] at HQ
  have hmm := @run_makeMap Try.prog
  have HQ2 := hid h
  go_enter Try.func8, Try.ntmps8
  go_wp2_with fail
  refine HQ.out.mono ?_
  rintro e w' ⟨rfl, rfl⟩
  go_wp2_with fail
  go_ret2
  refine ⟨w'.heap.size + 1, w'.heap.size, rfl, ⟨?_, ⟨.map [], ?_, rep_nil⟩, ⟨?_, ?_, ?_, ?_, ?_⟩, ⟨?_, ?_, ?_, ?_, ?_, ?_, ?_⟩, ?_, ?_, ?_⟩, ?_⟩
  · exact heap_alloc2_new _ _ _
  · exact (World.ownsMap_made w' _ _ _).alloc _
  · intro p hp; simp at hp
  · intro p hp; simp at hp
  · intro p hp; simp at hp
  · intro p hp; simp at hp
  · intro p hp; simp at hp
  · have := HQ2.out; unfold isQ at this; simpa using this
  · simp
  · simp
  · simp
  · simp
  · simp [used]
  · intro p hp; simp at hp
  · show w'.heap.size ≤ w'.heap.size + 1 ∧ w'.heap.size + 1 < ((w'.heap.push _).push _).size
    simp
  · show w'.heap.size ≤ w'.heap.size ∧ w'.heap.size < ((w'.heap.push _).push _).size
    simp
    omega
  · intro j hj; exact hj
  · exact (box_below w' _).alloc (box_below w' _).size _
end Go.Proofs.Ytgffojafdjcdoaa.Dg

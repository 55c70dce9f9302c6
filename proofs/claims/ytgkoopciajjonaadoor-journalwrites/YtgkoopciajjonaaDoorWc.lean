/- What is left of a block, what a record costs, a writer's size. -/
import Derived.Test.YtgkoopciajjonaaDoorWt
namespace Go.Proofs.YtgkoopciajjonaaDoor.Wc
open Go.ChangeShapes Go.WideShapes Go.ChangeAt Go.RowKit
open Go.Proofs.YtgkoopciajjonaaDoor.Jm
open Go.Proofs.YtgkoopciajjonaaDoor.Ck
open Go.Proofs.YtgkoopciajjonaaDoor.Wt
set_option linter.unusedVariables false
set_option linter.unusedSimpArgs false

theorem wrap64_in (n : Int) (h : -9223372036854775808 ≤ n ∧ n ≤ 9223372036854775807) : wrap64 n = n := by unfold wrap64; omega
/-- What a record of n bytes adds behind so many bytes. -/
def cst (b s n : Nat) : Nat := noughts b s + (if n ≤ room b s then 1 else 1 + (n - room b s + (b - 7) - 1) / (b - 7)) * 7 + n
def np (fresh rm n : Nat) : Nat := if n ≤ rm then 1 else 1 + (n - rm + fresh - 1) / fresh
theorem np_next (fresh rm n : Nat) (hf : 0 < fresh) (h : ¬ n ≤ rm) : np fresh rm n = 1 + np fresh fresh (n - rm) := by
  unfold np
  rw [if_neg h]
  by_cases h2 : n - rm ≤ fresh
  · rw [if_pos h2]
    have : (n - rm + fresh - 1) / fresh = 1 := by
      rw [show n - rm + fresh - 1 = (n - rm - 1) + fresh by omega, Nat.add_div_right _ hf, Nat.div_eq_of_lt (by omega)]
    omega
  · rw [if_neg h2]
    rw [show n - rm + fresh - 1 = (n - rm - fresh + fresh - 1) + fresh by omega, Nat.add_div_right _ hf]
    omega
theorem flat_len (fresh : Nat) (hf : 0 < fresh) : ∀ (n rm : Nat) (first : Bool) (r : List Int), r.length + (if first then 2 else 1) ≤ n → (first = false → rm = fresh) → (flat (pcs fresh n rm first r)).length = r.length + 7 * np fresh rm r.length := by
  intro n
  induction n with
  | zero => intro rm first r hn; cases first <;> simp at hn
  | succ n ih =>
    intro rm first r hn hfr
    unfold pcs
    by_cases h : r.length ≤ rm
    · rw [if_pos h, flat_cons, flat_nil, List.append_nil]
      simp only [Ch.b]
      rw [pc_len]; unfold np; rw [if_pos h]; omega
    · rw [if_neg h, flat_cons, List.length_append]
      simp only [Ch.b]
      have ht : (r.take rm).length = rm := by rw [List.length_take]; omega
      rw [pc_len, ht, ih fresh false (r.drop rm) (by
              rw [List.length_drop]
              cases first with
              | true => simp at hn ⊢; omega
              | false => have := hfr rfl; simp at hn ⊢; omega) (fun _ => rfl), List.length_drop, np_next fresh rm r.length hf h]
      omega
theorem add_len (b s : Nat) (r : List Int) (hb : 32 ≤ b ∧ b ≤ 32768) : (flat (addc b s r)).length = cst b s r.length := by
  unfold addc
  rw [flat_append, List.length_append, flat_len (b - 7) (by omega) (r.length + 2) (room b s) true r (by simp) (by simp)]
  unfold cst noughts np
  by_cases h : left b s < 7
  · simp only [if_pos h, flat_cons, flat_nil, List.append_nil, Ch.b, List.length_replicate]; omega
  · simp only [if_neg h, flat_nil, List.length_nil]; omega
theorem room_le (b s : Nat) (hb : 32 ≤ b ∧ b ≤ 32768) : room b s ≤ b - 7 := by
  have := left_le b s
  unfold room; split <;> omega
theorem noughts_le (b s : Nat) : noughts b s ≤ 6 := by unfold noughts; split <;> omega
theorem cst_le (b s n : Nat) (hb : 32 ≤ b ∧ b ≤ 32768) : 7 + n + noughts b s ≤ cst b s n ∧ cst b s n ≤ 20 + 8 * n := by
  have h1 := noughts_le b s
  unfold cst
  by_cases h : n ≤ room b s
  · rw [if_pos h]; omega
  · rw [if_neg h]
    have h2 : (n - room b s + (b - 7) - 1) / (b - 7) ≤ n := by
      refine Nat.div_le_of_le_mul ?_
      have h3 : 1 ≤ n := by omega
      have h4 : n + (b - 7) - 1 ≤ (b - 7) * n := by
        obtain ⟨m, rfl⟩ : ∃ m, n = m + 1 := ⟨n - 1, by omega⟩
        rw [Nat.mul_add, Nat.mul_one]
        have : m ≤ (b - 7) * m := Nat.le_mul_of_pos_left m (by omega)
        omega
      omega
    generalize (n - room b s + (b - 7) - 1) / (b - 7) = q at h2 ⊢
    omega

theorem rest_any (g b s : Nat) (w : World) (H : Wr w g b s) (hb : 32 ≤ b ∧ b ≤ 32768) (hs : s ≤ 9223372036854775807) : Calls Tryd.prog 28 #[.pointer (some ⟨g, 0, none⟩)] w fun e w' => e = .returned (.tuple #[.int .i64 (noughts b s), .int .i64 (room b s)]) ∧ Below w.heap.size w w' := by
  have c0 := H.cell0
  have c1 := H.cell1
  have hm : s % b < b := Nat.mod_lt _ (by omega)
  have hl : left b s = b - s % b := rfl
  have k1 : IntKind.u64.wrap (b : Int) = (b : Int) := by simp [IntKind.wrap, IntKind.bits, IntKind.signed]; omega
  have k2 : IntKind.i64.wrap ((s % b : Nat) : Int) = ((s % b : Nat) : Int) := by simp [IntKind.wrap, IntKind.bits, IntKind.signed]; omega
  have hm2 : (s : Int) % (b : Int) < (b : Int) := by rw [← Int.natCast_emod]; omega
  have hm3 : 0 ≤ (s : Int) % (b : Int) := by rw [← Int.natCast_emod]; omega
  by_cases h : left b s < 7
  · have E : Hid (noughts b s = left b s ∧ room b s = b - 7) := by show _ ∧ _; unfold noughts room; rw [if_pos h, if_pos h]; exact ⟨rfl, rfl⟩
    have h2 : (b : Int) - (s : Int) % (b : Int) < 7 := by rw [← Int.natCast_emod]; omega
    have E1 : Hid ((b : Int) - (s : Int) % (b : Int) = (left b s : Int)) := by show _ = _; rw [← Int.natCast_emod]; omega
    have E2 : Hid ((b : Int) - 7 = ((b - 7 : Nat) : Int)) := by show _ = _; omega
    rw [E.out.1, E.out.2, ← E1.out, ← E2.out]
    clear h hl hm k1 k2 H
    go_enter Tryd.func28, Tryd.ntmps28
    go_wp2_with fail
    go_quiet (fail)
    go_wp2_with fail
    go_quiet (fail)
    go_wp2_with fail
    go_ret2
    exact ⟨rfl, below_drewN (below_drewN (Below.refl _ _) _) _⟩
  · have E : Hid (noughts b s = 0 ∧ room b s = left b s - 7) := by show _ ∧ _; unfold noughts room; rw [if_neg h, if_neg h]; exact ⟨rfl, rfl⟩
    have h2 : ¬ (b : Int) - (s : Int) % (b : Int) < 7 := by rw [← Int.natCast_emod]; omega
    have E1 : Hid ((b : Int) - (s : Int) % (b : Int) - 7 = ((left b s - 7 : Nat) : Int)) := by show _ = _; rw [← Int.natCast_emod]; omega
    rw [E.out.1, E.out.2, ← E1.out]
    clear h hl hm k1 k2 H
    go_enter Tryd.func28, Tryd.ntmps28
    go_wp2_with fail
    go_quiet (fail)
    go_wp2_with fail
    go_ret2
    exact ⟨rfl, below_drewN (Below.refl _ _) _⟩
theorem size_ok (g b s : Nat) (w : World) (H : Wr w g b s) (hb : 32 ≤ b ∧ b ≤ 32768) (hs : s ≤ 9223372036854775807) : Calls Tryd.prog 12 #[.pointer (some ⟨g, 0, none⟩)] w fun e w' => e = .returned (.int .i64 s) ∧ w' = w := by
  have HI := isnone_any g b s w H
  rw [show decide ((b : Int) = 0) = false by simp; omega] at HI
  have HI := hid HI
  have c1 := H.cell1
  have hs2 : (s : Int) ≤ 9223372036854775807 := by omega
  go_enter Tryd.func12, Tryd.ntmps12
  go_wp2_with fail
  refine HI.out.mono ?_
  rintro e w' ⟨rfl, rfl⟩
  go_wp2_with fail
  go_ret
  exact ⟨by rfl, rfl⟩
theorem cost_no (g b s : Nat) (n : Int) (w : World) (H : Wr w g b s) (hb : 32 ≤ b ∧ b ≤ 32768) (hn : n < 0 ∨ 2097152 < n) : Calls Tryd.prog 13 #[.pointer (some ⟨g, 0, none⟩), .int .i64 n] w fun e w' => e = .returned (.int .i64 0) ∧ w' = w := by
  have HI := isnone_any g b s w H
  rw [show decide ((b : Int) = 0) = false by simp; omega] at HI
  have HI := hid HI
  by_cases h0 : n < 0
  · go_enter Tryd.func13, Tryd.ntmps13
    go_wp2_with fail
    refine HI.out.mono ?_
    rintro e w' ⟨rfl, rfl⟩
    go_wp2_with fail
    go_ret
    exact ⟨rfl, rfl⟩
  · have h1 : 2097152 < n := by omega
    go_enter Tryd.func13, Tryd.ntmps13
    go_wp2_with fail
    refine HI.out.mono ?_
    rintro e w' ⟨rfl, rfl⟩
    go_wp2_with fail
    go_ret
    exact ⟨rfl, rfl⟩
theorem cost_ok (g b s n : Nat) (w : World) (H : Wr w g b s) (hb : 32 ≤ b ∧ b ≤ 32768) (hs : s ≤ 9223372036854775807) (hn : n ≤ 2097152) : Calls Tryd.prog 13 #[.pointer (some ⟨g, 0, none⟩), .int .i64 n] w fun e w' => e = .returned (.int .i64 (cst b s n : Nat)) ∧ Below w.heap.size w w' := by
  have HI := isnone_any g b s w H
  rw [show decide ((b : Int) = 0) = false by simp; omega] at HI
  have HI := hid HI
  have HR := hid (rest_any g b s w H hb hs)
  have HW := hid H
  have hr := room_le b s hb
  have hg := noughts_le b s
  have h0 : ¬ (n : Int) < 0 := by omega
  have h1 : ¬ (2097152 : Int) < (n : Int) := by omega
  obtain ⟨q, hq⟩ : ∃ q, q = cst b s n := ⟨_, rfl⟩
  rw [← hq]
  unfold cst at hq
  generalize noughts b s = ns at *
  generalize room b s = rm at *
  clear H
  by_cases h : n ≤ rm
  · have h2 : ¬ (rm : Int) < (n : Int) := by omega
    rw [if_pos h] at hq
    have E : Hid ((ns : Int) + 1 * 7 + (n : Int) = (q : Int)) := by show _ = _; omega
    go_enter Tryd.func13, Tryd.ntmps13
    go_wp2_with fail
    refine HI.out.mono ?_
    rintro e w' ⟨rfl, rfl⟩
    go_wp2_with fail
    refine HR.out.mono ?_
    rintro e w2 ⟨rfl, b2⟩
    go_wp2_with fail
    go_ret
    exact ⟨by rw [← E.out]; rfl, b2⟩
  · have h2 : (rm : Int) < (n : Int) := by omega
    rw [if_neg h] at hq
    have hQ : ((n : Int) - rm + ((b : Int) - 7) - 1) / ((b : Int) - 7) = (((n - rm + (b - 7) - 1) / (b - 7) : Nat) : Int) := by
      rw [show (n : Int) - rm + ((b : Int) - 7) - 1 = ((n - rm + (b - 7) - 1 : Nat) : Int) by omega, show (b : Int) - 7 = ((b - 7 : Nat) : Int) by omega, ← Int.natCast_ediv]
    have hQ2 : (n - rm + (b - 7) - 1) / (b - 7) ≤ n - rm + (b - 7) - 1 := Nat.div_le_self _ _
    have E : Hid (wrap64 (wrap64 ((ns : Int) + wrap64 (wrap64 (1 + ((n : Int) - rm + ((b : Int) - 7) - 1) / ((b : Int) - 7)) * 7)) + (n : Int)) = (q : Int)) := by
      show _ = _
      rw [hq, hQ]
      generalize (n - rm + (b - 7) - 1) / (b - 7) = Q at hQ2 ⊢
      have hb2 : Q ≤ 4194304 := by omega
      rw [wrap64_in (1 + (Q : Int)) ⟨by omega, by omega⟩, wrap64_in ((1 + (Q : Int)) * 7) ⟨by omega, by omega⟩, wrap64_in ((ns : Int) + (1 + (Q : Int)) * 7) ⟨by omega, by omega⟩, wrap64_in _ ⟨by omega, by omega⟩]
      push_cast
      omega
    clear hQ hQ2
    go_enter Tryd.func13, Tryd.ntmps13
    go_wp2_with fail
    refine HI.out.mono ?_
    rintro e w' ⟨rfl, rfl⟩
    go_wp2_with fail
    refine HR.out.mono ?_
    rintro e w2 ⟨rfl, b2⟩
    have c0 := (HW.out.later b2).cell0
    go_wp2_with fail
    go_ret
    exact ⟨by rw [← E.out]; rfl, b2⟩
end Go.Proofs.YtgkoopciajjonaaDoor.Wc

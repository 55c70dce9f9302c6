/- Operations as values; which may be, how many bytes each has: by the program and by the document's definition. -/
import Derived.Test.YtmceanfgcehfeabCz
import Derived.Below
import Derived.BigQuiet
import Derived.Deep.QuietTactic
import Derived.Lib.QuietBelow
namespace Go.Proofs.Ytmceanfgcehfeab.Ob
open Go.ChangeShapes Go.WideShapes Go.ChangeAt Go.RowKit
open Go.Proofs.Ytmceanfgcehfeab.By (ret_int)
set_option linter.unusedVariables false

theorem hid {p : Prop} (h : p) : Hid p := h
theorem addr_add (b off n : Nat) : (⟨b, off, none⟩ : Addr).add n = ⟨b, off + n, none⟩ := by
  unfold Addr.add; split <;> simp_all
/-- An operation: kind, key, value. -/
structure O where
  c : Int
  k : ByteArray
  v : ByteArray
/-- The operation of no call. -/
def zo : O := ⟨0, ⟨#[]⟩, ⟨#[]⟩⟩
/-- What an operation's parts are bounded by. -/
def O.ok (x : O) : Prop := (-9223372036854775808 ≤ x.c ∧ x.c ≤ 9223372036854775807) ∧ x.k.size ≤ maxLen ∧ x.v.size ≤ maxLen
def O.val (x : O) : Value := .agg #[.int .i64 x.c, .string x.k, .string x.v]
/-- How long a key may be. -/
def ksz (n : Nat) : Bool := decide ((1 : Int) ≤ n) && decide ((n : Int) ≤ 1024)

theorem keysize_any (n : Int) (w : World) : Calls Try.prog 60 #[.int .i64 n] w fun e w' => e = .returned (.bool (decide (1 ≤ n) && decide (n ≤ 1024))) ∧ w' = w := by
  go_enter Try.func60, Try.ntmps60
  by_cases h : 1 ≤ n
  · go_wp2
    go_ret
    exact ⟨by simp [h], rfl⟩
  · go_wp2
    go_ret
    exact ⟨by rw [show decide (1 ≤ n) = false from by simpa using h]; rfl, rfl⟩
def may (x : O) : Bool := ksz x.k.size && (if x.c = 0 then decide (x.v = ⟨#[]⟩) else if x.c = 1 then decide ((x.v.size : Int) ≤ 65536) else if x.c = 2 then ksz x.v.size && Op.bytesLess x.k.toList x.v.toList else false)
theorem toList_inj {a b : ByteArray} (h : a.toList = b.toList) : a = b := by
  rw [ByteArray.toList_eq, ByteArray.toList_eq] at h
  exact bytes_inj h
theorem empty_no {v : ByteArray} (h : ¬ v = ⟨#[]⟩) : v.toList.isEmpty = false := by
  cases hl : v.toList with
  | nil => exact absurd (bytes_inj (by rw [← ByteArray.toList_eq, hl])) h
  | cons _ _ => rfl
theorem ret_bool {a b : Bool} (h : a = b) : Ending.returned (.bool a) = .returned (.bool b) := by rw [h]
theorem box_below (w : World) (o : Obj) : Below w.heap.size w (w.alloc o) := (Below.refl _ _).alloc (Nat.le_refl _) o
set_option maxHeartbeats 1000000 in
theorem maybe_any (c : Int) (k v : ByteArray) (w : World) :
    Calls Try.prog 49 #[.agg #[.int .i64 c, .string k, .string v]] w fun e w' => e = .returned (.bool (may ⟨c, k, v⟩)) ∧ Below w.heap.size w w' := by
  obtain ⟨R, hR⟩ : ∃ R, R = may ⟨c, k, v⟩ := ⟨_, rfl⟩
  rw [← hR]
  have HR : Hid (R = may ⟨c, k, v⟩) := hR
  clear hR
  cases hk : (decide ((1 : Int) ≤ k.size) && decide ((k.size : Int) ≤ 1024)) with
  | false =>
    have HR' : Hid (R = false) := by show _ = _; rw [HR.out]; unfold may ksz; simp only [hk, Bool.false_and]
    go_enter Try.func49, Try.ntmps49
    go_wp2_with fail
    refine (keysize_any _ _).mono ?_
    rintro e w' ⟨rfl, rfl⟩
    rw [hk]
    go_wp2_with fail
    go_ret
    exact ⟨ret_bool HR'.out.symm, box_below _ _⟩
  | true =>
    have HR' : Hid (R = (if c = 0 then decide (v = ⟨#[]⟩) else if c = 1 then decide ((v.size : Int) ≤ 65536) else if c = 2 then ksz v.size && Op.bytesLess k.toList v.toList else false)) := by show _ = _; rw [HR.out]; unfold may; simp only [ksz, hk, Bool.true_and]
    clear HR
    by_cases c0 : c = 0
    · subst c0
      have HR2 : Hid (R = decide (v = ⟨#[]⟩)) := HR'.out.trans (if_pos rfl)
      clear HR'
      by_cases hv : v = ⟨#[]⟩
      · subst hv
        go_enter Try.func49, Try.ntmps49
        go_wp2_with fail
        refine (keysize_any _ _).mono ?_
        rintro e w' ⟨rfl, rfl⟩
        rw [hk]
        go_wp2_with fail
        go_ret
        exact ⟨ret_bool (by rw [HR2.out]; rfl), box_below _ _⟩
      · go_enter Try.func49, Try.ntmps49
        go_wp2_with fail
        refine (keysize_any _ _).mono ?_
        rintro e w' ⟨rfl, rfl⟩
        rw [hk]
        go_wp2_with fail
        go_ret
        exact ⟨ret_bool (by rw [HR2.out]; rw [empty_no hv]; simp [hv]), box_below _ _⟩
    · by_cases c1 : c = 1
      · subst c1
        have HR2 : Hid (R = decide ((v.size : Int) ≤ 65536)) := HR'.out.trans ((if_neg (by decide)).trans (if_pos rfl))
        clear HR'
        go_enter Try.func49, Try.ntmps49
        go_wp2_with fail
        refine (keysize_any _ _).mono ?_
        rintro e w' ⟨rfl, rfl⟩
        rw [hk]
        go_wp2_with fail
        go_ret
        exact ⟨ret_bool HR2.out.symm, box_below _ _⟩
      · by_cases c2 : c = 2
        · subst c2
          have HR2 : Hid (R = (ksz v.size && Op.bytesLess k.toList v.toList)) := HR'.out.trans ((if_neg (by decide)).trans ((if_neg (by decide)).trans (if_pos rfl)))
          clear HR' c0 c1
          cases hv : (decide ((1 : Int) ≤ v.size) && decide ((v.size : Int) ≤ 1024)) with
          | false =>
            go_enter Try.func49, Try.ntmps49
            go_wp2_with fail
            refine (keysize_any _ _).mono ?_
            rintro e w' ⟨rfl, rfl⟩
            rw [hk]
            go_wp2_with fail
            refine (keysize_any _ _).mono ?_
            rintro e w' ⟨rfl, rfl⟩
            rw [hv]
            go_wp2_with fail
            go_ret
            exact ⟨ret_bool (by rw [HR2.out]; unfold ksz; rw [hv]; rfl), box_below _ _⟩
          | true =>
            go_enter Try.func49, Try.ntmps49
            go_wp2_with fail
            refine (keysize_any _ _).mono ?_
            rintro e w' ⟨rfl, rfl⟩
            rw [hk]
            go_wp2_with fail
            refine (keysize_any _ _).mono ?_
            rintro e w' ⟨rfl, rfl⟩
            rw [hv]
            go_wp2_with fail
            go_ret
            exact ⟨ret_bool (by rw [HR2.out]; unfold ksz; rw [hv]; simp), box_below _ _⟩
        · have HR2 : Hid (R = false) := HR'.out.trans ((if_neg c0).trans ((if_neg c1).trans (if_neg c2)))
          have d0 : (c == 0) = false := by simp [c0]
          have d1 : (c == 1) = false := by simp [c1]
          have d2 : (c == 2) = false := by simp [c2]
          clear HR' c0 c1 c2
          go_enter Try.func49, Try.ntmps49
          go_wp2_with fail
          refine (keysize_any _ _).mono ?_
          rintro e w' ⟨rfl, rfl⟩
          rw [hk]
          go_wp2_with fail
          go_ret
          exact ⟨ret_bool HR2.out.symm, box_below _ _⟩
set_option maxHeartbeats 1000000 in
theorem rmay_any (c : Int) (k v : ByteArray) (w : World) :
    Calls Try.prog 47 #[.agg #[.int .i64 c, .string k, .string v]] w fun e w' => e = .returned (.bool (may ⟨c, k, v⟩)) ∧ Below w.heap.size w w' := by
  obtain ⟨R, hR⟩ : ∃ R, R = may ⟨c, k, v⟩ := ⟨_, rfl⟩
  rw [← hR]
  have HR : Hid (R = may ⟨c, k, v⟩) := hR
  clear hR
  by_cases k1 : (1 : Int) ≤ k.size
  · by_cases k2 : (k.size : Int) ≤ 1024
    · have HR' : Hid (R = (if c = 0 then decide (v = ⟨#[]⟩) else if c = 1 then decide ((v.size : Int) ≤ 65536) else if c = 2 then ksz v.size && Op.bytesLess k.toList v.toList else false)) := by
        show _ = _; rw [HR.out]; unfold may; simp only [ksz, k1, k2, decide_true, Bool.and_self, Bool.true_and]
      clear HR
      by_cases c0 : c = 0
      · subst c0
        have HR2 : Hid (R = decide (v = ⟨#[]⟩)) := HR'.out.trans (if_pos rfl)
        clear HR'
        by_cases hv : v = ⟨#[]⟩
        · subst hv
          go_enter Try.func47, Try.ntmps47
          go_wp2_with fail
          go_ret
          exact ⟨ret_bool (by rw [HR2.out]; rfl), box_below _ _⟩
        · go_enter Try.func47, Try.ntmps47
          go_wp2_with fail
          go_ret
          exact ⟨ret_bool (by rw [HR2.out]; rw [empty_no hv]; simp [hv]), box_below _ _⟩
      · by_cases c1 : c = 1
        · subst c1
          have HR2 : Hid (R = decide ((v.size : Int) ≤ 65536)) := HR'.out.trans ((if_neg (by decide)).trans (if_pos rfl))
          clear HR'
          go_enter Try.func47, Try.ntmps47
          go_wp2_with fail
          go_ret
          exact ⟨ret_bool HR2.out.symm, box_below _ _⟩
        · by_cases c2 : c = 2
          · subst c2
            have HR2 : Hid (R = (ksz v.size && Op.bytesLess k.toList v.toList)) := HR'.out.trans ((if_neg (by decide)).trans ((if_neg (by decide)).trans (if_pos rfl)))
            clear HR' c0 c1
            by_cases v1 : (1 : Int) ≤ v.size
            · by_cases v2 : (v.size : Int) ≤ 1024
              · go_enter Try.func47, Try.ntmps47
                go_wp2_with fail
                go_ret
                exact ⟨ret_bool (by rw [HR2.out]; simp [ksz, v1, v2]), box_below _ _⟩
              · go_enter Try.func47, Try.ntmps47
                go_wp2_with fail
                go_ret
                exact ⟨ret_bool (by rw [HR2.out]; unfold ksz; rw [show decide ((v.size : Int) ≤ 1024) = false from by simpa using v2]; simp), box_below _ _⟩
            · go_enter Try.func47, Try.ntmps47
              go_wp2_with fail
              go_ret
              exact ⟨ret_bool (by rw [HR2.out]; unfold ksz; rw [show decide ((1 : Int) ≤ v.size) = false from by simpa using v1]; simp), box_below _ _⟩
          · have HR2 : Hid (R = false) := HR'.out.trans ((if_neg c0).trans ((if_neg c1).trans (if_neg c2)))
            have d0 : (c == 0) = false := by simp [c0]
            have d1 : (c == 1) = false := by simp [c1]
            have d2 : (c == 2) = false := by simp [c2]
            clear HR' c0 c1 c2
            go_enter Try.func47, Try.ntmps47
            go_wp2_with fail
            go_ret
            exact ⟨ret_bool HR2.out.symm, box_below _ _⟩
    · have HR' : Hid (R = false) := by
        show _ = _; rw [HR.out]; unfold may ksz; rw [show decide ((k.size : Int) ≤ 1024) = false from by simpa using k2]; simp
      clear HR
      go_enter Try.func47, Try.ntmps47
      go_wp2_with fail
      go_ret
      exact ⟨ret_bool HR'.out.symm, box_below _ _⟩
  · have HR' : Hid (R = false) := by
      show _ = _; rw [HR.out]; unfold may ksz; rw [show decide ((1 : Int) ≤ k.size) = false from by simpa using k1]; simp
    clear HR
    go_enter Try.func47, Try.ntmps47
    go_wp2_with fail
    go_ret
    exact ⟨ret_bool HR'.out.symm, box_below _ _⟩
theorem maynot_any (c : Int) (k v : ByteArray) (w : World) :
    Calls Try.prog 57 #[.agg #[.int .i64 c, .string k, .string v]] w fun e w' => e = .returned (.bool (!may ⟨c, k, v⟩)) ∧ Below w.heap.size w w' := by
  go_enter Try.func57, Try.ntmps57
  go_wp2_with fail
  refine (maybe_any c k v _).mono ?_
  rintro e w1 ⟨rfl, b⟩
  go_wp2_with fail
  go_ret
  exact ⟨rfl, (box_below w _).trans (b.mono (by simp))⟩
/-! ### How many bytes an operation has -/
def tsz (n : Nat) : Nat := (Vb.vb n).length + n
def osz (x : O) : Nat := 1 + tsz x.k.size + (if x.c = 0 then 0 else tsz x.v.size)
theorem hasvalue_any (c : Int) (w : World) : Calls Try.prog 53 #[.int .i64 c] w fun e w' => e = .returned (.bool (!decide (c = 0))) ∧ w' = w := by
  go_enter Try.func53, Try.ntmps53
  by_cases h : c = 0
  · subst h
    go_wp2
    go_ret
    exact ⟨rfl, rfl⟩
  · have d0 : (c == 0) = false := by simp [h]
    have d1 : (c != 0) = true := by simp [h]
    have e0 : (!decide (c = 0)) = true := by simp [h]
    rw [e0]
    clear h e0
    go_wp2
    go_ret
    exact ⟨rfl, rfl⟩
theorem textsize_any (s : ByteArray) (w : World) (hm : s.size ≤ 281474976710656) : Calls Try.prog 61 #[.string s] w fun e w' => e = .returned (.int .i64 (tsz s.size)) ∧ w' = w := by
  have hl := Vb.vb_le s.size
  go_enter Try.func61, Try.ntmps61
  go_wp2_with fail
  refine (By.size_any s.size _ (by omega)).mono ?_
  rintro e w' ⟨rfl, rfl⟩
  go_wp2_with fail
  go_ret
  exact ⟨ret_int (by unfold tsz; omega), rfl⟩
theorem opsize_any (c : Int) (k v : ByteArray) (w : World) (hk : k.size ≤ 281474976710656) (hv : v.size ≤ 281474976710656) :
    Calls Try.prog 50 #[.agg #[.int .i64 c, .string k, .string v]] w fun e w' => e = .returned (.int .i64 (osz ⟨c, k, v⟩)) ∧ Below w.heap.size w w' := by
  have hl := Vb.vb_le k.size
  have hl' := Vb.vb_le v.size
  obtain ⟨N, hN⟩ : ∃ N : Nat, N = osz ⟨c, k, v⟩ := ⟨_, rfl⟩
  rw [← hN]
  obtain ⟨A, hA⟩ : ∃ A : Nat, A = tsz k.size := ⟨_, rfl⟩
  obtain ⟨B, hB⟩ : ∃ B : Nat, B = tsz v.size := ⟨_, rfl⟩
  have hAb : A ≤ 281474976710656 + 10 := by rw [hA]; unfold tsz; omega
  have hBb : B ≤ 281474976710656 + 10 := by rw [hB]; unfold tsz; omega
  have HA : Hid (A = tsz k.size) := hA
  have HB : Hid (B = tsz v.size) := hB
  have HN : Hid (N = 1 + A + (if c = 0 then 0 else B)) := by show _ = _; rw [hN, hA, hB]; rfl
  clear hN hA hB hl hl'
  by_cases c0 : c = 0
  · subst c0
    have HN2 : Hid (N = 1 + A) := HN.out
    clear HN
    go_enter Try.func50, Try.ntmps50
    go_wp2_with fail
    refine (textsize_any k _ hk).mono ?_
    rintro e w' ⟨rfl, rfl⟩
    rw [← HA.out]
    go_wp2_with fail
    refine (hasvalue_any 0 _).mono ?_
    rintro e w' ⟨rfl, rfl⟩
    go_wp2_with fail
    go_ret
    exact ⟨ret_int (by rw [HN2.out]; omega), box_below _ _⟩
  · have HN2 : Hid (N = 1 + A + B) := by show _ = _; rw [HN.out, if_neg c0]
    have e0 : (!decide (c = 0)) = true := by simp [c0]
    clear HN
    go_enter Try.func50, Try.ntmps50
    go_wp2_with fail
    refine (textsize_any k _ hk).mono ?_
    rintro e w' ⟨rfl, rfl⟩
    rw [← HA.out]
    go_wp2_with fail
    refine (hasvalue_any c _).mono ?_
    rintro e w' ⟨rfl, rfl⟩
    rw [e0]
    go_wp2_with fail
    refine (textsize_any v _ hv).mono ?_
    rintro e w' ⟨rfl, rfl⟩
    rw [← HB.out]
    go_wp2_with fail
    go_ret
    exact ⟨ret_int (by rw [HN2.out]; omega), box_below _ _⟩
set_option maxHeartbeats 1000000 in
theorem rlength_any (n : Nat) (w : World) (hn : n ≤ 9223372036854775807) : Calls Try.prog 67 #[.int .i64 n] w fun e w' => e = .returned (.int .i64 (Vb.vb n).length) ∧ w' = w := by
  obtain ⟨L, hL⟩ : ∃ L, L = (Vb.vb n).length := ⟨_, rfl⟩
  rw [← hL]
  have hL10 : L ≤ 10 := by rw [hL]; exact Vb.vb_le n
  have HL : Hid (L = (Vb.vb n).length) := hL
  clear hL
  go_enter Try.func67, Try.ntmps67
  go_wp2_with fail
  go_loopw [0, 3] (fun b x wr => wr = w ∧ ∃ k j u : Nat, b = .int .i64 u ∧ x = .int .i64 j ∧ u ≤ 9223372036854775807 ∧ Hid ((u : Int) < 2 * 128 ^ k) ∧ Hid (j + (Vb.vbF k u).length = L + 1) ∧ j ≤ L) (fun b _ _ => (intOf b).toNat)
  case atStart => exact ⟨rfl, 9, 1, n, rfl, rfl, hn, by show _ < _; rw [Vb.two9]; omega, by show _ = _; rw [HL.out]; unfold Vb.vb; omega, by rw [HL.out]; exact Vb.vb_pos n⟩
  case round =>
    obtain ⟨rfl, k, j, u, rfl, rfl, hu1, hk, hj, hjL⟩ := hrel
    by_cases h : (128 : Int) ≤ u
    · obtain ⟨k', hk'⟩ : ∃ k', k = k' + 1 := by
        cases k with
        | zero => have := hk.out; simp at this; omega
        | succ k => exact ⟨k, rfl⟩
      subst hk'
      have e1 : Hid (j + 1 + (Vb.vbF k' ((u / 128 : Nat) : Int)).length = L + 1) := by
        have := hj.out
        rw [Vb.vbF_step _ _ h] at this
        show _ = _
        rw [show (((u / 128 : Nat) : Int)) = (u : Int) / 128 from by omega]
        simp at this
        omega
      have hj1 : j + 1 ≤ L := by have := e1.out; have := Vb.vbF_pos k' ((u / 128 : Nat) : Int); omega
      have hk2 : Hid (((u / 128 : Nat) : Int) < 2 * 128 ^ k') := by show _ < _; have := hk.out; rw [Int.pow_succ] at this; omega
      clear hj hk
      go_wp2_with fail
      go_roundw
      case rel => exact ⟨by trivial, k', j + 1, u / 128, by go_num, by go_num, by omega, hk2, e1, hj1⟩
      case measure => simp [intOf]; omega
    · have e1 : Hid (j = L) := by
        have := hj.out
        rw [Vb.vbF_small _ _ (by omega)] at this
        simp at this
        show _ = _
        omega
      clear hj hk
      go_wp2_with fail
      go_ret
      exact ⟨ret_int (by rw [e1.out]), rfl⟩
set_option maxHeartbeats 1000000 in
theorem rbytes_any (c : Int) (k v : ByteArray) (w : World) (hk : k.size ≤ 281474976710656) (hv : v.size ≤ 281474976710656) :
    Calls Try.prog 59 #[.agg #[.int .i64 c, .string k, .string v]] w fun e w' => e = .returned (.int .i64 (osz ⟨c, k, v⟩)) ∧ Below w.heap.size w w' := by
  have hl := Vb.vb_le k.size
  have hl' := Vb.vb_le v.size
  obtain ⟨N, hN⟩ : ∃ N : Nat, N = osz ⟨c, k, v⟩ := ⟨_, rfl⟩
  rw [← hN]
  obtain ⟨A, hA⟩ : ∃ A : Nat, A = (Vb.vb k.size).length := ⟨_, rfl⟩
  obtain ⟨B, hB⟩ : ∃ B : Nat, B = (Vb.vb v.size).length := ⟨_, rfl⟩
  rw [← hA] at hl
  rw [← hB] at hl'
  have HN : Hid (N = 1 + (A + k.size) + (if c = 0 then 0 else B + v.size)) := by show _ = _; rw [hN, hA, hB]; rfl
  have FA : Hid (∀ w : World, Calls Try.prog 67 #[.int .i64 k.size] w fun e w' => e = .returned (.int .i64 A) ∧ w' = w) := fun w => by rw [hA]; exact rlength_any k.size w (by omega)
  have FB : Hid (∀ w : World, Calls Try.prog 67 #[.int .i64 v.size] w fun e w' => e = .returned (.int .i64 B) ∧ w' = w) := fun w => by rw [hB]; exact rlength_any v.size w (by omega)
  clear hN hA hB
  by_cases c0 : c = 0
  · subst c0
    have HN2 : Hid (N = 1 + (A + k.size)) := HN.out
    clear HN
    go_enter Try.func59, Try.ntmps59
    go_wp2_with fail
    go_quiet (first | (go_at_call 67; exact Calls.quiet_of_same (FA.out _)))
    go_wp2_with fail
    go_ret
    exact ⟨ret_int (by rw [HN2.out]; omega), below_drewN (box_below _ _) _⟩
  · have HN2 : Hid (N = 1 + (A + k.size) + (B + v.size)) := by show _ = _; rw [HN.out, if_neg c0]
    have d0 : (c == 0) = false := by simp [c0]
    have d1 : (c != 0) = true := by simp [c0]
    clear HN c0
    go_enter Try.func59, Try.ntmps59
    go_wp2_with fail
    go_quiet (first | (go_at_call 67; exact Calls.quiet_of_same (FA.out _)))
    go_wp2_with fail
    obtain ⟨W, hW⟩ : ∃ W, W = (w.alloc (.cells #[.int .i64 c, .string k, .string v] 60)).drewN nq := ⟨_, rfl⟩
    have cv : W.cell? ⟨w.heap.size, 2, none⟩ = some (.string v) := by rw [hW]; go_simp
    have HB : Hid (Below w.heap.size w W) := by show Below _ _ _; rw [hW]; exact below_drewN (box_below _ _) _
    rw [← hW]
    clear hW
    go_quiet (first | (go_at_call 67; exact Calls.quiet_of_same (FB.out _)))
    go_wp2_with fail
    go_ret
    exact ⟨ret_int (by rw [HN2.out]; omega), below_drewN HB.out _⟩
end Go.Proofs.Ytmceanfgcehfeab.Ob

/- Slices of operations that can be read; the first that may not be, how many bytes they have, Check and Size: by the program and by the document's definition. -/
import Derived.Test.YtmceanfgcehfeabOb
namespace Go.Proofs.Ytmceanfgcehfeab.Ob
open Go.ChangeShapes Go.WideShapes Go.ChangeAt Go.RowKit
open Go.Proofs.Ytmceanfgcehfeab.By (ret_int)
set_option linter.unusedVariables false

/-- An operation lies at a place. -/
def At3 (w : World) (b o : Nat) (x : O) : Prop := w.cell? ⟨b, o, none⟩ = some (.int .i64 x.c) ∧ w.cell? ⟨b, o + 1, none⟩ = some (.string x.k) ∧ w.cell? ⟨b, o + 2, none⟩ = some (.string x.v)
theorem At3.later {w w' : World} {b o : Nat} {x : O} (h : At3 w b o x) (hb : Below w.heap.size w w') : At3 w' b o x :=
  ⟨(hb.cell (block_lt_of_cell h.1)).trans h.1, (hb.cell (block_lt_of_cell h.2.1)).trans h.2.1, (hb.cell (block_lt_of_cell h.2.2)).trans h.2.2⟩
/-- A slice of operations that can be read. -/
def Ops (w : World) (a : Option Addr) (len cap : Nat) (xs : List O) : Prop :=
  xs.length = len ∧ len ≤ cap ∧ (a = none → len = 0 ∧ cap = 0) ∧ (∀ x ∈ xs, x.ok) ∧ (∀ b o p, a = some ⟨b, o, p⟩ → 0 < len → p = none ∧ ∀ i, i < len → At3 w b (o + i * 3) (xs.getD i zo))
theorem Ops.later {w w' : World} {a : Option Addr} {len cap : Nat} {xs : List O} (h : Ops w a len cap xs) (hb : Below w.heap.size w w') : Ops w' a len cap xs :=
  ⟨h.1, h.2.1, h.2.2.1, h.2.2.2.1, fun b o p hp hl => ⟨(h.2.2.2.2 b o p hp hl).1, fun i hi => ((h.2.2.2.2 b o p hp hl).2 i hi).later hb⟩⟩
theorem get_mem {xs : List O} {k : Nat} (h : k < xs.length) : xs.getD k zo ∈ xs := by
  rw [List.getD_eq_getElem?_getD, List.getElem?_eq_getElem h]
  exact List.getElem_mem h
/-- The place of the first one that may not be. -/
def bad : List O → Option Nat
  | [] => none
  | x :: r => if may x = true then (bad r).map (· + 1) else some 0
theorem bad_some : ∀ (xs : List O) (k : Nat), (∀ j, j < k → may (xs.getD j zo) = true) → k < xs.length → may (xs.getD k zo) = false → bad xs = some k
  | [], k, _, h, _ => by simp at h
  | x :: r, 0, _, _, h => by
    have : may x = false := h
    simp [bad, this]
  | x :: r, k + 1, hj, h, hk => by
    have h0 : may x = true := hj 0 (by omega)
    rw [bad, if_pos h0, bad_some r k (fun j hj' => hj (j + 1) (by omega)) (by simpa using h) hk]
    rfl
theorem bad_none : ∀ (xs : List O), (∀ j, j < xs.length → may (xs.getD j zo) = true) → bad xs = none
  | [], _ => rfl
  | x :: r, h => by
    have h0 : may x = true := h 0 (by simp)
    rw [bad, if_pos h0, bad_none r (fun j hj => h (j + 1) (by simp; omega))]
    rfl
theorem all_may : ∀ (xs : List O), bad xs = none → ∀ x ∈ xs, may x = true
  | [], _, x, h => by simp at h
  | y :: r, h, x, hx => by
    unfold bad at h
    by_cases h0 : may y = true
    · rw [if_pos h0] at h
      rcases List.mem_cons.1 hx with rfl | hx
      · exact h0
      · exact all_may r (by simpa using h) x hx
    · rw [if_neg h0] at h; simp at h
theorem bad_of_all : ∀ (xs : List O), (∀ x ∈ xs, may x = true) → bad xs = none := fun xs h => bad_none xs fun j hj => h _ (get_mem hj)
/-- How many bytes a batch of them has. -/
def osum : List O → Nat
  | [] => 0
  | x :: r => osz x + osum r
def bsz (xs : List O) : Nat := 12 + osum xs
theorem osum_append : ∀ (xs ys : List O), osum (xs ++ ys) = osum xs + osum ys
  | [], ys => by simp [osum]
  | x :: r, ys => by simp [osum, osum_append r ys]; omega
theorem osum_take (xs : List O) (k : Nat) (h : k < xs.length) : osum (xs.take (k + 1)) = osum (xs.take k) + osz (xs.getD k zo) := by
  rw [List.take_succ_eq_append_getElem h, osum_append, List.getD_eq_getElem?_getD, List.getElem?_eq_getElem h]
  simp [osum]
theorem may_sizes {x : O} (h : may x = true) : 1 ≤ x.k.size ∧ x.k.size ≤ 1024 ∧ x.v.size ≤ 65536 ∧ 0 ≤ x.c ∧ x.c ≤ 2 := by
  unfold may ksz at h
  rw [Bool.and_eq_true, Bool.and_eq_true, decide_eq_true_eq, decide_eq_true_eq] at h
  obtain ⟨⟨h1, h2⟩, h3⟩ := h
  refine ⟨by omega, by omega, ?_⟩
  split at h3
  · next hc => rw [decide_eq_true_eq] at h3; rw [h3, hc]; exact ⟨by decide, by omega, by omega⟩
  · split at h3
    · next hc => rw [decide_eq_true_eq] at h3; exact ⟨by omega, by omega, by omega⟩
    · split at h3
      · next hc => rw [Bool.and_eq_true, Bool.and_eq_true, decide_eq_true_eq, decide_eq_true_eq] at h3; exact ⟨by omega, by omega, by omega⟩
      · simp at h3
theorem osz_le {x : O} (h : may x = true) : osz x ≤ 66581 + 0 := by
  have := may_sizes h
  have h1 := Vb.vb_le x.k.size
  have h2 := Vb.vb_le x.v.size
  unfold osz tsz
  split <;> omega
theorem osum_le : ∀ (xs : List O), (∀ x ∈ xs, may x = true) → osum xs ≤ xs.length * 66581
  | [], _ => by simp [osum]
  | x :: r, h => by
    have h1 := osz_le (h x (by simp))
    have h2 := osum_le r (fun y hy => h y (by simp [hy]))
    simp only [osum, List.length_cons]
    omega

theorem At3.box {w : World} (b o : Nat) (x : O) (h : At3 w b o x) (ob : Obj) : At3 (w.alloc ob) b o x := h.later (box_below _ _)

def idx (xs : List O) : Int := match bad xs with | some i => (i : Int) | none => -1
set_option maxHeartbeats 1000000 in
theorem index_any (a : Option Addr) (len cap : Nat) (xs : List O) (w : World) (H : Ops w a len cap xs) (hl : len ≤ 140737488351232) :
    Calls Try.prog 56 #[.slice a len cap, .func (.func 57) #[] #[]] w fun e w' => e = .returned (.int .i64 (idx xs)) ∧ Below w.heap.size w w' := by
  have HH := hid H
  clear H
  go_enter Try.func56, Try.ntmps56
  go_wp2_with fail
  go_loopw [8] (fun i wr => ∃ k : Nat, i = .int .i64 k ∧ k ≤ len ∧ Hid (∀ j, j < k → may (xs.getD j zo) = true) ∧ Hid (Below w.heap.size w wr)) (fun i _ => len - (intOf i).toNat)
  case atStart => exact ⟨0, rfl, by omega, fun j hj => by omega, Below.refl _ _⟩
  case round =>
    obtain ⟨k, rfl, hk, hj, hbel⟩ := hrel
    have hxl : Hid (xs.length = len) := HH.out.1
    by_cases hlt : k < len
    · cases a with
      | none => have := (HH.out.2.2.1 rfl).1; omega
      | some ad =>
        obtain ⟨b, off, sp⟩ := ad
        obtain ⟨rfl, hat⟩ := HH.out.2.2.2.2 b off sp rfl (by omega)
        have hat := (hat k hlt).later hbel.out
        obtain ⟨x, hx⟩ : ∃ x, x = xs.getD k zo := ⟨_, rfl⟩
        rw [← hx] at hat
        have HX : Hid (x = xs.getD k zo) := hx
        clear hx
        obtain ⟨xc, xk, xv⟩ := x
        obtain ⟨a1, a2, a3⟩ := hat
        simp only at a1 a2 a3
        have ik0 : (k : Int) < (len : Int) := by omega
        have hlc := HH.out.2.1
        have M := maynot_any xc xk xv wr
        cases hm : may ⟨xc, xk, xv⟩ with
        | true =>
          rw [hm] at M
          have HM := hid M
          have HX2 : Hid (∀ j, j < k + 1 → may (xs.getD j zo) = true) := fun j h => by
            by_cases e : j = k
            · subst e; rw [← HX.out]; exact hm
            · exact hj.out j (by omega)
          clear M hm HX hj
          go_wp2_with fail
          refine HM.out.mono ?_
          rintro e w2 ⟨rfl, b2⟩
          have HB2 : Hid (Below w.heap.size w w2) := hbel.out.trans (b2.mono hbel.out.size)
          clear HM b2 hbel a1 a2 a3
          go_wp2_with fail
          go_roundw
          case rel => exact ⟨k + 1, by go_num, by omega, HX2, HB2⟩
          case measure => simp [intOf]; omega
        | false =>
          rw [hm] at M
          have HM := hid M
          have HI : Hid (idx xs = k) := by
            show _ = _
            unfold idx
            rw [bad_some xs k hj.out (by have := hxl.out; omega) (by rw [← HX.out]; exact hm)]
          clear M hm HX hj
          go_wp2_with fail
          refine HM.out.mono ?_
          rintro e w2 ⟨rfl, b2⟩
          have HB2 : Hid (Below w.heap.size w w2) := hbel.out.trans (b2.mono hbel.out.size)
          clear HM b2 hbel a1 a2 a3
          go_wp2_with fail
          go_ret
          exact ⟨ret_int HI.out.symm, HB2.out⟩
    · have HI : Hid (idx xs = -1) := by
        show _ = _
        unfold idx
        rw [bad_none xs (fun j h => hj.out j (by have := hxl.out; omega))]
      go_wp2_with fail
      go_ret
      exact ⟨ret_int HI.out.symm, hbel.out⟩
set_option maxHeartbeats 1000000 in
theorem sizeof_any (a : Option Addr) (len cap : Nat) (xs : List O) (w : World) (H : Ops w a len cap xs) (hl : len ≤ 8192) (hm : ∀ x ∈ xs, may x = true) :
    Calls Try.prog 42 #[.slice a len cap] w fun e w' => e = .returned (.int .i64 (bsz xs)) ∧ Below w.heap.size w w' := by
  have HH := hid H
  have HM := hid hm
  clear H hm
  go_enter Try.func42, Try.ntmps42
  go_wp2_with fail
  go_loopw [3, 8] (fun s i wr => ∃ k z : Nat, s = .int .i64 z ∧ i = .int .i64 k ∧ k ≤ len ∧ Hid (z = bsz (xs.take k)) ∧ z ≤ 12 + k * 66581 ∧ Hid (Below w.heap.size w wr)) (fun _ i _ => len - (intOf i).toNat)
  case atStart => exact ⟨0, 12, rfl, rfl, by omega, rfl, by omega, Below.refl _ _⟩
  case round =>
    obtain ⟨k, z, rfl, rfl, hk, hz, hzb, hbel⟩ := hrel
    have hxl : Hid (xs.length = len) := HH.out.1
    by_cases hlt : k < len
    · cases a with
      | none => have := (HH.out.2.2.1 rfl).1; omega
      | some ad =>
        obtain ⟨b, off, sp⟩ := ad
        obtain ⟨rfl, hat⟩ := HH.out.2.2.2.2 b off sp rfl (by omega)
        have hat := (hat k hlt).later hbel.out
        have hkl : k < xs.length := by have := hxl.out; omega
        have hT := osum_take xs k hkl
        have hms := HM.out _ (get_mem hkl)
        have hsz := may_sizes hms
        have hos := osz_le hms
        generalize xs.getD k zo = x at hat hT hms hsz hos
        obtain ⟨xc, xk, xv⟩ := x
        obtain ⟨a1, a2, a3⟩ := hat
        simp only at a1 a2 a3 hsz
        have ik0 : (k : Int) < (len : Int) := by omega
        have hlc := HH.out.2.1
        have M := opsize_any xc xk xv (wr.alloc (.cells #[.int .i64 xc, .string xk, .string xv] 60)) (by omega) (by omega)
        obtain ⟨N, hN⟩ : ∃ N, N = osz ⟨xc, xk, xv⟩ := ⟨_, rfl⟩
        rw [← hN] at M hT hos
        have HM2 := hid M
        have HZ : Hid (z + N = bsz (xs.take (k + 1))) := by show _ = _; rw [hz.out]; unfold bsz; omega
        clear M hT hN hz hsz hms hkl
        go_wp2_with fail
        refine HM2.out.mono ?_
        rintro e w2 ⟨rfl, b2⟩
        have HB2 : Hid (Below w.heap.size w w2) := (hbel.out.trans ((box_below wr _).mono hbel.out.size)).trans (b2.mono (by have := hbel.out.size; simp; omega))
        clear HM2 b2 hbel a1 a2 a3
        go_wp2_with fail
        go_roundw
        case rel => exact ⟨k + 1, z + N, by go_num, by go_num, by omega, HZ, by omega, HB2⟩
        case measure => simp [intOf]; omega
    · have HI : Hid (bsz xs = z) := by
        show _ = _
        rw [hz.out, List.take_of_length_le (by have := hxl.out; omega)]
      go_wp2_with fail
      go_ret
      exact ⟨ret_int (by rw [HI.out]), hbel.out⟩
set_option maxHeartbeats 1000000 in
theorem rsize_any (a : Option Addr) (len cap : Nat) (xs : List O) (w : World) (H : Ops w a len cap xs) (hl : len ≤ 8192) (hm : ∀ x ∈ xs, may x = true) :
    Calls Try.prog 48 #[.slice a len cap] w fun e w' => e = .returned (.int .i64 (bsz xs)) ∧ Below w.heap.size w w' := by
  have HH := hid H
  have HM := hid hm
  clear H hm
  go_enter Try.func48, Try.ntmps48
  go_wp2_with fail
  go_loopw [3, 4] (fun s i wr => ∃ k z : Nat, s = .int .i64 z ∧ i = .int .i64 k ∧ k ≤ len ∧ Hid (z = bsz (xs.take k)) ∧ z ≤ 12 + k * 66581 ∧ Hid (Below w.heap.size w wr)) (fun _ i _ => len - (intOf i).toNat)
  case atStart => exact ⟨0, 12, rfl, rfl, by omega, rfl, by omega, Below.refl _ _⟩
  case round =>
    obtain ⟨k, z, rfl, rfl, hk, hz, hzb, hbel⟩ := hrel
    have hxl : Hid (xs.length = len) := HH.out.1
    by_cases hlt : k < len
    · cases a with
      | none => have := (HH.out.2.2.1 rfl).1; omega
      | some ad =>
        obtain ⟨b, off, sp⟩ := ad
        obtain ⟨rfl, hat⟩ := HH.out.2.2.2.2 b off sp rfl (by omega)
        have hat := (hat k hlt).later hbel.out
        have hkl : k < xs.length := by have := hxl.out; omega
        have hT := osum_take xs k hkl
        have hms := HM.out _ (get_mem hkl)
        have hsz := may_sizes hms
        have hos := osz_le hms
        generalize xs.getD k zo = x at hat hT hms hsz hos
        obtain ⟨xc, xk, xv⟩ := x
        obtain ⟨a1, a2, a3⟩ := hat
        simp only at a1 a2 a3 hsz
        have ik0 : (k : Int) < (len : Int) := by omega
        have hlc := HH.out.2.1
        have M := rbytes_any xc xk xv wr (by omega) (by omega)
        obtain ⟨N, hN⟩ : ∃ N, N = osz ⟨xc, xk, xv⟩ := ⟨_, rfl⟩
        rw [← hN] at M hT hos
        have HM2 := hid M
        have HZ : Hid (z + N = bsz (xs.take (k + 1))) := by show _ = _; rw [hz.out]; unfold bsz; omega
        clear M hT hN hz hsz hms hkl
        go_wp2_with fail
        refine HM2.out.mono ?_
        rintro e w2 ⟨rfl, b2⟩
        have HB2 : Hid (Below w.heap.size w w2) := hbel.out.trans (b2.mono hbel.out.size)
        clear HM2 b2 hbel a1 a2 a3
        go_wp2_with fail
        go_roundw
        case rel => exact ⟨k + 1, z + N, by go_num, by go_num, by omega, HZ, by omega, HB2⟩
        case measure => simp [intOf]; omega
    · have HI : Hid (bsz xs = z) := by
        show _ = _
        rw [hz.out, List.take_of_length_le (by have := hxl.out; omega)]
      go_wp2_with fail
      go_ret
      exact ⟨ret_int (by rw [HI.out]), hbel.out⟩
end Go.Proofs.Ytmceanfgcehfeab.Ob

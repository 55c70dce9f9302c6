/- Span of both. -/
import Derived.Test.YtkpihibeohjfnaaFq
import Derived.BigQuiet
namespace Go.Proofs.Ytkpihibeohjfnaa.Sn
open Go.ChangeShapes Go.WideShapes Go.ChangeAt Go.RowKit
open Go.Proofs.Ytkpihibeohjfnaa.Gr
open Go.Proofs.Ytkpihibeohjfnaa.Ev
open Go.Proofs.Ytkpihibeohjfnaa.Oe
open Go.Proofs.Ytkpihibeohjfnaa.Lv
open Go.Proofs.Ytkpihibeohjfnaa.Vp
open Go.Proofs.Ytkpihibeohjfnaa.Vu
open Go.Proofs.Ytkpihibeohjfnaa.Lx (lt mx mn run_mx run_mn leq_s gtr_s geq_s)
set_option linter.unusedVariables false
set_option linter.unusedSimpArgs false
attribute [local go_sem] run_mx run_mn

/-- The least Least and the greatest Limit. -/
def lo : List Fi → ByteArray
  | [] => ⟨#[]⟩
  | f :: r => r.foldl (fun m g => mn m g.a) f.a
def hi : List Fi → ByteArray
  | [] => ⟨#[]⟩
  | f :: r => r.foldl (fun m g => mx m g.b) f.b
theorem lo_snoc {xs : List Fi} (h : xs ≠ []) (f : Fi) : lo (xs ++ [f]) = mn (lo xs) f.a := by
  cases xs with
  | nil => exact absurd rfl h
  | cons x r => simp [lo, List.foldl_append]
theorem hi_snoc {xs : List Fi} (h : xs ≠ []) (f : Fi) : hi (xs ++ [f]) = mx (hi xs) f.b := by
  cases xs with
  | nil => exact absurd rfl h
  | cons x r => simp [hi, List.foldl_append]
theorem mn_self (a : ByteArray) : mn a a = a := by unfold mn; split <;> rfl
theorem mx_self (a : ByteArray) : mx a a = a := by unfold mx; split <;> rfl
theorem take_ne {xs : List Fi} {j : Nat} (hj : 0 < j) (h : j ≤ xs.length) : xs.take j ≠ [] := by
  intro e
  have := congrArg List.length e
  rw [List.length_take, List.length_nil] at this
  omega
theorem lo_take {xs : List Fi} {j : Nat} (hj : 0 < j) (h : j < xs.length) : lo (xs.take (j + 1)) = mn (lo (xs.take j)) (xs.getD j zf).a := by
  rw [El.take_snoc (E := eFi) h, lo_snoc (take_ne hj (by omega))]; rfl
theorem hi_take {xs : List Fi} {j : Nat} (hj : 0 < j) (h : j < xs.length) : hi (xs.take (j + 1)) = mx (hi (xs.take j)) (xs.getD j zf).b := by
  rw [El.take_snoc (E := eFi) h, hi_snoc (take_ne hj (by omega))]; rfl
theorem lo_one {xs : List Fi} (h : 0 < xs.length) : lo (xs.take 1) = (xs.getD 0 zf).a ∧ hi (xs.take 1) = (xs.getD 0 zf).b := by
  cases xs with
  | nil => simp at h
  | cons x r => exact ⟨rfl, rfl⟩
set_option maxRecDepth 100000 in
set_option maxHeartbeats 1000000 in
theorem span_any (la : Option Addr) (ln lc : Nat) (fs : List Fi) (w : World) (H : eFi.Sl w la ln lc fs) (hn8 : ln ≤ 1048576) :
    Calls Try.prog 33 #[.slice la ln lc] w fun e w' => e = .returned (.tuple #[.string (lo fs), .string (hi fs), .bool (decide (0 < ln))]) ∧ Below w.heap.size w w' := by
  have hlen := hid H.n
  have hlc := H.c
  have HF : Hid (∀ W, Below w.heap.size w W → eFi.Sl W la ln lc fs) := fun W b => H.later b
  clear H
  go_enter Try.func33, Try.ntmps33
  go_wp2_with fail
  go_loopw [2, 3, 4, 9] (fun a b c jj wr => ∃ (j : Nat) (s t : ByteArray), jj = .int .i64 j ∧ j ≤ ln ∧ a = .string s ∧ b = .string t ∧ c = .bool (decide (0 < j)) ∧ Hid (s = lo (fs.take j)) ∧ Hid (t = hi (fs.take j)) ∧ Hid (Below w.heap.size w wr)) (fun _ _ _ jj _ => ln - (intOf jj).toNat)
  case atStart => exact ⟨0, _, _, rfl, by omega, rfl, rfl, rfl, rfl, rfl, Below.refl _ _⟩
  case round =>
    obtain ⟨j, s, t, rfl, hj, rfl, rfl, rfl, hs, ht, bw⟩ := hrel
    by_cases hjl : j < ln
    · obtain ⟨fb, fo, rfl, hat⟩ := get1 (HF.out wr bw.out) j hjl
      have hA := fi_at (hat j hjl)
      rw [show eFi.z = zf from rfl] at hA
      have hjf : j < fs.length := by rw [hlen.out]; exact hjl
      have h0 : Hid (j = 0 → lo (fs.take (j + 1)) = (fs.getD j zf).a ∧ hi (fs.take (j + 1)) = (fs.getD j zf).b) := by
        intro e
        subst e
        exact lo_one hjf
      have h1 : Hid (0 < j → lo (fs.take (j + 1)) = mn s (fs.getD j zf).a ∧ hi (fs.take (j + 1)) = mx t (fs.getD j zf).b) := by
        intro e
        rw [hs.out, ht.out]
        exact ⟨lo_take e hjf, hi_take e hjf⟩
      clear hat hs ht
      generalize fs.getD j zf = f at *
      obtain ⟨fn, fz, ft, fu, flo, fhi⟩ := f
      obtain ⟨e1, e2, e3, e4, e5, e6⟩ := hA
      simp only [show eFi.k = 6 from rfl] at e1 e2 e3 e4 e5 e6
      have jk0 : (j : Int) < (ln : Int) := by omega
      have jo0 : (0 : Int) ≤ (j : Int) := by omega
      obtain ⟨W7, hW7⟩ : ∃ W, W = wr.alloc (.cells #[.int .i64 fn, .int .i64 fz, .string ft, .string fu, .int .u64 flo, .int .u64 fhi] 43) := ⟨_, rfl⟩
      obtain ⟨g7, hg7⟩ : ∃ g, g = wr.heap.size := ⟨_, rfl⟩
      have bx : Below wr.heap.size wr W7 := by rw [hW7]; exact box_below _ _
      have kx : W7.heap[g7]? = some (.cells #[.int .i64 fn, .int .i64 fz, .string ft, .string fu, .int .u64 flo, .int .u64 fhi] 43) := by rw [hW7, hg7]; exact new_at _ _
      have x2 := cell_of kx 2 _ rfl
      have x3 := cell_of kx 3 _ rfl
      have b7 := hid (Below.up bw.out bx)
      dsimp only at h0 h1
      replace hW7 := hid hW7
      replace hg7 := hid hg7
      clear kx bx
      by_cases hj0 : j = 0
      · have hz : ((j : Int) == 0) = true := by rw [hj0]; rfl
        have hE := hid (h0.out hj0)
        have e1' := mn_self ft
        have e2' := mx_self fu
        have hpd : Hid (decide (0 < j + 1) = true) := decide_eq_true (by omega)
        have d0 : decide (0 < j) = false := decide_eq_false (by omega)
        clear hj0
        go_wp2_with fail
        rw [← hW7.out, ← hg7.out]
        go_quiet (fail)
        go_wp2_with fail
        go_region
        go_wp2_with fail
        go_roundw
        case rel => exact ⟨j + 1, ft, fu, by go_num, by omega, by first | rfl | rw [e1'], by first | rfl | rw [e2'], by rw [hpd.out], hE.out.1.symm, hE.out.2.symm, hid (Below.up b7.out (Below.up (drewN_below _ _) (drew_below _)))⟩
        case measure => simp [intOf]; omega
      · have hz : ((j : Int) == 0) = false := by rw [beq_eq_false_iff_ne]; omega
        have hE := hid (h1.out (by omega))
        have hpd : Hid (decide (0 < j + 1) = true) := decide_eq_true (by omega)
        have d0 : decide (0 < j) = true := decide_eq_true (by omega)
        clear hj0
        go_wp2_with fail
        rw [← hW7.out, ← hg7.out]
        go_region
        go_wp2_with fail
        go_roundw
        case rel => exact ⟨j + 1, mn s ft, mx t fu, by go_num, by omega, rfl, rfl, by rw [hpd.out, d0], hE.out.1.symm, hE.out.2.symm, hid (Below.up b7.out (drew_below _))⟩
        case measure => simp [intOf]; omega
    · have hje : j = ln := by omega
      subst hje
      have hs' : Hid (lo fs = s) := by show _ = _; rw [hs.out, ← hlen.out, List.take_length]
      have ht' : Hid (hi fs = t) := by show _ = _; rw [ht.out, ← hlen.out, List.take_length]
      clear hs ht
      go_wp2_with fail
      go_ret3
      rw [hs'.out, ht'.out]
      exact ⟨rfl, bw.out⟩
set_option maxRecDepth 100000 in
set_option maxHeartbeats 1000000 in
theorem rspan_any (la : Option Addr) (ln lc : Nat) (fs : List Fi) (w : World) (H : eFi.Sl w la ln lc fs) (hn8 : ln ≤ 1048576) :
    Calls Try.prog 34 #[.slice la ln lc] w fun e w' => e = .returned (.tuple #[.string (lo fs), .string (hi fs), .bool (decide (0 < ln))]) ∧ Below w.heap.size w w' := by
  have hlen := hid H.n
  have hlc := H.c
  by_cases hz : ln = 0
  · have hnil : fs = [] := List.eq_nil_of_length_eq_zero (by rw [hlen.out]; exact hz)
    subst hnil
    subst hz
    clear H hlen
    go_enter Try.func34, Try.ntmps34
    go_wp2_with fail
    go_ret3
    exact ⟨rfl, Below.refl _ _⟩
  · have hzb : ((ln : Int) == 0) = false := by rw [beq_eq_false_iff_ne]; omega
    obtain ⟨fb, fo, rfl, hat⟩ := get1 H 0 (by omega)
    have hA0 := fi_at (hat 0 (by omega))
    rw [show eFi.z = zf from rfl, show eFi.k = 6 from rfl, Nat.zero_mul, Nat.add_zero] at hA0
    have q3 := hA0.2.2.1
    have q4 := hA0.2.2.2.1
    have hone := hid (lo_one (xs := fs) (by rw [hlen.out]; omega))
    have l0 : (0 : Int) < (ln : Int) := by omega
    have hpd : Hid (decide (0 < ln) = true) := decide_eq_true (by omega)
    replace hat := hid hat
    generalize (fs.getD 0 zf).a = s0 at *
    generalize (fs.getD 0 zf).b = t0 at *
    clear hA0 H hz
    go_enter Try.func34, Try.ntmps34
    go_wp2_with fail
    go_quiet (fail)
    go_wp2_with fail
    go_loopw [5, 6, 7] (fun a b jj wr => ∃ (j : Nat) (s t : ByteArray), jj = .int .i64 ((j : Int) + 1) ∧ j + 1 ≤ ln ∧ a = .string s ∧ b = .string t ∧ Hid (s = lo (fs.take (j + 1))) ∧ Hid (t = hi (fs.take (j + 1))) ∧ ∃ q, wr = w.drewN q) (fun _ _ jj _ => ln - (intOf jj).toNat)
    case atStart => exact ⟨0, s0, t0, rfl, by omega, rfl, rfl, hone.out.1.symm, hone.out.2.symm, nq, rfl⟩
    case round =>
      clear q3 q4
      obtain ⟨j, s, t, rfl, hj, rfl, rfl, hs, ht, q, rfl⟩ := hrel
      by_cases hjl : j + 1 < ln
      · have hA := fi_at (hat.out (j + 1) hjl)
        rw [show eFi.z = zf from rfl, show eFi.k = 6 from rfl] at hA
        have e3 := hA.2.2.1
        have e4 := hA.2.2.2.1
        have hjf : j + 1 < fs.length := by rw [hlen.out]; exact hjl
        have h1 := hid (lo_take (xs := fs) (j := j + 1) (by omega) hjf)
        have h2 := hid (hi_take (xs := fs) (j := j + 1) (by omega) hjf)
        rw [← hs.out] at h1
        rw [← ht.out] at h2
        clear hA hs ht
        generalize (fs.getD (j + 1) zf).a = ft at *
        generalize (fs.getD (j + 1) zf).b = fu at *
        have jk0 : (j : Int) + 1 < (ln : Int) := by omega
        have jo0 : (0 : Int) ≤ (j : Int) + 1 := by omega
        go_wp2_with fail
        go_roundw
        case rel => exact ⟨j + 1, mn s ft, mx t fu, by go_num, by omega, rfl, rfl, h1.out.symm, h2.out.symm, q, rfl⟩
        case measure => simp [intOf]; omega
      · have hje : j + 1 = ln := by omega
        have hf : decide ((j : Int) + 1 < (ln : Int)) = false := decide_eq_false (by omega)
        have hs' : Hid (lo fs = s) := by show _ = _; rw [hs.out, hje, ← hlen.out, List.take_length]
        have ht' : Hid (hi fs = t) := by show _ = _; rw [ht.out, hje, ← hlen.out, List.take_length]
        clear hs ht hje
        go_wp2_with fail
        go_ret3
        rw [hs'.out, ht'.out, hpd.out]
        exact ⟨rfl, drewN_below _ _⟩
end Go.Proofs.Ytkpihibeohjfnaa.Sn

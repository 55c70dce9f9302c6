/- The document's disk: Size, Read, List. -/
import Derived.Test.YtgffojafdjcdoaaQe
import Derived.Test.YtgffojafdjcdoaaQi
namespace Go.Proofs.Ytgffojafdjcdoaa.Qj
open Go.ChangeShapes Go.WideShapes Go.ChangeAt Go.RowKit Go.Maps
open Go.Sort (grow)
open Go.Proofs.Ytgffojafdjcdoaa.By
open Go.Proofs.Ytgffojafdjcdoaa.Dk
open Go.Proofs.Ytgffojafdjcdoaa.Df (isN isQ isN_size)
open Go.Proofs.Ytgffojafdjcdoaa.Ap (wpList_append_run)
open Go.Proofs.Ytgffojafdjcdoaa.Pd
open Go.Proofs.Ytgffojafdjcdoaa.Qa
open Go.Proofs.Ytgffojafdjcdoaa.Qb
open Go.Proofs.Ytgffojafdjcdoaa.Qc
open Go.Proofs.Ytgffojafdjcdoaa.Qd
open Go.Proofs.Ytgffojafdjcdoaa.Qi (rdN rdM)
set_option linter.unusedVariables false
set_option linter.unusedSimpArgs false
set_option maxHeartbeats 4000000 in
set_option maxRecDepth 100000 in
theorem size_bad {base g : Nat} {v : Value} {P : Nat → Prop} {R : RS} (s : ByteArray) (hs : s.size ≤ 9223372036854775807) (w : World) (H : RDk w base g v P R) (hok : RS.ok R) (hi : isN s = false) : Calls Try.prog 45 #[.pointer (some ⟨g, 0, none⟩), .string s] w fun e w' => e = .returned (.tuple #[.int .i64 0, .int .i64 0, .int .i64 2]) ∧ Below w.heap.size w w' := by
  have HN := rname_any s hs w
  rw [hi] at HN
  replace HN := hid HN
  clear H hok
  go_enter Try.func45, Try.ntmps45
  go_wp2_with fail
  refine HN.out.mono ?_
  rintro e w1 ⟨rfl, hw⟩
  replace hw := hw.symm
  subst hw
  go_wp2_with fail
  exact bodyPost_ret (v := .tuple #[.int .i64 0, .int .i64 0, .int .i64 2]) (by simp [results, Try.results45, go_sem]) rfl ⟨rfl, Below.refl _ _⟩
set_option maxHeartbeats 4000000 in
set_option maxRecDepth 100000 in
theorem size_none {base g : Nat} {v : Value} {P : Nat → Prop} {R : RS} (s : ByteArray) (hs : s.size ≤ 9223372036854775807) (w : World) (H : RDk w base g v P R) (hok : RS.ok R) (hi : isN s = true) (hl : lkp R.rs s = none) : Calls Try.prog 45 #[.pointer (some ⟨g, 0, none⟩), .string s] w fun e w' => e = .returned (.tuple #[.int .i64 0, .int .i64 0, .int .i64 51]) ∧ Below w.heap.size w w' := by
  have HN := rname_any s hs w
  rw [hi] at HN
  replace HN := hid HN
  have HF := hid (rfind_no s hl w H hok)
  clear H hok hl
  go_enter Try.func45, Try.ntmps45
  go_wp2_with fail
  refine HN.out.mono ?_
  rintro e w1 ⟨rfl, hw⟩
  replace hw := hw.symm
  subst hw
  go_wp2_with fail
  refine HF.out.mono ?_
  rintro e w2 ⟨rfl, b2⟩
  replace b2 := hid b2
  go_wp2_with fail
  exact bodyPost_ret (v := .tuple #[.int .i64 0, .int .i64 0, .int .i64 51]) (by simp [results, Try.results45, go_sem]) rfl ⟨rfl, b2.out⟩
set_option maxHeartbeats 4000000 in
set_option maxRecDepth 100000 in
theorem size_ok {base g : Nat} {v : Value} {P : Nat → Prop} {R : RS} (s : ByteArray) (hs : s.size ≤ 9223372036854775807) (w : World) (H : RDk w base g v P R) (hok : RS.ok R) (hi : isN s = true) (r : RF) (hl : lkp R.rs s = some r) : Calls Try.prog 45 #[.pointer (some ⟨g, 0, none⟩), .string s] w fun e w' => e = .returned (.tuple #[.int .i64 (r.b.size : Int), .int .i64 (r.k : Int), .int .i64 0]) ∧ Below w.heap.size w w' := by
  have HN := rname_any s hs w
  rw [hi] at HN
  replace HN := hid HN
  have HF := hid (rfind_yes s r hl w H hok)
  have HP : Hid (∀ w1, Below w.heap.size w w1 → RDk w1 base g v P R) := fun w1 b => H.later b
  have hlt : (lo s R.rs).length < R.rs.length := (List.getElem?_eq_some_iff.1 (at_place hok.srt s hl)).1
  have hlen := hok.len
  have hrb : r.b.size ≤ 268435456 := Nat.le_trans (sum_mem (look_mem hl).1) hok.tot
  obtain ⟨a, c, rfl, hnc, hsome, _⟩ := H.own.shape
  obtain ⟨gv, rfl⟩ := hsome (by omega)
  have hpl := hid (at_place hok.srt s hl)
  obtain ⟨rn, rb, rk⟩ := r
  dsimp only at hrb ⊢
  obtain ⟨L, hL⟩ : ∃ L, L = (lo s R.rs).length := ⟨_, rfl⟩
  obtain ⟨N, hN⟩ : ∃ N, N = R.rs.length := ⟨_, rfl⟩
  rw [← hL] at HF hlt hpl
  rw [← hN] at hlt hlen HP
  have i1 : (L : Int) < (N : Int) := by omega
  replace hL := hid hL; replace hN := hid hN
  clear H hok hl hsome
  go_enter Try.func45, Try.ntmps45
  go_wp2_with fail
  refine HN.out.mono ?_
  rintro e w1 ⟨rfl, hwx⟩
  replace hwx := hwx.symm
  subst hwx
  go_wp2_with fail
  refine HF.out.mono ?_
  rintro e w2 ⟨rfl, b2⟩
  have D2 := HP.out w2 b2
  have c0 := D2.cell 0 _ rfl
  obtain ⟨e0, e1, e2⟩ := D2.own.cells L ⟨rn, rb, rk⟩ hpl.out
  replace b2 := hid b2
  clear D2
  go_wp2_with fail
  go_quiet (fail)
  go_wp2_with fail
  exact bodyPost_ret (v := .tuple #[.int .i64 (rb.size : Int), .int .i64 (rk : Int), .int .i64 0]) (by simp [results, Try.results45, go_sem]) rfl ⟨rfl, b2.out.trans ((drewN_below _ _).mono b2.out.size)⟩
def rsz (R : RS) (s : ByteArray) : Int × Int × Int := if isN s = false then (0, 0, 2) else match lkp R.rs s with | none => (0, 0, 51) | some r => ((r.b.size : Int), (r.k : Int), 0)
theorem size_any {base g : Nat} {v : Value} {P : Nat → Prop} {R : RS} (s : ByteArray) (hs : s.size ≤ 9223372036854775807) (w : World) (H : RDk w base g v P R) (hok : RS.ok R) : Calls Try.prog 45 #[.pointer (some ⟨g, 0, none⟩), .string s] w fun e w' => e = .returned (.tuple #[.int .i64 (rsz R s).1, .int .i64 (rsz R s).2.1, .int .i64 (rsz R s).2.2]) ∧ Below w.heap.size w w' := by
  unfold rsz
  by_cases hi : isN s = false
  · rw [if_pos hi]; exact size_bad s hs w H hok hi
  · rw [if_neg hi]
    replace hi : isN s = true := by simpa using hi
    cases hl : lkp R.rs s with
    | none => exact size_none s hs w H hok hi hl
    | some r => exact size_ok s hs w H hok hi r hl
set_option maxHeartbeats 4000000 in
set_option maxRecDepth 100000 in
theorem read_bad {base g : Nat} {v : Value} {P : Nat → Prop} {R : RS} (s : ByteArray) (p n : Int) (hnr : n ≤ 9223372036854775807) (hs : s.size ≤ 9223372036854775807) (w : World) (H : RDk w base g v P R) (hok : RS.ok R) (hi : isN s = false) : Calls Try.prog 46 #[.pointer (some ⟨g, 0, none⟩), .string s, .int .i64 p, .int .i64 n] w fun e w' => e = .returned (.tuple #[.string ⟨#[]⟩, .int .i64 2]) ∧ Below w.heap.size w w' := by
  have HN := rname_any s hs w
  rw [hi] at HN
  replace HN := hid HN
  clear H hok
  go_enter Try.func46, Try.ntmps46
  go_wp2_with fail
  refine HN.out.mono ?_
  rintro e w1 ⟨rfl, hw⟩
  replace hw := hw.symm
  subst hw
  go_wp2_with fail
  exact bodyPost_ret (v := .tuple #[.string ⟨#[]⟩, .int .i64 2]) (by simp [results, Try.results46, go_sem]) rfl ⟨rfl, Below.refl _ _⟩
set_option maxHeartbeats 4000000 in
set_option maxRecDepth 100000 in
theorem read_none {base g : Nat} {v : Value} {P : Nat → Prop} {R : RS} (s : ByteArray) (p n : Int) (hnr : n ≤ 9223372036854775807) (hs : s.size ≤ 9223372036854775807) (w : World) (H : RDk w base g v P R) (hok : RS.ok R) (hi : isN s = true) (hl : lkp R.rs s = none) : Calls Try.prog 46 #[.pointer (some ⟨g, 0, none⟩), .string s, .int .i64 p, .int .i64 n] w fun e w' => e = .returned (.tuple #[.string ⟨#[]⟩, .int .i64 51]) ∧ Below w.heap.size w w' := by
  have HN := rname_any s hs w
  rw [hi] at HN
  replace HN := hid HN
  have HF := hid (rfind_no s hl w H hok)
  clear H hok hl
  go_enter Try.func46, Try.ntmps46
  go_wp2_with fail
  refine HN.out.mono ?_
  rintro e w1 ⟨rfl, hw⟩
  replace hw := hw.symm
  subst hw
  go_wp2_with fail
  refine HF.out.mono ?_
  rintro e w2 ⟨rfl, b2⟩
  replace b2 := hid b2
  go_wp2_with fail
  exact bodyPost_ret (v := .tuple #[.string ⟨#[]⟩, .int .i64 51]) (by simp [results, Try.results46, go_sem]) rfl ⟨rfl, b2.out⟩
set_option maxHeartbeats 4000000 in
set_option maxRecDepth 100000 in
theorem read_arg {base g : Nat} {v : Value} {P : Nat → Prop} {R : RS} (s : ByteArray) (p n : Int) (hnr : n ≤ 9223372036854775807) (hs : s.size ≤ 9223372036854775807) (w : World) (H : RDk w base g v P R) (hok : RS.ok R) (hi : isN s = true) (r : RF) (hl : lkp R.rs s = some r) (hn : rdN r.b.size p n = true) : Calls Try.prog 46 #[.pointer (some ⟨g, 0, none⟩), .string s, .int .i64 p, .int .i64 n] w fun e w' => e = .returned (.tuple #[.string ⟨#[]⟩, .int .i64 2]) ∧ Below w.heap.size w w' := by
  have HN := rname_any s hs w
  rw [hi] at HN
  replace HN := hid HN
  have HF := hid (rfind_yes s r hl w H hok)
  have HP : Hid (∀ w1, Below w.heap.size w w1 → RDk w1 base g v P R) := fun w1 b => H.later b
  have hlt : (lo s R.rs).length < R.rs.length := (List.getElem?_eq_some_iff.1 (at_place hok.srt s hl)).1
  have hlen := hok.len
  have hrb : r.b.size ≤ 268435456 := Nat.le_trans (sum_mem (look_mem hl).1) hok.tot
  obtain ⟨a, c, rfl, hnc, hsome, _⟩ := H.own.shape
  obtain ⟨gv, rfl⟩ := hsome (by omega)
  have hpl := hid (at_place hok.srt s hl)
  obtain ⟨rn, rb, rk⟩ := r
  dsimp only at hrb hn ⊢
  obtain ⟨L, hL⟩ : ∃ L, L = (lo s R.rs).length := ⟨_, rfl⟩
  obtain ⟨N, hN⟩ : ∃ N, N = R.rs.length := ⟨_, rfl⟩
  rw [← hL] at HF hlt hpl
  rw [← hN] at hlt hlen HP
  have i1 : (L : Int) < (N : Int) := by omega
  replace hL := hid hL; replace hN := hid hN
  clear H hok hl hsome
  have T : p < 0 ∨ (¬ p < 0 ∧ (rb.size : Int) < p) ∨ (¬ p < 0 ∧ ¬ (rb.size : Int) < p ∧ n < 0) := by
    unfold rdN at hn
    simp only [Bool.or_eq_true, decide_eq_true_eq] at hn
    omega
  clear hn
  rcases T with i2 | ⟨i2, i3⟩ | ⟨i2, i3, i4⟩
  all_goals
    go_enter Try.func46, Try.ntmps46
    go_wp2_with fail
    refine HN.out.mono ?_
    rintro e w1 ⟨rfl, hwx⟩
    replace hwx := hwx.symm
    subst hwx
    go_wp2_with fail
    refine HF.out.mono ?_
    rintro e w2 ⟨rfl, b2⟩
    have D2 := HP.out w2 b2
    have c0 := D2.cell 0 _ rfl
    obtain ⟨e0, e1, e2⟩ := D2.own.cells L ⟨rn, rb, rk⟩ hpl.out
    replace b2 := hid b2
    clear D2
    go_wp2_with fail
    exact bodyPost_ret (v := .tuple #[.string ⟨#[]⟩, .int .i64 2]) (by simp [results, Try.results46, go_sem]) rfl ⟨rfl, b2.out⟩
set_option maxHeartbeats 4000000 in
set_option maxRecDepth 100000 in
theorem read_ok {base g : Nat} {v : Value} {P : Nat → Prop} {R : RS} (s : ByteArray) (p n : Int) (hnr : n ≤ 9223372036854775807) (hs : s.size ≤ 9223372036854775807) (w : World) (H : RDk w base g v P R) (hok : RS.ok R) (hi : isN s = true) (r : RF) (hl : lkp R.rs s = some r) (hn : rdN r.b.size p n = false) : Calls Try.prog 46 #[.pointer (some ⟨g, 0, none⟩), .string s, .int .i64 p, .int .i64 n] w fun e w' => e = .returned (.tuple #[.string (r.b.extract p.toNat (p.toNat + rdM r.b.size p n)), .int .i64 0]) ∧ Below w.heap.size w w' := by
  have HN := rname_any s hs w
  rw [hi] at HN
  replace HN := hid HN
  have HF := hid (rfind_yes s r hl w H hok)
  have HP : Hid (∀ w1, Below w.heap.size w w1 → RDk w1 base g v P R) := fun w1 b => H.later b
  have hlt : (lo s R.rs).length < R.rs.length := (List.getElem?_eq_some_iff.1 (at_place hok.srt s hl)).1
  have hlen := hok.len
  have hrb : r.b.size ≤ 268435456 := Nat.le_trans (sum_mem (look_mem hl).1) hok.tot
  obtain ⟨a, c, rfl, hnc, hsome, _⟩ := H.own.shape
  obtain ⟨gv, rfl⟩ := hsome (by omega)
  have hpl := hid (at_place hok.srt s hl)
  obtain ⟨rn, rb, rk⟩ := r
  dsimp only at hrb hn ⊢
  obtain ⟨L, hL⟩ : ∃ L, L = (lo s R.rs).length := ⟨_, rfl⟩
  obtain ⟨N, hN⟩ : ∃ N, N = R.rs.length := ⟨_, rfl⟩
  rw [← hL] at HF hlt hpl
  rw [← hN] at hlt hlen HP
  have i1 : (L : Int) < (N : Int) := by omega
  replace hL := hid hL; replace hN := hid hN
  clear H hok hl hsome
  unfold rdN at hn
  simp only [Bool.or_eq_false_iff, decide_eq_false_iff_not] at hn
  obtain ⟨q, rfl⟩ : ∃ q : Nat, p = q := ⟨p.toNat, by omega⟩
  obtain ⟨m, hm⟩ : ∃ m, m = rdM rb.size (q : Int) n := ⟨_, rfl⟩
  rw [← hm, Int.toNat_natCast]
  have i2 : ¬ (q : Int) < 0 := by omega
  have i3 : ¬ (rb.size : Int) < (q : Int) := by omega
  have i4 : ¬ n < 0 := by omega
  have w1' : IntKind.i64.wrap ((rb.size : Int) - (q : Int)) = (rb.size : Int) - (q : Int) := by rw [IntKind.wrap_i64]; omega
  have hmv : (m : Int) = min n ((rb.size : Int) - (q : Int)) := by rw [hm]; unfold rdM; omega
  have i5 : (q : Int) ≤ (q : Int) + (m : Int) := by omega
  have i6 : (q : Int) + (m : Int) ≤ (rb.size : Int) := by omega
  have i7 : ((q : Int) + (m : Int)).toNat = q + m := by omega
  have w2' : IntKind.i64.wrap ((q : Int) + (m : Int)) = (q : Int) + (m : Int) := by rw [IntKind.wrap_i64]; omega
  have i8 : q + m ≤ rb.size := by omega
  clear hn
  by_cases hbig : (rb.size : Int) - (q : Int) < n
  · have hmv2 : (rb.size : Int) - (q : Int) = (m : Int) := by omega
    have w3' : IntKind.i64.wrap ((rb.size : Int) - (q : Int)) = (m : Int) := by rw [w1']; exact hmv2
    have hbig2 : (m : Int) < n := by omega
    replace hmv := hid hmv; replace hm := hid hm; replace hmv2 := hid hmv2; replace hbig := hid hbig
    clear w1'
    go_enter Try.func46, Try.ntmps46
    go_wp2_with fail
    refine HN.out.mono ?_
    rintro e w1 ⟨rfl, hwx⟩
    replace hwx := hwx.symm
    subst hwx
    go_wp2_with fail
    refine HF.out.mono ?_
    rintro e w2 ⟨rfl, b2⟩
    have D2 := HP.out w2 b2
    have c0 := D2.cell 0 _ rfl
    obtain ⟨e0, e1, e2⟩ := D2.own.cells L ⟨rn, rb, rk⟩ hpl.out
    replace b2 := hid b2
    clear D2
    go_wp2_with fail
    exact bodyPost_ret (v := .tuple #[.string (rb.extract q (q + m)), .int .i64 0]) (by simp [results, Try.results46, go_sem]) rfl ⟨rfl, b2.out⟩
  · obtain rfl : n = (m : Int) := by omega
    replace hmv := hid hmv; replace hm := hid hm
    go_enter Try.func46, Try.ntmps46
    go_wp2_with fail
    refine HN.out.mono ?_
    rintro e w1 ⟨rfl, hwx⟩
    replace hwx := hwx.symm
    subst hwx
    go_wp2_with fail
    refine HF.out.mono ?_
    rintro e w2 ⟨rfl, b2⟩
    have D2 := HP.out w2 b2
    have c0 := D2.cell 0 _ rfl
    obtain ⟨e0, e1, e2⟩ := D2.own.cells L ⟨rn, rb, rk⟩ hpl.out
    replace b2 := hid b2
    clear D2
    go_wp2_with fail
    exact bodyPost_ret (v := .tuple #[.string (rb.extract q (q + m)), .int .i64 0]) (by simp [results, Try.results46, go_sem]) rfl ⟨rfl, b2.out⟩
def rrd (R : RS) (s : ByteArray) (p n : Int) : ByteArray × Int := if isN s = false then (⟨#[]⟩, 2) else match lkp R.rs s with | none => (⟨#[]⟩, 51) | some r => if rdN r.b.size p n = true then (⟨#[]⟩, 2) else (r.b.extract p.toNat (p.toNat + rdM r.b.size p n), 0)
theorem read_any {base g : Nat} {v : Value} {P : Nat → Prop} {R : RS} (s : ByteArray) (hs : s.size ≤ 9223372036854775807) (p n : Int) (hnr : n ≤ 9223372036854775807) (w : World) (H : RDk w base g v P R) (hok : RS.ok R) : Calls Try.prog 46 #[.pointer (some ⟨g, 0, none⟩), .string s, .int .i64 p, .int .i64 n] w fun e w' => e = .returned (.tuple #[.string (rrd R s p n).1, .int .i64 (rrd R s p n).2]) ∧ Below w.heap.size w w' := by
  unfold rrd
  by_cases hi : isN s = false
  · rw [if_pos hi]; exact read_bad s p n hnr hs w H hok hi
  · rw [if_neg hi]
    replace hi : isN s = true := by simpa using hi
    cases hl : lkp R.rs s with
    | none => exact read_none s p n hnr hs w H hok hi hl
    | some r =>
      cases hn : rdN r.b.size p n with
      | true => simp only [hn, if_pos]; exact read_arg s p n hnr hs w H hok hi r hl hn
      | false => simp only [hn, Bool.false_eq_true, if_false]; exact read_ok s p n hnr hs w H hok hi r hl hn
theorem app_name (w : World) (base : Nat) (v : Value) (l : List Value) (x : ByteArray) (H : w.ownsRow base 9 1 v l.length l) (hn : (l.length + 1) * 16 ≤ 140737488355328) (hbase : base ≤ w.heap.size) :
    ∃ v' w', (Builtin.append_ #[56, 56] 56 #[v, .slice (some ⟨w.heap.size, 0, none⟩) 1 1]).run Try.prog (w.alloc (.cells #[.string x] 9)) = .ok v' w' ∧ w'.ownsRow base 9 1 v' (l.length + 1) (l ++ [.string x]) ∧ w.grownBy w' v.ownBlock := by
  obtain ⟨i0, hi, hz0, hz1, hz2⟩ := info_parts Lt.info9
  have b1 := box_below w (.cells #[.string x] 9)
  have H2 : (w.alloc (.cells #[.string x] 9)).ownsRow base 9 1 v l.length l := World.ownsRow.alloc H _
  have n4 := new_at w (.cells #[.string x] 9)
  obtain ⟨v5, W5, r5, o5, g5, _⟩ := run_append_own (P := Try.prog) (w.alloc (.cells #[.string x] 9)) base 56 56 9 i0 _ 1 16 Try.underlying56 hi hz0 hz1 hz2 rfl (by decide) v l.length _ H2 ⟨w.heap.size, 0, none⟩ 1 1 [.string x] rfl (by
    intro q u hq
    rw [show (⟨w.heap.size, 0, none⟩ : Addr).add q = ⟨w.heap.size, q, none⟩ by unfold Addr.add; split <;> simp_all]
    exact cell_of n4 q u (by simpa using hq)) (by intro u hu; simp at hu; subst hu; rfl) (by unfold maxLen; omega) (by omega) (by rw [size_alloc]; omega)
  exact ⟨v5, W5, r5, o5, ⟨g5.os.trans b1.os, g5.tape.trans b1.tape, g5.output.trans b1.output, Nat.le_trans b1.size g5.size, fun k hk hne => (g5.block k (Nat.lt_of_lt_of_le hk b1.size) hne).trans (b1.block k hk)⟩⟩
def nms (rs : List RF) : List Value := rs.map fun r => .string r.n
theorem row_v {w : World} {base n : Nat} {v : Value} {xs : List Value} (h : w.ownsRow base 9 1 v n xs) : ∃ a c, v = .slice a n c := by
  rcases h.2 with ⟨e, h0⟩ | ⟨g, cap, cur, e, _⟩
  · exact ⟨none, 0, by rw [e, h0]⟩
  · exact ⟨_, _, e⟩
set_option maxHeartbeats 4000000 in
set_option maxRecDepth 100000 in
theorem list_any {base g : Nat} {v : Value} {P : Nat → Prop} {R : RS} (w : World) (H : RDk w base g v P R) (hok : RS.ok R) : Calls Try.prog 43 #[.pointer (some ⟨g, 0, none⟩)] w fun e w' => ∃ u, e = .returned u ∧ w'.ownsRow w.heap.size 9 1 u R.rs.length (nms R.rs) ∧ Below w.heap.size w w' := by
  have hlen := hok.len
  obtain ⟨a, c, rfl, hnc, hsome, _⟩ := H.own.shape
  obtain ⟨N, hN⟩ : ∃ N, N = R.rs.length := ⟨_, rfl⟩
  have HP : Hid (∀ w1, Below w.heap.size w w1 → RDk w1 base g (.slice a N c) P R) := fun w1 b => by rw [hN]; exact H.later b
  rw [← hN] at hlen hsome ⊢
  replace hN := hid hN
  replace hsome := hid hsome
  have i64 : (N : Int) ≤ 4096 := by omega
  clear H hok
  go_enter Try.func43, Try.ntmps43
  go_wp2_with fail
  go_loopw [3, 4] (fun ev iv wr => ∃ i : Nat, i ≤ N ∧ iv = .int .i64 (i : Int) ∧ Hid (wr.ownsRow w.heap.size 9 1 ev i (nms (R.rs.take i))) ∧ Hid (Below w.heap.size w wr)) (fun _ iv _ => N - (intOf iv).toNat)
  case atStart => exact ⟨0, Nat.zero_le _, rfl, World.ownsRow_nil _ _ _ _, Below.refl _ _⟩
  case round =>
    obtain ⟨i, hi, rfl, HO, HB⟩ := hrel
    have D := HP.out _ HB.out
    have c0 := D.cell 0 _ rfl
    by_cases hiN : i < N
    · obtain ⟨x, hx⟩ : ∃ x, R.rs[i]? = some x := ⟨_, List.getElem?_eq_getElem (by have := hN.out; omega)⟩
      obtain ⟨gv, rfl⟩ := hsome.out (by omega)
      obtain ⟨k0, k1, k2⟩ := D.own.cells i x hx
      have i1 : (i : Int) < (N : Int) := by omega
      have hl : (nms (R.rs.take i)).length = i := by unfold nms; rw [List.length_map, List.length_take]; have := hN.out; omega
      have ho := HO.out
      rw [show wr.ownsRow w.heap.size 9 1 _ i (nms (R.rs.take i)) = wr.ownsRow w.heap.size 9 1 _ (nms (R.rs.take i)).length (nms (R.rs.take i)) by rw [hl]] at ho
      obtain ⟨v5, W5, r5, o5, g5⟩ := app_name wr w.heap.size _ (nms (R.rs.take i)) x.n ho (by rw [hl]; omega) HB.out.size
      rw [hl] at o5
      rw [show nms (R.rs.take i) ++ [Value.string x.n] = nms (R.rs.take (i + 1)) by rw [take_snoc hx]; simp [nms]] at o5
      obtain ⟨ea, ec, rfl⟩ := row_v HO.out
      have hlow : ∀ k, (Value.slice ea i ec).ownBlock = some k → w.heap.size ≤ k := fun k hk => (World.ownsRow.lt HO.out k hk).1
      have B5 : Hid (Below w.heap.size w W5) := HB.out.grown g5 HB.out.size hlow
      have hwr : IntKind.i64.wrap ((i : Int) + 1) = ((i + 1 : Nat) : Int) := by rw [IntKind.wrap_i64]; omega
      replace o5 := hid o5
      replace r5 := hid r5
      clear D hx HO HB g5 ho hlow hl
      go_wp2_with (at_builtin; refine wpList_append_run (by rfl) (.tmp 18) (.tmp 27) 56 56 rfl (.slice ea i ec) (.slice (some ⟨wr.heap.size, 0, none⟩) 1 1) v5 (by rfl) (by rfl) r5.out ?_)
      refine ⟨⟨i + 1, by omega, by first | rfl | go_num, o5, B5⟩, ?_⟩
      simp only [intOf]; omega
    · have i1 : ¬ (i : Int) < (N : Int) := by omega
      obtain rfl : i = N := by omega
      have e1 : R.rs.take i = R.rs := List.take_of_length_le (by have := hN.out; omega)
      rw [e1] at HO
      clear D
      go_wp2_with fail
      go_ret
      exact ⟨_, rfl, HO.out, HB.out⟩
end Go.Proofs.Ytgffojafdjcdoaa.Qj

/- Read of a disk, whatever it is asked. -/
import Derived.Test.YtgffojafdjcdoaaRd
namespace Go.Proofs.Ytgffojafdjcdoaa.Qi
open Go.ChangeShapes Go.WideShapes Go.ChangeAt Go.RowKit Go.Maps
open Go.Sort
open Go.Proofs.Ytgffojafdjcdoaa.By
open Go.Proofs.Ytgffojafdjcdoaa.Ln
open Go.Proofs.Ytgffojafdjcdoaa.Mp
open Go.Proofs.Ytgffojafdjcdoaa.Dk
open Go.Proofs.Ytgffojafdjcdoaa.Df
open Go.Proofs.Ytgffojafdjcdoaa.Dh
open Go.Proofs.Ytgffojafdjcdoaa.Bc
open Go.Proofs.Ytgffojafdjcdoaa.Cl
set_option linter.unusedVariables false
set_option linter.unusedSimpArgs false

/-- What Read tells. -/
def rdN (len : Nat) (a n : Int) : Bool := decide (a < 0) || decide ((len : Int) < a) || decide (n < 0)
def rdM (len : Nat) (a n : Int) : Nat := (min n ((len : Int) - a)).toNat
def rdZ (S : St) (s : ByteArray) (a n : Int) : List Int × Int :=
  if (fnd S s).2 ≠ 0 then ([], (fnd S s).2) else if rdN (fnd S s).1.zs.length a n = true then ([], 2) else (((fnd S s).1.zs.drop a.toNat).take (rdM (fnd S s).1.zs.length a n), 0)
theorem sub_bytes {w : World} {a : Addr} {n c : Nat} {zs : List Int} (H : Bytes w (some a) n c zs) (p m : Nat) (hp : p + m ≤ n) : Bytes w (some (if c = p then a else a.add p)) m (c - p) ((zs.drop p).take m) := by
  have h1 := H.1
  have h2 := H.2.1
  refine ⟨by rw [List.length_take, List.length_drop]; omega, by omega, fun e => (by cases e), fun y hy => H.2.2.2.1 y (List.mem_of_mem_drop (List.mem_of_mem_take hy)), ?_⟩
  intro x hx j hj
  cases hx
  rw [if_neg (by omega)]
  have := H.2.2.2.2 a rfl (p + j) (by omega)
  rw [show (a.add p).add j = a.add (p + j) by
    unfold Addr.add
    by_cases hp0 : p = 0
    · subst hp0; simp
    · by_cases hj0 : j = 0
      · subst hj0; simp
      · simp [hp0, hj0, Nat.add_assoc]]
  rw [this]
  simp only [List.getD_eq_getElem?_getD, List.getElem?_take, List.getElem?_drop]
  rw [if_pos (by omega)]
set_option maxRecDepth 100000 in
set_option maxHeartbeats 2000000 in
theorem read_no {base g b : Nat} {P : Nat → Prop} {S : St} (s : ByteArray) (hs : s.size ≤ 9223372036854775807) (a n : Int) (w : World) (H : Disk w base g b P S) (h0 : (fnd S s).2 ≠ 0) :
    Calls Try.prog 18 #[.pointer (some ⟨g, 0, none⟩), .string s, .int .i64 a, .int .i64 n] w fun e w' => e = .returned (.tuple #[.slice none 0 0, .int .i64 (fnd S s).2]) ∧ Below w.heap.size w w' := by
  have HF := find_any s hs w H
  obtain ⟨fa, fc, _, hval⟩ := fnd_val H s
  rw [hval] at HF
  generalize (fnd S s).2 = code at *
  generalize (fnd S s).1.zs.length = ln at *
  generalize (fnd S s).1.k = k at *
  have hc2 : (code == 0) = false := beq_eq_false_iff_ne.2 h0
  replace HF := hid HF
  clear H hval
  go_enter Try.func18, Try.ntmps18
  go_wp2_with fail
  refine HF.out.mono ?_
  rintro e w1 ⟨rfl, b1⟩
  have B1 := hid (b1.alloc b1.size (.cells #[.slice fa ln fc, .int .i64 (k : Int)] 83))
  clear b1
  go_wp2_with fail
  go_ret2
  exact ⟨rfl, B1.out⟩
set_option maxRecDepth 100000 in
set_option maxHeartbeats 2000000 in
theorem read_arg {base g b : Nat} {P : Nat → Prop} {S : St} (s : ByteArray) (hs : s.size ≤ 9223372036854775807) (p n : Int) (w : World) (H : Disk w base g b P S) (h0 : (fnd S s).2 = 0) (hN : rdN (fnd S s).1.zs.length p n = true) :
    Calls Try.prog 18 #[.pointer (some ⟨g, 0, none⟩), .string s, .int .i64 p, .int .i64 n] w fun e w' => e = .returned (.tuple #[.slice none 0 0, .int .i64 2]) ∧ Below w.heap.size w w' := by
  have HF := find_any s hs w H
  obtain ⟨fa, fc, _, hval⟩ := fnd_val H s
  rw [hval, h0] at HF
  generalize (fnd S s).1.zs.length = ln at *
  generalize (fnd S s).1.k = k at *
  replace HF := hid HF
  unfold rdN at hN
  simp only [Bool.or_eq_true, decide_eq_true_eq] at hN
  clear H hval h0
  obtain ⟨w0, hw0⟩ : ∃ x, x = w := ⟨_, rfl⟩
  have T : p < 0 ∨ (¬ p < 0 ∧ (ln : Int) < p) ∨ (¬ p < 0 ∧ ¬ (ln : Int) < p ∧ n < 0) := by omega
  replace hN := hid hN
  clear w0 hw0
  rcases T with i1 | ⟨i1, i2⟩ | ⟨i1, i2, i3⟩
  all_goals
    go_enter Try.func18, Try.ntmps18
    go_wp2_with fail
    refine HF.out.mono ?_
    rintro e w1 ⟨rfl, b1⟩
    have B1 := hid (b1.alloc b1.size (.cells #[.slice fa ln fc, .int .i64 (k : Int)] 83))
    clear b1
    go_wp2_with fail
    go_ret2
    exact ⟨rfl, B1.out⟩
set_option maxRecDepth 100000 in
set_option maxHeartbeats 2000000 in
theorem read_yes {base g b : Nat} {P : Nat → Prop} {S : St} (s : ByteArray) (hs : s.size ≤ 9223372036854775807) (p n : Int) (hnr : n ≤ 9223372036854775807) (w : World) (H : Disk w base g b P S) (h0 : (fnd S s).2 = 0) (hN : rdN (fnd S s).1.zs.length p n = false) :
    Calls Try.prog 18 #[.pointer (some ⟨g, 0, none⟩), .string s, .int .i64 p, .int .i64 n] w fun e w' => ∃ v, e = .returned (.tuple #[v, .int .i64 0]) ∧ w'.ownsRow w.heap.size 5 1 v (rdM (fnd S s).1.zs.length p n) ((((fnd S s).1.zs.drop p.toNat).take (rdM (fnd S s).1.zs.length p n)).map (Value.int .u8)) ∧ Below w.heap.size w w' := by
  have HF := hid (find_any s hs w H)
  obtain ⟨_, hsk⟩ := fnd_ok h0
  have hmem := seek_mem hsk
  have hu := used_le_len H hsk
  obtain ⟨a, c, hsl, HB⟩ := own_bytes (H.mem.row _ hmem) (H.mem.bytes _ hmem)
  simp only at hsl HB
  have hval : (fnd S s).1.val = .agg #[.slice a (fnd S s).1.zs.length c, .int .i64 (((fnd S s).1.k : Nat) : Int)] := by unfold Fl.val; rw [hsl]
  rw [hval, h0] at HF
  generalize (fnd S s).1.zs = zs at *
  generalize (fnd S s).1.k = k at *
  have hcap := HB.2.1
  generalize hn : zs.length = ln at *
  unfold rdN at hN
  simp only [Bool.or_eq_false_iff, decide_eq_false_iff_not] at hN
  obtain ⟨q, rfl⟩ : ∃ q : Nat, p = q := ⟨p.toNat, by omega⟩
  obtain ⟨m, hm⟩ : ∃ m, m = rdM ln (q : Int) n := ⟨_, rfl⟩
  have hmi : min n ((ln : Int) - (q : Int)) = (m : Int) := by rw [hm]; unfold rdM; omega
  have hqm : q + m ≤ ln := by omega
  rw [← hm]
  rw [Int.toNat_natCast]
  have i1 : ¬ (q : Int) < 0 := by omega
  have i2 : ¬ (ln : Int) < (q : Int) := by omega
  have i3 : ¬ n < 0 := by omega
  have w1' : IntKind.i64.wrap ((ln : Int) - (q : Int)) = (ln : Int) - (q : Int) := by rw [IntKind.wrap_i64]; omega
  have w2' : IntKind.i64.wrap ((q : Int) + (m : Int)) = (q : Int) + (m : Int) := by rw [IntKind.wrap_i64]; omega
  have hn2 : ln ≤ 268435456 := hu
  have i4 : (q : Int) ≤ (q : Int) + (m : Int) := by omega
  have i5 : (q : Int) + (m : Int) ≤ (c : Int) := by omega
  have i6 : ((q : Int) + (m : Int) - (q : Int)).toNat = m := by omega
  have i7 : ((q : Int) + (m : Int)).toNat = q + m := by omega
  replace hm := hid hm
  replace HB := hid HB
  replace hn := hid hn
  clear H hsk hmem hsl hval h0 hN
  go_enter Try.func18, Try.ntmps18
  go_wp2_with fail
  refine HF.out.mono ?_
  rintro e w1 ⟨rfl, b1⟩
  have HB1 := hid (bytes_kept HB.out (b1.trans ((box_below w1 (.cells #[.slice a ln c, .int .i64 (k : Int)] 83)).mono b1.size)))
  have B1 := hid (b1.alloc b1.size (.cells #[.slice a ln c, .int .i64 (k : Int)] 83))
  replace b1 := hid b1
  cases a with
  | none =>
    obtain ⟨rfl, rfl⟩ := HB.out.2.2.1 rfl
    obtain rfl : q = 0 := by omega
    obtain rfl : m = 0 := by omega
    have hz : min n 0 = 0 := by omega
    go_wp2_with fail
    refine (clone_bytes none 0 0 [] _ (nil_bytes _) (by omega)).mono ?_
    rintro e w2 ⟨v, rfl, o2, b2⟩
    have o3 := hid (own_base o2 B1.out.size)
    have B2 := hid (B1.out.trans (b2.mono B1.out.size))
    go_wp2_with fail
    go_ret2
    refine ⟨v, rfl, ?_, B2.out⟩
    simpa using o3.out
  | some ad =>
    have SB := hid (sub_bytes HB1.out q m hqm)
    by_cases hcq : c = q
    · rw [if_pos hcq] at SB
      subst hcq
      rw [Nat.sub_self] at SB
      go_wp2_with fail
      all_goals
        refine (clone_bytes (some ad) m 0 _ _ SB.out (by omega)).mono ?_
        rintro e w2 ⟨v, rfl, o2, b2⟩
        have o3 := hid (own_base o2 B1.out.size)
        have B2 := hid (B1.out.trans (b2.mono B1.out.size))
        go_wp2_with fail
        go_ret2
        exact ⟨v, rfl, o3.out, B2.out⟩
    · rw [if_neg hcq] at SB
      have hcq2 : ¬ q = c := fun e => hcq e.symm
      go_wp2_with fail
      all_goals
        refine (clone_bytes (some (ad.add q)) m (c - q) _ _ SB.out (by omega)).mono ?_
        rintro e w2 ⟨v, rfl, o2, b2⟩
        have o3 := hid (own_base o2 B1.out.size)
        have B2 := hid (B1.out.trans (b2.mono B1.out.size))
        go_wp2_with fail
        go_ret2
        exact ⟨v, rfl, o3.out, B2.out⟩
theorem read_any {base g b : Nat} {P : Nat → Prop} {S : St} (s : ByteArray) (hs : s.size ≤ 9223372036854775807) (p n : Int) (hnr : n ≤ 9223372036854775807) (w : World) (H : Disk w base g b P S) :
    Calls Try.prog 18 #[.pointer (some ⟨g, 0, none⟩), .string s, .int .i64 p, .int .i64 n] w fun e w' => ∃ v, e = .returned (.tuple #[v, .int .i64 (rdZ S s p n).2]) ∧ w'.ownsRow w.heap.size 5 1 v (rdZ S s p n).1.length ((rdZ S s p n).1.map (Value.int .u8)) ∧ Below w.heap.size w w' := by
  unfold rdZ
  by_cases h0 : (fnd S s).2 = 0
  · rw [if_neg (by simpa using h0)]
    cases hN : rdN (fnd S s).1.zs.length p n with
    | true =>
      rw [if_pos rfl]
      exact (read_arg s hs p n w H h0 hN).mono fun e w' h => ⟨_, h.1, World.ownsRow_nil _ _ _ _, h.2⟩
    | false =>
      rw [if_neg (by simp)]
      have hl : (((fnd S s).1.zs.drop p.toNat).take (rdM (fnd S s).1.zs.length p n)).length = rdM (fnd S s).1.zs.length p n := by
        unfold rdN at hN
        simp only [Bool.or_eq_false_iff, decide_eq_false_iff_not] at hN
        rw [List.length_take, List.length_drop]; unfold rdM; omega
      dsimp only
      rw [hl]
      exact read_yes s hs p n hnr w H h0 hN
  · rw [if_pos (by simpa using h0)]
    exact (read_no s hs p n w H h0).mono fun e w' h => ⟨_, h.1, World.ownsRow_nil _ _ _ _, h.2⟩
end Go.Proofs.Ytgffojafdjcdoaa.Qi

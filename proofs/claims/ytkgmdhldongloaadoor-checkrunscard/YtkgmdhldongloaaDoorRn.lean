/- Contracts of a Running: what each of its calls answers, for all that it has had, and what it writes. -/
import Derived.Test.YtkgmdhldongloaaDoorZc
import Derived.RegionTactic
import Derived.BigRegion
namespace Go.Proofs.YtkgmdhldongloaaDoor.Rn
open Go.ChangeShapes Go.WideShapes Go.ChangeAt Go.RowKit
open Go.Proofs.YtkgmdhldongloaaDoor.Crc
open Go.Proofs.YtkgmdhldongloaaDoor.Ck
open Go.Proofs.YtkgmdhldongloaaDoor.Lm (grown_set tab_later after_any)
set_option linter.unusedVariables false

/-! ### A text's bytes -/
def tx (s : ByteArray) : List Int := s.data.toList.map fun b => (b.toNat : Int)
theorem tx_len (s : ByteArray) : (tx s).length = s.size := by unfold tx; rw [List.length_map]; rfl
theorem tx_get (s : ByteArray) (k : Nat) (h : k < s.size) : (tx s).getD k 0 = ((s[k]'h).toNat : Int) := by
  have hd : k < s.data.size := h
  rw [List.getD_eq_getElem?_getD, tx, List.getElem?_map, Array.getElem?_toList, Array.getElem?_eq_getElem hd]
  rfl
theorem tx_bytes (s : ByteArray) : ∀ y ∈ tx s, 0 ≤ y ∧ y ≤ 255 := by
  intro y hy
  obtain ⟨b, _, rfl⟩ := List.mem_map.1 hy
  have := b.toNat_lt
  omega
theorem str_data (zs : List Int) (r : ByteArray) : (zs.foldl (fun r n => r.push (UInt8.ofNat n.toNat)) r).data.toList = r.data.toList ++ zs.map (fun n => UInt8.ofNat n.toNat) := by
  induction zs generalizing r with
  | nil => simp
  | cons z t ih => simp only [List.foldl_cons]; rw [ih]; simp
theorem back_map (zs : List Int) (h : ∀ y ∈ zs, 0 ≤ y ∧ y ≤ 255) : (zs.map fun n => UInt8.ofNat n.toNat).map (fun b => (b.toNat : Int)) = zs := by
  induction zs with
  | nil => rfl
  | cons z t ih =>
    have hz := h z (List.mem_cons_self ..)
    rw [List.map_cons, List.map_cons, ih (fun y hy => h y (List.mem_cons_of_mem _ hy))]
    congr 1
    rw [UInt8.toNat_ofNat', Nat.mod_eq_of_lt (show z.toNat < 2 ^ 8 by omega)]
    omega
theorem tx_str (zs : List Int) (h : ∀ y ∈ zs, 0 ≤ y ∧ y ≤ 255) : tx (str zs) = zs := by
  unfold tx str
  rw [str_data]
  exact back_map zs h
theorem str_size (zs : List Int) (h : ∀ y ∈ zs, 0 ≤ y ∧ y ≤ 255) : (str zs).size = zs.length := by
  rw [← tx_len, tx_str zs h]

set_option maxHeartbeats 1000000 in
theorem extS_any (x : BitVec 32) (s : ByteArray) (w : World) (T : Hid (Tab w)) (hm : s.size ≤ 281474976710656) :
    Calls Tryd.prog 52 #[.int .u32 (toI x), .string s] w fun e w' => e = .returned (.int .u32 (toI (extend x (tx s)))) ∧ w' = w := by
  have N := not_w x
  have S := sgn
  have HL := hid (tx_len s)
  go_enter Tryd.func52, Tryd.ntmps52
  go_wp2
  clear N
  go_loop [5, 11] (fun r i => ∃ k : Nat, k ≤ s.size ∧ i = .int .i64 k ∧ r = .int .u32 (toI (over (~~~x) ((tx s).take k)))) (fun _ i => s.size - (intOf i).toNat)
  case atStart => exact ⟨0, Nat.zero_le _, rfl, rfl⟩
  case round =>
    obtain ⟨k, hk, rfl, rfl⟩ := hrel
    by_cases hlt : k < s.size
    · have hb : 0 ≤ (tx s).getD k 0 ∧ (tx s).getD k 0 ≤ 255 := by
        rw [List.getD_eq_getElem?_getD, List.getElem?_eq_getElem (by rw [tx_len]; exact hlt)]
        exact tx_bytes s _ (List.getElem_mem _)
      obtain ⟨r1, hr1⟩ : ∃ r1, Hid (r1 = over (~~~x) ((tx s).take (k + 1))) := ⟨_, rfl⟩
      have E : Hid (shiftZ 8 (over (~~~x) ((tx s).take k) ^^^ BitVec.ofNat 32 ((tx s).getD k 0).toNat) = r1) := by
        show _ = _
        rw [byte_step _ _ hb, hr1.out, over_take _ _ _ (by rw [tx_len]; exact hlt)]
      have X : Hid (bits .xor .u32 (toI (over (~~~x) ((tx s).take k))) (((s[k]'hlt).toNat : Int) % 4294967296) = toI (over (~~~x) ((tx s).take k) ^^^ BitVec.ofNat 32 ((tx s).getD k 0).toNat)) := by
        show _ = _
        rw [← xor_byte _ _ hb, tx_get s k hlt]
        congr 1
        have := (s[k]'hlt).toNat_lt
        omega
      clear hb
      generalize over (~~~x) ((tx s).take k) = r0 at E X ⊢
      generalize BitVec.ofNat 32 ((tx s).getD k 0).toNat = q at E X
      go_wp2_with fail
      rw [X.out]
      refine (afterNought_any _ _ T).mono ?_
      rintro e w' ⟨rfl, rfl⟩
      rw [E.out]
      go_wp2_with fail
      go_round
      case rel => exact ⟨k + 1, by omega, by go_num, by rw [hr1.out]⟩
      case measure => simp [intOf]; omega
    · have : k = s.size := by omega
      subst this
      have hz : (tx s).take s.size = tx s := List.take_of_length_le (by rw [tx_len]; exact Nat.le_refl _)
      rw [hz]
      have N := not_w (over (~~~x) (tx s))
      go_wp2
      go_ret
      exact ⟨rfl, rfl⟩

/-! ### A Running in memory -/
def At (W : World) (r : Nat) (s : BitVec 32) (n : Int) : Prop := W.heap[r]? = some (.cells #[.bool true, .int .u32 (toI s), .int .i64 n] 54 (0, 0))
theorem At.c0 {W : World} {r : Nat} {s : BitVec 32} {n : Int} (h : At W r s n) : W.cell? ⟨r, 0, none⟩ = some (.bool true) := by
  simp [World.cell?, show W.heap[r]? = _ from h]
theorem At.c1 {W : World} {r : Nat} {s : BitVec 32} {n : Int} (h : At W r s n) : W.cell? ⟨r, 0 + 1, none⟩ = some (.int .u32 (toI s)) := by
  simp [World.cell?, show W.heap[r]? = _ from h]
theorem At.c2 {W : World} {r : Nat} {s : BitVec 32} {n : Int} (h : At W r s n) : W.cell? ⟨r, 0 + 2, none⟩ = some (.int .i64 n) := by
  simp [World.cell?, show W.heap[r]? = _ from h]
theorem At.fz {W : World} {r : Nat} {s : BitVec 32} {n : Int} (h : At W r s n) (o : Nat) : W.frozen? ⟨r, o, none⟩ = false := by
  simp [World.frozen?, show W.heap[r]? = _ from h]
theorem At.lt {W : World} {r : Nat} {s : BitVec 32} {n : Int} (h : At W r s n) : r < W.heap.size := (Array.getElem?_eq_some_iff.1 h).1
theorem At.set1 {W : World} {r : Nat} {s : BitVec 32} {n : Int} (h : At W r s n) (x : BitVec 32) : At (W.setCell ⟨r, 1, none⟩ (.int .u32 (toI x))) r x n ∧ W.grownBy (W.setCell ⟨r, 1, none⟩ (.int .u32 (toI x))) (some r) := by
  refine ⟨?_, grown_set W r 1 _⟩
  unfold At at h ⊢
  simp [World.setCell, Array.getElem?_modify, h]
theorem At.set2 {W : World} {r : Nat} {s : BitVec 32} {n : Int} (h : At W r s n) (x : Int) : At (W.setCell ⟨r, 2, none⟩ (.int .i64 x)) r s x ∧ W.grownBy (W.setCell ⟨r, 2, none⟩ (.int .i64 x)) (some r) := by
  refine ⟨?_, grown_set W r 2 _⟩
  unfold At at h ⊢
  simp [World.setCell, Array.getElem?_modify, h]
theorem At.kept {W W' : World} {r : Nat} {s : BitVec 32} {n : Int} {row : Option Nat} (h : At W r s n) (k : W.grownBy W' row) (hne : some r ≠ row) : At W' r s n := by
  unfold At
  rw [k.block r h.lt hne]
  exact h
theorem below_grown {W W' : World} (b : Below W.heap.size W W') : W.grownBy W' none := ⟨b.os, b.tape, b.output, b.size, fun k hk _ => b.block k hk⟩
theorem grown_drew (W : World) {row : Option Nat} : W.grownBy W.drew row := ⟨rfl, rfl, rfl, Nat.le_refl _, fun _ _ _ => rfl⟩
theorem set1_other {W : World} {o : Nat} {v : Value} (h : W.cell? ⟨o, 0 + 2, none⟩ = some v) (r : Nat) (X : BitVec 32) : (W.setCell ⟨r, 1, none⟩ (.int .u32 (toI X))).cell? ⟨o, 0 + 2, none⟩ = some v := by
  rw [World.cell?_setCell_other _ _ _ _ (by simp)]
  exact h

theorem New_any (w : World) : Calls Tryd.prog 21 #[] w fun e w' => e = .returned (.pointer (some ⟨w.heap.size, 0, none⟩)) ∧ At w' w.heap.size 0#32 0 ∧ Below w.heap.size w w' := by
  have B : Hid (Below w.heap.size w (w.alloc (.cells #[.bool true, .int .u32 0, .int .i64 0] 54))) := (Below.refl _ _).alloc (Nat.le_refl _) _
  have A : Hid (At (w.alloc (.cells #[.bool true, .int .u32 0, .int .i64 0] 54)) w.heap.size 0#32 0) := by
    show (w.heap.push _)[w.heap.size]? = _
    simp [toI]
  go_enter Tryd.func21, Tryd.ntmps21
  go_wp2
  go_ret
  exact ⟨rfl, A.out, B.out⟩
theorem isNone_at (r : Nat) (s : BitVec 32) (n : Int) (w : World) (A : Hid (At w r s n)) : Calls Tryd.prog 40 #[.pointer (some ⟨r, 0, none⟩)] w fun e w' => e = .returned (.bool false) ∧ w' = w := by
  have c0 := A.out.c0
  go_enter Tryd.func40, Tryd.ntmps40
  go_wp2
  go_ret
  exact ⟨rfl, rfl⟩
theorem isFull_any (r : Nat) (s : BitVec 32) (n more : Int) (w : World) (A : Hid (At w r s n)) (hn : 0 ≤ n ∧ n ≤ 9007199254740992) : Calls Tryd.prog 43 #[.pointer (some ⟨r, 0, none⟩), .int .i64 more] w fun e w' => e = .returned (.bool (decide (9007199254740992 - n < more))) ∧ w' = w := by
  have c2 := A.out.c2
  go_enter Tryd.func43, Tryd.ntmps43
  go_wp2
  go_ret
  exact ⟨rfl, rfl⟩
theorem Sum_at (r : Nat) (s : BitVec 32) (n : Int) (w : World) (A : Hid (At w r s n)) : Calls Tryd.prog 28 #[.pointer (some ⟨r, 0, none⟩)] w fun e w' => e = .returned (.int .u32 (toI s)) ∧ w' = w := by
  have c1 := A.out.c1
  go_enter Tryd.func28, Tryd.ntmps28
  go_wp2_with fail
  refine (isNone_at r s n _ A).mono ?_
  rintro e w' ⟨rfl, rfl⟩
  go_wp2
  go_ret
  exact ⟨rfl, rfl⟩
theorem Len_at (r : Nat) (s : BitVec 32) (n : Int) (w : World) (A : Hid (At w r s n)) : Calls Tryd.prog 30 #[.pointer (some ⟨r, 0, none⟩)] w fun e w' => e = .returned (.int .i64 n) ∧ w' = w := by
  have c2 := A.out.c2
  go_enter Tryd.func30, Tryd.ntmps30
  go_wp2_with fail
  refine (isNone_at r s n _ A).mono ?_
  rintro e w' ⟨rfl, rfl⟩
  go_wp2
  go_ret
  exact ⟨rfl, rfl⟩

set_option maxHeartbeats 2000000 in
theorem addB_ok (r : Nat) (s : BitVec 32) (n : Int) (a : Option Addr) (len cap : Nat) (zs : List Int) (W : World) (A : Hid (At W r s n)) (T : Hid (Tab W)) (H : Hid (Bytes W a len cap zs)) (hn : 0 ≤ n) (hs : n + len ≤ 9007199254740992) (hm : len ≤ 281474976710656) :
    Calls Tryd.prog 41 #[.pointer (some ⟨r, 0, none⟩), .slice a len cap] W fun e W' => e = .returned (.int .i64 0) ∧ At W' r (extend s zs) (n + len) ∧ W.grownBy W' (some r) := by
  have c1 := A.out.c1
  have f1 := A.out.fz (0 + 1)
  obtain ⟨X, HX⟩ : ∃ X, Hid (X = extend s zs) := ⟨_, rfl⟩
  have A6 := A.out.set1 X
  have c62 := A6.1.c2
  have f62 := A6.1.fz (0 + 2)
  have HA6 := hid A6.1
  have G6 := hid A6.2
  have D : decide (9007199254740992 - n < (len : Int)) = false := by simp; omega
  clear A6
  rw [← HX.out]
  go_enter Tryd.func41, Tryd.ntmps41
  go_wp2_with fail
  refine (isNone_at r s n _ A).mono ?_
  rintro e W ⟨rfl, rfl⟩
  go_wp2_with fail
  refine (isFull_any r s n len _ A (by omega)).mono ?_
  rintro e W ⟨rfl, rfl⟩
  rw [D]
  go_wp2_with fail
  refine (extended_any s a len cap zs _ T H.out hm).mono ?_
  rintro e W ⟨rfl, rfl⟩
  rw [← HX.out]
  generalize hW6 : W.setCell ⟨r, 1, none⟩ (.int .u32 (toI X)) = W6 at c62 f62 HA6 G6
  have hW7 : W.setCell ⟨r, 0 + 1, none⟩ (.int .u32 (toI X)) = W6 := hW6
  go_wp2_with fail
  have A7 := HA6.out.set2 (n + len)
  have HA7 := hid A7.1
  have G7 := hid (grown_trans G6.out A7.2)
  clear A7
  go_ret
  exact ⟨rfl, HA7.out, G7.out⟩
theorem addB_big (r : Nat) (s : BitVec 32) (n : Int) (a : Option Addr) (len cap : Nat) (W : World) (A : Hid (At W r s n)) (hn : 0 ≤ n ∧ n ≤ 9007199254740992) (hs : ¬ n + len ≤ 9007199254740992) :
    Calls Tryd.prog 41 #[.pointer (some ⟨r, 0, none⟩), .slice a len cap] W fun e W' => e = .returned (.int .i64 3) ∧ W' = W := by
  have D : decide (9007199254740992 - n < (len : Int)) = true := by simp; omega
  go_enter Tryd.func41, Tryd.ntmps41
  go_wp2_with fail
  refine (isNone_at r s n _ A).mono ?_
  rintro e W ⟨rfl, rfl⟩
  go_wp2_with fail
  refine (isFull_any r s n len _ A hn).mono ?_
  rintro e W ⟨rfl, rfl⟩
  rw [D]
  go_wp2_with fail
  go_ret
  exact ⟨rfl, rfl⟩
set_option maxHeartbeats 2000000 in
theorem addS_ok (r : Nat) (s : BitVec 32) (n : Int) (q : ByteArray) (W : World) (A : Hid (At W r s n)) (T : Hid (Tab W)) (hn : 0 ≤ n) (hs : n + q.size ≤ 9007199254740992) (hm : q.size ≤ 281474976710656) :
    Calls Tryd.prog 42 #[.pointer (some ⟨r, 0, none⟩), .string q] W fun e W' => e = .returned (.int .i64 0) ∧ At W' r (extend s (tx q)) (n + q.size) ∧ W.grownBy W' (some r) := by
  have c1 := A.out.c1
  have f1 := A.out.fz (0 + 1)
  obtain ⟨X, HX⟩ : ∃ X, Hid (X = extend s (tx q)) := ⟨_, rfl⟩
  have A6 := A.out.set1 X
  have c62 := A6.1.c2
  have f62 := A6.1.fz (0 + 2)
  have HA6 := hid A6.1
  have G6 := hid A6.2
  have D : decide (9007199254740992 - n < (q.size : Int)) = false := by simp; omega
  clear A6
  rw [← HX.out]
  go_enter Tryd.func42, Tryd.ntmps42
  go_wp2_with fail
  refine (isNone_at r s n _ A).mono ?_
  rintro e W ⟨rfl, rfl⟩
  go_wp2_with fail
  refine (isFull_any r s n q.size _ A (by omega)).mono ?_
  rintro e W ⟨rfl, rfl⟩
  rw [D]
  go_wp2_with fail
  refine (extS_any s q _ T hm).mono ?_
  rintro e W ⟨rfl, rfl⟩
  rw [← HX.out]
  generalize hW6 : W.setCell ⟨r, 1, none⟩ (.int .u32 (toI X)) = W6 at c62 f62 HA6 G6
  have hW7 : W.setCell ⟨r, 0 + 1, none⟩ (.int .u32 (toI X)) = W6 := hW6
  go_wp2_with fail
  have A7 := HA6.out.set2 (n + q.size)
  have HA7 := hid A7.1
  have G7 := hid (grown_trans G6.out A7.2)
  clear A7
  go_ret
  exact ⟨rfl, HA7.out, G7.out⟩
theorem addS_big (r : Nat) (s : BitVec 32) (n : Int) (q : ByteArray) (W : World) (A : Hid (At W r s n)) (hn : 0 ≤ n ∧ n ≤ 9007199254740992) (hs : ¬ n + q.size ≤ 9007199254740992) :
    Calls Tryd.prog 42 #[.pointer (some ⟨r, 0, none⟩), .string q] W fun e W' => e = .returned (.int .i64 3) ∧ W' = W := by
  have D : decide (9007199254740992 - n < (q.size : Int)) = true := by simp; omega
  go_enter Tryd.func42, Tryd.ntmps42
  go_wp2_with fail
  refine (isNone_at r s n _ A).mono ?_
  rintro e W ⟨rfl, rfl⟩
  go_wp2_with fail
  refine (isFull_any r s n q.size _ A hn).mono ?_
  rintro e W ⟨rfl, rfl⟩
  rw [D]
  go_wp2_with fail
  go_ret
  exact ⟨rfl, rfl⟩

set_option maxHeartbeats 16000000 in
set_option maxRecDepth 100000 in
theorem Join_ok (r o : Nat) (s s2 : BitVec 32) (n m : Nat) (W : World) (A : Hid (At W r s n)) (O : Hid (At W o s2 m)) (T : Hid (Tab W)) (hs : n + m ≤ 9007199254740992) :
    Calls Tryd.prog 27 #[.pointer (some ⟨r, 0, none⟩), .pointer (some ⟨o, 0, none⟩)] W fun e W' => e = .returned (.int .i64 0) ∧ At W' r (shiftZ (8 * m) s ^^^ s2) ((n : Int) + m) ∧ W.grownBy W' (some r) := by
  have D : decide (9007199254740992 - (n : Int) < (m : Int)) = false := by simp; omega
  obtain ⟨X, HX⟩ : ∃ X, Hid (X = shiftZ (8 * m) s ^^^ s2) := ⟨_, rfl⟩
  have XE : Hid (bits .xor .u32 (toI (shiftZ (8 * m) s)) (toI s2) = toI X) := by show _ = _; rw [xor_i, HX.out]
  rw [← HX.out]
  have o2 := O.out.c2
  go_enter Tryd.func27, Tryd.ntmps27
  go_wp2_with fail
  refine (isNone_at r s n _ A).mono ?_
  rintro e W ⟨rfl, rfl⟩
  go_wp2_with fail
  refine (isNone_at o s2 m _ O).mono ?_
  rintro e W ⟨rfl, rfl⟩
  go_wp2_with fail
  refine (isFull_any r s n m _ A (by omega)).mono ?_
  rintro e W ⟨rfl, rfl⟩
  rw [D]
  have AD : Hid (At W.drew r s n) := A
  have OD : Hid (At W.drew o s2 m) := O
  have TD : Hid (Tab W.drew) := T
  have d1 := AD.out.c1
  have d2 := OD.out.c2
  have d3 := OD.out.c1
  clear o2 D
  go_wp2_with fail
  refine wp_region_any (by kernel_rfl) ?_
  change wpAny _ _ _ _ _ _ _ (World.drew _)
  refine wpAny_take (i := 0) (v := ?v1) rfl (by kernel_rfl) (by kernel_rfl) (by kernel_rfl) (fun _ _ _ h => h) (Or.inl ⟨by rfl, ?h1⟩) ?_
  case h1 => (intro w; go_simp; try (with_reducible rfl))
  go_simp
  refine wpAny_take (i := 1) (v := ?v2) rfl (by kernel_rfl) (by kernel_rfl) (by kernel_rfl) (fun _ _ _ h => h) (Or.inl ⟨by rfl, ?h2⟩) ?_
  case h2 => (intro w; go_simp; try (with_reducible rfl))
  go_simp
  refine wpAny_take (i := 2) (v := ?v3) rfl (by kernel_rfl) (by kernel_rfl) (by kernel_rfl) (fun _ _ _ h => h) (Or.inl ⟨by rfl, ?h3⟩) ?_
  case h3 => (intro w; go_simp; try (with_reducible rfl))
  go_simp
  refine wpAny_take (i := 3) (v := ?v4) rfl (by kernel_rfl) (by kernel_rfl) (by kernel_rfl) (fun _ _ _ h => h) (Or.inl ⟨by rfl, ?h4⟩) ?_
  case h4 => (intro w; go_simp; try (with_reducible rfl))
  go_simp
  refine wpAny_take (i := 5) (v := ?v5) rfl (by kernel_rfl) (by kernel_rfl) (by kernel_rfl) (fun _ _ _ h => h) (Or.inl ⟨by rfl, ?h5⟩) ?_
  case h5 => (intro w; go_simp; try (with_reducible rfl))
  go_simp
  refine wpAny_take (i := 6) (v := ?v6) rfl (by kernel_rfl) (by kernel_rfl) (by kernel_rfl) (fun _ _ _ h => h) (Or.inl ⟨by rfl, ?h6⟩) ?_
  case h6 => (intro w; go_simp; try (with_reducible rfl))
  go_simp
  refine wpAny_take (i := 7) (v := ?v7) rfl (by kernel_rfl) (by kernel_rfl) (by kernel_rfl) (fun _ _ _ h => h) (Or.inl ⟨by rfl, ?h7⟩) ?_
  case h7 => (intro w; go_simp; try (with_reducible rfl))
  go_simp
  refine wpAny_take (i := 10) (v := ?v8) rfl (by kernel_rfl) (by kernel_rfl) (by kernel_rfl) (fun _ _ _ h => h) (Or.inl ⟨by rfl, ?h8⟩) ?_
  case h8 => (intro w; go_simp; try (with_reducible rfl))
  go_simp
  refine wpAny_take (i := 11) (v := ?v9) rfl (by kernel_rfl) (by kernel_rfl) (by kernel_rfl) (fun _ _ _ h => h) (Or.inl ⟨by rfl, ?h9⟩) ?_
  case h9 => (intro w; go_simp; try (with_reducible rfl))
  go_simp
  refine wpAny_take (i := 12) (v := ?v10) rfl (by kernel_rfl) (by kernel_rfl) (by kernel_rfl) (fun _ _ _ h => h) (Or.inl ⟨by rfl, ?h10⟩) ?_
  case h10 => (intro w; go_simp; try (with_reducible rfl))
  go_simp
  refine wpAny_ready (rs := [4, 8, 13]) (by kernel_rfl) (by simp) ?_
  refine AllReady.cons rfl (fun K hK => ?_) ?_
  · go_simp
    refine hK _ _ ?_
    clear hK K
    refine wpAny_ready (rs := [8, 13]) (by kernel_rfl) (by simp) ?_
    refine AllReady.cons rfl (fun K hK => ?_) ?_
    · go_simp
      refine hK _ _ ?_
      clear hK K
      refine wpAny_ready (rs := [9, 13]) (by kernel_rfl) (by simp) ?_
      refine AllReady.cons rfl (fun K hK => ?_) ?_
      · go_simp
        go_wp2_with fail
        refine (after_any s m W.drew TD (by omega)).mono ?_
        rintro e W5 ⟨rfl, b5⟩
        have A5 := hid (AD.out.kept (below_grown b5) (by simp))
        have O5 := hid (OD.out.kept (below_grown b5) (by simp))
        have G5 := hid (grown_trans (grown_none (below_grown b5)) (World.grownBy.refl W5 (some r)))
        have o51 := O5.out.c1
        have a51 := A5.out.c1
        have f51 := A5.out.fz (0 + 1)
        clear b5
        go_wp2_with fail
        refine wpAny_ready (rs := [13]) (by kernel_rfl) (by simp) ?_
        refine AllReady.cons rfl (fun K hK => ?_) ?_
        · go_simp
          refine hK _ _ ?_
          clear hK K
          refine wpAny_take (i := 14) (v := ?v11) rfl (by kernel_rfl) (by kernel_rfl) (by kernel_rfl) (fun _ _ _ h => h) (Or.inl ⟨by rfl, ?h11⟩) ?_
          case h11 => (intro w; go_simp; try (with_reducible rfl))
          go_simp
          refine wpAny_take (i := 15) (v := ?v12) rfl (by kernel_rfl) (by kernel_rfl) (by kernel_rfl) (fun _ _ _ h => h) (Or.inl ⟨by rfl, ?h12⟩) ?_
          case h12 => (intro w; go_simp; try (with_reducible rfl))
          go_simp
          refine wpAny_take (i := 16) (v := ?v13) rfl (by kernel_rfl) (by kernel_rfl) (by kernel_rfl) (fun _ _ _ h => h) (Or.inl ⟨by rfl, ?h13⟩) ?_
          case h13 => (intro w; go_simp; try (with_reducible rfl))
          go_simp
          refine wpAny_ready (rs := [17]) (by kernel_rfl) (by simp) ?_
          refine AllReady.cons rfl (fun K hK => ?_) ?_
          · go_simp
            refine hK _ _ ?_
            clear hK K
            refine wpAny_done (by kernel_rfl) ?_ _
            rw [XE.out]
            have A6 := A5.out.set1 X
            have G6 := hid (grown_trans (grown_none (row := some r) (grown_drew W)) (grown_trans G5.out A6.2))
            have c62 := A6.1.c2
            have f62 := A6.1.fz (0 + 2)
            have o62 := set1_other (O5.out.c2) r X
            have HA6 := hid A6.1
            clear A6 A5 O5 G5 o51 a51 f51
            generalize W5.setCell ⟨r, 1, none⟩ (.int .u32 (toI X)) = W6 at c62 f62 o62 HA6 G6 ⊢
            go_wp2_with fail
            go_region
            have A7 := HA6.out.set2 (n + m)
            have G7 := hid (grown_trans G6.out (grown_trans A7.2 (grown_drew _)))
            have HA7 := hid A7.1
            clear A7
            go_wp2_with fail
            go_ret
            exact ⟨rfl, HA7.out, G7.out⟩
          exact AllReady.nil
        exact AllReady.nil
      refine AllReady.cons rfl (fun K hK => ?_) ?_
      · go_simp
        refine hK _ _ ?_
        clear hK K
        refine wpAny_ready (rs := [9]) (by kernel_rfl) (by simp) ?_
        refine AllReady.cons rfl (fun K hK => ?_) ?_
        · go_simp
          go_wp2_with fail
          refine (after_any s m W.drew TD (by omega)).mono ?_
          rintro e W5 ⟨rfl, b5⟩
          have A5 := hid (AD.out.kept (below_grown b5) (by simp))
          have O5 := hid (OD.out.kept (below_grown b5) (by simp))
          have G5 := hid (grown_trans (grown_none (below_grown b5)) (World.grownBy.refl W5 (some r)))
          have o51 := O5.out.c1
          have a51 := A5.out.c1
          have f51 := A5.out.fz (0 + 1)
          clear b5
          go_wp2_with fail
          refine wpAny_take (i := 14) (v := ?v14) rfl (by kernel_rfl) (by kernel_rfl) (by kernel_rfl) (fun _ _ _ h => h) (Or.inl ⟨by rfl, ?h14⟩) ?_
          case h14 => (intro w; go_simp; try (with_reducible rfl))
          go_simp
          refine wpAny_take (i := 15) (v := ?v15) rfl (by kernel_rfl) (by kernel_rfl) (by kernel_rfl) (fun _ _ _ h => h) (Or.inl ⟨by rfl, ?h15⟩) ?_
          case h15 => (intro w; go_simp; try (with_reducible rfl))
          go_simp
          refine wpAny_take (i := 16) (v := ?v16) rfl (by kernel_rfl) (by kernel_rfl) (by kernel_rfl) (fun _ _ _ h => h) (Or.inl ⟨by rfl, ?h16⟩) ?_
          case h16 => (intro w; go_simp; try (with_reducible rfl))
          go_simp
          refine wpAny_ready (rs := [17]) (by kernel_rfl) (by simp) ?_
          refine AllReady.cons rfl (fun K hK => ?_) ?_
          · go_simp
            refine hK _ _ ?_
            clear hK K
            refine wpAny_done (by kernel_rfl) ?_ _
            rw [XE.out]
            have A6 := A5.out.set1 X
            have G6 := hid (grown_trans (grown_none (row := some r) (grown_drew W)) (grown_trans G5.out A6.2))
            have c62 := A6.1.c2
            have f62 := A6.1.fz (0 + 2)
            have o62 := set1_other (O5.out.c2) r X
            have HA6 := hid A6.1
            clear A6 A5 O5 G5 o51 a51 f51
            generalize W5.setCell ⟨r, 1, none⟩ (.int .u32 (toI X)) = W6 at c62 f62 o62 HA6 G6 ⊢
            go_wp2_with fail
            go_region
            have A7 := HA6.out.set2 (n + m)
            have G7 := hid (grown_trans G6.out (grown_trans A7.2 (grown_drew _)))
            have HA7 := hid A7.1
            clear A7
            go_wp2_with fail
            go_ret
            exact ⟨rfl, HA7.out, G7.out⟩
          exact AllReady.nil
        exact AllReady.nil
      exact AllReady.nil
    refine AllReady.cons rfl (fun K hK => ?_) ?_
    · go_simp
      refine hK _ _ ?_
      clear hK K
      refine wpAny_ready (rs := [8]) (by kernel_rfl) (by simp) ?_
      refine AllReady.cons rfl (fun K hK => ?_) ?_
      · go_simp
        refine hK _ _ ?_
        clear hK K
        refine wpAny_ready (rs := [9]) (by kernel_rfl) (by simp) ?_
        refine AllReady.cons rfl (fun K hK => ?_) ?_
        · go_simp
          go_wp2_with fail
          refine (after_any s m W.drew TD (by omega)).mono ?_
          rintro e W5 ⟨rfl, b5⟩
          have A5 := hid (AD.out.kept (below_grown b5) (by simp))
          have O5 := hid (OD.out.kept (below_grown b5) (by simp))
          have G5 := hid (grown_trans (grown_none (below_grown b5)) (World.grownBy.refl W5 (some r)))
          have o51 := O5.out.c1
          have a51 := A5.out.c1
          have f51 := A5.out.fz (0 + 1)
          clear b5
          go_wp2_with fail
          refine wpAny_take (i := 14) (v := ?v17) rfl (by kernel_rfl) (by kernel_rfl) (by kernel_rfl) (fun _ _ _ h => h) (Or.inl ⟨by rfl, ?h17⟩) ?_
          case h17 => (intro w; go_simp; try (with_reducible rfl))
          go_simp
          refine wpAny_take (i := 15) (v := ?v18) rfl (by kernel_rfl) (by kernel_rfl) (by kernel_rfl) (fun _ _ _ h => h) (Or.inl ⟨by rfl, ?h18⟩) ?_
          case h18 => (intro w; go_simp; try (with_reducible rfl))
          go_simp
          refine wpAny_take (i := 16) (v := ?v19) rfl (by kernel_rfl) (by kernel_rfl) (by kernel_rfl) (fun _ _ _ h => h) (Or.inl ⟨by rfl, ?h19⟩) ?_
          case h19 => (intro w; go_simp; try (with_reducible rfl))
          go_simp
          refine wpAny_ready (rs := [17]) (by kernel_rfl) (by simp) ?_
          refine AllReady.cons rfl (fun K hK => ?_) ?_
          · go_simp
            refine hK _ _ ?_
            clear hK K
            refine wpAny_done (by kernel_rfl) ?_ _
            rw [XE.out]
            have A6 := A5.out.set1 X
            have G6 := hid (grown_trans (grown_none (row := some r) (grown_drew W)) (grown_trans G5.out A6.2))
            have c62 := A6.1.c2
            have f62 := A6.1.fz (0 + 2)
            have o62 := set1_other (O5.out.c2) r X
            have HA6 := hid A6.1
            clear A6 A5 O5 G5 o51 a51 f51
            generalize W5.setCell ⟨r, 1, none⟩ (.int .u32 (toI X)) = W6 at c62 f62 o62 HA6 G6 ⊢
            go_wp2_with fail
            go_region
            have A7 := HA6.out.set2 (n + m)
            have G7 := hid (grown_trans G6.out (grown_trans A7.2 (grown_drew _)))
            have HA7 := hid A7.1
            clear A7
            go_wp2_with fail
            go_ret
            exact ⟨rfl, HA7.out, G7.out⟩
          exact AllReady.nil
        exact AllReady.nil
      exact AllReady.nil
    exact AllReady.nil
  refine AllReady.cons rfl (fun K hK => ?_) ?_
  · go_simp
    refine hK _ _ ?_
    clear hK K
    refine wpAny_ready (rs := [4, 13]) (by kernel_rfl) (by simp) ?_
    refine AllReady.cons rfl (fun K hK => ?_) ?_
    · go_simp
      refine hK _ _ ?_
      clear hK K
      refine wpAny_ready (rs := [9, 13]) (by kernel_rfl) (by simp) ?_
      refine AllReady.cons rfl (fun K hK => ?_) ?_
      · go_simp
        go_wp2_with fail
        refine (after_any s m W.drew TD (by omega)).mono ?_
        rintro e W5 ⟨rfl, b5⟩
        have A5 := hid (AD.out.kept (below_grown b5) (by simp))
        have O5 := hid (OD.out.kept (below_grown b5) (by simp))
        have G5 := hid (grown_trans (grown_none (below_grown b5)) (World.grownBy.refl W5 (some r)))
        have o51 := O5.out.c1
        have a51 := A5.out.c1
        have f51 := A5.out.fz (0 + 1)
        clear b5
        go_wp2_with fail
        refine wpAny_ready (rs := [13]) (by kernel_rfl) (by simp) ?_
        refine AllReady.cons rfl (fun K hK => ?_) ?_
        · go_simp
          refine hK _ _ ?_
          clear hK K
          refine wpAny_take (i := 14) (v := ?v20) rfl (by kernel_rfl) (by kernel_rfl) (by kernel_rfl) (fun _ _ _ h => h) (Or.inl ⟨by rfl, ?h20⟩) ?_
          case h20 => (intro w; go_simp; try (with_reducible rfl))
          go_simp
          refine wpAny_take (i := 15) (v := ?v21) rfl (by kernel_rfl) (by kernel_rfl) (by kernel_rfl) (fun _ _ _ h => h) (Or.inl ⟨by rfl, ?h21⟩) ?_
          case h21 => (intro w; go_simp; try (with_reducible rfl))
          go_simp
          refine wpAny_take (i := 16) (v := ?v22) rfl (by kernel_rfl) (by kernel_rfl) (by kernel_rfl) (fun _ _ _ h => h) (Or.inl ⟨by rfl, ?h22⟩) ?_
          case h22 => (intro w; go_simp; try (with_reducible rfl))
          go_simp
          refine wpAny_ready (rs := [17]) (by kernel_rfl) (by simp) ?_
          refine AllReady.cons rfl (fun K hK => ?_) ?_
          · go_simp
            refine hK _ _ ?_
            clear hK K
            refine wpAny_done (by kernel_rfl) ?_ _
            rw [XE.out]
            have A6 := A5.out.set1 X
            have G6 := hid (grown_trans (grown_none (row := some r) (grown_drew W)) (grown_trans G5.out A6.2))
            have c62 := A6.1.c2
            have f62 := A6.1.fz (0 + 2)
            have o62 := set1_other (O5.out.c2) r X
            have HA6 := hid A6.1
            clear A6 A5 O5 G5 o51 a51 f51
            generalize W5.setCell ⟨r, 1, none⟩ (.int .u32 (toI X)) = W6 at c62 f62 o62 HA6 G6 ⊢
            go_wp2_with fail
            go_region
            have A7 := HA6.out.set2 (n + m)
            have G7 := hid (grown_trans G6.out (grown_trans A7.2 (grown_drew _)))
            have HA7 := hid A7.1
            clear A7
            go_wp2_with fail
            go_ret
            exact ⟨rfl, HA7.out, G7.out⟩
          exact AllReady.nil
        exact AllReady.nil
      refine AllReady.cons rfl (fun K hK => ?_) ?_
      · go_simp
        refine hK _ _ ?_
        clear hK K
        refine wpAny_ready (rs := [9]) (by kernel_rfl) (by simp) ?_
        refine AllReady.cons rfl (fun K hK => ?_) ?_
        · go_simp
          go_wp2_with fail
          refine (after_any s m W.drew TD (by omega)).mono ?_
          rintro e W5 ⟨rfl, b5⟩
          have A5 := hid (AD.out.kept (below_grown b5) (by simp))
          have O5 := hid (OD.out.kept (below_grown b5) (by simp))
          have G5 := hid (grown_trans (grown_none (below_grown b5)) (World.grownBy.refl W5 (some r)))
          have o51 := O5.out.c1
          have a51 := A5.out.c1
          have f51 := A5.out.fz (0 + 1)
          clear b5
          go_wp2_with fail
          refine wpAny_take (i := 14) (v := ?v23) rfl (by kernel_rfl) (by kernel_rfl) (by kernel_rfl) (fun _ _ _ h => h) (Or.inl ⟨by rfl, ?h23⟩) ?_
          case h23 => (intro w; go_simp; try (with_reducible rfl))
          go_simp
          refine wpAny_take (i := 15) (v := ?v24) rfl (by kernel_rfl) (by kernel_rfl) (by kernel_rfl) (fun _ _ _ h => h) (Or.inl ⟨by rfl, ?h24⟩) ?_
          case h24 => (intro w; go_simp; try (with_reducible rfl))
          go_simp
          refine wpAny_take (i := 16) (v := ?v25) rfl (by kernel_rfl) (by kernel_rfl) (by kernel_rfl) (fun _ _ _ h => h) (Or.inl ⟨by rfl, ?h25⟩) ?_
          case h25 => (intro w; go_simp; try (with_reducible rfl))
          go_simp
          refine wpAny_ready (rs := [17]) (by kernel_rfl) (by simp) ?_
          refine AllReady.cons rfl (fun K hK => ?_) ?_
          · go_simp
            refine hK _ _ ?_
            clear hK K
            refine wpAny_done (by kernel_rfl) ?_ _
            rw [XE.out]
            have A6 := A5.out.set1 X
            have G6 := hid (grown_trans (grown_none (row := some r) (grown_drew W)) (grown_trans G5.out A6.2))
            have c62 := A6.1.c2
            have f62 := A6.1.fz (0 + 2)
            have o62 := set1_other (O5.out.c2) r X
            have HA6 := hid A6.1
            clear A6 A5 O5 G5 o51 a51 f51
            generalize W5.setCell ⟨r, 1, none⟩ (.int .u32 (toI X)) = W6 at c62 f62 o62 HA6 G6 ⊢
            go_wp2_with fail
            go_region
            have A7 := HA6.out.set2 (n + m)
            have G7 := hid (grown_trans G6.out (grown_trans A7.2 (grown_drew _)))
            have HA7 := hid A7.1
            clear A7
            go_wp2_with fail
            go_ret
            exact ⟨rfl, HA7.out, G7.out⟩
          exact AllReady.nil
        exact AllReady.nil
      exact AllReady.nil
    refine AllReady.cons rfl (fun K hK => ?_) ?_
    · go_simp
      refine hK _ _ ?_
      clear hK K
      refine wpAny_ready (rs := [4]) (by kernel_rfl) (by simp) ?_
      refine AllReady.cons rfl (fun K hK => ?_) ?_
      · go_simp
        refine hK _ _ ?_
        clear hK K
        refine wpAny_ready (rs := [9]) (by kernel_rfl) (by simp) ?_
        refine AllReady.cons rfl (fun K hK => ?_) ?_
        · go_simp
          go_wp2_with fail
          refine (after_any s m W.drew TD (by omega)).mono ?_
          rintro e W5 ⟨rfl, b5⟩
          have A5 := hid (AD.out.kept (below_grown b5) (by simp))
          have O5 := hid (OD.out.kept (below_grown b5) (by simp))
          have G5 := hid (grown_trans (grown_none (below_grown b5)) (World.grownBy.refl W5 (some r)))
          have o51 := O5.out.c1
          have a51 := A5.out.c1
          have f51 := A5.out.fz (0 + 1)
          clear b5
          go_wp2_with fail
          refine wpAny_take (i := 14) (v := ?v26) rfl (by kernel_rfl) (by kernel_rfl) (by kernel_rfl) (fun _ _ _ h => h) (Or.inl ⟨by rfl, ?h26⟩) ?_
          case h26 => (intro w; go_simp; try (with_reducible rfl))
          go_simp
          refine wpAny_take (i := 15) (v := ?v27) rfl (by kernel_rfl) (by kernel_rfl) (by kernel_rfl) (fun _ _ _ h => h) (Or.inl ⟨by rfl, ?h27⟩) ?_
          case h27 => (intro w; go_simp; try (with_reducible rfl))
          go_simp
          refine wpAny_take (i := 16) (v := ?v28) rfl (by kernel_rfl) (by kernel_rfl) (by kernel_rfl) (fun _ _ _ h => h) (Or.inl ⟨by rfl, ?h28⟩) ?_
          case h28 => (intro w; go_simp; try (with_reducible rfl))
          go_simp
          refine wpAny_ready (rs := [17]) (by kernel_rfl) (by simp) ?_
          refine AllReady.cons rfl (fun K hK => ?_) ?_
          · go_simp
            refine hK _ _ ?_
            clear hK K
            refine wpAny_done (by kernel_rfl) ?_ _
            rw [XE.out]
            have A6 := A5.out.set1 X
            have G6 := hid (grown_trans (grown_none (row := some r) (grown_drew W)) (grown_trans G5.out A6.2))
            have c62 := A6.1.c2
            have f62 := A6.1.fz (0 + 2)
            have o62 := set1_other (O5.out.c2) r X
            have HA6 := hid A6.1
            clear A6 A5 O5 G5 o51 a51 f51
            generalize W5.setCell ⟨r, 1, none⟩ (.int .u32 (toI X)) = W6 at c62 f62 o62 HA6 G6 ⊢
            go_wp2_with fail
            go_region
            have A7 := HA6.out.set2 (n + m)
            have G7 := hid (grown_trans G6.out (grown_trans A7.2 (grown_drew _)))
            have HA7 := hid A7.1
            clear A7
            go_wp2_with fail
            go_ret
            exact ⟨rfl, HA7.out, G7.out⟩
          exact AllReady.nil
        exact AllReady.nil
      exact AllReady.nil
    exact AllReady.nil
  refine AllReady.cons rfl (fun K hK => ?_) ?_
  · go_simp
    refine hK _ _ ?_
    clear hK K
    refine wpAny_ready (rs := [4, 8]) (by kernel_rfl) (by simp) ?_
    refine AllReady.cons rfl (fun K hK => ?_) ?_
    · go_simp
      refine hK _ _ ?_
      clear hK K
      refine wpAny_ready (rs := [8]) (by kernel_rfl) (by simp) ?_
      refine AllReady.cons rfl (fun K hK => ?_) ?_
      · go_simp
        refine hK _ _ ?_
        clear hK K
        refine wpAny_ready (rs := [9]) (by kernel_rfl) (by simp) ?_
        refine AllReady.cons rfl (fun K hK => ?_) ?_
        · go_simp
          go_wp2_with fail
          refine (after_any s m W.drew TD (by omega)).mono ?_
          rintro e W5 ⟨rfl, b5⟩
          have A5 := hid (AD.out.kept (below_grown b5) (by simp))
          have O5 := hid (OD.out.kept (below_grown b5) (by simp))
          have G5 := hid (grown_trans (grown_none (below_grown b5)) (World.grownBy.refl W5 (some r)))
          have o51 := O5.out.c1
          have a51 := A5.out.c1
          have f51 := A5.out.fz (0 + 1)
          clear b5
          go_wp2_with fail
          refine wpAny_take (i := 14) (v := ?v29) rfl (by kernel_rfl) (by kernel_rfl) (by kernel_rfl) (fun _ _ _ h => h) (Or.inl ⟨by rfl, ?h29⟩) ?_
          case h29 => (intro w; go_simp; try (with_reducible rfl))
          go_simp
          refine wpAny_take (i := 15) (v := ?v30) rfl (by kernel_rfl) (by kernel_rfl) (by kernel_rfl) (fun _ _ _ h => h) (Or.inl ⟨by rfl, ?h30⟩) ?_
          case h30 => (intro w; go_simp; try (with_reducible rfl))
          go_simp
          refine wpAny_take (i := 16) (v := ?v31) rfl (by kernel_rfl) (by kernel_rfl) (by kernel_rfl) (fun _ _ _ h => h) (Or.inl ⟨by rfl, ?h31⟩) ?_
          case h31 => (intro w; go_simp; try (with_reducible rfl))
          go_simp
          refine wpAny_ready (rs := [17]) (by kernel_rfl) (by simp) ?_
          refine AllReady.cons rfl (fun K hK => ?_) ?_
          · go_simp
            refine hK _ _ ?_
            clear hK K
            refine wpAny_done (by kernel_rfl) ?_ _
            rw [XE.out]
            have A6 := A5.out.set1 X
            have G6 := hid (grown_trans (grown_none (row := some r) (grown_drew W)) (grown_trans G5.out A6.2))
            have c62 := A6.1.c2
            have f62 := A6.1.fz (0 + 2)
            have o62 := set1_other (O5.out.c2) r X
            have HA6 := hid A6.1
            clear A6 A5 O5 G5 o51 a51 f51
            generalize W5.setCell ⟨r, 1, none⟩ (.int .u32 (toI X)) = W6 at c62 f62 o62 HA6 G6 ⊢
            go_wp2_with fail
            go_region
            have A7 := HA6.out.set2 (n + m)
            have G7 := hid (grown_trans G6.out (grown_trans A7.2 (grown_drew _)))
            have HA7 := hid A7.1
            clear A7
            go_wp2_with fail
            go_ret
            exact ⟨rfl, HA7.out, G7.out⟩
          exact AllReady.nil
        exact AllReady.nil
      exact AllReady.nil
    refine AllReady.cons rfl (fun K hK => ?_) ?_
    · go_simp
      refine hK _ _ ?_
      clear hK K
      refine wpAny_ready (rs := [4]) (by kernel_rfl) (by simp) ?_
      refine AllReady.cons rfl (fun K hK => ?_) ?_
      · go_simp
        refine hK _ _ ?_
        clear hK K
        refine wpAny_ready (rs := [9]) (by kernel_rfl) (by simp) ?_
        refine AllReady.cons rfl (fun K hK => ?_) ?_
        · go_simp
          go_wp2_with fail
          refine (after_any s m W.drew TD (by omega)).mono ?_
          rintro e W5 ⟨rfl, b5⟩
          have A5 := hid (AD.out.kept (below_grown b5) (by simp))
          have O5 := hid (OD.out.kept (below_grown b5) (by simp))
          have G5 := hid (grown_trans (grown_none (below_grown b5)) (World.grownBy.refl W5 (some r)))
          have o51 := O5.out.c1
          have a51 := A5.out.c1
          have f51 := A5.out.fz (0 + 1)
          clear b5
          go_wp2_with fail
          refine wpAny_take (i := 14) (v := ?v32) rfl (by kernel_rfl) (by kernel_rfl) (by kernel_rfl) (fun _ _ _ h => h) (Or.inl ⟨by rfl, ?h32⟩) ?_
          case h32 => (intro w; go_simp; try (with_reducible rfl))
          go_simp
          refine wpAny_take (i := 15) (v := ?v33) rfl (by kernel_rfl) (by kernel_rfl) (by kernel_rfl) (fun _ _ _ h => h) (Or.inl ⟨by rfl, ?h33⟩) ?_
          case h33 => (intro w; go_simp; try (with_reducible rfl))
          go_simp
          refine wpAny_take (i := 16) (v := ?v34) rfl (by kernel_rfl) (by kernel_rfl) (by kernel_rfl) (fun _ _ _ h => h) (Or.inl ⟨by rfl, ?h34⟩) ?_
          case h34 => (intro w; go_simp; try (with_reducible rfl))
          go_simp
          refine wpAny_ready (rs := [17]) (by kernel_rfl) (by simp) ?_
          refine AllReady.cons rfl (fun K hK => ?_) ?_
          · go_simp
            refine hK _ _ ?_
            clear hK K
            refine wpAny_done (by kernel_rfl) ?_ _
            rw [XE.out]
            have A6 := A5.out.set1 X
            have G6 := hid (grown_trans (grown_none (row := some r) (grown_drew W)) (grown_trans G5.out A6.2))
            have c62 := A6.1.c2
            have f62 := A6.1.fz (0 + 2)
            have o62 := set1_other (O5.out.c2) r X
            have HA6 := hid A6.1
            clear A6 A5 O5 G5 o51 a51 f51
            generalize W5.setCell ⟨r, 1, none⟩ (.int .u32 (toI X)) = W6 at c62 f62 o62 HA6 G6 ⊢
            go_wp2_with fail
            go_region
            have A7 := HA6.out.set2 (n + m)
            have G7 := hid (grown_trans G6.out (grown_trans A7.2 (grown_drew _)))
            have HA7 := hid A7.1
            clear A7
            go_wp2_with fail
            go_ret
            exact ⟨rfl, HA7.out, G7.out⟩
          exact AllReady.nil
        exact AllReady.nil
      exact AllReady.nil
    exact AllReady.nil
  exact AllReady.nil
theorem Join_big (r o : Nat) (s s2 : BitVec 32) (n m : Nat) (W : World) (A : Hid (At W r s n)) (O : Hid (At W o s2 m)) (hn : n ≤ 9007199254740992) (hs : ¬ n + m ≤ 9007199254740992) :
    Calls Tryd.prog 27 #[.pointer (some ⟨r, 0, none⟩), .pointer (some ⟨o, 0, none⟩)] W fun e W' => e = .returned (.int .i64 3) ∧ W' = W := by
  have D : decide (9007199254740992 - (n : Int) < (m : Int)) = true := by simp; omega
  have o2 := O.out.c2
  go_enter Tryd.func27, Tryd.ntmps27
  go_wp2_with fail
  refine (isNone_at r s n _ A).mono ?_
  rintro e W ⟨rfl, rfl⟩
  go_wp2_with fail
  refine (isNone_at o s2 m _ O).mono ?_
  rintro e W ⟨rfl, rfl⟩
  go_wp2_with fail
  refine (isFull_any r s n m _ A (by omega)).mono ?_
  rintro e W ⟨rfl, rfl⟩
  rw [D]
  go_wp2_with fail
  go_ret
  exact ⟨rfl, rfl⟩
theorem Add_ok (r : Nat) (s : BitVec 32) (n : Int) (a : Option Addr) (len cap : Nat) (zs : List Int) (W : World) (A : Hid (At W r s n)) (T : Hid (Tab W)) (H : Hid (Bytes W a len cap zs)) (hn : 0 ≤ n) (hs : n + len ≤ 9007199254740992) (hm : len ≤ 281474976710656) :
    Calls Tryd.prog 25 #[.pointer (some ⟨r, 0, none⟩), .slice a len cap] W fun e W' => e = .returned (.int .i64 0) ∧ At W' r (extend s zs) (n + len) ∧ W.grownBy W' (some r) := by
  go_enter Tryd.func25, Tryd.ntmps25
  go_wp2_with fail
  refine (addB_ok r s n a len cap zs W A T H hn hs hm).mono ?_
  rintro e W' ⟨rfl, A', g'⟩
  have HA' := hid A'
  have HG' := hid g'
  clear A' g'
  go_wp2_with fail
  go_ret
  exact ⟨rfl, HA'.out, HG'.out⟩
theorem Add_big (r : Nat) (s : BitVec 32) (n : Int) (a : Option Addr) (len cap : Nat) (W : World) (A : Hid (At W r s n)) (hn : 0 ≤ n ∧ n ≤ 9007199254740992) (hs : ¬ n + len ≤ 9007199254740992) :
    Calls Tryd.prog 25 #[.pointer (some ⟨r, 0, none⟩), .slice a len cap] W fun e W' => e = .returned (.int .i64 3) ∧ W' = W := by
  go_enter Tryd.func25, Tryd.ntmps25
  go_wp2_with fail
  refine (addB_big r s n a len cap W A hn (by omega)).mono ?_
  rintro e W' ⟨rfl, rfl⟩
  go_wp2_with fail
  go_ret
  exact ⟨rfl, rfl⟩
theorem AddText_ok (r : Nat) (s : BitVec 32) (n : Int) (q : ByteArray) (W : World) (A : Hid (At W r s n)) (T : Hid (Tab W)) (hn : 0 ≤ n) (hs : n + q.size ≤ 9007199254740992) (hm : q.size ≤ 281474976710656) :
    Calls Tryd.prog 26 #[.pointer (some ⟨r, 0, none⟩), .string q] W fun e W' => e = .returned (.int .i64 0) ∧ At W' r (extend s (tx q)) (n + q.size) ∧ W.grownBy W' (some r) := by
  go_enter Tryd.func26, Tryd.ntmps26
  go_wp2_with fail
  refine (addS_ok r s n q W A T hn hs hm).mono ?_
  rintro e W' ⟨rfl, A', g'⟩
  have HA' := hid A'
  have HG' := hid g'
  clear A' g'
  go_wp2_with fail
  go_ret
  exact ⟨rfl, HA'.out, HG'.out⟩
theorem AddText_big (r : Nat) (s : BitVec 32) (n : Int) (q : ByteArray) (W : World) (A : Hid (At W r s n)) (hn : 0 ≤ n ∧ n ≤ 9007199254740992) (hs : ¬ n + q.size ≤ 9007199254740992) :
    Calls Tryd.prog 26 #[.pointer (some ⟨r, 0, none⟩), .string q] W fun e W' => e = .returned (.int .i64 3) ∧ W' = W := by
  go_enter Tryd.func26, Tryd.ntmps26
  go_wp2_with fail
  refine (addS_big r s n q W A hn (by omega)).mono ?_
  rintro e W' ⟨rfl, rfl⟩
  go_wp2_with fail
  go_ret
  exact ⟨rfl, rfl⟩
end Go.Proofs.YtkgmdhldongloaaDoor.Rn

/- The least text of a length that is not below a text, and Between, by the document's definition. -/
import Derived.Test.YtbpgifpplnmjmaaSk
namespace Go.Proofs.Ytbpgifpplnmjmaa.Ls
open Go.ChangeShapes Go.WideShapes Go.ChangeAt Go.RowKit
open Go.Proofs.Ytbpgifpplnmjmaa.Ik
open Go.Proofs.Ytbpgifpplnmjmaa.By
open Go.Proofs.Ytbpgifpplnmjmaa.Mr
open Go.Proofs.Ytbpgifpplnmjmaa.Bt
set_option linter.unusedVariables false

theorem inc_ff (q : Tx) (h : ∀ y ∈ q, y = 255) : inc q = none := by
  induction q with
  | nil => rfl
  | cons x t ih =>
    have hx := h x (by simp)
    subst hx
    simp [inc, ih (fun y hy => h y (by simp [hy]))]
theorem inc_app (p : Tx) (x : UInt8) (q : Tx) (h : ∀ y ∈ q, y = 255) (hx : x.toNat < 255) : inc (p ++ x :: q) = some (p ++ (x + 1) :: List.replicate q.length 0) := by
  induction p with
  | nil => simp [inc, inc_ff q h, hx]
  | cons z p ih => simp [inc, ih]
/-- A text as numbers, from a place on noughts. -/
def xl (p : Tx) (k : Nat) : List Int := (p.take k).map (fun b => (b.toNat : Int)) ++ List.replicate (p.length - k) 0
theorem xl_len (p : Tx) (k : Nat) (h : k ≤ p.length) : (xl p k).length = p.length := by simp [xl]; omega
theorem xl_get (p : Tx) (k j : Nat) (h : j < k) (hk : k ≤ p.length) : (xl p k).getD j 0 = ((p.getD j 0).toNat : Int) := by
  have h1 : j < p.length := by omega
  have h2 : j < min k p.length := by omega
  simp [xl, List.getD_eq_getElem?_getD, List.getElem?_append, h1, h2]
theorem xl_set (p : Tx) (j : Nat) (v : Int) (h : j < p.length) : (xl p (j + 1)).set j v = (p.take j).map (fun b => (b.toNat : Int)) ++ v :: List.replicate (p.length - (j + 1)) 0 := by
  unfold xl
  rw [List.take_succ_eq_append_getElem h, List.map_append, List.append_assoc, List.set_append_right _ _ (by simp; omega)]
  have e : j - ((p.take j).map (fun b => (b.toNat : Int))).length = 0 := by simp; omega
  rw [e]
  simp
theorem xl_set0 (p : Tx) (j : Nat) (h : j < p.length) : (xl p (j + 1)).set j 0 = xl p j := by
  rw [xl_set p j 0 h]
  unfold xl
  rw [show p.length - j = (p.length - (j + 1)) + 1 by omega, List.replicate_succ]
theorem xl_full (s : ByteArray) : tx s = xl s.data.toList s.data.toList.length := by
  unfold xl tx
  rw [List.take_length, Nat.sub_self, List.replicate_zero, List.append_nil]
theorem back (l : Tx) : l.map ((fun n : Int => UInt8.ofNat n.toNat) ∘ fun b : UInt8 => (b.toNat : Int)) = l := by
  conv => rhs; rw [← List.map_id l]
  apply List.map_congr_left
  intro b _
  simp
theorem xl_str (p : Tx) (j : Nat) (x : UInt8) (h : j < p.length) (hx : p.getD j 0 = x) (hq : ∀ i, j + 1 ≤ i → i < p.length → p.getD i 0 = 255) (hlt : x.toNat < 255) :
    some (str ((xl p (j + 1)).set j ((x.toNat : Int) + 1))).data.toList = inc p := by
  have hp : p = p.take j ++ x :: p.drop (j + 1) := by
    have e := List.drop_eq_getElem_cons h
    have ex : p[j] = x := by rw [← hx, List.getD_eq_getElem?_getD, List.getElem?_eq_getElem h]; rfl
    rw [ex] at e
    rw [← e, List.take_append_drop]
  have hff : ∀ y ∈ p.drop (j + 1), y = 255 := by
    intro y hy
    obtain ⟨i, hi, rfl⟩ := List.getElem_of_mem hy
    rw [List.length_drop] at hi
    have := hq (j + 1 + i) (by omega) (by omega)
    rw [List.getD_eq_getElem?_getD, List.getElem?_eq_getElem (by omega)] at this
    rw [List.getElem_drop]
    exact this
  rw [str_data, xl_set p j _ h]
  conv => rhs; rw [hp, inc_app _ x _ hff hlt]
  rw [List.map_append, List.map_map, back, List.map_cons, List.map_replicate, List.length_drop]
  have e : UInt8.ofNat ((x.toNat : Int) + 1).toNat = x + 1 := by
    apply UInt8.toNat_inj.1
    rw [UInt8.toNat_ofNat', u8_succ x (by rintro rfl; simp at hlt)]
    omega
  rw [e]
  rfl
theorem inc_none (p : Tx) (h : ∀ i, 0 ≤ i → i < p.length → p.getD i 0 = 255) : inc p = none := by
  apply inc_ff
  intro y hy
  obtain ⟨i, hi, rfl⟩ := List.getElem_of_mem hy
  have := h i (by omega) hi
  rw [List.getD_eq_getElem?_getD, List.getElem?_eq_getElem hi] at this
  exact this

theorem retSB {a b : ByteArray} {c d : Bool} (h : a = b) (h' : c = d) : Ending.returned (.tuple #[.string a, .bool c]) = .returned (.tuple #[.string b, .bool d]) := by rw [h, h']

set_option maxHeartbeats 1000000 in
theorem least_any (a : ByteArray) (n : Nat) (w : World) (hn : n ≤ a.size) (ha : a.size ≤ maxLen) :
    Calls Try.prog 45 #[.string a, .int .i64 n] w fun e w' => e = .returned (.tuple #[.string (tb ((least a.data.toList n).getD [])), .bool (least a.data.toList n).isSome]) ∧ Below w.heap.size w w' := by
  by_cases h : n = a.size
  · have E : Hid (least a.data.toList n = some a.data.toList) := by
      show _ = _
      unfold least
      rw [if_pos (by rw [size_eq]; exact h)]
    have t1 : ((n : Int) == (a.size : Int)) = true := beq_iff_eq.2 (by omega)
    clear h
    go_enter Try.func45, Try.ntmps45
    go_wp2
    go_ret2
    exact ⟨retSB (by rw [E.out]; exact (tb_of a).symm) (by rw [E.out]; rfl), Below.refl _ _⟩
  · have t1 : ((n : Int) == (a.size : Int)) = false := beq_eq_false_iff_ne.2 (by omega)
    have E : Hid (least a.data.toList n = inc (a.data.toList.take n)) := by
      show _ = _
      unfold least
      rw [if_neg (by rw [size_eq]; exact h)]
    clear h
    have ha' := ha
    unfold maxLen at ha'
    obtain ⟨W1, cap, run1, row1, b1, z1, c1⟩ := conv_bytes (a.extract 0 n) w (by unfold maxLen; simp; omega)
    have hts : (a.extract 0 n).size = n := by simp; omega
    rw [hts] at run1
    obtain ⟨p, hp⟩ : ∃ p, p = a.data.toList.take n := ⟨_, rfl⟩
    have hpl : p.length = n := by rw [hp, List.length_take, size_eq]; omega
    have row1' : Mrow W1 w.heap.size cap (xl p n) := by
      have e : tx (a.extract 0 n) = xl p n := by
        rw [xl_full, extract_data, ← hp, hpl]
      rw [← e]; exact row1
    rw [← hp] at E
    have HR : Hid (Mrow W1 w.heap.size cap (xl p n)) := row1'
    have HB : Hid (Below w.heap.size w W1) := b1
    have hc : n ≤ cap := by have := row1'.le; rw [xl_len p n (by omega)] at this; omega
    have HL : Hid (p.length = n) := hpl
    clear row1 row1' b1 z1 c1 hts hp hpl
    go_enter Try.func45, Try.ntmps45
    go_wp2_with fail
    go_loopw [7] (fun i wr => ∃ k : Nat, i = .int .i64 ((k : Int) - 1) ∧ k ≤ n ∧ Hid (∀ j, k ≤ j → j < p.length → p.getD j 0 = 255) ∧ Hid (Mrow wr w.heap.size cap (xl p k)) ∧ Hid (Below w.heap.size w wr)) (fun i _ => (intOf i + 1).toNat)
    case atStart => exact ⟨n, by go_num, Nat.le_refl _, fun j h1 h2 => by have := HL.out; omega, HR, HB⟩
    case round =>
      obtain ⟨k, rfl, hk, hff, hrow, hbel⟩ := hrel
      clear HR HB run1
      by_cases h0 : 0 < k
      · obtain ⟨j, rfl⟩ : ∃ j, k = j + 1 := ⟨k - 1, by omega⟩
        have ej : ((j + 1 : Nat) : Int) - 1 = (j : Int) := by omega
        rw [ej]
        clear ej
        have hl := HL.out
        have jl : j < (xl p (j + 1)).length := by rw [xl_len p (j + 1) (by omega)]; omega
        have cell := hrow.out.cell j jl
        rw [xl_get p (j + 1) j (by omega) (by omega)] at cell
        have fr := hrow.out.frozen j (by omega)
        obtain ⟨x, hx⟩ : ∃ x, x = p.getD j 0 := ⟨_, rfl⟩
        rw [← hx] at cell
        have hx1 : x.toNat < 256 := x.toNat_lt
        by_cases hlt : x.toNat < 255
        · have S : Hid (some (str ((xl p (j + 1)).set j ((x.toNat : Int) + 1))).data.toList = inc p) := xl_str p j x (by omega) hx.symm hff.out hlt
          have row2 := hrow.out.set j ((x.toNat : Int) + 1) jl
          have conv2 := row2.conv
          rw [List.length_set, xl_len p (j + 1) (by omega), hl] at conv2
          have HB2 : Hid (Below w.heap.size w (wr.setCell ⟨w.heap.size, j, none⟩ (.int .u8 ((x.toNat : Int) + 1)))) := hbel.out.setCell (Nat.le_refl _) _
          have L1 : (x.toNat : Int) < 255 := by omega
          clear row2 hrow hbel hff HL hl jl hx
          generalize str ((xl p (j + 1)).set j ((x.toNat : Int) + 1)) = r at S conv2
          go_wp2
          go_ret2
          exact ⟨retSB (by rw [E.out, ← S.out]; exact (tb_of r).symm) (by rw [E.out, ← S.out]; rfl), HB2.out⟩
        · have hx255 : x = 255 := u8_eq x 255 (by show x.toNat = 255; omega)
          have HF : Hid (∀ i, j ≤ i → i < p.length → p.getD i 0 = 255) := fun i h1 h2 => by
            rcases Nat.lt_or_ge j i with h' | h'
            · exact hff.out i (by omega) h2
            · have : i = j := by omega
              subst this
              rw [← hx]; exact hx255
          have row2 := hrow.out.set j 0 jl
          rw [xl_set0 p j (by omega)] at row2
          have HR2 : Hid (Mrow (wr.setCell ⟨w.heap.size, j, none⟩ (.int .u8 0)) w.heap.size cap (xl p j)) := row2
          have HB2 : Hid (Below w.heap.size w (wr.setCell ⟨w.heap.size, j, none⟩ (.int .u8 0))) := hbel.out.setCell (Nat.le_refl _) _
          have L1 : ¬ (x.toNat : Int) < 255 := by omega
          clear row2 hrow hbel hff hl jl hx hx255
          go_wp2
          go_roundw
          case rel => exact ⟨j, by go_num, by omega, HF, HR2, HB2⟩
          case measure => simp [intOf]
      · have hk0 : k = 0 := by omega
        subst hk0
        have N : Hid (inc p = none) := inc_none p hff.out
        have ej : ((0 : Nat) : Int) - 1 = -1 := by omega
        rw [ej]
        clear ej hff hrow
        go_wp2
        go_ret2
        exact ⟨retSB (by rw [E.out, N.out]; rfl) (by rw [E.out, N.out]; rfl), hbel.out⟩
theorem find_yes (a b : Tx) (k n : Nat) (u : Tx) (hl : least a n = some u) (hu : u < b) : find a b (k + 1) n = u := by
  show (match least a n with | some u => if u < b then u else find a b k (n + 1) | none => find a b k (n + 1)) = u
  rw [hl]
  simp only [hu, if_true]
theorem find_no (a b : Tx) (k n : Nat) (h : ∀ u, least a n = some u → ¬ u < b) : find a b (k + 1) n = find a b k (n + 1) := by
  show (match least a n with | some u => if u < b then u else find a b k (n + 1) | none => find a b k (n + 1)) = _
  cases hl : least a n with
  | none => rfl
  | some u => simp only [h u hl, if_false]

set_option maxHeartbeats 1000000 in
theorem rbetween_any (a b : ByteArray) (w : World) (ha : a.size ≤ maxLen) (hb : b.size ≤ maxLen) (ha2 : a.size ≤ 140737488351232) :
    Calls Try.prog 26 #[.string a, .string b] w fun e w' => e = .returned (.string (tb (between a.data.toList b.data.toList))) ∧ Below w.heap.size w w' := by
  have MA : Hid (a.size ≤ maxLen) := ha
  clear ha hb
  go_enter Try.func26, Try.ntmps26
  go_wp2_with fail
  go_loopw [5] (fun i wr => ∃ k : Nat, i = .int .i64 k ∧ k ≤ a.size + 1 ∧ Hid (find a.data.toList b.data.toList (a.size + 1 - k) k = between a.data.toList b.data.toList) ∧ Hid (Below w.heap.size w wr)) (fun i _ => a.size + 1 - (intOf i).toNat)
  case atStart => exact ⟨0, rfl, by omega, by show _ = _; unfold between; rw [size_eq]; rfl, Below.refl _ _⟩
  case round =>
    obtain ⟨k, rfl, hk, hf, hbel⟩ := hrel
    by_cases hlt : k ≤ a.size
    · have hf' : find a.data.toList b.data.toList ((a.size - k) + 1) k = between a.data.toList b.data.toList := by
        have := hf.out
        rwa [show a.size + 1 - k = (a.size - k) + 1 by omega] at this
      clear hf
      have L := fun w => least_any a k w hlt MA.out
      cases hl : least a.data.toList k with
      | none =>
        rw [hl] at L
        have HL : Hid (∀ w, Calls Try.prog 45 #[.string a, .int .i64 k] w fun e w' => e = .returned (.tuple #[.string (tb []), .bool false]) ∧ Below w.heap.size w w') := L
        have HF : Hid (find a.data.toList b.data.toList (a.size + 1 - (k + 1)) (k + 1) = between a.data.toList b.data.toList) := by
          show _ = _
          rw [← hf', find_no _ _ _ _ (fun u hu => by rw [hl] at hu; simp at hu), show a.size + 1 - (k + 1) = a.size - k by omega]
        clear L hl hf'
        go_wp2_with fail
        refine (HL.out _).mono ?_
        rintro e w1 ⟨rfl, b1⟩
        have HB : Hid (Below w.heap.size w w1) := hbel.out.trans (b1.mono hbel.out.size)
        clear b1 HL hbel
        go_wp2
        go_roundw
        case rel => exact ⟨k + 1, by go_num, by omega, HF, HB⟩
        case measure => simp [intOf]; omega
      | some u =>
        rw [hl] at L
        have HL : Hid (∀ w, Calls Try.prog 45 #[.string a, .int .i64 k] w fun e w' => e = .returned (.tuple #[.string (tb u), .bool true]) ∧ Below w.heap.size w w') := L
        clear L
        by_cases hu : u < b.data.toList
        · have FIN : Hid (u = between a.data.toList b.data.toList) := by
            show _ = _
            rw [← hf', find_yes _ _ _ _ u hl hu]
          have l1 : Op.bytesLess (tb u).toList b.toList = true := less_yes (by rw [tb_data]; exact hu)
          clear hu hl hf'
          go_wp2_with fail
          refine (HL.out _).mono ?_
          rintro e w1 ⟨rfl, b1⟩
          have HB : Hid (Below w.heap.size w w1) := hbel.out.trans (b1.mono hbel.out.size)
          clear b1 HL hbel
          go_wp2
          go_ret
          exact ⟨by rw [← FIN.out]; rfl, HB.out⟩
        · have HF : Hid (find a.data.toList b.data.toList (a.size + 1 - (k + 1)) (k + 1) = between a.data.toList b.data.toList) := by
            show _ = _
            rw [← hf', find_no _ _ _ _ (fun u' hu' => by rw [hl] at hu'; simp at hu'; subst hu'; exact hu), show a.size + 1 - (k + 1) = a.size - k by omega]
          have l1 : Op.bytesLess (tb u).toList b.toList = false := less_no (by rw [tb_data]; exact hu)
          clear hu hl hf'
          go_wp2_with fail
          refine (HL.out _).mono ?_
          rintro e w1 ⟨rfl, b1⟩
          have HB : Hid (Below w.heap.size w w1) := hbel.out.trans (b1.mono hbel.out.size)
          clear b1 HL hbel
          go_wp2
          go_roundw
          case rel => exact ⟨k + 1, by go_num, by omega, HF, HB⟩
          case measure => simp [intOf]; omega
    · have FIN : Hid (a = tb (between a.data.toList b.data.toList)) := by
        show _ = _
        have := hf.out
        rw [show a.size + 1 - k = 0 by omega] at this
        rw [← this]
        exact (tb_of a).symm
      clear hf
      go_wp2
      go_ret
      exact ⟨by rw [← FIN.out]; rfl, hbel.out⟩
end Go.Proofs.Ytbpgifpplnmjmaa.Ls

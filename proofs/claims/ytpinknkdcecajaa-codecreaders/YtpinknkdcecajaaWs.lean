/- Appending the bytes of a text to a row of the call's own, and storing many cells in one: laws on memory that the contracts of PutText and of the document's Text lean on. -/
import Derived.Test.YtpinknkdcecajaaRt
import Derived.Deep.AppendSrc
namespace Go.Proofs.Ytpinknkdcecajaa.Ws
open Go.ChangeShapes Go.WideShapes Go.ChangeAt Go.RowKit
open Go.Proofs.Ytpinknkdcecajaa.Rd (Bytes ret_int addr_add)
open Go.Proofs.Ytpinknkdcecajaa.Wr
set_option linter.unusedVariables false

def tx (s : ByteArray) : List Int := s.data.toList.map fun b => (b.toNat : Int)
theorem tx_cells (s : ByteArray) : byteCells s = (tx s).map (Value.int .u8) := by
  unfold byteCells tx; simp
theorem tx_len (s : ByteArray) : (tx s).length = s.size := by
  unfold tx; simp
theorem tx_bytes (s : ByteArray) : ∀ y ∈ tx s, 0 ≤ y ∧ y ≤ 255 := by
  intro y hy
  obtain ⟨b, _, rfl⟩ := List.mem_map.1 hy
  have := b.toNat_lt
  omega

theorem full {w : World} {base g n cap : Nat} {xs : List Value} (h : w.ownsRow base 5 1 (.slice (some ⟨g, 0, none⟩) n cap) n xs) :
    ∃ ys, w.ownsRow base 5 1 (.slice (some ⟨g, 0, none⟩) cap cap) cap ys ∧ ys.take n = xs ∧ n ≤ cap := by
  rcases h.2 with ⟨e, _⟩ | ⟨g', cap', cur, e, hb, hg, hn, hm, hs, ht⟩
  · simp at e
  · simp only [Value.slice.injEq, Option.some.injEq, Addr.mk.injEq, and_true, true_and] at e
    obtain ⟨rfl, rfl⟩ := e
    refine ⟨cur.toList, ⟨by simpa using hs, .inr ⟨g, cap, cur, rfl, hb, hg, Nat.le_refl _, hm, hs, ?_⟩⟩, by simpa using ht, hn⟩
    exact List.take_of_length_le (by rw [Array.length_toList]; omega)
theorem cut {w : World} {base g n cap : Nat} {ys : List Value} (h : w.ownsRow base 5 1 (.slice (some ⟨g, 0, none⟩) cap cap) cap ys) (hn : n ≤ cap) :
    w.ownsRow base 5 1 (.slice (some ⟨g, 0, none⟩) n cap) n (ys.take n) := by
  rcases h.2 with ⟨e, _⟩ | ⟨g', cap', cur, e, hb, hg, _, hm, hs, ht⟩
  · simp at e
  · simp only [Value.slice.injEq, Option.some.injEq, Addr.mk.injEq, and_true, true_and] at e
    obtain ⟨rfl, rfl⟩ := e
    have hy : cur.toList = ys := by rw [← ht]; exact (List.take_of_length_le (by rw [Array.length_toList]; omega)).symm
    refine ⟨by rw [← hy]; simp; omega, .inr ⟨g, cap, cur, rfl, hb, hg, hn, hm, hs, by rw [← hy]; simp⟩⟩
theorem stored_many {base g cap : Nat} : ∀ (vs : List Value) (o : Nat) (ys : List Value) (w : World), w.ownsRow base 5 1 (.slice (some ⟨g, 0, none⟩) cap cap) cap ys → o + vs.length ≤ cap →
    (w.setCells g o vs).ownsRow base 5 1 (.slice (some ⟨g, 0, none⟩) cap cap) cap (ys.take o ++ (vs ++ ys.drop (o + vs.length))) ∧ w.grownBy (w.setCells g o vs) (some g) := by
  intro vs
  induction vs with
  | nil => intro o ys w h ho; simp [World.setCells]; exact ⟨h, World.grownBy.refl _ _⟩
  | cons v r ih =>
    intro o ys w h ho
    have hl : ys.length = cap := by have := h.1; omega
    simp only [List.length_cons] at ho
    have st := World.ownsRow.stored h o v
    have := ih (o + 1) (ys.set o v) _ st.1 (by omega)
    refine ⟨?_, grown_trans st.2 this.2⟩
    have e : (ys.set o v).take (o + 1) ++ (r ++ (ys.set o v).drop (o + 1 + r.length)) = ys.take o ++ (v :: r ++ ys.drop (o + (v :: r).length)) := by
      rw [List.take_succ_eq_append_getElem (by simp; omega), List.getElem_set_self, List.take_set_of_le (by omega), List.drop_set_of_lt (by omega)]
      simp [Nat.add_assoc, Nat.add_comm 1]
    rw [← e]
    exact this.1

theorem app_fits {W : World} {base g n cap : Nat} {xs : List Int} (R : Row W base g n cap xs) (s : ByteArray) (h : n + s.size ≤ cap) :
    ∃ W', (Builtin.append_ #[22, 9] 22 #[.slice (some ⟨g, 0, none⟩) n cap, .string s]).run Try.prog W = .ok (.slice (some ⟨g, 0, none⟩) (n + s.size) cap) W' ∧ Row W' base g (n + s.size) cap (xs ++ tx s) ∧ W.grownBy W' (some g) := by
  obtain ⟨i0, hi, hz0, hz1, hz2⟩ := info_parts info5
  obtain ⟨ys, hfull, hyt, hn⟩ := full R
  have hl : ys.length = cap := by have := hfull.1; omega
  have hsrc : Src Try.prog i0.size 9 (.string s) s.size (byteCells s) W := by rw [hz1]; exact Src.ofString W Try.underlying9 s
  have hbl : (byteCells s).length = s.size := byteCells_length s
  have run := run_append_room_src (P := Try.prog) W 22 9 22 5 i0 Try.underlying22 hi g 0 n cap (.string s) s.size (byteCells s) hsrc h
    (by intro j hj; rw [hz1]; rw [World.ownsRow.cellAt hfull _ (by omega)]; rw [List.getElem?_eq_getElem (by omega)]; rfl)
    (by intro j hj; exact World.ownsRow.frozenAt hfull _)
  rw [hz1] at run
  simp only [Nat.zero_add, Nat.mul_one] at run
  have st := stored_many (byteCells s) n ys W hfull (by omega)
  refine ⟨_, run, ?_, st.2⟩
  have c := cut st.1 (n := n + s.size) (by omega)
  unfold Row
  have e : (ys.take n ++ (byteCells s ++ ys.drop (n + (byteCells s).length))).take (n + s.size) = (xs ++ tx s).map (Value.int .u8) := by
    rw [hyt, ← List.append_assoc, List.map_append, ← tx_cells, List.take_left' (by simp [hbl]; exact R.len)]
  rw [e] at c
  exact c

theorem app_grows {W : World} {base g n cap : Nat} {xs : List Int} (R : Row W base g n cap xs) (s : ByteArray) (h : ¬ n + s.size ≤ cap) (hs : n + s.size ≤ 140737488355328) (hb : base ≤ W.heap.size) :
    ∃ c' W', (Builtin.append_ #[22, 9] 22 #[.slice (some ⟨g, 0, none⟩) n cap, .string s]).run Try.prog W = .ok (.slice (some ⟨W.heap.size, 0, none⟩) (n + s.size) c') W' ∧ Row W' base W.heap.size (n + s.size) c' (xs ++ tx s) ∧ W.grownBy W' none := by
  obtain ⟨i0, hi, hz0, hz1, hz2⟩ := info_parts info5
  have hsrc : Src Try.prog i0.size 9 (.string s) s.size (byteCells s) W := by rw [hz1]; exact Src.ofString W Try.underlying9 s
  have hbl : (byteCells s).length = s.size := byteCells_length s
  have hold : (Builtin.firstCells i0.size n (.slice (some ⟨g, 0, none⟩) n cap)).run Try.prog W.drew = .ok (xs.map (Value.int .u8)).toArray W.drew := by
    rw [hz1]
    refine run_firstCells_some W.drew 1 n _ n cap _ (by simp; exact R.len) ?_
    intro j u hu
    rw [addr_add, Nat.zero_add]
    have hj : j < n := by have := (List.getElem?_eq_some_iff.1 hu).1; simp at this; have := R.len; omega
    rw [List.getElem?_map] at hu
    have := R.cell j hj
    rw [List.getD_eq_getElem?_getD] at this
    have hjx : j < xs.length := by have := R.len; omega
    rw [List.getElem?_eq_getElem hjx] at this hu
    simp at this hu
    rw [← hu]
    exact this
  have run := run_append_grow_src (P := Try.prog) W 22 9 22 5 i0 (.int .u8 0) Try.underlying22 hi hz0 (some ⟨g, 0, none⟩) n cap (xs.map (Value.int .u8)) hold (.string s) s.size (byteCells s) hsrc (by omega) (by omega) (by rw [hz2, Nat.mul_one]; have := nextslicecap_le (need := n + s.size) (old := cap) (by omega); omega)
  have hge := grownCap_ge W (n + s.size) cap 5
  have hcm : grownCap W (n + s.size) cap 5 ≤ maxLen := grownCap_le_maxLen W (n + s.size) cap 5 (by unfold maxLen; omega)
  refine ⟨_, _, run, ?_, ⟨rfl, rfl, rfl, by simp, fun k hk _ => heap_alloc_old W.drew _ hk⟩⟩
  unfold Row
  refine ⟨by simp [tx_len]; exact R.len, .inr ⟨W.heap.size, _, _, rfl, hb, heap_alloc_new W.drew _, hge, hcm, ?_, ?_⟩⟩
  · simp only [Array.size_append, List.size_toArray, List.length_append, List.length_map, size_zeroCells, hbl, R.len]
    show n + s.size + (grownCap W (n + s.size) cap 5 - (n + s.size)) * 1 = _
    omega
  · simp only [Array.toList_append, List.append_assoc]
    rw [Nat.mul_one, ← List.append_assoc, tx_cells, ← List.map_append]
    exact List.take_left' (by simp [tx_len]; exact R.len)

/-! ### Bytes as strings, joined -/
theorem str_size (zs : List Int) : (str zs).size = zs.length := by
  have h : ∀ (zs : List Int) (r : ByteArray), (zs.foldl (fun r n => r.push (UInt8.ofNat n.toNat)) r).size = r.size + zs.length := by
    intro zs
    induction zs with
    | nil => intro r; simp
    | cons z t ih => intro r; simp only [List.foldl_cons, ih, List.length_cons, ByteArray.size_push]; omega
  simpa [str] using h zs ByteArray.empty
theorem str_append (xs ys : List Int) : str xs ++ str ys = str (xs ++ ys) := by
  have h : ∀ (zs : List Int) (r : ByteArray), (zs.foldl (fun r n => r.push (UInt8.ofNat n.toNat)) r) = r ++ str zs := by
    intro zs
    induction zs with
    | nil => intro r; simp [str]
    | cons z t ih =>
      intro r
      simp only [List.foldl_cons, ih]
      have e : str (z :: t) = (ByteArray.empty.push (UInt8.ofNat z.toNat)) ++ str t := by
        unfold str; simp only [List.foldl_cons]; exact ih _
      rw [e, ← ByteArray.append_assoc]
      congr 1
      apply ByteArray.ext
      simp
  unfold str
  rw [List.foldl_append]
  exact (h ys _).symm
theorem row_below {w w' : World} {base g n cap : Nat} {xs : List Int} (R : Row w base g n cap xs) (b : Below w.heap.size w w') : Row w' base g n cap xs := by
  have hlt := R.lt
  refine World.ownsRow.kept (row := none) R ⟨b.os, b.tape, b.output, b.size, fun k hk _ => b.block k hk⟩ (.inr (by simp [Value.ownBlock]))
end Go.Proofs.Ytpinknkdcecajaa.Ws

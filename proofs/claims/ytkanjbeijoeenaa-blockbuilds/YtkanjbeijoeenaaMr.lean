/- A row of bytes that []byte of a text lays (its end is marked): what it holds, stores into it, the text of it. -/
import Derived.Test.YtkanjbeijoeenaaBy
import Derived.Lib.ConvBytes
namespace Go.Proofs.Ytkanjbeijoeenaa.Mr
open Go.ChangeShapes Go.WideShapes Go.ChangeAt Go.RowKit
open Go.Proofs.Ytkanjbeijoeenaa.By
set_option linter.unusedVariables false

/-- The row: block g, room for cap; its first bytes are xs. -/
def Mrow (w : World) (g cap : Nat) (xs : List Int) : Prop :=
  ∃ cur : Array Value, w.heap[g]? = some (.cells cur 5 (cap, cap + 1)) ∧ cur.size = cap ∧ xs.length ≤ cap ∧ (∀ j, j < xs.length → cur[j]? = some (.int .u8 (xs.getD j 0)))
theorem Mrow.cell {w : World} {g cap : Nat} {xs : List Int} (h : Mrow w g cap xs) (j : Nat) (hj : j < xs.length) : w.cell? ⟨g, j, none⟩ = some (.int .u8 (xs.getD j 0)) := by
  obtain ⟨cur, h1, h2, h3, h4⟩ := h
  simp [World.cell?, h1, h4 j hj]
theorem Mrow.frozen {w : World} {g cap : Nat} {xs : List Int} (h : Mrow w g cap xs) (j : Nat) (hj : j < cap) : w.frozen? ⟨g, j, none⟩ = false := by
  obtain ⟨cur, h1, h2, h3, h4⟩ := h
  simp [World.frozen?, h1]
  omega
theorem Mrow.there {w : World} {g cap : Nat} {xs : List Int} (h : Mrow w g cap xs) (j : Nat) (hj : j < cap) : (w.cell? ⟨g, j, none⟩).isSome = true := by
  obtain ⟨cur, h1, h2, h3, h4⟩ := h
  have : cur[j]? = some cur[j] := Array.getElem?_eq_getElem (by omega)
  simp [World.cell?, h1, this]
theorem Mrow.le {w : World} {g cap : Nat} {xs : List Int} (h : Mrow w g cap xs) : xs.length ≤ cap := by
  obtain ⟨cur, h1, h2, h3, h4⟩ := h; exact h3
theorem Mrow.lt {w : World} {g cap : Nat} {xs : List Int} (h : Mrow w g cap xs) : g < w.heap.size := by
  obtain ⟨cur, h1, h2, h3, h4⟩ := h
  exact (Array.getElem?_eq_some_iff.1 h1).1
theorem Mrow.set {w : World} {g cap : Nat} {xs : List Int} (h : Mrow w g cap xs) (j : Nat) (v : Int) (hj : j < xs.length) : Mrow (w.setCell ⟨g, j, none⟩ (.int .u8 v)) g cap (xs.set j v) := by
  obtain ⟨cur, h1, h2, h3, h4⟩ := h
  refine ⟨cur.setIfInBounds j (.int .u8 v), ?_, by simpa using h2, by simpa using h3, ?_⟩
  · simp [World.setCell, Array.getElem?_modify, h1]
  · intro i hi
    rw [List.length_set] at hi
    by_cases e : j = i
    · subst e
      rw [Array.getElem?_setIfInBounds_self_of_lt (by omega)]
      simp [List.getD_eq_getElem?_getD, hj]
    · rw [Array.getElem?_setIfInBounds_ne e, h4 i hi]
      simp [List.getD_eq_getElem?_getD, List.getElem?_set_ne e]
theorem Mrow.later {w w' : World} {g cap : Nat} {xs : List Int} (h : Mrow w g cap xs) (hb : Below w.heap.size w w') : Mrow w' g cap xs := by
  have hl := h.lt
  obtain ⟨cur, h1, h2, h3, h4⟩ := h
  exact ⟨cur, (hb.block g hl).trans h1, h2, h3, h4⟩
theorem Mrow.bytes {w : World} {g cap : Nat} {xs : List Int} (h : Mrow w g cap xs) (hb : ∀ y ∈ xs, 0 ≤ y ∧ y ≤ 255) : Bytes w (some ⟨g, 0, none⟩) xs.length cap xs := by
  refine ⟨rfl, h.le, fun e => by simp at e, hb, ?_⟩
  intro x hx i hi
  simp at hx
  subst hx
  rw [addr_add, Nat.zero_add]
  exact h.cell i hi
theorem Mrow.conv {W : World} {g cap : Nat} {xs : List Int} (h : Mrow W g cap xs) :
    Sem.run Try.prog (convert 28 9 (.slice (some ⟨g, 0, none⟩) xs.length cap)) W = .ok (.string (str xs)) W :=
  conv_run W _ xs.length cap xs rfl (fun e => by simp at e) (fun x hx i hi => by simp at hx; subst hx; rw [addr_add, Nat.zero_add]; exact h.cell i hi)
/-- []byte(t). -/
theorem conv_bytes (t : ByteArray) (w : World) (ht : t.size ≤ maxLen) : ∃ (W1 : World) (cap : Nat), Sem.run Try.prog (convert 9 28 (.string t)) w = .ok (.slice (some ⟨w.heap.size, 0, none⟩) t.size cap) W1 ∧
    Mrow W1 w.heap.size cap (tx t) ∧ Below w.heap.size w W1 ∧ W1.heap.size = w.heap.size + 1 ∧ cap ≤ maxLen := by
  refine ⟨Lib.bytesWorld w 5 t, grownCap w t.size 0 5, Lib.run_convert_string_bytes w 9 28 5 t Try.underlying9 Try.underlying28 Try.underlying5, ?_, ?_, Lib.bytesWorld_size w 5 t, grownCap_le_maxLen w t.size 0 5 ht⟩
  · have hge := grownCap_ge w t.size 0 5
    have hsz : (Lib.bytesCells w 5 t).size = grownCap w t.size 0 5 := by
      simp [Lib.bytesCells]
      omega
    refine ⟨Lib.bytesCells w 5 t, ?_, hsz, by rw [tx_len]; exact hge, ?_⟩
    · rw [Lib.bytesWorld_at_new, hsz]
    · intro j hj
      rw [tx_len] at hj
      simp [Lib.bytesCells, Array.getElem?_append, hj, tx, List.getD_eq_getElem?_getD]
  · refine ⟨rfl, rfl, rfl, by rw [Lib.bytesWorld_size]; omega, fun k hk => Lib.bytesWorld_at_old w 5 t k hk⟩

/-! ### Texts as bytes and back -/
theorem str_data (zs : List Int) : (str zs).data.toList = zs.map (fun n => UInt8.ofNat n.toNat) := by
  have h : ∀ (zs : List Int) (r : ByteArray), (zs.foldl (fun r n => r.push (UInt8.ofNat n.toNat)) r).data.toList = r.data.toList ++ zs.map (fun n => UInt8.ofNat n.toNat) := by
    intro zs
    induction zs with
    | nil => intro r; simp
    | cons z t ih => intro r; rw [List.foldl_cons, ih]; simp [ByteArray.push]
  have := h zs ByteArray.empty
  simpa [str] using this
theorem byte_eq {a b : ByteArray} (h : a.data.toList = b.data.toList) : a = b := by
  obtain ⟨⟨la⟩⟩ := a
  obtain ⟨⟨lb⟩⟩ := b
  simp at h
  rw [h]
theorem str_tx (s : ByteArray) : str (tx s) = s := by
  apply byte_eq
  rw [str_data]
  unfold tx
  rw [List.map_map]
  conv => rhs; rw [← List.map_id s.data.toList]
  apply List.map_congr_left
  intro b _
  simp
theorem extract_data (s : ByteArray) (n : Nat) : (s.extract 0 n).data.toList = s.data.toList.take n := by
  simp
end Go.Proofs.Ytkanjbeijoeenaa.Mr

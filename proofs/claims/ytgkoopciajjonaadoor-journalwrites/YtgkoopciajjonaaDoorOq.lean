/- A slice of slices of bytes that came in, opened. -/
import Derived.Test.YtgkoopciajjonaaDoorWn
import Derived.Deep.Matrix
namespace Go.Proofs.YtgkoopciajjonaaDoor.Oq
open Go.ChangeShapes Go.WideShapes Go.ChangeAt Go.RowKit
open Go.Proofs.YtgkoopciajjonaaDoor.Ck
open Go.Proofs.YtgkoopciajjonaaDoor.Rc
open Go.Proofs.YtgkoopciajjonaaDoor.Wn
set_option linter.unusedVariables false

theorem u8_bd {y : Int} (h : (Lit.int .u8 y).wf = true) : 0 ≤ y ∧ y ≤ 255 := by
  simpa [Lit.wf, IntKind.min, IntKind.max, IntKind.signed, IntKind.bits] using h
theorem bulk_pos {H : Type} (d : DataW H) : 1 ≤ Rows.uptoBulk d := by
  cases d with
  | lit l => cases l <;> simp [Rows.uptoBulk]
  | nil => simp [Rows.uptoBulk]
  | ptr d => simp [Rows.uptoBulk]
  | slice elems spare => simp [Rows.uptoBulk]
  | agg parts => simp [Rows.uptoBulk]
  | iface t d => simp [Rows.uptoBulk]
  | map entries => simp [Rows.uptoBulk]
  | held h => simp [Rows.uptoBulk]
theorem bulk_len {H : Type} (l : List (DataW H)) : l.length ≤ Rows.uptoBulkAll l := by
  induction l with
  | nil => simp [Rows.uptoBulkAll]
  | cons x r ih => have := bulk_pos x; simp only [Rows.uptoBulkAll, List.length_cons]; omega
theorem row_bulk {H : Type} (A : Option Addr) (L : Nat) (Z : List Int) (h : L ≤ Z.length) (h0 : A = none → L = 0) : L + 1 ≤ Rows.uptoBulk (H := H) (Deep.intRow .u8 A L Z) := by
  cases A with
  | none => rw [h0 rfl]; exact bulk_pos _
  | some a =>
    have := bulk_len (lits (H := H) .u8 (Z.take L))
    simp only [Deep.intRow, Rows.uptoBulk]
    simp only [lits, List.length_map, List.length_take] at this
    simp only [lits]
    omega
theorem all_bulk {H : Type} (D : Nat → DataW H) (f : Nat → Sl) : ∀ l : List Nat, (∀ i ∈ l, (f i).len + 1 ≤ Rows.uptoBulk (D i)) → wt (l.map f) ≤ Rows.uptoBulkAll (l.map D)
  | [], _ => by simp [wt, Rows.uptoBulkAll]
  | i :: l, h => by
    have h1 := all_bulk D f l (fun j hj => h j (by simp [hj]))
    have h2 := h i (by simp)
    simp only [wt, List.map_cons, List.sum_cons, Rows.uptoBulkAll] at h1 ⊢
    omega
theorem open_recs {H : Type} {enc : TypeId × Value → H} {W : World} {a : Option Addr} {len cap fuel : Nat} {d : DataW H} {p : List MemPlace}
    (hf : DataW.trod enc Tryd.prog W 0 (fun _ => true) true fuel 22 (Value.slice a len cap).cells.toList = some (d, p)) : ∃ rs, Recs W a len cap rs ∧ wt rs ≤ Rows.uptoBulk d := by
  rcases Deep.open_int_rows Tryd.underlying22 Tryd.underlying31 Tryd.underlying5 (by kernel_rfl) (by kernel_rfl) hf with ⟨hcs, _⟩ | ⟨ad, l, c, A, L, C, Z, hcs, hb, hl, hm, hx, hr⟩
  · simp [Value.cells] at hcs
    obtain ⟨rfl, rfl, rfl⟩ := hcs
    exact ⟨[], ⟨rfl, Nat.le_refl _, fun _ => ⟨rfl, rfl⟩, fun _ h => by simp at h, fun _ h => by simp at h⟩, by simp [wt]⟩
  · simp [Value.cells] at hcs
    obtain ⟨rfl, rfl, rfl⟩ := hcs
    have hd : d = .slice ((List.range len).map fun r => Deep.intRow .u8 (A r) (L r) (Z r)) ((List.range (cap - len)).map fun j => Deep.intRow .u8 (A (len + j)) (L (len + j)) (Z (len + j))) := (Prod.mk.inj hx).1
    refine ⟨(List.range len).map fun r => ⟨A r, L r, C r, (Z r).take (L r)⟩, ⟨by simp, hl, fun e => by simp at e, ?_, ?_⟩, ?_⟩
    · intro x hx i s hs
      simp at hx
      subst hx
      rw [List.getElem?_map] at hs
      by_cases hi : i < len
      · rw [List.getElem?_range hi] at hs
        simp at hs
        subst hs
        exact (hr i (by omega)).1
      · rw [List.getElem?_eq_none (by simpa using hi)] at hs
        simp at hs
    · intro s hs
      obtain ⟨i, hi, rfl⟩ := List.mem_map.1 hs
      have hi2 : i < len := by simpa using hi
      obtain ⟨h1, h2, h3, h4, h5, h6, h7⟩ := hr i (by omega)
      refine ⟨by simp; omega, h2, fun e => ?_, fun y hy => u8_bd (h5 y (List.mem_of_mem_take hy)), ?_⟩
      · have := h6 e
        show L i = 0 ∧ C i = 0
        exact ⟨by omega, this⟩
      · intro x hx j hj
        simp only at hx hj ⊢
        rw [(h7 x hx).2 j (by omega)]
        simp [List.getD_eq_getElem?_getD, hj]
    · rw [hd]
      simp only [Rows.uptoBulk]
      have := all_bulk (H := H) (fun r => Deep.intRow .u8 (A r) (L r) (Z r)) (fun r => ⟨A r, L r, C r, (Z r).take (L r)⟩) (List.range len) (fun i hi => by
        have hi2 : i < len := by simpa using hi
        obtain ⟨h1, h2, h3, h4, h5, h6, h7⟩ := hr i (by omega)
        exact row_bulk (A i) (L i) (Z i) (by omega) (fun e => by have := h6 e; omega))
      omega
end Go.Proofs.YtgkoopciajjonaaDoor.Oq

/- A call of a disk that came in, opened. -/
import Derived.Test.YtgffojafdjcdoaaAc
import Derived.ShutString
import Derived.ChangeOld
import Derived.Below
import Derived.SizedLaws
import Derived.Lib.SmallJoins
namespace Go.Proofs.Ytgffojafdjcdoaa.Ao
open Go.ChangeShapes Go.WideShapes Go.ChangeAt Go.RowKit Go.Joins
open Go.Proofs.Ytgffojafdjcdoaa.By
open Go.Proofs.Ytgffojafdjcdoaa.Ln
open Go.Proofs.Ytgffojafdjcdoaa.Ac
set_option linter.unusedVariables false

theorem u8_bd {y : Int} (h : (Lit.int .u8 y).wf = true) : 0 ≤ y ∧ y ≤ 255 := by
  simpa [Lit.wf, IntKind.min, IntKind.max, IntKind.signed, IntKind.bits] using h
theorem i64_bd {v : Int} (h : (Lit.int .i64 v).wf = true) : -9223372036854775808 ≤ v ∧ v ≤ 9223372036854775807 := by
  simpa [Lit.wf, IntKind.min, IntKind.max, IntKind.signed, IntKind.bits] using h
theorem open_bytesw {H : Type} {enc : TypeId × Value → H} {W : World} {v : Value} {fuel : Nat} {y : DataW H × List MemPlace} (hf : DataW.trod enc Try.prog W 0 (fun _ => true) true fuel 32 [v] = some y) (hs : ∀ m ∈ y.1.weights Try.prog 32, m ≤ reachBytes) :
    ∃ a len cap zs, v = .slice a len cap ∧ Bytes W a len cap zs ∧ cap ≤ 140737488351232 := by
  rcases open_ints Try.underlying32 Try.underlying5 (by kernel_rfl) hf with ⟨hcs, _⟩ | ⟨x, l, c, zs, hcs, _, hl, hm, hz, hx, hcell, hwz⟩
  · simp at hcs
    subst hcs
    exact ⟨none, 0, 0, [], rfl, nil_bytes W, by omega⟩
  · simp at hcs
    subst hcs
    have hd : y.1 = .slice (lits .u8 (zs.take l)) (lits .u8 (zs.drop l)) := (Prod.mk.inj hx).1
    have hz' : zs.length = c := by simpa using hz
    have sz := hs _ (by rw [hd]; simp only [DataW.weights, Try.underlying32]; exact List.mem_cons_self ..)
    rw [show Try.prog.bytesOf 5 = 1 from by kernel_rfl] at sz
    simp only [lits, List.length_map, List.length_take, List.length_drop, reachBytes] at sz
    refine ⟨some x, l, c, zs.take l, rfl, ⟨by rw [List.length_take]; omega, hl, fun e => by simp at e, fun y hy => u8_bd (hwz y (List.mem_of_mem_take hy)), ?_⟩, by omega⟩
    intro x' hx' j hj
    simp at hx'
    subst hx'
    rw [hcell j (by omega)]
    simp [List.getD_eq_getElem?_getD, hj]
theorem open_intsw {H : Type} {enc : TypeId × Value → H} {W : World} {v : Value} {fuel : Nat} {y : DataW H × List MemPlace} (hf : DataW.trod enc Try.prog W 0 (fun _ => true) true fuel 33 [v] = some y) (hs : ∀ m ∈ y.1.weights Try.prog 33, m ≤ reachBytes) :
    ∃ a len cap zs, v = .slice a len cap ∧ Ints W a len cap zs ∧ cap ≤ 140737488351232 / 8 := by
  rcases open_ints Try.underlying33 Try.underlying3 (by kernel_rfl) hf with ⟨hcs, _⟩ | ⟨x, l, c, zs, hcs, _, hl, hm, hz, hx, hcell, hwz⟩
  · simp at hcs
    subst hcs
    exact ⟨none, 0, 0, [], rfl, ints_nil W, by omega⟩
  · simp at hcs
    subst hcs
    have hd : y.1 = .slice (lits .i64 (zs.take l)) (lits .i64 (zs.drop l)) := (Prod.mk.inj hx).1
    have hz' : zs.length = c := by simpa using hz
    have sz := hs _ (by rw [hd]; simp only [DataW.weights, Try.underlying33]; exact List.mem_cons_self ..)
    rw [show Try.prog.bytesOf 3 = 8 from by kernel_rfl] at sz
    simp only [lits, List.length_map, List.length_take, List.length_drop, reachBytes] at sz
    refine ⟨some x, l, c, zs.take l, rfl, ⟨by rw [List.length_take]; omega, hl, fun e => by simp at e, fun y hy => i64_bd (hwz y (List.mem_of_mem_take hy)), ?_⟩, by omega⟩
    intro x' hx' j hj
    simp at hx'
    subst hx'
    rw [hcell j (by omega)]
    simp [List.getD_eq_getElem?_getD, hj]
set_option maxRecDepth 100000 in
theorem open_act {H : Type} {enc : TypeId × Value → H} {W : World} {n : Nat} {cs : List Value} {x : DataW H × List MemPlace}
    (ht : DataW.trod enc Try.prog W 0 (fun _ => true) true n 35 cs = some x) (hs : ∀ m ∈ x.1.weights Try.prog 35, m ≤ reachBytes) : ∃ a : A, a.ok W ∧ cs = a.cells.toList := by
  obtain ⟨ys, n', _, hx, hlen, hl7, hf⟩ := DataW.trod_struct Try.underlying35 ht
  rw [show Try.prog.cellsOf 35 = 7 from by kernel_rfl] at hlen
  match ys, hl7 with
  | [y0, y1, y2, y3, y4, y5, y6], _ =>
    have h0 := hf 0 _ rfl
    have h1 := hf 1 _ rfl
    have h2 := hf 2 _ rfl
    have h3 := hf 3 _ rfl
    have h4 := hf 4 _ rfl
    have h5 := hf 5 _ rfl
    have h6 := hf 6 _ rfl
    change DataW.trod enc Try.prog W 0 _ true n' 3 ((cs.drop 0).take (Try.prog.cellsOf 3)) = some y0 at h0
    change DataW.trod enc Try.prog W 0 _ true n' 9 ((cs.drop 1).take (Try.prog.cellsOf 9)) = some y1 at h1
    change DataW.trod enc Try.prog W 0 _ true n' 9 ((cs.drop 2).take (Try.prog.cellsOf 9)) = some y2 at h2
    change DataW.trod enc Try.prog W 0 _ true n' 32 ((cs.drop 3).take (Try.prog.cellsOf 32)) = some y3 at h3
    change DataW.trod enc Try.prog W 0 _ true n' 3 ((cs.drop 4).take (Try.prog.cellsOf 3)) = some y4 at h4
    change DataW.trod enc Try.prog W 0 _ true n' 3 ((cs.drop 5).take (Try.prog.cellsOf 3)) = some y5 at h5
    change DataW.trod enc Try.prog W 0 _ true n' 33 ((cs.drop 6).take (Try.prog.cellsOf 33)) = some y6 at h6
    rw [show Try.prog.cellsOf 3 = 1 from by kernel_rfl] at h0 h4 h5
    rw [show Try.prog.cellsOf 9 = 1 from by kernel_rfl] at h1 h2
    rw [show Try.prog.cellsOf 32 = 1 from by kernel_rfl] at h3
    rw [show Try.prog.cellsOf 33 = 1 from by kernel_rfl] at h6
    match cs, hlen with
    | [c0, c1, c2, c3, c4, c5, c6], _ =>
      simp only [List.drop_zero, List.drop_succ_cons, List.take_succ_cons, List.take_zero] at h0 h1 h2 h3 h4 h5 h6
      have hx1 : x.1 = .agg [y0.1, y1.1, y2.1, y3.1, y4.1, y5.1, y6.1] := by rw [hx]; rfl
      have hw3 : ∀ m ∈ y3.1.weights Try.prog 32, m ≤ reachBytes := fun q hq => hs q (by rw [hx1]; simp only [DataW.weights, Try.underlying35]; exact DataW.weights_mem_each (j := 3) (d := y3.1) rfl rfl q hq)
      have hw6 : ∀ m ∈ y6.1.weights Try.prog 33, m ≤ reachBytes := fun q hq => hs q (by rw [hx1]; simp only [DataW.weights, Try.underlying35]; exact DataW.weights_mem_each (j := 6) (d := y6.1) rfl rfl q hq)
      obtain ⟨x0, e0, _, w0⟩ := DataW.trod_int Try.underlying3 h0
      obtain ⟨x1, e1, _, w1⟩ := DataW.trod_string Try.underlying9 h1
      obtain ⟨x2, e2, _, w2⟩ := DataW.trod_string Try.underlying9 h2
      obtain ⟨x4, e4, _, w4⟩ := DataW.trod_int Try.underlying3 h4
      obtain ⟨x5, e5, _, w5⟩ := DataW.trod_int Try.underlying3 h5
      obtain ⟨a3, l3, k3, z3, e3, B3, C3⟩ := open_bytesw h3 hw3
      obtain ⟨a6, l6, k6, z6, e6, B6, C6⟩ := open_intsw h6 hw6
      simp only [List.cons.injEq, and_true] at e0 e1 e2 e4 e5
      subst e0 e1 e2 e3 e4 e5 e6
      exact ⟨⟨x0, x1, x2, a3, l3, k3, z3, x4, x5, a6, l6, k6, z6⟩, ⟨i64_bd w0, i64_bd w4, i64_bd w5, B3, B6, by have := B3.2.1; show l3 ≤ _; omega, by have := B6.2.1; show l6 ≤ _; omega⟩, rfl⟩
end Go.Proofs.Ytgffojafdjcdoaa.Ao

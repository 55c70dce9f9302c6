/- A slice of the law's acts that came in, opened. -/
import Derived.Test.YtefihoohdaegeaaFl
import Derived.ShutString
import Derived.ChangeOld
import Derived.Below
import Derived.SizedLaws
import Derived.Lib.SmallJoins
namespace Go.Proofs.Ytefihoohdaegeaa.Oa
open Go.ChangeShapes Go.WideShapes Go.ChangeAt Go.RowKit Go.Joins
open Go.Proofs.Ytefihoohdaegeaa.Fl
set_option linter.unusedVariables false

theorem addr_add (b off n : Nat) : (⟨b, off, none⟩ : Addr).add n = ⟨b, off + n, none⟩ := by
  unfold Addr.add; split <;> simp_all
theorem cellsP : Try.prog.cellsOf 34 = 6 := by kernel_rfl
theorem cellsO : Try.prog.cellsOf 32 = 3 := by kernel_rfl
theorem cellsS : Try.prog.cellsOf 9 = 1 := by kernel_rfl
theorem cellsU : Try.prog.cellsOf 27 = 1 := by kernel_rfl
theorem cellsI : Try.prog.cellsOf 3 = 1 := by kernel_rfl
theorem u64_bd {v : Int} (h : (Lit.int .u64 v).wf = true) : 0 ≤ v ∧ v ≤ 18446744073709551615 := by
  simpa [Lit.wf, IntKind.min, IntKind.max, IntKind.signed, IntKind.bits] using h
theorem i64_bd {v : Int} (h : (Lit.int .i64 v).wf = true) : -9223372036854775808 ≤ v ∧ v ≤ 9223372036854775807 := by
  simpa [Lit.wf, IntKind.min, IntKind.max, IntKind.signed, IntKind.bits] using h
theorem struct4 {H : Type} {enc : TypeId × Value → H} {P : Program} {w : World} {base : Nat} {spare : Nat → Bool} {held : Bool} {t : TypeId} {f0 f1 f2 f3 : Field} {fuel : Nat} {cs : List Value} {x : DataW H × List MemPlace} (ht : P.underlying t = some (.struct #[f0, f1, f2, f3])) (h : DataW.trod enc P w base spare held fuel t cs = some x) :
    ∃ y0 y1 y2 y3 n, DataW.trod enc P w base spare held n f0.type ((cs.drop f0.offset).take (P.cellsOf f0.type)) = some y0 ∧
      DataW.trod enc P w base spare held n f1.type ((cs.drop f1.offset).take (P.cellsOf f1.type)) = some y1 ∧ DataW.trod enc P w base spare held n f2.type ((cs.drop f2.offset).take (P.cellsOf f2.type)) = some y2 ∧
      DataW.trod enc P w base spare held n f3.type ((cs.drop f3.offset).take (P.cellsOf f3.type)) = some y3 := by
  obtain ⟨xs, n, _, rfl, hl, hlen, hf⟩ := DataW.trod_struct ht h
  match xs, hlen with
  | [y0, y1, y2, y3], _ => exact ⟨y0, y1, y2, y3, n, by simpa using hf 0 f0 rfl, by simpa using hf 1 f1 rfl, by simpa using hf 2 f2 rfl, by simpa using hf 3 f3 rfl⟩
/-- The parts of a step. -/
theorem act_parts {H : Type} {enc : TypeId × Value → H} {W : World} {sp : Nat → Bool} {n : Nat} {cs : List Value} {x : DataW H × List MemPlace} (hlen : cs.length = 6)
    (ht : DataW.trod enc Try.prog W 0 sp true n 34 cs = some x) : ∃ e : A6, e.ok ∧ cs = [.int .i64 e.kd, .int .i64 e.ht, .int .u64 e.sq, .int .i64 e.c, .string e.k, .string e.v] := by
  obtain ⟨y0, y1, y2, y3, m, h0, h1, h2, h3⟩ := struct4 Try.underlying34 ht
  rw [cellsI] at h0 h1
  rw [cellsU] at h2
  rw [cellsO] at h3
  obtain ⟨z0, z1, z2, m2, _, _, k0, k1, k2⟩ := Deep.trod_struct3 Try.underlying32 h3
  rw [cellsI] at k0
  rw [cellsS] at k1 k2
  match cs, hlen with
  | [c0, c1, c2, c3, c4, c5], _ =>
    simp only [List.drop_zero, List.drop_succ_cons, List.take_succ_cons, List.take_zero] at k0 k1 k2 h0 h1 h2
    obtain ⟨kd, e0, _, w0⟩ := DataW.trod_int Try.underlying3 h0
    obtain ⟨hi, e1, _, w1⟩ := DataW.trod_int Try.underlying3 h1
    obtain ⟨sq, e2, _, w2⟩ := DataW.trod_int Try.underlying27 h2
    obtain ⟨c, e3, _, w3⟩ := DataW.trod_int Try.underlying3 k0
    obtain ⟨k, e4, _, w4⟩ := DataW.trod_string Try.underlying9 k1
    obtain ⟨v, e5, _, w5⟩ := DataW.trod_string Try.underlying9 k2
    simp only [List.cons.injEq, and_true] at e0 e1 e2 e3 e4 e5
    subst e0 e1 e2 e3 e4 e5
    exact ⟨⟨kd, hi, sq, c, k, v⟩, ⟨w4, w5, u64_bd w2, i64_bd w1, i64_bd w0⟩, rfl⟩
theorem open_act {H : Type} {enc : TypeId × Value → H} {W : World} {sp : Nat → Bool} {n : Nat} {ad : Addr} {cs : List Value} {x : DataW H × List MemPlace}
    (hc : W.cells? 0 ad 6 = some cs) (ht : DataW.trod enc Try.prog W 0 sp true n 34 cs = some x) : ∃ e : A6, e.ok ∧ ad.spot = none ∧ At6 W ad.block ad.off e := by
  obtain ⟨_, hlen, hcell⟩ := World.cells?_some hc
  obtain ⟨e, hok, rfl⟩ := act_parts hlen ht
  have q0 := hcell 0 (by omega)
  have q1 := hcell 1 (by omega)
  have q2 := hcell 2 (by omega)
  have q3 := hcell 3 (by omega)
  have q4 := hcell 4 (by omega)
  have q5 := hcell 5 (by omega)
  obtain ⟨b, o, sp'⟩ := ad
  have hsp : sp' = none := by simpa [Addr.add] using World.cell?_spot q0
  subst hsp
  rw [addr_add] at q0 q1 q2 q3 q4 q5
  exact ⟨e, hok, rfl, q0, q1, q2, q3, q4, q5⟩
set_option maxRecDepth 100000 in
theorem act_value {H : Type} {enc : TypeId × Value → H} {W : World} {sp : Nat → Bool} {n : Nat} {r : Reach} {b0 : Nat} {v : Value} {x : DataW H × List MemPlace}
    (hv : Value.okWide Try.prog W r b0 34 v) (ht : DataW.trod enc Try.prog W 0 sp true n 34 v.cells.toList = some x) : ∃ e : A6, e.ok ∧ v = .agg #[.int .i64 e.kd, .int .i64 e.ht, .int .u64 e.sq, .int .i64 e.c, .string e.k, .string e.v] := by
  obtain ⟨cs, rfl, hsz⟩ := okWide_struct Try.underlying34 hv
  rw [cellsP] at hsz
  obtain ⟨e, hok, he⟩ := act_parts (cs := cs.toList) (by simpa using hsz) (by simpa [Value.cells] using ht)
  exact ⟨e, hok, by rw [← Array.toArray_toList (xs := cs), he]⟩
theorem open_acts {H : Type} {enc : TypeId × Value → H} {W : World} {sp : Nat → Bool} {fuel : Nat} {a : Option Addr} {len cap : Nat} {x : DataW H × List MemPlace}
    (hf : DataW.trod enc Try.prog W 0 sp true fuel 22 [.slice a len cap] = some x) : (∃ xs, Acts W a len cap xs) ∧ ((len = 0 ∧ cap = 0) ∨ ∃ l r, x.1 = .slice l r ∧ l.length = len) := by
  rcases Deep.open_slice Try.underlying22 hf with ⟨hcs, hx⟩ | ⟨ad, l, c, m, n, D, Pl, hcs, hb, hl, hm, hmm, hx, hcell⟩
  · simp at hcs
    obtain ⟨rfl, rfl, rfl⟩ := hcs
    exact ⟨⟨[], rfl, Nat.le_refl _, fun _ => ⟨rfl, rfl⟩, fun _ h => (by simp at h), fun _ _ _ h => by simp at h⟩, .inl ⟨rfl, rfl⟩⟩
  · simp at hcs
    obtain ⟨rfl, rfl, rfl⟩ := hcs
    rw [cellsP] at hcell
    have hml : len ≤ m := by rw [hmm]; split <;> omega
    refine ⟨?_, .inr ⟨(List.range len).map D, (List.range (m - len)).map fun j => D (len + j), by rw [hx], by simp⟩⟩
    · haveI : Inhabited A6 := ⟨za⟩
      obtain ⟨f, hfn⟩ := Deep.choose_lt (n := len) (p := fun i (e : A6) => e.ok ∧ (ad.add (i * 6)).spot = none ∧ At6 W (ad.add (i * 6)).block (ad.add (i * 6)).off e) (fun i hi => by
        obtain ⟨cs', h1, h2⟩ := hcell i (by omega)
        exact open_act h1 h2)
      refine ⟨(List.range len).map f, by simp, hl, fun e => by simp at e, ?_, ?_⟩
      · intro x hx
        obtain ⟨i, hi, rfl⟩ := List.mem_map.1 hx
        exact (hfn i (by simpa using hi)).1
      · intro b o p hp h0
        simp at hp
        subst hp
        have hp : p = none := by
          have := (hfn 0 h0).2.1
          simpa [Addr.add] using this
        subst hp
        refine ⟨rfl, fun i hi => ?_⟩
        have := (hfn i hi).2.2
        rw [addr_add] at this
        simpa [List.getD_eq_getElem?_getD, hi] using this
end Go.Proofs.Ytefihoohdaegeaa.Oa

/- Tombs, a slice of them and the law's Ask that came in, opened. -/
import Derived.Test.YtfmpdalabgfigabTm
import Derived.ShutString
import Derived.ChangeOld
import Derived.Below
import Derived.SizedLaws
import Derived.Lib.SmallJoins
namespace Go.Proofs.Ytfmpdalabgfigab.Op
open Go.ChangeShapes Go.WideShapes Go.ChangeAt Go.RowKit Go.Joins
open Go.Proofs.Ytfmpdalabgfigab.Tm
set_option linter.unusedVariables false

theorem cellsT : Try.prog.cellsOf 25 = 3 := by kernel_rfl
theorem cellsS : Try.prog.cellsOf 9 = 1 := by kernel_rfl
theorem cellsU : Try.prog.cellsOf 23 = 1 := by kernel_rfl
theorem cellsI : Try.prog.cellsOf 3 = 1 := by kernel_rfl
theorem u64_bd {v : Int} (h : (Lit.int .u64 v).wf = true) : 0 ≤ v ∧ v ≤ 18446744073709551615 := by
  simpa [Lit.wf, IntKind.min, IntKind.max, IntKind.signed, IntKind.bits] using h
theorem i64_bd {v : Int} (h : (Lit.int .i64 v).wf = true) : -9223372036854775808 ≤ v ∧ v ≤ 9223372036854775807 := by
  simpa [Lit.wf, IntKind.min, IntKind.max, IntKind.signed, IntKind.bits] using h
theorem open_tomb {H : Type} {enc : TypeId × Value → H} {W : World} {sp : Nat → Bool} {n : Nat} {ad : Addr} {cs : List Value} {x : DataW H × List MemPlace}
    (hc : W.cells? 0 ad 3 = some cs) (ht : DataW.trod enc Try.prog W 0 sp true n 25 cs = some x) : ∃ e : T, e.ok ∧ ad.spot = none ∧ At3 W ad.block ad.off e := by
  obtain ⟨_, hlen, hcell⟩ := World.cells?_some hc
  obtain ⟨z0, z1, z2, m2, _, _, k0, k1, k2⟩ := Deep.trod_struct3 Try.underlying25 ht
  rw [cellsS] at k0 k1
  rw [cellsU] at k2
  match cs, hlen with
  | [c0, c1, c2], _ =>
    simp only [List.drop_zero, List.drop_succ_cons, List.take_succ_cons, List.take_zero] at k0 k1 k2
    obtain ⟨k, e0, _, w0⟩ := DataW.trod_string Try.underlying9 k0
    obtain ⟨v, e1, _, w1⟩ := DataW.trod_string Try.underlying9 k1
    obtain ⟨s, e2, _, w2⟩ := DataW.trod_int Try.underlying23 k2
    simp only [List.cons.injEq, and_true] at e0 e1 e2
    subst e0 e1 e2
    have q0 := hcell 0 (by omega)
    have q1 := hcell 1 (by omega)
    have q2 := hcell 2 (by omega)
    obtain ⟨b, o, sp'⟩ := ad
    have hsp : sp' = none := by simpa [Addr.add] using World.cell?_spot q0
    subst hsp
    rw [addr_add] at q0 q1 q2
    exact ⟨⟨k, v, s⟩, ⟨u64_bd w2, w0, w1⟩, rfl, q0, q1, q2⟩
theorem open_tombs {H : Type} {enc : TypeId × Value → H} {W : World} {sp : Nat → Bool} {fuel : Nat} {a : Option Addr} {len cap : Nat} {x : DataW H × List MemPlace}
    (hf : DataW.trod enc Try.prog W 0 sp true fuel 22 [.slice a len cap] = some x) : (∃ xs, Tbs W a len cap xs) ∧ ((len = 0 ∧ cap = 0) ∨ ∃ l r, x.1 = .slice l r ∧ l.length = len) := by
  rcases Deep.open_slice Try.underlying22 hf with ⟨hcs, hx⟩ | ⟨ad, l, c, m, n, D, Pl, hcs, hb, hl, hm, hmm, hx, hcell⟩
  · simp at hcs
    obtain ⟨rfl, rfl, rfl⟩ := hcs
    exact ⟨⟨[], rfl, Nat.le_refl _, fun _ => ⟨rfl, rfl⟩, fun _ h => (by simp at h), fun _ _ _ h => by simp at h⟩, .inl ⟨rfl, rfl⟩⟩
  · simp at hcs
    obtain ⟨rfl, rfl, rfl⟩ := hcs
    rw [cellsT] at hcell
    have hml : len ≤ m := by rw [hmm]; split <;> omega
    refine ⟨?_, .inr ⟨(List.range len).map D, (List.range (m - len)).map fun j => D (len + j), by rw [hx], by simp⟩⟩
    · haveI : Inhabited T := ⟨zt⟩
      obtain ⟨f, hfn⟩ := Deep.choose_lt (n := len) (p := fun i (e : T) => e.ok ∧ (ad.add (i * 3)).spot = none ∧ At3 W (ad.add (i * 3)).block (ad.add (i * 3)).off e) (fun i hi => by
        obtain ⟨cs', h1, h2⟩ := hcell i (by omega)
        exact open_tomb h1 h2)
      refine ⟨(List.range len).map f, by simp, hl, fun e => by simp at e, ?_, ?_⟩
      · intro x hx
        obtain ⟨i, hi, rfl⟩ := List.mem_map.1 hx
        exact (hfn i (by simpa using hi)).1
      · intro b o p hp h0
        simp at hp
        subst hp
        have hp : p = none := by
          have := (hfn 0 h0).2.1
          simpa [Addr.add] using this
        subst hp
        refine ⟨rfl, fun i hi => ?_⟩
        have := (hfn i hi).2.2
        rw [addr_add] at this
        simpa [List.getD_eq_getElem?_getD, hi] using this
--[b9
theorem struct5 {H : Type} {enc : TypeId × Value → H} {P : Program} {w : World} {base : Nat} {spare : Nat → Bool} {held : Bool} {t : TypeId} {f0 f1 f2 f3 f4 : Field} {fuel : Nat} {cs : List Value} {x : DataW H × List MemPlace} (ht : P.underlying t = some (.struct #[f0, f1, f2, f3, f4])) (h : DataW.trod enc P w base spare held fuel t cs = some x) :
    ∃ y0 y1 y2 y3 y4 n, DataW.trod enc P w base spare held n f0.type ((cs.drop f0.offset).take (P.cellsOf f0.type)) = some y0 ∧
      DataW.trod enc P w base spare held n f1.type ((cs.drop f1.offset).take (P.cellsOf f1.type)) = some y1 ∧ DataW.trod enc P w base spare held n f2.type ((cs.drop f2.offset).take (P.cellsOf f2.type)) = some y2 ∧
      DataW.trod enc P w base spare held n f3.type ((cs.drop f3.offset).take (P.cellsOf f3.type)) = some y3 ∧ DataW.trod enc P w base spare held n f4.type ((cs.drop f4.offset).take (P.cellsOf f4.type)) = some y4 := by
  obtain ⟨xs, n, _, rfl, hl, hlen, hf⟩ := DataW.trod_struct ht h
  match xs, hlen with
  | [y0, y1, y2, y3, y4], _ => exact ⟨y0, y1, y2, y3, y4, n, by simpa using hf 0 f0 rfl, by simpa using hf 1 f1 rfl, by simpa using hf 2 f2 rfl, by simpa using hf 3 f3 rfl, by simpa using hf 4 f4 rfl⟩
theorem five {cs : Array Value} (h : cs.size = 5) : ∃ c0 c1 c2 c3 c4, cs = #[c0, c1, c2, c3, c4] := by
  obtain ⟨l⟩ := cs
  match l, h with
  | [c0, c1, c2, c3, c4], _ => exact ⟨c0, c1, c2, c3, c4, rfl⟩
theorem cellsA : Try.prog.cellsOf 36 = 5 := by kernel_rfl
set_option maxRecDepth 100000 in
theorem open_ask {H : Type} {enc : TypeId × Value → H} {W : World} {base : Nat} {sp : Nat → Bool} {v : Value} {d : DataW H} {p : List MemPlace} (hv : Value.okWide Try.prog W .any base 36 v) (h : DataW.Trod enc Try.prog W 0 sp true 36 v d p) :
    ∃ (k : ByteArray) (q : Int) (l m : ByteArray) (st : Int), v = .agg #[.string k, .int .u64 q, .string l, .string m, .int .i64 st] ∧ l.size ≤ maxLen ∧ m.size ≤ maxLen ∧ (0 ≤ q ∧ q ≤ 18446744073709551615) ∧ (-9223372036854775808 ≤ st ∧ st ≤ 9223372036854775807) := by
  obtain ⟨cs, rfl, hsz⟩ := okWide_struct Try.underlying36 hv
  have h5 : cs.size = 5 := by rw [hsz]; exact cellsA
  obtain ⟨c0, c1, c2, c3, c4, rfl⟩ := five h5
  obtain ⟨fuel, hf⟩ := h
  obtain ⟨y0, y1, y2, y3, y4, n, h0, h1, h2, h3, h4⟩ := struct5 Try.underlying36 hf
  rw [cellsS] at h0 h2 h3
  rw [cellsU] at h1
  rw [cellsI] at h4
  simp only [Value.cells, List.drop_zero, List.drop_succ_cons, List.take_succ_cons, List.take_zero] at h0 h1 h2 h3 h4
  obtain ⟨k, e0, _, w0⟩ := DataW.trod_string Try.underlying9 h0
  obtain ⟨q, e1, _, w1⟩ := DataW.trod_int Try.underlying23 h1
  obtain ⟨l, e2, _, w2⟩ := DataW.trod_string Try.underlying9 h2
  obtain ⟨m, e3, _, w3⟩ := DataW.trod_string Try.underlying9 h3
  obtain ⟨st, e4, _, w4⟩ := DataW.trod_int Try.underlying3 h4
  simp only [List.cons.injEq, and_true] at e0 e1 e2 e3 e4
  subst e0 e1 e2 e3 e4
  exact ⟨k, q, l, m, st, rfl, w2, w3, u64_bd w1, i64_bd w4⟩
--]b9
end Go.Proofs.Ytfmpdalabgfigab.Op

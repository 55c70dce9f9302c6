/- A slice of operations that came in, opened. -/
import Derived.Test.YtmceanfgcehfeabOs
import Derived.ShutString
import Derived.ChangeOld
import Derived.Below
import Derived.SizedLaws
import Derived.Lib.SmallJoins
import Derived.Deep.Slices
import Derived.Deep.Strs
namespace Go.Proofs.Ytmceanfgcehfeab.Ob
open Go.ChangeShapes Go.WideShapes Go.ChangeAt Go.RowKit Go.Joins
set_option linter.unusedVariables false

theorem cellsOp : Try.prog.cellsOf 60 = 3 := by kernel_rfl
theorem cells9 : Try.prog.cellsOf 9 = 1 := by kernel_rfl
theorem cells3 : Try.prog.cellsOf 3 = 1 := by kernel_rfl
theorem i64_bd {v : Int} (h : (Lit.int .i64 v).wf = true) : -9223372036854775808 ≤ v ∧ v ≤ 9223372036854775807 := by
  simpa [Lit.wf, IntKind.min, IntKind.max, IntKind.signed, IntKind.bits] using h
theorem open_op {H : Type} {enc : TypeId × Value → H} {W : World} {sp : Nat → Bool} {n : Nat} {ad : Addr} {cs : List Value} {x : DataW H × List MemPlace}
    (hc : W.cells? 0 ad 3 = some cs) (ht : DataW.trod enc Try.prog W 0 sp true n 60 cs = some x) : ∃ e : O, e.ok ∧ ad.spot = none ∧ At3 W ad.block ad.off e := by
  obtain ⟨_, hlen, hcell⟩ := World.cells?_some hc
  obtain ⟨y0, y1, y2, m, _, _, h0, h1, h2⟩ := Go.Deep.trod_struct3 Try.underlying60 ht
  rw [cells3] at h0
  rw [cells9] at h1 h2
  match cs, hlen with
  | [c0, c1, c2], _ =>
    simp only [List.drop_zero, List.drop_succ_cons, List.take_succ_cons, List.take_zero] at h0 h1 h2
    obtain ⟨c, e0, _, w0⟩ := DataW.trod_int Try.underlying3 h0
    obtain ⟨k, e1, _, w1⟩ := DataW.trod_string Try.underlying9 h1
    obtain ⟨v, e2, _, w2⟩ := DataW.trod_string Try.underlying9 h2
    simp only [List.cons.injEq, and_true] at e0 e1 e2
    subst e0 e1 e2
    have q0 := hcell 0 (by omega)
    have q1 := hcell 1 (by omega)
    have q2 := hcell 2 (by omega)
    obtain ⟨b, o, sp'⟩ := ad
    have hsp : sp' = none := by simpa [Addr.add] using World.cell?_spot q0
    subst hsp
    rw [addr_add] at q0 q1 q2
    exact ⟨⟨c, k, v⟩, ⟨i64_bd w0, w1, w2⟩, rfl, q0, q1, q2⟩
theorem open_ops {H : Type} {enc : TypeId × Value → H} {W : World} {sp : Nat → Bool} {fuel : Nat} {a : Option Addr} {len cap : Nat} {x : DataW H × List MemPlace}
    (hf : DataW.trod enc Try.prog W 0 sp true fuel 26 [.slice a len cap] = some x) : (∃ xs, Ops W a len cap xs) ∧ ((len = 0 ∧ cap = 0) ∨ ∃ l r, x.1 = .slice l r ∧ l.length = len) := by
  rcases Deep.open_slice Try.underlying26 hf with ⟨hcs, hx⟩ | ⟨ad, l, c, m, n, D, Pl, hcs, hb, hl, hm, hmm, hx, hcell⟩
  · simp at hcs
    obtain ⟨rfl, rfl, rfl⟩ := hcs
    exact ⟨⟨[], rfl, Nat.le_refl _, fun _ => ⟨rfl, rfl⟩, fun _ h => (by simp at h), fun _ _ _ h => by simp at h⟩, .inl ⟨rfl, rfl⟩⟩
  · simp at hcs
    obtain ⟨rfl, rfl, rfl⟩ := hcs
    rw [cellsOp] at hcell
    have hml : len ≤ m := by rw [hmm]; split <;> omega
    refine ⟨?_, .inr ⟨(List.range len).map D, (List.range (m - len)).map fun j => D (len + j), by rw [hx], by simp⟩⟩
    · haveI : Inhabited O := ⟨zo⟩
      obtain ⟨f, hfn⟩ := Deep.choose_lt (n := len) (p := fun i (e : O) => e.ok ∧ (ad.add (i * 3)).spot = none ∧ At3 W (ad.add (i * 3)).block (ad.add (i * 3)).off e) (fun i hi => by
        obtain ⟨cs', h1, h2⟩ := hcell i (by omega)
        exact open_op h1 h2)
      refine ⟨(List.range len).map f, by simp, hl, fun e => by simp at e, ?_, ?_⟩
      · intro x hx
        obtain ⟨i, hi, rfl⟩ := List.mem_map.1 hx
        exact (hfn i (by simpa using hi)).1
      · intro b o p hp h0
        simp at hp
        subst hp
        have hp : p = none := by
          have := (hfn 0 h0).2.1
          simpa [Addr.add] using this
        subst hp
        refine ⟨rfl, fun i hi => ?_⟩
        have := (hfn i hi).2.2
        rw [addr_add] at this
        simpa [List.getD_eq_getElem?_getD, hi] using this
end Go.Proofs.Ytmceanfgcehfeab.Ob

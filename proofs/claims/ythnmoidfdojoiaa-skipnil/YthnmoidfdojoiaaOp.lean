/- A slice of the law's puts that came in, opened. -/
import Derived.Test.YthnmoidfdojoiaaPu
import Derived.ShutString
import Derived.ChangeOld
import Derived.Below
import Derived.SizedLaws
import Derived.Lib.SmallJoins
namespace Go.Proofs.Ythnmoidfdojoiaa.Op
open Go.ChangeShapes Go.WideShapes Go.ChangeAt Go.RowKit Go.Joins
open Go.Proofs.Ythnmoidfdojoiaa.Pu
set_option linter.unusedVariables false

theorem addr_add (b off n : Nat) : (⟨b, off, none⟩ : Addr).add n = ⟨b, off + n, none⟩ := by
  unfold Addr.add; split <;> simp_all
theorem cellsP : Try.prog.cellsOf 51 = 4 := by kernel_rfl
theorem cellsK : Try.prog.cellsOf 36 = 3 := by kernel_rfl
theorem cellsS : Try.prog.cellsOf 9 = 1 := by kernel_rfl
theorem cellsU : Try.prog.cellsOf 34 = 1 := by kernel_rfl
theorem cellsI : Try.prog.cellsOf 3 = 1 := by kernel_rfl
theorem u64_bd {v : Int} (h : (Lit.int .u64 v).wf = true) : 0 ≤ v ∧ v ≤ 18446744073709551615 := by
  simpa [Lit.wf, IntKind.min, IntKind.max, IntKind.signed, IntKind.bits] using h
theorem i64_bd {v : Int} (h : (Lit.int .i64 v).wf = true) : -9223372036854775808 ≤ v ∧ v ≤ 9223372036854775807 := by
  simpa [Lit.wf, IntKind.min, IntKind.max, IntKind.signed, IntKind.bits] using h
theorem open_put {H : Type} {enc : TypeId × Value → H} {W : World} {sp : Nat → Bool} {n : Nat} {ad : Addr} {cs : List Value} {x : DataW H × List MemPlace}
    (hc : W.cells? 0 ad 4 = some cs) (ht : DataW.trod enc Try.prog W 0 sp true n 51 cs = some x) : ∃ e : P4, e.ok ∧ ad.spot = none ∧ At4 W ad.block ad.off e := by
  obtain ⟨_, hlen, hcell⟩ := World.cells?_some hc
  obtain ⟨y0, y1, m, _, _, h0, h1⟩ := trod_struct2 Try.underlying51 ht
  rw [cellsK] at h0
  rw [cellsI] at h1
  obtain ⟨z0, z1, z2, m2, _, _, k0, k1, k2⟩ := Deep.trod_struct3 Try.underlying36 h0
  rw [cellsS] at k0
  rw [cellsU] at k1
  rw [cellsI] at k2
  match cs, hlen with
  | [c0, c1, c2, c3], _ =>
    simp only [List.drop_zero, List.drop_succ_cons, List.take_succ_cons, List.take_zero] at k0 k1 k2 h1
    obtain ⟨k, e0, _, w0⟩ := DataW.trod_string Try.underlying9 k0
    obtain ⟨s, e1, _, w1⟩ := DataW.trod_int Try.underlying34 k1
    obtain ⟨c, e2, _, w2⟩ := DataW.trod_int Try.underlying3 k2
    obtain ⟨v, e3, _, w3⟩ := DataW.trod_int Try.underlying3 h1
    simp only [List.cons.injEq, and_true] at e0 e1 e2 e3
    subst e0 e1 e2 e3
    have q0 := hcell 0 (by omega)
    have q1 := hcell 1 (by omega)
    have q2 := hcell 2 (by omega)
    have q3 := hcell 3 (by omega)
    obtain ⟨b, o, sp'⟩ := ad
    have hsp : sp' = none := by simpa [Addr.add] using World.cell?_spot q0
    subst hsp
    rw [addr_add] at q0 q1 q2 q3
    exact ⟨⟨k, s, c, v⟩, ⟨w0, i64_bd w3⟩, rfl, q0, q1, q2, q3⟩
theorem open_puts {H : Type} {enc : TypeId × Value → H} {W : World} {sp : Nat → Bool} {fuel : Nat} {a : Option Addr} {len cap : Nat} {x : DataW H × List MemPlace}
    (hf : DataW.trod enc Try.prog W 0 sp true fuel 45 [.slice a len cap] = some x) : (∃ xs, Puts W a len cap xs) ∧ ((len = 0 ∧ cap = 0) ∨ ∃ l r, x.1 = .slice l r ∧ l.length = len) := by
  rcases Deep.open_slice Try.underlying45 hf with ⟨hcs, hx⟩ | ⟨ad, l, c, m, n, D, Pl, hcs, hb, hl, hm, hmm, hx, hcell⟩
  · simp at hcs
    obtain ⟨rfl, rfl, rfl⟩ := hcs
    exact ⟨⟨[], rfl, Nat.le_refl _, fun _ => ⟨rfl, rfl⟩, fun _ h => (by simp at h), fun _ _ _ h => by simp at h⟩, .inl ⟨rfl, rfl⟩⟩
  · simp at hcs
    obtain ⟨rfl, rfl, rfl⟩ := hcs
    rw [cellsP] at hcell
    have hml : len ≤ m := by rw [hmm]; split <;> omega
    refine ⟨?_, .inr ⟨(List.range len).map D, (List.range (m - len)).map fun j => D (len + j), by rw [hx], by simp⟩⟩
    · haveI : Inhabited P4 := ⟨zp⟩
      obtain ⟨f, hfn⟩ := Deep.choose_lt (n := len) (p := fun i (e : P4) => e.ok ∧ (ad.add (i * 4)).spot = none ∧ At4 W (ad.add (i * 4)).block (ad.add (i * 4)).off e) (fun i hi => by
        obtain ⟨cs', h1, h2⟩ := hcell i (by omega)
        exact open_put h1 h2)
      refine ⟨(List.range len).map f, by simp, hl, fun e => by simp at e, ?_, ?_⟩
      · intro x hx
        obtain ⟨i, hi, rfl⟩ := List.mem_map.1 hx
        exact (hfn i (by simpa using hi)).1
      · intro b o p hp h0
        simp at hp
        subst hp
        have hp : p = none := by
          have := (hfn 0 h0).2.1
          simpa [Addr.add] using this
        subst hp
        refine ⟨rfl, fun i hi => ?_⟩
        have := (hfn i hi).2.2
        rw [addr_add] at this
        simpa [List.getD_eq_getElem?_getD, hi] using this
end Go.Proofs.Ythnmoidfdojoiaa.Op

/- A slice of entries that came in, opened. -/
import Derived.Test.YtgjodfaliajlgaaEe
import Derived.ShutString
import Derived.ChangeOld
import Derived.Below
import Derived.SizedLaws
import Derived.Lib.SmallJoins
namespace Go.Proofs.Ytgjodfaliajlgaa.Ee
open Go.ChangeShapes Go.WideShapes Go.ChangeAt Go.RowKit Go.Joins
set_option linter.unusedVariables false

theorem cells38 : Try.prog.cellsOf 43 = 4 := by kernel_rfl
theorem cells9 : Try.prog.cellsOf 9 = 1 := by kernel_rfl
theorem cells22 : Try.prog.cellsOf 31 = 1 := by kernel_rfl
theorem cells3 : Try.prog.cellsOf 3 = 1 := by kernel_rfl
theorem u64_bd {v : Int} (h : (Lit.int .u64 v).wf = true) : 0 ≤ v ∧ v ≤ 18446744073709551615 := by
  simpa [Lit.wf, IntKind.min, IntKind.max, IntKind.signed, IntKind.bits] using h
theorem i64_bd {v : Int} (h : (Lit.int .i64 v).wf = true) : -9223372036854775808 ≤ v ∧ v ≤ 9223372036854775807 := by
  simpa [Lit.wf, IntKind.min, IntKind.max, IntKind.signed, IntKind.bits] using h
theorem open_entry {H : Type} {enc : TypeId × Value → H} {W : World} {sp : Nat → Bool} {n : Nat} {ad : Addr} {cs : List Value} {x : DataW H × List MemPlace}
    (hc : W.cells? 0 ad 4 = some cs) (ht : DataW.trod enc Try.prog W 0 sp true n 43 cs = some x) : ∃ e : E, e.ok ∧ ad.spot = none ∧ At4 W ad.block ad.off e := by
  obtain ⟨_, hlen, hcell⟩ := World.cells?_some hc
  obtain ⟨y0, y1, y2, y3, m, _, _, h0, h1, h2, h3⟩ := trod_struct4 Try.underlying43 ht
  rw [cells9] at h0 h3
  rw [cells22] at h1
  rw [cells3] at h2
  match cs, hlen with
  | [c0, c1, c2, c3], _ =>
    simp only [List.drop_zero, List.drop_succ_cons, List.take_succ_cons, List.take_zero] at h0 h1 h2 h3
    obtain ⟨k, e0, _, w0⟩ := DataW.trod_string Try.underlying9 h0
    obtain ⟨s, e1, _, w1⟩ := DataW.trod_int Try.underlying31 h1
    obtain ⟨c, e2, _, w2⟩ := DataW.trod_int Try.underlying3 h2
    obtain ⟨v, e3, _, w3⟩ := DataW.trod_string Try.underlying9 h3
    simp only [List.cons.injEq, and_true] at e0 e1 e2 e3
    subst e0 e1 e2 e3
    have q0 := hcell 0 (by omega)
    have q1 := hcell 1 (by omega)
    have q2 := hcell 2 (by omega)
    have q3 := hcell 3 (by omega)
    obtain ⟨b, o, sp'⟩ := ad
    have hsp : sp' = none := by simpa [Addr.add] using World.cell?_spot q0
    subst hsp
    rw [addr_add] at q0 q1 q2 q3
    exact ⟨⟨k, s, c, v⟩, ⟨w0, u64_bd w1, i64_bd w2, w3⟩, rfl, q0, q1, q2, q3⟩
theorem open_entries {H : Type} {enc : TypeId × Value → H} {W : World} {sp : Nat → Bool} {fuel : Nat} {a : Option Addr} {len cap : Nat} {x : DataW H × List MemPlace}
    (hf : DataW.trod enc Try.prog W 0 sp true fuel 39 [.slice a len cap] = some x) : (∃ xs, Ents W a len cap xs) ∧ ((len = 0 ∧ cap = 0) ∨ ∃ l r, x.1 = .slice l r ∧ l.length = len) := by
  rcases Deep.open_slice Try.underlying39 hf with ⟨hcs, hx⟩ | ⟨ad, l, c, m, n, D, Pl, hcs, hb, hl, hm, hmm, hx, hcell⟩
  · simp at hcs
    obtain ⟨rfl, rfl, rfl⟩ := hcs
    exact ⟨⟨[], rfl, Nat.le_refl _, fun _ => ⟨rfl, rfl⟩, fun _ h => (by simp at h), fun _ _ _ h => by simp at h⟩, .inl ⟨rfl, rfl⟩⟩
  · simp at hcs
    obtain ⟨rfl, rfl, rfl⟩ := hcs
    rw [cells38] at hcell
    have hml : len ≤ m := by rw [hmm]; split <;> omega
    refine ⟨?_, .inr ⟨(List.range len).map D, (List.range (m - len)).map fun j => D (len + j), by rw [hx], by simp⟩⟩
    · haveI : Inhabited E := ⟨ze⟩
      obtain ⟨f, hfn⟩ := Deep.choose_lt (n := len) (p := fun i (e : E) => e.ok ∧ (ad.add (i * 4)).spot = none ∧ At4 W (ad.add (i * 4)).block (ad.add (i * 4)).off e) (fun i hi => by
        obtain ⟨cs', h1, h2⟩ := hcell i (by omega)
        exact open_entry h1 h2)
      refine ⟨(List.range len).map f, by simp, hl, fun e => by simp at e, ?_, ?_⟩
      · intro x hx
        obtain ⟨i, hi, rfl⟩ := List.mem_map.1 hx
        exact (hfn i (by simpa using hi)).1
      · intro b o p hp h0
        simp at hp
        subst hp
        have hp : p = none := by
          have := (hfn 0 h0).2.1
          simpa [Addr.add] using this
        subst hp
        refine ⟨rfl, fun i hi => ?_⟩
        have := (hfn i hi).2.2
        rw [addr_add] at this
        simpa [List.getD_eq_getElem?_getD, hi] using this
end Go.Proofs.Ytgjodfaliajlgaa.Ee

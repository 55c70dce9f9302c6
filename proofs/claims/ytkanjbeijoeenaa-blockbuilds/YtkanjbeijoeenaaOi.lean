/- Items that came in, opened: one by value, a slice of them. -/
import Derived.Test.YtkanjbeijoeenaaMb
import Derived.ShutString
import Derived.ChangeOld
import Derived.Below
import Derived.SizedLaws
import Derived.Lib.SmallJoins
import Derived.Deep.Strs
namespace Go.Proofs.Ytkanjbeijoeenaa.Oi
open Go.ChangeShapes Go.WideShapes Go.ChangeAt Go.RowKit Go.Joins
open Go.Proofs.Ytkanjbeijoeenaa.Mb
set_option linter.unusedVariables false

theorem cellsI : Try.prog.cellsOf 38 = 4 := by kernel_rfl
theorem cellsK : Try.prog.cellsOf 36 = 3 := by kernel_rfl
theorem cells9 : Try.prog.cellsOf 9 = 1 := by kernel_rfl
theorem cellsU : Try.prog.cellsOf 34 = 1 := by kernel_rfl
theorem cells3 : Try.prog.cellsOf 3 = 1 := by kernel_rfl
theorem u64_bd {v : Int} (h : (Lit.int .u64 v).wf = true) : 0 ≤ v ∧ v ≤ 18446744073709551615 := by
  simpa [Lit.wf, IntKind.min, IntKind.max, IntKind.signed, IntKind.bits] using h
theorem i64_bd {v : Int} (h : (Lit.int .i64 v).wf = true) : -9223372036854775808 ≤ v ∧ v ≤ 9223372036854775807 := by
  simpa [Lit.wf, IntKind.min, IntKind.max, IntKind.signed, IntKind.bits] using h
/-- What an item weighs in a reading. -/
def wt (x : E) : Nat := x.k.size + x.v.size + 6
def wts : List E → Nat
  | [] => 0
  | x :: l => wt x + wts l
theorem item_parts {H : Type} {enc : TypeId × Value → H} {W : World} {sp : Nat → Bool} {n : Nat} {cs : List Value} {x : DataW H × List MemPlace}
    (hlen : cs.length = 4) (ht : DataW.trod enc Try.prog W 0 sp true n 38 cs = some x) : ∃ e : E, e.ok ∧ cs = [.string e.k, .int .u64 e.s, .int .i64 e.c, .string e.v] ∧ Rows.uptoBulk x.1 = wt e := by
  obtain ⟨y0, y1, m, hx, _, h0, h1⟩ := trod_struct2 Try.underlying38 ht
  rw [cellsK] at h0
  rw [cells9] at h1
  match cs, hlen with
  | [c0, c1, c2, c3], _ =>
    simp only [List.drop_zero, List.drop_succ_cons, List.take_succ_cons, List.take_zero] at h0 h1
    obtain ⟨z0, z1, z2, m2, hy, _, g0, g1, g2⟩ := Deep.trod_struct3 Try.underlying36 h0
    rw [cells9] at g0
    rw [cellsU] at g1
    rw [cells3] at g2
    simp only [List.drop_zero, List.drop_succ_cons, List.take_succ_cons, List.take_zero] at g0 g1 g2
    obtain ⟨k, e0, f0, w0⟩ := DataW.trod_string Try.underlying9 g0
    obtain ⟨s, e1, f1, w1⟩ := DataW.trod_int Try.underlying34 g1
    obtain ⟨c, e2, f2, w2⟩ := DataW.trod_int Try.underlying3 g2
    obtain ⟨v, e3, f3, w3⟩ := DataW.trod_string Try.underlying9 h1
    simp only [List.cons.injEq, and_true] at e0 e1 e2 e3
    subst e0 e1 e2 e3
    refine ⟨⟨k, s, c, v⟩, ⟨w0, u64_bd w1, i64_bd w2, w3⟩, rfl, ?_⟩
    rw [hx, hy, f0, f1, f2, f3]
    simp [Rows.uptoBulk, Rows.uptoBulkAll, wt]
    omega
set_option maxRecDepth 100000 in
theorem item_value {H : Type} {enc : TypeId × Value → H} {W : World} {sp : Nat → Bool} {n : Nat} {r : Reach} {b0 : Nat} {v : Value} {x : DataW H × List MemPlace}
    (hv : Value.okWide Try.prog W r b0 38 v) (ht : DataW.trod enc Try.prog W 0 sp true n 38 v.cells.toList = some x) : ∃ e : E, e.ok ∧ v = .agg #[.string e.k, .int .u64 e.s, .int .i64 e.c, .string e.v] := by
  obtain ⟨cs, rfl, hsz⟩ := okWide_struct Try.underlying38 hv
  rw [cellsI] at hsz
  obtain ⟨e, hok, he, _⟩ := item_parts (cs := cs.toList) (by simpa using hsz) (by simpa [Value.cells] using ht)
  exact ⟨e, hok, by rw [← Array.toArray_toList (xs := cs), he]⟩
theorem open_item {H : Type} {enc : TypeId × Value → H} {W : World} {sp : Nat → Bool} {n : Nat} {ad : Addr} {cs : List Value} {x : DataW H × List MemPlace}
    (hc : W.cells? 0 ad 4 = some cs) (ht : DataW.trod enc Try.prog W 0 sp true n 38 cs = some x) : ∃ e : E, (e.ok ∧ Rows.uptoBulk x.1 = wt e) ∧ ad.spot = none ∧ At4 W ad.block ad.off e := by
  obtain ⟨_, hlen, hcell⟩ := World.cells?_some hc
  obtain ⟨e, hok, rfl, hb⟩ := item_parts hlen ht
  have q0 := hcell 0 (by omega)
  have q1 := hcell 1 (by omega)
  have q2 := hcell 2 (by omega)
  have q3 := hcell 3 (by omega)
  obtain ⟨b, o, sp'⟩ := ad
  have hsp : sp' = none := by simpa [Addr.add] using World.cell?_spot q0
  subst hsp
  rw [addr_add] at q0 q1 q2 q3
  exact ⟨e, ⟨hok, hb⟩, rfl, q0, q1, q2, q3⟩
theorem wts_map {H : Type} (f : Nat → E) (D : Nat → DataW H) : ∀ n, (∀ i, i < n → Rows.uptoBulk (D i) = wt (f i)) → wts ((List.range n).map f) = Rows.uptoBulkAll ((List.range n).map D) := by
  have app : ∀ (xs ys : List E), wts (xs ++ ys) = wts xs + wts ys := by
    intro xs; induction xs with
    | nil => intro ys; simp [wts]
    | cons x l ih => intro ys; simp [wts, ih]; omega
  have app2 : ∀ (xs ys : List (DataW H)), Rows.uptoBulkAll (xs ++ ys) = Rows.uptoBulkAll xs + Rows.uptoBulkAll ys := by
    intro xs; induction xs with
    | nil => intro ys; simp [Rows.uptoBulkAll]
    | cons x l ih => intro ys; simp [Rows.uptoBulkAll, ih]; omega
  intro n
  induction n with
  | zero => intro _; rfl
  | succ n ih =>
    intro h
    rw [List.range_succ, List.map_append, List.map_append, app, app2, ih (fun i hi => h i (by omega))]
    simp [wts, Rows.uptoBulkAll, h n (by omega)]
theorem open_items {H : Type} {enc : TypeId × Value → H} {W : World} {sp : Nat → Bool} {fuel : Nat} {a : Option Addr} {len cap : Nat} {x : DataW H × List MemPlace}
    (hf : DataW.trod enc Try.prog W 0 sp true fuel 22 [.slice a len cap] = some x) : ∃ xs, Ents W a len cap xs ∧ wts xs ≤ Rows.uptoBulk x.1 := by
  rcases Deep.open_slice Try.underlying22 hf with ⟨hcs, hx⟩ | ⟨ad, l, c, m, n, D, Pl, hcs, hb, hl, hm, hmm, hx, hcell⟩
  · simp at hcs
    obtain ⟨rfl, rfl, rfl⟩ := hcs
    exact ⟨[], ⟨rfl, Nat.le_refl _, fun _ => ⟨rfl, rfl⟩, fun _ h => (by simp at h), fun _ _ _ h => by simp at h⟩, Nat.zero_le _⟩
  · simp at hcs
    obtain ⟨rfl, rfl, rfl⟩ := hcs
    rw [cellsI] at hcell
    have hml : len ≤ m := by rw [hmm]; split <;> omega
    haveI : Inhabited E := ⟨ze⟩
    obtain ⟨f, hfn⟩ := Deep.choose_lt (n := len) (p := fun i (e : E) => (e.ok ∧ Rows.uptoBulk (D i) = wt e) ∧ (ad.add (i * 4)).spot = none ∧ At4 W (ad.add (i * 4)).block (ad.add (i * 4)).off e) (fun i hi => by
      obtain ⟨cs', h1, h2⟩ := hcell i (by omega)
      exact open_item h1 h2)
    refine ⟨(List.range len).map f, ⟨by simp, hl, fun e => by simp at e, ?_, ?_⟩, ?_⟩
    · intro x hx
      obtain ⟨i, hi, rfl⟩ := List.mem_map.1 hx
      exact (hfn i (by simpa using hi)).1.1
    · intro b o p hp h0
      simp at hp
      subst hp
      have hp : p = none := by
        have := (hfn 0 h0).2.1
        simpa [Addr.add] using this
      subst hp
      refine ⟨rfl, fun i hi => ?_⟩
      have := (hfn i hi).2.2
      rw [addr_add] at this
      simpa [List.getD_eq_getElem?_getD, hi] using this
    · rw [wts_map f D len (fun i hi => (hfn i hi).1.2), hx]
      simp only [Rows.uptoBulk]
      omega
end Go.Proofs.Ytkanjbeijoeenaa.Oi

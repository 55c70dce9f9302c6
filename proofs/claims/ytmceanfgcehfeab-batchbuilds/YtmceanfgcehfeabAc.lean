/- A slice of the law's steps that came in, opened. -/
import Derived.Test.YtmceanfgcehfeabOo
namespace Go.Proofs.Ytmceanfgcehfeab.Ac
open Go.ChangeShapes Go.WideShapes Go.ChangeAt Go.RowKit Go.Joins
open Go.Proofs.Ytmceanfgcehfeab.By
open Go.Proofs.Ytmceanfgcehfeab.Ob
set_option linter.unusedVariables false

/-- A step of the law. -/
structure A where
  x : Int
  m : Int
  k : ByteArray
  v : ByteArray
  s : Int
def za : A := ⟨0, 0, ⟨#[]⟩, ⟨#[]⟩, 0⟩
def A.ok (e : A) : Prop := (-9223372036854775808 ≤ e.x ∧ e.x ≤ 9223372036854775807) ∧ (-9223372036854775808 ≤ e.m ∧ e.m ≤ 9223372036854775807) ∧ (0 ≤ e.s ∧ e.s ≤ 18446744073709551615)
def At5 (w : World) (b o : Nat) (e : A) : Prop := w.cell? ⟨b, o, none⟩ = some (.int .i64 e.x) ∧ w.cell? ⟨b, o + 1, none⟩ = some (.int .i64 e.m) ∧ w.cell? ⟨b, o + 2, none⟩ = some (.string e.k) ∧ w.cell? ⟨b, o + 3, none⟩ = some (.string e.v) ∧ w.cell? ⟨b, o + 4, none⟩ = some (.int .u64 e.s)
theorem At5.keep {w w' : World} {b o n : Nat} {e : A} (h : At5 w b o e) (hb : Below n w w') (hn : b < n) : At5 w' b o e := by
  have q := fun i => World.cell?_of_block (a := ⟨b, i, none⟩) (hb.block b hn)
  exact ⟨(q _).trans h.1, (q _).trans h.2.1, (q _).trans h.2.2.1, (q _).trans h.2.2.2.1, (q _).trans h.2.2.2.2⟩
/-- A slice of steps that can be read. -/
def Acts (w : World) (a : Option Addr) (len cap : Nat) (xs : List A) : Prop :=
  xs.length = len ∧ len ≤ cap ∧ (a = none → len = 0 ∧ cap = 0) ∧ (∀ x ∈ xs, x.ok) ∧ (∀ b o p, a = some ⟨b, o, p⟩ → 0 < len → p = none ∧ ∀ i, i < len → At5 w b (o + i * 5) (xs.getD i za))
theorem Acts.later {w w' : World} {a : Option Addr} {len cap : Nat} {xs : List A} (h : Acts w a len cap xs) (hb : Below w.heap.size w w') : Acts w' a len cap xs :=
  ⟨h.1, h.2.1, h.2.2.1, h.2.2.2.1, fun b o p hp hl => ⟨(h.2.2.2.2 b o p hp hl).1, fun i hi => ((h.2.2.2.2 b o p hp hl).2 i hi).keep hb (block_lt_of_cell ((h.2.2.2.2 b o p hp hl).2 i hi).1)⟩⟩
theorem cells30 : Try.prog.cellsOf 30 = 5 := by kernel_rfl
theorem cells28 : Try.prog.cellsOf 28 = 1 := by kernel_rfl
theorem u64_bd {v : Int} (h : (Lit.int .u64 v).wf = true) : 0 ≤ v ∧ v ≤ 18446744073709551615 := by
  simpa [Lit.wf, IntKind.min, IntKind.max, IntKind.signed, IntKind.bits] using h
theorem fields5 {H : Type} {enc : TypeId × Value → H} {P : Program} {W : World} {B : Nat} {sp : Nat → Bool} {hd : Bool} {t : TypeId} {f0 f1 f2 f3 f4 : Field} {fuel : Nat} {cs : List Value} {x : DataW H × List MemPlace}
    (ht : P.underlying t = some (.struct #[f0, f1, f2, f3, f4])) (h : DataW.trod enc P W B sp hd fuel t cs = some x) : ∃ n, ∃ ys : Fin 5 → DataW H × List MemPlace, ∀ (f : Field) (i : Fin 5), [f0, f1, f2, f3, f4][i] = f → DataW.trod enc P W B sp hd n f.type ((cs.drop f.offset).take (P.cellsOf f.type)) = some (ys i) := by
  obtain ⟨ys, n, _, _, _, hl5, hf⟩ := DataW.trod_struct ht h
  match ys, hl5 with
  | [y0, y1, y2, y3, y4], _ =>
    refine ⟨n, fun i => [y0, y1, y2, y3, y4][i], fun f i hi => ?_⟩
    match i with
    | 0 => subst hi; exact (by simpa using hf 0 f0 rfl : DataW.trod enc P W B sp hd n f0.type (List.take (P.cellsOf f0.type) (List.drop f0.offset cs)) = some y0)
    | 1 => subst hi; exact (by simpa using hf 1 f1 rfl : DataW.trod enc P W B sp hd n f1.type (List.take (P.cellsOf f1.type) (List.drop f1.offset cs)) = some y1)
    | 2 => subst hi; exact (by simpa using hf 2 f2 rfl : DataW.trod enc P W B sp hd n f2.type (List.take (P.cellsOf f2.type) (List.drop f2.offset cs)) = some y2)
    | 3 => subst hi; exact (by simpa using hf 3 f3 rfl : DataW.trod enc P W B sp hd n f3.type (List.take (P.cellsOf f3.type) (List.drop f3.offset cs)) = some y3)
    | 4 => subst hi; exact (by simpa using hf 4 f4 rfl : DataW.trod enc P W B sp hd n f4.type (List.take (P.cellsOf f4.type) (List.drop f4.offset cs)) = some y4)
theorem open_act {H : Type} {enc : TypeId × Value → H} {W : World} {sp : Nat → Bool} {n : Nat} {ad : Addr} {cs : List Value} {x : DataW H × List MemPlace}
    (hc : W.cells? 0 ad 5 = some cs) (ht : DataW.trod enc Try.prog W 0 sp true n 30 cs = some x) : ∃ e : A, e.ok ∧ ad.spot = none ∧ At5 W ad.block ad.off e := by
  obtain ⟨_, hlen, hcell⟩ := World.cells?_some hc
  obtain ⟨n', ys, hf⟩ := fields5 Try.underlying30 ht
  have h0 := hf _ 0 rfl
  have h1 := hf _ 1 rfl
  have h2 := hf _ 2 rfl
  have h3 := hf _ 3 rfl
  have h4 := hf _ 4 rfl
  change DataW.trod enc Try.prog W 0 sp true n' 3 ((cs.drop 0).take (Try.prog.cellsOf 3)) = _ at h0
  change DataW.trod enc Try.prog W 0 sp true n' 3 ((cs.drop 1).take (Try.prog.cellsOf 3)) = _ at h1
  change DataW.trod enc Try.prog W 0 sp true n' 9 ((cs.drop 2).take (Try.prog.cellsOf 9)) = _ at h2
  change DataW.trod enc Try.prog W 0 sp true n' 9 ((cs.drop 3).take (Try.prog.cellsOf 9)) = _ at h3
  change DataW.trod enc Try.prog W 0 sp true n' 28 ((cs.drop 4).take (Try.prog.cellsOf 28)) = _ at h4
  rw [cells3] at h0 h1
  rw [cells9] at h2 h3
  rw [cells28] at h4
  match cs, hlen with
  | [c0, c1, c2, c3, c4], _ =>
    simp only [List.drop_zero, List.drop_succ_cons, List.take_succ_cons, List.take_zero] at h0 h1 h2 h3 h4
    obtain ⟨x, e0, _, w0⟩ := DataW.trod_int Try.underlying3 h0
    obtain ⟨m, e1, _, w1⟩ := DataW.trod_int Try.underlying3 h1
    obtain ⟨k, e2, _, w2⟩ := DataW.trod_string Try.underlying9 h2
    obtain ⟨v, e3, _, w3⟩ := DataW.trod_string Try.underlying9 h3
    obtain ⟨s, e4, _, w4⟩ := DataW.trod_int Try.underlying28 h4
    simp only [List.cons.injEq, and_true] at e0 e1 e2 e3 e4
    subst e0 e1 e2 e3 e4
    have q0 := hcell 0 (by omega)
    have q1 := hcell 1 (by omega)
    have q2 := hcell 2 (by omega)
    have q3 := hcell 3 (by omega)
    have q4 := hcell 4 (by omega)
    obtain ⟨b, o, sp'⟩ := ad
    have hsp : sp' = none := by simpa [Addr.add] using World.cell?_spot q0
    subst hsp
    rw [Ob.addr_add] at q0 q1 q2 q3 q4
    exact ⟨⟨x, m, k, v, s⟩, ⟨i64_bd w0, i64_bd w1, u64_bd w4⟩, rfl, q0, q1, q2, q3, q4⟩
theorem open_acts {H : Type} {enc : TypeId × Value → H} {W : World} {sp : Nat → Bool} {fuel : Nat} {a : Option Addr} {len cap : Nat} {x : DataW H × List MemPlace}
    (hf : DataW.trod enc Try.prog W 0 sp true fuel 22 [.slice a len cap] = some x) : (∃ xs, Acts W a len cap xs) ∧ ((len = 0 ∧ cap = 0) ∨ ∃ l r, x.1 = .slice l r ∧ l.length = len) := by
  rcases Deep.open_slice Try.underlying22 hf with ⟨hcs, hx⟩ | ⟨ad, l, c, m, n, D, Pl, hcs, hb, hl, hm, hmm, hx, hcell⟩
  · simp at hcs
    obtain ⟨rfl, rfl, rfl⟩ := hcs
    exact ⟨⟨[], rfl, Nat.le_refl _, fun _ => ⟨rfl, rfl⟩, fun _ h => (by simp at h), fun _ _ _ h => by simp at h⟩, .inl ⟨rfl, rfl⟩⟩
  · simp at hcs
    obtain ⟨rfl, rfl, rfl⟩ := hcs
    rw [cells30] at hcell
    have hml : len ≤ m := by rw [hmm]; split <;> omega
    refine ⟨?_, .inr ⟨(List.range len).map D, (List.range (m - len)).map fun j => D (len + j), by rw [hx], by simp⟩⟩
    · haveI : Inhabited A := ⟨za⟩
      obtain ⟨f, hfn⟩ := Deep.choose_lt (n := len) (p := fun i (e : A) => e.ok ∧ (ad.add (i * 5)).spot = none ∧ At5 W (ad.add (i * 5)).block (ad.add (i * 5)).off e) (fun i hi => by
        obtain ⟨cs', h1, h2⟩ := hcell i (by omega)
        exact open_act h1 h2)
      refine ⟨(List.range len).map f, by simp, hl, fun e => by simp at e, ?_, ?_⟩
      · intro x hx
        obtain ⟨i, hi, rfl⟩ := List.mem_map.1 hx
        exact (hfn i (by simpa using hi)).1
      · intro b o p hp h0
        simp at hp
        subst hp
        have hp : p = none := by
          have := (hfn 0 h0).2.1
          simpa [Addr.add] using this
        subst hp
        refine ⟨rfl, fun i hi => ?_⟩
        have := (hfn i hi).2.2
        rw [Ob.addr_add] at this
        simpa [List.getD_eq_getElem?_getD, hi] using this
end Go.Proofs.Ytmceanfgcehfeab.Ac

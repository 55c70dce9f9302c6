/- Places, files, edits that came in, opened. -/
import Derived.Test.YtnpeocoipodmfaaEv
import Derived.ShutString
import Derived.ChangeOld
import Derived.Below
import Derived.SizedLaws
import Derived.Lib.SmallJoins
import Derived.Deep.Strs
namespace Go.Proofs.Ytnpeocoipodmfaa.Oe
open Go.ChangeShapes Go.WideShapes Go.ChangeAt Go.RowKit Go.Joins
open Go.Proofs.Ytnpeocoipodmfaa.Gr
open Go.Proofs.Ytnpeocoipodmfaa.Ev
set_option linter.unusedVariables false
set_option linter.unusedSimpArgs false

theorem u64_bd {v : Int} (h : (Lit.int .u64 v).wf = true) : 0 ≤ v ∧ v ≤ 18446744073709551615 := by
  simpa [Lit.wf, IntKind.min, IntKind.max, IntKind.signed, IntKind.bits] using h
theorem i64_bd {v : Int} (h : (Lit.int .i64 v).wf = true) : -9223372036854775808 ≤ v ∧ v ≤ 9223372036854775807 := by
  simpa [Lit.wf, IntKind.min, IntKind.max, IntKind.signed, IntKind.bits] using h
section
variable {H : Type} {enc : TypeId × Value → H} {W : World} {sp : Nat → Bool}
/-- What elements weigh. -/
def wsum {α : Type} (wt : α → Nat) : List α → Nat
  | [] => 0
  | x :: l => wt x + wsum wt l
theorem wsum_append {α : Type} (wt : α → Nat) : ∀ xs ys, wsum wt (xs ++ ys) = wsum wt xs + wsum wt ys
  | [], ys => by simp [wsum]
  | x :: l, ys => by simp [wsum, wsum_append wt l ys]; omega
theorem wsum_len {α : Type} (wt : α → Nat) (h : ∀ x, 1 ≤ wt x) : ∀ xs, xs.length ≤ wsum wt xs
  | [] => Nat.le_refl _
  | x :: l => by have := wsum_len wt h l; have := h x; simp [wsum]; omega
theorem bulk_append (xs ys : List (DataW H)) : Rows.uptoBulkAll (xs ++ ys) = Rows.uptoBulkAll xs + Rows.uptoBulkAll ys := by
  induction xs with
  | nil => simp [Rows.uptoBulkAll]
  | cons x l ih => simp [Rows.uptoBulkAll, ih]; omega
theorem wsum_map {α : Type} (wt : α → Nat) (f : Nat → α) (D : Nat → DataW H) : ∀ n, (∀ i, i < n → wt (f i) ≤ Rows.uptoBulk (D i)) → wsum wt ((List.range n).map f) ≤ Rows.uptoBulkAll ((List.range n).map D) := by
  intro n
  induction n with
  | zero => intro _; exact Nat.le_refl _
  | succ n ih =>
    intro h
    rw [List.range_succ, List.map_append, List.map_append, wsum_append, bulk_append]
    have h1 := ih (fun i hi => h i (by omega))
    have h2 := h n (by omega)
    simp [wsum, Rows.uptoBulkAll]
    omega
theorem open_sl {α : Type} (E : El α) (wt : α → Nat) (hk : Try.prog.cellsOf E.et = E.k) (part : ∀ (n : Nat) (cs : List Value) (x : DataW H × List MemPlace), cs.length = E.k → DataW.trod enc Try.prog W 0 sp true n E.et cs = some x → ∃ a, E.ok a ∧ cs = E.cs a ∧ wt a ≤ Rows.uptoBulk x.1)
    {fuel : Nat} {a : Option Addr} {len cap : Nat} {x : DataW H × List MemPlace} (hf : DataW.trod enc Try.prog W 0 sp true fuel E.st [.slice a len cap] = some x) : ∃ xs, E.Sl W a len cap xs ∧ wsum wt xs + 1 ≤ Rows.uptoBulk x.1 := by
  rcases Deep.open_slice E.und hf with ⟨hcs, hx⟩ | ⟨ad, l, c, m, n, D, Pl', hcs, hb, hl, hm, hmm, hx, hcell⟩
  · simp at hcs
    obtain ⟨rfl, rfl, rfl⟩ := hcs
    exact ⟨[], El.Sl.none _ _, by rw [hx]; simp [Rows.uptoBulk, wsum]⟩
  · simp at hcs
    obtain ⟨rfl, rfl, rfl⟩ := hcs
    rw [hk] at hcell
    have hml : len ≤ m := by rw [hmm]; split <;> omega
    haveI : Inhabited α := ⟨E.z⟩
    obtain ⟨f, hfn⟩ := Deep.choose_lt (n := len) (p := fun i (e : α) => (E.ok e ∧ wt e ≤ Rows.uptoBulk (D i)) ∧ (ad.add (i * E.k)).spot = none ∧ E.At W (ad.add (i * E.k)).block (ad.add (i * E.k)).off e) (fun i hi => by
      obtain ⟨cs', h1, h2⟩ := hcell i (by omega)
      obtain ⟨_, hlen, hc⟩ := World.cells?_some h1
      obtain ⟨e, e1, e2, e3⟩ := part n cs' _ hlen h2
      have hp := E.pos
      have q0 := (hc 0 (by omega)).trans (List.getElem?_eq_getElem (by omega))
      have hsp : (ad.add (i * E.k)).spot = none := by
        have h4 := World.cell?_spot q0
        revert h4
        generalize ad.add (i * E.k) = ad'
        obtain ⟨b, o, sp'⟩ := ad'
        intro h4
        simpa [Addr.add] using h4
      refine ⟨e, ⟨e1, e3⟩, hsp, fun j u hu => ?_⟩
      have hj : j < E.k := by rw [← E.len e]; exact (List.getElem?_eq_some_iff.1 hu).1
      have hq := hc j hj
      revert hq hsp
      generalize ad.add (i * E.k) = ad'
      obtain ⟨b, o, sp'⟩ := ad'
      intro hsp hq
      simp only at hsp
      subst hsp
      rw [addr_add] at hq
      rw [hq, e2, hu])
    refine ⟨(List.range len).map f, ⟨by simp, hl, fun e => by simp at e, ?_, ?_⟩, ?_⟩
    · intro x hx
      obtain ⟨i, hi, rfl⟩ := List.mem_map.1 hx
      exact (hfn i (by simpa using hi)).1.1
    · intro b o p hp h0
      simp at hp
      subst hp
      have hp : p = none := by
        have := (hfn 0 h0).2.1
        simpa [Addr.add] using this
      subst hp
      refine ⟨rfl, fun i hi => ?_⟩
      have := (hfn i hi).2.2
      rw [addr_add] at this
      simpa [List.getD_eq_getElem?_getD, hi] using this
    · have := wsum_map wt f D len (fun i hi => (hfn i hi).1.2)
      rw [hx]
      simp only [Rows.uptoBulk]
      omega
theorem c3 : Try.prog.cellsOf 3 = 1 := by kernel_rfl
theorem c22 : Try.prog.cellsOf 22 = 1 := by kernel_rfl
theorem c9 : Try.prog.cellsOf 9 = 1 := by kernel_rfl
theorem c51 : Try.prog.cellsOf 51 = 6 := by kernel_rfl
theorem c57 : Try.prog.cellsOf 57 = 2 := by kernel_rfl
theorem c60 : Try.prog.cellsOf 60 = 7 := by kernel_rfl
theorem c26 : Try.prog.cellsOf 26 = 5 := by kernel_rfl
theorem c23 : Try.prog.cellsOf 23 = 1 := by kernel_rfl
theorem c24 : Try.prog.cellsOf 24 = 1 := by kernel_rfl
def wP (_ : Pl) : Nat := 1
def wF (x : Fi) : Nat := x.a.size + x.b.size + 1
def wA (x : Ad) : Nat := wF x.f
set_option maxRecDepth 100000 in
theorem place_parts {n : Nat} {cs : List Value} {x : DataW H × List MemPlace} (hlen : cs.length = 2) (ht : DataW.trod enc Try.prog W 0 sp true n 57 cs = some x) : ∃ e : Pl, e.ok ∧ cs = ePl.cs e ∧ wP e ≤ Rows.uptoBulk x.1 := by
  obtain ⟨y0, y1, m, hx, _, h0, h1⟩ := trod_struct2 Try.underlying57 ht
  match cs, hlen with
  | [c0, c1], _ =>
    simp only [c3, List.drop_zero, List.drop_succ_cons, List.take_succ_cons, List.take_zero] at h0 h1
    obtain ⟨k, e0, f0, w0⟩ := DataW.trod_int Try.underlying3 h0
    obtain ⟨s, e1, f1, w1⟩ := DataW.trod_int Try.underlying3 h1
    simp only [List.cons.injEq, and_true] at e0 e1
    subst e0 e1
    refine ⟨⟨k, s⟩, ⟨i64_bd w0, i64_bd w1⟩, rfl, ?_⟩
    rw [hx]; simp [Rows.uptoBulk, Rows.uptoBulkAll, wP]
theorem struct6 {P : Program} {w : World} {base : Nat} {spare : Nat → Bool} {held : Bool} {t : TypeId} {f0 f1 f2 f3 f4 f5 : Field} {fuel : Nat} {cs : List Value} {x : DataW H × List MemPlace} (ht : P.underlying t = some (.struct #[f0, f1, f2, f3, f4, f5])) (h : DataW.trod enc P w base spare held fuel t cs = some x) :
    ∃ y0 y1 y2 y3 y4 y5 n, x.1 = .agg [y0.1, y1.1, y2.1, y3.1, y4.1, y5.1] ∧ DataW.trod enc P w base spare held n f0.type ((cs.drop f0.offset).take (P.cellsOf f0.type)) = some y0 ∧ DataW.trod enc P w base spare held n f1.type ((cs.drop f1.offset).take (P.cellsOf f1.type)) = some y1 ∧ DataW.trod enc P w base spare held n f2.type ((cs.drop f2.offset).take (P.cellsOf f2.type)) = some y2 ∧ DataW.trod enc P w base spare held n f3.type ((cs.drop f3.offset).take (P.cellsOf f3.type)) = some y3 ∧ DataW.trod enc P w base spare held n f4.type ((cs.drop f4.offset).take (P.cellsOf f4.type)) = some y4 ∧ DataW.trod enc P w base spare held n f5.type ((cs.drop f5.offset).take (P.cellsOf f5.type)) = some y5 := by
  obtain ⟨xs, n, _, rfl, hl, hlen, hf⟩ := DataW.trod_struct ht h
  match xs, hlen with
  | [y0, y1, y2, y3, y4, y5], _ => exact ⟨y0, y1, y2, y3, y4, y5, n, by simp, by simpa using hf 0 f0 rfl, by simpa using hf 1 f1 rfl, by simpa using hf 2 f2 rfl, by simpa using hf 3 f3 rfl, by simpa using hf 4 f4 rfl, by simpa using hf 5 f5 rfl⟩
theorem struct5 {P : Program} {w : World} {base : Nat} {spare : Nat → Bool} {held : Bool} {t : TypeId} {f0 f1 f2 f3 f4 : Field} {fuel : Nat} {cs : List Value} {x : DataW H × List MemPlace} (ht : P.underlying t = some (.struct #[f0, f1, f2, f3, f4])) (h : DataW.trod enc P w base spare held fuel t cs = some x) :
    ∃ y0 y1 y2 y3 y4 n, x.1 = .agg [y0.1, y1.1, y2.1, y3.1, y4.1] ∧ DataW.trod enc P w base spare held n f0.type ((cs.drop f0.offset).take (P.cellsOf f0.type)) = some y0 ∧ DataW.trod enc P w base spare held n f1.type ((cs.drop f1.offset).take (P.cellsOf f1.type)) = some y1 ∧ DataW.trod enc P w base spare held n f2.type ((cs.drop f2.offset).take (P.cellsOf f2.type)) = some y2 ∧ DataW.trod enc P w base spare held n f3.type ((cs.drop f3.offset).take (P.cellsOf f3.type)) = some y3 ∧ DataW.trod enc P w base spare held n f4.type ((cs.drop f4.offset).take (P.cellsOf f4.type)) = some y4 := by
  obtain ⟨xs, n, _, rfl, hl, hlen, hf⟩ := DataW.trod_struct ht h
  match xs, hlen with
  | [y0, y1, y2, y3, y4], _ => exact ⟨y0, y1, y2, y3, y4, n, by simp, by simpa using hf 0 f0 rfl, by simpa using hf 1 f1 rfl, by simpa using hf 2 f2 rfl, by simpa using hf 3 f3 rfl, by simpa using hf 4 f4 rfl⟩
set_option maxRecDepth 100000 in
theorem file_parts {n : Nat} {cs : List Value} {x : DataW H × List MemPlace} (hlen : cs.length = 6) (ht : DataW.trod enc Try.prog W 0 sp true n 51 cs = some x) : ∃ e : Fi, e.ok ∧ cs = fcs e ∧ wF e ≤ Rows.uptoBulk x.1 := by
  obtain ⟨y0, y1, y2, y3, y4, y5, m, hx, h0, h1, h2, h3, h4, h5⟩ := struct6 Try.underlying51 ht
  match cs, hlen with
  | [d0, d1, d2, d3, d4, d5], _ =>
    simp only [c3, c9, c22, List.drop_zero, List.drop_succ_cons, List.take_succ_cons, List.take_zero] at h0 h1 h2 h3 h4 h5
    obtain ⟨k0, e0, f0, w0⟩ := DataW.trod_int Try.underlying3 h0
    obtain ⟨k1, e1, f1, w1⟩ := DataW.trod_int Try.underlying3 h1
    obtain ⟨k2, e2, f2, w2⟩ := DataW.trod_string Try.underlying9 h2
    obtain ⟨k3, e3, f3, w3⟩ := DataW.trod_string Try.underlying9 h3
    obtain ⟨k4, e4, f4, w4⟩ := DataW.trod_int Try.underlying22 h4
    obtain ⟨k5, e5, f5, w5⟩ := DataW.trod_int Try.underlying22 h5
    simp only [List.cons.injEq, and_true] at e0 e1 e2 e3 e4 e5
    subst e0 e1 e2 e3 e4 e5
    refine ⟨⟨k0, k1, k2, k3, k4, k5⟩, ⟨i64_bd w0, i64_bd w1, w2, w3, u64_bd w4, u64_bd w5⟩, rfl, ?_⟩
    rw [hx, f0, f1, f2, f3, f4, f5]
    simp [Rows.uptoBulk, Rows.uptoBulkAll, wF]
    omega
set_option maxRecDepth 100000 in
theorem added_parts {n : Nat} {cs : List Value} {x : DataW H × List MemPlace} (hlen : cs.length = 7) (ht : DataW.trod enc Try.prog W 0 sp true n 60 cs = some x) : ∃ e : Ad, e.ok ∧ cs = eAd.cs e ∧ wA e ≤ Rows.uptoBulk x.1 := by
  obtain ⟨y0, y1, m, hx, _, h0, h1⟩ := trod_struct2 Try.underlying60 ht
  match cs, hlen with
  | [d0, d1, d2, d3, d4, d5, d6], _ =>
    simp only [c3, c51, List.drop_zero, List.drop_succ_cons, List.take_succ_cons, List.take_zero] at h0 h1
    obtain ⟨k0, e0, f0, w0⟩ := DataW.trod_int Try.underlying3 h0
    obtain ⟨f, g1, g2, g3⟩ := file_parts rfl h1
    simp only [List.cons.injEq, and_true] at e0
    subst e0
    refine ⟨⟨k0, f⟩, ⟨i64_bd w0, g1⟩, by rw [g2]; rfl, ?_⟩
    rw [hx]
    simp only [Rows.uptoBulk, Rows.uptoBulkAll, wA]
    omega
/-- What an edit weighs. -/
def wE (e : Ed) : Nat := e.go.length + wsum wA e.co
set_option maxRecDepth 100000 in
theorem open_edit {n : Nat} {r : Reach} {b0 : Nat} {v : Value} {x : DataW H × List MemPlace}
    (hv : Value.okWide Try.prog W r b0 26 v) (ht : DataW.trod enc Try.prog W 0 sp true n 26 v.cells.toList = some x) (hb : Rows.uptoBulk x.1 ≤ 1048576) : ∃ e : Ed, EV W v e ∧ wE e ≤ Rows.uptoBulk x.1 := by
  obtain ⟨cs, rfl, hsz⟩ := okWide_struct Try.underlying26 hv
  rw [c26] at hsz
  have ht' : DataW.trod enc Try.prog W 0 sp true n 26 cs.toList = some x := by simpa [Value.cells] using ht
  obtain ⟨y0, y1, y2, y3, y4, m, hx, h0, h1, h2, h3, h4⟩ := struct5 Try.underlying26 ht'
  obtain ⟨l⟩ := cs
  have hl : l.length = 5 := by simpa using hsz
  match l, hl with
  | [d0, d1, d2, d3, d4], _ =>
    simp only [c3, c22, c23, c24, List.drop_zero, List.drop_succ_cons, List.take_succ_cons, List.take_zero] at h0 h1 h2 h3 h4
    obtain ⟨k0, e0, f0, w0⟩ := DataW.trod_int Try.underlying3 h0
    obtain ⟨k1, e1, f1, w1⟩ := DataW.trod_int Try.underlying3 h1
    obtain ⟨k2, e2, f2, w2⟩ := DataW.trod_int Try.underlying22 h2
    simp only [List.cons.injEq, and_true] at e0 e1 e2
    subst e0 e1 e2
    obtain ⟨a, len, cap, rfl⟩ : ∃ a len cap, d3 = .slice a len cap := by
      rcases Deep.open_slice Try.underlying23 h3 with ⟨hcs, _⟩ | ⟨ad, l, c, m, n, D, Pl', hcs, _⟩
      · simp at hcs; exact ⟨_, _, _, hcs⟩
      · simp at hcs; exact ⟨_, _, _, hcs⟩
    obtain ⟨a', len', cap', rfl⟩ : ∃ a len cap, d4 = .slice a len cap := by
      rcases Deep.open_slice Try.underlying24 h4 with ⟨hcs, _⟩ | ⟨ad, l, c, m, n, D, Pl', hcs, _⟩
      · simp at hcs; exact ⟨_, _, _, hcs⟩
      · simp at hcs; exact ⟨_, _, _, hcs⟩
    obtain ⟨xs, s1, b1⟩ := open_sl ePl wP c57 (fun n cs x => place_parts) h3
    obtain ⟨ys, s2, b2⟩ := open_sl eAd wA c60 (fun n cs x => added_parts) h4
    have l1 := wsum_len wP (fun _ => Nat.le_refl _) xs
    have l2 := wsum_len wA (fun x => by unfold wA wF; omega) ys
    have e1 := s1.n
    have e2 := s2.n
    subst e1 e2
    rw [hx, f0, f1, f2] at hb
    simp only [Rows.uptoBulk, Rows.uptoBulkAll] at hb
    refine ⟨⟨k0, k1, k2, xs, ys⟩, ⟨⟨i64_bd w0, i64_bd w1, u64_bd w2, by show xs.length ≤ _; omega, by show ys.length ≤ _; omega⟩, a, cap, a', cap', rfl, s1, s2⟩, ?_⟩
    rw [hx, f0, f1, f2]
    simp only [Rows.uptoBulk, Rows.uptoBulkAll, wE]
    omega
end
end Go.Proofs.Ytnpeocoipodmfaa.Oe

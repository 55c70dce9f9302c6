/- Lists of entries, entries, moves that came in, opened. -/
import Derived.Test.YtgjodfaliajlgaaMl
import Derived.ShutString
import Derived.ChangeOld
import Derived.Below
import Derived.SizedLaws
import Derived.Lib.SmallJoins
import Derived.Deep.Strs
namespace Go.Proofs.Ytgjodfaliajlgaa.Oe9
open Go.ChangeShapes Go.WideShapes Go.ChangeAt Go.RowKit Go.Joins
open Go.Proofs.Ytgjodfaliajlgaa.Gr
open Go.Proofs.Ytgjodfaliajlgaa.Ee (E ze At4 Ents)
open Go.Proofs.Ytgjodfaliajlgaa.Sd (eE ents_of)
open Go.Proofs.Ytgjodfaliajlgaa.Ml
set_option linter.unusedVariables false
set_option linter.unusedSimpArgs false

theorem u64_bd {v : Int} (h : (Lit.int .u64 v).wf = true) : 0 ≤ v ∧ v ≤ 18446744073709551615 := by
  simpa [Lit.wf, IntKind.min, IntKind.max, IntKind.signed, IntKind.bits] using h
theorem i64_bd {v : Int} (h : (Lit.int .i64 v).wf = true) : -9223372036854775808 ≤ v ∧ v ≤ 9223372036854775807 := by
  simpa [Lit.wf, IntKind.min, IntKind.max, IntKind.signed, IntKind.bits] using h
section
variable {H : Type} {enc : TypeId × Value → H} {W : World} {sp : Nat → Bool}
/-- What elements weigh. -/
def wsum {α : Type} (wt : α → Nat) : List α → Nat
  | [] => 0
  | x :: l => wt x + wsum wt l
theorem wsum_append {α : Type} (wt : α → Nat) : ∀ xs ys, wsum wt (xs ++ ys) = wsum wt xs + wsum wt ys
  | [], ys => by simp [wsum]
  | x :: l, ys => by simp [wsum, wsum_append wt l ys]; omega
theorem wsum_len {α : Type} (wt : α → Nat) (h : ∀ x, 1 ≤ wt x) : ∀ xs, xs.length ≤ wsum wt xs
  | [] => Nat.le_refl _
  | x :: l => by have := wsum_len wt h l; have := h x; simp [wsum]; omega
theorem bulk_append (xs ys : List (DataW H)) : Rows.uptoBulkAll (xs ++ ys) = Rows.uptoBulkAll xs + Rows.uptoBulkAll ys := by
  induction xs with
  | nil => simp [Rows.uptoBulkAll]
  | cons x l ih => simp [Rows.uptoBulkAll, ih]; omega
theorem wsum_map {α : Type} (wt : α → Nat) (f : Nat → α) (D : Nat → DataW H) : ∀ n, (∀ i, i < n → wt (f i) ≤ Rows.uptoBulk (D i)) → wsum wt ((List.range n).map f) ≤ Rows.uptoBulkAll ((List.range n).map D) := by
  intro n
  induction n with
  | zero => intro _; exact Nat.le_refl _
  | succ n ih =>
    intro h
    rw [List.range_succ, List.map_append, List.map_append, wsum_append, bulk_append]
    have h1 := ih (fun i hi => h i (by omega))
    have h2 := h n (by omega)
    simp [wsum, Rows.uptoBulkAll]
    omega
theorem open_sl {α : Type} (E : El α) (wt : α → Nat) (hk : Try.prog.cellsOf E.et = E.k) (part : ∀ (n : Nat) (cs : List Value) (x : DataW H × List MemPlace), cs.length = E.k → DataW.trod enc Try.prog W 0 sp true n E.et cs = some x → ∃ a, E.ok a ∧ cs = E.cs a ∧ wt a ≤ Rows.uptoBulk x.1)
    {fuel : Nat} {a : Option Addr} {len cap : Nat} {x : DataW H × List MemPlace} (hf : DataW.trod enc Try.prog W 0 sp true fuel E.st [.slice a len cap] = some x) : ∃ xs, E.Sl W a len cap xs ∧ wsum wt xs + 1 ≤ Rows.uptoBulk x.1 := by
  rcases Deep.open_slice E.und hf with ⟨hcs, hx⟩ | ⟨ad, l, c, m, n, D, Pl', hcs, hb, hl, hm, hmm, hx, hcell⟩
  · simp at hcs
    obtain ⟨rfl, rfl, rfl⟩ := hcs
    exact ⟨[], El.Sl.none _ _, by rw [hx]; simp [Rows.uptoBulk, wsum]⟩
  · simp at hcs
    obtain ⟨rfl, rfl, rfl⟩ := hcs
    rw [hk] at hcell
    have hml : len ≤ m := by rw [hmm]; split <;> omega
    haveI : Inhabited α := ⟨E.z⟩
    obtain ⟨f, hfn⟩ := Deep.choose_lt (n := len) (p := fun i (e : α) => (E.ok e ∧ wt e ≤ Rows.uptoBulk (D i)) ∧ (ad.add (i * E.k)).spot = none ∧ E.At W (ad.add (i * E.k)).block (ad.add (i * E.k)).off e) (fun i hi => by
      obtain ⟨cs', h1, h2⟩ := hcell i (by omega)
      obtain ⟨_, hlen, hc⟩ := World.cells?_some h1
      obtain ⟨e, e1, e2, e3⟩ := part n cs' _ hlen h2
      have hp := E.pos
      have q0 := (hc 0 (by omega)).trans (List.getElem?_eq_getElem (by omega))
      have hsp : (ad.add (i * E.k)).spot = none := by
        have h4 := World.cell?_spot q0
        revert h4
        generalize ad.add (i * E.k) = ad'
        obtain ⟨b, o, sp'⟩ := ad'
        intro h4
        simpa [Addr.add] using h4
      refine ⟨e, ⟨e1, e3⟩, hsp, fun j u hu => ?_⟩
      have hj : j < E.k := by rw [← E.len e]; exact (List.getElem?_eq_some_iff.1 hu).1
      have hq := hc j hj
      revert hq hsp
      generalize ad.add (i * E.k) = ad'
      obtain ⟨b, o, sp'⟩ := ad'
      intro hsp hq
      simp only at hsp
      subst hsp
      rw [addr_add] at hq
      rw [hq, e2, hu])
    refine ⟨(List.range len).map f, ⟨by simp, hl, fun e => by simp at e, ?_, ?_⟩, ?_⟩
    · intro x hx
      obtain ⟨i, hi, rfl⟩ := List.mem_map.1 hx
      exact (hfn i (by simpa using hi)).1.1
    · intro b o p hp h0
      simp at hp
      subst hp
      have hp : p = none := by
        have := (hfn 0 h0).2.1
        simpa [Addr.add] using this
      subst hp
      refine ⟨rfl, fun i hi => ?_⟩
      have := (hfn i hi).2.2
      rw [addr_add] at this
      simpa [List.getD_eq_getElem?_getD, hi] using this
    · have := wsum_map wt f D len (fun i hi => (hfn i hi).1.2)
      rw [hx]
      simp only [Rows.uptoBulk]
      omega
theorem c3 : Try.prog.cellsOf 3 = 1 := by kernel_rfl
theorem c22 : Try.prog.cellsOf 31 = 1 := by kernel_rfl
theorem c9 : Try.prog.cellsOf 9 = 1 := by kernel_rfl
theorem cE : Try.prog.cellsOf 43 = 4 := by kernel_rfl
theorem cEs : Try.prog.cellsOf 39 = 1 := by kernel_rfl
theorem cK : Try.prog.cellsOf 33 = 3 := by kernel_rfl
theorem cM : Try.prog.cellsOf 35 = 4 := by kernel_rfl
def wE (x : E) : Nat := x.k.size + x.v.size + 1
set_option maxRecDepth 100000 in
theorem entry_parts {n : Nat} {cs : List Value} {x : DataW H × List MemPlace} (hlen : cs.length = 4) (ht : DataW.trod enc Try.prog W 0 sp true n 43 cs = some x) : ∃ e : E, e.ok ∧ cs = eE.cs e ∧ wE e ≤ Rows.uptoBulk x.1 := by
  obtain ⟨y0, y1, y2, y3, m, hx, _, h0, h1, h2, h3⟩ := trod_struct4 Try.underlying43 ht
  match cs, hlen with
  | [c0, c1, c2, c3'], _ =>
    simp only [c3, c22, c9, List.drop_zero, List.drop_succ_cons, List.take_succ_cons, List.take_zero] at h0 h1 h2 h3
    obtain ⟨k, e0, f0, w0⟩ := DataW.trod_string Try.underlying9 h0
    obtain ⟨s, e1, f1, w1⟩ := DataW.trod_int Try.underlying31 h1
    obtain ⟨c, e2, f2, w2⟩ := DataW.trod_int Try.underlying3 h2
    obtain ⟨v, e3, f3, w3⟩ := DataW.trod_string Try.underlying9 h3
    simp only [List.cons.injEq, and_true] at e0 e1 e2 e3
    subst e0 e1 e2 e3
    refine ⟨⟨k, s, c, v⟩, ⟨w0, u64_bd w1, i64_bd w2, w3⟩, rfl, ?_⟩
    rw [hx]; simp [Rows.uptoBulk, Rows.uptoBulkAll, wE, f0, f1, f2, f3]; (try omega)
theorem open_es {fuel : Nat} {a : Option Addr} {len cap : Nat} {x : DataW H × List MemPlace} (hf : DataW.trod enc Try.prog W 0 sp true fuel 39 [.slice a len cap] = some x) : ∃ xs, eE.Sl W a len cap xs ∧ wsum wE xs + 1 ≤ Rows.uptoBulk x.1 := open_sl eE wE cE (fun n cs x => entry_parts) hf
def eLd (W : World) : El Lf := { eL with ok := fun f => eE.Sl W f.a f.n f.c f.xs }
def wX (x : Lf) : Nat := wsum wE x.xs + 1
theorem list_parts {n : Nat} {cs : List Value} {x : DataW H × List MemPlace} (hlen : cs.length = 1) (ht : DataW.trod enc Try.prog W 0 sp true n 39 cs = some x) : ∃ e : Lf, (eLd W).ok e ∧ cs = (eLd W).cs e ∧ wX e ≤ Rows.uptoBulk x.1 := by
  match cs, hlen with
  | [d], _ =>
    obtain ⟨a, len, cap, rfl⟩ : ∃ a len cap, d = .slice a len cap := by
      rcases Deep.open_slice Try.underlying39 ht with ⟨hcs, _⟩ | ⟨ad, l, c, m, n, D, Pl', hcs, _⟩
      · simp at hcs; exact ⟨_, _, _, hcs⟩
      · simp at hcs; exact ⟨_, _, _, hcs⟩
    obtain ⟨xs, s1, b1⟩ := open_es ht
    exact ⟨⟨a, len, cap, xs⟩, s1, rfl, b1⟩
theorem wX_tot : ∀ fs : List Lf, tot fs + fs.length ≤ wsum wX fs
  | [] => Nat.le_refl _
  | f :: fs => by
    have h1 := wX_tot fs
    have h2 := wsum_len wE (fun x => by unfold wE; omega) f.xs
    have e : tot (f :: fs) = f.xs.length + tot fs := by unfold tot all; rw [List.flatMap_cons, List.length_append]
    rw [e]
    show _ ≤ wX f + wsum wX fs
    have e2 : wX f = wsum wE f.xs + 1 := rfl
    rw [List.length_cons, e2]; omega
theorem open_lists {fuel : Nat} {a : Option Addr} {len cap : Nat} {x : DataW H × List MemPlace} (hf : DataW.trod enc Try.prog W 0 sp true fuel 22 [.slice a len cap] = some x) : ∃ fs, Lsts W a len cap fs ∧ tot fs + len ≤ Rows.uptoBulk x.1 := by
  obtain ⟨fs, h1, h2⟩ := open_sl (eLd W) wX cEs (fun n cs x => list_parts) hf
  have h3 := wX_tot fs
  have h4 := h1.n
  refine ⟨fs, ⟨⟨h1.n, h1.c, h1.nil, fun _ _ => trivial, h1.cells⟩, fun f hf => ents_of (h1.ok f hf)⟩, by omega⟩
end
end Go.Proofs.Ytgjodfaliajlgaa.Oe9

/- Moves: what lies where; a slice of moves that came in, opened. -/
import Derived.Test.YtgjodfaliajlgaaOe9
namespace Go.Proofs.Ytgjodfaliajlgaa.Mv9
open Go.ChangeShapes Go.WideShapes Go.ChangeAt Go.RowKit Go.Joins
open Go.Proofs.Ytgjodfaliajlgaa.Gr
open Go.Proofs.Ytgjodfaliajlgaa.Oe9
set_option linter.unusedVariables false
set_option linter.unusedSimpArgs false

structure Mv where
  kind : Int
  k : ByteArray
  s : Int
  c : Int
def eV : El Mv where
  st := 23
  et := 35
  k := 4
  by_ := 40
  cs := fun x => [.int .i64 x.kind, .string x.k, .int .u64 x.s, .int .i64 x.c]
  z := ⟨0, ⟨#[]⟩, 0, 0⟩
  zv := .agg #[.int .i64 0, .string ⟨#[]⟩, .int .u64 0, .int .i64 0]
  len := fun _ => rfl
  one := by intro x u h; simp at h; rcases h with rfl | rfl | rfl | rfl <;> rfl
  und := Try.underlying23
  info := by kernel_rfl
  zc := rfl
  pos := by decide
  ok := fun x => x.k.size ≤ maxLen ∧ (0 ≤ x.s ∧ x.s ≤ 18446744073709551615) ∧ (-9223372036854775808 ≤ x.c ∧ x.c ≤ 9223372036854775807)
def wV (x : Mv) : Nat := x.k.size + 1
section
variable {H : Type} {enc : TypeId × Value → H} {W : World} {sp : Nat → Bool}
set_option maxRecDepth 100000 in
theorem move_parts {n : Nat} {cs : List Value} {x : DataW H × List MemPlace} (hlen : cs.length = 4) (ht : DataW.trod enc Try.prog W 0 sp true n 35 cs = some x) : ∃ e : Mv, eV.ok e ∧ cs = eV.cs e ∧ wV e ≤ Rows.uptoBulk x.1 := by
  obtain ⟨y0, y1, m, hx, _, h0, h1⟩ := trod_struct2 Try.underlying35 ht
  match cs, hlen with
  | [c0, c1, c2, c3'], _ =>
    simp only [c3, cK, List.drop_zero, List.drop_succ_cons, List.take_succ_cons, List.take_zero] at h0 h1
    obtain ⟨kd, e0, f0, w0⟩ := DataW.trod_int Try.underlying3 h0
    obtain ⟨z0, z1, z2, m', hx', _, k0, k1, k2⟩ := Deep.trod_struct3 Try.underlying33 h1
    simp only [c3, c22, c9, List.drop_zero, List.drop_succ_cons, List.take_succ_cons, List.take_zero] at k0 k1 k2
    obtain ⟨k, e1, f1, w1⟩ := DataW.trod_string Try.underlying9 k0
    obtain ⟨s, e2, f2, w2⟩ := DataW.trod_int Try.underlying31 k1
    obtain ⟨c, e3, f3, w3⟩ := DataW.trod_int Try.underlying3 k2
    simp only [List.cons.injEq, and_true] at e0 e1 e2 e3
    subst e0 e1 e2 e3
    refine ⟨⟨kd, k, s, c⟩, ⟨w1, u64_bd w2, i64_bd w3⟩, rfl, ?_⟩
    rw [hx]; simp [Rows.uptoBulk, Rows.uptoBulkAll, wV, hx', f0, f1, f2, f3]; (try omega)
theorem open_moves {fuel : Nat} {a : Option Addr} {len cap : Nat} {x : DataW H × List MemPlace} (hf : DataW.trod enc Try.prog W 0 sp true fuel 23 [.slice a len cap] = some x) : ∃ xs, eV.Sl W a len cap xs ∧ wsum wV xs + 1 ≤ Rows.uptoBulk x.1 := open_sl eV wV cM (fun n cs x => move_parts) hf
end
theorem mv_at {w : World} {b o : Nat} {x : Mv} (h : eV.At w b o x) : w.cell? ⟨b, o, none⟩ = some (.int .i64 x.kind) ∧ w.cell? ⟨b, o + 1, none⟩ = some (.string x.k) ∧ w.cell? ⟨b, o + 2, none⟩ = some (.int .u64 x.s) ∧ w.cell? ⟨b, o + 3, none⟩ = some (.int .i64 x.c) :=
  ⟨h 0 _ rfl, h 1 _ rfl, h 2 _ rfl, h 3 _ rfl⟩
end Go.Proofs.Ytgjodfaliajlgaa.Mv9

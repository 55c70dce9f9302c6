/- Lists of entries that came in, with what all of it weighs. -/
import Derived.Test.YtgjodfaliajlgaaOe9
namespace Go.Proofs.Ytgjodfaliajlgaa.Of
open Go.ChangeShapes Go.WideShapes Go.ChangeAt Go.RowKit
open Go.Proofs.Ytgjodfaliajlgaa.Gr hiding hid addr_add
open Go.Proofs.Ytgjodfaliajlgaa.Ik
open Go.Proofs.Ytgjodfaliajlgaa.Ee
open Go.Proofs.Ytgjodfaliajlgaa.Sd hiding below_grown
open Go.Proofs.Ytgjodfaliajlgaa.Ml
open Go.Proofs.Ytgjodfaliajlgaa.Oe9
set_option linter.unusedVariables false

section
variable {H : Type} {enc : TypeId × Value → H} {W : World} {sp : Nat → Bool}
theorem open_lists2 {fuel : Nat} {a : Option Addr} {len cap : Nat} {x : DataW H × List MemPlace} (hf : DataW.trod enc Try.prog W 0 sp true fuel 22 [.slice a len cap] = some x) : ∃ fs, Lsts W a len cap fs ∧ wsum wX fs + 1 ≤ Rows.uptoBulk x.1 := by
  obtain ⟨fs, h1, h2⟩ := open_sl (eLd W) wX cEs (fun n cs x => list_parts) hf
  exact ⟨fs, ⟨⟨h1.n, h1.c, h1.nil, fun _ _ => trivial, h1.cells⟩, fun f hf => ents_of (h1.ok f hf)⟩, h2⟩
set_option maxRecDepth 100000 in
theorem ikey_parts {n : Nat} {cs : List Value} {x : DataW H × List MemPlace} (hlen : cs.length = 3) (ht : DataW.trod enc Try.prog W 0 sp true n 33 cs = some x) : ∃ (k : ByteArray) (s c : Int), cs = [.string k, .int .u64 s, .int .i64 c] := by
  obtain ⟨y0, y1, y2, m, hx, _, h0, h1, h2⟩ := Deep.trod_struct3 Try.underlying33 ht
  match cs, hlen with
  | [c0, c1, c2], _ =>
    simp only [c3, c22, c9, List.drop_zero, List.drop_succ_cons, List.take_succ_cons, List.take_zero] at h0 h1 h2
    obtain ⟨k, e0, f0, w0⟩ := DataW.trod_string Try.underlying9 h0
    obtain ⟨s, e1, f1, w1⟩ := DataW.trod_int Try.underlying31 h1
    obtain ⟨c, e2, f2, w2⟩ := DataW.trod_int Try.underlying3 h2
    simp only [List.cons.injEq, and_true] at e0 e1 e2
    subst e0 e1 e2
    exact ⟨k, s, c, rfl⟩
end
theorem wE_mem : ∀ (xs : List E) (x : E), x ∈ xs → x.k.size ≤ wsum wE xs
  | y :: ys, x, h => by
    show _ ≤ wE y + wsum wE ys
    rcases List.mem_cons.1 h with rfl | h
    · unfold wE; omega
    · have := wE_mem ys x h; omega
theorem wX_mem : ∀ (fs : List Lf) (f : Lf), f ∈ fs → ∀ x ∈ f.xs, x.k.size ≤ wsum wX fs
  | g :: gs, f, h, x, hx => by
    show _ ≤ wX g + wsum wX gs
    rcases List.mem_cons.1 h with rfl | h
    · have := wE_mem f.xs x hx; unfold wX; omega
    · have := wX_mem gs f h x hx; omega
end Go.Proofs.Ytgjodfaliajlgaa.Of

/- Lists of entries that came in, with what all of it weighs. -/
import Derived.Test.YtgjodfaliajlgaaOe9
namespace Go.Proofs.Ytgjodfaliajlgaa.Of
open Go.ChangeShapes Go.WideShapes Go.ChangeAt Go.RowKit
open Go.Proofs.Ytgjodfaliajlgaa.Gr hiding hid addr_add
open Go.Proofs.Ytgjodfaliajlgaa.Ik
open Go.Proofs.Ytgjodfaliajlgaa.Ee
open Go.Proofs.Ytgjodfaliajlgaa.Sd hiding below_grown
open Go.Proofs.Ytgjodfaliajlgaa.Ml
open Go.Proofs.Ytgjodfaliajlgaa.Oe9
set_option linter.unusedVariables false

section
variable {H : Type} {enc : TypeId × Value → H} {W : World} {sp : Nat → Bool}
theorem open_lists2 {fuel : Nat} {a : Option Addr} {len cap : Nat} {x : DataW H × List MemPlace} (hf : DataW.trod enc Try.prog W 0 sp true fuel 22 [.slice a len cap] = some x) : ∃ fs, Lsts W a len cap fs ∧ wsum wX fs + 1 ≤ Rows.uptoBulk x.1 := by
  obtain ⟨fs, h1, h2⟩ := open_sl (eLd W) wX cEs (fun n cs x => list_parts) hf
  exact ⟨fs, ⟨⟨h1.n, h1.c, h1.nil, fun _ _ => trivial, h1.cells⟩, fun f hf => ents_of (h1.ok f hf)⟩, h2⟩
end
theorem wE_mem : ∀ (xs : List E) (x : E), x ∈ xs → x.k.size ≤ wsum wE xs
  | y :: ys, x, h => by
    show _ ≤ wE y + wsum wE ys
    rcases List.mem_cons.1 h with rfl | h
    · unfold wE; omega
    · have := wE_mem ys x h; omega
theorem wX_mem : ∀ (fs : List Lf) (f : Lf), f ∈ fs → ∀ x ∈ f.xs, x.k.size ≤ wsum wX fs
  | g :: gs, f, h, x, hx => by
    show _ ≤ wX g + wsum wX gs
    rcases List.mem_cons.1 h with rfl | h
    · have := wE_mem f.xs x hx; unfold wX; omega
    · have := wX_mem gs f h x hx; omega
end Go.Proofs.Ytgjodfaliajlgaa.Of

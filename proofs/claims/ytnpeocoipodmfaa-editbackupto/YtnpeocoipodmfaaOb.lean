/- Bytes that came in, opened. -/
import Derived.Test.YtnpeocoipodmfaaOe
import Derived.Test.YtnpeocoipodmfaaDe
namespace Go.Proofs.Ytnpeocoipodmfaa.Ob
open Go.ChangeShapes Go.WideShapes Go.ChangeAt Go.RowKit Go.Joins
open Go.Proofs.Ytnpeocoipodmfaa.Gr
open Go.Proofs.Ytnpeocoipodmfaa.Oe
open Go.Proofs.Ytnpeocoipodmfaa.Bu (eB)
set_option linter.unusedVariables false
theorem u8_bd {y : Int} (h : (Lit.int .u8 y).wf = true) : 0 ≤ y ∧ y ≤ 255 := by
  simpa [Lit.wf, IntKind.min, IntKind.max, IntKind.signed, IntKind.bits] using h
section
variable {H : Type} {enc : TypeId × Value → H} {W : World} {sp : Nat → Bool}
theorem byte_part (n : Nat) (cs : List Value) (x : DataW H × List MemPlace) (hlen : cs.length = 1) (ht : DataW.trod enc Try.prog W 0 sp true n 5 cs = some x) : ∃ e : Int, eB.ok e ∧ cs = eB.cs e ∧ 1 ≤ Rows.uptoBulk x.1 := by
  obtain ⟨k, e0, f0, w0⟩ := DataW.trod_int Try.underlying5 ht
  refine ⟨k, u8_bd w0, e0, ?_⟩
  rw [f0]; simp [Rows.uptoBulk]
theorem bytes_sl {W : World} {a : Option Addr} {len cap : Nat} {zs : List Int} (h2 : eB.Sl W a len cap zs) : By.Bytes W a len cap zs := by
  refine ⟨h2.n, h2.c, h2.nil, h2.ok, ?_⟩
  intro x hx i hi
  obtain ⟨b, o, p⟩ := x
  obtain ⟨hp, hc⟩ := h2.cells b o p hx (by omega)
  subst hp
  have h4 := hc i hi 0 _ rfl
  have e : o + i * eB.k + 0 = o + i := by show o + i * 1 + 0 = _; omega
  rw [e] at h4
  rw [addr_add]
  exact h4
theorem open_bytes {fuel : Nat} {a : Option Addr} {len cap : Nat} {x : DataW H × List MemPlace} (hf : DataW.trod enc Try.prog W 0 sp true fuel 27 [.slice a len cap] = some x) : ∃ zs, By.Bytes W a len cap zs ∧ len ≤ Rows.uptoBulk x.1 := by
  obtain ⟨xs, h1, h2⟩ := open_sl eB (fun _ => 1) (by kernel_rfl) byte_part hf
  have h3 := wsum_len (fun _ : Int => 1) (fun _ => Nat.le_refl _) xs
  have h4 := h1.n
  exact ⟨xs, bytes_sl h1, by omega⟩
end
end Go.Proofs.Ytnpeocoipodmfaa.Ob

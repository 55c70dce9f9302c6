/- bytes.Equal by its contract. -/
import Derived.Test.YtnpeocoipodmfaaCp
import Derived.Test.YtnpeocoipodmfaaEv
namespace Go.Proofs.Ytnpeocoipodmfaa.Eq
open Go.ChangeShapes Go.WideShapes Go.ChangeAt Go.RowKit
open Go.Proofs.Ytnpeocoipodmfaa.By
set_option linter.unusedVariables false
set_option linter.unusedSimpArgs false

set_option maxRecDepth 10000 in
theorem equal_same {w : World} {a1 a2 : Option Addr} {l1 c1 l2 c2 : Nat} {zs : List Int} (H1 : Bytes w a1 l1 c1 zs) (H2 : Bytes w a2 l2 c2 zs) : Calls Try.prog 38 #[.slice a1 l1 c1, .slice a2 l2 c2] w fun e w' => e = .returned (.bool true) ∧ Below w.heap.size w w' := by
  have h1 := Bytes.conv H1
  have h2 := Bytes.conv H2
  clear H1 H2
  go_enter Try.func38, Try.ntmps38
  go_wp2_with fail
  go_ret
  exact ⟨by simp, Below.refl _ _⟩
theorem str_data (zs : List Int) : (str zs).data.toList = zs.map (fun n => UInt8.ofNat n.toNat) := by
  have h : ∀ (zs : List Int) (r : ByteArray), (zs.foldl (fun r n => r.push (UInt8.ofNat n.toNat)) r).data.toList = r.data.toList ++ zs.map (fun n => UInt8.ofNat n.toNat) := by
    intro zs
    induction zs with
    | nil => intro r; simp
    | cons z t ih => intro r; simp only [List.foldl_cons, ih, List.map_cons]; simp [ByteArray.push]
  simpa [str] using h zs ByteArray.empty
theorem bytes_inj : ∀ {xs ys : List Int}, (∀ y ∈ xs, 0 ≤ y ∧ y ≤ 255) → (∀ y ∈ ys, 0 ≤ y ∧ y ≤ 255) → xs.map (fun n => UInt8.ofNat n.toNat) = ys.map (fun n => UInt8.ofNat n.toNat) → xs = ys
  | [], [], _, _, _ => rfl
  | [], y :: t, _, _, h => by simp at h
  | x :: r, [], _, _, h => by simp at h
  | x :: r, y :: t, hx, hy, h => by
    simp only [List.map_cons, List.cons.injEq] at h
    have h1 := hx x (by simp)
    have h2 := hy y (by simp)
    have h3 := congrArg UInt8.toNat h.1
    simp only [UInt8.toNat_ofNat'] at h3
    rw [Nat.mod_eq_of_lt (by omega), Nat.mod_eq_of_lt (by omega)] at h3
    have h4 := bytes_inj (fun z hz => hx z (List.mem_cons_of_mem _ hz)) (fun z hz => hy z (List.mem_cons_of_mem _ hz)) h.2
    rw [h4, show x = y by omega]
theorem str_inj {xs ys : List Int} (hx : ∀ y ∈ xs, 0 ≤ y ∧ y ≤ 255) (hy : ∀ y ∈ ys, 0 ≤ y ∧ y ≤ 255) (h : str xs = str ys) : xs = ys := by
  have h := congrArg (fun b : ByteArray => b.data.toList) h
  simp only [str_data] at h
  exact bytes_inj hx hy h
set_option maxRecDepth 10000 in
theorem equal_no {w : World} {a1 a2 : Option Addr} {l1 c1 l2 c2 : Nat} {z1 z2 : List Int} (H1 : Bytes w a1 l1 c1 z1) (H2 : Bytes w a2 l2 c2 z2) (hz : z1 ≠ z2) : Calls Try.prog 38 #[.slice a1 l1 c1, .slice a2 l2 c2] w fun e w' => e = .returned (.bool false) ∧ Below w.heap.size w w' := by
  have h1 := Bytes.conv H1
  have h2 := Bytes.conv H2
  have hne : str z1 ≠ str z2 := fun h => hz (str_inj H1.2.2.2.1 H2.2.2.2.1 h)
  clear H1 H2 hz
  generalize str z1 = s1 at *
  generalize str z2 = s2 at *
  have hd1 : (s1.toList == s2.toList) = false := by
    rw [beq_eq_false_iff_ne]
    intro e
    rw [ByteArray.toList_eq, ByteArray.toList_eq] at e
    exact hne (ByteArray.ext (Array.toList_inj.1 e))
  go_enter Try.func38, Try.ntmps38
  go_wp2_with fail
  go_ret
  refine ⟨?_, Below.refl _ _⟩
  first
  | rfl
  | (show Ending.returned (.bool (s1.toList == s2.toList)) = _; rw [hd1])
end Go.Proofs.Ytnpeocoipodmfaa.Eq

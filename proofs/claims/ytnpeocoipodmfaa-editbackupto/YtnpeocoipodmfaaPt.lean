/- Texts that were printed are read. -/
import Derived.Test.YtnpeocoipodmfaaPb
import Derived.Test.YtnpeocoipodmfaaEq
namespace Go.Proofs.Ytnpeocoipodmfaa.Pt
open Go.ChangeShapes Go.WideShapes Go.ChangeAt Go.RowKit
open Go.Proofs.Ytnpeocoipodmfaa.Be (txB)
open Go.Proofs.Ytnpeocoipodmfaa.Eq (str_data)
open Go.Proofs.Ytnpeocoipodmfaa.Ri
open Go.Proofs.Ytnpeocoipodmfaa.By
set_option linter.unusedVariables false

theorem byte_eq {a b : ByteArray} (h : a.data.toList = b.data.toList) : a = b := by
  cases a; cases b; simp at h; rw [ByteArray.mk.injEq]; exact Array.toList_inj.1 (by simpa using h)
theorem str_tx (s : ByteArray) : str (tx s) = s := by
  apply byte_eq
  rw [str_data]
  unfold tx
  rw [List.map_map]
  have : ∀ l : List UInt8, l.map ((fun n : Int => UInt8.ofNat n.toNat) ∘ fun b : UInt8 => (b.toNat : Int)) = l := by
    intro l
    induction l with
    | nil => rfl
    | cons z r ih => simp only [List.map_cons, ih, Function.comp]; simp
  exact this _
theorem tread_back (ah rest : List Int) (s : ByteArray) (hs : s.size ≤ 1000000) : tread (ah ++ (txB s ++ rest)) ah.length = (tx s, ((ah.length + ((Vb.vb s.size).length + s.size) : Nat) : Int), 0) := by
  have hv := Vb.vread_back ah (tx s ++ rest) s.size (by omega)
  have e : ah ++ (txB s ++ rest) = ah ++ (Vb.vb s.size ++ (tx s ++ rest)) := by unfold txB; simp
  unfold tread
  rw [e, hv]
  have hl : (tx s).length = s.size := tx_len s
  rw [if_neg (by simp), if_neg (by simp [hl]; omega)]
  simp only [Int.toNat_natCast, Prod.mk.injEq, and_true]
  constructor
  · have e2 : ah ++ (Vb.vb s.size ++ (tx s ++ rest)) = (ah ++ Vb.vb s.size) ++ (tx s ++ rest) := by simp
    rw [e2, List.drop_left' (by simp), ← hl, List.take_left' rfl]
  · omega
/-- Two texts. -/
theorem texts_back (ah rest : List Int) (s t : ByteArray) (hs : s.size ≤ 1000000) (ht : t.size ≤ 1000000) : rdk (tread (ah ++ (txB s ++ (txB t ++ rest)))) 2 (ah.length : Nat) = ([tx s, tx t], ((ah.length + (txB s).length + (txB t).length : Nat) : Int), 0) := by
  have e1 : (txB s).length = (Vb.vb s.size).length + s.size := by unfold txB; rw [List.length_append, tx_len]
  have e2 : (txB t).length = (Vb.vb t.size).length + t.size := by unfold txB; rw [List.length_append, tx_len]
  have h1 := tread_back ah (txB t ++ rest) s hs
  have h2 := tread_back (ah ++ txB s) rest t ht
  rw [List.append_assoc, List.length_append] at h2
  rw [← e1] at h1
  rw [← e2] at h2
  have h3 := Pb.rdk_cons _ _ _ _ h2 0 [] _ rfl
  exact Pb.rdk_cons _ _ _ _ h1 1 _ _ h3
end Go.Proofs.Ytnpeocoipodmfaa.Pt

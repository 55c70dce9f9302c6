/- Texts in their order, as the model compares them. -/
import Derived.Test.YtnpeocoipodmfaaRows
import Derived.WalkKit
import Derived.ProofKit
import Derived.OpenShut
namespace Go.Proofs.Ytnpeocoipodmfaa.Lx
open Go.ChangeShapes Go.WideShapes Go.ChangeAt Go.RowKit
set_option linter.unusedVariables false

theorem hid {p : Prop} (h : p) : Hid p := h
theorem u8_lt (x y : UInt8) : x < y ↔ x.toNat < y.toNat := UInt8.lt_iff_toNat_lt
theorem u8_eq (x y : UInt8) (h : x.toNat = y.toNat) : x = y := UInt8.toNat_inj.1 h
theorem bl_nil (s : List UInt8) : Op.bytesLess s [] = false := by cases s <;> rfl
theorem bl_cons (x y : UInt8) (s t : List UInt8) : Op.bytesLess (x :: s) (y :: t) = true ↔ x.toNat < y.toNat ∨ x = y ∧ Op.bytesLess s t = true := by
  rw [Op.bytesLess]
  simp [u8_lt]
theorem bl_irr : ∀ s : List UInt8, Op.bytesLess s s = false
  | [] => rfl
  | x :: s => by
    cases h : Op.bytesLess (x :: s) (x :: s) with
    | false => rfl
    | true =>
      rcases (bl_cons x x s s).1 h with h | ⟨_, h⟩
      · omega
      · rw [bl_irr s] at h; cases h
theorem bl_tr : ∀ r s t : List UInt8, Op.bytesLess r s = true → Op.bytesLess s t = true → Op.bytesLess r t = true
  | r, s, [], h1, h2 => by rw [bl_nil] at h2; cases h2
  | r, [], _ :: _, h1, h2 => by rw [bl_nil] at h1; cases h1
  | [], _ :: _, _ :: _, h1, h2 => rfl
  | x :: r, y :: s, z :: t, h1, h2 => by
    rw [bl_cons] at h1 h2 ⊢
    rcases h1 with h1 | ⟨rfl, h1⟩ <;> rcases h2 with h2 | ⟨rfl, h2⟩
    · left; omega
    · left; exact h1
    · left; exact h2
    · right; exact ⟨rfl, bl_tr r s t h1 h2⟩
theorem bl_tot : ∀ s t : List UInt8, Op.bytesLess s t = true ∨ s = t ∨ Op.bytesLess t s = true
  | [], [] => .inr (.inl rfl)
  | [], _ :: _ => .inl rfl
  | _ :: _, [] => .inr (.inr rfl)
  | x :: s, y :: t => by
    rw [bl_cons, bl_cons]
    rcases Nat.lt_trichotomy x.toNat y.toNat with h | h | h
    · exact .inl (.inl h)
    · have := u8_eq x y h
      subst this
      rcases bl_tot s t with h | h | h
      · exact .inl (.inr ⟨rfl, h⟩)
      · exact .inr (.inl (by rw [h]))
      · exact .inr (.inr (.inr ⟨rfl, h⟩))
    · exact .inr (.inr (.inl h))
theorem toList_inj {a b : ByteArray} (h : a.toList = b.toList) : a = b := by
  rw [ByteArray.toList_eq, ByteArray.toList_eq] at h
  obtain ⟨⟨la⟩⟩ := a
  obtain ⟨⟨lb⟩⟩ := b
  simp at h
  rw [h]
/-- A text is below another one. -/
abbrev lt (a b : ByteArray) : Bool := Op.bytesLess a.toList b.toList
theorem irr (a : ByteArray) : lt a a = false := bl_irr _
theorem tr {a b c : ByteArray} (h1 : lt a b = true) (h2 : lt b c = true) : lt a c = true := bl_tr _ _ _ h1 h2
theorem tot (a b : ByteArray) : lt a b = true ∨ a = b ∨ lt b a = true := by
  rcases bl_tot a.toList b.toList with h | h | h
  · exact .inl h
  · exact .inr (.inl (toList_inj h))
  · exact .inr (.inr h)
theorem asym {a b : ByteArray} (h : lt a b = true) : lt b a = false := by
  cases h' : lt b a with
  | false => rfl
  | true => have := tr h h'; rw [irr] at this; cases this
theorem eq_of {a b : ByteArray} (h1 : lt a b = false) (h2 : lt b a = false) : a = b := by
  rcases tot a b with h | h | h
  · rw [h1] at h; cases h
  · exact h
  · rw [h2] at h; cases h
/-- Not above and below. -/
theorem lelt {a b c : ByteArray} (h1 : lt b a = false) (h2 : lt b c = true) : lt a c = true := by
  rcases tot a b with h | h | h
  · exact tr h h2
  · rw [h]; exact h2
  · rw [h1] at h; cases h
theorem ltle {a b c : ByteArray} (h1 : lt a b = true) (h2 : lt c b = false) : lt a c = true := by
  rcases tot b c with h | h | h
  · exact tr h1 h
  · rw [← h]; exact h1
  · rw [h2] at h; cases h
theorem lele {a b c : ByteArray} (h1 : lt b a = false) (h2 : lt c b = false) : lt c a = false := by
  cases h : lt c a with
  | false => rfl
  | true => have := ltle h h1; rw [h2] at this; cases this
theorem empty_le (a : ByteArray) : lt a ⟨#[]⟩ = false := by
  show Op.bytesLess _ (ByteArray.toList ⟨#[]⟩) = false
  rw [show ByteArray.toList ⟨#[]⟩ = [] from by rw [ByteArray.toList_eq]]
  exact bl_nil _
theorem leq_eq (a b : ByteArray) : (Op.bytesLess a.toList b.toList || a.toList == b.toList) = !(Op.bytesLess b.toList a.toList) := by
  rcases tot a b with h | rfl | h
  · have := asym h
    unfold lt at h this
    rw [h, this]; rfl
  · have := irr a
    unfold lt at this
    rw [this]; simp
  · have := asym h
    unfold lt at h this
    rw [h, this]
    have hne : ¬ a = b := fun e => by subst e; have := irr a; unfold lt at this; rw [this] at h; cases h
    have : (a.toList == b.toList) = false := by rw [beq_eq_false_iff_ne]; exact fun e => hne (toList_inj e)
    rw [this]; rfl
theorem leq_s (t : TypeId) (a b : ByteArray) : binOp .leq t (.string a) (.string b) = pure (.bool (!(Op.bytesLess b.toList a.toList))) := by
  rw [← leq_eq]; simp [binOp, Op.stringOp]
theorem gtr_s (t : TypeId) (a b : ByteArray) : binOp .gtr t (.string a) (.string b) = pure (.bool (Op.bytesLess b.toList a.toList)) := by
  rw [← Bool.not_not (Op.bytesLess b.toList a.toList), ← leq_eq]; simp [binOp, Op.stringOp]
theorem geq_s (t : TypeId) (a b : ByteArray) : binOp .geq t (.string a) (.string b) = pure (.bool (!(Op.bytesLess a.toList b.toList))) := by
  simp [binOp, Op.stringOp]
/-- The greater and the lesser one of two texts. -/
def mx (a b : ByteArray) : ByteArray := if lt a b = true then b else a
def mn (a b : ByteArray) : ByteArray := if lt b a = true then b else a
theorem run_mx {P : Program} (w : World) (ts : Array TypeId) (t : TypeId) (x y : ByteArray) : (Builtin.max_ ts t #[.string x, .string y]).run P w = .ok (.string (mx x y)) w := by
  unfold mx
  cases h : lt x y <;> simp [Builtin.max_, Builtin.max2, Op.stringOp, asBool, show Op.bytesLess x.toList y.toList = _ from h]
theorem run_mn {P : Program} (w : World) (ts : Array TypeId) (t : TypeId) (x y : ByteArray) : (Builtin.min_ ts t #[.string x, .string y]).run P w = .ok (.string (mn x y)) w := by
  unfold mn
  rcases tot x y with h | h | h
  · have h' := asym h
    unfold lt at h h'
    simp [Builtin.min_, Builtin.min2, Op.stringOp, asBool, h, h']
  · subst h
    have h' := irr x
    unfold lt at h'
    simp [Builtin.min_, Builtin.min2, Op.stringOp, asBool, h']
  · have h' := asym h
    have hne : ¬ x.toList = y.toList := fun e => by rw [toList_inj e, irr] at h; cases h
    unfold lt at h h'
    simp [Builtin.min_, Builtin.min2, Op.stringOp, asBool, h, h', hne]
end Go.Proofs.Ytnpeocoipodmfaa.Lx

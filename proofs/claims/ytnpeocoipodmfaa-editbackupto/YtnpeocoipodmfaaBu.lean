/- Bytes that a call makes up: PutVarint, PutText of nothing, appendNumbers, appendSaid by their contracts. -/
import Derived.Test.YtnpeocoipodmfaaVa
import Derived.Test.YtnpeocoipodmfaaCp
namespace Go.Proofs.Ytnpeocoipodmfaa.Bu
open Go.ChangeShapes Go.WideShapes Go.ChangeAt Go.RowKit
open Go.Proofs.Ytnpeocoipodmfaa.Gr
open Go.Proofs.Ytnpeocoipodmfaa.Ev
open Go.Proofs.Ytnpeocoipodmfaa.Va (get1 below_grown)
open Go.Proofs.Ytnpeocoipodmfaa.By (Row Bytes tx)
set_option linter.unusedVariables false
set_option linter.unusedSimpArgs false

def eB : El Int where
  st := 27
  et := 5
  k := 1
  by_ := 1
  cs := fun x => [.int .u8 x]
  z := 0
  zv := .int .u8 0
  len := fun _ => rfl
  one := by intro x u h; simp at h; rcases h with rfl; rfl
  und := Try.underlying27
  info := by kernel_rfl
  zc := rfl
  pos := by decide
  ok := fun x => 0 ≤ x ∧ x ≤ 255
theorem clB : ∀ xs : List Int, eB.cl xs = xs.map (Value.int .u8)
  | [] => rfl
  | x :: r => by show Value.int .u8 x :: eB.cl r = _; rw [clB r]; rfl
theorem own_of {W : World} {base g n c : Nat} {xs : List Int} (R : Row W base g n c xs) : n = xs.length ∧ eB.Own W base (.slice (some ⟨g, 0, none⟩) n c) xs := by
  have hl := R.len
  refine ⟨hl.symm, ?_⟩
  unfold El.Own
  rw [clB, hl]
  exact R
theorem own_ty {W : World} {base e size n : Nat} {v : Value} {ys : List Value} (h : W.ownsRow base e size v n ys) : ∀ j, v.ownBlock = some j → ∃ c, W.heap[j]? = some (.cells c e) := by
  intro j hj
  rcases h.2 with ⟨h1, _⟩ | ⟨g, c, cur, h1, h2, h3, h4⟩
  · rw [h1] at hj; simp [Value.ownBlock] at hj
  · rw [h1] at hj; simp [Value.ownBlock] at hj; subst hj
    exact ⟨cur, h3⟩
/-- v' has grown out of v: nothing older but v's own row has turned. -/
structure Gw (W W' : World) (v v' : Value) : Prop where
  fp : Fp (fun j => v.ownBlock = some j) W W'
  nb : ∀ j, v'.ownBlock = some j → v.ownBlock = some j ∨ W.heap.size ≤ j
theorem Gw.refl (W : World) (v : Value) : Gw W W v v := ⟨Fp.refl _ _, fun j h => .inl h⟩
theorem Gw.tr {W W1 W2 : World} {v v1 v2 : Value} (h : Gw W W1 v v1) (k : Gw W1 W2 v1 v2) : Gw W W2 v v2 :=
  ⟨h.fp.tr (k.fp.wide (fun j _ e => h.nb j e)), fun j e => by
    rcases k.nb j e with e | e
    · exact h.nb j e
    · have := h.fp.size; right; omega⟩
theorem Gw.below {W W1 W2 : World} {v v1 : Value} (h : Gw W W1 v v1) (b : Below W1.heap.size W1 W2) : Gw W W2 v v1 := ⟨h.fp.below b, h.nb⟩
theorem Gw.after {W W1 W2 : World} {v v2 : Value} (b : Below W.heap.size W W1) (k : Gw W1 W2 v v2) : Gw W W2 v v2 :=
  ⟨(Fp.of b).tr (k.fp.wide (fun j _ e => .inl e)), fun j e => by
    rcases k.nb j e with e | e
    · exact .inl e
    · have := b.size; right; omega⟩
theorem Gw.grown {W W1 : World} {v v1 : Value} (g : W.grownBy W1 v.ownBlock) (q : ∀ j, v1.ownBlock = some j → v.ownBlock = some j ∨ W.heap.size ≤ j) : Gw W W1 v v1 :=
  ⟨(Fp.refl _ W).grown g (fun j e => .inl e), q⟩
/-- A block of another type stays. -/
theorem Gw.blk {W W1 : World} {base : Nat} {v v1 : Value} {xs : List Int} (h : Gw W W1 v v1) (o : eB.Own W base v xs) {g : Nat} {c : Array Value} {t : TypeId} (hb : W.heap[g]? = some (.cells c t)) (ht : (5 : Nat) ≠ t) : W1.heap[g]? = some (.cells c t) := by
  refine (h.fp.block g (blk_lt hb) (fun e => ?_)).trans hb
  obtain ⟨c1, e1⟩ := own_ty o g e
  rw [hb] at e1
  injection e1 with e1
  injection e1 with _ e1
  exact ht e1.symm
theorem Gw.low {W W1 : World} {base : Nat} {v v1 : Value} {xs : List Int} (h : Gw W W1 v v1) (o : eB.Own W base v xs) (hb : base ≤ W.heap.size) : Below base W W1 := h.fp.base hb (fun j e => (own_lt o j e).1)
set_option maxHeartbeats 400000 in
theorem putv_any (v : Int) (hv : 0 ≤ v ∧ v ≤ 18446744073709551615) (w : World) :
    Calls Try.prog 47 #[.slice none 0 0, .int .u64 v] w fun e w' => ∃ c : Nat, e = .returned (.slice (some ⟨w.heap.size, 0, none⟩) (Vb.vb v).length c) ∧ Row w' w.heap.size w.heap.size (Vb.vb v).length c (Vb.vb v) ∧ Below w.heap.size w w' := by
  have hl := Vb.vb_le v
  obtain ⟨V, hV⟩ : ∃ V, V = Vb.vb v := ⟨_, rfl⟩
  have hsz := hid (By.size_any v w hv)
  have hap := hid (fun g cap W (R : Row W w.heap.size g 0 cap []) (h : 0 + V.length ≤ cap) => by rw [hV] at h; have := By.appv_any w.heap.size g 0 cap [] v W R hv h; rw [← hV] at this; exact this)
  rw [← hV] at hl hsz ⊢
  replace hV := hid hV
  have H : Bytes w none 0 0 [] := ⟨rfl, Nat.le_refl _, fun _ => ⟨rfl, rfl⟩, (fun y h => by cases h), (fun x h => by cases h)⟩
  have hrm := hid (By.room_any none 0 0 V.length [] w H (by omega))
  simp only [Nat.zero_add, List.nil_append] at hrm hap
  generalize V.length = k at *
  clear H
  go_enter Try.func47, Try.ntmps47
  go_wp2_with (first
    | (go_at_call 50; refine hsz.out.mono ?_; rintro e w1 ⟨rfl, hw1⟩; subst hw1)
    | (go_at_call 49; refine hrm.out.mono ?_; rintro e w2 ⟨rfl, R2, b2⟩; replace R2 := hid R2; replace b2 := hid b2)
    | (go_at_call 48; refine (hap.out _ _ _ R2.out (Nat.le_refl _)).mono ?_; rintro e w3 ⟨rfl, R3, g3⟩; replace R3 := hid R3; replace g3 := hid (b2.out.grown g3 b2.out.size (by intro k hk; simp at hk; omega))))
  go_ret
  exact ⟨_, rfl, R3.out, g3.out⟩
end Go.Proofs.Ytnpeocoipodmfaa.Bu

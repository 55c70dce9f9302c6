/- appendSaid by its contract; a tag, then numbers. -/
import Derived.Test.YtnpeocoipodmfaaBv
namespace Go.Proofs.Ytnpeocoipodmfaa.Bs
open Go.ChangeShapes Go.WideShapes Go.ChangeAt Go.RowKit
open Go.Proofs.Ytnpeocoipodmfaa.Gr
open Go.Proofs.Ytnpeocoipodmfaa.Bu
open Go.Proofs.Ytnpeocoipodmfaa.Bv
open Go.Proofs.Ytnpeocoipodmfaa.Le (wpList_append_run)
set_option linter.unusedVariables false
set_option linter.unusedSimpArgs false

/-- append of one byte onto a row of the call's own. -/
theorem app_tag {w : World} {base : Nat} {v : Value} {l : List Int} (O : eB.Own w base v l) (hb : base ≤ w.heap.size) (t : Int) (A : Array Value) (hA : A = #[.int .u8 t]) (hn : l.length + 1 ≤ 140737488355328) :
    ∃ a c W', (Builtin.append_ #[27, 27] 27 #[v, .slice (some ⟨w.heap.size, 0, none⟩) 1 1]).run Try.prog (w.alloc (.cells A 5)) = .ok (.slice a (l.length + 1) c) W' ∧ eB.Own W' base (.slice a (l.length + 1) c) (l ++ [t]) ∧ Gw w W' v (.slice a (l.length + 1) c) := by
  obtain ⟨v', W', r, o, gr, q⟩ := El.app1 eB w base v l t A (by rw [hA]; rfl) O (by show (_ + 1) * 1 ≤ _; omega) hn hb
  obtain ⟨a, c, e⟩ := row_block o
  rw [List.length_append, List.length_singleton] at e
  subst e
  exact ⟨a, c, W', r, o, Gw.grown gr q⟩
/-- A tag and numbers, as a call of appendNumbers upon the append leaves them. -/
theorem tagged {w : World} {base : Nat} {v : Value} {l : List Int} (O : eB.Own w base v l) (hb : base ≤ w.heap.size) (t : Int) (A : Array Value) (hA : A = #[.int .u8 t]) (vs : List Int) (N : Nat) (B : Array Value) (hB : B = (vs.map (Value.int .u64)).toArray) (hN : N = vs.length) (hvs : ∀ x ∈ vs, u64 x) (hn : l.length + 10 * N + 1 ≤ 140737488355328) (hm : N ≤ 1024) :
    ∃ a c W', (Builtin.append_ #[27, 27] 27 #[v, .slice (some ⟨w.heap.size, 0, none⟩) 1 1]).run Try.prog (w.alloc (.cells A 5)) = .ok (.slice a (l.length + 1) c) W' ∧ (∀ W2, Below W'.heap.size W' W2 → ∀ g, W2.heap[g]? = some (.cells B 22) →
      Calls Try.prog 24 #[.slice a (l.length + 1) c, .slice (some ⟨g, 0, none⟩) N N] W2 fun e w' => ∃ v', e = .returned v' ∧ eB.Own w' base v' (l ++ t :: vbs vs) ∧ Gw w w' v v') ∧ Gw w W' v (.slice a (l.length + 1) c) ∧ eB.Own W' base (.slice a (l.length + 1) c) (l ++ [t]) := by
  obtain ⟨a, c, W', r, o, gw⟩ := app_tag O hb t A hA (by omega)
  refine ⟨a, c, W', r, fun W2 h2 g K => ?_, gw, o⟩
  have o2 : eB.Own W2 base (.slice a (l.length + 1) c) (l ++ [t]) := El.Own.later (E := eB) o h2
  refine (numbers_any base g N _ _ vs W2 o2 (Nat.le_trans hb (gw.below h2).fp.size) (by rw [← hB]; exact K) hN hvs (by rw [List.length_append, List.length_singleton]; omega) hm).mono ?_
  rintro e w' ⟨v', rfl, o3, g3⟩
  rw [List.append_assoc] at o3
  exact ⟨v', rfl, o3, (gw.below h2).tr g3⟩
/-- A number that is said: nothing when it is none. -/
def sd (t x : Int) : List Int := if x = 0 then [] else t :: Vb.vb x
theorem sd_len (t x : Int) : (sd t x).length ≤ 11 := by
  unfold sd
  have := Vb.vb_le x
  split
  · simp
  · simp only [List.length_cons]; omega
set_option maxRecDepth 20000 in
set_option maxHeartbeats 1000000 in
theorem said_any (base : Nat) (v : Value) (l : List Int) (t x : Int) (w : World) (O : eB.Own w base v l) (hb : base ≤ w.heap.size) (hx : u64 x) (hn : l.length + 16 ≤ 140737488355328) :
    Calls Try.prog 23 #[v, .int .u8 t, .int .u64 x] w fun e w' => ∃ v', e = .returned v' ∧ eB.Own w' base v' (l ++ sd t x) ∧ Gw w w' v v' := by
  obtain ⟨ra, rc, hra⟩ := row_block O
  obtain ⟨rn, hrn⟩ : ∃ n, n = l.length := ⟨_, rfl⟩
  rw [← hrn] at hra
  subst hra
  by_cases h0 : x = 0
  · subst h0
    have e : l ++ sd t 0 = l := by simp [sd]
    rw [e]
    replace O := hid O
    go_enter Try.func23, Try.ntmps23
    go_wp2_with fail
    go_ret
    exact ⟨_, rfl, O.out, Gw.refl _ _⟩
  · have hB : (x == 0) = false := by simp [h0]
    have hB2 : decide (x = 0) = false := by simp [h0]
    obtain ⟨a, c, W1, r, cn, g1, o1⟩ := tagged O hb t #[.int .u8 t] rfl [x] 1 #[.int .u64 x] rfl rfl (by intro y hy; rw [List.mem_singleton] at hy; subst hy; exact hx) (by omega) (by omega)
    rw [← hrn] at r cn
    have cn2 := hid (cn _ (box_below W1 (.cells #[.int .u64 x] 22)) _ (new_at _ _))
    have e : Hid (l ++ t :: vbs [x] = l ++ sd t x) := by show _ = _; unfold sd vbs; rw [if_neg h0]; simp
    rw [e.out] at cn2
    replace O := hid O
    replace hx := hid hx
    clear cn g1 o1
    replace hrn := hid hrn
    go_enter Try.func23, Try.ntmps23
    go_wp2_with (first
      | (at_builtin; go_loud (refine wpList_append_run rfl (.tmp 10) (.tmp 12) 27 27 rfl (.slice ra rn rc) (.slice (some ⟨w.heap.size, 0, none⟩) 1 1) (.slice a (rn + 1) c) rfl rfl r ?_))
      | (go_at_call 24; refine (cn2.out).mono ?_; rintro e w2 ⟨v3, rfl, o3, g3⟩; replace o3 := hid o3; replace g3 := hid g3))
    go_ret
    exact ⟨_, rfl, o3.out, g3.out⟩
end Go.Proofs.Ytnpeocoipodmfaa.Bs

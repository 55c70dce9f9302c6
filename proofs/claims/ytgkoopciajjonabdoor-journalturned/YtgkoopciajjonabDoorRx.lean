/- Read, and what is read of a whole file. -/
import Derived.Test.YtgkoopciajjonabDoorRe
import Derived.Test.YtgkoopciajjonabDoorVd
namespace Go.Proofs.YtgkoopciajjonabDoor.Rx
open Go.ChangeShapes Go.WideShapes Go.ChangeAt Go.RowKit
open Go.Proofs.YtgkoopciajjonabDoor.Crc
open Go.Proofs.YtgkoopciajjonabDoor.Jm
open Go.Proofs.YtgkoopciajjonabDoor.Jn
open Go.Proofs.YtgkoopciajjonabDoor.Ck
open Go.Proofs.YtgkoopciajjonabDoor.Wt
open Go.Proofs.YtgkoopciajjonabDoor.Wc
open Go.Proofs.YtgkoopciajjonabDoor.Wa
open Go.Proofs.YtgkoopciajjonabDoor.Rc
open Go.Proofs.YtgkoopciajjonabDoor.Wn
open Go.Proofs.YtgkoopciajjonabDoor.Vd (valid_any own_conv)
open Go.Proofs.YtgkoopciajjonabDoor.Rr (pr)
open Go.Proofs.YtgkoopciajjonabDoor.Re
set_option linter.unusedVariables false
set_option linter.unusedSimpArgs false

theorem read_any (b : Nat) (a : Option Addr) (len cap : Nat) (f : List Int) (out : List (Nat × List Int)) (how : Nat) (w : World) (T : Hid (Tab w)) (H : Bytes w a len cap f) (hb : 32 ≤ b ∧ b ≤ 32768) (hcap : cap ≤ 9223372036854775807) (hlen : len ≤ 140737488355328) (hR : Rd b f 0 [] false out how) (hout : (out.length + 1) * 24 ≤ 140737488355328) :
    Calls Tryd.prog 6 #[.int .i64 b, .slice a len cap] w fun e w' => ∃ (v : Value) (ys : List (Nat × Sl)), e = .returned (.tuple #[v, .int .i64 ((lst out : Nat) : Int), .int .i64 (how : Int), .int .i64 0]) ∧ OwnR w' w.heap.size v (ys.map Prod.snd) ∧ ys.map pr = out ∧ (∀ x ∈ ys, Wt.Own w' w.heap.size x.2.v x.2.zs) ∧ Below w.heap.size w w' :=
  callsIn_wide.1 (read_in b a len cap f out how w T H hb hcap hlen hR hout)
theorem rd_whole (b : Nat) (hb : 32 ≤ b ∧ b ≤ 32768) : ∀ (rs : List (List Int)) (pre : List Int), (∀ r ∈ rs, r.length ≤ 2097152) → Rd b (pre ++ lay b pre.length rs) pre.length [] false ((endl b pre.length rs).zip rs) 0
  | [], pre, _ => by
    simp only [lay, endl, List.append_nil, List.zip_nil_right]
    exact rd_end b pre pre.length [] false (Nat.le_refl _)
  | r :: rs, pre, h => by
    simp only [lay, endl, List.zip_cons_cons]
    refine rd_add b hb r pre _ _ 0 (h r (by simp)) ?_
    have := rd_whole b hb rs (pre ++ flat (addc b pre.length r)) (fun r' h' => h r' (by simp [h']))
    rw [List.length_append, List.append_assoc] at this
    exact this
theorem lst_cons (x y : Nat × List Int) (l : List (Nat × List Int)) : lst (x :: y :: l) = lst (y :: l) := by simp [lst]
theorem lst_zip (b : Nat) : ∀ (rs : List (List Int)) (a : Nat) (r : List Int), lst ((endl b a (r :: rs)).zip (r :: rs)) = a + (lay b a (r :: rs)).length
  | [], a, r => by simp [lst, endl, lay]
  | s :: rs, a, r => by
    have := lst_zip b rs (a + (flat (addc b a r)).length) s
    simp only [endl, lay, List.zip_cons_cons, List.length_append] at this ⊢
    rw [lst_cons, this]
    omega
theorem lst_lay (b : Nat) (rs : List (List Int)) : lst ((endl b 0 rs).zip rs) = (lay b 0 rs).length := by
  cases rs with
  | nil => simp [lst, lay]
  | cons r rs => rw [lst_zip]; omega
theorem zip_get {ys : List (Nat × Sl)} {es : List Nat} {P : List Sl} (h : ys.map pr = es.zip (zss P)) (hl : es.length = P.length) (k : Nat) (y : Nat × Sl) (s : Sl) (hy : ys[k]? = some y) (hs : P[k]? = some s) : y.2.zs = s.zs := by
  have h1 : (ys.map pr)[k]? = some (pr y) := by rw [List.getElem?_map, hy]; rfl
  rw [h, List.getElem?_zip_eq_some] at h1
  have h2 := h1.2
  unfold zss at h2
  rw [List.getElem?_map, hs] at h2
  simp [pr] at h2
  exact h2.symm
end Go.Proofs.YtgkoopciajjonabDoor.Rx

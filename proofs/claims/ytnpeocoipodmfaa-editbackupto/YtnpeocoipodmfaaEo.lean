/- edit.Encode of an edit that may not be. -/
import Derived.Test.YtnpeocoipodmfaaEn
namespace Go.Proofs.Ytnpeocoipodmfaa.Eo
open Go.ChangeShapes Go.WideShapes Go.ChangeAt Go.RowKit
open Go.Proofs.Ytnpeocoipodmfaa.Gr
open Go.Proofs.Ytnpeocoipodmfaa.Ev
open Go.Proofs.Ytnpeocoipodmfaa.Va
open Go.Proofs.Ytnpeocoipodmfaa.Bu
open Go.Proofs.Ytnpeocoipodmfaa.Be
set_option linter.unusedVariables false
set_option linter.unusedSimpArgs false

set_option maxHeartbeats 1000000 in
theorem encode_no (v : Value) (e : Ed) (w : World) (HE : EV w v e) (hV : vE e = false) :
    Calls Try.prog 9 #[v] w fun en w' => en = .returned (.tuple #[.slice none 0 0, .int .i64 2]) ∧ Below w.heap.size w w' := by
  have cV := fun W h => valid_any v e W h
  rw [hV] at cV
  replace cV : Hid (∀ W, EV W v e → Calls Try.prog 11 #[v] W fun en w' => en = .returned (.bool false) ∧ Below W.heap.size W w') := cV
  obtain ⟨lg, nx, sq, ps, co⟩ := e
  have HE2 := hid HE
  obtain ⟨hok, pa, pc, ca, cc, rfl, HP, HC⟩ := HE
  unfold ev at cV HE2 ⊢
  dsimp only at *
  obtain ⟨pn, hpn⟩ : ∃ n, n = ps.length := ⟨_, rfl⟩
  obtain ⟨cn, hcn⟩ : ∃ n, n = co.length := ⟨_, rfl⟩
  rw [← hpn] at HP cV HE2 ⊢
  rw [← hcn] at HC cV HE2 ⊢
  obtain ⟨gx, hgx⟩ : ∃ g, g = w.heap.size := ⟨_, rfl⟩
  obtain ⟨W1, hW1⟩ : ∃ W, W = w.alloc (.cells #[.int .i64 lg, .int .i64 nx, .int .u64 sq, .slice pa pn pc, .slice ca cn cc] 26) := ⟨_, rfl⟩
  have kx : W1.heap[gx]? = some (.cells #[.int .i64 lg, .int .i64 nx, .int .u64 sq, .slice pa pn pc, .slice ca cn cc] 26) := by rw [hW1, hgx]; exact new_at _ _
  have bx : Below w.heap.size w W1 := by rw [hW1]; exact box_below _ _
  have q0 := cell_of kx 0 _ rfl
  have q1 := cell_of kx 1 _ rfl
  have q2 := cell_of kx 2 _ rfl
  have q3 := cell_of kx 3 _ rfl
  have q4 := cell_of kx 4 _ rfl
  rw [hW1, hgx] at q0 q1 q2 q3 q4
  replace cV := hid (cV W1 (EV.later HE2.out bx))
  replace bx := hid bx
  replace hW1 := hid hW1
  replace hgx := hid hgx
  replace hpn := hid hpn
  replace hcn := hid hcn
  clear kx hok hV HP HC HE2
  go_enter Try.func9, Try.ntmps9
  go_wp2_with fail
  rw [← hW1.out, ← hgx.out]
  refine cV.out.mono ?_
  rintro en w2 ⟨rfl, b2⟩
  clear q0 q1 q2 q3 q4
  go_wp2_with fail
  go_ret2
  exact ⟨rfl, Below.up bx.out b2⟩
end Go.Proofs.Ytnpeocoipodmfaa.Eo

/- live.New, Len; LiveNil. -/
import Derived.Test.YtcpnmpepcpcahaaGreatDoorPt
import Derived.Test.YtcpnmpepcpcahaaGreatDoorLn
namespace Go.Proofs.YtcpnmpepcpcahaaGreatDoor.Nw
open Go.ChangeShapes Go.WideShapes Go.ChangeAt Go.RowKit
open Go.Proofs.YtcpnmpepcpcahaaGreatDoor.Gr
open Go.Proofs.YtcpnmpepcpcahaaGreatDoor.Ev
open Go.Proofs.YtcpnmpepcpcahaaGreatDoor.Oe
open Go.Proofs.YtcpnmpepcpcahaaGreatDoor.Lv
open Go.Proofs.YtcpnmpepcpcahaaGreatDoor.Vr
open Go.Proofs.YtcpnmpepcpcahaaGreatDoor.Vt
open Go.Proofs.YtcpnmpepcpcahaaGreatDoor.Lu
open Go.Proofs.YtcpnmpepcpcahaaGreatDoor.Cy
open Go.Proofs.YtcpnmpepcpcahaaGreatDoor.Pt
set_option linter.unusedVariables false
set_option linter.unusedSimpArgs false

theorem mk_run (t : TypeId) (w : World) : Sem.run Tryz.prog (Instr.makeMap t none) w = .ok (.map (some w.heap.size)) (w.alloc (.map #[] 0)) := by
  kernel_rfl
set_option maxHeartbeats 1000000 in
theorem new_yes (a : Option Addr) (len cap : Nat) (L : List (List Fi)) (w : World) (H : Lvs w a len cap L) (hw : wL L ≤ 1048576) (hv : vld L = true) :
    Calls Tryz.prog 8 #[.slice a len cap] w fun e w' => ∃ gs gm gw gi gx xs, e = .returned (.pointer (some ⟨gs, 0, none⟩)) ∧ w'.heap[gs]? = some (.cells #[.int .i64 1, .map (some gm), .map (some gw)] 45) ∧ Mv.Mp w' gm [(1, .pointer (some ⟨gi, 0, none⟩))] ∧ Mv.Mp w' gw [] ∧ w'.heap[gi]? = some (.cells #[.slice (some ⟨gx, 0, none⟩) len len, .int .i64 0] 82) ∧ Ot w.heap.size w' gx xs ∧ xs.map Lf.fs = L ∧ w.heap.size ≤ gm ∧ gm < gw ∧ gw < gs ∧ gs < gi ∧ Below w.heap.size w w' := by
  have c1 := hid (valid_any a len cap L w H hw)
  rw [hv] at c1
  have HL : Hid (∀ W, Below w.heap.size w W → Lvs W a len cap L) := fun W b => H.later b
  replace hw := hid hw
  clear H hv
  go_enter Tryz.func8, Tryz.ntmps8
  go_wp2_with (first | (go_at_call 26; refine c1.out.mono ?_; rintro e w1 ⟨rfl, b1⟩; replace b1 := hid b1; have mk1 := mk_run 42 w1; have mk2 := mk_run 43 (w1.alloc (.map #[] 0))))
  obtain ⟨gm, hgm⟩ : ∃ g, g = w1.heap.size := ⟨_, rfl⟩
  obtain ⟨W2, hW2⟩ : ∃ W, W = w1.alloc (.map #[] 0) := ⟨_, rfl⟩
  obtain ⟨W3, hW3⟩ : ∃ W, W = W2.alloc (.map #[] 0) := ⟨_, rfl⟩
  obtain ⟨W4, hW4⟩ : ∃ W, W = W3.alloc (.cells #[.int .i64 0, .map (some gm), .map (some (gm + 1))] 45) := ⟨_, rfl⟩
  have z2 : W2.heap.size = gm + 1 := by rw [hW2, size_alloc, hgm]
  have z3 : W3.heap.size = gm + 2 := by rw [hW3, size_alloc, z2]
  have b2 : Below w1.heap.size w1 W2 := by rw [hW2]; exact box_below _ _
  have b3 : Below W2.heap.size W2 W3 := by rw [hW3]; exact box_below _ _
  have b4 : Below W3.heap.size W3 W4 := by rw [hW4]; exact box_below _ _
  have m2 : Mv.Mp W2 gm [] := by rw [hW2, hgm]; exact Mv.Mp.made _
  have m3 : Mv.Mp W3 (gm + 1) [] := by rw [hW3, ← z2]; exact Mv.Mp.made _
  have k4 : W4.heap[gm + 2]? = some (.cells #[.int .i64 0, .map (some gm), .map (some (gm + 1))] 45) := by rw [hW4, ← z3]; exact new_at _ _
  have m4 := (m2.later b3).later b4
  have n4 := m3.later b4
  have B4 : Below w1.heap.size w1 W4 := Below.up (Below.up b2 b3) b4
  have hlow : Hid (w.heap.size ≤ gm) := by show _ ≤ _; rw [hgm]; exact b1.out.size
  have hz4 : W4.heap.size = gm + 3 := by rw [hW4, size_alloc, z3]
  have cp := hid (put_any (gm + 2) gm (gm + 1) 0 [] a len cap L W4 k4 m4 (by omega) (fun W f => HL.out W (Below.trans (Below.up b1.out B4) (f.base (by rw [hz4]; have := hlow.out; omega) (fun j hj => by have := hlow.out; omega)))) hw.out)
  have e4 : Hid (((w1.alloc (.map #[] 0)).alloc (.map #[] 0)).alloc (.cells #[.int .i64 0, .map (some w1.heap.size), .map (some (w1.heap.size + 1))] 45) = W4) := by
    show _ = _
    rw [hW4, hW3, ← hW2, ← hgm]
  clear mk1 mk2
  replace b1 := hid b1.out
  replace hW2 := hid hW2
  replace hW3 := hid hW3
  replace hW4 := hid hW4
  replace z2 := hid z2
  replace z3 := hid z3
  replace hz4 := hid hz4
  replace B4 := hid B4
  replace n4 := hid n4
  replace hgm := hid hgm
  clear b2 b3 b4 m2 m3 m4 k4
  rw [e4.out, ← hgm.out]
  refine cp.out.mono ?_
  rintro e w5 ⟨rfl, gi, gx, xs, k5, m5, ki, hgi, O5, hL, F5⟩
  have n5 := n4.out.blk (F5.block (gm + 1) n4.out.lt (by omega))
  have B5 : Below w.heap.size w w5 := Below.trans (Below.up b1.out B4.out) (F5.base (by rw [hz4.out]; have := hlow.out; omega) (fun j hj => by have := hlow.out; omega))
  have e0 : Mv.put [] (0 + 1) (.pointer (some ⟨gi, 0, none⟩)) = [(1, .pointer (some ⟨gi, 0, none⟩))] := rfl
  rw [e0] at m5
  have O6 : Ot w.heap.size w5 gx xs := O5.down (by rw [hz4.out]; have := hlow.out; omega)
  have hgi2 : gm + 2 < gi := by rw [hz4.out] at hgi; omega
  replace k5 := hid k5
  replace m5 := hid m5
  replace ki := hid ki
  replace O6 := hid O6
  replace n5 := hid n5
  replace B5 := hid B5
  replace hL := hid hL
  replace hgi2 := hid hgi2
  clear F5 O5 cp
  go_wp2_with fail
  go_ret
  exact ⟨gm + 2, gm, gm + 1, gi, gx, xs, rfl, k5.out, m5.out, n5.out, ki.out, O6.out, hL.out, hlow.out, by omega, by omega, hgi2.out, B5.out⟩
end Go.Proofs.YtcpnmpepcpcahaaGreatDoor.Nw

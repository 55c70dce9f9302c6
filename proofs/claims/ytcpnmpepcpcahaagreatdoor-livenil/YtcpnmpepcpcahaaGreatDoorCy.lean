/- live.copied by its contract. -/
import Derived.Test.YtcpnmpepcpcahaaGreatDoorLu
namespace Go.Proofs.YtcpnmpepcpcahaaGreatDoor.Cy
open Go.ChangeShapes Go.WideShapes Go.ChangeAt Go.RowKit
open Go.Proofs.YtcpnmpepcpcahaaGreatDoor.Gr
open Go.Proofs.YtcpnmpepcpcahaaGreatDoor.Ev
open Go.Proofs.YtcpnmpepcpcahaaGreatDoor.Oe
open Go.Proofs.YtcpnmpepcpcahaaGreatDoor.Lv
open Go.Proofs.YtcpnmpepcpcahaaGreatDoor.Vp
open Go.Proofs.YtcpnmpepcpcahaaGreatDoor.Vr
open Go.Proofs.YtcpnmpepcpcahaaGreatDoor.Vt
open Go.Proofs.YtcpnmpepcpcahaaGreatDoor.Lu
set_option linter.unusedVariables false
set_option linter.unusedSimpArgs false

theorem set_take {α : Type} {xs ys : List α} {i : Nat} {y d : α} (h : i < xs.length) (h' : i < ys.length) (e : xs.take i = ys.take i) (hy : y = ys.getD i d) : (xs.set i y).take (i + 1) = ys.take (i + 1) := by
  apply List.ext_getElem?
  intro n
  rw [List.getElem?_take, List.getElem?_take]
  by_cases hn : n < i + 1
  · rw [if_pos hn, if_pos hn]
    by_cases hni : i = n
    · subst hni
      rw [List.getElem?_set_self h, hy, List.getD_eq_getElem?_getD, List.getElem?_eq_getElem h']
      rfl
    · rw [List.getElem?_set_ne hni]
      have := congrArg (fun t => t[n]?) e
      simp only [List.getElem?_take] at this
      rwa [if_pos (by omega), if_pos (by omega)] at this
  · rw [if_neg hn, if_neg hn]
/-- A level laid in its place. -/
theorem ou_app {w W : World} {g : Nat} {xs : List Lf} (h : Ou w W g xs) {k : Nat} (hk : k < xs.length) {la : Option Addr} {ln lc : Nat} {fs : List Fi} (F : eFi.Sl W la ln lc fs) (hn : ln ≤ 1048576) :
    ∃ a' c' W', (Builtin.append_ #[73, 73] 73 #[.slice none 0 0, .slice la ln lc]).run Tryz.prog W = .ok (.slice a' ln c') W' ∧ W'.heap[g]? = some (.cells (xs.map hd).toArray 73) ∧ Ou w (W'.setCell ⟨g, k, none⟩ (.slice a' ln c')) g (xs.set k ⟨a', ln, c', fs⟩) := by
  obtain ⟨v', W', r1, o1, g1, q1⟩ := El.app eFi W W.heap.size (.slice none 0 0) [] (El.Own.nil _ _ _) la ln lc fs F (by show (0 + ln) * 64 ≤ _; omega) (by show 0 + ln ≤ _; omega) (Nat.le_refl _)
  obtain ⟨a', c', hv'⟩ := row_block o1
  rw [List.nil_append] at hv' o1
  rw [F.n] at hv'
  subst hv'
  have b1 : Below W.heap.size W W' := below_grown (Below.refl _ _) (Nat.le_refl _) g1 (fun j hj => by cases hj)
  obtain ⟨hb', O'⟩ := row_ou h hk b1 o1 F.n.symm F.ok
  exact ⟨a', c', W', r1, hb', O'⟩
set_option maxHeartbeats 1000000 in
theorem copied_any (a : Option Addr) (len cap : Nat) (L : List (List Fi)) (w : World) (H : Lvs w a len cap L) (hw : wL L ≤ 1048576) :
    Calls Tryz.prog 49 #[.slice a len cap] w fun e w' => ∃ g xs, e = .returned (.slice (some ⟨g, 0, none⟩) len len) ∧ Ou w w' g xs ∧ xs.map Lf.fs = L := by
  have hll := wL_len L
  have hlen := H.len_eq
  have hcap := H.cap_le
  have hn8 : len ≤ 1048576 := by omega
  have HL : Hid (∀ W', Below w.heap.size w W' → Lvs W' a len cap L) := fun W' b => H.later b
  obtain ⟨i0, hi, hz0, hz1, hz2⟩ := info_parts (eLv w).info
  have hA : Hid (∀ {W : World} {g : Nat} {xs : List Lf}, Ou w W g xs → ∀ {k : Nat}, k < xs.length → ∀ {la : Option Addr} {ln lc : Nat} {fs : List Fi}, eFi.Sl W la ln lc fs → ln ≤ 1048576 → ∃ a' c' W', (Builtin.append_ #[73, 73] 73 #[.slice none 0 0, .slice la ln lc]).run Tryz.prog W = .ok (.slice a' ln c') W' ∧ W'.heap[g]? = some (.cells (xs.map hd).toArray 73) ∧ Ou w (W'.setCell ⟨g, k, none⟩ (.slice a' ln c')) g (xs.set k ⟨a', ln, c', fs⟩)) := fun h _ hk _ _ _ _ F hn => ou_app h hk F hn
  replace hlen := hid hlen
  replace hw := hid hw
  clear H hll
  go_enter Tryz.func49, Tryz.ntmps49
  go_wp2_with (first
        | (at_make; refine wpList_make_full _ rfl _ _ 23 rfl w.heap.size 73 i0 (.slice none 0 0) 1 Tryz.underlying23 hi hz0 hz1 _ _ _ _ len rfl rfl rfl rfl (by rw [hz2]; show 24 * len ≤ _; omega) (by unfold maxLen; omega) (Nat.le_refl _) ?_; intro w1 hrow hg1))
  obtain ⟨g, hg⟩ : ∃ g, g = w.heap.size := ⟨_, rfl⟩
  have bw1 : Below w.heap.size w w1 := below_grown (Below.refl _ _) (Nat.le_refl _) hg1 (fun k hk => by cases hk)
  have O1 : Ou w w1 g (List.replicate len zl) := by
    refine Ou.made bw1 ?_
    rw [hg]
    have := hrow
    rw [Nat.mul_one] at this
    rw [show (madeCells (Value.slice none 0 0).cells len).toList = List.replicate len (.slice none 0 0) from toList_madeCells_one _ _] at this
    exact this
  rw [← hg]
  have hx1 : Hid (((List.replicate len zl).map Lf.fs).take 0 = L.take 0) := by simp [Hid]
  have hl1 : Hid ((List.replicate len zl).length = len) := by show _ = _; simp
  replace O1 := hid O1
  replace hg := hid hg
  generalize List.replicate len zl = xs1 at *
  clear hrow hg1 bw1
  go_wp2_with fail
  go_loopw [11] (fun ii wr => ∃ (i : Nat) (xs : List Lf), ii = .int .i64 i ∧ i ≤ len ∧ Hid (xs.length = len) ∧ Hid ((xs.map Lf.fs).take i = L.take i) ∧ Hid (Ou w wr g xs)) (fun ii _ => len - (intOf ii).toNat)
  case atStart => exact ⟨0, xs1, rfl, by omega, hl1, hx1, O1⟩
  case round =>
    clear O1 hx1 hl1
    obtain ⟨i, xs, rfl, hi', hxl, hx, O⟩ := hrel
    by_cases hlt : i < len
    · obtain ⟨lb, lof, la, ln, lc, rfl, cl0, FS, hln⟩ := (HL.out w (Below.refl _ _)).at i hlt
      have cl := (O.out.lo.cell (show lb < _ from block_lt_of_cell cl0)).trans cl0
      have ik0 : (i : Int) < (len : Int) := by omega
      have ok0 : (0 : Int) ≤ (i : Int) := by omega
      have hsum := wL_at (L := L) (i := i) (by rw [hlen.out]; exact hlt)
      have hln8 : ln ≤ 1048576 := by have := hw.out; omega
      have hil : i < xs.length := by rw [hxl.out]; exact hlt
      obtain ⟨a', c', W', r1, hb', O'⟩ := hA.out O.out hil (FS.later O.out.lo) hln8
      have z0 := cell_of hb' i _ (map_get hil)
      have z1 := fz_of hb' i
      have hx' : Hid (((xs.set i ⟨a', ln, c', L.getD i []⟩).map Lf.fs).take (i + 1) = L.take (i + 1)) := by
        show _ = _
        rw [List.map_set]
        exact set_take (by rw [List.length_map]; exact hil) (by rw [hlen.out]; exact hlt) hx.out rfl
      have hxl' : Hid ((xs.set i ⟨a', ln, c', L.getD i []⟩).length = len) := by show _ = _; rw [List.length_set]; exact hxl.out
      replace r1 := hid r1
      replace O' := hid O'
      replace hil := hid hil
      clear FS hsum hln cl0 hb' hx hxl O
      generalize xs.set i ⟨a', ln, c', L.getD i []⟩ = xs' at *
      go_wp2_with (at_builtin; refine wpList_append_run rfl (.const (.slice none 0 0)) (.tmp 18) 73 73 rfl (.slice none 0 0) (.slice la ln lc) (.slice a' ln c') rfl rfl r1.out ?_; clear r1)
      go_roundw
      case rel => exact ⟨i + 1, xs', by go_num, by omega, hxl', hx', O'⟩
      case measure => simp [intOf]; omega
    · have hie : i = len := by omega
      subst hie
      have hL : xs.map Lf.fs = L := by
        have := hx.out
        rwa [List.take_of_length_le (by rw [List.length_map, hxl.out]; exact Nat.le_refl _), List.take_of_length_le (by rw [hlen.out]; exact Nat.le_refl _)] at this
      replace hL := hid hL
      clear hx
      go_wp2_with fail
      go_ret
      exact ⟨g, xs, rfl, O.out, hL.out⟩
end Go.Proofs.YtcpnmpepcpcahaaGreatDoor.Cy

/- The law's written: a file of records, the places behind them, those that were taken. -/
import Derived.Test.YtgkoopciajjonaaDoorRc
namespace Go.Proofs.YtgkoopciajjonaaDoor.Wn
open Go.ChangeShapes Go.WideShapes Go.ChangeAt Go.RowKit
open Go.Proofs.YtgkoopciajjonaaDoor.Crc
open Go.Proofs.YtgkoopciajjonaaDoor.Jm
open Go.Proofs.YtgkoopciajjonaaDoor.Jn
open Go.Proofs.YtgkoopciajjonaaDoor.Ck
open Go.Proofs.YtgkoopciajjonaaDoor.Wt
open Go.Proofs.YtgkoopciajjonaaDoor.Wc
open Go.Proofs.YtgkoopciajjonaaDoor.Wa
open Go.Proofs.YtgkoopciajjonaaDoor.Rc
set_option linter.unusedVariables false
set_option linter.unusedSimpArgs false

/-- The records that are not too long. -/
def took (rs : List Sl) : List Sl := rs.filter fun s => decide (s.len ≤ 2097152)
def zss (rs : List Sl) : List (List Int) := rs.map Sl.zs
/-- How much all of them weigh. -/
def wt (rs : List Sl) : Nat := (rs.map fun s => s.len + 1).sum
theorem took_append (rs : List Sl) (s : Sl) : took (rs ++ [s]) = if s.len ≤ 2097152 then took rs ++ [s] else took rs := by
  unfold took
  rw [List.filter_append]
  by_cases h : s.len ≤ 2097152
  · simp [h]
  · simp [h]
theorem wt_take (rs : List Sl) (k : Nat) : wt (rs.take k) ≤ wt rs := by
  unfold wt
  have h : rs.map (fun s => s.len + 1) = (rs.take k).map (fun s => s.len + 1) ++ (rs.drop k).map (fun s => s.len + 1) := by rw [← List.map_append, List.take_append_drop]
  rw [h, List.sum_append]; omega
theorem wt_append (rs : List Sl) (s : Sl) : wt (rs ++ [s]) = wt rs + (s.len + 1) := by simp [wt]
theorem lay_le (b : Nat) (hb : 32 ≤ b ∧ b ≤ 32768) : ∀ (rs : List Sl) (a : Nat), (∀ s ∈ rs, s.zs.length = s.len) → (lay b a (zss rs)).length ≤ 20 * wt rs
  | [], _, _ => by simp [lay, zss]
  | s :: rs, a, h => by
    have h1 := lay_le b hb rs (a + (flat (addc b a s.zs)).length) (fun s' h' => h s' (by simp [h']))
    have h2 := add_len b a s.zs hb
    have h3 := (cst_le b a s.zs.length hb).2
    have h4 := h s (by simp)
    simp only [zss, List.map_cons, lay, List.length_append, wt, List.sum_cons] at h1 ⊢
    omega
theorem wt_took : ∀ rs : List Sl, wt (took rs) ≤ wt rs ∧ (took rs).length ≤ wt rs
  | [] => by simp [took, wt]
  | s :: rs => by
    have := wt_took rs
    unfold took at this ⊢
    rw [List.filter_cons]
    simp only [wt, List.map_cons, List.sum_cons] at this ⊢
    split
    · simp only [List.map_cons, List.sum_cons, List.length_cons]; omega
    · omega
set_option maxHeartbeats 4000000 in
set_option maxRecDepth 100000 in
theorem written_any (b : Nat) (a : Option Addr) (len cap : Nat) (rs : List Sl) (w : World) (T : Hid (Tab w)) (H : Recs w a len cap rs) (hb : 32 ≤ b ∧ b ≤ 32768) (hw : wt rs ≤ 1048576) :
    Calls Tryd.prog 25 #[.int .i64 b, .slice a len cap] w fun e w' => ∃ vf ve vt, e = .returned (.tuple #[vf, ve, vt, .bool true]) ∧ Own w' w.heap.size vf (lay b 0 (zss (took rs))) ∧ OwnI w' w.heap.size ve (endl b 0 (zss (took rs))) ∧ OwnR w' w.heap.size vt (took rs) ∧ Below w.heap.size w w' := by
  have HN := hid (new_ok b 0 w hb (by omega))
  have HH := hid H
  have hl := H.1
  have hlc := H.2.1
  have HZ : Hid (∀ s ∈ rs, s.zs.length = s.len) := fun s hs => (H.2.2.2.2 s hs).1
  have hll : len ≤ 1048576 := by
    have h1 : ∀ l : List Sl, l.length ≤ wt l := by
      intro l
      induction l with
      | nil => simp
      | cons x r ih => simp only [wt, List.map_cons, List.sum_cons, List.length_cons] at ih ⊢; omega
    have := h1 rs; omega
  clear H
  go_enter Tryd.func25, Tryd.ntmps25
  go_wp2_with fail
  refine HN.out.mono ?_
  rintro e w1 ⟨rfl, hw1⟩
  have b1 : Below w.heap.size w w1 := by rw [hw1]; exact box_below _ _
  have W1 : Wr w1 w.heap.size b 0 := by rw [hw1]; show (w.heap.push _)[w.heap.size]? = _; simp
  clear hw1
  have b1 := hid b1
  have W1 := hid W1
  go_wp2_with fail
  go_loopw [10, 11, 12, 13] (fun vf ve vt i wr => ∃ k : Nat, k ≤ len ∧ i = .int .i64 (k : Int) ∧ Hid (Own wr w.heap.size vf (lay b 0 (zss (took (rs.take k))))) ∧ Hid (OwnI wr w.heap.size ve (endl b 0 (zss (took (rs.take k))))) ∧ Hid (OwnR wr w.heap.size vt (took (rs.take k))) ∧ Hid (Wr wr w.heap.size b (lay b 0 (zss (took (rs.take k)))).length) ∧ Hid (Below w.heap.size w wr))
    (fun _ _ _ i _ => len - (intOf i).toNat)
  case atStart => exact ⟨0, Nat.zero_le _, rfl, World.ownsRow_nil _ _ _ _, World.ownsRow_nil _ _ _ _, World.ownsRow_nil _ _ _ _, W1, b1⟩
  case round =>
    obtain ⟨k, hk, rfl, OF, OE, OT, HW, HB⟩ := hrel
    by_cases hlt : k < len
    · obtain ⟨ad, rfl⟩ : ∃ ad, a = some ad := by
        cases a with
        | none => have := (HH.out.2.2.1 rfl).1; omega
        | some ad => exact ⟨ad, rfl⟩
      obtain ⟨s, hs⟩ : ∃ s, rs[k]? = some s := ⟨rs[k], List.getElem?_eq_getElem (by omega)⟩
      have cs := cell_later HB.out (HH.out.2.2.2.1 ad rfl k s hs)
      unfold Sl.v at cs
      have hsm : s ∈ rs := List.mem_of_getElem? hs
      have hso := hid (Sl.later (HH.out.2.2.2.2 s hsm) HB.out)
      have hT : rs.take (k + 1) = rs.take k ++ [s] := by rw [List.take_add_one, hs]; rfl
      have hwk : wt (rs.take k) + (s.len + 1) ≤ 1048576 := by
        have h1 := wt_take rs (k + 1)
        rw [hT, wt_append] at h1
        omega
      have hlay := lay_le b hb (took (rs.take k)) 0 (fun s' h' => HZ.out s' (List.mem_of_mem_take (List.mem_filter.1 h').1))
      have hwt := wt_took (rs.take k)
      by_cases hbig : s.len ≤ 2097152
      · have hA : Hid (took (rs.take (k + 1)) = took (rs.take k) ++ [s]) := by show _ = _; rw [hT, took_append, if_pos hbig]
        have hsl := HZ.out s hsm
        generalize hP : took (rs.take k) = P at *
        have i1 : ¬ (2097152 : Int) < (s.len : Int) := by omega
        have HA := hid (add_ok w.heap.size b (lay b 0 (zss P)).length s.a s.len s.cap s.zs wr (tab_later T HB.out) HW.out hso.out hb (by omega) hbig)
        have hcl := (cst_le b (lay b 0 (zss P)).length s.len hb).1
        have hal := add_len b (lay b 0 (zss P)).length s.zs hb
        rw [hsl] at hal
        have hcu := (cst_le b (lay b 0 (zss P)).length s.len hb).2
        rw [← hal] at hcl hcu
        have hL : Hid (lay b 0 (zss (P ++ [s])) = lay b 0 (zss P) ++ flat (addc b (lay b 0 (zss P)).length s.zs)) := by
          show _ = _
          unfold zss
          rw [List.map_append]
          have := lay_append b (P.map Sl.zs) 0 s.zs
          rw [Nat.zero_add] at this
          exact this
        have hE : Hid (endl b 0 (zss (P ++ [s])) = endl b 0 (zss P) ++ [(lay b 0 (zss (P ++ [s]))).length]) := by
          show _ = _
          unfold zss
          rw [List.map_append]
          have := endl_append b (P.map Sl.zs) 0 s.zs
          rw [Nat.zero_add] at this
          exact this
        have hel : Hid ((endl b 0 (zss P)).length = P.length) := by show _ = _; rw [endl_len]; simp [zss]
        have hab : Hid (∀ y ∈ flat (addc b (lay b 0 (zss P)).length s.zs), 0 ≤ y ∧ y ≤ 255) := add_bytes b _ s.zs hso.out.2.2.2.1
        rw [hL.out] at hE
        generalize lay b 0 (zss P) = F at *
        generalize endl b 0 (zss P) = E at *
        generalize flat (addc b F.length s.zs) = X at *
        clear hal hP hT HN
        go_wp2_with fail
        refine HA.out.mono ?_
        rintro e w2 ⟨vb, rfl, OB, W2, g2⟩
        have ng : ∀ k', (some w.heap.size : Option Nat) = some k' → ∃ c t f, wr.heap[k']? = some (.cells c t f) ∧ t ≠ 5 ∧ t ≠ 3 ∧ t ≠ 31 := fun k' e => by
          cases e
          exact ⟨_, _, _, HW.out, by decide, by decide, by decide⟩
        have OF2 : Own w2 w.heap.size u10 F := row_kept OF.out g2 (fun k' e => by obtain ⟨c, t, f, h1, h2, _⟩ := ng k' e; exact ⟨c, t, f, h1, h2⟩)
        have OE2 : OwnI w2 w.heap.size u11 E := row_kept OE.out g2 (fun k' e => by obtain ⟨c, t, f, h1, _, h2, _⟩ := ng k' e; exact ⟨c, t, f, h1, h2⟩)
        have OT2 : OwnR w2 w.heap.size u12 P := row_kept OT.out g2 (fun k' e => by obtain ⟨c, t, f, h1, _, _, h2⟩ := ng k' e; exact ⟨c, t, f, h1, h2⟩)
        have B2 : Below w.heap.size w w2 := HB.out.grown g2 HB.out.size (by intro k' e; cases e; exact Nat.le_refl _)
        obtain ⟨ab, cb, hvb, _⟩ := OB.shape
        subst hvb
        obtain ⟨vf3, w3, r3, OF3, g3⟩ := app_bytes w2 w.heap.size u10 F X ab X.length cb OF2 (OB.bytes hab.out) (by omega) B2.size
        have B3 : Below w.heap.size w w3 := B2.trans (row_below OF2 g3 B2.size)
        have OE3 : OwnI w3 w.heap.size u11 E := row_kept OE2 g3 (row_other OF2 3 (by decide))
        have OT3 : OwnR w3 w.heap.size u12 P := row_kept OT2 g3 (row_other OF2 31 (by decide))
        have W3 : Wr w3 w.heap.size b (F.length + X.length) := W2.kept g3 (fun e => by
          obtain ⟨c, f, h⟩ := row_blk OF2 _ e.symm
          rw [show w2.heap[w.heap.size]? = _ from W2] at h
          simp at h)
        obtain ⟨af, cf, hvf, _⟩ := OF3.shape
        subst hvf
        obtain ⟨ve4, w4, r4, OE4, g4, hE4⟩ := app_int w3 w.heap.size u11 E (F ++ X).length OE3 (by have := hel.out; omega) B3.size
        have b3' := box_below w3 (.cells #[.int .i64 ((F ++ X).length : Int)] 3)
        have B4' := B3.trans (b3'.mono B3.size)
        have B4 : Below w.heap.size w w4 := B4'.trans (row_below hE4 g4 B4'.size)
        have OF4 : Own w4 w.heap.size _ (F ++ X) := row_kept (row_later OF3 b3') g4 (row_other hE4 5 (by decide))
        have OT4 : OwnR w4 w.heap.size u12 P := row_kept (row_later OT3 b3') g4 (row_other hE4 31 (by decide))
        have W4 : Wr w4 w.heap.size b (F.length + X.length) := (W3.later b3').kept g4 (fun e => by
          obtain ⟨c, f, h⟩ := row_blk hE4 _ e.symm
          rw [show (w3.alloc _).heap[w.heap.size]? = _ from W3.later b3'] at h
          simp at h)
        obtain ⟨vt5, w5, r5, OT5, g5, hT5⟩ := app_rec w4 w.heap.size u12 P s OT4 (by omega) B4.size
        have b4' := box_below w4 (.cells #[s.v] 31)
        have B5' := B4.trans (b4'.mono B4.size)
        have B5 : Below w.heap.size w w5 := B5'.trans (row_below hT5 g5 B5'.size)
        have OF5 : Own w5 w.heap.size _ (F ++ X) := row_kept (row_later OF4 b4') g5 (row_other hT5 5 (by decide))
        have OE5 : OwnI w5 w.heap.size ve4 (E ++ [(F ++ X).length]) := row_kept (row_later OE4 b4') g5 (row_other hT5 3 (by decide))
        have W5 : Wr w5 w.heap.size b (F ++ X).length := by
          rw [List.length_append]
          exact (W4.later b4').kept g5 (fun e => by
            obtain ⟨c, f, h⟩ := row_blk hT5 _ e.symm
            rw [show (w4.alloc _).heap[w.heap.size]? = _ from W4.later b4'] at h
            simp at h)
        have c2 := cell_later B2 (HH.out.2.2.2.1 ad rfl k s hs)
        have c4 := cell_later B4 (HH.out.2.2.2.1 ad rfl k s hs)
        have r3 := hid r3
        have r4 := hid r4
        have r5 := hid r5
        have O5 : Hid (Own w5 w.heap.size (.slice af (F ++ X).length cf) (F ++ X) ∧ OwnI w5 w.heap.size ve4 (E ++ [(F ++ X).length]) ∧ OwnR w5 w.heap.size vt5 (P ++ [s]) ∧ Wr w5 w.heap.size b (F ++ X).length ∧ Below w.heap.size w w5) := ⟨OF5, OE5, OT5, W5, B5⟩
        have i2 : ¬ (X.length : Int) < 7 + (s.len : Int) := by omega
        clear OF2 OE2 OT2 B2 OB OF3 g3 B3 OE3 OT3 W3 OE4 g4 hE4 b3' B4' B4 OF4 OT4 W4 OT5 g5 hT5 b4' B5' B5 OF5 OE5 W5 g2 W2 ng OF OE OT HW
        unfold Sl.v at c2 c4 r5
        generalize hN : (F ++ X).length = N at *
        go_wp2_with (first | (at_builtin; refine wpList_append_run rfl _ _ _ _ rfl _ _ _ rfl rfl r3.out ?_) | (at_builtin; refine wpList_append_run rfl _ _ _ _ rfl _ _ _ rfl rfl r4.out ?_) | (at_builtin; refine wpList_append_run rfl _ _ _ _ rfl _ _ _ rfl rfl r5.out ?_))
        go_roundw
        case rel => exact ⟨k + 1, by omega, by go_num, by rw [hA.out, hL.out]; exact O5.out.1, by rw [hA.out, hE.out]; exact O5.out.2.1, by rw [hA.out]; exact O5.out.2.2.1, by rw [hA.out, hL.out, hN]; exact O5.out.2.2.2.1, O5.out.2.2.2.2⟩
        case measure => simp [intOf]; omega
      · have hA : Hid (took (rs.take (k + 1)) = took (rs.take k)) := by show _ = _; rw [hT, took_append, if_neg hbig]
        have i1 : (2097152 : Int) < (s.len : Int) := by omega
        clear hT
        go_wp2_with fail
        go_roundw
        case rel => exact ⟨k + 1, by omega, by go_num, by rw [hA.out]; exact OF, by rw [hA.out]; exact OE, by rw [hA.out]; exact OT, by rw [hA.out]; exact HW, HB⟩
        case measure => simp [intOf]; omega
    · have hkl : k = len := by omega
      have hT : rs.take k = rs := List.take_of_length_le (by omega)
      rw [hT] at OF OE OT HW
      have hlay := lay_le b hb (took rs) 0 (fun s' h' => HZ.out s' (List.mem_filter.1 h').1)
      have hwt := wt_took rs
      have HS := hid (size_ok w.heap.size b _ wr HW.out hb (by omega))
      obtain ⟨af, cf, hvf, _⟩ := OF.out.shape
      subst hvf
      clear hT
      go_wp2_with fail
      refine HS.out.mono ?_
      rintro e w2 ⟨rfl, rfl⟩
      go_wp2_with fail
      exact bodyPost_ret (v := .tuple #[.slice af (lay b 0 (zss (took rs))).length cf, u11, u12, .bool true]) (by simp [results, Tryd.results25, go_sem]) rfl ⟨_, _, _, rfl, OF.out, OE.out, OT.out, HB.out⟩
end Go.Proofs.YtgkoopciajjonaaDoor.Wn

/- Quote by its contract. -/
import Derived.Test.YtcjlgjlediihoaaDoorQp
namespace Go.Proofs.YtcjlgjlediihoaaDoor.Rw
open Go.ChangeShapes Go.WideShapes Go.ChangeAt Go.RowKit
open Go.Proofs.YtcjlgjlediihoaaDoor.Ut
open Go.Proofs.YtcjlgjlediihoaaDoor.By
set_option linter.unusedVariables false
set_option linter.unusedSimpArgs false

theorem one_cellb (w : World) (y : Int) (t : TypeId) : (w.alloc (.cells #[.int .u8 y] t)).cell? ⟨w.heap.size, 0, none⟩ = some (.int .u8 y) := by
  first | (simp [World.cell?]; done) | (simp [go_sem]; done)
theorem iter_grown (w : World) (k : Nat) (s : ByteArray) (pos : Nat) : w.grownBy (w.iterAt k s pos) (some k) := by
  refine ⟨rfl, rfl, rfl, by rw [Lib.iterAt_size]; exact Nat.le_refl _, fun i hi hne => Lib.iterAt_other w k i s pos (fun e => hne (by rw [e]))⟩
theorem Own.iterAt {w : World} {base : Nat} {v : Value} {xs : List Int} {k : Nat} {s : ByteArray} {pos : Nat} (H : Own w base v xs) (h : w.heap[k]? = some (.stringIter s pos)) (p : Nat) : Own (w.iterAt k s p) base v xs := by
  refine World.ownsRow.kept (row := some k) H (iter_grown w k s p) ?_
  right
  intro e
  obtain ⟨c, e', f, h'⟩ := H.cells k e
  rw [h] at h'
  cases h'
theorem below_iter {base : Nat} {a w : World} (h : Below base a w) (k : Nat) (s : ByteArray) (p : Nat) (hk : base ≤ k) : Below base a (w.iterAt k s p) := Lib.below_iterAt h hk s p
theorem Gr.iter {base : Nat} {w w' : World} (h : Gr base w w') {k : Nat} {s : ByteArray} {p : Nat} (hi : w.heap[k]? = some (.stringIter s p)) : w'.heap[k]? = some (.stringIter s p) := h.2 k _ hi (fun c e f e' => nomatch e')
set_option maxRecDepth 1000000 in
set_option maxHeartbeats 4000000 in
theorem quote_any (s : ByteArray) (hs : s.size ≤ 4294967296) (w : World) (T : Hid (Lt w)) :
    Calls Tryd.prog 22 #[.string s] w fun e w' => e = .returned (.string (str (qt s))) ∧ Below w.heap.size w w' := by
  have hQ : Hid (∃ Q, Q = qt s) := ⟨_, rfl⟩
  obtain ⟨Q, hQ⟩ := hQ.out
  rw [← hQ]
  have HQ := hid hQ
  clear hQ
  obtain ⟨i0, hi, hz0, hz1, hz2⟩ := info_parts info5
  obtain ⟨wa, hmk, Oa, ga⟩ := run_make_own (P := Tryd.prog) (w := w) w.heap.size 60 5 i0 (.int .u8 0) 1 Tryd.underlying60 hi hz0 hz1 .i64 .i64 (s.size + 2) (by rw [hz2]; omega) (by unfold maxLen; omega) (Nat.le_refl _)
  rw [show ((s.size + 2 : Nat) : Int) = (s.size : Int) + 2 from by omega] at hmk
  have Ba : Below w.heap.size w wa := (Below.refl _ _).grown ga (Nat.le_refl _) (fun k hk => nomatch hk)
  have Oa : Own wa w.heap.size (.slice (some ⟨w.heap.size, 0, none⟩) 0 (s.size + 2)) [] := Oa
  generalize (Value.slice (some ⟨w.heap.size, 0, none⟩) 0 (s.size + 2)) = va at hmk Oa
  have Bb := Ba.alloc Ba.size (.cells #[.int .u8 34] 5)
  have Ob := Oa.later (box_below wa (.cells #[.int .u8 34] 5))
  obtain ⟨v1, w1, r1, O1, g1⟩ := app_built _ w.heap.size va [] [34] wa.heap.size 1 Ob rfl (fun i hi => by
    have : i = 0 := by omega
    subst this
    exact one_cellb wa 34 5) (by simp) Bb.size
  have B1 := hid (Bb.grown g1 Bb.size (fun k hk => (Ob.lt k hk).1))
  have O1 := hid O1
  have r1 := hid r1
  have hmk := hid hmk
  clear Oa ga Ba Bb Ob g1
  have hmk2 := hmk.out
  clear hmk
  go_enter Tryd.func22, Tryd.ntmps22
  go_wp2_with (at_builtin; refine wpList_append_run rfl _ _ 60 60 rfl _ _ _ rfl rfl r1.out ?_)
  clear r1 hmk2
  go_wp2_with fail
  obtain ⟨it, hit⟩ : ∃ it, Hid (it = w1.heap.size) := ⟨_, rfl⟩
  have hitb : w.heap.size ≤ it := by rw [hit.out]; exact B1.out.size
  have I1 : Hid ((w1.iter s 0).heap[it]? = some (.stringIter s 0)) := by
    show _ = _
    rw [hit.out]
    exact World.iter_heap w1 s 0
  have O2 := hid (O1.out.later (iter_below w1 s 0))
  have B2 := hid (B1.out.trans ((iter_below w1 s 0).mono B1.out.size))
  rw [← hit.out]
  generalize w1.iter s 0 = w2 at *
  clear B1 O1 hit
  go_loopw [3] (fun b wr => ∃ (pos f : Nat) (ys : List Int), pos ≤ s.size ∧ s.size ≤ pos + f ∧ ys.length ≤ 4 * pos + 1 ∧ Hid (Q = ys ++ (qf s f pos ++ [34])) ∧ Hid (wr.heap[it]? = some (.stringIter s pos)) ∧ Hid (Own wr w.heap.size b ys) ∧ Hid (Below w.heap.size w wr)) (fun _ wr => s.size - wr.iterPos it)
  case atStart => exact ⟨0, s.size, [34], by omega, by omega, by simp, HQ.out, I1.out, O2.out, B2.out⟩
  case round =>
    clear HQ I1 O2 B2
    obtain ⟨pos, f, ys, hps, hf, hyl, HQ, HI, HO, HB⟩ := hrel
    have hpos : wr.iterPos it = pos := by unfold World.iterPos; rw [HI.out]
    by_cases hp : pos < s.size
    · have hnx := fun ty => Lib.run_next_any_at (P := Tryd.prog) wr it s pos ty HI.out hp
      have hw := dec_wd s pos hp
      have hpl := pc_len s pos hp
      have hpe := pc_ext s pos hp
      have hde := dec_ext s pos (by omega)
      have HQ2 : Hid (Q = (ys ++ pc s pos) ++ (qf s (f - 1) (pos + (Utf8.decode s pos).2) ++ [34])) := by
        show _ = _
        rw [HQ.out, qf_step s f pos hp hf]
        simp
      have hsz := ext_size s pos s.size (Nat.le_refl _)
      have HI2 : Hid ((wr.iterAt it s (pos + (Utf8.decode s pos).2)).heap[it]? = some (.stringIter s (pos + (Utf8.decode s pos).2))) := Lib.iterAt_heap wr it s pos _ HI.out
      have HB2 := hid (below_iter HB.out it s (pos + (Utf8.decode s pos).2) hitb)
      have HP := piece_any u3 ys (s.extract pos s.size) w.heap.size (wr.iterAt it s (pos + (Utf8.decode s pos).2)) (T.out.later HB2.out) (HO.out.iterAt HI.out _) HB2.out.size (by omega) (by omega) (by omega)
      rw [hpe, hde] at HP
      have HP := hid HP
      generalize hd : Utf8.decode s pos = d at hnx hw hpl HQ2 HI2 HB2 HP
      obtain ⟨r, wd⟩ := d
      generalize pc s pos = P at hpl HQ2 HP
      have hw1 : 1 ≤ wd := hw.1
      have hw2 : pos + wd ≤ s.size := hw.2.1
      have hpl : P.length ≤ 4 * wd := hpl
      clear hd hw hpe hde hsz HI HO HB HQ
      go_wp2_with fail
      refine HP.out.mono ?_
      rintro e w4 ⟨v4, rfl, O4, G4⟩
      have O4 := hid O4
      have I4 := hid (G4.iter HI2.out)
      have B4 := hid (HB2.out.trans G4.1)
      clear G4 HP HI2 HB2 hnx
      go_wp2_with fail
      go_roundw
      case rel => exact ⟨pos + wd, f - 1, ys ++ P, hw2, by omega, by rw [List.length_append]; omega, HQ2.out, I4.out, O4.out, B4.out⟩
      case measure =>
        have hpos2 : w4.iterPos it = pos + wd := by unfold World.iterPos; rw [I4.out]
        rw [hpos, hpos2]
        omega
    · have hnx := fun ty => Lib.run_next_end_at (P := Tryd.prog) wr it s pos ty HI.out hp
      have hqe := qf_end s f pos hp
      have Bb := HB.out.alloc HB.out.size (.cells #[.int .u8 34] 5)
      have Ob := HO.out.later (box_below wr (.cells #[.int .u8 34] 5))
      obtain ⟨v5, w5, r5, O5, g5⟩ := app_built _ w.heap.size u3 ys [34] wr.heap.size 1 Ob rfl (fun i hi => by
        have : i = 0 := by omega
        subst this
        exact one_cellb wr 34 5) (by omega) Bb.size
      have B5 := hid (Bb.grown g5 Bb.size (fun k hk => (Ob.lt k hk).1))
      have hcv := O5.conv
      have hQ5 : ys ++ [34] = Q := by rw [HQ.out, hqe]; simp
      rw [hQ5] at hcv
      have r5 := hid r5
      clear Bb Ob O5 g5 HO HB HI HQ hqe hQ5
      have hcv := hid hcv
      go_wp2_with (at_builtin; refine wpList_append_run rfl _ _ 60 60 rfl _ _ _ rfl rfl r5.out ?_)
      clear r5 hnx
      have hcv2 := hcv.out
      go_wp2_with fail
      go_ret
      exact ⟨rfl, B5.out⟩
end Go.Proofs.YtcjlgjlediihoaaDoor.Rw

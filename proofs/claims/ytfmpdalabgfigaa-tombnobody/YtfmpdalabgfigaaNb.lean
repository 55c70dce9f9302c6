/- TombNobody, walked. -/
import Derived.Test.YtfmpdalabgfigaaEn
namespace Go.Proofs.Ytfmpdalabgfigaa.Nb
open Go.ChangeShapes Go.WideShapes Go.ChangeAt Go.RowKit Go.Shelf
open Go.Proofs.Ytfmpdalabgfigaa.Lx
open Go.Proofs.Ytfmpdalabgfigaa.Tm
open Go.Proofs.Ytfmpdalabgfigaa.Vi
open Go.Proofs.Ytfmpdalabgfigaa.Mm
open Go.Proofs.Ytfmpdalabgfigaa.Em
open Go.Proofs.Ytfmpdalabgfigaa.En
set_option linter.unusedVariables false
set_option linter.unusedSimpArgs false
attribute [local go_sem] Oper.semAt_some

set_option maxRecDepth 100000 in
theorem nil_no (fn : Fn) (u v : Array Value) (w : World) : Sem.run Try.prog (binOp .eql 37 (.func fn u v) .nilFunc) w = .ok (.bool false) w := by
  rfl
theorem two_take {P : Program} {W : World} {D1 D2 : Nat} (h1 : W.heap[D1]? = some (.deferred (some []))) (h2 : W.heap[D2]? = some (.deferred (some []))) (hne : D1 ≠ D2) : (W.putObj D1 (.deferred none)).heap[D2]? = some (.deferred (some [])) := (World.putObj_heap_other hne.symm).trans h2
set_option maxRecDepth 100000 in
set_option maxHeartbeats 4000000 in
theorem nobody_in (b e : ByteArray) (s : Int) (k : ByteArray) (q : Int) (w : World) :
    CallsIn Fence.wide 8 Try.prog 3 #[.agg #[.string b, .string e, .int .u64 s], .string k, .int .u64 q] w fun r w' => r = .returned (.bool true) ∧ Below w.heap.size w w' := by
  refine callsIn_of_wp_marks Try.func3 rfl trivial ?_ rfl
  simp only [Try.ntmps3, List.size_toArray, List.length_cons, List.length_nil, Nat.reduceAdd, Nat.reduceSub, Array.replicate_succ, Array.replicate_zero, List.push_toArray, List.append_toArray, List.nil_append, List.cons_append]
  have hnf := nil_no
  obtain ⟨n0, hn0⟩ : ∃ n0, n0 = w.heap.size := ⟨_, rfl⟩
  obtain ⟨W4, hW4⟩ : ∃ W, W = (((w.alloc (.cells #[.string b, .string e, .int .u64 s] 24)).alloc (.cells #[.bool false] 4)).alloc (.cells #[.bool false, .slice none 0 0] 28)).alloc (.cells #[.pointer none, .pointer (some ⟨n0 + 1 + 1, 0, none⟩)] 25) := ⟨_, rfl⟩
  have s4 : W4.heap.size = n0 + 4 := by rw [hW4, hn0]; simp
  have B4 : Below n0 w W4 := by rw [hW4, hn0]; exact (((box_below w _).alloc (by simp) _).alloc (by simp; omega) _).alloc (by simp; omega) _
  have k0 : Bt W4 n0 ⟨b, e, s⟩ := by rw [hW4, hn0]; exact (Below.heap_alloc _ _ _ (by simp; omega)).trans ((Below.heap_alloc _ _ _ (by simp; omega)).trans ((Below.heap_alloc _ _ _ (by simp)).trans (new_at _ _)))
  have k1 : Boxed W4 (n0 + 1) 4 (.bool false) := by rw [hW4]; exact ((new_box (by simp; omega) _ _).alloc _).alloc _
  have k2 : W4.heap[n0 + 1 + 1]? = some (.cells #[.bool false, .slice none 0 0] 28) := by
    rw [hW4, hn0]
    refine (Below.heap_alloc _ _ _ (by simp)).trans ?_
    have := new_at ((w.alloc (.cells #[.string b, .string e, .int .u64 s] 24)).alloc (.cells #[.bool false] 4)) (.cells #[.bool false, .slice none 0 0] 28)
    simpa using this
  have k3 : W4.heap[n0 + 1 + 1 + 1]? = some (.cells #[.pointer none, .pointer (some ⟨n0 + 1 + 1, 0, none⟩)] 25) := by
    have e1 : n0 + 1 + 1 + 1 = (((w.alloc (.cells #[.string b, .string e, .int .u64 s] 24)).alloc (.cells #[.bool false] 4)).alloc (.cells #[.bool false, .slice none 0 0] 28)).heap.size := by simp; omega
    rw [hW4]
    exact (congrArg (fun i => ((((w.alloc (.cells #[.string b, .string e, .int .u64 s] 24)).alloc (.cells #[.bool false] 4)).alloc (.cells #[.bool false, .slice none 0 0] 28)).alloc (.cells #[.pointer none, .pointer (some ⟨n0 + 1 + 1, 0, none⟩)] 25)).heap[i]?) e1).trans (new_at _ _)
  -- what every later world still has
  have F : Hid (∀ W, Below W4.heap.size W4 W → Bt W n0 ⟨b, e, s⟩ ∧ Boxed W (n0 + 1) 4 (.bool false) ∧ W.heap[n0 + 1 + 1]? = some (.cells #[.bool false, .slice none 0 0] 28) ∧ W.heap[n0 + 1 + 1 + 1]? = some (.cells #[.pointer none, .pointer (some ⟨n0 + 1 + 1, 0, none⟩)] 25)) := fun W h => ⟨(h.block _ (by omega)).trans k0, (h.block _ (by omega)).trans k1, (h.block _ (by omega)).trans k2, (h.block _ (by omega)).trans k3⟩
  have HN : Hid (∀ W, Below W4.heap.size W4 W → Non W none ∧ Non W (some ⟨n0 + 1 + 1, 0, none⟩)) := fun W h => ⟨.inl rfl, .inr ⟨_, rfl, (F.out W h).2.2.1⟩⟩
  clear k0 k1 k2 k3
  replace hW4 := hid hW4
  replace B4 := hid B4
  replace hn0 := hid hn0
  gi_wp2_with fail
  rw [← hn0.out, ← hW4.out]
  refine wpIn_loop_rounds 3 ?_
  obtain ⟨W, hW⟩ : ∃ W, W = W4 := ⟨_, rfl⟩
  have hBW : Hid (Below W4.heap.size W4 W) := by show Below _ _ _; rw [hW]; exact Below.refl _ _
  rw [← hW]
  clear hW
  rw [roundsIn_succ]
  obtain ⟨f0, f1, f2, f3⟩ := F.out W hBW.out
  have x0 := cell_of f3 0 _ rfl
  have N0 := hid (HN.out W hBW.out).1
  clear f0 f1 f2 f3
  gi_wp2_with fail
  refine ⟨trivial, (callsIn_wide.2 (setcover_0 _ k q _ N0.out)).mono ?_⟩
  rintro r w1 ⟨rfl, b1⟩
  have B1 := hid (hBW.out.trans (b1.mono hBW.out.size))
  obtain ⟨f0, f1, f2, f3⟩ := F.out w1 B1.out
  have u0 := f0.c0
  have u1 := f0.c1
  have u2 := f0.c2
  dsimp only at u0 u1 u2
  have N1 := hid (HN.out w1 B1.out).1
  replace b1 := hid b1
  clear f0 f1 f2 f3 x0
  gi_wp2_with fail
  refine ⟨trivial, (callsIn_wide.2 (setadd_0 _ b e s _ N1.out)).mono ?_⟩
  rintro r w2 ⟨rfl, b2⟩
  have B2 := hid (B1.out.trans (b2.mono B1.out.size))
  have C2 := hid (b1.out.trans (b2.mono b1.out.size))
  have N2 := hid (HN.out w2 B2.out).1
  clear b2 u0 u1 u2
  gi_wp2_with fail
  refine ⟨trivial, (callsIn_wide.2 (setlen_0 _ _ N2.out)).mono ?_⟩
  rintro r w3 ⟨rfl, rfl⟩
  gi_wp2_with fail
  refine ⟨trivial, (callsIn_wide.2 (settombs_0 _ _ N2.out)).mono ?_⟩
  rintro r w3 ⟨rfl, rfl⟩
  gi_wp2_with fail
  refine ⟨trivial, (callsIn_wide.2 (all_0 _ _)).mono ?_⟩
  rintro r w4 ⟨rfl, rfl⟩
  gi_wp2_with fail
  obtain ⟨nr, hnr⟩ : ∃ nr, nr = w3.heap.size := ⟨_, rfl⟩
  obtain ⟨Wr, hWr⟩ : ∃ Wr, Wr = w3.alloc (.cells #[.pointer none] 25) := ⟨_, rfl⟩
  have sr : Wr.heap.size = nr + 1 := by rw [hWr, hnr]; simp
  have bxr : Boxed Wr nr 25 (.pointer none) := by rw [hWr]; exact new_box hnr _ _
  have Br : Below W4.heap.size W4 Wr := by rw [hWr]; exact B2.out.alloc B2.out.size _
  have zr : W4.heap.size ≤ nr := by rw [hnr]; exact B2.out.size
  rw [← hnr, ← hWr]
  have Nr := (HN.out Wr Br).1
  replace hnr := hid hnr
  replace hWr := hid hWr
  replace bxr := hid bxr
  replace Br := hid Br
  replace Nr := hid Nr
  refine range_q (F := Fence.wide) (n := 8) encf rfl (by omega) (gf := 16) (lb := #[.pointer (some ⟨nr, 0, none⟩)]) rfl trivial (enters_of Try.func16 (by kernel_rfl) rfl) (fun _ => rfl)
    (fun ys W => (Below W4.heap.size W4 W ∧ nr + 1 ≤ W.heap.size) ∧ True) (fun _ _ _ => False) (fun pre x => False) (Below W4.heap.size) (fun ys _ _ => True) (fun _ => True)
    (fun s W o h => ⟨⟨h.1.1.alloc (by omega) _, by have := h.1.2; simp; omega⟩, trivial⟩) (fun s W W' k h g hk hc => ⟨⟨h.1.1.grown g (by omega) (fun q e => by cases e; omega), Nat.le_trans h.1.2 g.size⟩, trivial⟩) (fun _ _ _ _ _ h => h.elim)
    (fun A B hA hb => hb.mono (by omega)) (fun h k => h.trans k)
    (fun W l o o' hl ho hc => belowK_b' (w := Wr) (by omega) W l o o' hl ho)
    ⟨⟨Br.out, by omega⟩, trivial⟩ ?seq (fun _ _ _ _ => True) (fun _ _ _ _ _ _ _ _ _ => trivial) ?assign ?body ?done ?stop
  case seq =>
    intro l J Jx W1 hB1 hY h0
    refine (callsIn_wide.2 (callsIn_wide.1 (all1_0 l nr none W1 ((hB1.block _ bxr.out.lt).trans bxr.out) (Nr.out.later hB1)))).mono ?_
    rintro r W' ⟨rfl, b⟩
    exact ⟨⟨_, rfl⟩, .inl ⟨[], W1, h0, b, trivial⟩⟩
  case assign =>
    intro l x W K hK
    simp only [encf]
    gi_wp2
    exact hK _ _ (Below.refl _ _) trivial
  case body =>
    rintro l pre x a' W0 WY W1 W2 hI h0Y h01 hfr
    exact hfr.elim
  case stop =>
    rintro D c pre W hD _ hx hDd
    exact hx.elim
  case done =>
    rintro D0 l ys V0 V1 X0 hD hI h0W _ hWW hl hnc hDd0
    have BD0 : Below W4.heap.size W4 X0 := (hI.1.1.trans (h0W.mono hI.1.1.size)).grown hWW (by have := h0W.size; have := hI.1.2; omega) (fun q e => by cases e; omega)
    have lD0 : D0 < X0.heap.size := blk_lt hDd0
    replace BD0 := hid BD0
    replace hDd0 := hid hDd0
    clear hI h0W hWW hnc hl N0 N1 N2 b1 hnr hWr bxr Br Nr B1 
    gi_wp2_with fail
    rw [roundsIn_succ]
    obtain ⟨f0, f1, f2, f3⟩ := F.out X0 BD0.out
    have x0 := cell_of f3 1 _ rfl
    have N0 := hid (HN.out X0 BD0.out).2
    clear f0 f1 f2 f3
    gi_wp2_with fail
    refine ⟨trivial, (callsIn_wide.2 (setcover_0 _ k q _ N0.out)).mono ?_⟩
    rintro r w1 ⟨rfl, b1⟩
    have B1 := hid (BD0.out.trans (b1.mono BD0.out.size))
    obtain ⟨f0, f1, f2, f3⟩ := F.out w1 B1.out
    have u0 := f0.c0
    have u1 := f0.c1
    have u2 := f0.c2
    dsimp only at u0 u1 u2
    have N1 := hid (HN.out w1 B1.out).2
    replace b1 := hid b1
    clear f0 f1 f2 f3 x0
    gi_wp2_with fail
    refine ⟨trivial, (callsIn_wide.2 (setadd_0 _ b e s _ N1.out)).mono ?_⟩
    rintro r w2 ⟨rfl, b2⟩
    have B2 := hid (B1.out.trans (b2.mono B1.out.size))
    have C2 := hid (b1.out.trans (b2.mono b1.out.size))
    have N2 := hid (HN.out w2 B2.out).2
    clear b2 u0 u1 u2
    gi_wp2_with fail
    refine ⟨trivial, (callsIn_wide.2 (setlen_0 _ _ N2.out)).mono ?_⟩
    rintro r w3 ⟨rfl, rfl⟩
    gi_wp2_with fail
    refine ⟨trivial, (callsIn_wide.2 (settombs_0 _ _ N2.out)).mono ?_⟩
    rintro r w3 ⟨rfl, rfl⟩
    gi_wp2_with fail
    refine ⟨trivial, (callsIn_wide.2 (all_0 _ _)).mono ?_⟩
    rintro r w4 ⟨rfl, rfl⟩
    gi_wp2_with fail
    obtain ⟨nr, hnr⟩ : ∃ nr, nr = w3.heap.size := ⟨_, rfl⟩
    obtain ⟨Wr, hWr⟩ : ∃ Wr, Wr = w3.alloc (.cells #[.pointer (some ⟨n0 + 1 + 1, 0, none⟩)] 25) := ⟨_, rfl⟩
    have sr : Wr.heap.size = nr + 1 := by rw [hWr, hnr]; simp
    have bxr : Boxed Wr nr 25 (.pointer (some ⟨n0 + 1 + 1, 0, none⟩)) := by rw [hWr]; exact new_box hnr _ _
    have Br : Below W4.heap.size W4 Wr := by rw [hWr]; exact B2.out.alloc B2.out.size _
    have zr : W4.heap.size ≤ nr := by rw [hnr]; exact B2.out.size
    have zp : D0 < nr := by rw [hnr]; have := C2.out.size; omega
    have dr : Wr.heap[D0]? = some (.deferred (some [])) := by rw [hWr]; exact (Below.heap_alloc _ _ _ (by omega)).trans ((C2.out.block _ lD0).trans hDd0.out)
    replace dr := hid dr
    rw [← hnr, ← hWr]
    have Nr := (HN.out Wr Br).2
    replace hnr := hid hnr
    replace hWr := hid hWr
    replace bxr := hid bxr
    replace Br := hid Br
    replace Nr := hid Nr
    refine range_q (F := Fence.wide) (n := 8) encf rfl (by omega) (gf := 16) (lb := #[.pointer (some ⟨nr, 0, none⟩)]) rfl trivial (enters_of Try.func16 (by kernel_rfl) rfl) (fun _ => rfl)
      (fun ys W => (Below W4.heap.size W4 W ∧ nr + 1 ≤ W.heap.size) ∧ W.heap[D0]? = some (.deferred (some []))) (fun _ _ _ => False) (fun pre x => False) (Below W4.heap.size) (fun ys _ _ => True) (fun _ => True)
      (fun s W o h => ⟨⟨h.1.1.alloc (by omega) _, by have := h.1.2; simp; omega⟩, (Below.heap_alloc W o _ (by omega)).trans h.2⟩) (fun s W W' k h g hk hc => ⟨⟨h.1.1.grown g (by omega) (fun q e => by cases e; omega), Nat.le_trans h.1.2 g.size⟩, (g.block _ (by omega) (by simp; omega)).trans h.2⟩) (fun _ _ _ _ _ h => h.elim)
      (fun A B hA hb => hb.mono (by omega)) (fun h k => h.trans k)
      (fun W l o o' hl ho hc => belowK_b' (w := Wr) (by omega) W l o o' hl ho)
      ⟨⟨Br.out, by omega⟩, dr.out⟩ ?seq (fun _ _ _ _ => True) (fun _ _ _ _ _ _ _ _ _ => trivial) ?assign ?body ?done ?stop
    case seq =>
      intro l J Jx W1 hB1 hY h0
      refine (callsIn_wide.2 (callsIn_wide.1 (all1_0 l nr (some ⟨n0 + 1 + 1, 0, none⟩) W1 ((hB1.block _ bxr.out.lt).trans bxr.out) (Nr.out.later hB1)))).mono ?_
      rintro r W' ⟨rfl, b⟩
      exact ⟨⟨_, rfl⟩, .inl ⟨[], W1, h0, b, trivial⟩⟩
    case assign =>
      intro l x W K hK
      simp only [encf]
      gi_wp2
      exact hK _ _ (Below.refl _ _) trivial
    case body =>
      rintro l pre x a' W0 WY W1 W2 hI h0Y h01 hfr
      exact hfr.elim
    case stop =>
      rintro D c pre W hD _ hx hDd
      exact hx.elim
    case done =>
      rintro D1 l ys V0 V1 X1 hD hI h0W _ hWW hl hnc hDd1
      have BD1 : Below W4.heap.size W4 X1 := (hI.1.1.trans (h0W.mono hI.1.1.size)).grown hWW (by have := h0W.size; have := hI.1.2; omega) (fun q e => by cases e; omega)
      have hd0 : X1.heap[D0]? = some (.deferred (some [])) := (hWW.block _ (by have := h0W.size; have := hI.1.2; omega) (by simp; omega)).trans ((h0W.block _ (by have := hI.1.2; omega)).trans hI.2)
      have hne : D1 ≠ D0 := by omega
      replace hd0 := hid hd0
      have lD1 : D1 < X1.heap.size := blk_lt hDd1
      replace BD1 := hid BD1
      replace hDd1 := hid hDd1
      clear hI h0W hWW hnc hl N0 N1 N2 b1 hnr hWr bxr Br Nr B1 dr zp hDd0
      gi_wp2_with fail
      rw [roundsIn_succ]
      obtain ⟨f0, f1, f2, f3⟩ := F.out X1 BD1.out
      have c1 := f1.cell
      have g1 := f1.frozen
      have k5 : Boxed (X1.setCell ⟨n0 + 1, 0, none⟩ (.bool true)) (n0 + 1) 4 (.bool true) := f1.set _
      have h5 : (X1.setCell ⟨n0 + 1, 0, none⟩ (.bool true)).heap[D1]? = some (.deferred (some [])) := (set_ne _ _ _ _ _ (by omega)).trans hDd1.out
      have h6 : (X1.setCell ⟨n0 + 1, 0, none⟩ (.bool true)).heap[D0]? = some (.deferred (some [])) := (set_ne _ _ _ _ _ (by omega)).trans hd0.out
      have B5 : Below n0 w (X1.setCell ⟨n0 + 1, 0, none⟩ (.bool true)) := (B4.out.trans (BD1.out.mono (by omega))).setCell (p := ⟨n0 + 1, 0, none⟩) (by simp) _
      clear f0 f1 f2 f3
      replace k5 := hid k5
      replace h5 := hid h5
      replace h6 := hid h6
      replace B5 := hid B5
      gi_wp2_with fail
      generalize X1.setCell ⟨n0 + 1, 0, none⟩ (.bool true) = Y at k5 h5 h6 B5 ⊢
      have h7 := hid (two_take (P := Try.prog) h5.out h6.out hne)
      refine ⟨by simp, .inl ⟨_, _, rfl, run_takeDeferred h5.out, by simp, .inl ⟨_, _, rfl, run_takeDeferred h7.out, ?_⟩⟩⟩
      have e1 := cell_kept (cell_kept k5.out.cell (grownBy_putObj' _ D1 (.deferred none)) (fun r e => by cases e; exact ⟨_, h5.out, rfl⟩)) (grownBy_putObj' _ D0 (.deferred none)) (fun r e => by cases e; exact ⟨_, h7.out, rfl⟩)
      refine ⟨.bool true, ?_, rfl, ?_⟩
      · simp [results, Try.results3, go_sem, e1]
      · rw [← hn0.out]
        exact (B5.out.trans (belowK_b' (w := W4) (by omega) _ D1 _ _ (by omega) h5.out)).trans (belowK_b' (w := W4) (by omega) _ D0 _ _ (by omega) h7.out)
theorem nobody_law (b e : ByteArray) (s : Int) (k : ByteArray) (q : Int) (w : World) :
    Calls Try.prog 3 #[.agg #[.string b, .string e, .int .u64 s], .string k, .int .u64 q] w fun r w' => r = .returned (.bool true) ∧ Below w.heap.size w w' :=
  callsIn_wide.1 (nobody_in b e s k q w)
end Go.Proofs.Ytfmpdalabgfigaa.Nb

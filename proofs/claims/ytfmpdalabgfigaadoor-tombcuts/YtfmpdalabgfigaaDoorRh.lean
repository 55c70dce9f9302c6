/- The document's Cut. -/
import Derived.Test.YtfmpdalabgfigaaDoorRg
namespace Go.Proofs.YtfmpdalabgfigaaDoor.Rh
open Go.ChangeShapes Go.WideShapes Go.ChangeAt Go.RowKit Go.Shelf
open Go.Proofs.YtfmpdalabgfigaaDoor.Lx
open Go.Proofs.YtfmpdalabgfigaaDoor.Tm
open Go.Proofs.YtfmpdalabgfigaaDoor.Mm
open Go.Proofs.YtfmpdalabgfigaaDoor.Rw
open Go.Proofs.YtfmpdalabgfigaaDoor.Cv
open Go.Proofs.YtfmpdalabgfigaaDoor.Cu
open Go.Proofs.YtfmpdalabgfigaaDoor.Rf
open Go.Proofs.YtfmpdalabgfigaaDoor.Rg
set_option linter.unusedVariables false
set_option linter.unusedSimpArgs false
attribute [local go_sem] leq_s gtr_s geq_s

/-- What the document's Cut has told so far. -/
def rcl (l m : ByteArray) (xs : List T) : List T := ctl l m (xs.filter vd)
theorem rcl_snoc (l m : ByteArray) {xs : List T} {n : Nat} (h : n < xs.length) : rcl l m (xs.take (n + 1)) = rcl l m (xs.take n) ++ (if vd (xs.getD n zt) = true ∧ lf (ct l m (xs.getD n zt)) = true then [ct l m (xs.getD n zt)] else []) := by
  unfold rcl
  rw [Vi.filter_snoc h]
  cases h1 : vd (xs.getD n zt) with
  | true =>
    rw [if_pos rfl, ctl_snoc]
    cases lf (ct l m (xs.getD n zt)) <;> simp
  | false => simp
theorem rcl_len (l m : ByteArray) {xs : List T} {n : Nat} (h : n < xs.length) : (rcl l m (xs.take n)).length + 1 ≤ xs.length := by
  have h1 := ctl_len l m ((xs.take n).filter vd)
  have h2 := snoc_len h
  unfold rcl
  omega
theorem empty_yes {v : ByteArray} (h : v = ⟨#[]⟩) : v.toList.isEmpty = true := by rw [h, ByteArray.toList_eq]; rfl
/-- A row beside a newer block that is written. -/
theorem own_new {w : World} {base Bo i : Nat} {v u : Value} {xs : List T} (h : OwnT w base v xs) (hB : w.heap.size ≤ Bo) {W : World} (hW : Below w.heap.size w W) : OwnT (W.setCell ⟨Bo, i, none⟩ u) base v xs := by
  have h1 := h.later hW
  refine World.ownsRow.kept (row := some Bo) h1 ⟨rfl, rfl, rfl, by simp, fun q _ hne => set_ne _ _ _ _ _ (fun e => hne (by rw [e]))⟩ (.inr ?_)
  intro e
  have := (World.ownsRow.lt h Bo e).2
  omega
theorem below_new {w W : World} {Bo i : Nat} {u : Value} (hB : w.heap.size ≤ Bo) (hW : Below w.heap.size w W) : Below w.heap.size w (W.setCell ⟨Bo, i, none⟩ u) := hW.setCell (p := ⟨Bo, i, none⟩) hB _
set_option maxRecDepth 100000 in
set_option maxHeartbeats 4000000 in
theorem rcut_any (a : Option Addr) (len cap : Nat) (xs : List T) (l m : ByteArray) (w : World) (H : Tbs w a len cap xs) (hlen : len * 40 ≤ 140737488355328) :
    Calls Tryd.prog 19 #[.slice a len cap, .string l, .string m] w fun e w' => ∃ v, e = .returned v ∧ OwnT w' w.heap.size v (cut xs l m) ∧ Below w.heap.size w w' := by
  have hxl := H.1
  replace H := hid H
  go_enter Tryd.func19, Tryd.ntmps19
  go_wp2_with fail
  go_loopw [7, 8] (fun ov iv wr => ∃ (n : Nat) (av : Option Addr) (nv cv : Nat), iv = .int .i64 (n : Int) ∧ ov = .slice av nv cv ∧ n ≤ len ∧ Hid (OwnT wr w.heap.size (.slice av nv cv) (rcl l m (xs.take n))) ∧ Hid (Below w.heap.size w wr)) (fun _ iv _ => len - (intOf iv).toNat)
  case atStart => exact ⟨0, none, 0, 0, rfl, rfl, by omega, OwnT.nil _ _, Below.refl _ _⟩
  case round =>
    obtain ⟨n, av, nv, cv, rfl, rfl, hn, HO, HB⟩ := hrel
    by_cases hlt : n < len
    · have ik : (n : Int) < (len : Int) := by omega
      have HT := H.out.later HB.out
      have hcap := HT.2.1
      obtain ⟨b, o, rfl, hat⟩ := here HT hlt
      have HF := rcl_snoc l m (xs := xs) (n := n) (by omega)
      have hsl := rcl_len l m (xs := xs) (n := n) (by omega)
      revert hat HF
      generalize xs.getD n zt = x
      intro hat HF
      replace HF := hid HF
      obtain ⟨xb, xe, x3⟩ := x
      obtain ⟨r0, r1, r3⟩ := hat
      dsimp only at r0 r1 r3
      have hzB := HB.out.size
      have HV := hid (rvalid_any xb xe x3)
      -- the loop's variable, then Valid's own box
      obtain ⟨W2, hW2⟩ : ∃ W2, W2 = (wr.alloc (.cells #[.string xb, .string xe, .int .u64 x3] 27)).alloc (.cells #[.string xb, .string xe, .int .u64 x3] 27) := ⟨_, rfl⟩
      have b2 : Below wr.heap.size wr W2 := by rw [hW2]; exact (box_below wr _).alloc (by simp) _
      have B2 : Bt W2 wr.heap.size ⟨xb, xe, x3⟩ := by rw [hW2]; exact (Bt.later (new_at wr _ : Bt _ _ ⟨xb, xe, x3⟩) (box_below _ _))
      cases hv : vd ⟨xb, xe, x3⟩ with
      | false =>
        rw [hv] at HV
        have HF' : Hid (rcl l m (xs.take (n + 1)) = rcl l m (xs.take n)) := by show _ = _; rw [HF.out, if_neg (by rw [hv]; simp)]; simp
        have HO1 := hid (HO.out.later b2)
        have hb1 := hid (HB.out.trans (b2.mono HB.out.size))
        rw [hW2] at HO1 hb1
        clear HF hv b2 B2 hW2 W2
        go_wp2_with fail
        refine (HV.out _).mono ?_
        rintro e w4 ⟨rfl, rfl⟩
        go_wp2_with fail
        go_roundw
        case rel => exact ⟨n + 1, av, nv, cv, by go_num, rfl, by omega, by rw [HF'.out]; exact HO1, hb1⟩
        case measure => simp [intOf]; omega
      | true =>
        rw [hv] at HV
        have HF' : Hid (rcl l m (xs.take (n + 1)) = rcl l m (xs.take n) ++ (if lf (ct l m ⟨xb, xe, x3⟩) = true then [ct l m ⟨xb, xe, x3⟩] else [])) := by show _ = _; rw [HF.out]; simp [hv]
        clear HF hv
        cases c1 : Op.bytesLess xb.toList l.toList with
        | true =>
          by_cases hm : m = ⟨#[]⟩
          · have hme := empty_yes hm
            clear b2 B2 hW2 W2
            have bW : Below wr.heap.size wr ((wr.alloc (.cells #[.string l, .string xe, .int .u64 x3] 27)).alloc (.cells #[.string xb, .string xe, .int .u64 x3] 27)) := (box_below wr _).alloc (by simp) _
            have hO : OwnT ((wr.alloc (.cells #[.string l, .string xe, .int .u64 x3] 27)).alloc (.cells #[.string xb, .string xe, .int .u64 x3] 27)) w.heap.size (.slice av nv cv) (rcl l m (xs.take n)) := HO.out.later bW
            have hB : Below w.heap.size w ((wr.alloc (.cells #[.string l, .string xe, .int .u64 x3] 27)).alloc (.cells #[.string xb, .string xe, .int .u64 x3] 27)) := HB.out.trans (bW.mono HB.out.size)
            have hct : ct l m ⟨xb, xe, x3⟩ = ⟨l, xe, x3⟩ := by unfold ct mx lim; dsimp only; rw [if_pos c1, if_pos hm]
            rw [hct] at HF'
            clear hct hm
            cases hlf : Op.bytesLess l.toList xe.toList with
            | true =>
              have HF2 : Hid (rcl l m (xs.take (n + 1)) = rcl l m (xs.take n) ++ [⟨l, xe, x3⟩]) := by show _ = _; rw [HF'.out, if_pos (show lf ⟨l, xe, x3⟩ = true from hlf)]
              have hnv : nv = (rcl l m (xs.take n)).length := by
                obtain ⟨_, _, e, _⟩ := row_shape HO.out
                injection e
              obtain ⟨v2, w2, q2, o2, g2⟩ := app_tomb ((wr.alloc (.cells #[.string l, .string xe, .int .u64 x3] 27)).alloc (.cells #[.string xb, .string xe, .int .u64 x3] 27)) w.heap.size _ _ ⟨l, xe, x3⟩ hO (by omega) hB.size
              obtain ⟨a2, c2', hv2, _⟩ := row_shape o2
              rw [size_alloc, size_alloc] at q2
              have hb2 := hid (hB.grown g2 hB.size (fun k e => (World.ownsRow.lt hO k e).1))
              obtain ⟨n2, hn2⟩ : ∃ n2, n2 = (rcl l m (xs.take n) ++ [(⟨l, xe, x3⟩ : T)]).length := ⟨_, rfl⟩
              rw [← hn2] at hv2
              subst hv2
              dsimp only at q2
              replace q2 := hid q2
              replace o2 := hid o2
              clear hn2 hnv g2
              replace hO := hid hO
              replace hB := hid hB
              replace bW := hid bW
              go_wp2_with fail
              refine (HV.out _).mono ?_
              rintro e w4 ⟨rfl, rfl⟩
              go_wp2_with (at_builtin; refine wpList_append_run rfl (.tmp 44) (.tmp 46) 22 22 rfl (.slice av nv cv) (.slice (some ⟨wr.heap.size + 1 + 1, 0, none⟩) 1 1) (.slice a2 n2 c2') rfl rfl q2.out ?_)
              go_roundw
              case rel => exact ⟨n + 1, a2, n2, c2', by go_num, rfl, by omega, by rw [HF2.out]; exact o2, hb2⟩
              case measure => simp [intOf]; omega
            | false =>
              have HF2 : Hid (rcl l m (xs.take (n + 1)) = rcl l m (xs.take n)) := by show _ = _; rw [HF'.out, if_neg (by rw [show lf ⟨l, xe, x3⟩ = false from hlf]; simp)]; simp
              replace hO := hid hO
              replace hB := hid hB
              replace bW := hid bW
              go_wp2_with fail
              refine (HV.out _).mono ?_
              rintro e w4 ⟨rfl, rfl⟩
              go_wp2_with fail
              go_roundw
              case rel => exact ⟨n + 1, av, nv, cv, by go_num, rfl, by omega, by rw [HF2.out]; exact hO, hB⟩
              case measure => simp [intOf]; omega
          · have hme := empty_no hm
            cases c2 : Op.bytesLess m.toList xe.toList with
            | true =>
              clear b2 B2 hW2 W2
              have bW : Below wr.heap.size wr ((wr.alloc (.cells #[.string l, .string m, .int .u64 x3] 27)).alloc (.cells #[.string xb, .string xe, .int .u64 x3] 27)) := (box_below wr _).alloc (by simp) _
              have hO : OwnT ((wr.alloc (.cells #[.string l, .string m, .int .u64 x3] 27)).alloc (.cells #[.string xb, .string xe, .int .u64 x3] 27)) w.heap.size (.slice av nv cv) (rcl l m (xs.take n)) := HO.out.later bW
              have hB : Below w.heap.size w ((wr.alloc (.cells #[.string l, .string m, .int .u64 x3] 27)).alloc (.cells #[.string xb, .string xe, .int .u64 x3] 27)) := HB.out.trans (bW.mono HB.out.size)
              have hct : ct l m ⟨xb, xe, x3⟩ = ⟨l, m, x3⟩ := by unfold ct mx lim; dsimp only; rw [if_pos c1, if_neg hm]; unfold mn; rw [if_pos c2]
              rw [hct] at HF'
              clear hct hm
              cases hlf : Op.bytesLess l.toList m.toList with
              | true =>
                have HF2 : Hid (rcl l m (xs.take (n + 1)) = rcl l m (xs.take n) ++ [⟨l, m, x3⟩]) := by show _ = _; rw [HF'.out, if_pos (show lf ⟨l, m, x3⟩ = true from hlf)]
                have hnv : nv = (rcl l m (xs.take n)).length := by
                  obtain ⟨_, _, e, _⟩ := row_shape HO.out
                  injection e
                obtain ⟨v2, w2, q2, o2, g2⟩ := app_tomb ((wr.alloc (.cells #[.string l, .string m, .int .u64 x3] 27)).alloc (.cells #[.string xb, .string xe, .int .u64 x3] 27)) w.heap.size _ _ ⟨l, m, x3⟩ hO (by omega) hB.size
                obtain ⟨a2, c2', hv2, _⟩ := row_shape o2
                rw [size_alloc, size_alloc] at q2
                have hb2 := hid (hB.grown g2 hB.size (fun k e => (World.ownsRow.lt hO k e).1))
                obtain ⟨n2, hn2⟩ : ∃ n2, n2 = (rcl l m (xs.take n) ++ [(⟨l, m, x3⟩ : T)]).length := ⟨_, rfl⟩
                rw [← hn2] at hv2
                subst hv2
                dsimp only at q2
                replace q2 := hid q2
                replace o2 := hid o2
                clear hn2 hnv g2
                replace hO := hid hO
                replace hB := hid hB
                replace bW := hid bW
                go_wp2_with fail
                refine (HV.out _).mono ?_
                rintro e w4 ⟨rfl, rfl⟩
                go_wp2_with (at_builtin; refine wpList_append_run rfl (.tmp 44) (.tmp 46) 22 22 rfl (.slice av nv cv) (.slice (some ⟨wr.heap.size + 1 + 1, 0, none⟩) 1 1) (.slice a2 n2 c2') rfl rfl q2.out ?_)
                go_roundw
                case rel => exact ⟨n + 1, a2, n2, c2', by go_num, rfl, by omega, by rw [HF2.out]; exact o2, hb2⟩
                case measure => simp [intOf]; omega
              | false =>
                have HF2 : Hid (rcl l m (xs.take (n + 1)) = rcl l m (xs.take n)) := by show _ = _; rw [HF'.out, if_neg (by rw [show lf ⟨l, m, x3⟩ = false from hlf]; simp)]; simp
                replace hO := hid hO
                replace hB := hid hB
                replace bW := hid bW
                go_wp2_with fail
                refine (HV.out _).mono ?_
                rintro e w4 ⟨rfl, rfl⟩
                go_wp2_with fail
                go_roundw
                case rel => exact ⟨n + 1, av, nv, cv, by go_num, rfl, by omega, by rw [HF2.out]; exact hO, hB⟩
                case measure => simp [intOf]; omega
            | false =>
              clear b2 B2 hW2 W2
              have bW : Below wr.heap.size wr ((wr.alloc (.cells #[.string l, .string xe, .int .u64 x3] 27)).alloc (.cells #[.string xb, .string xe, .int .u64 x3] 27)) := (box_below wr _).alloc (by simp) _
              have hO : OwnT ((wr.alloc (.cells #[.string l, .string xe, .int .u64 x3] 27)).alloc (.cells #[.string xb, .string xe, .int .u64 x3] 27)) w.heap.size (.slice av nv cv) (rcl l m (xs.take n)) := HO.out.later bW
              have hB : Below w.heap.size w ((wr.alloc (.cells #[.string l, .string xe, .int .u64 x3] 27)).alloc (.cells #[.string xb, .string xe, .int .u64 x3] 27)) := HB.out.trans (bW.mono HB.out.size)
              have hct : ct l m ⟨xb, xe, x3⟩ = ⟨l, xe, x3⟩ := by unfold ct mx lim; dsimp only; rw [if_pos c1, if_neg hm]; unfold mn; rw [if_neg (by rw [show lt m xe = false from c2]; simp)]
              rw [hct] at HF'
              clear hct hm
              cases hlf : Op.bytesLess l.toList xe.toList with
              | true =>
                have HF2 : Hid (rcl l m (xs.take (n + 1)) = rcl l m (xs.take n) ++ [⟨l, xe, x3⟩]) := by show _ = _; rw [HF'.out, if_pos (show lf ⟨l, xe, x3⟩ = true from hlf)]
                have hnv : nv = (rcl l m (xs.take n)).length := by
                  obtain ⟨_, _, e, _⟩ := row_shape HO.out
                  injection e
                obtain ⟨v2, w2, q2, o2, g2⟩ := app_tomb ((wr.alloc (.cells #[.string l, .string xe, .int .u64 x3] 27)).alloc (.cells #[.string xb, .string xe, .int .u64 x3] 27)) w.heap.size _ _ ⟨l, xe, x3⟩ hO (by omega) hB.size
                obtain ⟨a2, c2', hv2, _⟩ := row_shape o2
                rw [size_alloc, size_alloc] at q2
                have hb2 := hid (hB.grown g2 hB.size (fun k e => (World.ownsRow.lt hO k e).1))
                obtain ⟨n2, hn2⟩ : ∃ n2, n2 = (rcl l m (xs.take n) ++ [(⟨l, xe, x3⟩ : T)]).length := ⟨_, rfl⟩
                rw [← hn2] at hv2
                subst hv2
                dsimp only at q2
                replace q2 := hid q2
                replace o2 := hid o2
                clear hn2 hnv g2
                replace hO := hid hO
                replace hB := hid hB
                replace bW := hid bW
                go_wp2_with fail
                refine (HV.out _).mono ?_
                rintro e w4 ⟨rfl, rfl⟩
                go_wp2_with (at_builtin; refine wpList_append_run rfl (.tmp 44) (.tmp 46) 22 22 rfl (.slice av nv cv) (.slice (some ⟨wr.heap.size + 1 + 1, 0, none⟩) 1 1) (.slice a2 n2 c2') rfl rfl q2.out ?_)
                go_roundw
                case rel => exact ⟨n + 1, a2, n2, c2', by go_num, rfl, by omega, by rw [HF2.out]; exact o2, hb2⟩
                case measure => simp [intOf]; omega
              | false =>
                have HF2 : Hid (rcl l m (xs.take (n + 1)) = rcl l m (xs.take n)) := by show _ = _; rw [HF'.out, if_neg (by rw [show lf ⟨l, xe, x3⟩ = false from hlf]; simp)]; simp
                replace hO := hid hO
                replace hB := hid hB
                replace bW := hid bW
                go_wp2_with fail
                refine (HV.out _).mono ?_
                rintro e w4 ⟨rfl, rfl⟩
                go_wp2_with fail
                go_roundw
                case rel => exact ⟨n + 1, av, nv, cv, by go_num, rfl, by omega, by rw [HF2.out]; exact hO, hB⟩
                case measure => simp [intOf]; omega
        | false =>
          by_cases hm : m = ⟨#[]⟩
          · have hme := empty_yes hm
            clear b2 B2 hW2 W2
            have bW : Below wr.heap.size wr ((wr.alloc (.cells #[.string xb, .string xe, .int .u64 x3] 27)).alloc (.cells #[.string xb, .string xe, .int .u64 x3] 27)) := (box_below wr _).alloc (by simp) _
            have hO : OwnT ((wr.alloc (.cells #[.string xb, .string xe, .int .u64 x3] 27)).alloc (.cells #[.string xb, .string xe, .int .u64 x3] 27)) w.heap.size (.slice av nv cv) (rcl l m (xs.take n)) := HO.out.later bW
            have hB : Below w.heap.size w ((wr.alloc (.cells #[.string xb, .string xe, .int .u64 x3] 27)).alloc (.cells #[.string xb, .string xe, .int .u64 x3] 27)) := HB.out.trans (bW.mono HB.out.size)
            have hct : ct l m ⟨xb, xe, x3⟩ = ⟨xb, xe, x3⟩ := by unfold ct mx lim; dsimp only; rw [if_neg (by rw [show lt xb l = false from c1]; simp), if_pos hm]
            rw [hct] at HF'
            clear hct hm
            cases hlf : Op.bytesLess xb.toList xe.toList with
            | true =>
              have HF2 : Hid (rcl l m (xs.take (n + 1)) = rcl l m (xs.take n) ++ [⟨xb, xe, x3⟩]) := by show _ = _; rw [HF'.out, if_pos (show lf ⟨xb, xe, x3⟩ = true from hlf)]
              have hnv : nv = (rcl l m (xs.take n)).length := by
                obtain ⟨_, _, e, _⟩ := row_shape HO.out
                injection e
              obtain ⟨v2, w2, q2, o2, g2⟩ := app_tomb ((wr.alloc (.cells #[.string xb, .string xe, .int .u64 x3] 27)).alloc (.cells #[.string xb, .string xe, .int .u64 x3] 27)) w.heap.size _ _ ⟨xb, xe, x3⟩ hO (by omega) hB.size
              obtain ⟨a2, c2', hv2, _⟩ := row_shape o2
              rw [size_alloc, size_alloc] at q2
              have hb2 := hid (hB.grown g2 hB.size (fun k e => (World.ownsRow.lt hO k e).1))
              obtain ⟨n2, hn2⟩ : ∃ n2, n2 = (rcl l m (xs.take n) ++ [(⟨xb, xe, x3⟩ : T)]).length := ⟨_, rfl⟩
              rw [← hn2] at hv2
              subst hv2
              dsimp only at q2
              replace q2 := hid q2
              replace o2 := hid o2
              clear hn2 hnv g2
              replace hO := hid hO
              replace hB := hid hB
              replace bW := hid bW
              go_wp2_with fail
              refine (HV.out _).mono ?_
              rintro e w4 ⟨rfl, rfl⟩
              go_wp2_with (at_builtin; refine wpList_append_run rfl (.tmp 44) (.tmp 46) 22 22 rfl (.slice av nv cv) (.slice (some ⟨wr.heap.size + 1 + 1, 0, none⟩) 1 1) (.slice a2 n2 c2') rfl rfl q2.out ?_)
              go_roundw
              case rel => exact ⟨n + 1, a2, n2, c2', by go_num, rfl, by omega, by rw [HF2.out]; exact o2, hb2⟩
              case measure => simp [intOf]; omega
            | false =>
              have HF2 : Hid (rcl l m (xs.take (n + 1)) = rcl l m (xs.take n)) := by show _ = _; rw [HF'.out, if_neg (by rw [show lf ⟨xb, xe, x3⟩ = false from hlf]; simp)]; simp
              replace hO := hid hO
              replace hB := hid hB
              replace bW := hid bW
              go_wp2_with fail
              refine (HV.out _).mono ?_
              rintro e w4 ⟨rfl, rfl⟩
              go_wp2_with fail
              go_roundw
              case rel => exact ⟨n + 1, av, nv, cv, by go_num, rfl, by omega, by rw [HF2.out]; exact hO, hB⟩
              case measure => simp [intOf]; omega
          · have hme := empty_no hm
            cases c2 : Op.bytesLess m.toList xe.toList with
            | true =>
              clear b2 B2 hW2 W2
              have bW : Below wr.heap.size wr ((wr.alloc (.cells #[.string xb, .string m, .int .u64 x3] 27)).alloc (.cells #[.string xb, .string xe, .int .u64 x3] 27)) := (box_below wr _).alloc (by simp) _
              have hO : OwnT ((wr.alloc (.cells #[.string xb, .string m, .int .u64 x3] 27)).alloc (.cells #[.string xb, .string xe, .int .u64 x3] 27)) w.heap.size (.slice av nv cv) (rcl l m (xs.take n)) := HO.out.later bW
              have hB : Below w.heap.size w ((wr.alloc (.cells #[.string xb, .string m, .int .u64 x3] 27)).alloc (.cells #[.string xb, .string xe, .int .u64 x3] 27)) := HB.out.trans (bW.mono HB.out.size)
              have hct : ct l m ⟨xb, xe, x3⟩ = ⟨xb, m, x3⟩ := by unfold ct mx lim; dsimp only; rw [if_neg (by rw [show lt xb l = false from c1]; simp), if_neg hm]; unfold mn; rw [if_pos c2]
              rw [hct] at HF'
              clear hct hm
              cases hlf : Op.bytesLess xb.toList m.toList with
              | true =>
                have HF2 : Hid (rcl l m (xs.take (n + 1)) = rcl l m (xs.take n) ++ [⟨xb, m, x3⟩]) := by show _ = _; rw [HF'.out, if_pos (show lf ⟨xb, m, x3⟩ = true from hlf)]
                have hnv : nv = (rcl l m (xs.take n)).length := by
                  obtain ⟨_, _, e, _⟩ := row_shape HO.out
                  injection e
                obtain ⟨v2, w2, q2, o2, g2⟩ := app_tomb ((wr.alloc (.cells #[.string xb, .string m, .int .u64 x3] 27)).alloc (.cells #[.string xb, .string xe, .int .u64 x3] 27)) w.heap.size _ _ ⟨xb, m, x3⟩ hO (by omega) hB.size
                obtain ⟨a2, c2', hv2, _⟩ := row_shape o2
                rw [size_alloc, size_alloc] at q2
                have hb2 := hid (hB.grown g2 hB.size (fun k e => (World.ownsRow.lt hO k e).1))
                obtain ⟨n2, hn2⟩ : ∃ n2, n2 = (rcl l m (xs.take n) ++ [(⟨xb, m, x3⟩ : T)]).length := ⟨_, rfl⟩
                rw [← hn2] at hv2
                subst hv2
                dsimp only at q2
                replace q2 := hid q2
                replace o2 := hid o2
                clear hn2 hnv g2
                replace hO := hid hO
                replace hB := hid hB
                replace bW := hid bW
                go_wp2_with fail
                refine (HV.out _).mono ?_
                rintro e w4 ⟨rfl, rfl⟩
                go_wp2_with (at_builtin; refine wpList_append_run rfl (.tmp 44) (.tmp 46) 22 22 rfl (.slice av nv cv) (.slice (some ⟨wr.heap.size + 1 + 1, 0, none⟩) 1 1) (.slice a2 n2 c2') rfl rfl q2.out ?_)
                go_roundw
                case rel => exact ⟨n + 1, a2, n2, c2', by go_num, rfl, by omega, by rw [HF2.out]; exact o2, hb2⟩
                case measure => simp [intOf]; omega
              | false =>
                have HF2 : Hid (rcl l m (xs.take (n + 1)) = rcl l m (xs.take n)) := by show _ = _; rw [HF'.out, if_neg (by rw [show lf ⟨xb, m, x3⟩ = false from hlf]; simp)]; simp
                replace hO := hid hO
                replace hB := hid hB
                replace bW := hid bW
                go_wp2_with fail
                refine (HV.out _).mono ?_
                rintro e w4 ⟨rfl, rfl⟩
                go_wp2_with fail
                go_roundw
                case rel => exact ⟨n + 1, av, nv, cv, by go_num, rfl, by omega, by rw [HF2.out]; exact hO, hB⟩
                case measure => simp [intOf]; omega
            | false =>
              clear b2 B2 hW2 W2
              have bW : Below wr.heap.size wr ((wr.alloc (.cells #[.string xb, .string xe, .int .u64 x3] 27)).alloc (.cells #[.string xb, .string xe, .int .u64 x3] 27)) := (box_below wr _).alloc (by simp) _
              have hO : OwnT ((wr.alloc (.cells #[.string xb, .string xe, .int .u64 x3] 27)).alloc (.cells #[.string xb, .string xe, .int .u64 x3] 27)) w.heap.size (.slice av nv cv) (rcl l m (xs.take n)) := HO.out.later bW
              have hB : Below w.heap.size w ((wr.alloc (.cells #[.string xb, .string xe, .int .u64 x3] 27)).alloc (.cells #[.string xb, .string xe, .int .u64 x3] 27)) := HB.out.trans (bW.mono HB.out.size)
              have hct : ct l m ⟨xb, xe, x3⟩ = ⟨xb, xe, x3⟩ := by unfold ct mx lim; dsimp only; rw [if_neg (by rw [show lt xb l = false from c1]; simp), if_neg hm]; unfold mn; rw [if_neg (by rw [show lt m xe = false from c2]; simp)]
              rw [hct] at HF'
              clear hct hm
              cases hlf : Op.bytesLess xb.toList xe.toList with
              | true =>
                have HF2 : Hid (rcl l m (xs.take (n + 1)) = rcl l m (xs.take n) ++ [⟨xb, xe, x3⟩]) := by show _ = _; rw [HF'.out, if_pos (show lf ⟨xb, xe, x3⟩ = true from hlf)]
                have hnv : nv = (rcl l m (xs.take n)).length := by
                  obtain ⟨_, _, e, _⟩ := row_shape HO.out
                  injection e
                obtain ⟨v2, w2, q2, o2, g2⟩ := app_tomb ((wr.alloc (.cells #[.string xb, .string xe, .int .u64 x3] 27)).alloc (.cells #[.string xb, .string xe, .int .u64 x3] 27)) w.heap.size _ _ ⟨xb, xe, x3⟩ hO (by omega) hB.size
                obtain ⟨a2, c2', hv2, _⟩ := row_shape o2
                rw [size_alloc, size_alloc] at q2
                have hb2 := hid (hB.grown g2 hB.size (fun k e => (World.ownsRow.lt hO k e).1))
                obtain ⟨n2, hn2⟩ : ∃ n2, n2 = (rcl l m (xs.take n) ++ [(⟨xb, xe, x3⟩ : T)]).length := ⟨_, rfl⟩
                rw [← hn2] at hv2
                subst hv2
                dsimp only at q2
                replace q2 := hid q2
                replace o2 := hid o2
                clear hn2 hnv g2
                replace hO := hid hO
                replace hB := hid hB
                replace bW := hid bW
                go_wp2_with fail
                refine (HV.out _).mono ?_
                rintro e w4 ⟨rfl, rfl⟩
                go_wp2_with (at_builtin; refine wpList_append_run rfl (.tmp 44) (.tmp 46) 22 22 rfl (.slice av nv cv) (.slice (some ⟨wr.heap.size + 1 + 1, 0, none⟩) 1 1) (.slice a2 n2 c2') rfl rfl q2.out ?_)
                go_roundw
                case rel => exact ⟨n + 1, a2, n2, c2', by go_num, rfl, by omega, by rw [HF2.out]; exact o2, hb2⟩
                case measure => simp [intOf]; omega
              | false =>
                have HF2 : Hid (rcl l m (xs.take (n + 1)) = rcl l m (xs.take n)) := by show _ = _; rw [HF'.out, if_neg (by rw [show lf ⟨xb, xe, x3⟩ = false from hlf]; simp)]; simp
                replace hO := hid hO
                replace hB := hid hB
                replace bW := hid bW
                go_wp2_with fail
                refine (HV.out _).mono ?_
                rintro e w4 ⟨rfl, rfl⟩
                go_wp2_with fail
                go_roundw
                case rel => exact ⟨n + 1, av, nv, cv, by go_num, rfl, by omega, by rw [HF2.out]; exact hO, hB⟩
                case measure => simp [intOf]; omega
    · have ik : ¬ (n : Int) < (len : Int) := by omega
      have e1 : Hid (rcl l m (xs.take n) = cut xs l m) := by show _ = _; rw [List.take_of_length_le (by omega)]; rfl
      go_wp2_with fail
      go_ret
      exact ⟨_, rfl, by rw [← e1.out]; exact HO.out, HB.out⟩
end Go.Proofs.YtfmpdalabgfigaaDoor.Rh

/- The document's All. -/
import Derived.Test.YtfmpdalabgfigaaDoorRf
namespace Go.Proofs.YtfmpdalabgfigaaDoor.Rg
open Go.ChangeShapes Go.WideShapes Go.ChangeAt Go.RowKit Go.Shelf
open Go.Proofs.YtfmpdalabgfigaaDoor.Lx
open Go.Proofs.YtfmpdalabgfigaaDoor.Tm
open Go.Proofs.YtfmpdalabgfigaaDoor.Mm
open Go.Proofs.YtfmpdalabgfigaaDoor.Rw
open Go.Proofs.YtfmpdalabgfigaaDoor.Cv
open Go.Proofs.YtfmpdalabgfigaaDoor.Cu
open Go.Proofs.YtfmpdalabgfigaaDoor.Rf
set_option linter.unusedVariables false
set_option linter.unusedSimpArgs false
attribute [local go_sem] leq_s gtr_s geq_s

/-- The document's valid ones. -/
theorem snoc_len {xs : List T} {n : Nat} (h : n < xs.length) : ((xs.take n).filter vd).length + 1 ≤ xs.length := by
  have := List.length_filter_le vd (xs.take n)
  rw [List.length_take] at this
  omega
set_option maxRecDepth 100000 in
set_option maxHeartbeats 4000000 in
theorem rall_any (a : Option Addr) (len cap : Nat) (xs : List T) (w : World) (H : Tbs w a len cap xs) (hlen : len * 40 ≤ 140737488355328) :
    Calls Tryd.prog 23 #[.slice a len cap] w fun e w' => ∃ v, e = .returned v ∧ OwnT w' w.heap.size v (xs.filter vd) ∧ Below w.heap.size w w' := by
  have hxl := H.1
  replace H := hid H
  go_enter Tryd.func23, Tryd.ntmps23
  go_wp2_with fail
  go_loopw [3, 4] (fun ov iv wr => ∃ (n : Nat) (av : Option Addr) (nv cv : Nat), iv = .int .i64 (n : Int) ∧ ov = .slice av nv cv ∧ n ≤ len ∧ Hid (OwnT wr w.heap.size (.slice av nv cv) ((xs.take n).filter vd)) ∧ Hid (Below w.heap.size w wr)) (fun _ iv _ => len - (intOf iv).toNat)
  case atStart => exact ⟨0, none, 0, 0, rfl, rfl, by omega, OwnT.nil _ _, Below.refl _ _⟩
  case round =>
    obtain ⟨n, av, nv, cv, rfl, rfl, hn, HO, HB⟩ := hrel
    by_cases hlt : n < len
    · have ik : (n : Int) < (len : Int) := by omega
      have HT := H.out.later HB.out
      have hcap := HT.2.1
      obtain ⟨b, o, rfl, hat⟩ := here HT hlt
      have HF : Hid ((xs.take (n + 1)).filter vd = (xs.take n).filter vd ++ (if vd (xs.getD n zt) = true then [xs.getD n zt] else [])) := Vi.filter_snoc (by omega)
      have hsl := snoc_len (xs := xs) (n := n) (by omega)
      revert hat HF
      generalize xs.getD n zt = x
      intro hat HF
      have hnv : nv = ((xs.take n).filter vd).length := by
        obtain ⟨_, _, e, _⟩ := row_shape HO.out
        injection e
      have HO1 := HO.out.later (box_below wr (.cells #[.string x.b, .string x.e, .int .u64 x.s] 27))
      have hb1 := HB.out.trans ((box_below wr (.cells #[.string x.b, .string x.e, .int .u64 x.s] 27)).mono HB.out.size)
      obtain ⟨v2, w2, r2, o2, g2⟩ := app_tomb (wr.alloc (.cells #[.string x.b, .string x.e, .int .u64 x.s] 27)) w.heap.size _ _ x HO1 (by omega) hb1.size
      obtain ⟨a2, c2, hv2, _⟩ := row_shape o2
      rw [size_alloc] at r2
      have hb2 := hid (hb1.grown g2 hb1.size (fun k e => (World.ownsRow.lt HO1 k e).1))
      have hat1 := at_box hat (.cells #[.string x.b, .string x.e, .int .u64 x.s] 27)
      obtain ⟨xb, xe, x3⟩ := x
      obtain ⟨r0, r1, r3⟩ := hat
      obtain ⟨s0, s1, s2⟩ := hat1
      dsimp only at r0 r1 r3 s0 s1 s2 r2 hv2
      have HV := hid (rvalid_any xb xe x3)
      replace HO1 := hid HO1
      replace hb1 := hid hb1
      cases hv : vd ⟨xb, xe, x3⟩ with
      | false =>
        rw [hv] at HV
        have HF' : Hid ((xs.take (n + 1)).filter vd = (xs.take n).filter vd) := by show _ = _; rw [HF.out, if_neg (by rw [hv]; simp)]; simp
        clear HF hv r2 o2 g2 hv2 hnv
        go_wp2_with fail
        refine (HV.out _).mono ?_
        rintro e w4 ⟨rfl, rfl⟩
        go_wp2_with fail
        go_roundw
        case rel => exact ⟨n + 1, av, nv, cv, by go_num, rfl, by omega, by rw [HF'.out]; exact HO1, hb1⟩
        case measure => simp [intOf]; omega
      | true =>
        rw [hv] at HV
        have HF' : Hid ((xs.take (n + 1)).filter vd = (xs.take n).filter vd ++ [⟨xb, xe, x3⟩]) := by show _ = _; rw [HF.out, if_pos hv]
        clear HF hv hnv
        subst hv2
        replace r2 := hid r2
        replace o2 := hid o2
        replace g2 := hid g2
        obtain ⟨n2, hn2⟩ : ∃ n2, n2 = ((xs.take n).filter vd ++ [(⟨xb, xe, x3⟩ : T)]).length := ⟨_, rfl⟩
        rw [← hn2] at r2 o2
        replace hn2 := hid hn2
        go_wp2_with fail
        refine (HV.out _).mono ?_
        rintro e w4 ⟨rfl, rfl⟩
        go_wp2_with (at_builtin; refine wpList_append_run rfl (.tmp 16) (.tmp 21) 22 22 rfl (.slice av nv cv) (.slice (some ⟨wr.heap.size + 1, 0, none⟩) 1 1) (.slice a2 n2 c2) rfl rfl r2.out ?_)
        go_roundw
        case rel => exact ⟨n + 1, a2, n2, c2, by go_num, rfl, by omega, by rw [HF'.out]; exact o2, hb2⟩
        case measure => simp [intOf]; omega
    · have ik : ¬ (n : Int) < (len : Int) := by omega
      have e1 : Hid ((xs.take n).filter vd = xs.filter vd) := by show _ = _; rw [List.take_of_length_le (by omega)]
      go_wp2_with fail
      go_ret
      exact ⟨_, rfl, by rw [← e1.out]; exact HO.out, HB.out⟩
end Go.Proofs.YtfmpdalabgfigaaDoor.Rg

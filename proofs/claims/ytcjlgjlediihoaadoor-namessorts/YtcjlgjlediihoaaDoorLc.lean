/- What the listed variables give a walk. -/
import Derived.Test.YtcjlgjlediihoaaDoorBw
import Derived.LaidMore
import Derived.Lib.LaidTab
import Derived.Stop.Joined
import Derived.Deep.Strs
namespace Go.Proofs.YtcjlgjlediihoaaDoor.Rw
open Go.ChangeShapes Go.WideShapes Go.ChangeAt Go.RowKit
open Go.Proofs.YtcjlgjlediihoaaDoor.Ut
open Go.Proofs.YtcjlgjlediihoaaDoor.By
set_option linter.unusedVariables false
set_option linter.unusedSimpArgs false

theorem laid_tail {W : World} {x : String × DataW Unit} {laid : List (String × DataW Unit)} {ps : List MemPlace} (h : DataW.LaidVars Tryd.prog W (x :: laid) ps) : ∃ q, DataW.LaidVars Tryd.prog W laid q := by
  obtain ⟨n, d⟩ := x
  obtain ⟨g', t', cs, fuel, p, q, hg', ht', hvar, hd, hr, _⟩ := h
  exact ⟨q, hr⟩
theorem ten_list (l : List Value) (h : l.length = 10) : l = l.take 2 ++ (l.drop 2).take 2 ++ (l.drop 4).take 2 ++ (l.drop 6).take 2 ++ (l.drop 8).take 2 := by
  match l, h with
  | [x0, x1, x2, x3, x4, x5, x6, x7, x8, x9], _ => rfl
theorem two_list (l : List Value) (h : l.length = 2) : ∃ x y, l = [x, y] := by
  match l, h with
  | [x, y], _ => exact ⟨x, y, rfl⟩
set_option maxRecDepth 100000 in
theorem pair_of {H : Type} {enc : TypeId × Value → H} {w : World} {base : Nat} {sp : Nat → Bool} {held : Bool} {fuel : Nat} {cs : List Value} {a b : Int} {p : List MemPlace}
    (h : DataW.trod enc Tryd.prog w base sp held fuel 80 cs = some (.agg [.lit (.int .i32 a), .lit (.int .i32 b)], p)) : cs = [.int .i32 a, .int .i32 b] := by
  obtain ⟨xs, n, _, hx, hl, hlen, hf⟩ := DataW.trod_struct Tryd.underlying80 h
  have hc1 : Tryd.prog.cellsOf 21 = 1 := by kernel_rfl
  have hc2 : Tryd.prog.cellsOf 80 = 2 := by kernel_rfl
  match xs, hlen with
  | [y0, y1], _ =>
    have h0 : DataW.trod enc Tryd.prog w base sp held n 21 ((cs.drop 0).take (Tryd.prog.cellsOf 21)) = some y0 := hf 0 _ rfl
    have h1 : DataW.trod enc Tryd.prog w base sp held n 21 ((cs.drop 1).take (Tryd.prog.cellsOf 21)) = some y1 := hf 1 _ rfl
    have hxx := congrArg Prod.fst hx
    simp only [List.map_cons, List.map_nil, DataW.agg.injEq, List.cons.injEq, and_true] at hxx
    obtain ⟨e0, e1⟩ := hxx
    rw [hc1] at h0 h1
    obtain ⟨z0, c0, d0, _⟩ := DataW.trod_int Tryd.underlying21 h0
    obtain ⟨z1, c1, d1, _⟩ := DataW.trod_int Tryd.underlying21 h1
    subst d0
    subst d1
    simp only [DataW.lit.injEq, Lit.int.injEq, true_and] at e0 e1
    subst e0 e1
    rw [hc2] at hl
    obtain ⟨x, y, rfl⟩ := two_list cs hl
    simp at c0 c1
    rw [c0, c1]
set_option maxRecDepth 100000 in
theorem letters_of {W : World} {laid : List (String × DataW Unit)} {ps : List MemPlace} (h : DataW.LaidVars Tryd.prog W (("moraine/names.letters", Rows.laid_moraine_names_letters) :: laid) ps) : Lt W := by
  obtain ⟨g', t', cs, fuel, p, q, hg', ht', hvar, hd, _, _⟩ := h
  obtain rfl := Option.some.inj ((show Tryd.prog.globalNamed "moraine/names.letters" = some 1 by kernel_rfl).symm.trans hg')
  obtain rfl := Option.some.inj ((show (Tryd.prog.globals[1]?).map (·.type) = some 81 by kernel_rfl).symm.trans ht')
  have hce : Tryd.prog.cellsOf 80 = 2 := by kernel_rfl
  have hct : Tryd.prog.cellsOf 81 = 10 := by kernel_rfl
  have hcs : cs.toList = ltv.map fun z => Value.int .i32 z := by
    generalize cs.toList = cl at hd
    cases fuel with
    | zero => simp [DataW.trod] at hd
    | succ fuel =>
      simp only [DataW.trod, Tryd.underlying81, hce, hct] at hd
      split at hd
      · rename_i hl
        obtain ⟨xs, hm, hx⟩ := Option.map_eq_some_iff.1 hd
        have hxs : xs.map (·.1) = [.agg [.lit (.int .i32 10), .lit (.int .i32 110)], .agg [.lit (.int .i32 9), .lit (.int .i32 116)], .agg [.lit (.int .i32 32), .lit (.int .i32 115)], .agg [.lit (.int .i32 34), .lit (.int .i32 34)], .agg [.lit (.int .i32 92), .lit (.int .i32 92)]] := by
          have := congrArg Prod.fst hx
          simpa [Rows.laid_moraine_names_letters] using this
        have two : ∀ (i : Nat) (a b : Int), i < 5 → (xs.map (·.1))[i]? = some (.agg [.lit (.int .i32 a), .lit (.int .i32 b)]) → (cl.drop (i * 2)).take 2 = [.int .i32 a, .int .i32 b] := by
          intro i a b hi hab
          obtain ⟨y, hy, hf⟩ := Lib.mapM_at hm i i (by simp [hi])
          obtain ⟨y1, y2⟩ := y
          rw [List.getElem?_map, hy] at hab
          simp at hab
          subst hab
          exact pair_of hf
        have t0 := two 0 10 110 (by omega) (by rw [hxs]; rfl)
        have t1 := two 1 9 116 (by omega) (by rw [hxs]; rfl)
        have t2 := two 2 32 115 (by omega) (by rw [hxs]; rfl)
        have t3 := two 3 34 34 (by omega) (by rw [hxs]; rfl)
        have t4 := two 4 92 92 (by omega) (by rw [hxs]; rfl)
        simp at t0 t1 t2 t3 t4
        exact (ten_list cl hl).trans (by rw [t0, t1, t2, t3, t4]; rfl)
      · cases hd
  intro i hi
  have hv := hvar
  rw [show cs = (ltv.map fun z => Value.int .i32 z).toArray from by rw [← hcs]] at hv
  have := World.var?_cell (show Tryd.prog.globalNamed "moraine/names.letters" = some 1 by kernel_rfl) hv i
  rw [this]
  have hl : i < ltv.length := by simpa [ltv] using hi
  simp [List.getD, hl]
theorem bytes_of (s : ByteArray) (l : List UInt8) (h : s.data.toList = l) : s = ⟨l.toArray⟩ := by
  rw [← h]
theorem three_list (l : List Value) (h : l.length = 3) : ∃ x y z, l = [x, y, z] := by
  match l, h with
  | [x, y, z], _ => exact ⟨x, y, z, rfl⟩
theorem twelve_list (l : List Value) (h : l.length = 12) : l = l.take 3 ++ (l.drop 3).take 3 ++ (l.drop 6).take 3 ++ (l.drop 9).take 3 := by
  match l, h with
  | [x0, x1, x2, x3, x4, x5, x6, x7, x8, x9, x10, x11], _ => rfl
set_option maxRecDepth 100000 in
theorem triple_of {H : Type} {enc : TypeId × Value → H} {w : World} {base : Nat} {sp : Nat → Bool} {held : Bool} {fuel : Nat} {cs : List Value} {a : Int} {x y : List UInt8} {p : List MemPlace}
    (h : DataW.trod enc Tryd.prog w base sp held fuel 49 cs = some (.agg [.lit (.int .i64 a), .lit (.string x), .lit (.string y)], p)) : cs = [.int .i64 a, .string ⟨x.toArray⟩, .string ⟨y.toArray⟩] := by
  obtain ⟨xs, n, _, hx, hl, hlen, hf⟩ := DataW.trod_struct Tryd.underlying49 h
  have hc1 : Tryd.prog.cellsOf 3 = 1 := by kernel_rfl
  have hc9 : Tryd.prog.cellsOf 9 = 1 := by kernel_rfl
  have hc3 : Tryd.prog.cellsOf 49 = 3 := by kernel_rfl
  match xs, hlen with
  | [y0, y1, y2], _ =>
    have h0 : DataW.trod enc Tryd.prog w base sp held n 3 ((cs.drop 0).take (Tryd.prog.cellsOf 3)) = some y0 := hf 0 _ rfl
    have h1 : DataW.trod enc Tryd.prog w base sp held n 9 ((cs.drop 1).take (Tryd.prog.cellsOf 9)) = some y1 := hf 1 _ rfl
    have h2 : DataW.trod enc Tryd.prog w base sp held n 9 ((cs.drop 2).take (Tryd.prog.cellsOf 9)) = some y2 := hf 2 _ rfl
    have hxx := congrArg Prod.fst hx
    simp only [List.map_cons, List.map_nil, DataW.agg.injEq, List.cons.injEq, and_true] at hxx
    obtain ⟨e0, e1, e2⟩ := hxx
    rw [hc1] at h0
    rw [hc9] at h1 h2
    obtain ⟨z0, c0, d0, _⟩ := DataW.trod_int Tryd.underlying3 h0
    obtain ⟨z1, c1, d1, _⟩ := DataW.trod_string Tryd.underlying9 h1
    obtain ⟨z2, c2, d2, _⟩ := DataW.trod_string Tryd.underlying9 h2
    subst d0
    subst d1
    subst d2
    simp only [DataW.lit.injEq, Lit.int.injEq, Lit.string.injEq, true_and] at e0 e1 e2
    subst e0
    rw [hc3] at hl
    obtain ⟨u0, u1, u2, rfl⟩ := three_list cs hl
    simp at c0 c1 c2
    rw [c0, c1, c2, bytes_of z1 x e1.symm, bytes_of z2 y e2.symm]
set_option maxRecDepth 100000 in
theorem forms_of {W : World} {laid : List (String × DataW Unit)} {ps : List MemPlace} (h : DataW.LaidVars Tryd.prog W (("moraine/names.numbered", Rows.laid_moraine_names_numbered) :: laid) ps) : Fm W := by
  obtain ⟨g', t', cs, fuel, p, q, hg', ht', hvar, hd, _, _⟩ := h
  obtain rfl := Option.some.inj ((show Tryd.prog.globalNamed "moraine/names.numbered" = some 0 by kernel_rfl).symm.trans hg')
  obtain rfl := Option.some.inj ((show (Tryd.prog.globals[0]?).map (·.type) = some 50 by kernel_rfl).symm.trans ht')
  have hce : Tryd.prog.cellsOf 49 = 3 := by kernel_rfl
  have hct : Tryd.prog.cellsOf 50 = 12 := by kernel_rfl
  have hcs : cs.toList = fmv := by
    generalize cs.toList = cl at hd
    cases fuel with
    | zero => simp [DataW.trod] at hd
    | succ fuel =>
      simp only [DataW.trod, Tryd.underlying50, hce, hct] at hd
      split at hd
      · rename_i hl
        obtain ⟨xs, hm, hx⟩ := Option.map_eq_some_iff.1 hd
        have hxs : xs.map (·.1) = [.agg [.lit (.int .i64 1), .lit (.string []), .lit (.string [46, 108, 111, 103])], .agg [.lit (.int .i64 2), .lit (.string []), .lit (.string [46, 116, 97, 98])], .agg [.lit (.int .i64 3), .lit (.string [77, 65, 78, 73, 70, 69, 83, 84, 45]), .lit (.string [])], .agg [.lit (.int .i64 5), .lit (.string []), .lit (.string [46, 116, 109, 112])]] := by
          have := congrArg Prod.fst hx
          simpa [Rows.laid_moraine_names_numbered] using this
        have two : ∀ (i : Nat) (a : Int) (x y : List UInt8), i < 4 → (xs.map (·.1))[i]? = some (.agg [.lit (.int .i64 a), .lit (.string x), .lit (.string y)]) → (cl.drop (i * 3)).take 3 = [.int .i64 a, .string ⟨x.toArray⟩, .string ⟨y.toArray⟩] := by
          intro i a x y hi hab
          obtain ⟨z, hz, hf⟩ := Lib.mapM_at hm i i (by simp [hi])
          obtain ⟨z1, z2⟩ := z
          rw [List.getElem?_map, hz] at hab
          simp at hab
          subst hab
          exact triple_of hf
        have t0 := two 0 1 [] [46, 108, 111, 103] (by omega) (by rw [hxs]; rfl)
        have t1 := two 1 2 [] [46, 116, 97, 98] (by omega) (by rw [hxs]; rfl)
        have t2 := two 2 3 [77, 65, 78, 73, 70, 69, 83, 84, 45] [] (by omega) (by rw [hxs]; rfl)
        have t3 := two 3 5 [] [46, 116, 109, 112] (by omega) (by rw [hxs]; rfl)
        simp only [Nat.zero_mul, List.drop_zero, Nat.one_mul, Nat.reduceMul] at t0 t1 t2 t3
        exact (twelve_list cl hl).trans (by rw [t0, t1, t2, t3]; rfl)
      · cases hd
  intro i v hv
  have hvr := hvar
  rw [show cs = fmv.toArray from by rw [← hcs]] at hvr
  have := World.var?_cell (show Tryd.prog.globalNamed "moraine/names.numbered" = some 0 by kernel_rfl) hvr i
  rw [this]
  simpa using hv
abbrev laid5 : List (String × DataW Unit) := [("math/bits.deBruijn32tab", Rows.laid_math_bits_deBruijn32tab), ("math/bits.deBruijn64tab", Rows.laid_math_bits_deBruijn64tab), ("internal/strconv.uint64pow10", Rows.laid_internal_strconv_uint64pow10), ("moraine/names.numbered", Rows.laid_moraine_names_numbered), ("moraine/names.letters", Rows.laid_moraine_names_letters)]
set_option maxRecDepth 100000 in
theorem pow_of {W : World} {laid : List (String × DataW Unit)} {ps : List MemPlace} (h : DataW.LaidVars Tryd.prog W (("internal/strconv.uint64pow10", Rows.laid_internal_strconv_uint64pow10) :: laid) ps) : Tb W := by
  obtain ⟨g', t', cs, fuel, p, q, hg', ht', hvar, hd, _, _⟩ := h
  obtain rfl := Option.some.inj (tb_g.symm.trans hg')
  obtain rfl := Option.some.inj ((show (Tryd.prog.globals[3]?).map (·.type) = some 135 by kernel_rfl).symm.trans ht')
  have hce : Tryd.prog.cellsOf 107 = 1 := by kernel_rfl
  have hct : Tryd.prog.cellsOf 135 = 20 := by kernel_rfl
  have hd' : DataW.trod _ Tryd.prog W _ _ _ fuel 135 cs.toList = some (Lib.tabData .u64 Lib.pow10Tab, p) := hd
  unfold Tb Lib.TabIs
  rw [hvar, ← Lib.cells_of_tab Tryd.underlying135 Tryd.underlying107 hce hct hd']
theorem tabs_of {W : World} (h : laidMetH Tryd.prog laid5 W) : Lt W ∧ Fm W ∧ Tb W := by
  rw [MakeChecks.laidMetH_plain _ _ _ (by kernel_rfl)] at h
  obtain ⟨ps, h0, _⟩ := h
  obtain ⟨q1, h1⟩ := laid_tail h0
  obtain ⟨q2, h2⟩ := laid_tail h1
  obtain ⟨q3, h3⟩ := laid_tail h2
  obtain ⟨q4, h4⟩ := laid_tail h3
  exact ⟨letters_of h4, forms_of h3, pow_of h2⟩
end Go.Proofs.YtcjlgjlediihoaaDoor.Rw

/- What the listed variables give a walk; the law NamesWide walked. -/
import Derived.Test.YtcjlgjlediihoabDoorNm
import Derived.LaidMore
import Derived.Lib.LaidTab
import Derived.Stop.Joined
import Derived.Deep.Strs
namespace Go.Proofs.YtcjlgjlediihoabDoor.Rw
open Go.ChangeShapes Go.WideShapes Go.ChangeAt Go.RowKit
open Go.Proofs.YtcjlgjlediihoabDoor.Ut
open Go.Proofs.YtcjlgjlediihoabDoor.By
set_option linter.unusedVariables false
set_option linter.unusedSimpArgs false

theorem laid_tail {W : World} {x : String × DataW Unit} {laid : List (String × DataW Unit)} {ps : List MemPlace} (h : DataW.LaidVars Tryd.prog W (x :: laid) ps) : ∃ q, DataW.LaidVars Tryd.prog W laid q := by
  obtain ⟨n, d⟩ := x
  obtain ⟨g', t', cs, fuel, p, q, hg', ht', hvar, hd, hr, _⟩ := h
  exact ⟨q, hr⟩
theorem ten_list (l : List Value) (h : l.length = 10) : l = l.take 2 ++ (l.drop 2).take 2 ++ (l.drop 4).take 2 ++ (l.drop 6).take 2 ++ (l.drop 8).take 2 := by
  match l, h with
  | [x0, x1, x2, x3, x4, x5, x6, x7, x8, x9], _ => rfl
theorem two_list (l : List Value) (h : l.length = 2) : ∃ x y, l = [x, y] := by
  match l, h with
  | [x, y], _ => exact ⟨x, y, rfl⟩
set_option maxRecDepth 100000 in
theorem pair_of {H : Type} {enc : TypeId × Value → H} {w : World} {base : Nat} {sp : Nat → Bool} {held : Bool} {fuel : Nat} {cs : List Value} {a b : Int} {p : List MemPlace}
    (h : DataW.trod enc Tryd.prog w base sp held fuel 49 cs = some (.agg [.lit (.int .i32 a), .lit (.int .i32 b)], p)) : cs = [.int .i32 a, .int .i32 b] := by
  obtain ⟨xs, n, _, hx, hl, hlen, hf⟩ := DataW.trod_struct Tryd.underlying49 h
  have hc1 : Tryd.prog.cellsOf 21 = 1 := by kernel_rfl
  have hc2 : Tryd.prog.cellsOf 49 = 2 := by kernel_rfl
  match xs, hlen with
  | [y0, y1], _ =>
    have h0 : DataW.trod enc Tryd.prog w base sp held n 21 ((cs.drop 0).take (Tryd.prog.cellsOf 21)) = some y0 := hf 0 _ rfl
    have h1 : DataW.trod enc Tryd.prog w base sp held n 21 ((cs.drop 1).take (Tryd.prog.cellsOf 21)) = some y1 := hf 1 _ rfl
    have hxx := congrArg Prod.fst hx
    simp only [List.map_cons, List.map_nil, DataW.agg.injEq, List.cons.injEq, and_true] at hxx
    obtain ⟨e0, e1⟩ := hxx
    rw [hc1] at h0 h1
    obtain ⟨z0, c0, d0, _⟩ := DataW.trod_int Tryd.underlying21 h0
    obtain ⟨z1, c1, d1, _⟩ := DataW.trod_int Tryd.underlying21 h1
    subst d0
    subst d1
    simp only [DataW.lit.injEq, Lit.int.injEq, true_and] at e0 e1
    subst e0 e1
    rw [hc2] at hl
    obtain ⟨x, y, rfl⟩ := two_list cs hl
    simp at c0 c1
    rw [c0, c1]
set_option maxRecDepth 100000 in
theorem letters_of {W : World} {laid : List (String × DataW Unit)} {ps : List MemPlace} (h : DataW.LaidVars Tryd.prog W (("moraine/names.letters", Rows.laid_moraine_names_letters) :: laid) ps) : Lt W := by
  obtain ⟨g', t', cs, fuel, p, q, hg', ht', hvar, hd, _, _⟩ := h
  obtain rfl := Option.some.inj ((show Tryd.prog.globalNamed "moraine/names.letters" = some 1 by kernel_rfl).symm.trans hg')
  obtain rfl := Option.some.inj ((show (Tryd.prog.globals[1]?).map (·.type) = some 50 by kernel_rfl).symm.trans ht')
  have hce : Tryd.prog.cellsOf 49 = 2 := by kernel_rfl
  have hct : Tryd.prog.cellsOf 50 = 10 := by kernel_rfl
  have hcs : cs.toList = ltv.map fun z => Value.int .i32 z := by
    generalize cs.toList = cl at hd
    cases fuel with
    | zero => simp [DataW.trod] at hd
    | succ fuel =>
      simp only [DataW.trod, Tryd.underlying50, hce, hct] at hd
      split at hd
      · rename_i hl
        obtain ⟨xs, hm, hx⟩ := Option.map_eq_some_iff.1 hd
        have hxs : xs.map (·.1) = [.agg [.lit (.int .i32 10), .lit (.int .i32 110)], .agg [.lit (.int .i32 9), .lit (.int .i32 116)], .agg [.lit (.int .i32 32), .lit (.int .i32 115)], .agg [.lit (.int .i32 34), .lit (.int .i32 34)], .agg [.lit (.int .i32 92), .lit (.int .i32 92)]] := by
          have := congrArg Prod.fst hx
          simpa [Rows.laid_moraine_names_letters] using this
        have two : ∀ (i : Nat) (a b : Int), i < 5 → (xs.map (·.1))[i]? = some (.agg [.lit (.int .i32 a), .lit (.int .i32 b)]) → (cl.drop (i * 2)).take 2 = [.int .i32 a, .int .i32 b] := by
          intro i a b hi hab
          obtain ⟨y, hy, hf⟩ := Lib.mapM_at hm i i (by simp [hi])
          obtain ⟨y1, y2⟩ := y
          rw [List.getElem?_map, hy] at hab
          simp at hab
          subst hab
          exact pair_of hf
        have t0 := two 0 10 110 (by omega) (by rw [hxs]; rfl)
        have t1 := two 1 9 116 (by omega) (by rw [hxs]; rfl)
        have t2 := two 2 32 115 (by omega) (by rw [hxs]; rfl)
        have t3 := two 3 34 34 (by omega) (by rw [hxs]; rfl)
        have t4 := two 4 92 92 (by omega) (by rw [hxs]; rfl)
        simp at t0 t1 t2 t3 t4
        exact (ten_list cl hl).trans (by rw [t0, t1, t2, t3, t4]; rfl)
      · cases hd
  intro i hi
  have hv := hvar
  rw [show cs = (ltv.map fun z => Value.int .i32 z).toArray from by rw [← hcs]] at hv
  have := World.var?_cell (show Tryd.prog.globalNamed "moraine/names.letters" = some 1 by kernel_rfl) hv i
  rw [this]
  have hl : i < ltv.length := by simpa [ltv] using hi
  simp [List.getD, hl]
theorem bytes_of (s : ByteArray) (l : List UInt8) (h : s.data.toList = l) : s = ⟨l.toArray⟩ := by
  rw [← h]
theorem three_list (l : List Value) (h : l.length = 3) : ∃ x y z, l = [x, y, z] := by
  match l, h with
  | [x, y, z], _ => exact ⟨x, y, z, rfl⟩
theorem twelve_list (l : List Value) (h : l.length = 12) : l = l.take 3 ++ (l.drop 3).take 3 ++ (l.drop 6).take 3 ++ (l.drop 9).take 3 := by
  match l, h with
  | [x0, x1, x2, x3, x4, x5, x6, x7, x8, x9, x10, x11], _ => rfl
set_option maxRecDepth 100000 in
theorem triple_of {H : Type} {enc : TypeId × Value → H} {w : World} {base : Nat} {sp : Nat → Bool} {held : Bool} {fuel : Nat} {cs : List Value} {a : Int} {x y : List UInt8} {p : List MemPlace}
    (h : DataW.trod enc Tryd.prog w base sp held fuel 44 cs = some (.agg [.lit (.int .i64 a), .lit (.string x), .lit (.string y)], p)) : cs = [.int .i64 a, .string ⟨x.toArray⟩, .string ⟨y.toArray⟩] := by
  obtain ⟨xs, n, _, hx, hl, hlen, hf⟩ := DataW.trod_struct Tryd.underlying44 h
  have hc1 : Tryd.prog.cellsOf 3 = 1 := by kernel_rfl
  have hc9 : Tryd.prog.cellsOf 9 = 1 := by kernel_rfl
  have hc3 : Tryd.prog.cellsOf 44 = 3 := by kernel_rfl
  match xs, hlen with
  | [y0, y1, y2], _ =>
    have h0 : DataW.trod enc Tryd.prog w base sp held n 3 ((cs.drop 0).take (Tryd.prog.cellsOf 3)) = some y0 := hf 0 _ rfl
    have h1 : DataW.trod enc Tryd.prog w base sp held n 9 ((cs.drop 1).take (Tryd.prog.cellsOf 9)) = some y1 := hf 1 _ rfl
    have h2 : DataW.trod enc Tryd.prog w base sp held n 9 ((cs.drop 2).take (Tryd.prog.cellsOf 9)) = some y2 := hf 2 _ rfl
    have hxx := congrArg Prod.fst hx
    simp only [List.map_cons, List.map_nil, DataW.agg.injEq, List.cons.injEq, and_true] at hxx
    obtain ⟨e0, e1, e2⟩ := hxx
    rw [hc1] at h0
    rw [hc9] at h1 h2
    obtain ⟨z0, c0, d0, _⟩ := DataW.trod_int Tryd.underlying3 h0
    obtain ⟨z1, c1, d1, _⟩ := DataW.trod_string Tryd.underlying9 h1
    obtain ⟨z2, c2, d2, _⟩ := DataW.trod_string Tryd.underlying9 h2
    subst d0
    subst d1
    subst d2
    simp only [DataW.lit.injEq, Lit.int.injEq, Lit.string.injEq, true_and] at e0 e1 e2
    subst e0
    rw [hc3] at hl
    obtain ⟨u0, u1, u2, rfl⟩ := three_list cs hl
    simp at c0 c1 c2
    rw [c0, c1, c2, bytes_of z1 x e1.symm, bytes_of z2 y e2.symm]
set_option maxRecDepth 100000 in
theorem forms_of {W : World} {laid : List (String × DataW Unit)} {ps : List MemPlace} (h : DataW.LaidVars Tryd.prog W (("moraine/names.numbered", Rows.laid_moraine_names_numbered) :: laid) ps) : Fm W := by
  obtain ⟨g', t', cs, fuel, p, q, hg', ht', hvar, hd, _, _⟩ := h
  obtain rfl := Option.some.inj ((show Tryd.prog.globalNamed "moraine/names.numbered" = some 0 by kernel_rfl).symm.trans hg')
  obtain rfl := Option.some.inj ((show (Tryd.prog.globals[0]?).map (·.type) = some 45 by kernel_rfl).symm.trans ht')
  have hce : Tryd.prog.cellsOf 44 = 3 := by kernel_rfl
  have hct : Tryd.prog.cellsOf 45 = 12 := by kernel_rfl
  have hcs : cs.toList = fmv := by
    generalize cs.toList = cl at hd
    cases fuel with
    | zero => simp [DataW.trod] at hd
    | succ fuel =>
      simp only [DataW.trod, Tryd.underlying45, hce, hct] at hd
      split at hd
      · rename_i hl
        obtain ⟨xs, hm, hx⟩ := Option.map_eq_some_iff.1 hd
        have hxs : xs.map (·.1) = [.agg [.lit (.int .i64 1), .lit (.string []), .lit (.string [46, 108, 111, 103])], .agg [.lit (.int .i64 2), .lit (.string []), .lit (.string [46, 116, 97, 98])], .agg [.lit (.int .i64 3), .lit (.string [77, 65, 78, 73, 70, 69, 83, 84, 45]), .lit (.string [])], .agg [.lit (.int .i64 5), .lit (.string []), .lit (.string [46, 116, 109, 112])]] := by
          have := congrArg Prod.fst hx
          simpa [Rows.laid_moraine_names_numbered] using this
        have two : ∀ (i : Nat) (a : Int) (x y : List UInt8), i < 4 → (xs.map (·.1))[i]? = some (.agg [.lit (.int .i64 a), .lit (.string x), .lit (.string y)]) → (cl.drop (i * 3)).take 3 = [.int .i64 a, .string ⟨x.toArray⟩, .string ⟨y.toArray⟩] := by
          intro i a x y hi hab
          obtain ⟨z, hz, hf⟩ := Lib.mapM_at hm i i (by simp [hi])
          obtain ⟨z1, z2⟩ := z
          rw [List.getElem?_map, hz] at hab
          simp at hab
          subst hab
          exact triple_of hf
        have t0 := two 0 1 [] [46, 108, 111, 103] (by omega) (by rw [hxs]; rfl)
        have t1 := two 1 2 [] [46, 116, 97, 98] (by omega) (by rw [hxs]; rfl)
        have t2 := two 2 3 [77, 65, 78, 73, 70, 69, 83, 84, 45] [] (by omega) (by rw [hxs]; rfl)
        have t3 := two 3 5 [] [46, 116, 109, 112] (by omega) (by rw [hxs]; rfl)
        simp only [Nat.zero_mul, List.drop_zero, Nat.one_mul, Nat.reduceMul] at t0 t1 t2 t3
        exact (twelve_list cl hl).trans (by rw [t0, t1, t2, t3]; rfl)
      · cases hd
  intro i v hv
  have hvr := hvar
  rw [show cs = fmv.toArray from by rw [← hcs]] at hvr
  have := World.var?_cell (show Tryd.prog.globalNamed "moraine/names.numbered" = some 0 by kernel_rfl) hvr i
  rw [this]
  simpa using hv
abbrev laid5 : List (String × DataW Unit) := [("math/bits.deBruijn32tab", Rows.laid_math_bits_deBruijn32tab), ("math/bits.deBruijn64tab", Rows.laid_math_bits_deBruijn64tab), ("internal/strconv.uint64pow10", Rows.laid_internal_strconv_uint64pow10), ("moraine/names.numbered", Rows.laid_moraine_names_numbered), ("moraine/names.letters", Rows.laid_moraine_names_letters)]
theorem tabs_of {W : World} (h : laidMetH Tryd.prog laid5 W) : Lt W ∧ Fm W := by
  rw [MakeChecks.laidMetH_plain _ _ _ (by kernel_rfl)] at h
  obtain ⟨ps, h0, _⟩ := h
  obtain ⟨q1, h1⟩ := laid_tail h0
  obtain ⟨q2, h2⟩ := laid_tail h1
  obtain ⟨q3, h3⟩ := laid_tail h2
  obtain ⟨q4, h4⟩ := laid_tail h3
  exact ⟨letters_of h4, forms_of h3⟩
theorem ne_empty (s : ByteArray) (h0 : s.size ≠ 0) : (s.toList == ([] : List UInt8)) = false := by
  have : s.toList ≠ [] := fun h => by
    have h2 : s = ⟨#[]⟩ := toList_inj (by rw [h, ByteArray.toList_eq])
    rw [h2] at h0
    exact h0 rfl
  simpa using this
theorem size0 (s : ByteArray) (h : s.size = 0) : s = ⟨#[]⟩ := byte_ext (by rw [h]; rfl) (fun j hj => by omega)
set_option maxRecDepth 1000000 in
set_option maxHeartbeats 1000000 in
theorem wide_walk (a b : ByteArray) (ha : a.size ≤ 140737488355328) (hb : b.size ≤ 140737488355328) (w : World) (T : Hid (Lt w)) (F : Hid (Fm w)) :
    Calls Tryd.prog 5 #[.string a, .string b] w fun e w' => e = .returned (.bool true) ∧ Below w.heap.size w w' := by
  have HK := hid (works_any w T F)
  have HA : Hid (∀ W, Calls Tryd.prog 14 #[.string a] W fun e w' => e = .returned (.int .i64 (Lib.runeCount a : Nat)) ∧ Below W.heap.size W w') := fun W => width_any a (by omega) W
  have HB : Hid (∀ W, Calls Tryd.prog 14 #[.string b] W fun e w' => e = .returned (.int .i64 (Lib.runeCount b : Nat)) ∧ Below W.heap.size W w') := fun W => width_any b (by omega) W
  have HC : Hid (∀ W, Calls Tryd.prog 14 #[.string (a ++ b)] W fun e w' => e = .returned (.int .i64 (Lib.runeCount (a ++ b) : Nat)) ∧ Below W.heap.size W w') := fun W => width_any (a ++ b) (by rw [app_size]; omega) W
  have HD : Hid (∀ W, Calls Tryd.prog 14 #[.string ⟨#[97, 98]⟩] W fun e w' => e = .returned (.int .i64 2) ∧ Below W.heap.size W w') := fun W => by
    have h := width_any ⟨#[97, 98]⟩ (by decide) W
    rw [show Lib.runeCount ⟨#[97, 98]⟩ = 2 by decide +kernel] at h
    exact h
  have h1 := Lib.runeCount_le a
  have h2 := Lib.runeCount_le b
  have h3 := wide a b
  have h4 := wide_pos a
  generalize Lib.runeCount a = n at *
  generalize Lib.runeCount b = m at *
  generalize Lib.runeCount (a ++ b) = k at *
  have q1 : (n : Int) ≤ (a.size : Int) := by omega
  have q2 : (m : Int) ≤ (b.size : Int) := by omega
  have q3 : (k : Int) ≤ (n : Int) + (m : Int) := by omega
  by_cases h0 : a.size = 0
  · have hn : ¬ (0 < (n : Int)) := by
      intro h
      exact h4.1 (by omega) h0
    have ha0 := hid (size0 a h0)
    have hz : n = 0 := by omega
    subst hz
    clear h4 h1 h2 h3 h0
    go_enter Tryd.func5, Tryd.ntmps5
    go_wp2_with fail
    refine HK.out.mono ?_
    rintro e w1 ⟨rfl, b1⟩
    have b1h := hid b1
    clear HK b1
    go_wp2_with fail
    refine (HA.out _).mono ?_
    rintro e w2 ⟨rfl, b2⟩
    have b2h := hid (b1h.out.trans (b2.mono b1h.out.size))
    clear HA b2 b1h
    go_wp2_with fail
    refine (HB.out _).mono ?_
    rintro e w3 ⟨rfl, b3⟩
    have b3h := hid (b2h.out.trans (b3.mono b2h.out.size))
    clear HB b3 b2h
    go_wp2_with fail
    refine (HC.out _).mono ?_
    rintro e w4 ⟨rfl, b4⟩
    have b4h := hid (b3h.out.trans (b4.mono b3h.out.size))
    clear HC b4 b3h
    have ha1 := ha0.out
    subst ha1
    go_wp2_with fail
    refine (HD.out _).mono ?_
    rintro e w5 ⟨rfl, b5⟩
    have b5h := hid (b4h.out.trans (b5.mono b4h.out.size))
    clear HD b5 b4h
    go_wp2_with fail
    go_ret
    exact ⟨rfl, b5h.out⟩
  · have hn : 0 < (n : Int) := by have := h4.2 h0; omega
    have hne := ne_empty a h0
    clear h4 h1 h2 h3
    go_enter Tryd.func5, Tryd.ntmps5
    go_wp2_with fail
    refine HK.out.mono ?_
    rintro e w1 ⟨rfl, b1⟩
    have b1h := hid b1
    clear HK b1
    go_wp2_with fail
    refine (HA.out _).mono ?_
    rintro e w2 ⟨rfl, b2⟩
    have b2h := hid (b1h.out.trans (b2.mono b1h.out.size))
    clear HA b2 b1h
    go_wp2_with fail
    refine (HB.out _).mono ?_
    rintro e w3 ⟨rfl, b3⟩
    have b3h := hid (b2h.out.trans (b3.mono b2h.out.size))
    clear HB b3 b2h
    go_wp2_with fail
    refine (HC.out _).mono ?_
    rintro e w4 ⟨rfl, b4⟩
    have b4h := hid (b3h.out.trans (b4.mono b3h.out.size))
    clear HC b4 b3h
    go_wp2_with fail
    refine (HD.out _).mono ?_
    rintro e w5 ⟨rfl, b5⟩
    have b5h := hid (b4h.out.trans (b5.mono b4h.out.size))
    clear HD b5 b4h
    go_wp2_with fail
    go_ret
    exact ⟨rfl, b5h.out⟩
end Go.Proofs.YtcjlgjlediihoabDoor.Rw

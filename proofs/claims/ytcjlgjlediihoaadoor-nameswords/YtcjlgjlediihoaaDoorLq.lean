/- What the listed variable, the letters, gives a walk; and a world in which it lies so. -/
import Derived.Test.YtcjlgjlediihoaaDoorUr
import Derived.LaidMore
import Derived.Lib.LaidTab
import Derived.Stop.Joined
import Derived.Deep.Strs
namespace Go.Proofs.YtcjlgjlediihoaaDoor.Rw
open Go.ChangeShapes Go.WideShapes Go.ChangeAt Go.RowKit
open Go.Proofs.YtcjlgjlediihoaaDoor.Ut
open Go.Proofs.YtcjlgjlediihoaaDoor.By
set_option linter.unusedVariables false
set_option linter.unusedSimpArgs false

theorem ten_list (l : List Value) (h : l.length = 10) : l = l.take 2 ++ (l.drop 2).take 2 ++ (l.drop 4).take 2 ++ (l.drop 6).take 2 ++ (l.drop 8).take 2 := by
  match l, h with
  | [x0, x1, x2, x3, x4, x5, x6, x7, x8, x9], _ => rfl
theorem two_list (l : List Value) (h : l.length = 2) : ∃ x y, l = [x, y] := by
  match l, h with
  | [x, y], _ => exact ⟨x, y, rfl⟩
set_option maxRecDepth 100000 in
theorem pair_of {H : Type} {enc : TypeId × Value → H} {w : World} {base : Nat} {sp : Nat → Bool} {held : Bool} {fuel : Nat} {cs : List Value} {a b : Int} {p : List MemPlace}
    (h : DataW.trod enc Tryd.prog w base sp held fuel 80 cs = some (.agg [.lit (.int .i32 a), .lit (.int .i32 b)], p)) : cs = [.int .i32 a, .int .i32 b] := by
  obtain ⟨xs, n, _, hx, hl, hlen, hf⟩ := DataW.trod_struct Tryd.underlying80 h
  have hc1 : Tryd.prog.cellsOf 21 = 1 := by kernel_rfl
  have hc2 : Tryd.prog.cellsOf 80 = 2 := by kernel_rfl
  match xs, hlen with
  | [y0, y1], _ =>
    have h0 : DataW.trod enc Tryd.prog w base sp held n 21 ((cs.drop 0).take (Tryd.prog.cellsOf 21)) = some y0 := hf 0 _ rfl
    have h1 : DataW.trod enc Tryd.prog w base sp held n 21 ((cs.drop 1).take (Tryd.prog.cellsOf 21)) = some y1 := hf 1 _ rfl
    have hxx := congrArg Prod.fst hx
    simp only [List.map_cons, List.map_nil, DataW.agg.injEq, List.cons.injEq, and_true] at hxx
    obtain ⟨e0, e1⟩ := hxx
    rw [hc1] at h0 h1
    obtain ⟨z0, c0, d0, _⟩ := DataW.trod_int Tryd.underlying21 h0
    obtain ⟨z1, c1, d1, _⟩ := DataW.trod_int Tryd.underlying21 h1
    subst d0
    subst d1
    simp only [DataW.lit.injEq, Lit.int.injEq, true_and] at e0 e1
    subst e0 e1
    rw [hc2] at hl
    obtain ⟨x, y, rfl⟩ := two_list cs hl
    simp at c0 c1
    rw [c0, c1]
set_option maxRecDepth 100000 in
theorem letters_of {W : World} {laid : List (String × DataW Unit)} (h : laidMet Tryd.prog (("moraine/names.letters", Rows.laid_moraine_names_letters) :: laid) W) : Lt W := by
  obtain ⟨ps, ⟨g', t', cs, fuel, p, q, hg', ht', hvar, hd, _, _⟩, _⟩ := h
  obtain rfl := Option.some.inj ((show Tryd.prog.globalNamed "moraine/names.letters" = some 1 by kernel_rfl).symm.trans hg')
  obtain rfl := Option.some.inj ((show (Tryd.prog.globals[1]?).map (·.type) = some 81 by kernel_rfl).symm.trans ht')
  have hce : Tryd.prog.cellsOf 80 = 2 := by kernel_rfl
  have hct : Tryd.prog.cellsOf 81 = 10 := by kernel_rfl
  have hcs : cs.toList = ltv.map fun z => Value.int .i32 z := by
    generalize cs.toList = cl at hd
    cases fuel with
    | zero => simp [DataW.trod] at hd
    | succ fuel =>
      simp only [DataW.trod, Tryd.underlying81, hce, hct] at hd
      split at hd
      · rename_i hl
        obtain ⟨xs, hm, hx⟩ := Option.map_eq_some_iff.1 hd
        have hxs : xs.map (·.1) = [.agg [.lit (.int .i32 10), .lit (.int .i32 110)], .agg [.lit (.int .i32 9), .lit (.int .i32 116)], .agg [.lit (.int .i32 32), .lit (.int .i32 115)], .agg [.lit (.int .i32 34), .lit (.int .i32 34)], .agg [.lit (.int .i32 92), .lit (.int .i32 92)]] := by
          have := congrArg Prod.fst hx
          simpa [Rows.laid_moraine_names_letters] using this
        have two : ∀ (i : Nat) (a b : Int), i < 5 → (xs.map (·.1))[i]? = some (.agg [.lit (.int .i32 a), .lit (.int .i32 b)]) → (cl.drop (i * 2)).take 2 = [.int .i32 a, .int .i32 b] := by
          intro i a b hi hab
          obtain ⟨y, hy, hf⟩ := Lib.mapM_at hm i i (by simp [hi])
          obtain ⟨y1, y2⟩ := y
          rw [List.getElem?_map, hy] at hab
          simp at hab
          subst hab
          exact pair_of hf
        have t0 := two 0 10 110 (by omega) (by rw [hxs]; rfl)
        have t1 := two 1 9 116 (by omega) (by rw [hxs]; rfl)
        have t2 := two 2 32 115 (by omega) (by rw [hxs]; rfl)
        have t3 := two 3 34 34 (by omega) (by rw [hxs]; rfl)
        have t4 := two 4 92 92 (by omega) (by rw [hxs]; rfl)
        simp at t0 t1 t2 t3 t4
        exact (ten_list cl hl).trans (by rw [t0, t1, t2, t3, t4]; rfl)
      · cases hd
  intro i hi
  have hv := hvar
  rw [show cs = (ltv.map fun z => Value.int .i32 z).toArray from by rw [← hcs]] at hv
  have := World.var?_cell (show Tryd.prog.globalNamed "moraine/names.letters" = some 1 by kernel_rfl) hv i
  rw [this]
  have hl : i < ltv.length := by simpa [ltv] using hi
  simp [List.getD, hl]
theorem numbers_any (w : World) : Calls Tryd.prog 8 #[] w fun e w' => e = .returned (.bool true) ∧ w' = w := by
  go_enter Tryd.func8, Tryd.ntmps8
  go_wp2
  go_ret
  exact ⟨rfl, rfl⟩
set_option maxRecDepth 1000000 in
set_option maxHeartbeats 1000000 in
theorem quotes_walk (s q : ByteArray) (hs : s.size ≤ 4294967296) (hq : q.size ≤ 4294967296) (w : World) (T : Hid (Lt w)) :
    Calls Tryd.prog 5 #[.string s, .string q] w fun e w' => e = .returned (.bool true) ∧ Below w.heap.size w w' := by
  have HU := hid (unquote_any q hq w T)
  have HR : Hid (∀ W, Calls Tryd.prog 21 #[.string q] W fun e w' => e = .returned (.tuple #[.string (unq q).1, .int .i64 ((unq q).2.1 : Nat), .int .i64 ((unq q).2.2 : Nat)]) ∧ Below W.heap.size W w') := fun W => runquote_any q hq W
  have HQ : Hid (∀ W, Hid (Lt W) → Calls Tryd.prog 22 #[.string s] W fun e w' => e = .returned (.string (str (qt s))) ∧ Below W.heap.size W w') := fun W TW => quote_any s hs W TW
  have HD : Hid (∀ W, Calls Tryd.prog 23 #[.string s] W fun e w' => e = .returned (.string (str (qt s))) ∧ Below W.heap.size W w') := fun W => rquote_any s hs W
  generalize unq q = U at *
  generalize str (qt s) = Q at *
  obtain ⟨U1, U2, U3⟩ := U
  go_enter Tryd.func5, Tryd.ntmps5
  go_wp2_with fail
  refine HU.out.mono ?_
  rintro e w1 ⟨rfl, b1⟩
  have b1h := hid b1
  clear HU b1
  go_wp2_with fail
  refine (HR.out _).mono ?_
  rintro e w2 ⟨rfl, b2⟩
  have b2h := hid (b1h.out.trans (b2.mono b1h.out.size))
  clear HR b2 b1h
  go_wp2_with fail
  refine (HQ.out _ (T.out.later b2h.out)).mono ?_
  rintro e w3 ⟨rfl, b3⟩
  have b3h := hid (b2h.out.trans (b3.mono b2h.out.size))
  clear HQ b3 b2h
  go_wp2_with fail
  refine (HD.out _).mono ?_
  rintro e w4 ⟨rfl, b4⟩
  have b4h := hid (b3h.out.trans (b4.mono b3h.out.size))
  clear HD b4 b3h
  have t1 : (Q.toList == Q.toList) = true := beq_self_eq_true _
  have t2 : (U1.toList == U1.toList) = true := beq_self_eq_true _
  have t3 : ((U2 : Int) == (U2 : Int)) = true := beq_self_eq_true _
  have t4 : ((U3 : Int) == (U3 : Int)) = true := beq_self_eq_true _
  go_wp2_with fail
  refine (numbers_any _).mono ?_
  rintro e w5 ⟨rfl, rfl⟩
  go_wp2_with fail
  go_ret
  exact ⟨rfl, b4h.out⟩
end Go.Proofs.YtcjlgjlediihoaaDoor.Rw

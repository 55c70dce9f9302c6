/- A set of tombs: New, held, Len, Cover, Add, Tombs. -/
import Derived.Test.YtefihoohdaegeaaRw
import Derived.Test.YtefihoohdaegeaaCv
namespace Go.Proofs.Ytefihoohdaegeaa.Es
open Go.ChangeShapes Go.WideShapes Go.ChangeAt Go.RowKit Go.Shelf
open Go.Proofs.Ytefihoohdaegeaa.Lx
open Go.Proofs.Ytefihoohdaegeaa.Tm
open Go.Proofs.Ytefihoohdaegeaa.Vi
open Go.Proofs.Ytefihoohdaegeaa.Mt
open Go.Proofs.Ytefihoohdaegeaa.Rw
open Go.Proofs.Ytefihoohdaegeaa.Cv
set_option linter.unusedVariables false
set_option linter.unusedSimpArgs false

theorem nil_tbs (w : World) : Tbs w none 0 0 [] := ⟨rfl, Nat.le_refl _, fun _ => ⟨rfl, rfl⟩, fun _ h => by simp at h, fun _ _ _ h => by simp at h⟩
attribute [local go_sem] Oper.semAt_some
set_option maxRecDepth 100000 in
set_option maxHeartbeats 4000000 in
theorem appseq_0 (bl : Nat) (w : World) (hbl : Boxed w bl 26 (.slice none 0 0)) :
    CallsIn Fence.wide 8 Try.prog 98 #[.slice none 0 0, .func (.func 99) #[] #[.pointer (some ⟨bl, 0, none⟩)]] w fun e w' => e = .returned (.slice none 0 0) ∧ Below w.heap.size w w' := by
  refine callsIn_of_wp_marks Try.func98 rfl trivial ?_ rfl
  simp only [Try.ntmps98, List.size_toArray, List.length_cons, List.length_nil, Nat.reduceAdd, Nat.reduceSub, Array.replicate_succ, Array.replicate_zero, List.push_toArray, List.append_toArray, List.nil_append, List.cons_append]
  obtain ⟨n0, hn0⟩ : ∃ n0, n0 = w.heap.size := ⟨_, rfl⟩
  obtain ⟨W4, hW4⟩ : ∃ W, W = w.alloc (.cells #[.slice none 0 0] 26) := ⟨_, rfl⟩
  have s5 : W4.heap.size = n0 + 1 := by rw [hW4, hn0]; simp
  have B4 : Below n0 w W4 := by rw [hW4, hn0]; exact box_below w _
  have hb4 : Boxed W4 bl 26 (.slice none 0 0) := (B4.block bl (by rw [hn0]; exact hbl.lt)).trans hbl
  have ho4 : Boxed W4 n0 26 (.slice none 0 0) := by rw [hW4]; exact new_box hn0 _ _
  have hI0 : (fun (ys : List T) (W : World) => Boxed W n0 26 (.slice none 0 0) ∧ Below n0 w W) [] W4 := ⟨ho4, B4⟩
  replace hW4 := hid hW4
  replace hb4 := hid hb4
  replace ho4 := hid ho4
  replace hI0 := hid hI0
  replace B4 := hid B4
  replace hn0 := hid hn0
  replace hbl := hid hbl
  gi_wp2_with fail
  rw [← hW4.out, ← hn0.out]
  refine range_q (F := Fence.wide) (n := 8) encs rfl (by omega) (gf := 99) (lb := #[.pointer (some ⟨bl, 0, none⟩)]) rfl trivial (enters_of Try.func99 (by kernel_rfl) rfl) (fun _ => rfl)
    (fun ys W => Boxed W n0 26 (.slice none 0 0) ∧ Below n0 w W) (fun _ _ _ => False) (fun pre x => False) (Below n0) (fun ys _ _ => True) (fun _ => True)
    (fun s W o h => ⟨h.1.alloc _, h.2.alloc (by have := h.1.lt; omega) _⟩) (fun s W W' k h g hk hc => ⟨h.1.kept g (by simp; omega), h.2.grown g (by have := h.2.size; have := h.1.lt; omega) (fun q e => by cases e; omega)⟩) (fun _ _ _ _ _ h => h.elim)
    (fun A B hA hb => hb.mono (by omega)) (fun h k => h.trans k)
    (fun W l o o' hl ho hc => belowK_b' (w := W4) (by omega) W l o o' hl ho)
    hI0.out ?seq (fun _ _ _ _ => True) (fun _ _ _ _ _ _ _ _ _ => trivial) ?assign ?body ?done ?stop
  case seq =>
    intro l J Jx W1 hB1 hY h0
    refine (vals_in 7 (by omega) l bl 0 none 0 0 [] J Jx (fun pre x _ _ _ _ h => by simp at h) W1 (fun W' _ => nil_tbs W') ((hB1.block _ hb4.out.lt).trans hb4.out) h0 (by omega) (by omega)).mono ?_
    rintro e W' ⟨hv, (⟨W0, h1, h2⟩ | ⟨pre, h1, h2⟩)⟩
    · exact ⟨hv, .inl ⟨_, W0, h1, h2, trivial⟩⟩
    · exact ⟨hv, .inr ⟨pre, trivial, h2⟩⟩
  case assign =>
    intro l x W K hK
    simp only [encs]
    gi_wp2
    exact hK _ _ (box_below _ _) trivial
  case body =>
    rintro l pre x a' W0 WY W1 W2 hI h0Y h01 hfr
    exact hfr.elim
  case done =>
    rintro D l ys W0 W W' hD hI h0W _ hWW hl hnc hDd
    have o1 : Boxed W' n0 26 (.slice none 0 0) := Boxed.kept (W := W) ((h0W.block _ hI.1.lt).trans hI.1) hWW (by simp; omega)
    have b1 : Below n0 w W' := (hI.2.trans (h0W.mono (by have := hI.1.lt; omega))).grown hWW (by have := hI.1.lt; have := h0W.size; omega) (fun q e => by cases e; omega)
    have c1 := o1.cell
    replace o1 := hid o1
    replace b1 := hid b1
    replace hDd := hid hDd
    clear hI h0W hWW hnc
    gi_wp2_with fail
    refine ⟨by simp, .inl ⟨_, _, rfl, run_takeDeferred hDd.out, ?_⟩⟩
    refine ⟨.slice none 0 0, ?_, rfl, ?_⟩
    · simp [results, Try.results98, go_sem]
    · rw [← hn0.out]; exact b1.out.trans (belowK_b' (w := W4) (by omega) _ D _ _ hD hDd.out)
  case stop =>
    rintro D c pre W hD _ hx hDd
    exact hx.elim
theorem collect_0 (bl : Nat) (w : World) (hbl : Boxed w bl 26 (.slice none 0 0)) :
    Calls Try.prog 78 #[.func (.func 99) #[] #[.pointer (some ⟨bl, 0, none⟩)]] w fun e w' => e = .returned (.slice none 0 0) ∧ Below w.heap.size w w' := by
  have HA := hid (callsIn_wide.1 (appseq_0 bl w hbl))
  go_enter Try.func78, Try.ntmps78
  go_wp2_with fail
  refine HA.out.mono ?_
  rintro e w' ⟨rfl, b⟩
  replace b := hid b
  go_wp2_with fail
  go_ret
  exact ⟨rfl, b.out⟩

/-- A set's block. -/
def Sb (w : World) (g : Nat) (v : Value) : Prop := w.heap[g]? = some (.cells #[.bool true, v] 141)
theorem Sb.lt {w : World} {g : Nat} {v : Value} (h : Sb w g v) : g < w.heap.size := (Array.getElem?_eq_some_iff.1 h).1
theorem Sb.c0 {w : World} {g : Nat} {v : Value} (h : Sb w g v) : w.cell? ⟨g, 0, none⟩ = some (.bool true) := cell_of h 0 _ rfl
theorem Sb.c1 {w : World} {g : Nat} {v : Value} (h : Sb w g v) : w.cell? ⟨g, 1, none⟩ = some v := cell_of h 1 _ rfl
theorem Sb.fz {w : World} {g : Nat} {v : Value} (h : Sb w g v) (o : Nat) : w.frozen? ⟨g, o, none⟩ = false := by
  simp [World.frozen?, show w.heap[g]? = _ from h]
theorem Sb.set {w : World} {g : Nat} {v : Value} (h : Sb w g v) (u : Value) : Sb (w.setCell ⟨g, 1, none⟩ u) g u := by
  unfold Sb at h ⊢
  rw [set_of h]
  rfl
theorem newset_0 (w : World) : Calls Try.prog 47 #[.slice none 0 0] w fun e w' => ∃ g, e = .returned (.pointer (some ⟨g, 0, none⟩)) ∧ w.heap.size ≤ g ∧ Sb w' g (.slice none 0 0) ∧ Below w.heap.size w w' := by
  have HV := hid (valids_any none 0 0 w)
  go_enter Try.func47, Try.ntmps47
  go_wp2_with fail
  refine HV.out.mono ?_
  rintro e w1 ⟨rfl, rfl⟩
  have B1 := box_below w (.cells #[.slice none 0 0] 26)
  have HC := hid (collect_0 w.heap.size _ (Boxed.new w 26 (.slice none 0 0)))
  replace B1 := hid B1
  go_wp2_with fail
  refine HC.out.mono ?_
  rintro e w2 ⟨rfl, b2⟩
  have B2 := hid (B1.out.trans (b2.mono B1.out.size))
  have FIN : Hid (∃ g, Ending.returned (.pointer (some ⟨w2.heap.size, 0, none⟩)) = .returned (.pointer (some ⟨g, 0, none⟩)) ∧ w.heap.size ≤ g ∧ Sb (w2.alloc (.cells #[.bool true, .slice none 0 0] 141)) g (.slice none 0 0) ∧ Below w.heap.size w (w2.alloc (.cells #[.bool true, .slice none 0 0] 141))) :=
    ⟨w2.heap.size, rfl, B2.out.size, new_at _ _, B2.out.alloc B2.out.size _⟩
  go_wp2_with fail
  go_ret
  exact FIN.out
theorem held_any (g : Nat) (v : Value) (w : World) (H : Sb w g v) (hv : ∃ a n c, v = .slice a n c) : Calls Try.prog 92 #[.pointer (some ⟨g, 0, none⟩)] w fun e w' => e = .returned v ∧ w' = w := by
  have c1 := H.c1
  obtain ⟨a, n, c, rfl⟩ := hv
  go_enter Try.func92, Try.ntmps92
  go_wp2
  go_ret
  exact ⟨rfl, rfl⟩
theorem setlen_any (g : Nat) (a : Option Addr) (n c : Nat) (w : World) (H : Sb w g (.slice a n c)) : Calls Try.prog 70 #[.pointer (some ⟨g, 0, none⟩)] w fun e w' => e = .returned (.int .i64 (n : Int)) ∧ w' = w := by
  have HH := hid (held_any g _ w H ⟨_, _, _, rfl⟩)
  go_enter Try.func70, Try.ntmps70
  go_wp2_with fail
  refine HH.out.mono ?_
  rintro e w1 ⟨rfl, rfl⟩
  go_wp2_with fail
  go_ret
  exact ⟨rfl, rfl⟩
theorem setcover_any (g : Nat) (a : Option Addr) (n c : Nat) (xs : List T) (k : ByteArray) (q : Int) (w : World) (H : Sb w g (.slice a n c)) (HT : Tbs w a n c xs) (hlen : n ≤ 140737488355328) :
    Calls Try.prog 87 #[.pointer (some ⟨g, 0, none⟩), .string k, .int .u64 q] w fun e w' => e = .returned (.tuple #[.int .u64 (cov xs k q).1, .bool (cov xs k q).2]) ∧ Below w.heap.size w w' := by
  have HH := hid (held_any g _ w H ⟨_, _, _, rfl⟩)
  have HC := hid (cover_any a n c xs k q w HT hlen)
  generalize (cov xs k q).1 = G at *
  generalize (cov xs k q).2 = F at *
  go_enter Try.func87, Try.ntmps87
  go_wp2_with fail
  refine HH.out.mono ?_
  rintro e w1 ⟨rfl, rfl⟩
  go_wp2_with fail
  refine HC.out.mono ?_
  rintro e w2 ⟨rfl, b2⟩
  replace b2 := hid b2
  go_wp2_with fail
  go_ret2
  exact ⟨rfl, b2.out⟩
end Go.Proofs.Ytefihoohdaegeaa.Es

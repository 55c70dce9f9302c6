/- Cover of the program. -/
import Derived.Test.YtefihoohdaegeaaMt
namespace Go.Proofs.Ytefihoohdaegeaa.Cv
open Go.ChangeShapes Go.WideShapes Go.ChangeAt Go.RowKit Go.Shelf
open Go.Proofs.Ytefihoohdaegeaa.Lx
open Go.Proofs.Ytefihoohdaegeaa.Tm
open Go.Proofs.Ytefihoohdaegeaa.Vi
open Go.Proofs.Ytefihoohdaegeaa.Mt
set_option linter.unusedVariables false
set_option linter.unusedSimpArgs false
attribute [local go_sem] Oper.semAt_some leq_s gtr_s geq_s

/-- It covers the key, with a number that is not above. -/
def hit (k : ByteArray) (q : Int) (x : T) : Bool := !(lt k x.b) && lt k x.e && decide (x.s ≤ q)
def stp (k : ByteArray) (q : Int) (r : Int × Bool) (x : T) : Int × Bool := if hit k q x = true then (if x.s > r.1 then x.s else r.1, true) else r
def cvl (k : ByteArray) (q : Int) (xs : List T) : Int × Bool := xs.foldl (stp k q) (0, false)
/-- What Cover tells. -/
def cov (xs : List T) (k : ByteArray) (q : Int) : Int × Bool := cvl k q (xs.filter vd)
theorem cvl_snoc (k : ByteArray) (q : Int) (xs : List T) (x : T) : cvl k q (xs ++ [x]) = stp k q (cvl k q xs) x := by
  unfold cvl; rw [List.foldl_append]; rfl
/-- What the loop of Cover holds. -/
structure Cl (n0 : Nat) (k : ByteArray) (q : Int) (w : World) (ys : List T) (W : World) : Prop where
  fk : Boxed W n0 9 (.string k)
  fq : Boxed W (n0 + 1) 27 (.int .u64 q)
  fg : Boxed W (n0 + 2) 27 (.int .u64 (cvl k q ys).1)
  ff : Boxed W (n0 + 3) 4 (.bool (cvl k q ys).2)
  b : Below n0 w W
  z : n0 + 5 ≤ W.heap.size
theorem Cl.kept {n0 : Nat} {k : ByteArray} {q : Int} {w : World} {ys : List T} {W W' : World} {row : Option Nat} (h : Cl n0 k q w ys W) (K : W.grownBy W' row) (hr : ∀ k, row = some k → n0 + 5 ≤ k) : Cl n0 k q w ys W' := by
  have ne : ∀ j, j < n0 + 5 → some j ≠ row := fun j hj e => by have := hr j e.symm; omega
  exact ⟨h.fk.kept K (ne _ (by omega)), h.fq.kept K (ne _ (by omega)), h.fg.kept K (ne _ (by omega)), h.ff.kept K (ne _ (by omega)), h.b.grown K (by have := h.z; omega) (fun k e => by have := hr k e; omega), Nat.le_trans h.z K.size⟩
theorem Cl.later {n0 : Nat} {k : ByteArray} {q : Int} {w : World} {ys : List T} {W W' : World} (h : Cl n0 k q w ys W) (K : Below W.heap.size W W') : Cl n0 k q w ys W' := h.kept (row := none) (grown_of K) (fun _ e => by cases e)
/-- A tomb more that covers. -/
theorem Cl.more {n0 : Nat} {k : ByteArray} {q : Int} {w : World} {ys : List T} {W : World} (h : Cl n0 k q w ys W) (x : T) (hx : hit k q x = true) :
    Cl n0 k q w (ys ++ [x]) ((W.setCell ⟨n0 + 2, 0, none⟩ (.int .u64 (if x.s > (cvl k q ys).1 then x.s else (cvl k q ys).1))).setCell ⟨n0 + 3, 0, none⟩ (.bool true)) ∧ KeepsOthers W ((W.setCell ⟨n0 + 2, 0, none⟩ (.int .u64 (if x.s > (cvl k q ys).1 then x.s else (cvl k q ys).1))).setCell ⟨n0 + 3, 0, none⟩ (.bool true)) ∧ Below n0 W ((W.setCell ⟨n0 + 2, 0, none⟩ (.int .u64 (if x.s > (cvl k q ys).1 then x.s else (cvl k q ys).1))).setCell ⟨n0 + 3, 0, none⟩ (.bool true)) := by
  have e : cvl k q (ys ++ [x]) = (if x.s > (cvl k q ys).1 then x.s else (cvl k q ys).1, true) := by rw [cvl_snoc]; unfold stp; rw [if_pos hx]
  have B : Below n0 W ((W.setCell ⟨n0 + 2, 0, none⟩ (.int .u64 (if x.s > (cvl k q ys).1 then x.s else (cvl k q ys).1))).setCell ⟨n0 + 3, 0, none⟩ (.bool true)) := ((Below.refl n0 W).setCell (p := ⟨n0 + 2, 0, none⟩) (by simp) _).setCell (p := ⟨n0 + 3, 0, none⟩) (by simp) _
  refine ⟨⟨(set_ne _ _ _ _ _ (by omega)).trans ((set_ne _ _ _ _ _ (by omega)).trans h.fk), (set_ne _ _ _ _ _ (by omega)).trans ((set_ne _ _ _ _ _ (by omega)).trans h.fq), ?_, ?_, h.b.trans B, by have := h.z; simp; omega⟩, (KeepsOthers.setCell _ _ _).trans (KeepsOthers.setCell _ _ _), B⟩
  · rw [e]; exact (set_ne _ _ _ _ _ (by omega)).trans (h.fg.set _)
  · rw [e]; exact Boxed.set (v := .bool (cvl k q ys).2) _ ((set_ne _ _ _ _ _ (by omega)).trans h.ff)
theorem Cl.skip {n0 : Nat} {k : ByteArray} {q : Int} {w : World} {ys : List T} {W : World} (h : Cl n0 k q w ys W) (x : T) (hx : hit k q x = false) : Cl n0 k q w (ys ++ [x]) W := by
  have e : cvl k q (ys ++ [x]) = cvl k q ys := by rw [cvl_snoc]; unfold stp; rw [if_neg (by rw [hx]; simp)]
  exact ⟨h.fk, h.fq, by rw [e]; exact h.fg, by rw [e]; exact h.ff, h.b, h.z⟩
set_option maxRecDepth 100000 in
set_option maxHeartbeats 4000000 in
theorem cover_in (a : Option Addr) (len cap : Nat) (xs : List T) (k : ByteArray) (q : Int) (w : World) (H : Tbs w a len cap xs) (hlen : len ≤ 140737488355328) (G : Int) (Fd : Bool) (hE : cvl k q (xs.filter vd) = (G, Fd)) :
    CallsIn Fence.wide 8 Try.prog 106 #[.slice a len cap, .string k, .int .u64 q] w fun e w' => e = .returned (.tuple #[.int .u64 G, .bool Fd]) ∧ Below w.heap.size w w' := by
  replace hE := hid hE
  refine callsIn_of_wp_marks Try.func106 rfl trivial ?_ rfl
  simp only [Try.ntmps106, List.size_toArray, List.length_cons, List.length_nil, Nat.reduceAdd, Nat.reduceSub, Array.replicate_succ, Array.replicate_zero, List.push_toArray, List.append_toArray, List.nil_append, List.cons_append]
  obtain ⟨n0, hn0⟩ : ∃ n0, n0 = w.heap.size := ⟨_, rfl⟩
  obtain ⟨W4, hW4⟩ : ∃ W, W = ((((w.alloc (.cells #[.string k] 9)).alloc (.cells #[.int .u64 q] 27)).alloc (.cells #[.int .u64 0] 27)).alloc (.cells #[.bool false] 4)).alloc (.cells #[.slice a len cap] 26) := ⟨_, rfl⟩
  have s5 : W4.heap.size = n0 + 5 := by rw [hW4, hn0]; simp
  have B4 : Below n0 w W4 := by rw [hW4, hn0]; exact ((((box_below w _).alloc (by simp) _).alloc (by simp; omega) _).alloc (by simp; omega) _).alloc (by simp; omega) _
  have hbl : Boxed W4 (n0 + 4) 26 (.slice a len cap) := by
    rw [hW4, hn0]
    have := Boxed.new ((((w.alloc (.cells #[.string k] 9)).alloc (.cells #[.int .u64 q] 27)).alloc (.cells #[.int .u64 0] 27)).alloc (.cells #[.bool false] 4)) 26 (.slice a len cap)
    simpa using this
  have hC0 : Cl n0 k q w [] W4 := by
    refine ⟨?_, ?_, ?_, ?_, B4, by omega⟩
    · rw [hW4]; exact ((((new_box hn0 _ _).alloc _).alloc _).alloc _).alloc _
    · rw [hW4]; exact (((new_box (by simp; omega) _ _).alloc _).alloc _).alloc _
    · rw [hW4]; exact ((new_box (by simp; omega) _ _).alloc _).alloc _
    · rw [hW4]; exact (new_box (by simp; omega) _ _).alloc _
  have hS : Hid (∀ W', Below n0 w W' → Tbs W' a len cap xs) := fun W' h' => H.later (by rw [← hn0]; exact h')
  replace H := hid H
  replace hW4 := hid hW4
  replace hC0 := hid hC0
  replace hbl := hid hbl
  replace B4 := hid B4
  replace hn0 := hid hn0
  gi_wp2_with fail
  refine ⟨trivial, (callsIn_wide.2 (valids_any a len cap _)).mono ?_⟩
  rintro e w' ⟨rfl, rfl⟩
  gi_wp2_with fail
  rw [← hW4.out, ← hn0.out]
  refine range_q (F := Fence.wide) (n := 8) encs rfl (by omega) (gf := 99) (lb := #[.pointer (some ⟨n0 + 4, 0, none⟩)]) rfl trivial (enters_of Try.func99 (by kernel_rfl) rfl) (fun _ => rfl)
    (fun ys W => Cl n0 k q w ys W) (fun _ _ _ => False) (fun pre x => pre ++ [x] <+: xs.filter vd) (Below n0) (fun ys _ _ => ys = xs.filter vd) (fun _ => True)
    (fun s W o h => h.later (box_below W o)) (fun s W W' k h g hk hc => h.kept g (fun q e => by cases e; omega)) (fun _ _ _ _ _ h => h.elim)
    (fun A B hA hb => hb.mono (by omega)) (fun h k => h.trans k)
    (fun W l o o' hl ho hc => belowK_b' (w := W4) (by omega) W l o o' hl ho)
    hC0.out ?seq
    (fun Y x a' W => ∃ Bo, Bt W Bo x ∧ a' = { tmps := #[.slice a len cap, .string k, .int .u64 q, undef, .pointer (some ⟨n0, 0, none⟩), .pointer (some ⟨n0 + 1, 0, none⟩), .int .u64 0, .bool false, .pointer (some ⟨n0 + 2, 0, none⟩), .pointer (some ⟨n0 + 3, 0, none⟩), .pointer (some ⟨Bo, 0, none⟩), .slice a len cap, .func (.func 99) #[] #[.pointer (some ⟨n0 + 4, 0, none⟩)], .agg #[.string x.b, .string x.e, .int .u64 x.s], undef, undef, undef, undef, undef, undef, undef, undef, undef, undef, undef, undef, undef, undef, undef, undef, undef, undef, undef, undef, undef, undef], defers := [] })
    ?hAx ?assign ?body ?done ?stop
  case seq =>
    intro l J Jx W1 hB1 hY h0
    have hB1' : Below n0 w W1 := B4.out.trans (hB1.mono (by omega))
    refine (vals_in 7 (by omega) l (n0 + 4) n0 a len cap xs J Jx hY W1 (fun W' h' => hS.out W' (hB1'.trans h')) ((hB1.block _ hbl.out.lt).trans hbl.out) h0 (by have := hB1.size; omega) hlen).mono ?_
    rintro e W' ⟨hv, (⟨W0, h1, h2⟩ | ⟨pre, h1, h2⟩)⟩
    · exact ⟨hv, .inl ⟨_, W0, h1, h2, rfl⟩⟩
    · exact ⟨hv, .inr ⟨pre, trivial, h2⟩⟩
  case hAx =>
    rintro Y x a' W W' j ⟨Bo, h1, h2⟩ hg hc
    refine ⟨Bo, h1.kept hg (fun e => ?_), h2⟩
    cases e
    exact hc _ _ _ h1
  case assign =>
    intro l x W K hK
    simp only [encs]
    gi_wp2
    exact hK _ _ (box_below _ _) ⟨W.heap.size, new_at _ _, rfl⟩
  case body =>
    rintro l pre ⟨xb, xe, x3⟩ a' W0 WY W1 W2 hI h0Y h01 hfr h12 hl hlo hnc ⟨Bo, hBo, rfl⟩
    have hC2 : Cl n0 k q w pre W2 := (hI.later h01).kept h12 (fun j e => by cases e; omega)
    have y0 := hBo.c0
    have y1 := hBo.c1
    have y2 := hBo.c2
    dsimp only at y0 y1 y2
    have c0 := hC2.fk.cell
    have c1 := hC2.fq.cell
    have c2 := hC2.fg.cell
    have f2 := hC2.fg.frozen
    have c3 := hC2.ff.cell
    have f3 := hC2.ff.frozen
    cases hh : hit k q ⟨xb, xe, x3⟩ with
    | true =>
      obtain ⟨hC3, hk3, hb3⟩ := hC2.more _ hh
      have hh' := hh
      unfold hit lt at hh'
      rw [Bool.and_eq_true, Bool.and_eq_true, Bool.not_eq_true', decide_eq_true_eq] at hh'
      obtain ⟨⟨t1, t2⟩, t3⟩ := hh'
      dsimp only at t1 t2 t3 hC3 hk3 hb3
      generalize (cvl k q pre).1 = G' at *
      generalize (cvl k q pre).2 = Fd' at *
      replace hC3 := hid hC3
      replace hk3 := hid hk3
      replace hb3 := hid hb3
      replace hI := hid hI
      replace hC2 := hid hC2
      by_cases hg : x3 > G'
      · rw [if_pos hg] at hC3 hk3 hb3
        gi_wp2_with fail
        exact ⟨hk3.out.from _, hb3.out, hC3.out⟩
      · rw [if_neg hg] at hC3 hk3 hb3
        gi_wp2_with fail
        exact ⟨hk3.out.from _, hb3.out, hC3.out⟩
    | false =>
      have hC3 := hid (hC2.skip _ hh)
      have hh' := hh
      unfold hit lt at hh'
      generalize (cvl k q pre).1 = G' at *
      generalize (cvl k q pre).2 = Fd' at *
      replace hI := hid hI
      replace hC2 := hid hC2
      by_cases t1 : Op.bytesLess k.toList xb.toList = true
      · clear hh hh'
        gi_wp2_with fail
        exact ⟨KeepsFrom.refl _ _, Below.refl _ _, hC3.out⟩
      · rw [Bool.not_eq_true] at t1
        by_cases t2 : Op.bytesLess k.toList xe.toList = true
        · rw [t1, t2] at hh'
          have t3 : ¬ x3 ≤ q := by simpa using hh'
          clear hh hh'
          gi_wp2_with fail
          exact ⟨KeepsFrom.refl _ _, Below.refl _ _, hC3.out⟩
        · rw [Bool.not_eq_true] at t2
          clear hh hh'
          gi_wp2_with fail
          exact ⟨KeepsFrom.refl _ _, Below.refl _ _, hC3.out⟩
  case done =>
    rintro D l ys W0 W W' hD hI h0W rfl hWW hl hnc hDd
    have hC : Cl n0 k q w (xs.filter vd) W' := (hI.later h0W).kept hWW (fun j e => by cases e; omega)
    have c2 := hC.fg.cell
    have c3 := hC.ff.cell
    have hDW : (W'.drew).heap[D]? = some (.deferred (some [])) := hDd
    have hb3 : Below n0 w W'.drew := hC.b.drew
    rw [hE.out] at c2 c3
    dsimp only at c2 c3
    replace hb3 := hid hb3
    replace hDW := hid hDW
    clear hC hI h0W hWW hnc hDd
    gi_wp2_with fail
    gi_region
    gi_wp2_with fail
    refine ⟨by simp, .inl ⟨_, _, rfl, run_takeDeferred hDW.out, ?_⟩⟩
    refine ⟨.tuple #[.int .u64 G, .bool Fd], ?_, rfl, ?_⟩
    · simp [results, Try.results106, go_sem]
    · rw [← hn0.out]; exact hb3.out.trans (belowK_b' (w := W4) (by omega) _ D _ _ hD hDW.out)
  case stop =>
    rintro D c pre W hD _ hx hDd
    exact hx.elim
theorem cover_any (a : Option Addr) (len cap : Nat) (xs : List T) (k : ByteArray) (q : Int) (w : World) (H : Tbs w a len cap xs) (hlen : len ≤ 140737488355328) :
    Calls Try.prog 106 #[.slice a len cap, .string k, .int .u64 q] w fun e w' => e = .returned (.tuple #[.int .u64 (cov xs k q).1, .bool (cov xs k q).2]) ∧ Below w.heap.size w w' :=
  callsIn_wide.1 (cover_in a len cap xs k q w H hlen _ _ rfl)
end Go.Proofs.Ytefihoohdaegeaa.Cv

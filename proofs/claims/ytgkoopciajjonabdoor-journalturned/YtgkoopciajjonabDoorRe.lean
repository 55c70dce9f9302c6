/- Read of the program. -/
import Derived.Test.YtgkoopciajjonabDoorRl
namespace Go.Proofs.YtgkoopciajjonabDoor.Re
open Go.ChangeShapes Go.WideShapes Go.ChangeAt Go.RowKit Go.Shelf
open Go.Proofs.YtgkoopciajjonabDoor.Crc
open Go.Proofs.YtgkoopciajjonabDoor.Jm
open Go.Proofs.YtgkoopciajjonabDoor.Jn
open Go.Proofs.YtgkoopciajjonabDoor.Ck
open Go.Proofs.YtgkoopciajjonabDoor.Wt
open Go.Proofs.YtgkoopciajjonabDoor.Wa (grown_of)
open Go.Proofs.YtgkoopciajjonabDoor.Pt
open Go.Proofs.YtgkoopciajjonabDoor.Rc
open Go.Proofs.YtgkoopciajjonabDoor.Rr
open Go.Proofs.YtgkoopciajjonabDoor.Rl
set_option linter.unusedVariables false
set_option linter.unusedSimpArgs false
attribute [local go_sem] Oper.semAt_some

/-- The place behind the last record. -/
def lst (l : List (Nat × List Int)) : Nat := (l.getLast?.map Prod.fst).getD 0
theorem lst_append (l : List (Nat × List Int)) (x : Nat × List Int) : lst (l ++ [x]) = x.1 := by simp [lst]
theorem row_kept2 {w w' : World} {base e size : Nat} {v : Value} {n : Nat} {xs : List Value} {row : Option Nat} (h : w.ownsRow base e size v n xs) (g : w.grownBy w' row) (hne : ∀ k, row = some k → ∀ c f, w.heap[k]? ≠ some (.cells c e f)) : w'.ownsRow base e size v n xs := by
  by_cases hv : v.ownBlock = none
  · exact World.ownsRow.kept h g (.inl hv)
  · refine World.ownsRow.kept h g (.inr ?_)
    intro hr
    cases hb : v.ownBlock with
    | none => exact hv hb
    | some k =>
      obtain ⟨c', f', h3⟩ := row_blk h k hb
      exact hne k (by rw [← hr, hb]) _ _ h3
theorem belowK_b' {n₀ : Nat} {w : World} (hn : n₀ ≤ w.heap.size) (W : World) (l : Nat) (o o' : Obj) (hl : w.heap.size ≤ l) (h : W.heap[l]? = some o) : Below n₀ W (W.putObj l o') :=
  (Below.refl n₀ W).grown (grownBy_putObj' W l o') (by have := (Array.getElem?_eq_some_iff.1 h).1; omega) (fun k e => by cases e; omega)
/-- What Read has collected. -/
def Col (n0 b : Nat) (a : Option Addr) (len cap : Nat) (w : World) (ys : List (Nat × Sl)) (W : World) : Prop :=
  (∃ v, Boxed W n0 22 v ∧ OwnR W n0 v (ys.map Prod.snd)) ∧ Boxed W (n0 + 1) 3 (.int .i64 ((lst (ys.map pr) : Nat) : Int)) ∧ (∀ x ∈ ys, Wt.Own W n0 x.2.v x.2.zs) ∧ Rg W (n0 + 2) b a len cap 0 ∧ Below n0 w W
theorem Col.kept {n0 b : Nat} {a : Option Addr} {len cap : Nat} {w : World} {ys : List (Nat × Sl)} {W W' : World} {k : Nat} (h : Col n0 b a len cap w ys W) (g : W.grownBy W' (some k)) (hk : n0 + 2 < k) (hs : n0 ≤ W.heap.size) (hc : ∀ c t f, W.heap[k]? = some (.cells c t f) → t ≠ 5 ∧ t ≠ 26) : Col n0 b a len cap w ys W' := by
  obtain ⟨⟨v, h1, h2⟩, h3, h4, h5, h6⟩ := h
  refine ⟨⟨v, h1.kept g (by simp; omega), row_kept2 h2 g (fun k' e c f hh => by cases e; exact (hc _ _ _ hh).2 rfl)⟩, h3.kept g (by simp; omega), fun x hx => row_kept2 (h4 x hx) g (fun k' e c f hh => by cases e; exact (hc _ _ _ hh).1 rfl), ?_, h6.grown g hs (fun j hj => by cases hj; omega)⟩
  exact (g.block _ h5.lt (by simp; omega)).trans h5
theorem Col.later {n0 b : Nat} {a : Option Addr} {len cap : Nat} {w : World} {ys : List (Nat × Sl)} {W W' : World} (h : Col n0 b a len cap w ys W) (g : Below W.heap.size W W') (hs : n0 ≤ W.heap.size) : Col n0 b a len cap w ys W' := by
  obtain ⟨⟨v, h1, h2⟩, h3, h4, h5, h6⟩ := h
  exact ⟨⟨v, (g.block _ h1.lt).trans h1, row_later h2 g⟩, (g.block _ h3.lt).trans h3, fun x hx => row_later (h4 x hx) g, h5.later g, h6.trans (g.mono hs)⟩
theorem Col.read {n0 b : Nat} {a : Option Addr} {len cap : Nat} {w : World} {ys : List (Nat × Sl)} {W W' : World} (h : Col n0 b a len cap w ys W) (g : W.grownBy W' (some (n0 + 2))) (hs : n0 ≤ W.heap.size) (how : Nat) (hr : Rg W' (n0 + 2) b a len cap how) :
    (∃ v, Boxed W' n0 22 v ∧ OwnR W' n0 v (ys.map Prod.snd)) ∧ Boxed W' (n0 + 1) 3 (.int .i64 ((lst (ys.map pr) : Nat) : Int)) ∧ (∀ x ∈ ys, Wt.Own W' n0 x.2.v x.2.zs) ∧ Below n0 w W' := by
  obtain ⟨⟨v, h1, h2⟩, h3, h4, h5, h6⟩ := h
  exact ⟨⟨v, h1.kept g (by simp), row_kept2 h2 g (fun k' e c f hh => by cases e; rw [show W.heap[n0 + 2]? = _ from h5] at hh; simp at hh)⟩, h3.kept g (by simp), fun x hx => row_kept2 (h4 x hx) g (fun k' e c f hh => by cases e; rw [show W.heap[n0 + 2]? = _ from h5] at hh; simp at hh), h6.grown g hs (fun j hj => by cases hj; omega)⟩
theorem own_base {w : World} {base base' e size : Nat} {v : Value} {n : Nat} {xs : List Value} (h : w.ownsRow base e size v n xs) (hb : base' ≤ base) : w.ownsRow base' e size v n xs := by
  refine ⟨h.1, ?_⟩
  rcases h.2 with h | ⟨g, c, cur, h1, h2, h3⟩
  · exact .inl h
  · exact .inr ⟨g, c, cur, h1, Nat.le_trans hb h2, h3⟩
/-- One record more. -/
theorem Col.more {n0 b : Nat} {a : Option Addr} {len cap : Nat} {w : World} {ys : List (Nat × Sl)} {W : World} (h : Col n0 b a len cap w ys W) (x : Nat × Sl) (hx : Wt.Own W n0 x.2.v x.2.zs) (hs : n0 ≤ W.heap.size) (hn : (ys.length + 1) * 24 ≤ 140737488355328) :
    ∃ v av nv cv w1, ∃ v' : Value, v' = .slice av nv cv ∧ Boxed W n0 22 v ∧ (Builtin.append_ #[22, 22] 22 #[v, .slice (some ⟨W.heap.size, 0, none⟩) 1 1]).run Tryd.prog (W.alloc (.cells #[x.2.v] 26)) = .ok v' w1 ∧ Boxed w1 n0 22 v ∧ Boxed (w1.setCell ⟨n0, 0, none⟩ v') (n0 + 1) 3 (.int .i64 ((lst (ys.map pr) : Nat) : Int)) ∧
      KeepsOthers W ((w1.setCell ⟨n0, 0, none⟩ v').setCell ⟨n0 + 1, 0, none⟩ (.int .i64 (x.1 : Int))) ∧ Rr.Kp n0 (n0 + 2) W ((w1.setCell ⟨n0, 0, none⟩ v').setCell ⟨n0 + 1, 0, none⟩ (.int .i64 (x.1 : Int))) ∧ Col n0 b a len cap w (ys ++ [x]) ((w1.setCell ⟨n0, 0, none⟩ v').setCell ⟨n0 + 1, 0, none⟩ (.int .i64 (x.1 : Int))) := by
  obtain ⟨⟨v, h1, h2⟩, h3, h4, h5, h6⟩ := h
  obtain ⟨v', w1, r, h2', g, h2a⟩ := app_rec W n0 v (ys.map Prod.snd) x.2 h2 (by simpa using hn) hs
  obtain ⟨k1, k2, k3, k4, k5⟩ := h1.appended (by decide) h2 hs (Nat.le_refl _) h2' g
  have e5 : Boxed w1 (n0 + 1) 3 (.int .i64 ((lst (ys.map pr) : Nat) : Int)) := (h3.alloc _).kept g (fun e => by
    obtain ⟨c, f, hh⟩ := row_blk h2a _ e.symm
    rw [show (W.alloc _).heap[n0 + 1]? = _ from h3.alloc _] at hh
    simp at hh)
  have e5' := e5.other (B' := n0) (by omega) v'
  have eg : Rg w1 (n0 + 2) b a len cap 0 := (g.block _ (h5.later (box_below _ _)).lt (fun e => by
    obtain ⟨c, f, hh⟩ := row_blk h2a _ e.symm
    rw [show (W.alloc _).heap[n0 + 2]? = _ from h5.later (box_below _ _)] at hh
    simp at hh)).trans (h5.later (box_below _ _))
  have eg2 : Rg ((w1.setCell ⟨n0, 0, none⟩ v').setCell ⟨n0 + 1, 0, none⟩ (.int .i64 (x.1 : Int))) (n0 + 2) b a len cap 0 := by
    show _ = _
    rw [set_ne _ _ _ _ _ (by omega), set_ne _ _ _ _ _ (by omega)]
    exact eg
  have G2 : ∀ {s : List Value} {u : Value} {m : Nat}, w1.ownsRow n0 5 1 u m s → ((w1.setCell ⟨n0, 0, none⟩ v').setCell ⟨n0 + 1, 0, none⟩ (.int .i64 (x.1 : Int))).ownsRow n0 5 1 u m s := fun hu => by
    have a1 := row_kept2 hu (grown_set w1 n0 0 v') (fun k e c f hh => by cases e; rw [show w1.heap[n0]? = _ from k1] at hh; simp at hh)
    exact row_kept2 a1 (grown_set _ (n0 + 1) 0 _) (fun k e c f hh => by cases e; rw [show (w1.setCell _ _).heap[n0 + 1]? = _ from e5'] at hh; simp at hh)
  have A1 : ∀ {s : List Value} {u : Value} {m : Nat}, W.ownsRow n0 5 1 u m s → w1.ownsRow n0 5 1 u m s := fun hu => row_kept (row_later hu (box_below _ _)) g (row_other h2a 5 (by decide))
  obtain ⟨av, cv, hvv, _⟩ := row_shape h2'
  refine ⟨v, av, _, cv, w1, v', hvv, h1, r, k1, e5', k4.trans (KeepsOthers.setCell _ _ _), ⟨k5.setCell (p := ⟨n0 + 1, 0, none⟩) (by show n0 ≤ n0 + 1; omega) _, by rw [show W.heap[n0 + 2]? = _ from h5]; exact eg2⟩, ⟨v', k2.other (by omega) _, ?_⟩, ?_, ?_, eg2, h6.trans (k5.setCell (p := ⟨n0 + 1, 0, none⟩) (by show n0 ≤ n0 + 1; omega) _)⟩
  · rw [List.map_append]
    exact row_kept2 k3 (grown_set _ (n0 + 1) 0 _) (fun k e c f hh => by cases e; rw [show (w1.setCell _ _).heap[n0 + 1]? = _ from e5'] at hh; simp at hh)
  · rw [List.map_append, show [x].map pr = [pr x] from rfl, lst_append]
    exact e5'.set _
  · intro y hy
    rcases List.mem_append.1 hy with hy | hy
    · exact G2 (A1 (h4 y hy))
    · simp at hy; subst hy; exact G2 (A1 hx)
set_option maxRecDepth 100000 in
set_option maxHeartbeats 1000000 in
theorem read_in (b : Nat) (a : Option Addr) (len cap : Nat) (f : List Int) (out : List (Nat × List Int)) (how : Nat) (w : World) (T : Hid (Tab w)) (H : Bytes w a len cap f) (hb : 32 ≤ b ∧ b ≤ 32768) (hcap : cap ≤ 9223372036854775807) (hlen : len ≤ 140737488355328) (hR : Rd b f 0 [] false out how) (hout : (out.length + 1) * 24 ≤ 140737488355328) :
    CallsIn Fence.wide 8 Tryd.prog 6 #[.int .i64 b, .slice a len cap] w fun e w' => ∃ (v : Value) (ys : List (Nat × Sl)), e = .returned (.tuple #[v, .int .i64 ((lst out : Nat) : Int), .int .i64 (how : Int), .int .i64 0]) ∧ OwnR w' w.heap.size v (ys.map Prod.snd) ∧ ys.map pr = out ∧ (∀ x ∈ ys, Wt.Own w' w.heap.size x.2.v x.2.zs) ∧ Below w.heap.size w w' := by
  have HI : ∀ W, Calls Tryd.prog 10 #[.int .i64 (b : Int)] W fun e w' => e = .returned (.bool true) ∧ w' = W := fun W => by
    have := isblock_any (b : Int) W
    rwa [show (decide (32 ≤ (b : Int)) && decide ((b : Int) ≤ 32768)) = true by simp; omega] at this
  replace HI := hid HI
  replace H := hid H
  replace hR := hid hR
  have hmf : ∀ (fn : Fn) (first cap : Array Value) (w : World), (Instr.makeFunc fn first cap).run Tryd.prog w = .ok (.func fn first cap) w := fun _ _ _ _ => rfl
  refine callsIn_of_wp_marks Tryd.func6 rfl trivial ?_ rfl
  simp only [Tryd.ntmps6, List.size_toArray, List.length_cons, List.length_nil, Nat.reduceAdd, Nat.reduceSub, Array.replicate_succ, Array.replicate_zero, List.push_toArray, List.append_toArray, List.nil_append, List.cons_append]
  gi_wp2_with fail
  refine ⟨trivial, (callsIn_wide.2 (HI.out _)).mono ?_⟩
  rintro e w1 ⟨rfl, rfl⟩
  gi_wp2_with fail
  have x4 : Boxed (((w.alloc (.cells #[.slice none 0 0] 22)).alloc (.cells #[.int .i64 0] 3)).alloc (.cells #[.int .i64 (b : Int), .slice a len cap, .int .i64 0] 41)) w.heap.size 22 (.slice none 0 0) := ((Boxed.new w _ _).alloc _).alloc _
  have x5 : Boxed (((w.alloc (.cells #[.slice none 0 0] 22)).alloc (.cells #[.int .i64 0] 3)).alloc (.cells #[.int .i64 (b : Int), .slice a len cap, .int .i64 0] 41)) (w.heap.size + 1) 3 (.int .i64 0) := by
    have := (Boxed.new (w.alloc (.cells #[.slice none 0 0] 22)) 3 (.int .i64 0)).alloc (.cells #[.int .i64 (b : Int), .slice a len cap, .int .i64 0] 41)
    simpa using this
  have xg : Rg (((w.alloc (.cells #[.slice none 0 0] 22)).alloc (.cells #[.int .i64 0] 3)).alloc (.cells #[.int .i64 (b : Int), .slice a len cap, .int .i64 0] 41)) (w.heap.size + 2) b a len cap 0 := by
    have := World.alloc_heap_new ((w.alloc (.cells #[.slice none 0 0] 22)).alloc (.cells #[.int .i64 0] 3)) (.cells #[.int .i64 (b : Int), .slice a len cap, .int .i64 0] 41)
    simp only [World.size_alloc] at this
    exact this
  have xb : Below w.heap.size w (((w.alloc (.cells #[.slice none 0 0] 22)).alloc (.cells #[.int .i64 0] 3)).alloc (.cells #[.int .i64 (b : Int), .slice a len cap, .int .i64 0] 41)) := (((Below.refl _ _).alloc (Nat.le_refl _) _).alloc (by simp) _).alloc (by simp; omega) _
  have xs : (((w.alloc (.cells #[.slice none 0 0] 22)).alloc (.cells #[.int .i64 0] 3)).alloc (.cells #[.int .i64 (b : Int), .slice a len cap, .int .i64 0] 41)).heap.size = w.heap.size + 3 := by simp
  generalize ((w.alloc (.cells #[.slice none 0 0] 22)).alloc (.cells #[.int .i64 0] 3)).alloc (.cells #[.int .i64 (b : Int), .slice a len cap, .int .i64 0] 41) = W3 at *
  have hC0 : Col w.heap.size b a len cap w [] W3 := ⟨⟨_, x4, World.ownsRow_nil _ _ _ _⟩, x5, by simp, xg, xb⟩
  refine range_rd (F := Fence.wide) (n := 8) encs rfl (by omega) (gf := 11) rfl trivial (enters_of Tryd.func11 (by kernel_rfl) rfl) (fun _ => rfl) (w.heap.size + 2) (by omega)
    (fun ys W => Col w.heap.size b a len cap w ys W ∧ w.heap.size + 3 ≤ W.heap.size) (fun _ _ _ => False) (fun pre x W0 W1 => Wt.Own W1 W0.heap.size x.2.v x.2.zs ∧ pre.map pr ++ [pr x] <+: out ∧ Rg W1 (w.heap.size + 2) b a len cap 0) (Rr.Kp w.heap.size (w.heap.size + 2)) (fun ys W0 W' => ys.map pr = out ∧ Rg W' (w.heap.size + 2) b a len cap how) (fun pre => pre.map pr <+: out)
    (fun s W o h => ⟨h.1.later (box_below W o) (by have := h.2; omega), by have := h.2; simp; omega⟩) (fun s W W' k h g hk hc => ⟨h.1.kept g (by omega) (by have := h.2; omega) (fun c t f hh => absurd hh (hc c t f)), Nat.le_trans h.2 g.size⟩) (fun _ _ _ _ _ h => h.elim)
    (fun h k => ⟨h.1.trans k.1, k.2.trans h.2⟩) (fun W l o o' hl ho hc => ⟨belowK_b' (by omega) W l o o' hl ho, World.putObj_heap_other (by omega)⟩)
    ⟨hC0, by omega⟩ ?seq
    (fun x => { tmps := #[.int .i64 (b : Int), .slice a len cap, undef, undef, .pointer (some ⟨w.heap.size, 0, none⟩), .pointer (some ⟨w.heap.size + 1, 0, none⟩), .int .i64 0, .int .i64 0, .pointer (some ⟨w.heap.size + 1 + 1, 0, none⟩), .int .i64 (x.1 : Int), x.2.v, .int .i64 (b : Int), .bool true, .bool false, .int .i64 (b : Int), .slice a len cap, .agg #[.int .i64 (b : Int), .slice a len cap, .int .i64 0], .func (.func 11) #[.pointer (some ⟨w.heap.size + 1 + 1, 0, none⟩)] #[], .int .i64 (x.1 : Int), x.2.v, undef, undef, undef, undef, undef, undef, undef, undef, undef], defers := [] })
    ?assign ?body ?done (fun _ _ _ _ _ _ h => h.elim)
  case seq =>
    intro l J Jx W1 hb1 hY h0
    have := records_in 7 (by omega) l (w.heap.size + 2) w.heap.size b a len cap f out how J Jx hb hcap hlen hR.out (fun pre x W0 W' hj hg' ho hp hr' => hY pre x W0 W' hj hg' ⟨ho, hp, hr'⟩) W1 (xg.later hb1) (by omega)
      (fun W' h' => bytes_kept H.out (xb.trans (((hb1.mono (by omega)).trans h')))) (fun W' h' => tab_later T (xb.trans ((hb1.mono (by omega)).trans h'))) h0
    refine this.mono ?_
    rintro e W' ⟨hv, (⟨ys, W0, h1, h2, h3, h4, h5⟩ | h)⟩
    · exact ⟨hv, .inl ⟨ys, W0, h2, h3, h1, h4⟩⟩
    · exact ⟨hv, .inr h⟩
  case assign =>
    intro l x W K hK
    simp only [encs]
    gi_wp2
    exact hK
  case body =>
    rintro l pre ⟨xe, xa, xl, xc, xz⟩ W0 W1 W2 ⟨hc0, hs0⟩ g01 ⟨ho, hp, hr1⟩ g12 hl ⟨rr, hrr⟩ hnc
    have hcr := hc0.read g01 (by omega) 0 hr1
    have hc1 : Col w.heap.size b a len cap w pre W1 := ⟨hcr.1, hcr.2.1, hcr.2.2.1, hr1, hcr.2.2.2⟩
    have hs1 := Nat.le_trans hs0 g01.size
    have hc2 := hc1.kept g12 (by omega) (by omega) (fun c t f hh => absurd hh (hnc c t f))
    have hx2 : Wt.Own W2 w.heap.size (.slice xa xl xc) xz := row_kept2 (own_base ho (by omega)) g12 (fun k e c f hh => by cases e; exact hnc c 5 f hh)
    have hlen : pre.length + 1 ≤ out.length := by have := hp.length_le; simpa using this
    obtain ⟨v, av, nv, cv, w5, v', hvv, b1, r, b2, b3, k4, kp, hc3⟩ := hc2.more (xe, ⟨xa, xl, xc, xz⟩) hx2 (Nat.le_trans (by omega) (Nat.le_trans hs1 g12.size)) (by omega)
    subst hvv
    have hs6 : w.heap.size + 3 ≤ ((w5.setCell ⟨w.heap.size, 0, none⟩ (.slice av nv cv)).setCell ⟨w.heap.size + 1, 0, none⟩ (.int .i64 (xe : Int))).heap.size := Nat.le_trans hs1 (Nat.le_trans g12.size k4.size)
    have c1 := b1.cell
    have c2 := b2.cell
    have f2 := b2.frozen
    have c3 := b3.cell
    have f3 := b3.frozen
    dsimp only [Sl.v] at r k4 kp hc3 ⊢
    replace r := hid r
    replace k4 := hid k4
    replace kp := hid kp
    replace hc3 := hid hc3
    clear b1 b2 b3 hc2 hx2 hc1 hcr
    gi_wp2_with (first | (gi_at_builtin; refine wpListIn_append_run rfl _ _ _ _ rfl _ _ _ rfl rfl r.out ?_))
    exact ⟨k4.out.from _, kp.out, hc3.out, hs6⟩
  case done =>
    rintro D l ys W0 W W' hD ⟨hc0, hs0⟩ g0 ⟨hys, hrg⟩ g1 hl hnc hK
    obtain ⟨⟨v, b4, o4⟩, b5, o5, bel⟩ := hc0.read g0 (by omega) how hrg
    have hsW := Nat.le_trans hs0 g0.size
    replace b4 := b4.kept g1 (by simp; omega)
    replace b5 := b5.kept g1 (by simp; omega)
    have o4' : OwnR W' w.heap.size v (ys.map Prod.snd) := row_kept2 o4 g1 (fun k e c f hh => by cases e; exact hnc _ _ _ hh)
    have o5' : ∀ x ∈ ys, Wt.Own W' w.heap.size x.2.v x.2.zs := fun x hx => row_kept2 (o5 x hx) g1 (fun k e c f hh => by cases e; exact hnc _ _ _ hh)
    have r' : Rg W' (w.heap.size + 2) b a len cap how := (g1.block _ hrg.lt (by simp; omega)).trans hrg
    have bel' : Below w.heap.size w W' := bel.grown g1 (by omega) (fun j hj => by cases hj; omega)
    rw [hys] at b5
    obtain ⟨av, cv, hv, _⟩ := row_shape o4'
    have c4 := b4.cell
    have f4 := b4.frozen
    have c5 := b5.cell
    have f5 := b5.frozen
    have c6 := r'.c2
    have hDn : D ≠ w.heap.size ∧ D ≠ w.heap.size + 1 := by omega
    subst hv
    generalize (ys.map Prod.snd).length = N at *
    replace o4' := hid o4'
    replace o5' := hid o5'
    replace bel' := hid bel'
    replace b4 := hid b4
    replace b5 := hid b5
    replace hK := hid hK
    clear o4 o5 bel hc0 g0 g1 hrg hnc
    gi_wp2_with fail
    gi_region
    have hK3 : (((W'.setCell ⟨w.heap.size, 0, none⟩ (.slice av N cv)).setCell ⟨w.heap.size + 1, 0, none⟩ (.int .i64 ((lst out : Nat) : Int))).drew).heap[D]? = some (.deferred (some [])) :=
      ((KeepsOthers.setCell W' ⟨w.heap.size, 0, none⟩ (.slice av N cv)).trans (KeepsOthers.setCell _ ⟨w.heap.size + 1, 0, none⟩ (.int .i64 ((lst out : Nat) : Int)))).same D _ hK.out rfl
    have B4 : Boxed ((W'.setCell ⟨w.heap.size, 0, none⟩ (.slice av N cv)).setCell ⟨w.heap.size + 1, 0, none⟩ (.int .i64 ((lst out : Nat) : Int))).drew w.heap.size 22 (.slice av N cv) := (b4.out.set (.slice av N cv)).other (by omega) _
    have B5 : Boxed ((W'.setCell ⟨w.heap.size, 0, none⟩ (.slice av N cv)).setCell ⟨w.heap.size + 1, 0, none⟩ (.int .i64 ((lst out : Nat) : Int))).drew (w.heap.size + 1) 3 (.int .i64 ((lst out : Nat) : Int)) := (b5.out.other (B' := w.heap.size) (by omega) _).set _
    have G : ∀ {e : Nat} {s : List Value} {u : Value} {m : Nat}, e ≠ 22 → e ≠ 3 → W'.ownsRow w.heap.size e 1 u m s → (((W'.setCell ⟨w.heap.size, 0, none⟩ (.slice av N cv)).setCell ⟨w.heap.size + 1, 0, none⟩ (.int .i64 ((lst out : Nat) : Int))).drew).ownsRow w.heap.size e 1 u m s := fun {e s u m} h1 h2 hu => by
      have a1 := row_kept2 hu (grown_set W' w.heap.size 0 (.slice av N cv)) (fun k e' c f hh => by cases e'; rw [show W'.heap[w.heap.size]? = _ from b4.out] at hh; simp at hh; exact h1 hh.2.1.symm)
      have a2 := row_kept2 a1 (grown_set (W'.setCell ⟨w.heap.size, 0, none⟩ (.slice av N cv)) (w.heap.size + 1) 0 (.int .i64 ((lst out : Nat) : Int))) (fun k e' c f hh => by cases e'; rw [show (W'.setCell _ _).heap[w.heap.size + 1]? = _ from b5.out.other (B' := w.heap.size) (by omega) _] at hh; simp at hh; exact h2 hh.2.1.symm)
      exact a2
    have O4 := G (by decide) (by decide) o4'.out
    have O5 : ∀ x ∈ ys, Wt.Own ((W'.setCell ⟨w.heap.size, 0, none⟩ (.slice av N cv)).setCell ⟨w.heap.size + 1, 0, none⟩ (.int .i64 ((lst out : Nat) : Int))).drew w.heap.size x.2.v x.2.zs := fun x hx => G (by decide) (by decide) (o5'.out x hx)
    have B6 : Below w.heap.size w ((W'.setCell ⟨w.heap.size, 0, none⟩ (.slice av N cv)).setCell ⟨w.heap.size + 1, 0, none⟩ (.int .i64 ((lst out : Nat) : Int))).drew := ((bel'.out.setCell (p := ⟨w.heap.size, 0, none⟩) (Nat.le_refl _) _).setCell (p := ⟨w.heap.size + 1, 0, none⟩) (by show w.heap.size ≤ w.heap.size + 1; omega) _).drew
    generalize ((W'.setCell ⟨w.heap.size, 0, none⟩ (.slice av N cv)).setCell ⟨w.heap.size + 1, 0, none⟩ (.int .i64 ((lst out : Nat) : Int))).drew = W7 at *
    gi_wp2_with fail
    refine ⟨by simp, .inl ⟨_, _, rfl, run_takeDeferred hK3, ?_⟩⟩
    have hc4 := Go.cell_kept B4.cell (grownBy_putObj' _ D (.deferred none)) (fun r e => by cases e; exact ⟨_, hK3, rfl⟩)
    have hc5 := Go.cell_kept B5.cell (grownBy_putObj' _ D (.deferred none)) (fun r e => by cases e; exact ⟨_, hK3, rfl⟩)
    refine ⟨.tuple #[.slice av N cv, .int .i64 ((lst out : Nat) : Int), .int .i64 (how : Int), .int .i64 0], ?_, ⟨_, ys, rfl, ?_, hys, ?_, ?_⟩⟩
    · simp [results, Tryd.results6, go_sem, hc4, hc5]
    · exact ownsRow_putObj O4 _ hK3 rfl
    · exact fun x hx => ownsRow_putObj (O5 x hx) _ hK3 rfl
    · exact B6.trans (belowK_b' (w := w) (Nat.le_refl _) _ D _ _ (by omega) hK3)
end Go.Proofs.YtgkoopciajjonabDoor.Re

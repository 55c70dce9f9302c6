/- Merge, in plain words; what its memory holds. -/
import Derived.Test.YtnpeocoipodmfaaKm
namespace Go.Proofs.Ytnpeocoipodmfaa.Mg
open Go.ChangeShapes Go.WideShapes Go.ChangeAt Go.RowKit
open Go.Proofs.Ytnpeocoipodmfaa.Gr
open Go.Proofs.Ytnpeocoipodmfaa.Ev
open Go.Proofs.Ytnpeocoipodmfaa.Ss
open Go.Proofs.Ytnpeocoipodmfaa.Le
open Go.Proofs.Ytnpeocoipodmfaa.Km
set_option linter.unusedVariables false
set_option linter.unusedSimpArgs false

def lat (a b : Int) : Int := if b = 0 then a else b
/-- What goes of the second, ahead of place k. -/
def gos (x y : Ed) (k : Nat) : List Pl := (y.go.take k).filter fun p => !decide (p ∈ x.co.map Ad.pl)
def cos (x y : Ed) (k : Nat) : List Ad := (x.co.take k).filter fun a => !decide (a.pl ∈ y.go)
def mrg (x y : Ed) : Ed := ⟨lat x.log y.log, lat x.nx y.nx, lat x.sq y.sq, x.go ++ y.go.filter (fun p => !decide (p ∈ x.co.map Ad.pl)), x.co.filter (fun a => !decide (a.pl ∈ y.go)) ++ y.co⟩
theorem later_int (a b : Int) (w : World) : Calls Try.prog 42 #[.int .i64 a, .int .i64 b] w fun e w' => e = .returned (.int .i64 (lat a b)) ∧ w' = w := by
  by_cases h : b = 0
  · subst h
    have t : ((0 : Int) != 0) = false := rfl
    rw [show lat a 0 = a from if_pos rfl]
    go_enter Try.func42, Try.ntmps42
    go_wp2
    go_ret
    exact ⟨rfl, rfl⟩
  · have t : (b != 0) = true := by simpa using h
    rw [show lat a b = b from if_neg h]
    clear h
    go_enter Try.func42, Try.ntmps42
    go_wp2
    go_ret
    exact ⟨rfl, rfl⟩
theorem later_u64 (a b : Int) (w : World) : Calls Try.prog 43 #[.int .u64 a, .int .u64 b] w fun e w' => e = .returned (.int .u64 (lat a b)) ∧ w' = w := by
  by_cases h : b = 0
  · subst h
    have t : ((0 : Int) != 0) = false := rfl
    rw [show lat a 0 = a from if_pos rfl]
    go_enter Try.func43, Try.ntmps43
    go_wp2
    go_ret
    exact ⟨rfl, rfl⟩
  · have t : (b != 0) = true := by simpa using h
    rw [show lat a b = b from if_neg h]
    clear h
    go_enter Try.func43, Try.ntmps43
    go_wp2
    go_ret
    exact ⟨rfl, rfl⟩
theorem place_any (l n z : Int) (a b : ByteArray) (lo hi : Int) (w : World) : Calls Try.prog 44 #[.agg #[.int .i64 l, .int .i64 n, .int .i64 z, .string a, .string b, .int .u64 lo, .int .u64 hi]] w fun e w' => e = .returned (kvP ⟨l, n⟩) ∧ Below w.heap.size w w' := by
  obtain ⟨W, g1, g2, hW, hg1, hg2, k1, k2, bW⟩ := boxes2 w #[.int .i64 l, .int .i64 n, .int .i64 z, .string a, .string b, .int .u64 lo, .int .u64 hi] #[.int .i64 l, .int .i64 n] 60 57
  replace hW := hid hW
  replace hg1 := hid hg1
  replace hg2 := hid hg2
  replace bW := hid bW
  unfold kvP
  go_enter Try.func44, Try.ntmps44
  go_wp2
  rw [← hW.out, ← hg1.out, ← hg2.out]
  have q0 := cell_of k2 0 _ rfl
  have q1 := cell_of k2 1 _ rfl
  exact bodyPost_ret (v := .agg #[.int .i64 l, .int .i64 n]) (by simp [results, Try.results44, go_sem, q0, q1]) rfl ⟨rfl, by rw [hg1.out]; exact bW.out⟩

/-- What Merge's memory holds: both edits' boxes, the answer's, the new one's, two sets, two rows. -/
structure Ms (w : World) (ga gb gr go m6 m7 base : Nat) (A B R : Array Value) (log nx sq : Value) (W : World) (v4 v5 : Value) (k6 k7 : List Pl) (xs : List Pl) (ys : List Ad) : Prop where
  a : W.heap[ga]? = some (.cells A 26)
  b : W.heap[gb]? = some (.cells B 26)
  r : W.heap[gr]? = some (.cells R 26)
  o : W.heap[go]? = some (.cells #[log, nx, sq, v4, v5] 26)
  c : kP.Mp W m6 k6
  g : kP.Mp W m7 k7
  x : ePl.Own W base v4 xs
  y : eAd.Own W base v5 ys
  lo : Below w.heap.size w W
  d : w.heap.size ≤ ga ∧ ga < gb ∧ gb < gr ∧ gr < go ∧ go < m6 ∧ m6 < m7 ∧ m7 < base ∧ base ≤ W.heap.size
section
variable {w : World} {ga gb gr go m6 m7 base : Nat} {A B R : Array Value} {log nx sq : Value} {W : World} {v4 v5 : Value} {k6 k7 : List Pl} {xs : List Pl} {ys : List Ad}
theorem Ms.later (h : Ms w ga gb gr go m6 m7 base A B R log nx sq W v4 v5 k6 k7 xs ys) {W' : World} (b : Below W.heap.size W W') : Ms w ga gb gr go m6 m7 base A B R log nx sq W' v4 v5 k6 k7 xs ys :=
  ⟨below_blk h.a b, below_blk h.b b, below_blk h.r b, below_blk h.o b, h.c.later b, h.g.later b, h.x.later b, h.y.later b, Below.up h.lo b, by have := h.d; have := b.size; omega⟩
theorem map_blk {K : Ks Pl} {W W' : World} {b : Nat} {ks : List Pl} {row : Option Nat} (h : K.Mp W b ks) (g : W.grownBy W' row) (hr : ∀ j, row = some j → j ≠ b) : K.Mp W' b ks := h.blk (g.block b h.lt (fun e => (hr b e.symm) rfl))
theorem own_grown {e size n : Nat} {v : Value} {zs : List Value} {W W' : World} {row : Option Nat} (h : W.ownsRow base e size v n zs) (g : W.grownBy W' row) (hr : ∀ j, row = some j → v.ownBlock ≠ some j) : W'.ownsRow base e size v n zs :=
  own_blocks h (fun j hj => g.block j (own_lt h j hj).2 (fun e => hr j e.symm hj))
theorem below_grown {W W' : World} {row : Option Nat} (h : Below w.heap.size w W) (g : W.grownBy W' row) (hr : ∀ j, row = some j → w.heap.size ≤ j) : Below w.heap.size w W' :=
  ((Fp.of (P := fun j => w.heap.size ≤ j) h).grown g (fun j hj => .inr (hr j hj))).base (Nat.le_refl _) (fun _ h => h)
theorem Ms.put6 (h : Ms w ga gb gr go m6 m7 base A B R log nx sq W v4 v5 k6 k7 xs ys) (k : Pl) : ∃ W', (Instr.mapUpdate 87 (.map (some m6)) (kvP k) (.agg #[])).run Try.prog W = .ok () W' ∧ Ms w ga gb gr go m6 m7 base A B R log nx sq W' v4 v5 (ins k6 k) k7 xs ys ∧ W.grownBy W' (some m6) := by
  obtain ⟨W', h1, h2, h3⟩ := h.c.put k
  have d := h.d
  refine ⟨W', h1, ⟨grown_blk h.a h3 (by rintro j e; cases e; omega), grown_blk h.b h3 (by rintro j e; cases e; omega), grown_blk h.r h3 (by rintro j e; cases e; omega), grown_blk h.o h3 (by rintro j e; cases e; omega), h2, map_blk h.g h3 (by rintro j e; cases e; omega), own_grown h.x h3 (by rintro j e k; cases e; have := (own_lt h.x _ k).1; omega), own_grown h.y h3 (by rintro j e k; cases e; have := (own_lt h.y _ k).1; omega), below_grown h.lo h3 (by rintro j e; cases e; omega), by have := h3.size; omega⟩, h3⟩
theorem Ms.put7 (h : Ms w ga gb gr go m6 m7 base A B R log nx sq W v4 v5 k6 k7 xs ys) (k : Pl) : ∃ W', (Instr.mapUpdate 87 (.map (some m7)) (kvP k) (.agg #[])).run Try.prog W = .ok () W' ∧ Ms w ga gb gr go m6 m7 base A B R log nx sq W' v4 v5 k6 (ins k7 k) xs ys ∧ W.grownBy W' (some m7) := by
  obtain ⟨W', h1, h2, h3⟩ := h.g.put k
  have d := h.d
  refine ⟨W', h1, ⟨grown_blk h.a h3 (by rintro j e; cases e; omega), grown_blk h.b h3 (by rintro j e; cases e; omega), grown_blk h.r h3 (by rintro j e; cases e; omega), grown_blk h.o h3 (by rintro j e; cases e; omega), map_blk h.c h3 (by rintro j e; cases e; omega), h2, own_grown h.x h3 (by rintro j e k; cases e; have := (own_lt h.x _ k).1; omega), own_grown h.y h3 (by rintro j e k; cases e; have := (own_lt h.y _ k).1; omega), below_grown h.lo h3 (by rintro j e; cases e; omega), by have := h3.size; omega⟩, h3⟩
/-- Rows of unlike elements lie in unlike blocks. -/
theorem apart_rows {e e' size size' n n' base base' : Nat} {v v' : Value} {zs zs' : List Value} (h : W.ownsRow base e size v n zs) (h' : W.ownsRow base' e' size' v' n' zs') (he : e ≠ e') : ∀ j, v.ownBlock = some j → v'.ownBlock ≠ some j := by
  intro j hj hj'
  rcases h.2 with ⟨h1, _⟩ | ⟨g, c, cur, h1, h2, h3, h4⟩
  · rw [h1] at hj; simp [Value.ownBlock] at hj
  · rcases h'.2 with ⟨k1, _⟩ | ⟨g', c', cur', k1, k2, k3, k4⟩
    · rw [k1] at hj'; simp [Value.ownBlock] at hj'
    · rw [h1] at hj; rw [k1] at hj'
      simp [Value.ownBlock] at hj hj'
      subst hj hj'
      rw [h3] at k3
      injection k3 with k3
      injection k3 with _ k3
      exact he k3
/-- More of what goes, put behind, and the variable set. -/
theorem Ms.app4 (h : Ms w ga gb gr go m6 m7 base A B R log nx sq W v4 v5 k6 k7 xs ys) (v' : Value) (W' : World) (xs' : List Pl) (ho : ePl.Own W' base v' xs') (hg : W.grownBy W' v4.ownBlock) (hq : ∀ j, v'.ownBlock = some j → v4.ownBlock = some j ∨ W.heap.size ≤ j) :
    Ms w ga gb gr go m6 m7 base A B R log nx sq (W'.setCell ⟨go, 3, none⟩ v') v' v5 k6 k7 xs' ys ∧ W'.heap[go]? = some (.cells #[log, nx, sq, v4, v5] 26) := by
  have d := h.d
  have hne : ∀ j, v4.ownBlock = some j → base ≤ j := fun j hj => (own_lt h.x j hj).1
  have ko := grown_blk h.o hg (by intro j hj e; have := hne j hj; omega)
  have G : W'.grownBy (W'.setCell ⟨go, 3, none⟩ v') (some go) := ⟨rfl, rfl, rfl, by simp, fun k _ hk => set_ne _ _ _ _ _ (fun e => hk (by rw [e]))⟩
  have hy := own_grown h.y hg (by intro j hj k; exact apart_rows h.x h.y (by decide) j hj k)
  refine ⟨⟨?_, ?_, ?_, (set_of ko 3 v').trans rfl, ?_, ?_, ?_, ?_, ?_, ?_⟩, ko⟩
  · exact grown_blk (grown_blk h.a hg (by intro j hj e; have := hne j hj; omega)) G (by rintro j e; cases e; omega)
  · exact grown_blk (grown_blk h.b hg (by intro j hj e; have := hne j hj; omega)) G (by rintro j e; cases e; omega)
  · exact grown_blk (grown_blk h.r hg (by intro j hj e; have := hne j hj; omega)) G (by rintro j e; cases e; omega)
  · exact map_blk (map_blk h.c hg (by intro j hj e; have := hne j hj; omega)) G (by rintro j e; cases e; omega)
  · exact map_blk (map_blk h.g hg (by intro j hj e; have := hne j hj; omega)) G (by rintro j e; cases e; omega)
  · exact own_grown ho G (by rintro j e k; cases e; have := (own_lt ho _ k).1; omega)
  · exact own_grown hy G (by rintro j e k; cases e; have := (own_lt hy _ k).1; omega)
  · exact below_grown (below_grown h.lo hg (by intro j hj; have := hne j hj; omega)) G (by rintro j e; cases e; omega)
  · have := hg.size; simp; omega
theorem Ms.app5 (h : Ms w ga gb gr go m6 m7 base A B R log nx sq W v4 v5 k6 k7 xs ys) (v' : Value) (W' : World) (ys' : List Ad) (ho : eAd.Own W' base v' ys') (hg : W.grownBy W' v5.ownBlock) (hq : ∀ j, v'.ownBlock = some j → v5.ownBlock = some j ∨ W.heap.size ≤ j) :
    Ms w ga gb gr go m6 m7 base A B R log nx sq (W'.setCell ⟨go, 4, none⟩ v') v4 v' k6 k7 xs ys' ∧ W'.heap[go]? = some (.cells #[log, nx, sq, v4, v5] 26) := by
  have d := h.d
  have hne : ∀ j, v5.ownBlock = some j → base ≤ j := fun j hj => (own_lt h.y j hj).1
  have ko := grown_blk h.o hg (by intro j hj e; have := hne j hj; omega)
  have G : W'.grownBy (W'.setCell ⟨go, 4, none⟩ v') (some go) := ⟨rfl, rfl, rfl, by simp, fun k _ hk => set_ne _ _ _ _ _ (fun e => hk (by rw [e]))⟩
  have hx := own_grown h.x hg (by intro j hj k; exact apart_rows h.y h.x (by decide) j hj k)
  refine ⟨⟨?_, ?_, ?_, (set_of ko 4 v').trans rfl, ?_, ?_, ?_, ?_, ?_, ?_⟩, ko⟩
  · exact grown_blk (grown_blk h.a hg (by intro j hj e; have := hne j hj; omega)) G (by rintro j e; cases e; omega)
  · exact grown_blk (grown_blk h.b hg (by intro j hj e; have := hne j hj; omega)) G (by rintro j e; cases e; omega)
  · exact grown_blk (grown_blk h.r hg (by intro j hj e; have := hne j hj; omega)) G (by rintro j e; cases e; omega)
  · exact map_blk (map_blk h.c hg (by intro j hj e; have := hne j hj; omega)) G (by rintro j e; cases e; omega)
  · exact map_blk (map_blk h.g hg (by intro j hj e; have := hne j hj; omega)) G (by rintro j e; cases e; omega)
  · exact own_grown hx G (by rintro j e k; cases e; have := (own_lt hx _ k).1; omega)
  · exact own_grown ho G (by rintro j e k; cases e; have := (own_lt ho _ k).1; omega)
  · exact below_grown (below_grown h.lo hg (by intro j hj; have := hne j hj; omega)) G (by rintro j e; cases e; omega)
  · have := hg.size; simp; omega
end
end Go.Proofs.Ytnpeocoipodmfaa.Mg

/- Contract of the law's call of both: a call of one of three Runnings, and of the document's own beside it, answers the same of both and leaves both alike. -/
import Derived.Test.YtkgmdhldongloaaDoorRs
namespace Go.Proofs.YtkgmdhldongloaaDoor.Dz
open Go.ChangeShapes Go.WideShapes Go.ChangeAt Go.RowKit
open Go.Proofs.YtkgmdhldongloaaDoor.Crc
open Go.Proofs.YtkgmdhldongloaaDoor.Ck
open Go.Proofs.YtkgmdhldongloaaDoor.Lm (grown_set tab_later)
open Go.Proofs.YtkgmdhldongloaaDoor.Rn
open Go.Proofs.YtkgmdhldongloaaDoor.Rs
open Go.Proofs.YtkgmdhldongloaaDoor.Ln
set_option linter.unusedVariables false

theorem among_any (x n : Int) (w : World) (hn : 0 < n) (hm : n ≤ 4611686018427387904) : Calls Tryd.prog 36 #[.int .i64 x, .int .i64 n] w fun e w' => e = .returned (.int .i64 (x % n)) ∧ w' = w := by
  have h1 : -n < x.tmod n ∧ x.tmod n < n := by
    have h := Int.tmod_lt_of_pos x hn
    have h' := Int.tmod_lt_of_pos (-x) hn
    rw [Int.neg_tmod] at h'
    omega
  have E : Hid ((x.tmod n + n) % n = x % n) := by
    show _ = _
    rw [Int.add_emod_right]
    rw [Int.tmod_def]
    have : x - n * x.tdiv n = x + n * (-x.tdiv n) := by rw [Int.mul_neg]; omega
    rw [this, Int.add_mul_emod_self_left]
  have hz : ¬ n = 0 := by omega
  go_enter Tryd.func36, Tryd.ntmps36
  go_wp2
  go_ret
  exact ⟨ret_int E.out, rfl⟩

/-! ### Three Runnings, and three of the document's own -/
def MB (W : World) (ms : Nat) (p : Nat → BitVec 32) (q : Nat → Nat) : Prop :=
  ∃ c : Array Value, Lm.Blk W ms 52 c ∧ c.size = 6 ∧ ∀ k, k < 3 → c[k * 2]? = some (.int .u32 (toI (p k))) ∧ c[k * 2 + 1]? = some (.int .i64 (q k))
def Inv (w : World) (r : Nat → Nat) (rs ms : Nat) (s : Nat → BitVec 32) (n : Nat → Nat) (p : Nat → BitVec 32) (q : Nat → Nat) (W : World) : Prop :=
  (∀ k, k < 3 → At W (r k) (s k) (n k)) ∧ (∀ k, k < 3 → W.cell? ⟨rs, k, none⟩ = some (.pointer (some ⟨r k, 0, none⟩))) ∧ MB W ms p q ∧ Below w.heap.size w W ∧ (∀ k, k < 3 → n k ≤ 9007199254740992)
def Geo (w : World) (r : Nat → Nat) (rs ms : Nat) : Prop := (∀ k, k < 3 → w.heap.size ≤ r k ∧ r k < rs) ∧ (∀ j k, j < 3 → k < 3 → r j = r k → j = k) ∧ w.heap.size ≤ rs ∧ rs < ms
def upd {α : Type} (f : Nat → α) (k : Nat) (v : α) : Nat → α := fun j => if j = k then v else f j
theorem upd_same {α : Type} (f : Nat → α) (k : Nat) (v : α) : upd f k v k = v := by simp [upd]
theorem upd_other {α : Type} (f : Nat → α) (k j : Nat) (v : α) (h : j ≠ k) : upd f k v j = f j := by simp [upd, h]
theorem MB.cells {W : World} {ms : Nat} {p : Nat → BitVec 32} {q : Nat → Nat} (h : MB W ms p q) (k : Nat) (hk : k < 3) : W.cell? ⟨ms, k * 2, none⟩ = some (.int .u32 (toI (p k))) ∧ W.cell? ⟨ms, k * 2 + 1, none⟩ = some (.int .i64 (q k)) := by
  obtain ⟨c, hb, _, hc⟩ := h
  exact ⟨(hb.cell _).trans (hc k hk).1, (hb.cell _).trans (hc k hk).2⟩
theorem MB.fz {W : World} {ms : Nat} {p : Nat → BitVec 32} {q : Nat → Nat} (h : MB W ms p q) (o : Nat) : W.frozen? ⟨ms, o, none⟩ = false := by
  obtain ⟨c, hb, _, hc⟩ := h
  exact hb.fz o
theorem MB.kept {W W' : World} {ms : Nat} {p : Nat → BitVec 32} {q : Nat → Nat} {row : Option Nat} (h : MB W ms p q) (g : W.grownBy W' row) (hne : some ms ≠ row) : MB W' ms p q := by
  obtain ⟨c, hb, h2⟩ := h
  exact ⟨c, hb.kept g hne, h2⟩
theorem MB.set {W : World} {ms : Nat} {p : Nat → BitVec 32} {q : Nat → Nat} (h : MB W ms p q) (k : Nat) (hk : k < 3) (x : BitVec 32) (y : Nat) :
    MB ((W.setCell ⟨ms, k * 2, none⟩ (.int .u32 (toI x))).setCell ⟨ms, k * 2 + 1, none⟩ (.int .i64 y)) ms (upd p k x) (upd q k y) := by
  obtain ⟨c, hb, h6, hc⟩ := h
  refine ⟨_, (hb.set _ _).set _ _, by simp [h6], fun j hj => ?_⟩
  by_cases e : j = k
  · subst e
    rw [upd_same, upd_same]
    constructor
    · rw [Array.getElem?_setIfInBounds, if_neg (by omega), Array.getElem?_setIfInBounds, if_pos rfl, if_pos (by omega)]
    · rw [Array.getElem?_setIfInBounds, if_pos rfl, if_pos (by simp; omega)]
  · rw [upd_other _ _ _ _ e, upd_other _ _ _ _ e]
    constructor
    · rw [Array.getElem?_setIfInBounds, if_neg (by omega), Array.getElem?_setIfInBounds, if_neg (by omega)]
      exact (hc j hj).1
    · rw [Array.getElem?_setIfInBounds, if_neg (by omega), Array.getElem?_setIfInBounds, if_neg (by omega)]
      exact (hc j hj).2
theorem MB.lt {W : World} {ms : Nat} {p : Nat → BitVec 32} {q : Nat → Nat} (h : MB W ms p q) : ms < W.heap.size := by
  obtain ⟨c, hb, _⟩ := h
  exact hb.lt
theorem inv_later {w : World} {r : Nat → Nat} {rs ms : Nat} {s : Nat → BitVec 32} {n : Nat → Nat} {p : Nat → BitVec 32} {q : Nat → Nat} {W W' : World} (I : Inv w r rs ms s n p q W) (b : Below W.heap.size W W') : Inv w r rs ms s n p q W' :=
  ⟨fun k hk => (I.1 k hk).kept (below_grown b) (by simp), fun k hk => cell_later b (I.2.1 k hk), I.2.2.1.kept (below_grown b) (by simp), I.2.2.2.1.trans (b.mono I.2.2.2.1.size), I.2.2.2.2⟩
theorem inv_drew {w : World} {r : Nat → Nat} {rs ms : Nat} {s : Nat → BitVec 32} {n : Nat → Nat} {p : Nat → BitVec 32} {q : Nat → Nat} {W : World} (I : Inv w r rs ms s n p q W) : Inv w r rs ms s n p q W.drew := inv_later I (Below.refl _ _).drew
/-- One of the three has turned. -/
theorem inv_run {w : World} {r : Nat → Nat} {rs ms : Nat} {s : Nat → BitVec 32} {n : Nat → Nat} {p : Nat → BitVec 32} {q : Nat → Nat} {W W' : World} (G : Geo w r rs ms) (I : Inv w r rs ms s n p q W) (k : Nat) (hk : k < 3) (x : BitVec 32) (y : Nat) (g : W.grownBy W' (some (r k))) (A : At W' (r k) x y) (hy : y ≤ 9007199254740992) :
    Inv w r rs ms (upd s k x) (upd n k y) p q W' := by
  have h1 := G.1 k hk
  refine ⟨fun j hj => ?_, fun j hj => g.cell (I.2.1 j hj) (by simp; omega), I.2.2.1.kept g (by simp; have := G.2.2.2; omega), I.2.2.2.1.grown g I.2.2.2.1.size (by intro a ha; simp at ha; omega), fun j hj => ?_⟩
  · by_cases e : j = k
    · subst e; rw [upd_same, upd_same]; exact A
    · rw [upd_other _ _ _ _ e, upd_other _ _ _ _ e]
      exact (I.1 j hj).kept g (by simp; intro h; exact e (G.2.1 j k hj hk h))
  · by_cases e : j = k
    · subst e; rw [upd_same]; exact hy
    · rw [upd_other _ _ _ _ e]; exact I.2.2.2.2 j hj
/-- One of the document's three has turned. -/
theorem inv_mem {w : World} {r : Nat → Nat} {rs ms : Nat} {s : Nat → BitVec 32} {n : Nat → Nat} {p : Nat → BitVec 32} {q : Nat → Nat} {W : World} (G : Geo w r rs ms) (I : Inv w r rs ms s n p q W) (k : Nat) (hk : k < 3) (x : BitVec 32) (y : Nat) :
    Inv w r rs ms s n (upd p k x) (upd q k y) ((W.setCell ⟨ms, k * 2, none⟩ (.int .u32 (toI x))).setCell ⟨ms, k * 2 + 1, none⟩ (.int .i64 y)) := by
  have g : W.grownBy ((W.setCell ⟨ms, k * 2, none⟩ (.int .u32 (toI x))).setCell ⟨ms, k * 2 + 1, none⟩ (.int .i64 y)) (some ms) := grown_trans (grown_set _ _ _ _) (grown_set _ _ _ _)
  refine ⟨fun j hj => (I.1 j hj).kept g (by simp; have := (G.1 j hj).2; have := G.2.2.2; omega), fun j hj => g.cell (I.2.1 j hj) (by simp; have := G.2.2.2; omega), I.2.2.1.set k hk x y, I.2.2.2.1.grown g I.2.2.2.1.size (by intro a ha; simp at ha; have := G.2.2; omega), I.2.2.2.2⟩

theorem upd_self {α : Type} (f : Nat → α) (k : Nat) : upd f k (f k) = f := by
  funext j; unfold upd; split
  · rename_i h; rw [h]
  · rfl
theorem row_below {w w' : World} {base g n cap : Nat} {xs : List Int} (R : Row w base g n cap xs) (b : Below w.heap.size w w') : Row w' base g n cap xs := by
  have hlt := R.lt
  refine World.ownsRow.kept (row := none) R ⟨b.os, b.tape, b.output, b.size, fun k hk _ => b.block k hk⟩ (.inr (by simp [Value.ownBlock]))
set_option maxHeartbeats 4000000 in
set_option maxRecDepth 100000 in
theorem does3 (w : World) (r : Nat → Nat) (rs ms : Nat) (s : Nat → BitVec 32) (n : Nat → Nat) (kd on of : Int) (a : Option Addr) (len cap : Nat) (zs : List Int) (W : World) (G : Hid (Geo w r rs ms)) (I : Hid (Inv w r rs ms s n s n W)) (T : Hid (Tab w)) (HB : Hid (Bytes w a len cap zs)) (hcap : cap ≤ 140737488351232) (hk : kd % 4 = 3) (o : Nat) (ho3 : o < 3) (HO : Hid (on % 3 = (o : Int))) :
    Calls Tryd.prog 22 #[.slice (some ⟨rs, 0, none⟩) 3 3, .slice (some ⟨ms, 0, none⟩) 3 3, .agg #[.int .i64 kd, .int .i64 on, .int .i64 of, .slice a len cap]] W fun e W' => ∃ v s' n', e = .returned (.tuple #[.int .i64 v, .int .i64 v]) ∧ Hid (Inv w r rs ms s' n' s' n' W') := by
  have HK := hid hk
  have b1 := (Below.refl W.heap.size W).alloc (Nat.le_refl _) (.cells #[.int .i64 kd, .int .i64 on, .int .i64 of, .slice a len cap] 49)
  have I1 := hid (inv_later I.out b1)
  have C1 := I1.out.2.1 o ho3
  clear b1 I hk
  go_enter Tryd.func22, Tryd.ntmps22
  go_wp2_with fail
  refine (among_any on 3 _ (by omega) (by omega)).mono ?_
  rintro e W1 ⟨rfl, rfl⟩
  rw [HO.out]
  go_wp2_with fail
  refine (among_any kd 4 _ (by omega) (by omega)).mono ?_
  rintro e W1 ⟨rfl, rfl⟩
  rw [HK.out]
  go_wp2_with fail
  refine (Clear_at (r o) (s o) (n o) _ (hid (I1.out.1 o ho3))).mono ?_
  rintro e W2 ⟨rfl, A2, g2⟩
  have I2 := hid (inv_run G.out I1.out o ho3 0#32 0 g2 A2 (by omega))
  have c0 := (I2.out.2.2.1.cells o ho3).1
  have c1 := (I2.out.2.2.1.cells o ho3).2
  have f0 := I2.out.2.2.1.fz (o * 2)
  have f1 := I2.out.2.2.1.fz (o * 2 + 1)
  have I3 := hid (inv_mem G.out I2.out o ho3 0#32 0)
  clear A2 g2
  go_wp2_with fail
  go_ret2
  exact ⟨0, _, _, rfl, I3⟩
set_option maxHeartbeats 16000000 in
set_option maxRecDepth 100000 in
theorem does0_ok (w : World) (r : Nat → Nat) (rs ms : Nat) (s : Nat → BitVec 32) (n : Nat → Nat) (kd on of : Int) (a : Option Addr) (len cap : Nat) (zs : List Int) (W : World) (G : Hid (Geo w r rs ms)) (I : Hid (Inv w r rs ms s n s n W)) (T : Hid (Tab w)) (HB : Hid (Bytes w a len cap zs)) (hcap : cap ≤ 140737488351232) (hk : kd % 4 = 0) (o : Nat) (ho3 : o < 3) (HO : Hid (on % 3 = (o : Int))) (hs : n o + len ≤ 9007199254740992) :
    Calls Tryd.prog 22 #[.slice (some ⟨rs, 0, none⟩) 3 3, .slice (some ⟨ms, 0, none⟩) 3 3, .agg #[.int .i64 kd, .int .i64 on, .int .i64 of, .slice a len cap]] W fun e W' => ∃ v s' n', e = .returned (.tuple #[.int .i64 v, .int .i64 v]) ∧ Hid (Inv w r rs ms s' n' s' n' W') := by
  have HK := hid hk
  have hoI : (o : Int) < 3 := by omega
  have hlc : len ≤ cap := HB.out.2.1
  have b1 := (Below.refl W.heap.size W).alloc (Nat.le_refl _) (.cells #[.int .i64 kd, .int .i64 on, .int .i64 of, .slice a len cap] 49)
  have I1 := hid (inv_later I.out b1)
  have X1 := hid (Lm.Blk.new W 49 #[.int .i64 kd, .int .i64 on, .int .i64 of, .slice a len cap])
  have hrb : ∀ k, k < 3 → r k < W.heap.size := fun k hk => (I.out.1 k hk).lt
  have hmb : ms < W.heap.size := I.out.2.2.1.lt
  obtain ⟨bx, HX⟩ : ∃ bx, Hid (bx = W.heap.size) := ⟨_, rfl⟩
  have hrb2 : r o < bx := by rw [HX.out]; exact hrb o ho3
  have hmb2 : ms < bx := by rw [HX.out]; exact hmb
  rw [← HX.out] at X1
  obtain ⟨E, HE⟩ : ∃ E, Hid (E = extend (s o) zs) := ⟨_, rfl⟩
  obtain ⟨N, HN⟩ : ∃ N, Hid (N = n o + len) := ⟨_, rfl⟩
  have C1 := I1.out.2.1 o ho3
  have hwb : w.heap.size ≤ bx := by rw [HX.out]; exact I.out.2.2.2.1.size
  have hG := G.out.2.2
  have HG3 := hid hG
  clear b1 I hk hrb hmb hG
  go_enter Tryd.func22, Tryd.ntmps22
  go_wp2_with fail
  rw [← HX.out]
  generalize W.alloc (.cells #[.int .i64 kd, .int .i64 on, .int .i64 of, .slice a len cap] 49) = W1 at I1 X1 C1 ⊢
  have y0 : W1.cell? ⟨bx, 0, none⟩ = some (.int .i64 kd) := X1.out.cell 0
  have y2 : W1.cell? ⟨bx, 2, none⟩ = some (.int .i64 of) := X1.out.cell 2
  have y3 : W1.cell? ⟨bx, 3, none⟩ = some (.slice a len cap) := X1.out.cell 3
  refine (among_any on 3 _ (by omega) (by omega)).mono ?_
  rintro e W1 ⟨rfl, rfl⟩
  rw [HO.out]
  go_wp2_with fail
  refine (among_any kd 4 _ (by omega) (by omega)).mono ?_
  rintro e W1 ⟨rfl, rfl⟩
  rw [HK.out]
  go_wp2_with fail
  refine (lent_any a len cap zs _ (bytes_kept HB.out I1.out.2.2.2.1) (by omega)).mono ?_
  rintro e W2 ⟨g, c, rfl, R2, b2⟩
  have hgb : bx < g := by have := R2.lt; have := X1.out.lt; omega
  have HR2 := hid R2
  have I2 := hid (inv_later I1.out b2)
  have X2 := hid (X1.out.later b2)
  have L2 := hid (lent_bytes R2 HB.out.2.2.2.1)
  have C2 := I2.out.2.1 o ho3
  clear R2 b2 C1
  go_wp2_with fail
  refine (Add_ok (r o) (s o) (n o) _ len c zs _ (hid (I2.out.1 o ho3)) (tab_later T I2.out.2.2.2.1) L2 (by omega) (by omega) (by omega)).mono ?_
  rintro e W3 ⟨rfl, A3, g3⟩
  have A3' : At W3 (r o) E (N : Int) := by rw [HE.out, HN.out]; simpa using A3
  have I3 := hid (inv_run G.out I2.out o ho3 E N g3 A3' (by rw [HN.out]; exact hs))
  have X3 := hid (X2.out.kept g3 (by simp; omega))
  have R3 := hid (HR2.out.kept g3 (by simp; omega))
  clear A3 A3' g3
  have m03 := (I3.out.2.2.1.cells o ho3).1
  have m13 := (I3.out.2.2.1.cells o ho3).2
  have f03 := I3.out.2.2.1.fz (o * 2)
  have f13 := I3.out.2.2.1.fz (o * 2 + 1)
  have x33 : W3.cell? ⟨bx, 3, none⟩ = some (.slice a len cap) := X3.out.cell 3
  go_wp2_with fail
  refine wp_region_any (by kernel_rfl) ?_
  change wpAny _ _ _ _ _ _ _ (World.drew _)
  refine wpAny_take (i := 0) (v := ?v1) rfl (by kernel_rfl) (by kernel_rfl) (by kernel_rfl) (fun _ _ _ h => h) (Or.inl ⟨by rfl, ?h1⟩) ?_
  case h1 => (intro w; go_simp; try (with_reducible rfl))
  go_simp
  refine wpAny_take (i := 1) (v := ?v2) rfl (by kernel_rfl) (by kernel_rfl) (by kernel_rfl) (fun _ _ _ h => h) (Or.inl ⟨by rfl, ?h2⟩) ?_
  case h2 => (intro w; go_simp; try (with_reducible rfl))
  go_simp
  refine wpAny_take (i := 2) (v := ?v3) rfl (by kernel_rfl) (by kernel_rfl) (by kernel_rfl) (fun _ _ _ h => h) (Or.inl ⟨by rfl, ?h3⟩) ?_
  case h3 => (intro w; go_simp; try (with_reducible rfl))
  go_simp
  refine wpAny_take (i := 3) (v := ?v4) rfl (by kernel_rfl) (by kernel_rfl) (by kernel_rfl) (fun _ _ _ h => h) (Or.inl ⟨by rfl, ?h4⟩) ?_
  case h4 => (intro w; go_simp; try (with_reducible rfl))
  go_simp
  refine wpAny_take (i := 4) (v := ?v5) rfl (by kernel_rfl) (by kernel_rfl) (by kernel_rfl) (fun _ _ _ h => h) (Or.inl ⟨by rfl, ?h5⟩) ?_
  case h5 => (intro w; go_simp; try (with_reducible rfl))
  go_simp
  refine wpAny_take (i := 6) (v := ?v6) rfl (by kernel_rfl) (by kernel_rfl) (by kernel_rfl) (fun _ _ _ h => h) (Or.inl ⟨by rfl, ?h6⟩) ?_
  case h6 => (intro w; go_simp; try (with_reducible rfl))
  go_simp
  refine wpAny_ready (rs := [5, 7]) (by kernel_rfl) (by simp) ?_
  refine AllReady.cons rfl (fun K hK => ?_) ?_
  · go_simp
    refine hK _ _ ?_
    clear hK K
    refine wpAny_ready (rs := [7]) (by kernel_rfl) (by simp) ?_
    refine AllReady.cons rfl (fun K hK => ?_) ?_
    · go_simp
      refine hK _ _ ?_
      clear hK K
      refine wpAny_ready (rs := [8]) (by kernel_rfl) (by simp) ?_
      refine AllReady.cons rfl (fun K hK => ?_) ?_
      · go_simp
        go_wp2_with fail
        refine (radd_ok (s o) (n o) a len cap zs W3.drew (hid (bytes_kept HB.out (inv_drew I3.out).2.2.2.1)) hs (by omega)).mono ?_
        rintro e V5 ⟨rfl, b5⟩
        rw [← HE.out, ← HN.out]
        have I5 := hid (inv_later (inv_drew I3.out) b5)
        have X5 := hid ((show Lm.Blk W3.drew bx 49 #[.int .i64 kd, .int .i64 on, .int .i64 of, .slice a len cap] from X3.out).later b5)
        have R5 := hid (row_below (World.ownsRow.drew R3.out) b5)
        have m05 := (I5.out.2.2.1.cells o ho3).1
        have m15 := (I5.out.2.2.1.cells o ho3).2
        have f05 := I5.out.2.2.1.fz (o * 2)
        have f15 := I5.out.2.2.1.fz (o * 2 + 1)
        have x35 : V5.cell? ⟨bx, 3, none⟩ = some (.slice a len cap) := X5.out.cell 3
        have I6 := hid (inv_mem G.out I5.out o ho3 E N)
        have g6 := grown_trans (grown_set V5 ms (o * 2) (.int .u32 (toI E))) (grown_set _ ms (o * 2 + 1) (.int .i64 (N : Int)))
        have X6 := hid (X5.out.kept g6 (by simp; omega))
        have R6 := hid (R5.out.kept g6 (by simp; omega))
        clear b5 g6
        go_wp2_with fail
        refine wpAny_take (i := 9) (v := ?v7) rfl (by kernel_rfl) (by kernel_rfl) (by kernel_rfl) (fun _ _ _ h => h) (Or.inl ⟨by rfl, ?h7⟩) ?_
        case h7 => (intro w; go_simp; try (with_reducible rfl))
        go_simp
        refine wpAny_take (i := 10) (v := ?v8) rfl (by kernel_rfl) (by kernel_rfl) (by kernel_rfl) (fun _ _ _ h => h) (Or.inl ⟨by rfl, ?h8⟩) ?_
        case h8 => (intro w; go_simp; try (with_reducible rfl))
        go_simp
        refine wpAny_take (i := 11) (v := ?v9) rfl (by kernel_rfl) (by kernel_rfl) (by kernel_rfl) (fun _ _ _ h => h) (Or.inl ⟨by rfl, ?h9⟩) ?_
        case h9 => (intro w; go_simp; try (with_reducible rfl))
        go_simp
        refine wpAny_take (i := 12) (v := ?v10) rfl (by kernel_rfl) (by kernel_rfl) (by kernel_rfl) (fun _ _ _ h => h) (Or.inl ⟨by rfl, ?h10⟩) ?_
        case h10 => (intro w; go_simp; try (with_reducible rfl))
        go_simp
        refine wpAny_ready (rs := [13]) (by kernel_rfl) (by simp) ?_
        refine AllReady.cons rfl (fun K hK => ?_) ?_
        · go_simp
          refine hK _ _ ?_
          clear hK K
          refine wpAny_take (i := 14) (v := ?v11) rfl (by kernel_rfl) (by kernel_rfl) (by kernel_rfl) (fun _ _ _ h => h) (Or.inl ⟨by rfl, ?h11⟩) ?_
          case h11 => (intro w; go_simp; try (with_reducible rfl))
          go_simp
          refine wpAny_done (by kernel_rfl) ?_ _
          generalize (V5.setCell ⟨ms, o * 2, none⟩ (.int .u32 (toI E))).setCell ⟨ms, o * 2 + 1, none⟩ (.int .i64 (N : Int)) = V6 at I6 X6 R6 ⊢
          have x36 : V6.cell? ⟨bx, 3, none⟩ = some (.slice a len cap) := X6.out.cell 3
          clear m05 m15 f05 f15 x35 I5 X5 R5
          go_wp2_with fail
          refine (kept_any _ g c a len cap zs _ R6.out (bytes_kept HB.out I6.out.2.2.2.1) (by omega)).mono ?_
          rintro e V7 ⟨rfl, rfl⟩
          go_wp2_with fail
          go_ret2
          exact ⟨0, _, _, rfl, I6⟩
        exact AllReady.nil
      exact AllReady.nil
    exact AllReady.nil
  refine AllReady.cons rfl (fun K hK => ?_) ?_
  · go_simp
    refine hK _ _ ?_
    clear hK K
    refine wpAny_ready (rs := [5]) (by kernel_rfl) (by simp) ?_
    refine AllReady.cons rfl (fun K hK => ?_) ?_
    · go_simp
      refine hK _ _ ?_
      clear hK K
      refine wpAny_ready (rs := [8]) (by kernel_rfl) (by simp) ?_
      refine AllReady.cons rfl (fun K hK => ?_) ?_
      · go_simp
        go_wp2_with fail
        refine (radd_ok (s o) (n o) a len cap zs W3.drew (hid (bytes_kept HB.out (inv_drew I3.out).2.2.2.1)) hs (by omega)).mono ?_
        rintro e V5 ⟨rfl, b5⟩
        rw [← HE.out, ← HN.out]
        have I5 := hid (inv_later (inv_drew I3.out) b5)
        have X5 := hid ((show Lm.Blk W3.drew bx 49 #[.int .i64 kd, .int .i64 on, .int .i64 of, .slice a len cap] from X3.out).later b5)
        have R5 := hid (row_below (World.ownsRow.drew R3.out) b5)
        have m05 := (I5.out.2.2.1.cells o ho3).1
        have m15 := (I5.out.2.2.1.cells o ho3).2
        have f05 := I5.out.2.2.1.fz (o * 2)
        have f15 := I5.out.2.2.1.fz (o * 2 + 1)
        have x35 : V5.cell? ⟨bx, 3, none⟩ = some (.slice a len cap) := X5.out.cell 3
        have I6 := hid (inv_mem G.out I5.out o ho3 E N)
        have g6 := grown_trans (grown_set V5 ms (o * 2) (.int .u32 (toI E))) (grown_set _ ms (o * 2 + 1) (.int .i64 (N : Int)))
        have X6 := hid (X5.out.kept g6 (by simp; omega))
        have R6 := hid (R5.out.kept g6 (by simp; omega))
        clear b5 g6
        go_wp2_with fail
        refine wpAny_take (i := 9) (v := ?v12) rfl (by kernel_rfl) (by kernel_rfl) (by kernel_rfl) (fun _ _ _ h => h) (Or.inl ⟨by rfl, ?h12⟩) ?_
        case h12 => (intro w; go_simp; try (with_reducible rfl))
        go_simp
        refine wpAny_take (i := 10) (v := ?v13) rfl (by kernel_rfl) (by kernel_rfl) (by kernel_rfl) (fun _ _ _ h => h) (Or.inl ⟨by rfl, ?h13⟩) ?_
        case h13 => (intro w; go_simp; try (with_reducible rfl))
        go_simp
        refine wpAny_take (i := 11) (v := ?v14) rfl (by kernel_rfl) (by kernel_rfl) (by kernel_rfl) (fun _ _ _ h => h) (Or.inl ⟨by rfl, ?h14⟩) ?_
        case h14 => (intro w; go_simp; try (with_reducible rfl))
        go_simp
        refine wpAny_take (i := 12) (v := ?v15) rfl (by kernel_rfl) (by kernel_rfl) (by kernel_rfl) (fun _ _ _ h => h) (Or.inl ⟨by rfl, ?h15⟩) ?_
        case h15 => (intro w; go_simp; try (with_reducible rfl))
        go_simp
        refine wpAny_ready (rs := [13]) (by kernel_rfl) (by simp) ?_
        refine AllReady.cons rfl (fun K hK => ?_) ?_
        · go_simp
          refine hK _ _ ?_
          clear hK K
          refine wpAny_take (i := 14) (v := ?v16) rfl (by kernel_rfl) (by kernel_rfl) (by kernel_rfl) (fun _ _ _ h => h) (Or.inl ⟨by rfl, ?h16⟩) ?_
          case h16 => (intro w; go_simp; try (with_reducible rfl))
          go_simp
          refine wpAny_done (by kernel_rfl) ?_ _
          generalize (V5.setCell ⟨ms, o * 2, none⟩ (.int .u32 (toI E))).setCell ⟨ms, o * 2 + 1, none⟩ (.int .i64 (N : Int)) = V6 at I6 X6 R6 ⊢
          have x36 : V6.cell? ⟨bx, 3, none⟩ = some (.slice a len cap) := X6.out.cell 3
          clear m05 m15 f05 f15 x35 I5 X5 R5
          go_wp2_with fail
          refine (kept_any _ g c a len cap zs _ R6.out (bytes_kept HB.out I6.out.2.2.2.1) (by omega)).mono ?_
          rintro e V7 ⟨rfl, rfl⟩
          go_wp2_with fail
          go_ret2
          exact ⟨0, _, _, rfl, I6⟩
        exact AllReady.nil
      exact AllReady.nil
    exact AllReady.nil
  exact AllReady.nil
set_option maxHeartbeats 16000000 in
set_option maxRecDepth 100000 in
theorem does0_big (w : World) (r : Nat → Nat) (rs ms : Nat) (s : Nat → BitVec 32) (n : Nat → Nat) (kd on of : Int) (a : Option Addr) (len cap : Nat) (zs : List Int) (W : World) (G : Hid (Geo w r rs ms)) (I : Hid (Inv w r rs ms s n s n W)) (T : Hid (Tab w)) (HB : Hid (Bytes w a len cap zs)) (hcap : cap ≤ 140737488351232) (hk : kd % 4 = 0) (o : Nat) (ho3 : o < 3) (HO : Hid (on % 3 = (o : Int))) (hs : ¬ n o + len ≤ 9007199254740992) :
    Calls Tryd.prog 22 #[.slice (some ⟨rs, 0, none⟩) 3 3, .slice (some ⟨ms, 0, none⟩) 3 3, .agg #[.int .i64 kd, .int .i64 on, .int .i64 of, .slice a len cap]] W fun e W' => ∃ v s' n', e = .returned (.tuple #[.int .i64 v, .int .i64 v]) ∧ Hid (Inv w r rs ms s' n' s' n' W') := by
  have HK := hid hk
  have hoI : (o : Int) < 3 := by omega
  have hlc : len ≤ cap := HB.out.2.1
  have b1 := (Below.refl W.heap.size W).alloc (Nat.le_refl _) (.cells #[.int .i64 kd, .int .i64 on, .int .i64 of, .slice a len cap] 49)
  have I1 := hid (inv_later I.out b1)
  have X1 := hid (Lm.Blk.new W 49 #[.int .i64 kd, .int .i64 on, .int .i64 of, .slice a len cap])
  have hrb : ∀ k, k < 3 → r k < W.heap.size := fun k hk => (I.out.1 k hk).lt
  have hmb : ms < W.heap.size := I.out.2.2.1.lt
  obtain ⟨bx, HX⟩ : ∃ bx, Hid (bx = W.heap.size) := ⟨_, rfl⟩
  have hrb2 : r o < bx := by rw [HX.out]; exact hrb o ho3
  have hmb2 : ms < bx := by rw [HX.out]; exact hmb
  rw [← HX.out] at X1
  have C1 := I1.out.2.1 o ho3
  have hwb : w.heap.size ≤ bx := by rw [HX.out]; exact I.out.2.2.2.1.size
  have hG := G.out.2.2
  have HG3 := hid hG
  clear b1 I hk hrb hmb hG
  go_enter Tryd.func22, Tryd.ntmps22
  go_wp2_with fail
  rw [← HX.out]
  generalize W.alloc (.cells #[.int .i64 kd, .int .i64 on, .int .i64 of, .slice a len cap] 49) = W1 at I1 X1 C1 ⊢
  have y0 : W1.cell? ⟨bx, 0, none⟩ = some (.int .i64 kd) := X1.out.cell 0
  have y2 : W1.cell? ⟨bx, 2, none⟩ = some (.int .i64 of) := X1.out.cell 2
  have y3 : W1.cell? ⟨bx, 3, none⟩ = some (.slice a len cap) := X1.out.cell 3
  refine (among_any on 3 _ (by omega) (by omega)).mono ?_
  rintro e W1 ⟨rfl, rfl⟩
  rw [HO.out]
  go_wp2_with fail
  refine (among_any kd 4 _ (by omega) (by omega)).mono ?_
  rintro e W1 ⟨rfl, rfl⟩
  rw [HK.out]
  go_wp2_with fail
  refine (lent_any a len cap zs _ (bytes_kept HB.out I1.out.2.2.2.1) (by omega)).mono ?_
  rintro e W2 ⟨g, c, rfl, R2, b2⟩
  have hgb : bx < g := by have := R2.lt; have := X1.out.lt; omega
  have HR2 := hid R2
  have I2 := hid (inv_later I1.out b2)
  have X2 := hid (X1.out.later b2)
  have L2 := hid (lent_bytes R2 HB.out.2.2.2.1)
  have C2 := I2.out.2.1 o ho3
  clear R2 b2 C1
  go_wp2_with fail
  refine (Add_big (r o) (s o) (n o) _ len c _ (hid (I2.out.1 o ho3)) ⟨by omega, by have := I2.out.2.2.2.2 o ho3; omega⟩ (by omega)).mono ?_
  rintro e W3 ⟨rfl, rfl⟩
  have I3 := I2
  have X3 := X2
  have R3 := HR2
  have m03 := (I3.out.2.2.1.cells o ho3).1
  have m13 := (I3.out.2.2.1.cells o ho3).2
  have f03 := I3.out.2.2.1.fz (o * 2)
  have f13 := I3.out.2.2.1.fz (o * 2 + 1)
  have x33 : W3.cell? ⟨bx, 3, none⟩ = some (.slice a len cap) := X3.out.cell 3
  go_wp2_with fail
  refine wp_region_any (by kernel_rfl) ?_
  change wpAny _ _ _ _ _ _ _ (World.drew _)
  refine wpAny_take (i := 0) (v := ?v17) rfl (by kernel_rfl) (by kernel_rfl) (by kernel_rfl) (fun _ _ _ h => h) (Or.inl ⟨by rfl, ?h17⟩) ?_
  case h17 => (intro w; go_simp; try (with_reducible rfl))
  go_simp
  refine wpAny_take (i := 1) (v := ?v18) rfl (by kernel_rfl) (by kernel_rfl) (by kernel_rfl) (fun _ _ _ h => h) (Or.inl ⟨by rfl, ?h18⟩) ?_
  case h18 => (intro w; go_simp; try (with_reducible rfl))
  go_simp
  refine wpAny_take (i := 2) (v := ?v19) rfl (by kernel_rfl) (by kernel_rfl) (by kernel_rfl) (fun _ _ _ h => h) (Or.inl ⟨by rfl, ?h19⟩) ?_
  case h19 => (intro w; go_simp; try (with_reducible rfl))
  go_simp
  refine wpAny_take (i := 3) (v := ?v20) rfl (by kernel_rfl) (by kernel_rfl) (by kernel_rfl) (fun _ _ _ h => h) (Or.inl ⟨by rfl, ?h20⟩) ?_
  case h20 => (intro w; go_simp; try (with_reducible rfl))
  go_simp
  refine wpAny_take (i := 4) (v := ?v21) rfl (by kernel_rfl) (by kernel_rfl) (by kernel_rfl) (fun _ _ _ h => h) (Or.inl ⟨by rfl, ?h21⟩) ?_
  case h21 => (intro w; go_simp; try (with_reducible rfl))
  go_simp
  refine wpAny_take (i := 6) (v := ?v22) rfl (by kernel_rfl) (by kernel_rfl) (by kernel_rfl) (fun _ _ _ h => h) (Or.inl ⟨by rfl, ?h22⟩) ?_
  case h22 => (intro w; go_simp; try (with_reducible rfl))
  go_simp
  refine wpAny_ready (rs := [5, 7]) (by kernel_rfl) (by simp) ?_
  refine AllReady.cons rfl (fun K hK => ?_) ?_
  · go_simp
    refine hK _ _ ?_
    clear hK K
    refine wpAny_ready (rs := [7]) (by kernel_rfl) (by simp) ?_
    refine AllReady.cons rfl (fun K hK => ?_) ?_
    · go_simp
      refine hK _ _ ?_
      clear hK K
      refine wpAny_ready (rs := [8]) (by kernel_rfl) (by simp) ?_
      refine AllReady.cons rfl (fun K hK => ?_) ?_
      · go_simp
        go_wp2_with fail
        refine (radd_big (s o) (n o) a len cap W3.drew (I3.out.2.2.2.2 o ho3) hs (by omega)).mono ?_
        rintro e V5 ⟨rfl, b5⟩

        have I5 := hid (inv_later (inv_drew I3.out) b5)
        have X5 := hid ((show Lm.Blk W3.drew bx 49 #[.int .i64 kd, .int .i64 on, .int .i64 of, .slice a len cap] from X3.out).later b5)
        have R5 := hid (row_below (World.ownsRow.drew R3.out) b5)
        have m05 := (I5.out.2.2.1.cells o ho3).1
        have m15 := (I5.out.2.2.1.cells o ho3).2
        have f05 := I5.out.2.2.1.fz (o * 2)
        have f15 := I5.out.2.2.1.fz (o * 2 + 1)
        have x35 : V5.cell? ⟨bx, 3, none⟩ = some (.slice a len cap) := X5.out.cell 3
        have I6 := hid (inv_mem G.out I5.out o ho3 (s o) (n o))
        have g6 := grown_trans (grown_set V5 ms (o * 2) (.int .u32 (toI (s o)))) (grown_set _ ms (o * 2 + 1) (.int .i64 (n o)))
        have X6 := hid (X5.out.kept g6 (by simp; omega))
        have R6 := hid (R5.out.kept g6 (by simp; omega))
        clear b5 g6
        go_wp2_with fail
        refine wpAny_take (i := 9) (v := ?v23) rfl (by kernel_rfl) (by kernel_rfl) (by kernel_rfl) (fun _ _ _ h => h) (Or.inl ⟨by rfl, ?h23⟩) ?_
        case h23 => (intro w; go_simp; try (with_reducible rfl))
        go_simp
        refine wpAny_take (i := 10) (v := ?v24) rfl (by kernel_rfl) (by kernel_rfl) (by kernel_rfl) (fun _ _ _ h => h) (Or.inl ⟨by rfl, ?h24⟩) ?_
        case h24 => (intro w; go_simp; try (with_reducible rfl))
        go_simp
        refine wpAny_take (i := 11) (v := ?v25) rfl (by kernel_rfl) (by kernel_rfl) (by kernel_rfl) (fun _ _ _ h => h) (Or.inl ⟨by rfl, ?h25⟩) ?_
        case h25 => (intro w; go_simp; try (with_reducible rfl))
        go_simp
        refine wpAny_take (i := 12) (v := ?v26) rfl (by kernel_rfl) (by kernel_rfl) (by kernel_rfl) (fun _ _ _ h => h) (Or.inl ⟨by rfl, ?h26⟩) ?_
        case h26 => (intro w; go_simp; try (with_reducible rfl))
        go_simp
        refine wpAny_ready (rs := [13]) (by kernel_rfl) (by simp) ?_
        refine AllReady.cons rfl (fun K hK => ?_) ?_
        · go_simp
          refine hK _ _ ?_
          clear hK K
          refine wpAny_take (i := 14) (v := ?v27) rfl (by kernel_rfl) (by kernel_rfl) (by kernel_rfl) (fun _ _ _ h => h) (Or.inl ⟨by rfl, ?h27⟩) ?_
          case h27 => (intro w; go_simp; try (with_reducible rfl))
          go_simp
          refine wpAny_done (by kernel_rfl) ?_ _
          generalize (V5.setCell ⟨ms, o * 2, none⟩ (.int .u32 (toI (s o)))).setCell ⟨ms, o * 2 + 1, none⟩ (.int .i64 (n o : Int)) = V6 at I6 X6 R6 ⊢
          have x36 : V6.cell? ⟨bx, 3, none⟩ = some (.slice a len cap) := X6.out.cell 3
          clear m05 m15 f05 f15 x35 I5 X5 R5
          go_wp2_with fail
          refine (kept_any _ g c a len cap zs _ R6.out (bytes_kept HB.out I6.out.2.2.2.1) (by omega)).mono ?_
          rintro e V7 ⟨rfl, rfl⟩
          go_wp2_with fail
          go_ret2
          exact ⟨3, s, n, rfl, by rw [upd_self, upd_self] at I6; exact I6⟩
        exact AllReady.nil
      exact AllReady.nil
    exact AllReady.nil
  refine AllReady.cons rfl (fun K hK => ?_) ?_
  · go_simp
    refine hK _ _ ?_
    clear hK K
    refine wpAny_ready (rs := [5]) (by kernel_rfl) (by simp) ?_
    refine AllReady.cons rfl (fun K hK => ?_) ?_
    · go_simp
      refine hK _ _ ?_
      clear hK K
      refine wpAny_ready (rs := [8]) (by kernel_rfl) (by simp) ?_
      refine AllReady.cons rfl (fun K hK => ?_) ?_
      · go_simp
        go_wp2_with fail
        refine (radd_big (s o) (n o) a len cap W3.drew (I3.out.2.2.2.2 o ho3) hs (by omega)).mono ?_
        rintro e V5 ⟨rfl, b5⟩

        have I5 := hid (inv_later (inv_drew I3.out) b5)
        have X5 := hid ((show Lm.Blk W3.drew bx 49 #[.int .i64 kd, .int .i64 on, .int .i64 of, .slice a len cap] from X3.out).later b5)
        have R5 := hid (row_below (World.ownsRow.drew R3.out) b5)
        have m05 := (I5.out.2.2.1.cells o ho3).1
        have m15 := (I5.out.2.2.1.cells o ho3).2
        have f05 := I5.out.2.2.1.fz (o * 2)
        have f15 := I5.out.2.2.1.fz (o * 2 + 1)
        have x35 : V5.cell? ⟨bx, 3, none⟩ = some (.slice a len cap) := X5.out.cell 3
        have I6 := hid (inv_mem G.out I5.out o ho3 (s o) (n o))
        have g6 := grown_trans (grown_set V5 ms (o * 2) (.int .u32 (toI (s o)))) (grown_set _ ms (o * 2 + 1) (.int .i64 (n o)))
        have X6 := hid (X5.out.kept g6 (by simp; omega))
        have R6 := hid (R5.out.kept g6 (by simp; omega))
        clear b5 g6
        go_wp2_with fail
        refine wpAny_take (i := 9) (v := ?v28) rfl (by kernel_rfl) (by kernel_rfl) (by kernel_rfl) (fun _ _ _ h => h) (Or.inl ⟨by rfl, ?h28⟩) ?_
        case h28 => (intro w; go_simp; try (with_reducible rfl))
        go_simp
        refine wpAny_take (i := 10) (v := ?v29) rfl (by kernel_rfl) (by kernel_rfl) (by kernel_rfl) (fun _ _ _ h => h) (Or.inl ⟨by rfl, ?h29⟩) ?_
        case h29 => (intro w; go_simp; try (with_reducible rfl))
        go_simp
        refine wpAny_take (i := 11) (v := ?v30) rfl (by kernel_rfl) (by kernel_rfl) (by kernel_rfl) (fun _ _ _ h => h) (Or.inl ⟨by rfl, ?h30⟩) ?_
        case h30 => (intro w; go_simp; try (with_reducible rfl))
        go_simp
        refine wpAny_take (i := 12) (v := ?v31) rfl (by kernel_rfl) (by kernel_rfl) (by kernel_rfl) (fun _ _ _ h => h) (Or.inl ⟨by rfl, ?h31⟩) ?_
        case h31 => (intro w; go_simp; try (with_reducible rfl))
        go_simp
        refine wpAny_ready (rs := [13]) (by kernel_rfl) (by simp) ?_
        refine AllReady.cons rfl (fun K hK => ?_) ?_
        · go_simp
          refine hK _ _ ?_
          clear hK K
          refine wpAny_take (i := 14) (v := ?v32) rfl (by kernel_rfl) (by kernel_rfl) (by kernel_rfl) (fun _ _ _ h => h) (Or.inl ⟨by rfl, ?h32⟩) ?_
          case h32 => (intro w; go_simp; try (with_reducible rfl))
          go_simp
          refine wpAny_done (by kernel_rfl) ?_ _
          generalize (V5.setCell ⟨ms, o * 2, none⟩ (.int .u32 (toI (s o)))).setCell ⟨ms, o * 2 + 1, none⟩ (.int .i64 (n o : Int)) = V6 at I6 X6 R6 ⊢
          have x36 : V6.cell? ⟨bx, 3, none⟩ = some (.slice a len cap) := X6.out.cell 3
          clear m05 m15 f05 f15 x35 I5 X5 R5
          go_wp2_with fail
          refine (kept_any _ g c a len cap zs _ R6.out (bytes_kept HB.out I6.out.2.2.2.1) (by omega)).mono ?_
          rintro e V7 ⟨rfl, rfl⟩
          go_wp2_with fail
          go_ret2
          exact ⟨3, s, n, rfl, by rw [upd_self, upd_self] at I6; exact I6⟩
        exact AllReady.nil
      exact AllReady.nil
    exact AllReady.nil
  exact AllReady.nil
set_option maxHeartbeats 16000000 in
set_option maxRecDepth 100000 in
theorem does1_ok (w : World) (r : Nat → Nat) (rs ms : Nat) (s : Nat → BitVec 32) (n : Nat → Nat) (kd on of : Int) (a : Option Addr) (len cap : Nat) (zs : List Int) (W : World) (G : Hid (Geo w r rs ms)) (I : Hid (Inv w r rs ms s n s n W)) (T : Hid (Tab w)) (HB : Hid (Bytes w a len cap zs)) (hcap : cap ≤ 140737488351232) (hk : kd % 4 = 1) (o : Nat) (ho3 : o < 3) (HO : Hid (on % 3 = (o : Int))) (hs : n o + len ≤ 9007199254740992) :
    Calls Tryd.prog 22 #[.slice (some ⟨rs, 0, none⟩) 3 3, .slice (some ⟨ms, 0, none⟩) 3 3, .agg #[.int .i64 kd, .int .i64 on, .int .i64 of, .slice a len cap]] W fun e W' => ∃ v s' n', e = .returned (.tuple #[.int .i64 v, .int .i64 v]) ∧ Hid (Inv w r rs ms s' n' s' n' W') := by
  have HK := hid hk
  have hoI : (o : Int) < 3 := by omega
  have hlc : len ≤ cap := HB.out.2.1
  have b1 := (Below.refl W.heap.size W).alloc (Nat.le_refl _) (.cells #[.int .i64 kd, .int .i64 on, .int .i64 of, .slice a len cap] 49)
  have I1 := hid (inv_later I.out b1)
  have X1 := hid (Lm.Blk.new W 49 #[.int .i64 kd, .int .i64 on, .int .i64 of, .slice a len cap])
  have hrb : ∀ k, k < 3 → r k < W.heap.size := fun k hk => (I.out.1 k hk).lt
  have hmb : ms < W.heap.size := I.out.2.2.1.lt
  obtain ⟨bx, HX⟩ : ∃ bx, Hid (bx = W.heap.size) := ⟨_, rfl⟩
  have hrb2 : r o < bx := by rw [HX.out]; exact hrb o ho3
  have hmb2 : ms < bx := by rw [HX.out]; exact hmb
  rw [← HX.out] at X1
  obtain ⟨E, HE⟩ : ∃ E, Hid (E = extend (s o) zs) := ⟨_, rfl⟩
  obtain ⟨N, HN⟩ : ∃ N, Hid (N = n o + len) := ⟨_, rfl⟩
  have C1 := I1.out.2.1 o ho3
  have hwb : w.heap.size ≤ bx := by rw [HX.out]; exact I.out.2.2.2.1.size
  have hG := G.out.2.2
  have HG3 := hid hG
  clear b1 I hk hrb hmb hG
  go_enter Tryd.func22, Tryd.ntmps22
  go_wp2_with fail
  rw [← HX.out]
  generalize W.alloc (.cells #[.int .i64 kd, .int .i64 on, .int .i64 of, .slice a len cap] 49) = W1 at I1 X1 C1 ⊢
  have y0 : W1.cell? ⟨bx, 0, none⟩ = some (.int .i64 kd) := X1.out.cell 0
  have y2 : W1.cell? ⟨bx, 2, none⟩ = some (.int .i64 of) := X1.out.cell 2
  have y3 : W1.cell? ⟨bx, 3, none⟩ = some (.slice a len cap) := X1.out.cell 3
  refine (among_any on 3 _ (by omega) (by omega)).mono ?_
  rintro e W1 ⟨rfl, rfl⟩
  rw [HO.out]
  go_wp2_with fail
  refine (among_any kd 4 _ (by omega) (by omega)).mono ?_
  rintro e W1 ⟨rfl, rfl⟩
  rw [HK.out]
  have ID := hid (inv_drew I1.out)
  have kB := Bytes.conv (bytes_kept HB.out ID.out.2.2.2.1)
  have HTs : Hid ((str zs).size = len) := by show _ = _; rw [str_size zs HB.out.2.2.2.1, HB.out.1]
  have HT1 := hid (tx_str zs HB.out.2.2.2.1)
  go_wp2_with fail
  refine wp_region_any (by kernel_rfl) ?_
  change wpAny _ _ _ _ _ _ _ (World.drew _)
  refine wpAny_take (i := 0) (v := ?v33) rfl (by kernel_rfl) (by kernel_rfl) (by kernel_rfl) (fun _ _ _ h => h) (Or.inl ⟨by rfl, ?h33⟩) ?_
  case h33 => (intro w; go_simp; try (with_reducible rfl))
  go_simp
  refine wpAny_take (i := 1) (v := ?v34) rfl (by kernel_rfl) (by kernel_rfl) (by kernel_rfl) (fun _ _ _ h => h) (Or.inl ⟨by rfl, ?h34⟩) ?_
  case h34 => (intro w; go_simp; try (with_reducible rfl))
  go_simp
  refine wpAny_take (i := 2) (v := ?v35) rfl (by kernel_rfl) (by kernel_rfl) (by kernel_rfl) (fun _ _ _ h => h) (Or.inl ⟨by rfl, ?h35⟩) ?_
  case h35 => (intro w; go_simp; try (with_reducible rfl))
  go_simp
  refine wpAny_take (i := 4) (v := ?v36) rfl (by kernel_rfl) (by kernel_rfl) (by kernel_rfl) (fun _ _ _ h => h) (Or.inl ⟨by rfl, ?h36⟩) ?_
  case h36 => (intro w; go_simp; try (with_reducible rfl))
  go_simp
  refine wpAny_ready (rs := [3, 5]) (by kernel_rfl) (by simp) ?_
  refine AllReady.cons rfl (fun K hK => ?_) ?_
  · go_simp
    refine hK _ _ ?_
    clear hK K
    refine wpAny_ready (rs := [5]) (by kernel_rfl) (by simp) ?_
    refine AllReady.cons rfl (fun K hK => ?_) ?_
    · go_simp
      refine hK _ _ ?_
      clear hK K
      refine wpAny_ready (rs := [6]) (by kernel_rfl) (by simp) ?_
      refine AllReady.cons rfl (fun K hK => ?_) ?_
      · go_simp
        refine hK _ _ ?_
        clear hK K
        refine wpAny_ready (rs := [7]) (by kernel_rfl) (by simp) ?_
        refine AllReady.cons rfl (fun K hK => ?_) ?_
        · go_simp
          go_wp2_with fail
          refine (AddText_ok (r o) (s o) (n o) (str zs) _ (hid (ID.out.1 o ho3)) (tab_later T ID.out.2.2.2.1) (by omega) (by rw [HTs.out]; omega) (by rw [HTs.out]; omega)).mono ?_
          rintro e W3 ⟨rfl, A3, g3⟩
          have A3' : At W3 (r o) E (N : Int) := by rw [HT1.out, HTs.out] at A3; rw [HE.out, HN.out]; simpa using A3
          have I3 := hid (inv_run G.out ID.out o ho3 E N g3 A3' (by rw [HN.out]; exact hs))
          have X3 := hid ((show Lm.Blk W1.drew bx 49 #[.int .i64 kd, .int .i64 on, .int .i64 of, .slice a len cap] from X1.out).kept g3 (by simp; omega))
          clear A3 A3' g3
          have m03 := (I3.out.2.2.1.cells o ho3).1
          have m13 := (I3.out.2.2.1.cells o ho3).2
          have f03 := I3.out.2.2.1.fz (o * 2)
          have f13 := I3.out.2.2.1.fz (o * 2 + 1)
          have x33 : W3.cell? ⟨bx, 3, none⟩ = some (.slice a len cap) := X3.out.cell 3
          clear kB
          go_wp2_with fail
          refine wpAny_take (i := 8) (v := ?v37) rfl (by kernel_rfl) (by kernel_rfl) (by kernel_rfl) (fun _ _ _ h => h) (Or.inl ⟨by rfl, ?h37⟩) ?_
          case h37 => (intro w; go_simp; try (with_reducible rfl))
          go_simp
          refine wpAny_done (by kernel_rfl) ?_ _
          go_wp2_with fail
          refine wp_region_any (by kernel_rfl) ?_
          change wpAny _ _ _ _ _ _ _ (World.drew _)
          refine wpAny_take (i := 0) (v := ?v38) rfl (by kernel_rfl) (by kernel_rfl) (by kernel_rfl) (fun _ _ _ h => h) (Or.inl ⟨by rfl, ?h38⟩) ?_
          case h38 => (intro w; go_simp; try (with_reducible rfl))
          go_simp
          refine wpAny_take (i := 1) (v := ?v39) rfl (by kernel_rfl) (by kernel_rfl) (by kernel_rfl) (fun _ _ _ h => h) (Or.inl ⟨by rfl, ?h39⟩) ?_
          case h39 => (intro w; go_simp; try (with_reducible rfl))
          go_simp
          refine wpAny_take (i := 2) (v := ?v40) rfl (by kernel_rfl) (by kernel_rfl) (by kernel_rfl) (fun _ _ _ h => h) (Or.inl ⟨by rfl, ?h40⟩) ?_
          case h40 => (intro w; go_simp; try (with_reducible rfl))
          go_simp
          refine wpAny_take (i := 3) (v := ?v41) rfl (by kernel_rfl) (by kernel_rfl) (by kernel_rfl) (fun _ _ _ h => h) (Or.inl ⟨by rfl, ?h41⟩) ?_
          case h41 => (intro w; go_simp; try (with_reducible rfl))
          go_simp
          refine wpAny_take (i := 4) (v := ?v42) rfl (by kernel_rfl) (by kernel_rfl) (by kernel_rfl) (fun _ _ _ h => h) (Or.inl ⟨by rfl, ?h42⟩) ?_
          case h42 => (intro w; go_simp; try (with_reducible rfl))
          go_simp
          refine wpAny_take (i := 6) (v := ?v43) rfl (by kernel_rfl) (by kernel_rfl) (by kernel_rfl) (fun _ _ _ h => h) (Or.inl ⟨by rfl, ?h43⟩) ?_
          case h43 => (intro w; go_simp; try (with_reducible rfl))
          go_simp
          refine wpAny_ready (rs := [5, 7]) (by kernel_rfl) (by simp) ?_
          refine AllReady.cons rfl (fun K hK => ?_) ?_
          · go_simp
            refine hK _ _ ?_
            clear hK K
            refine wpAny_ready (rs := [7]) (by kernel_rfl) (by simp) ?_
            refine AllReady.cons rfl (fun K hK => ?_) ?_
            · go_simp
              refine hK _ _ ?_
              clear hK K
              refine wpAny_ready (rs := [8]) (by kernel_rfl) (by simp) ?_
              refine AllReady.cons rfl (fun K hK => ?_) ?_
              · go_simp
                go_wp2_with fail
                refine (radd_ok (s o) (n o) a len cap zs W3.drew (hid (bytes_kept HB.out (inv_drew I3.out).2.2.2.1)) hs (by omega)).mono ?_
                rintro e V5 ⟨rfl, b5⟩
                rw [← HE.out, ← HN.out]
                have I5 := hid (inv_later (inv_drew I3.out) b5)
                have X5 := hid ((show Lm.Blk W3.drew bx 49 #[.int .i64 kd, .int .i64 on, .int .i64 of, .slice a len cap] from X3.out).later b5)
                have m05 := (I5.out.2.2.1.cells o ho3).1
                have m15 := (I5.out.2.2.1.cells o ho3).2
                have f05 := I5.out.2.2.1.fz (o * 2)
                have f15 := I5.out.2.2.1.fz (o * 2 + 1)
                have x35 : V5.cell? ⟨bx, 3, none⟩ = some (.slice a len cap) := X5.out.cell 3
                have I6 := hid (inv_mem G.out I5.out o ho3 E N)
                have g6 := grown_trans (grown_set V5 ms (o * 2) (.int .u32 (toI E))) (grown_set _ ms (o * 2 + 1) (.int .i64 (N : Int)))
                have X6 := hid (X5.out.kept g6 (by simp; omega))
                clear b5 g6
                go_wp2_with fail
                refine wpAny_take (i := 9) (v := ?v44) rfl (by kernel_rfl) (by kernel_rfl) (by kernel_rfl) (fun _ _ _ h => h) (Or.inl ⟨by rfl, ?h44⟩) ?_
                case h44 => (intro w; go_simp; try (with_reducible rfl))
                go_simp
                refine wpAny_take (i := 10) (v := ?v45) rfl (by kernel_rfl) (by kernel_rfl) (by kernel_rfl) (fun _ _ _ h => h) (Or.inl ⟨by rfl, ?h45⟩) ?_
                case h45 => (intro w; go_simp; try (with_reducible rfl))
                go_simp
                refine wpAny_take (i := 11) (v := ?v46) rfl (by kernel_rfl) (by kernel_rfl) (by kernel_rfl) (fun _ _ _ h => h) (Or.inl ⟨by rfl, ?h46⟩) ?_
                case h46 => (intro w; go_simp; try (with_reducible rfl))
                go_simp
                refine wpAny_take (i := 12) (v := ?v47) rfl (by kernel_rfl) (by kernel_rfl) (by kernel_rfl) (fun _ _ _ h => h) (Or.inl ⟨by rfl, ?h47⟩) ?_
                case h47 => (intro w; go_simp; try (with_reducible rfl))
                go_simp
                refine wpAny_ready (rs := [13]) (by kernel_rfl) (by simp) ?_
                refine AllReady.cons rfl (fun K hK => ?_) ?_
                · go_simp
                  refine hK _ _ ?_
                  clear hK K
                  refine wpAny_take (i := 14) (v := ?v48) rfl (by kernel_rfl) (by kernel_rfl) (by kernel_rfl) (fun _ _ _ h => h) (Or.inl ⟨by rfl, ?h48⟩) ?_
                  case h48 => (intro w; go_simp; try (with_reducible rfl))
                  go_simp
                  refine wpAny_done (by kernel_rfl) ?_ _
                  generalize (V5.setCell ⟨ms, o * 2, none⟩ (.int .u32 (toI E))).setCell ⟨ms, o * 2 + 1, none⟩ (.int .i64 (N : Int)) = V6 at I6 X6 ⊢
                  clear m05 m15 f05 f15 x35 I5 X5
                  go_wp2_with fail
                  go_ret2
                  exact ⟨0, _, _, rfl, I6⟩
                exact AllReady.nil
              exact AllReady.nil
            exact AllReady.nil
          refine AllReady.cons rfl (fun K hK => ?_) ?_
          · go_simp
            refine hK _ _ ?_
            clear hK K
            refine wpAny_ready (rs := [5]) (by kernel_rfl) (by simp) ?_
            refine AllReady.cons rfl (fun K hK => ?_) ?_
            · go_simp
              refine hK _ _ ?_
              clear hK K
              refine wpAny_ready (rs := [8]) (by kernel_rfl) (by simp) ?_
              refine AllReady.cons rfl (fun K hK => ?_) ?_
              · go_simp
                go_wp2_with fail
                refine (radd_ok (s o) (n o) a len cap zs W3.drew (hid (bytes_kept HB.out (inv_drew I3.out).2.2.2.1)) hs (by omega)).mono ?_
                rintro e V5 ⟨rfl, b5⟩
                rw [← HE.out, ← HN.out]
                have I5 := hid (inv_later (inv_drew I3.out) b5)
                have X5 := hid ((show Lm.Blk W3.drew bx 49 #[.int .i64 kd, .int .i64 on, .int .i64 of, .slice a len cap] from X3.out).later b5)
                have m05 := (I5.out.2.2.1.cells o ho3).1
                have m15 := (I5.out.2.2.1.cells o ho3).2
                have f05 := I5.out.2.2.1.fz (o * 2)
                have f15 := I5.out.2.2.1.fz (o * 2 + 1)
                have x35 : V5.cell? ⟨bx, 3, none⟩ = some (.slice a len cap) := X5.out.cell 3
                have I6 := hid (inv_mem G.out I5.out o ho3 E N)
                have g6 := grown_trans (grown_set V5 ms (o * 2) (.int .u32 (toI E))) (grown_set _ ms (o * 2 + 1) (.int .i64 (N : Int)))
                have X6 := hid (X5.out.kept g6 (by simp; omega))
                clear b5 g6
                go_wp2_with fail
                refine wpAny_take (i := 9) (v := ?v49) rfl (by kernel_rfl) (by kernel_rfl) (by kernel_rfl) (fun _ _ _ h => h) (Or.inl ⟨by rfl, ?h49⟩) ?_
                case h49 => (intro w; go_simp; try (with_reducible rfl))
                go_simp
                refine wpAny_take (i := 10) (v := ?v50) rfl (by kernel_rfl) (by kernel_rfl) (by kernel_rfl) (fun _ _ _ h => h) (Or.inl ⟨by rfl, ?h50⟩) ?_
                case h50 => (intro w; go_simp; try (with_reducible rfl))
                go_simp
                refine wpAny_take (i := 11) (v := ?v51) rfl (by kernel_rfl) (by kernel_rfl) (by kernel_rfl) (fun _ _ _ h => h) (Or.inl ⟨by rfl, ?h51⟩) ?_
                case h51 => (intro w; go_simp; try (with_reducible rfl))
                go_simp
                refine wpAny_take (i := 12) (v := ?v52) rfl (by kernel_rfl) (by kernel_rfl) (by kernel_rfl) (fun _ _ _ h => h) (Or.inl ⟨by rfl, ?h52⟩) ?_
                case h52 => (intro w; go_simp; try (with_reducible rfl))
                go_simp
                refine wpAny_ready (rs := [13]) (by kernel_rfl) (by simp) ?_
                refine AllReady.cons rfl (fun K hK => ?_) ?_
                · go_simp
                  refine hK _ _ ?_
                  clear hK K
                  refine wpAny_take (i := 14) (v := ?v53) rfl (by kernel_rfl) (by kernel_rfl) (by kernel_rfl) (fun _ _ _ h => h) (Or.inl ⟨by rfl, ?h53⟩) ?_
                  case h53 => (intro w; go_simp; try (with_reducible rfl))
                  go_simp
                  refine wpAny_done (by kernel_rfl) ?_ _
                  generalize (V5.setCell ⟨ms, o * 2, none⟩ (.int .u32 (toI E))).setCell ⟨ms, o * 2 + 1, none⟩ (.int .i64 (N : Int)) = V6 at I6 X6 ⊢
                  clear m05 m15 f05 f15 x35 I5 X5
                  go_wp2_with fail
                  go_ret2
                  exact ⟨0, _, _, rfl, I6⟩
                exact AllReady.nil
              exact AllReady.nil
            exact AllReady.nil
          exact AllReady.nil
        exact AllReady.nil
      exact AllReady.nil
    exact AllReady.nil
  refine AllReady.cons rfl (fun K hK => ?_) ?_
  · go_simp
    refine hK _ _ ?_
    clear hK K
    refine wpAny_ready (rs := [3, 6]) (by kernel_rfl) (by simp) ?_
    refine AllReady.cons rfl (fun K hK => ?_) ?_
    · go_simp
      refine hK _ _ ?_
      clear hK K
      refine wpAny_ready (rs := [6]) (by kernel_rfl) (by simp) ?_
      refine AllReady.cons rfl (fun K hK => ?_) ?_
      · go_simp
        refine hK _ _ ?_
        clear hK K
        refine wpAny_ready (rs := [7]) (by kernel_rfl) (by simp) ?_
        refine AllReady.cons rfl (fun K hK => ?_) ?_
        · go_simp
          go_wp2_with fail
          refine (AddText_ok (r o) (s o) (n o) (str zs) _ (hid (ID.out.1 o ho3)) (tab_later T ID.out.2.2.2.1) (by omega) (by rw [HTs.out]; omega) (by rw [HTs.out]; omega)).mono ?_
          rintro e W3 ⟨rfl, A3, g3⟩
          have A3' : At W3 (r o) E (N : Int) := by rw [HT1.out, HTs.out] at A3; rw [HE.out, HN.out]; simpa using A3
          have I3 := hid (inv_run G.out ID.out o ho3 E N g3 A3' (by rw [HN.out]; exact hs))
          have X3 := hid ((show Lm.Blk W1.drew bx 49 #[.int .i64 kd, .int .i64 on, .int .i64 of, .slice a len cap] from X1.out).kept g3 (by simp; omega))
          clear A3 A3' g3
          have m03 := (I3.out.2.2.1.cells o ho3).1
          have m13 := (I3.out.2.2.1.cells o ho3).2
          have f03 := I3.out.2.2.1.fz (o * 2)
          have f13 := I3.out.2.2.1.fz (o * 2 + 1)
          have x33 : W3.cell? ⟨bx, 3, none⟩ = some (.slice a len cap) := X3.out.cell 3
          clear kB
          go_wp2_with fail
          refine wpAny_take (i := 8) (v := ?v54) rfl (by kernel_rfl) (by kernel_rfl) (by kernel_rfl) (fun _ _ _ h => h) (Or.inl ⟨by rfl, ?h54⟩) ?_
          case h54 => (intro w; go_simp; try (with_reducible rfl))
          go_simp
          refine wpAny_done (by kernel_rfl) ?_ _
          go_wp2_with fail
          refine wp_region_any (by kernel_rfl) ?_
          change wpAny _ _ _ _ _ _ _ (World.drew _)
          refine wpAny_take (i := 0) (v := ?v55) rfl (by kernel_rfl) (by kernel_rfl) (by kernel_rfl) (fun _ _ _ h => h) (Or.inl ⟨by rfl, ?h55⟩) ?_
          case h55 => (intro w; go_simp; try (with_reducible rfl))
          go_simp
          refine wpAny_take (i := 1) (v := ?v56) rfl (by kernel_rfl) (by kernel_rfl) (by kernel_rfl) (fun _ _ _ h => h) (Or.inl ⟨by rfl, ?h56⟩) ?_
          case h56 => (intro w; go_simp; try (with_reducible rfl))
          go_simp
          refine wpAny_take (i := 2) (v := ?v57) rfl (by kernel_rfl) (by kernel_rfl) (by kernel_rfl) (fun _ _ _ h => h) (Or.inl ⟨by rfl, ?h57⟩) ?_
          case h57 => (intro w; go_simp; try (with_reducible rfl))
          go_simp
          refine wpAny_take (i := 3) (v := ?v58) rfl (by kernel_rfl) (by kernel_rfl) (by kernel_rfl) (fun _ _ _ h => h) (Or.inl ⟨by rfl, ?h58⟩) ?_
          case h58 => (intro w; go_simp; try (with_reducible rfl))
          go_simp
          refine wpAny_take (i := 4) (v := ?v59) rfl (by kernel_rfl) (by kernel_rfl) (by kernel_rfl) (fun _ _ _ h => h) (Or.inl ⟨by rfl, ?h59⟩) ?_
          case h59 => (intro w; go_simp; try (with_reducible rfl))
          go_simp
          refine wpAny_take (i := 6) (v := ?v60) rfl (by kernel_rfl) (by kernel_rfl) (by kernel_rfl) (fun _ _ _ h => h) (Or.inl ⟨by rfl, ?h60⟩) ?_
          case h60 => (intro w; go_simp; try (with_reducible rfl))
          go_simp
          refine wpAny_ready (rs := [5, 7]) (by kernel_rfl) (by simp) ?_
          refine AllReady.cons rfl (fun K hK => ?_) ?_
          · go_simp
            refine hK _ _ ?_
            clear hK K
            refine wpAny_ready (rs := [7]) (by kernel_rfl) (by simp) ?_
            refine AllReady.cons rfl (fun K hK => ?_) ?_
            · go_simp
              refine hK _ _ ?_
              clear hK K
              refine wpAny_ready (rs := [8]) (by kernel_rfl) (by simp) ?_
              refine AllReady.cons rfl (fun K hK => ?_) ?_
              · go_simp
                go_wp2_with fail
                refine (radd_ok (s o) (n o) a len cap zs W3.drew (hid (bytes_kept HB.out (inv_drew I3.out).2.2.2.1)) hs (by omega)).mono ?_
                rintro e V5 ⟨rfl, b5⟩
                rw [← HE.out, ← HN.out]
                have I5 := hid (inv_later (inv_drew I3.out) b5)
                have X5 := hid ((show Lm.Blk W3.drew bx 49 #[.int .i64 kd, .int .i64 on, .int .i64 of, .slice a len cap] from X3.out).later b5)
                have m05 := (I5.out.2.2.1.cells o ho3).1
                have m15 := (I5.out.2.2.1.cells o ho3).2
                have f05 := I5.out.2.2.1.fz (o * 2)
                have f15 := I5.out.2.2.1.fz (o * 2 + 1)
                have x35 : V5.cell? ⟨bx, 3, none⟩ = some (.slice a len cap) := X5.out.cell 3
                have I6 := hid (inv_mem G.out I5.out o ho3 E N)
                have g6 := grown_trans (grown_set V5 ms (o * 2) (.int .u32 (toI E))) (grown_set _ ms (o * 2 + 1) (.int .i64 (N : Int)))
                have X6 := hid (X5.out.kept g6 (by simp; omega))
                clear b5 g6
                go_wp2_with fail
                refine wpAny_take (i := 9) (v := ?v61) rfl (by kernel_rfl) (by kernel_rfl) (by kernel_rfl) (fun _ _ _ h => h) (Or.inl ⟨by rfl, ?h61⟩) ?_
                case h61 => (intro w; go_simp; try (with_reducible rfl))
                go_simp
                refine wpAny_take (i := 10) (v := ?v62) rfl (by kernel_rfl) (by kernel_rfl) (by kernel_rfl) (fun _ _ _ h => h) (Or.inl ⟨by rfl, ?h62⟩) ?_
                case h62 => (intro w; go_simp; try (with_reducible rfl))
                go_simp
                refine wpAny_take (i := 11) (v := ?v63) rfl (by kernel_rfl) (by kernel_rfl) (by kernel_rfl) (fun _ _ _ h => h) (Or.inl ⟨by rfl, ?h63⟩) ?_
                case h63 => (intro w; go_simp; try (with_reducible rfl))
                go_simp
                refine wpAny_take (i := 12) (v := ?v64) rfl (by kernel_rfl) (by kernel_rfl) (by kernel_rfl) (fun _ _ _ h => h) (Or.inl ⟨by rfl, ?h64⟩) ?_
                case h64 => (intro w; go_simp; try (with_reducible rfl))
                go_simp
                refine wpAny_ready (rs := [13]) (by kernel_rfl) (by simp) ?_
                refine AllReady.cons rfl (fun K hK => ?_) ?_
                · go_simp
                  refine hK _ _ ?_
                  clear hK K
                  refine wpAny_take (i := 14) (v := ?v65) rfl (by kernel_rfl) (by kernel_rfl) (by kernel_rfl) (fun _ _ _ h => h) (Or.inl ⟨by rfl, ?h65⟩) ?_
                  case h65 => (intro w; go_simp; try (with_reducible rfl))
                  go_simp
                  refine wpAny_done (by kernel_rfl) ?_ _
                  generalize (V5.setCell ⟨ms, o * 2, none⟩ (.int .u32 (toI E))).setCell ⟨ms, o * 2 + 1, none⟩ (.int .i64 (N : Int)) = V6 at I6 X6 ⊢
                  clear m05 m15 f05 f15 x35 I5 X5
                  go_wp2_with fail
                  go_ret2
                  exact ⟨0, _, _, rfl, I6⟩
                exact AllReady.nil
              exact AllReady.nil
            exact AllReady.nil
          refine AllReady.cons rfl (fun K hK => ?_) ?_
          · go_simp
            refine hK _ _ ?_
            clear hK K
            refine wpAny_ready (rs := [5]) (by kernel_rfl) (by simp) ?_
            refine AllReady.cons rfl (fun K hK => ?_) ?_
            · go_simp
              refine hK _ _ ?_
              clear hK K
              refine wpAny_ready (rs := [8]) (by kernel_rfl) (by simp) ?_
              refine AllReady.cons rfl (fun K hK => ?_) ?_
              · go_simp
                go_wp2_with fail
                refine (radd_ok (s o) (n o) a len cap zs W3.drew (hid (bytes_kept HB.out (inv_drew I3.out).2.2.2.1)) hs (by omega)).mono ?_
                rintro e V5 ⟨rfl, b5⟩
                rw [← HE.out, ← HN.out]
                have I5 := hid (inv_later (inv_drew I3.out) b5)
                have X5 := hid ((show Lm.Blk W3.drew bx 49 #[.int .i64 kd, .int .i64 on, .int .i64 of, .slice a len cap] from X3.out).later b5)
                have m05 := (I5.out.2.2.1.cells o ho3).1
                have m15 := (I5.out.2.2.1.cells o ho3).2
                have f05 := I5.out.2.2.1.fz (o * 2)
                have f15 := I5.out.2.2.1.fz (o * 2 + 1)
                have x35 : V5.cell? ⟨bx, 3, none⟩ = some (.slice a len cap) := X5.out.cell 3
                have I6 := hid (inv_mem G.out I5.out o ho3 E N)
                have g6 := grown_trans (grown_set V5 ms (o * 2) (.int .u32 (toI E))) (grown_set _ ms (o * 2 + 1) (.int .i64 (N : Int)))
                have X6 := hid (X5.out.kept g6 (by simp; omega))
                clear b5 g6
                go_wp2_with fail
                refine wpAny_take (i := 9) (v := ?v66) rfl (by kernel_rfl) (by kernel_rfl) (by kernel_rfl) (fun _ _ _ h => h) (Or.inl ⟨by rfl, ?h66⟩) ?_
                case h66 => (intro w; go_simp; try (with_reducible rfl))
                go_simp
                refine wpAny_take (i := 10) (v := ?v67) rfl (by kernel_rfl) (by kernel_rfl) (by kernel_rfl) (fun _ _ _ h => h) (Or.inl ⟨by rfl, ?h67⟩) ?_
                case h67 => (intro w; go_simp; try (with_reducible rfl))
                go_simp
                refine wpAny_take (i := 11) (v := ?v68) rfl (by kernel_rfl) (by kernel_rfl) (by kernel_rfl) (fun _ _ _ h => h) (Or.inl ⟨by rfl, ?h68⟩) ?_
                case h68 => (intro w; go_simp; try (with_reducible rfl))
                go_simp
                refine wpAny_take (i := 12) (v := ?v69) rfl (by kernel_rfl) (by kernel_rfl) (by kernel_rfl) (fun _ _ _ h => h) (Or.inl ⟨by rfl, ?h69⟩) ?_
                case h69 => (intro w; go_simp; try (with_reducible rfl))
                go_simp
                refine wpAny_ready (rs := [13]) (by kernel_rfl) (by simp) ?_
                refine AllReady.cons rfl (fun K hK => ?_) ?_
                · go_simp
                  refine hK _ _ ?_
                  clear hK K
                  refine wpAny_take (i := 14) (v := ?v70) rfl (by kernel_rfl) (by kernel_rfl) (by kernel_rfl) (fun _ _ _ h => h) (Or.inl ⟨by rfl, ?h70⟩) ?_
                  case h70 => (intro w; go_simp; try (with_reducible rfl))
                  go_simp
                  refine wpAny_done (by kernel_rfl) ?_ _
                  generalize (V5.setCell ⟨ms, o * 2, none⟩ (.int .u32 (toI E))).setCell ⟨ms, o * 2 + 1, none⟩ (.int .i64 (N : Int)) = V6 at I6 X6 ⊢
                  clear m05 m15 f05 f15 x35 I5 X5
                  go_wp2_with fail
                  go_ret2
                  exact ⟨0, _, _, rfl, I6⟩
                exact AllReady.nil
              exact AllReady.nil
            exact AllReady.nil
          exact AllReady.nil
        exact AllReady.nil
      exact AllReady.nil
    refine AllReady.cons rfl (fun K hK => ?_) ?_
    · go_simp
      refine hK _ _ ?_
      clear hK K
      refine wpAny_ready (rs := [3]) (by kernel_rfl) (by simp) ?_
      refine AllReady.cons rfl (fun K hK => ?_) ?_
      · go_simp
        refine hK _ _ ?_
        clear hK K
        refine wpAny_ready (rs := [7]) (by kernel_rfl) (by simp) ?_
        refine AllReady.cons rfl (fun K hK => ?_) ?_
        · go_simp
          go_wp2_with fail
          refine (AddText_ok (r o) (s o) (n o) (str zs) _ (hid (ID.out.1 o ho3)) (tab_later T ID.out.2.2.2.1) (by omega) (by rw [HTs.out]; omega) (by rw [HTs.out]; omega)).mono ?_
          rintro e W3 ⟨rfl, A3, g3⟩
          have A3' : At W3 (r o) E (N : Int) := by rw [HT1.out, HTs.out] at A3; rw [HE.out, HN.out]; simpa using A3
          have I3 := hid (inv_run G.out ID.out o ho3 E N g3 A3' (by rw [HN.out]; exact hs))
          have X3 := hid ((show Lm.Blk W1.drew bx 49 #[.int .i64 kd, .int .i64 on, .int .i64 of, .slice a len cap] from X1.out).kept g3 (by simp; omega))
          clear A3 A3' g3
          have m03 := (I3.out.2.2.1.cells o ho3).1
          have m13 := (I3.out.2.2.1.cells o ho3).2
          have f03 := I3.out.2.2.1.fz (o * 2)
          have f13 := I3.out.2.2.1.fz (o * 2 + 1)
          have x33 : W3.cell? ⟨bx, 3, none⟩ = some (.slice a len cap) := X3.out.cell 3
          clear kB
          go_wp2_with fail
          refine wpAny_take (i := 8) (v := ?v71) rfl (by kernel_rfl) (by kernel_rfl) (by kernel_rfl) (fun _ _ _ h => h) (Or.inl ⟨by rfl, ?h71⟩) ?_
          case h71 => (intro w; go_simp; try (with_reducible rfl))
          go_simp
          refine wpAny_done (by kernel_rfl) ?_ _
          go_wp2_with fail
          refine wp_region_any (by kernel_rfl) ?_
          change wpAny _ _ _ _ _ _ _ (World.drew _)
          refine wpAny_take (i := 0) (v := ?v72) rfl (by kernel_rfl) (by kernel_rfl) (by kernel_rfl) (fun _ _ _ h => h) (Or.inl ⟨by rfl, ?h72⟩) ?_
          case h72 => (intro w; go_simp; try (with_reducible rfl))
          go_simp
          refine wpAny_take (i := 1) (v := ?v73) rfl (by kernel_rfl) (by kernel_rfl) (by kernel_rfl) (fun _ _ _ h => h) (Or.inl ⟨by rfl, ?h73⟩) ?_
          case h73 => (intro w; go_simp; try (with_reducible rfl))
          go_simp
          refine wpAny_take (i := 2) (v := ?v74) rfl (by kernel_rfl) (by kernel_rfl) (by kernel_rfl) (fun _ _ _ h => h) (Or.inl ⟨by rfl, ?h74⟩) ?_
          case h74 => (intro w; go_simp; try (with_reducible rfl))
          go_simp
          refine wpAny_take (i := 3) (v := ?v75) rfl (by kernel_rfl) (by kernel_rfl) (by kernel_rfl) (fun _ _ _ h => h) (Or.inl ⟨by rfl, ?h75⟩) ?_
          case h75 => (intro w; go_simp; try (with_reducible rfl))
          go_simp
          refine wpAny_take (i := 4) (v := ?v76) rfl (by kernel_rfl) (by kernel_rfl) (by kernel_rfl) (fun _ _ _ h => h) (Or.inl ⟨by rfl, ?h76⟩) ?_
          case h76 => (intro w; go_simp; try (with_reducible rfl))
          go_simp
          refine wpAny_take (i := 6) (v := ?v77) rfl (by kernel_rfl) (by kernel_rfl) (by kernel_rfl) (fun _ _ _ h => h) (Or.inl ⟨by rfl, ?h77⟩) ?_
          case h77 => (intro w; go_simp; try (with_reducible rfl))
          go_simp
          refine wpAny_ready (rs := [5, 7]) (by kernel_rfl) (by simp) ?_
          refine AllReady.cons rfl (fun K hK => ?_) ?_
          · go_simp
            refine hK _ _ ?_
            clear hK K
            refine wpAny_ready (rs := [7]) (by kernel_rfl) (by simp) ?_
            refine AllReady.cons rfl (fun K hK => ?_) ?_
            · go_simp
              refine hK _ _ ?_
              clear hK K
              refine wpAny_ready (rs := [8]) (by kernel_rfl) (by simp) ?_
              refine AllReady.cons rfl (fun K hK => ?_) ?_
              · go_simp
                go_wp2_with fail
                refine (radd_ok (s o) (n o) a len cap zs W3.drew (hid (bytes_kept HB.out (inv_drew I3.out).2.2.2.1)) hs (by omega)).mono ?_
                rintro e V5 ⟨rfl, b5⟩
                rw [← HE.out, ← HN.out]
                have I5 := hid (inv_later (inv_drew I3.out) b5)
                have X5 := hid ((show Lm.Blk W3.drew bx 49 #[.int .i64 kd, .int .i64 on, .int .i64 of, .slice a len cap] from X3.out).later b5)
                have m05 := (I5.out.2.2.1.cells o ho3).1
                have m15 := (I5.out.2.2.1.cells o ho3).2
                have f05 := I5.out.2.2.1.fz (o * 2)
                have f15 := I5.out.2.2.1.fz (o * 2 + 1)
                have x35 : V5.cell? ⟨bx, 3, none⟩ = some (.slice a len cap) := X5.out.cell 3
                have I6 := hid (inv_mem G.out I5.out o ho3 E N)
                have g6 := grown_trans (grown_set V5 ms (o * 2) (.int .u32 (toI E))) (grown_set _ ms (o * 2 + 1) (.int .i64 (N : Int)))
                have X6 := hid (X5.out.kept g6 (by simp; omega))
                clear b5 g6
                go_wp2_with fail
                refine wpAny_take (i := 9) (v := ?v78) rfl (by kernel_rfl) (by kernel_rfl) (by kernel_rfl) (fun _ _ _ h => h) (Or.inl ⟨by rfl, ?h78⟩) ?_
                case h78 => (intro w; go_simp; try (with_reducible rfl))
                go_simp
                refine wpAny_take (i := 10) (v := ?v79) rfl (by kernel_rfl) (by kernel_rfl) (by kernel_rfl) (fun _ _ _ h => h) (Or.inl ⟨by rfl, ?h79⟩) ?_
                case h79 => (intro w; go_simp; try (with_reducible rfl))
                go_simp
                refine wpAny_take (i := 11) (v := ?v80) rfl (by kernel_rfl) (by kernel_rfl) (by kernel_rfl) (fun _ _ _ h => h) (Or.inl ⟨by rfl, ?h80⟩) ?_
                case h80 => (intro w; go_simp; try (with_reducible rfl))
                go_simp
                refine wpAny_take (i := 12) (v := ?v81) rfl (by kernel_rfl) (by kernel_rfl) (by kernel_rfl) (fun _ _ _ h => h) (Or.inl ⟨by rfl, ?h81⟩) ?_
                case h81 => (intro w; go_simp; try (with_reducible rfl))
                go_simp
                refine wpAny_ready (rs := [13]) (by kernel_rfl) (by simp) ?_
                refine AllReady.cons rfl (fun K hK => ?_) ?_
                · go_simp
                  refine hK _ _ ?_
                  clear hK K
                  refine wpAny_take (i := 14) (v := ?v82) rfl (by kernel_rfl) (by kernel_rfl) (by kernel_rfl) (fun _ _ _ h => h) (Or.inl ⟨by rfl, ?h82⟩) ?_
                  case h82 => (intro w; go_simp; try (with_reducible rfl))
                  go_simp
                  refine wpAny_done (by kernel_rfl) ?_ _
                  generalize (V5.setCell ⟨ms, o * 2, none⟩ (.int .u32 (toI E))).setCell ⟨ms, o * 2 + 1, none⟩ (.int .i64 (N : Int)) = V6 at I6 X6 ⊢
                  clear m05 m15 f05 f15 x35 I5 X5
                  go_wp2_with fail
                  go_ret2
                  exact ⟨0, _, _, rfl, I6⟩
                exact AllReady.nil
              exact AllReady.nil
            exact AllReady.nil
          refine AllReady.cons rfl (fun K hK => ?_) ?_
          · go_simp
            refine hK _ _ ?_
            clear hK K
            refine wpAny_ready (rs := [5]) (by kernel_rfl) (by simp) ?_
            refine AllReady.cons rfl (fun K hK => ?_) ?_
            · go_simp
              refine hK _ _ ?_
              clear hK K
              refine wpAny_ready (rs := [8]) (by kernel_rfl) (by simp) ?_
              refine AllReady.cons rfl (fun K hK => ?_) ?_
              · go_simp
                go_wp2_with fail
                refine (radd_ok (s o) (n o) a len cap zs W3.drew (hid (bytes_kept HB.out (inv_drew I3.out).2.2.2.1)) hs (by omega)).mono ?_
                rintro e V5 ⟨rfl, b5⟩
                rw [← HE.out, ← HN.out]
                have I5 := hid (inv_later (inv_drew I3.out) b5)
                have X5 := hid ((show Lm.Blk W3.drew bx 49 #[.int .i64 kd, .int .i64 on, .int .i64 of, .slice a len cap] from X3.out).later b5)
                have m05 := (I5.out.2.2.1.cells o ho3).1
                have m15 := (I5.out.2.2.1.cells o ho3).2
                have f05 := I5.out.2.2.1.fz (o * 2)
                have f15 := I5.out.2.2.1.fz (o * 2 + 1)
                have x35 : V5.cell? ⟨bx, 3, none⟩ = some (.slice a len cap) := X5.out.cell 3
                have I6 := hid (inv_mem G.out I5.out o ho3 E N)
                have g6 := grown_trans (grown_set V5 ms (o * 2) (.int .u32 (toI E))) (grown_set _ ms (o * 2 + 1) (.int .i64 (N : Int)))
                have X6 := hid (X5.out.kept g6 (by simp; omega))
                clear b5 g6
                go_wp2_with fail
                refine wpAny_take (i := 9) (v := ?v83) rfl (by kernel_rfl) (by kernel_rfl) (by kernel_rfl) (fun _ _ _ h => h) (Or.inl ⟨by rfl, ?h83⟩) ?_
                case h83 => (intro w; go_simp; try (with_reducible rfl))
                go_simp
                refine wpAny_take (i := 10) (v := ?v84) rfl (by kernel_rfl) (by kernel_rfl) (by kernel_rfl) (fun _ _ _ h => h) (Or.inl ⟨by rfl, ?h84⟩) ?_
                case h84 => (intro w; go_simp; try (with_reducible rfl))
                go_simp
                refine wpAny_take (i := 11) (v := ?v85) rfl (by kernel_rfl) (by kernel_rfl) (by kernel_rfl) (fun _ _ _ h => h) (Or.inl ⟨by rfl, ?h85⟩) ?_
                case h85 => (intro w; go_simp; try (with_reducible rfl))
                go_simp
                refine wpAny_take (i := 12) (v := ?v86) rfl (by kernel_rfl) (by kernel_rfl) (by kernel_rfl) (fun _ _ _ h => h) (Or.inl ⟨by rfl, ?h86⟩) ?_
                case h86 => (intro w; go_simp; try (with_reducible rfl))
                go_simp
                refine wpAny_ready (rs := [13]) (by kernel_rfl) (by simp) ?_
                refine AllReady.cons rfl (fun K hK => ?_) ?_
                · go_simp
                  refine hK _ _ ?_
                  clear hK K
                  refine wpAny_take (i := 14) (v := ?v87) rfl (by kernel_rfl) (by kernel_rfl) (by kernel_rfl) (fun _ _ _ h => h) (Or.inl ⟨by rfl, ?h87⟩) ?_
                  case h87 => (intro w; go_simp; try (with_reducible rfl))
                  go_simp
                  refine wpAny_done (by kernel_rfl) ?_ _
                  generalize (V5.setCell ⟨ms, o * 2, none⟩ (.int .u32 (toI E))).setCell ⟨ms, o * 2 + 1, none⟩ (.int .i64 (N : Int)) = V6 at I6 X6 ⊢
                  clear m05 m15 f05 f15 x35 I5 X5
                  go_wp2_with fail
                  go_ret2
                  exact ⟨0, _, _, rfl, I6⟩
                exact AllReady.nil
              exact AllReady.nil
            exact AllReady.nil
          exact AllReady.nil
        exact AllReady.nil
      exact AllReady.nil
    exact AllReady.nil
  exact AllReady.nil
set_option maxHeartbeats 16000000 in
set_option maxRecDepth 100000 in
theorem does1_big (w : World) (r : Nat → Nat) (rs ms : Nat) (s : Nat → BitVec 32) (n : Nat → Nat) (kd on of : Int) (a : Option Addr) (len cap : Nat) (zs : List Int) (W : World) (G : Hid (Geo w r rs ms)) (I : Hid (Inv w r rs ms s n s n W)) (T : Hid (Tab w)) (HB : Hid (Bytes w a len cap zs)) (hcap : cap ≤ 140737488351232) (hk : kd % 4 = 1) (o : Nat) (ho3 : o < 3) (HO : Hid (on % 3 = (o : Int))) (hs : ¬ n o + len ≤ 9007199254740992) :
    Calls Tryd.prog 22 #[.slice (some ⟨rs, 0, none⟩) 3 3, .slice (some ⟨ms, 0, none⟩) 3 3, .agg #[.int .i64 kd, .int .i64 on, .int .i64 of, .slice a len cap]] W fun e W' => ∃ v s' n', e = .returned (.tuple #[.int .i64 v, .int .i64 v]) ∧ Hid (Inv w r rs ms s' n' s' n' W') := by
  have HK := hid hk
  have hoI : (o : Int) < 3 := by omega
  have hlc : len ≤ cap := HB.out.2.1
  have b1 := (Below.refl W.heap.size W).alloc (Nat.le_refl _) (.cells #[.int .i64 kd, .int .i64 on, .int .i64 of, .slice a len cap] 49)
  have I1 := hid (inv_later I.out b1)
  have X1 := hid (Lm.Blk.new W 49 #[.int .i64 kd, .int .i64 on, .int .i64 of, .slice a len cap])
  have hrb : ∀ k, k < 3 → r k < W.heap.size := fun k hk => (I.out.1 k hk).lt
  have hmb : ms < W.heap.size := I.out.2.2.1.lt
  obtain ⟨bx, HX⟩ : ∃ bx, Hid (bx = W.heap.size) := ⟨_, rfl⟩
  have hrb2 : r o < bx := by rw [HX.out]; exact hrb o ho3
  have hmb2 : ms < bx := by rw [HX.out]; exact hmb
  rw [← HX.out] at X1
  have C1 := I1.out.2.1 o ho3
  have hwb : w.heap.size ≤ bx := by rw [HX.out]; exact I.out.2.2.2.1.size
  have hG := G.out.2.2
  have HG3 := hid hG
  clear b1 I hk hrb hmb hG
  go_enter Tryd.func22, Tryd.ntmps22
  go_wp2_with fail
  rw [← HX.out]
  generalize W.alloc (.cells #[.int .i64 kd, .int .i64 on, .int .i64 of, .slice a len cap] 49) = W1 at I1 X1 C1 ⊢
  have y0 : W1.cell? ⟨bx, 0, none⟩ = some (.int .i64 kd) := X1.out.cell 0
  have y2 : W1.cell? ⟨bx, 2, none⟩ = some (.int .i64 of) := X1.out.cell 2
  have y3 : W1.cell? ⟨bx, 3, none⟩ = some (.slice a len cap) := X1.out.cell 3
  refine (among_any on 3 _ (by omega) (by omega)).mono ?_
  rintro e W1 ⟨rfl, rfl⟩
  rw [HO.out]
  go_wp2_with fail
  refine (among_any kd 4 _ (by omega) (by omega)).mono ?_
  rintro e W1 ⟨rfl, rfl⟩
  rw [HK.out]
  have ID := hid (inv_drew I1.out)
  have kB := Bytes.conv (bytes_kept HB.out ID.out.2.2.2.1)
  have HTs : Hid ((str zs).size = len) := by show _ = _; rw [str_size zs HB.out.2.2.2.1, HB.out.1]
  have HT1 := hid (tx_str zs HB.out.2.2.2.1)
  go_wp2_with fail
  refine wp_region_any (by kernel_rfl) ?_
  change wpAny _ _ _ _ _ _ _ (World.drew _)
  refine wpAny_take (i := 0) (v := ?v88) rfl (by kernel_rfl) (by kernel_rfl) (by kernel_rfl) (fun _ _ _ h => h) (Or.inl ⟨by rfl, ?h88⟩) ?_
  case h88 => (intro w; go_simp; try (with_reducible rfl))
  go_simp
  refine wpAny_take (i := 1) (v := ?v89) rfl (by kernel_rfl) (by kernel_rfl) (by kernel_rfl) (fun _ _ _ h => h) (Or.inl ⟨by rfl, ?h89⟩) ?_
  case h89 => (intro w; go_simp; try (with_reducible rfl))
  go_simp
  refine wpAny_take (i := 2) (v := ?v90) rfl (by kernel_rfl) (by kernel_rfl) (by kernel_rfl) (fun _ _ _ h => h) (Or.inl ⟨by rfl, ?h90⟩) ?_
  case h90 => (intro w; go_simp; try (with_reducible rfl))
  go_simp
  refine wpAny_take (i := 4) (v := ?v91) rfl (by kernel_rfl) (by kernel_rfl) (by kernel_rfl) (fun _ _ _ h => h) (Or.inl ⟨by rfl, ?h91⟩) ?_
  case h91 => (intro w; go_simp; try (with_reducible rfl))
  go_simp
  refine wpAny_ready (rs := [3, 5]) (by kernel_rfl) (by simp) ?_
  refine AllReady.cons rfl (fun K hK => ?_) ?_
  · go_simp
    refine hK _ _ ?_
    clear hK K
    refine wpAny_ready (rs := [5]) (by kernel_rfl) (by simp) ?_
    refine AllReady.cons rfl (fun K hK => ?_) ?_
    · go_simp
      refine hK _ _ ?_
      clear hK K
      refine wpAny_ready (rs := [6]) (by kernel_rfl) (by simp) ?_
      refine AllReady.cons rfl (fun K hK => ?_) ?_
      · go_simp
        refine hK _ _ ?_
        clear hK K
        refine wpAny_ready (rs := [7]) (by kernel_rfl) (by simp) ?_
        refine AllReady.cons rfl (fun K hK => ?_) ?_
        · go_simp
          go_wp2_with fail
          refine (AddText_big (r o) (s o) (n o) (str zs) _ (hid (ID.out.1 o ho3)) ⟨by omega, by have := ID.out.2.2.2.2 o ho3; omega⟩ (by rw [HTs.out]; omega)).mono ?_
          rintro e W3 ⟨rfl, rfl⟩
          have I3 := ID
          have X3 : Hid (Lm.Blk W1.drew bx 49 #[.int .i64 kd, .int .i64 on, .int .i64 of, .slice a len cap]) := X1
          have m03 := (I3.out.2.2.1.cells o ho3).1
          have m13 := (I3.out.2.2.1.cells o ho3).2
          have f03 := I3.out.2.2.1.fz (o * 2)
          have f13 := I3.out.2.2.1.fz (o * 2 + 1)
          have x33 : W1.drew.cell? ⟨bx, 3, none⟩ = some (.slice a len cap) := X3.out.cell 3
          clear kB
          go_wp2_with fail
          refine wpAny_take (i := 8) (v := ?v92) rfl (by kernel_rfl) (by kernel_rfl) (by kernel_rfl) (fun _ _ _ h => h) (Or.inl ⟨by rfl, ?h92⟩) ?_
          case h92 => (intro w; go_simp; try (with_reducible rfl))
          go_simp
          refine wpAny_done (by kernel_rfl) ?_ _
          go_wp2_with fail
          refine wp_region_any (by kernel_rfl) ?_
          change wpAny _ _ _ _ _ _ _ (World.drew _)
          refine wpAny_take (i := 0) (v := ?v93) rfl (by kernel_rfl) (by kernel_rfl) (by kernel_rfl) (fun _ _ _ h => h) (Or.inl ⟨by rfl, ?h93⟩) ?_
          case h93 => (intro w; go_simp; try (with_reducible rfl))
          go_simp
          refine wpAny_take (i := 1) (v := ?v94) rfl (by kernel_rfl) (by kernel_rfl) (by kernel_rfl) (fun _ _ _ h => h) (Or.inl ⟨by rfl, ?h94⟩) ?_
          case h94 => (intro w; go_simp; try (with_reducible rfl))
          go_simp
          refine wpAny_take (i := 2) (v := ?v95) rfl (by kernel_rfl) (by kernel_rfl) (by kernel_rfl) (fun _ _ _ h => h) (Or.inl ⟨by rfl, ?h95⟩) ?_
          case h95 => (intro w; go_simp; try (with_reducible rfl))
          go_simp
          refine wpAny_take (i := 3) (v := ?v96) rfl (by kernel_rfl) (by kernel_rfl) (by kernel_rfl) (fun _ _ _ h => h) (Or.inl ⟨by rfl, ?h96⟩) ?_
          case h96 => (intro w; go_simp; try (with_reducible rfl))
          go_simp
          refine wpAny_take (i := 4) (v := ?v97) rfl (by kernel_rfl) (by kernel_rfl) (by kernel_rfl) (fun _ _ _ h => h) (Or.inl ⟨by rfl, ?h97⟩) ?_
          case h97 => (intro w; go_simp; try (with_reducible rfl))
          go_simp
          refine wpAny_take (i := 6) (v := ?v98) rfl (by kernel_rfl) (by kernel_rfl) (by kernel_rfl) (fun _ _ _ h => h) (Or.inl ⟨by rfl, ?h98⟩) ?_
          case h98 => (intro w; go_simp; try (with_reducible rfl))
          go_simp
          refine wpAny_ready (rs := [5, 7]) (by kernel_rfl) (by simp) ?_
          refine AllReady.cons rfl (fun K hK => ?_) ?_
          · go_simp
            refine hK _ _ ?_
            clear hK K
            refine wpAny_ready (rs := [7]) (by kernel_rfl) (by simp) ?_
            refine AllReady.cons rfl (fun K hK => ?_) ?_
            · go_simp
              refine hK _ _ ?_
              clear hK K
              refine wpAny_ready (rs := [8]) (by kernel_rfl) (by simp) ?_
              refine AllReady.cons rfl (fun K hK => ?_) ?_
              · go_simp
                go_wp2_with fail
                refine (radd_big (s o) (n o) a len cap W1.drew.drew (I3.out.2.2.2.2 o ho3) hs (by omega)).mono ?_
                rintro e V5 ⟨rfl, b5⟩

                have I5 := hid (inv_later (inv_drew I3.out) b5)
                have X5 := hid ((show Lm.Blk W1.drew.drew bx 49 #[.int .i64 kd, .int .i64 on, .int .i64 of, .slice a len cap] from X3.out).later b5)
                have m05 := (I5.out.2.2.1.cells o ho3).1
                have m15 := (I5.out.2.2.1.cells o ho3).2
                have f05 := I5.out.2.2.1.fz (o * 2)
                have f15 := I5.out.2.2.1.fz (o * 2 + 1)
                have x35 : V5.cell? ⟨bx, 3, none⟩ = some (.slice a len cap) := X5.out.cell 3
                have I6 := hid (inv_mem G.out I5.out o ho3 (s o) (n o))
                have g6 := grown_trans (grown_set V5 ms (o * 2) (.int .u32 (toI (s o)))) (grown_set _ ms (o * 2 + 1) (.int .i64 (n o)))
                have X6 := hid (X5.out.kept g6 (by simp; omega))
                clear b5 g6
                go_wp2_with fail
                refine wpAny_take (i := 9) (v := ?v99) rfl (by kernel_rfl) (by kernel_rfl) (by kernel_rfl) (fun _ _ _ h => h) (Or.inl ⟨by rfl, ?h99⟩) ?_
                case h99 => (intro w; go_simp; try (with_reducible rfl))
                go_simp
                refine wpAny_take (i := 10) (v := ?v100) rfl (by kernel_rfl) (by kernel_rfl) (by kernel_rfl) (fun _ _ _ h => h) (Or.inl ⟨by rfl, ?h100⟩) ?_
                case h100 => (intro w; go_simp; try (with_reducible rfl))
                go_simp
                refine wpAny_take (i := 11) (v := ?v101) rfl (by kernel_rfl) (by kernel_rfl) (by kernel_rfl) (fun _ _ _ h => h) (Or.inl ⟨by rfl, ?h101⟩) ?_
                case h101 => (intro w; go_simp; try (with_reducible rfl))
                go_simp
                refine wpAny_take (i := 12) (v := ?v102) rfl (by kernel_rfl) (by kernel_rfl) (by kernel_rfl) (fun _ _ _ h => h) (Or.inl ⟨by rfl, ?h102⟩) ?_
                case h102 => (intro w; go_simp; try (with_reducible rfl))
                go_simp
                refine wpAny_ready (rs := [13]) (by kernel_rfl) (by simp) ?_
                refine AllReady.cons rfl (fun K hK => ?_) ?_
                · go_simp
                  refine hK _ _ ?_
                  clear hK K
                  refine wpAny_take (i := 14) (v := ?v103) rfl (by kernel_rfl) (by kernel_rfl) (by kernel_rfl) (fun _ _ _ h => h) (Or.inl ⟨by rfl, ?h103⟩) ?_
                  case h103 => (intro w; go_simp; try (with_reducible rfl))
                  go_simp
                  refine wpAny_done (by kernel_rfl) ?_ _
                  generalize (V5.setCell ⟨ms, o * 2, none⟩ (.int .u32 (toI (s o)))).setCell ⟨ms, o * 2 + 1, none⟩ (.int .i64 (n o : Int)) = V6 at I6 X6 ⊢
                  clear m05 m15 f05 f15 x35 I5 X5
                  go_wp2_with fail
                  go_ret2
                  exact ⟨3, s, n, rfl, by rw [upd_self, upd_self] at I6; exact I6⟩
                exact AllReady.nil
              exact AllReady.nil
            exact AllReady.nil
          refine AllReady.cons rfl (fun K hK => ?_) ?_
          · go_simp
            refine hK _ _ ?_
            clear hK K
            refine wpAny_ready (rs := [5]) (by kernel_rfl) (by simp) ?_
            refine AllReady.cons rfl (fun K hK => ?_) ?_
            · go_simp
              refine hK _ _ ?_
              clear hK K
              refine wpAny_ready (rs := [8]) (by kernel_rfl) (by simp) ?_
              refine AllReady.cons rfl (fun K hK => ?_) ?_
              · go_simp
                go_wp2_with fail
                refine (radd_big (s o) (n o) a len cap W1.drew.drew (I3.out.2.2.2.2 o ho3) hs (by omega)).mono ?_
                rintro e V5 ⟨rfl, b5⟩

                have I5 := hid (inv_later (inv_drew I3.out) b5)
                have X5 := hid ((show Lm.Blk W1.drew.drew bx 49 #[.int .i64 kd, .int .i64 on, .int .i64 of, .slice a len cap] from X3.out).later b5)
                have m05 := (I5.out.2.2.1.cells o ho3).1
                have m15 := (I5.out.2.2.1.cells o ho3).2
                have f05 := I5.out.2.2.1.fz (o * 2)
                have f15 := I5.out.2.2.1.fz (o * 2 + 1)
                have x35 : V5.cell? ⟨bx, 3, none⟩ = some (.slice a len cap) := X5.out.cell 3
                have I6 := hid (inv_mem G.out I5.out o ho3 (s o) (n o))
                have g6 := grown_trans (grown_set V5 ms (o * 2) (.int .u32 (toI (s o)))) (grown_set _ ms (o * 2 + 1) (.int .i64 (n o)))
                have X6 := hid (X5.out.kept g6 (by simp; omega))
                clear b5 g6
                go_wp2_with fail
                refine wpAny_take (i := 9) (v := ?v104) rfl (by kernel_rfl) (by kernel_rfl) (by kernel_rfl) (fun _ _ _ h => h) (Or.inl ⟨by rfl, ?h104⟩) ?_
                case h104 => (intro w; go_simp; try (with_reducible rfl))
                go_simp
                refine wpAny_take (i := 10) (v := ?v105) rfl (by kernel_rfl) (by kernel_rfl) (by kernel_rfl) (fun _ _ _ h => h) (Or.inl ⟨by rfl, ?h105⟩) ?_
                case h105 => (intro w; go_simp; try (with_reducible rfl))
                go_simp
                refine wpAny_take (i := 11) (v := ?v106) rfl (by kernel_rfl) (by kernel_rfl) (by kernel_rfl) (fun _ _ _ h => h) (Or.inl ⟨by rfl, ?h106⟩) ?_
                case h106 => (intro w; go_simp; try (with_reducible rfl))
                go_simp
                refine wpAny_take (i := 12) (v := ?v107) rfl (by kernel_rfl) (by kernel_rfl) (by kernel_rfl) (fun _ _ _ h => h) (Or.inl ⟨by rfl, ?h107⟩) ?_
                case h107 => (intro w; go_simp; try (with_reducible rfl))
                go_simp
                refine wpAny_ready (rs := [13]) (by kernel_rfl) (by simp) ?_
                refine AllReady.cons rfl (fun K hK => ?_) ?_
                · go_simp
                  refine hK _ _ ?_
                  clear hK K
                  refine wpAny_take (i := 14) (v := ?v108) rfl (by kernel_rfl) (by kernel_rfl) (by kernel_rfl) (fun _ _ _ h => h) (Or.inl ⟨by rfl, ?h108⟩) ?_
                  case h108 => (intro w; go_simp; try (with_reducible rfl))
                  go_simp
                  refine wpAny_done (by kernel_rfl) ?_ _
                  generalize (V5.setCell ⟨ms, o * 2, none⟩ (.int .u32 (toI (s o)))).setCell ⟨ms, o * 2 + 1, none⟩ (.int .i64 (n o : Int)) = V6 at I6 X6 ⊢
                  clear m05 m15 f05 f15 x35 I5 X5
                  go_wp2_with fail
                  go_ret2
                  exact ⟨3, s, n, rfl, by rw [upd_self, upd_self] at I6; exact I6⟩
                exact AllReady.nil
              exact AllReady.nil
            exact AllReady.nil
          exact AllReady.nil
        exact AllReady.nil
      exact AllReady.nil
    exact AllReady.nil
  refine AllReady.cons rfl (fun K hK => ?_) ?_
  · go_simp
    refine hK _ _ ?_
    clear hK K
    refine wpAny_ready (rs := [3, 6]) (by kernel_rfl) (by simp) ?_
    refine AllReady.cons rfl (fun K hK => ?_) ?_
    · go_simp
      refine hK _ _ ?_
      clear hK K
      refine wpAny_ready (rs := [6]) (by kernel_rfl) (by simp) ?_
      refine AllReady.cons rfl (fun K hK => ?_) ?_
      · go_simp
        refine hK _ _ ?_
        clear hK K
        refine wpAny_ready (rs := [7]) (by kernel_rfl) (by simp) ?_
        refine AllReady.cons rfl (fun K hK => ?_) ?_
        · go_simp
          go_wp2_with fail
          refine (AddText_big (r o) (s o) (n o) (str zs) _ (hid (ID.out.1 o ho3)) ⟨by omega, by have := ID.out.2.2.2.2 o ho3; omega⟩ (by rw [HTs.out]; omega)).mono ?_
          rintro e W3 ⟨rfl, rfl⟩
          have I3 := ID
          have X3 : Hid (Lm.Blk W1.drew bx 49 #[.int .i64 kd, .int .i64 on, .int .i64 of, .slice a len cap]) := X1
          have m03 := (I3.out.2.2.1.cells o ho3).1
          have m13 := (I3.out.2.2.1.cells o ho3).2
          have f03 := I3.out.2.2.1.fz (o * 2)
          have f13 := I3.out.2.2.1.fz (o * 2 + 1)
          have x33 : W1.drew.cell? ⟨bx, 3, none⟩ = some (.slice a len cap) := X3.out.cell 3
          clear kB
          go_wp2_with fail
          refine wpAny_take (i := 8) (v := ?v109) rfl (by kernel_rfl) (by kernel_rfl) (by kernel_rfl) (fun _ _ _ h => h) (Or.inl ⟨by rfl, ?h109⟩) ?_
          case h109 => (intro w; go_simp; try (with_reducible rfl))
          go_simp
          refine wpAny_done (by kernel_rfl) ?_ _
          go_wp2_with fail
          refine wp_region_any (by kernel_rfl) ?_
          change wpAny _ _ _ _ _ _ _ (World.drew _)
          refine wpAny_take (i := 0) (v := ?v110) rfl (by kernel_rfl) (by kernel_rfl) (by kernel_rfl) (fun _ _ _ h => h) (Or.inl ⟨by rfl, ?h110⟩) ?_
          case h110 => (intro w; go_simp; try (with_reducible rfl))
          go_simp
          refine wpAny_take (i := 1) (v := ?v111) rfl (by kernel_rfl) (by kernel_rfl) (by kernel_rfl) (fun _ _ _ h => h) (Or.inl ⟨by rfl, ?h111⟩) ?_
          case h111 => (intro w; go_simp; try (with_reducible rfl))
          go_simp
          refine wpAny_take (i := 2) (v := ?v112) rfl (by kernel_rfl) (by kernel_rfl) (by kernel_rfl) (fun _ _ _ h => h) (Or.inl ⟨by rfl, ?h112⟩) ?_
          case h112 => (intro w; go_simp; try (with_reducible rfl))
          go_simp
          refine wpAny_take (i := 3) (v := ?v113) rfl (by kernel_rfl) (by kernel_rfl) (by kernel_rfl) (fun _ _ _ h => h) (Or.inl ⟨by rfl, ?h113⟩) ?_
          case h113 => (intro w; go_simp; try (with_reducible rfl))
          go_simp
          refine wpAny_take (i := 4) (v := ?v114) rfl (by kernel_rfl) (by kernel_rfl) (by kernel_rfl) (fun _ _ _ h => h) (Or.inl ⟨by rfl, ?h114⟩) ?_
          case h114 => (intro w; go_simp; try (with_reducible rfl))
          go_simp
          refine wpAny_take (i := 6) (v := ?v115) rfl (by kernel_rfl) (by kernel_rfl) (by kernel_rfl) (fun _ _ _ h => h) (Or.inl ⟨by rfl, ?h115⟩) ?_
          case h115 => (intro w; go_simp; try (with_reducible rfl))
          go_simp
          refine wpAny_ready (rs := [5, 7]) (by kernel_rfl) (by simp) ?_
          refine AllReady.cons rfl (fun K hK => ?_) ?_
          · go_simp
            refine hK _ _ ?_
            clear hK K
            refine wpAny_ready (rs := [7]) (by kernel_rfl) (by simp) ?_
            refine AllReady.cons rfl (fun K hK => ?_) ?_
            · go_simp
              refine hK _ _ ?_
              clear hK K
              refine wpAny_ready (rs := [8]) (by kernel_rfl) (by simp) ?_
              refine AllReady.cons rfl (fun K hK => ?_) ?_
              · go_simp
                go_wp2_with fail
                refine (radd_big (s o) (n o) a len cap W1.drew.drew (I3.out.2.2.2.2 o ho3) hs (by omega)).mono ?_
                rintro e V5 ⟨rfl, b5⟩

                have I5 := hid (inv_later (inv_drew I3.out) b5)
                have X5 := hid ((show Lm.Blk W1.drew.drew bx 49 #[.int .i64 kd, .int .i64 on, .int .i64 of, .slice a len cap] from X3.out).later b5)
                have m05 := (I5.out.2.2.1.cells o ho3).1
                have m15 := (I5.out.2.2.1.cells o ho3).2
                have f05 := I5.out.2.2.1.fz (o * 2)
                have f15 := I5.out.2.2.1.fz (o * 2 + 1)
                have x35 : V5.cell? ⟨bx, 3, none⟩ = some (.slice a len cap) := X5.out.cell 3
                have I6 := hid (inv_mem G.out I5.out o ho3 (s o) (n o))
                have g6 := grown_trans (grown_set V5 ms (o * 2) (.int .u32 (toI (s o)))) (grown_set _ ms (o * 2 + 1) (.int .i64 (n o)))
                have X6 := hid (X5.out.kept g6 (by simp; omega))
                clear b5 g6
                go_wp2_with fail
                refine wpAny_take (i := 9) (v := ?v116) rfl (by kernel_rfl) (by kernel_rfl) (by kernel_rfl) (fun _ _ _ h => h) (Or.inl ⟨by rfl, ?h116⟩) ?_
                case h116 => (intro w; go_simp; try (with_reducible rfl))
                go_simp
                refine wpAny_take (i := 10) (v := ?v117) rfl (by kernel_rfl) (by kernel_rfl) (by kernel_rfl) (fun _ _ _ h => h) (Or.inl ⟨by rfl, ?h117⟩) ?_
                case h117 => (intro w; go_simp; try (with_reducible rfl))
                go_simp
                refine wpAny_take (i := 11) (v := ?v118) rfl (by kernel_rfl) (by kernel_rfl) (by kernel_rfl) (fun _ _ _ h => h) (Or.inl ⟨by rfl, ?h118⟩) ?_
                case h118 => (intro w; go_simp; try (with_reducible rfl))
                go_simp
                refine wpAny_take (i := 12) (v := ?v119) rfl (by kernel_rfl) (by kernel_rfl) (by kernel_rfl) (fun _ _ _ h => h) (Or.inl ⟨by rfl, ?h119⟩) ?_
                case h119 => (intro w; go_simp; try (with_reducible rfl))
                go_simp
                refine wpAny_ready (rs := [13]) (by kernel_rfl) (by simp) ?_
                refine AllReady.cons rfl (fun K hK => ?_) ?_
                · go_simp
                  refine hK _ _ ?_
                  clear hK K
                  refine wpAny_take (i := 14) (v := ?v120) rfl (by kernel_rfl) (by kernel_rfl) (by kernel_rfl) (fun _ _ _ h => h) (Or.inl ⟨by rfl, ?h120⟩) ?_
                  case h120 => (intro w; go_simp; try (with_reducible rfl))
                  go_simp
                  refine wpAny_done (by kernel_rfl) ?_ _
                  generalize (V5.setCell ⟨ms, o * 2, none⟩ (.int .u32 (toI (s o)))).setCell ⟨ms, o * 2 + 1, none⟩ (.int .i64 (n o : Int)) = V6 at I6 X6 ⊢
                  clear m05 m15 f05 f15 x35 I5 X5
                  go_wp2_with fail
                  go_ret2
                  exact ⟨3, s, n, rfl, by rw [upd_self, upd_self] at I6; exact I6⟩
                exact AllReady.nil
              exact AllReady.nil
            exact AllReady.nil
          refine AllReady.cons rfl (fun K hK => ?_) ?_
          · go_simp
            refine hK _ _ ?_
            clear hK K
            refine wpAny_ready (rs := [5]) (by kernel_rfl) (by simp) ?_
            refine AllReady.cons rfl (fun K hK => ?_) ?_
            · go_simp
              refine hK _ _ ?_
              clear hK K
              refine wpAny_ready (rs := [8]) (by kernel_rfl) (by simp) ?_
              refine AllReady.cons rfl (fun K hK => ?_) ?_
              · go_simp
                go_wp2_with fail
                refine (radd_big (s o) (n o) a len cap W1.drew.drew (I3.out.2.2.2.2 o ho3) hs (by omega)).mono ?_
                rintro e V5 ⟨rfl, b5⟩

                have I5 := hid (inv_later (inv_drew I3.out) b5)
                have X5 := hid ((show Lm.Blk W1.drew.drew bx 49 #[.int .i64 kd, .int .i64 on, .int .i64 of, .slice a len cap] from X3.out).later b5)
                have m05 := (I5.out.2.2.1.cells o ho3).1
                have m15 := (I5.out.2.2.1.cells o ho3).2
                have f05 := I5.out.2.2.1.fz (o * 2)
                have f15 := I5.out.2.2.1.fz (o * 2 + 1)
                have x35 : V5.cell? ⟨bx, 3, none⟩ = some (.slice a len cap) := X5.out.cell 3
                have I6 := hid (inv_mem G.out I5.out o ho3 (s o) (n o))
                have g6 := grown_trans (grown_set V5 ms (o * 2) (.int .u32 (toI (s o)))) (grown_set _ ms (o * 2 + 1) (.int .i64 (n o)))
                have X6 := hid (X5.out.kept g6 (by simp; omega))
                clear b5 g6
                go_wp2_with fail
                refine wpAny_take (i := 9) (v := ?v121) rfl (by kernel_rfl) (by kernel_rfl) (by kernel_rfl) (fun _ _ _ h => h) (Or.inl ⟨by rfl, ?h121⟩) ?_
                case h121 => (intro w; go_simp; try (with_reducible rfl))
                go_simp
                refine wpAny_take (i := 10) (v := ?v122) rfl (by kernel_rfl) (by kernel_rfl) (by kernel_rfl) (fun _ _ _ h => h) (Or.inl ⟨by rfl, ?h122⟩) ?_
                case h122 => (intro w; go_simp; try (with_reducible rfl))
                go_simp
                refine wpAny_take (i := 11) (v := ?v123) rfl (by kernel_rfl) (by kernel_rfl) (by kernel_rfl) (fun _ _ _ h => h) (Or.inl ⟨by rfl, ?h123⟩) ?_
                case h123 => (intro w; go_simp; try (with_reducible rfl))
                go_simp
                refine wpAny_take (i := 12) (v := ?v124) rfl (by kernel_rfl) (by kernel_rfl) (by kernel_rfl) (fun _ _ _ h => h) (Or.inl ⟨by rfl, ?h124⟩) ?_
                case h124 => (intro w; go_simp; try (with_reducible rfl))
                go_simp
                refine wpAny_ready (rs := [13]) (by kernel_rfl) (by simp) ?_
                refine AllReady.cons rfl (fun K hK => ?_) ?_
                · go_simp
                  refine hK _ _ ?_
                  clear hK K
                  refine wpAny_take (i := 14) (v := ?v125) rfl (by kernel_rfl) (by kernel_rfl) (by kernel_rfl) (fun _ _ _ h => h) (Or.inl ⟨by rfl, ?h125⟩) ?_
                  case h125 => (intro w; go_simp; try (with_reducible rfl))
                  go_simp
                  refine wpAny_done (by kernel_rfl) ?_ _
                  generalize (V5.setCell ⟨ms, o * 2, none⟩ (.int .u32 (toI (s o)))).setCell ⟨ms, o * 2 + 1, none⟩ (.int .i64 (n o : Int)) = V6 at I6 X6 ⊢
                  clear m05 m15 f05 f15 x35 I5 X5
                  go_wp2_with fail
                  go_ret2
                  exact ⟨3, s, n, rfl, by rw [upd_self, upd_self] at I6; exact I6⟩
                exact AllReady.nil
              exact AllReady.nil
            exact AllReady.nil
          exact AllReady.nil
        exact AllReady.nil
      exact AllReady.nil
    refine AllReady.cons rfl (fun K hK => ?_) ?_
    · go_simp
      refine hK _ _ ?_
      clear hK K
      refine wpAny_ready (rs := [3]) (by kernel_rfl) (by simp) ?_
      refine AllReady.cons rfl (fun K hK => ?_) ?_
      · go_simp
        refine hK _ _ ?_
        clear hK K
        refine wpAny_ready (rs := [7]) (by kernel_rfl) (by simp) ?_
        refine AllReady.cons rfl (fun K hK => ?_) ?_
        · go_simp
          go_wp2_with fail
          refine (AddText_big (r o) (s o) (n o) (str zs) _ (hid (ID.out.1 o ho3)) ⟨by omega, by have := ID.out.2.2.2.2 o ho3; omega⟩ (by rw [HTs.out]; omega)).mono ?_
          rintro e W3 ⟨rfl, rfl⟩
          have I3 := ID
          have X3 : Hid (Lm.Blk W1.drew bx 49 #[.int .i64 kd, .int .i64 on, .int .i64 of, .slice a len cap]) := X1
          have m03 := (I3.out.2.2.1.cells o ho3).1
          have m13 := (I3.out.2.2.1.cells o ho3).2
          have f03 := I3.out.2.2.1.fz (o * 2)
          have f13 := I3.out.2.2.1.fz (o * 2 + 1)
          have x33 : W1.drew.cell? ⟨bx, 3, none⟩ = some (.slice a len cap) := X3.out.cell 3
          clear kB
          go_wp2_with fail
          refine wpAny_take (i := 8) (v := ?v126) rfl (by kernel_rfl) (by kernel_rfl) (by kernel_rfl) (fun _ _ _ h => h) (Or.inl ⟨by rfl, ?h126⟩) ?_
          case h126 => (intro w; go_simp; try (with_reducible rfl))
          go_simp
          refine wpAny_done (by kernel_rfl) ?_ _
          go_wp2_with fail
          refine wp_region_any (by kernel_rfl) ?_
          change wpAny _ _ _ _ _ _ _ (World.drew _)
          refine wpAny_take (i := 0) (v := ?v127) rfl (by kernel_rfl) (by kernel_rfl) (by kernel_rfl) (fun _ _ _ h => h) (Or.inl ⟨by rfl, ?h127⟩) ?_
          case h127 => (intro w; go_simp; try (with_reducible rfl))
          go_simp
          refine wpAny_take (i := 1) (v := ?v128) rfl (by kernel_rfl) (by kernel_rfl) (by kernel_rfl) (fun _ _ _ h => h) (Or.inl ⟨by rfl, ?h128⟩) ?_
          case h128 => (intro w; go_simp; try (with_reducible rfl))
          go_simp
          refine wpAny_take (i := 2) (v := ?v129) rfl (by kernel_rfl) (by kernel_rfl) (by kernel_rfl) (fun _ _ _ h => h) (Or.inl ⟨by rfl, ?h129⟩) ?_
          case h129 => (intro w; go_simp; try (with_reducible rfl))
          go_simp
          refine wpAny_take (i := 3) (v := ?v130) rfl (by kernel_rfl) (by kernel_rfl) (by kernel_rfl) (fun _ _ _ h => h) (Or.inl ⟨by rfl, ?h130⟩) ?_
          case h130 => (intro w; go_simp; try (with_reducible rfl))
          go_simp
          refine wpAny_take (i := 4) (v := ?v131) rfl (by kernel_rfl) (by kernel_rfl) (by kernel_rfl) (fun _ _ _ h => h) (Or.inl ⟨by rfl, ?h131⟩) ?_
          case h131 => (intro w; go_simp; try (with_reducible rfl))
          go_simp
          refine wpAny_take (i := 6) (v := ?v132) rfl (by kernel_rfl) (by kernel_rfl) (by kernel_rfl) (fun _ _ _ h => h) (Or.inl ⟨by rfl, ?h132⟩) ?_
          case h132 => (intro w; go_simp; try (with_reducible rfl))
          go_simp
          refine wpAny_ready (rs := [5, 7]) (by kernel_rfl) (by simp) ?_
          refine AllReady.cons rfl (fun K hK => ?_) ?_
          · go_simp
            refine hK _ _ ?_
            clear hK K
            refine wpAny_ready (rs := [7]) (by kernel_rfl) (by simp) ?_
            refine AllReady.cons rfl (fun K hK => ?_) ?_
            · go_simp
              refine hK _ _ ?_
              clear hK K
              refine wpAny_ready (rs := [8]) (by kernel_rfl) (by simp) ?_
              refine AllReady.cons rfl (fun K hK => ?_) ?_
              · go_simp
                go_wp2_with fail
                refine (radd_big (s o) (n o) a len cap W1.drew.drew (I3.out.2.2.2.2 o ho3) hs (by omega)).mono ?_
                rintro e V5 ⟨rfl, b5⟩

                have I5 := hid (inv_later (inv_drew I3.out) b5)
                have X5 := hid ((show Lm.Blk W1.drew.drew bx 49 #[.int .i64 kd, .int .i64 on, .int .i64 of, .slice a len cap] from X3.out).later b5)
                have m05 := (I5.out.2.2.1.cells o ho3).1
                have m15 := (I5.out.2.2.1.cells o ho3).2
                have f05 := I5.out.2.2.1.fz (o * 2)
                have f15 := I5.out.2.2.1.fz (o * 2 + 1)
                have x35 : V5.cell? ⟨bx, 3, none⟩ = some (.slice a len cap) := X5.out.cell 3
                have I6 := hid (inv_mem G.out I5.out o ho3 (s o) (n o))
                have g6 := grown_trans (grown_set V5 ms (o * 2) (.int .u32 (toI (s o)))) (grown_set _ ms (o * 2 + 1) (.int .i64 (n o)))
                have X6 := hid (X5.out.kept g6 (by simp; omega))
                clear b5 g6
                go_wp2_with fail
                refine wpAny_take (i := 9) (v := ?v133) rfl (by kernel_rfl) (by kernel_rfl) (by kernel_rfl) (fun _ _ _ h => h) (Or.inl ⟨by rfl, ?h133⟩) ?_
                case h133 => (intro w; go_simp; try (with_reducible rfl))
                go_simp
                refine wpAny_take (i := 10) (v := ?v134) rfl (by kernel_rfl) (by kernel_rfl) (by kernel_rfl) (fun _ _ _ h => h) (Or.inl ⟨by rfl, ?h134⟩) ?_
                case h134 => (intro w; go_simp; try (with_reducible rfl))
                go_simp
                refine wpAny_take (i := 11) (v := ?v135) rfl (by kernel_rfl) (by kernel_rfl) (by kernel_rfl) (fun _ _ _ h => h) (Or.inl ⟨by rfl, ?h135⟩) ?_
                case h135 => (intro w; go_simp; try (with_reducible rfl))
                go_simp
                refine wpAny_take (i := 12) (v := ?v136) rfl (by kernel_rfl) (by kernel_rfl) (by kernel_rfl) (fun _ _ _ h => h) (Or.inl ⟨by rfl, ?h136⟩) ?_
                case h136 => (intro w; go_simp; try (with_reducible rfl))
                go_simp
                refine wpAny_ready (rs := [13]) (by kernel_rfl) (by simp) ?_
                refine AllReady.cons rfl (fun K hK => ?_) ?_
                · go_simp
                  refine hK _ _ ?_
                  clear hK K
                  refine wpAny_take (i := 14) (v := ?v137) rfl (by kernel_rfl) (by kernel_rfl) (by kernel_rfl) (fun _ _ _ h => h) (Or.inl ⟨by rfl, ?h137⟩) ?_
                  case h137 => (intro w; go_simp; try (with_reducible rfl))
                  go_simp
                  refine wpAny_done (by kernel_rfl) ?_ _
                  generalize (V5.setCell ⟨ms, o * 2, none⟩ (.int .u32 (toI (s o)))).setCell ⟨ms, o * 2 + 1, none⟩ (.int .i64 (n o : Int)) = V6 at I6 X6 ⊢
                  clear m05 m15 f05 f15 x35 I5 X5
                  go_wp2_with fail
                  go_ret2
                  exact ⟨3, s, n, rfl, by rw [upd_self, upd_self] at I6; exact I6⟩
                exact AllReady.nil
              exact AllReady.nil
            exact AllReady.nil
          refine AllReady.cons rfl (fun K hK => ?_) ?_
          · go_simp
            refine hK _ _ ?_
            clear hK K
            refine wpAny_ready (rs := [5]) (by kernel_rfl) (by simp) ?_
            refine AllReady.cons rfl (fun K hK => ?_) ?_
            · go_simp
              refine hK _ _ ?_
              clear hK K
              refine wpAny_ready (rs := [8]) (by kernel_rfl) (by simp) ?_
              refine AllReady.cons rfl (fun K hK => ?_) ?_
              · go_simp
                go_wp2_with fail
                refine (radd_big (s o) (n o) a len cap W1.drew.drew (I3.out.2.2.2.2 o ho3) hs (by omega)).mono ?_
                rintro e V5 ⟨rfl, b5⟩

                have I5 := hid (inv_later (inv_drew I3.out) b5)
                have X5 := hid ((show Lm.Blk W1.drew.drew bx 49 #[.int .i64 kd, .int .i64 on, .int .i64 of, .slice a len cap] from X3.out).later b5)
                have m05 := (I5.out.2.2.1.cells o ho3).1
                have m15 := (I5.out.2.2.1.cells o ho3).2
                have f05 := I5.out.2.2.1.fz (o * 2)
                have f15 := I5.out.2.2.1.fz (o * 2 + 1)
                have x35 : V5.cell? ⟨bx, 3, none⟩ = some (.slice a len cap) := X5.out.cell 3
                have I6 := hid (inv_mem G.out I5.out o ho3 (s o) (n o))
                have g6 := grown_trans (grown_set V5 ms (o * 2) (.int .u32 (toI (s o)))) (grown_set _ ms (o * 2 + 1) (.int .i64 (n o)))
                have X6 := hid (X5.out.kept g6 (by simp; omega))
                clear b5 g6
                go_wp2_with fail
                refine wpAny_take (i := 9) (v := ?v138) rfl (by kernel_rfl) (by kernel_rfl) (by kernel_rfl) (fun _ _ _ h => h) (Or.inl ⟨by rfl, ?h138⟩) ?_
                case h138 => (intro w; go_simp; try (with_reducible rfl))
                go_simp
                refine wpAny_take (i := 10) (v := ?v139) rfl (by kernel_rfl) (by kernel_rfl) (by kernel_rfl) (fun _ _ _ h => h) (Or.inl ⟨by rfl, ?h139⟩) ?_
                case h139 => (intro w; go_simp; try (with_reducible rfl))
                go_simp
                refine wpAny_take (i := 11) (v := ?v140) rfl (by kernel_rfl) (by kernel_rfl) (by kernel_rfl) (fun _ _ _ h => h) (Or.inl ⟨by rfl, ?h140⟩) ?_
                case h140 => (intro w; go_simp; try (with_reducible rfl))
                go_simp
                refine wpAny_take (i := 12) (v := ?v141) rfl (by kernel_rfl) (by kernel_rfl) (by kernel_rfl) (fun _ _ _ h => h) (Or.inl ⟨by rfl, ?h141⟩) ?_
                case h141 => (intro w; go_simp; try (with_reducible rfl))
                go_simp
                refine wpAny_ready (rs := [13]) (by kernel_rfl) (by simp) ?_
                refine AllReady.cons rfl (fun K hK => ?_) ?_
                · go_simp
                  refine hK _ _ ?_
                  clear hK K
                  refine wpAny_take (i := 14) (v := ?v142) rfl (by kernel_rfl) (by kernel_rfl) (by kernel_rfl) (fun _ _ _ h => h) (Or.inl ⟨by rfl, ?h142⟩) ?_
                  case h142 => (intro w; go_simp; try (with_reducible rfl))
                  go_simp
                  refine wpAny_done (by kernel_rfl) ?_ _
                  generalize (V5.setCell ⟨ms, o * 2, none⟩ (.int .u32 (toI (s o)))).setCell ⟨ms, o * 2 + 1, none⟩ (.int .i64 (n o : Int)) = V6 at I6 X6 ⊢
                  clear m05 m15 f05 f15 x35 I5 X5
                  go_wp2_with fail
                  go_ret2
                  exact ⟨3, s, n, rfl, by rw [upd_self, upd_self] at I6; exact I6⟩
                exact AllReady.nil
              exact AllReady.nil
            exact AllReady.nil
          exact AllReady.nil
        exact AllReady.nil
      exact AllReady.nil
    exact AllReady.nil
  exact AllReady.nil
end Go.Proofs.YtkgmdhldongloaaDoor.Dz

/- Which files a key asks, in plain words; what Asks holds while it goes through the levels. -/
import Derived.Test.YtkpihibeohjfnaaBa
namespace Go.Proofs.Ytkpihibeohjfnaa.Aq
open Go.ChangeShapes Go.WideShapes Go.ChangeAt Go.RowKit Go.Shelf
open Go.Proofs.Ytkpihibeohjfnaa.Gr
open Go.Proofs.Ytkpihibeohjfnaa.Ev
open Go.Proofs.Ytkpihibeohjfnaa.Oe
open Go.Proofs.Ytkpihibeohjfnaa.Lv
open Go.Proofs.Ytkpihibeohjfnaa.Vp
open Go.Proofs.Ytkpihibeohjfnaa.Vq
open Go.Proofs.Ytkpihibeohjfnaa.Vr
open Go.Proofs.Ytkpihibeohjfnaa.Vt
open Go.Proofs.Ytkpihibeohjfnaa.Vu
open Go.Proofs.Ytkpihibeohjfnaa.Vv
open Go.Proofs.Ytkpihibeohjfnaa.Vw
open Go.Proofs.Ytkpihibeohjfnaa.Vx
open Go.Proofs.Ytkpihibeohjfnaa.Ba (dn dn_len)
open Go.Proofs.Ytkpihibeohjfnaa.Lx (lt tr asym lelt ltle lele)
set_option linter.unusedVariables false
set_option linter.unusedSimpArgs false

/-- A file bears on a key. -/
def bears (key : ByteArray) (f : Fi) : Bool := !(lt key f.a) && lt key f.b
def ask0 (key : ByteArray) (fs : List Fi) (is : List Nat) : List Pl := (is.filter fun i => bears key (fs.getD i zf)).map fun i => ⟨0, (fs.getD i zf).n⟩
def askL (key : ByteArray) (k : Nat) (fs : List Fi) : List Pl := (fs.filter (bears key)).map fun f => ⟨(k : Int), f.n⟩
def askAt (L : List (List Fi)) (key : ByteArray) (k : Nat) : List Pl := if k = 0 then ask0 key (L.getD 0 []) (dn (L.getD 0 []).length) else askL key k (L.getD k [])
def askTo (L : List (List Fi)) (key : ByteArray) (i : Nat) : List Pl := (List.range i).flatMap (askAt L key)
def asks (L : List (List Fi)) (key : ByteArray) : List Pl := if vld L = true then askTo L key L.length else []
theorem askTo_succ (L : List (List Fi)) (key : ByteArray) (i : Nat) : askTo L key (i + 1) = askTo L key i ++ askAt L key i := by
  unfold askTo; rw [List.range_succ, List.flatMap_append]; simp
theorem askAt_len (L : List (List Fi)) (key : ByteArray) (k : Nat) : (askAt L key k).length ≤ (L.getD k []).length := by
  unfold askAt
  split
  · rename_i h
    subst h
    unfold ask0
    rw [List.length_map]
    exact Nat.le_trans (List.length_filter_le _ _) (by rw [dn_len]; exact Nat.le_refl _)
  · unfold askL
    rw [List.length_map]
    exact List.length_filter_le _ _
theorem askTo_len (L : List (List Fi)) (key : ByteArray) : ∀ i, i ≤ L.length → (askTo L key i).length ≤ (nums (L.take i)).length := by
  intro i
  induction i with
  | zero => intro _; simp [askTo, nums]
  | succ i ih =>
    intro h
    rw [askTo_succ, nums_snoc (by omega), List.length_append, List.length_append, List.length_map]
    have := ih (by omega)
    have := askAt_len L key i
    omega
theorem ask0_snoc (key : ByteArray) (fs : List Fi) (is : List Nat) (i : Nat) : ask0 key fs (is ++ [i]) = ask0 key fs is ++ if bears key (fs.getD i zf) = true then [⟨0, (fs.getD i zf).n⟩] else [] := by
  unfold ask0
  rw [List.filter_append, List.map_append]
  congr 1
  simp only [List.filter_cons, List.filter_nil]
  split <;> rfl
/-- What a key asks of a level whose files do not overlap. -/
theorem ask_range {k : Nat} (hk : 0 < k) {fs : List Fi} (h : lvOk k fs) {key : ByteArray} {r : Nat} (hr : Vu.Found (above key fs) fs.length r) :
    askL key k fs = if r < fs.length ∧ lt key (fs.getD r zf).a = false then [⟨(k : Int), (fs.getD r zf).n⟩] else [] := by
  have hle := hr.le
  unfold askL
  by_cases hc : r < fs.length ∧ lt key (fs.getD r zf).a = false
  · rw [if_pos hc, filter_range (bears key) fs r (r + 1) (by omega) (by omega) (fun i hi => ?_)]
    · rw [show r + 1 - r = 1 by omega, List.drop_eq_getElem_cons hc.1]
      have hlt : r < fs.length := hc.1
      have e : fs.getD r zf = fs[r]'hlt := by rw [List.getD_eq_getElem?_getD, List.getElem?_eq_getElem hlt]; rfl
      exact congrArg (fun f : Fi => [(⟨(k : Int), f.n⟩ : Pl)]) e.symm
    · unfold bears
      rcases Nat.lt_trichotomy i r with h1 | h1 | h1
      · rw [show lt key (fs.getD i zf).b = false from hr.lo i h1, Bool.and_false, decide_eq_false (by omega)]
      · subst h1
        rw [hc.2, show lt key (fs.getD i zf).b = true from hr.hi i (Nat.le_refl _) hi, decide_eq_true (by omega)]; rfl
      · have h2 : lt key (fs.getD r zf).b = true := hr.hi r (Nat.le_refl _) hc.1
        have h3 : lt key (fs.getD i zf).a = true := ltle h2 (apart hk h h1 hi)
        rw [h3, decide_eq_false (by omega)]; rfl
  · rw [if_neg hc, filter_range (bears key) fs r r (Nat.le_refl _) hle (fun i hi => ?_), Nat.sub_self]
    · simp
    · rw [decide_eq_false (by omega)]
      unfold bears
      by_cases h1 : i < r
      · rw [show lt key (fs.getD i zf).b = false from hr.lo i h1, Bool.and_false]
      · have h2 : lt key (fs.getD r zf).a = true := by
          cases hb : lt key (fs.getD r zf).a with
          | true => rfl
          | false => exact absurd ⟨by omega, hb⟩ hc
        have h3 : lt key (fs.getD i zf).a = true := by
          by_cases e : i = r
          · subst e; exact h2
          · exact tr h2 (rise_a hk h (by omega) hi)
        rw [h3]; rfl
/-- What Asks holds: its key's box, its answer's box and row, the marks. -/
structure Ak (w : World) (gk gb : Nat) (key : ByteArray) (Ds : List Nat) (xs : List Pl) (W : World) : Prop where
  k : W.heap[gk]? = some (.cells #[.string key] 9)
  o : ∃ a n c, W.heap[gb]? = some (.cells #[.slice a n c] 25) ∧ ePl.Own W w.heap.size (.slice a n c) xs
  m : ∀ D ∈ Ds, W.heap[D]? = some (.deferred (some [])) ∧ w.heap.size ≤ D
  nd : Ds.Nodup
  lo : Below w.heap.size w W
  d : w.heap.size ≤ gk ∧ gk < gb
section
variable {w : World} {gk gb : Nat} {key : ByteArray} {Ds : List Nat} {xs : List Pl} {W : World}
theorem blk_later {W W' : World} {j : Nat} {o : Obj} (h : W.heap[j]? = some o) (b : Below W.heap.size W W') : W'.heap[j]? = some o := (b.block _ (blk_lt h)).trans h
theorem Ak.later (h : Ak w gk gb key Ds xs W) {W' : World} (b : Below W.heap.size W W') : Ak w gk gb key Ds xs W' := by
  obtain ⟨a, n, c, h1, h2⟩ := h.o
  exact ⟨blk_later h.k b, ⟨a, n, c, blk_later h1 b, h2.later b⟩, fun D hD => ⟨blk_later (h.m D hD).1 b, (h.m D hD).2⟩, h.nd, Below.up h.lo b, h.d⟩
theorem own_ty {W : World} {base e size n : Nat} {v : Value} {ys : List Value} (h : W.ownsRow base e size v n ys) : ∀ j, v.ownBlock = some j → ∃ c, W.heap[j]? = some (.cells c e) := by
  intro j hj
  rcases h.2 with ⟨h1, _⟩ | ⟨g, c, cur, h1, h2, h3, h4⟩
  · rw [h1] at hj; simp [Value.ownBlock] at hj
  · rw [h1] at hj; simp [Value.ownBlock] at hj; subst hj
    exact ⟨cur, h3⟩
theorem Ak.kept (h : Ak w gk gb key Ds xs W) {W' : World} {q : Nat} (g : W.grownBy W' (some q)) (hq : w.heap.size ≤ q) (hc : ∀ c t f, W.heap[q]? ≠ some (.cells c t f)) (hD : ∀ D ∈ Ds, D ≠ q) : Ak w gk gb key Ds xs W' := by
  obtain ⟨a, n, c, h1, h2⟩ := h.o
  have bk : ∀ {j : Nat} {o : Obj}, W.heap[j]? = some o → j ≠ q → W'.heap[j]? = some o := fun hj hne => (g.block _ (blk_lt hj) (fun e => hne (Option.some.inj e))).trans hj
  refine ⟨bk h.k (fun e => hc _ _ _ (e ▸ h.k)), ⟨a, n, c, bk h1 (fun e => hc _ _ _ (e ▸ h1)), own_blocks h2 (fun j hj => ?_)⟩, fun D hD' => ⟨bk (h.m D hD').1 (hD D hD'), (h.m D hD').2⟩, h.nd, below_grown h.lo h.lo.size g (fun j e => by cases e; exact hq), h.d⟩
  obtain ⟨cc, hcc⟩ := own_ty h2 j hj
  exact g.block j (blk_lt hcc) (fun e => by cases e; exact hc _ _ _ hcc)
/-- A place more. -/
theorem Ak.put (h : Ak w gk gb key Ds xs W) (l n : Int) (hx : xs.length + 1 ≤ 1048576) :
    ∃ a m c va vm vc W', W.cell? ⟨gb, 0, none⟩ = some (.slice a m c) ∧ (Builtin.append_ #[25, 25] 25 #[.slice a m c, .slice (some ⟨W.heap.size, 0, none⟩) 1 1]).run Try.prog (W.alloc (.cells #[.int .i64 l, .int .i64 n] 41)) = .ok (.slice va vm vc) W' ∧
      W'.cell? ⟨gb, 0, none⟩ = some (.slice a m c) ∧ W'.frozen? ⟨gb, 0, none⟩ = false ∧ Ak w gk gb key Ds (xs ++ [⟨l, n⟩]) (W'.setCell ⟨gb, 0, none⟩ (.slice va vm vc)) ∧ KeepsOthers W (W'.setCell ⟨gb, 0, none⟩ (.slice va vm vc)) ∧
      (∀ j o, W.heap[j]? = some o → j ≠ gb → (∀ c, o ≠ .cells c 41) → (W'.setCell ⟨gb, 0, none⟩ (.slice va vm vc)).heap[j]? = some o) := by
  obtain ⟨a, m, c, h1, h2⟩ := h.o
  obtain ⟨v', W', r1, o1, g1, q1⟩ := El.app1 ePl W w.heap.size (.slice a m c) xs ⟨l, n⟩ #[.int .i64 l, .int .i64 n] rfl h2 (by show (_ + 1) * 16 ≤ _; omega) (by omega) h.lo.size
  obtain ⟨va, vc, hv⟩ := row_block o1
  subst hv
  have bk : ∀ {j : Nat} {o : Obj}, W.heap[j]? = some o → (∀ c, o ≠ .cells c 41) → W'.heap[j]? = some o := by
    intro j o hj hne
    refine (g1.block _ (blk_lt hj) (fun e => ?_)).trans hj
    obtain ⟨cc, hcc⟩ := own_ty h2 j e.symm
    rw [hj] at hcc
    exact hne cc (Option.some.inj hcc)
  have kb := bk h1 (fun c e => by cases e)
  have ks : ∀ {j : Nat} {o : Obj}, W.heap[j]? = some o → j ≠ gb → (∀ c, o ≠ .cells c 41) → (W'.setCell ⟨gb, 0, none⟩ (.slice va (xs ++ [(⟨l, n⟩ : Pl)]).length vc)).heap[j]? = some o := fun hj hne ho => (set_ne _ _ _ _ _ hne).trans (bk hj ho)
  refine ⟨a, m, c, va, _, vc, W', cell_of h1 0 _ rfl, r1, cell_of kb 0 _ rfl, fz_of kb 0, ⟨ks h.k (by have := h.d; omega) (fun c e => by cases e), ⟨va, _, vc, (set_of kb 0 _).trans rfl, own_blocks o1 (fun j hj => set_ne _ _ _ _ _ ?_)⟩, fun D hD => ⟨ks (h.m D hD).1 (fun e => ?_) (fun c e => by cases e), (h.m D hD).2⟩, h.nd, ?_, h.d⟩, ?_, fun j o hj hne ho => ks hj hne ho⟩
  · rintro rfl
    obtain ⟨cc, hcc⟩ := own_ty o1 _ hj
    rw [kb] at hcc
    cases hcc
  · have := (h.m D hD).1
    rw [e, h1] at this
    cases this
  · have b1 := below_grown h.lo h.lo.size g1 (fun j hj => (own_lt h2 j hj).1)
    exact b1.setCell (p := ⟨gb, 0, none⟩) (by have := h.d; show _ ≤ gb; omega) _
  · refine KeepsOthers.trans (B := W') ?_ (Rq.keeps_set kb)
    refine Rq.keeps_grown g1 (fun k hk => ?_)
    obtain ⟨cc, hcc⟩ := own_ty h2 k hk
    exact ⟨cc, _, _, hcc⟩
end
end Go.Proofs.Ytkpihibeohjfnaa.Aq

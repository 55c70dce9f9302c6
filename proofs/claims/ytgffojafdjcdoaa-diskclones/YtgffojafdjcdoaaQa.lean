/- The document's files and its disk in memory; find, Used, name, New. -/
import Derived.Test.YtgffojafdjcdoaaPe
import Derived.Test.YtgffojafdjcdoaaDe
namespace Go.Proofs.Ytgffojafdjcdoaa.Qa
open Go.ChangeShapes Go.WideShapes Go.ChangeAt Go.RowKit Go.Maps
open Go.Sort (grow)
open Go.Proofs.Ytgffojafdjcdoaa.By
open Go.Proofs.Ytgffojafdjcdoaa.Ln
open Go.Proofs.Ytgffojafdjcdoaa.Dk
open Go.Proofs.Ytgffojafdjcdoaa.Df (isN isQ isN_size)
open Go.Proofs.Ytgffojafdjcdoaa.Ap
open Go.Proofs.Ytgffojafdjcdoaa.Pd
open Go.Proofs.Ytgffojafdjcdoaa.Lx (lt)
set_option linter.unusedVariables false
set_option linter.unusedSimpArgs false

theorem blk_lt {w : World} {g : Nat} {o : Obj} (h : w.heap[g]? = some o) : g < w.heap.size := (Array.getElem?_eq_some_iff.1 h).1
theorem cell_of {w : World} {g : Nat} {c : Array Value} {t : TypeId} (h : w.heap[g]? = some (.cells c t)) (i : Nat) (v : Value) (hi : c[i]? = some v) : w.cell? ⟨g, i, none⟩ = some v := by
  unfold World.cell?; rw [h]; exact hi
theorem fz_of {w : World} {g : Nat} {c : Array Value} {t : TypeId} (h : w.heap[g]? = some (.cells c t)) (i : Nat) : w.frozen? ⟨g, i, none⟩ = false := by
  simp [World.frozen?, h]
theorem set_of {w : World} {g : Nat} {c : Array Value} {t : TypeId} (h : w.heap[g]? = some (.cells c t)) (i : Nat) (v : Value) : (w.setCell ⟨g, i, none⟩ v).heap[g]? = some (.cells (c.setIfInBounds i v) t) := by
  simp [World.setCell, Array.getElem?_modify, h]
theorem set_ne (w : World) (g k i : Nat) (v : Value) (h : k ≠ g) : (w.setCell ⟨g, i, none⟩ v).heap[k]? = w.heap[k]? := Below.heap_setCell w _ _ k (by simpa using h)
theorem new_at (w : World) (o : Obj) : (w.alloc o).heap[w.heap.size]? = some o := by show (w.heap.push o)[w.heap.size]? = _; simp
theorem size_alloc (w : World) (o : Obj) : (w.alloc o).heap.size = w.heap.size + 1 := by show (w.heap.push o).size = _; simp
theorem box_below (w : World) (o : Obj) : Below w.heap.size w (w.alloc o) := (Below.refl _ _).alloc (Nat.le_refl _) o
theorem drewN_below (w : World) (q : Nat) : Below w.heap.size w (w.drewN q) := by
  induction q with
  | zero => exact Below.refl _ _
  | succ q ih => rw [show w.drewN (q + 1) = (w.drewN q).drew from rfl]; exact ih.drew
theorem hid {p : Prop} (h : p) : Hid p := h
def rc (rs : List RF) : List Value := rs.flatMap fun r => [.string r.n, .string r.b, .int .i64 (r.k : Int)]
theorem rc_cons (r : RF) (rs : List RF) : rc (r :: rs) = .string r.n :: .string r.b :: .int .i64 (r.k : Int) :: rc rs := rfl
theorem rc_len : ∀ rs : List RF, (rc rs).length = rs.length * 3
  | [] => rfl
  | r :: rs => by rw [rc_cons]; simp only [List.length_cons, rc_len rs]; omega
theorem rc_app (a b : List RF) : rc (a ++ b) = rc a ++ rc b := by simp [rc]
theorem rc_get : ∀ (rs : List RF) (i : Nat) (x : RF), rs[i]? = some x → (rc rs)[i * 3]? = some (.string x.n) ∧ (rc rs)[i * 3 + 1]? = some (.string x.b) ∧ (rc rs)[i * 3 + 2]? = some (.int .i64 (x.k : Int))
  | [], _, _, h => by simp at h
  | r :: rs, 0, x, h => by
    simp at h; subst h
    exact ⟨rfl, rfl, rfl⟩
  | r :: rs, i + 1, x, h => by
    have := rc_get rs i x (by simpa using h)
    rw [rc_cons, show (i + 1) * 3 = i * 3 + 1 + 1 + 1 by omega]
    exact this
theorem rc_take (rs : List RF) (i : Nat) : rc (rs.take i) = (rc rs).take (i * 3) := by
  induction rs generalizing i with
  | nil => simp [rc]
  | cons r rs ih =>
    cases i with
    | zero => rfl
    | succ i =>
      rw [List.take_succ_cons, rc_cons, rc_cons, ih, show (i + 1) * 3 = i * 3 + 1 + 1 + 1 by omega]
      rfl
theorem rc_drop (rs : List RF) (i : Nat) : rc (rs.drop i) = (rc rs).drop (i * 3) := by
  induction rs generalizing i with
  | nil => simp [rc]
  | cons r rs ih =>
    cases i with
    | zero => rfl
    | succ i =>
      rw [List.drop_succ_cons, rc_cons, ih, show (i + 1) * 3 = i * 3 + 1 + 1 + 1 by omega]
      rfl
theorem rc_set (rs : List RF) : ∀ (i : Nat) (x y : RF), rs[i]? = some x → y.n = x.n → rc (rs.set i y) = ((rc rs).set (i * 3 + 1) (.string y.b)).set (i * 3 + 2) (.int .i64 (y.k : Int)) := by
  induction rs with
  | nil => intro i x y h; simp at h
  | cons r rs ih =>
    intro i x y h hn
    cases i with
    | zero =>
      simp at h; subst h
      rw [List.set_cons_zero, rc_cons, rc_cons, hn]
      rfl
    | succ i =>
      rw [List.set_cons_succ, rc_cons, rc_cons, ih i x y (by simpa using h) hn, show (i + 1) * 3 = i * 3 + 1 + 1 + 1 by omega]
      rfl
def OwnF (w : World) (base : Nat) (v : Value) (rs : List RF) : Prop := w.ownsRow base 88 3 v rs.length (rc rs)
theorem OwnF.shape {w : World} {base : Nat} {v : Value} {rs : List RF} (h : OwnF w base v rs) : ∃ a c, v = .slice a rs.length c ∧ (rs.length ≤ c) ∧ (0 < rs.length → ∃ g, a = some ⟨g, 0, none⟩) ∧ (a = none → c = 0) := by
  rcases h.2 with ⟨e, h0⟩ | ⟨g, cap, cur, e, hb, hg, hn, hm, hs, ht⟩
  · exact ⟨none, 0, by rw [e, h0], by omega, fun h => by omega, fun _ => rfl⟩
  · exact ⟨_, _, e, hn, fun _ => ⟨g, rfl⟩, fun h => by cases h⟩
theorem OwnF.cells {w : World} {base g n c : Nat} {rs : List RF} (h : OwnF w base (.slice (some ⟨g, 0, none⟩) n c) rs) (i : Nat) (x : RF) (hx : rs[i]? = some x) :
    w.cell? ⟨g, i * 3, none⟩ = some (.string x.n) ∧ w.cell? ⟨g, i * 3 + 1, none⟩ = some (.string x.b) ∧ w.cell? ⟨g, i * 3 + 2, none⟩ = some (.int .i64 (x.k : Int)) := by
  obtain ⟨a, c', he, _⟩ := h.shape
  simp only [Value.slice.injEq] at he
  obtain ⟨_, rfl, _⟩ := he
  have hl := (List.getElem?_eq_some_iff.1 hx).1
  obtain ⟨h0, h1, h2⟩ := rc_get rs i x hx
  exact ⟨by rw [World.ownsRow.cellAt h _ (by omega)]; exact h0, by rw [World.ownsRow.cellAt h _ (by omega)]; exact h1, by rw [World.ownsRow.cellAt h _ (by omega)]; exact h2⟩
theorem OwnF.blk {w w' : World} {base : Nat} {v : Value} {rs : List RF} (h : OwnF w base v rs) (hb : ∀ j, v.ownBlock = some j → w'.heap[j]? = w.heap[j]?) : OwnF w' base v rs := by
  refine ⟨h.1, ?_⟩
  rcases h.2 with h1 | ⟨g, cap, cur, e, hb', hg, r⟩
  · exact .inl h1
  · exact .inr ⟨g, cap, cur, e, hb', (hb g (by rw [e]; rfl)).trans hg, r⟩
/-- The document's disk at block g, its files' row v, all of its memory in P. -/
structure RDk (w : World) (base g : Nat) (v : Value) (P : Nat → Prop) (R : RS) : Prop where
  cells : w.heap[g]? = some (.cells #[v, .int .i64 R.q, .int .i64 R.af, .int .i64 R.ct, .int .i64 R.rf] 69)
  own : OwnF w base v R.rs
  pg : P g
  pv : ∀ j, v.ownBlock = some j → P j
  low : ∀ j, P j → base ≤ j ∧ j < w.heap.size
theorem RDk.kept {w w' : World} {base g : Nat} {v : Value} {P : Nat → Prop} {R : RS} (h : RDk w base g v P R) (hb : ∀ j, P j → w'.heap[j]? = w.heap[j]?) (hs : w.heap.size ≤ w'.heap.size) : RDk w' base g v P R :=
  ⟨(hb _ h.pg).trans h.cells, h.own.blk (fun j hj => hb j (h.pv j hj)), h.pg, h.pv, fun j hj => ⟨(h.low j hj).1, Nat.lt_of_lt_of_le (h.low j hj).2 hs⟩⟩
theorem RDk.later {w w' : World} {base g : Nat} {v : Value} {P : Nat → Prop} {R : RS} (h : RDk w base g v P R) (b : Below w.heap.size w w') : RDk w' base g v P R :=
  h.kept (fun j hj => b.block j (h.low j hj).2) b.size
theorem RDk.fr {w w' : World} {base g : Nat} {v : Value} {P Q : Nat → Prop} {R : RS} (h : RDk w base g v P R) (F : Fr Q w w') (hd : ∀ j, P j → ¬ Q j) : RDk w' base g v P R :=
  h.kept (fun j hj => F.block j (h.low j hj).2 (hd j hj)) F.size
theorem RDk.cell {w : World} {base g : Nat} {v : Value} {P : Nat → Prop} {R : RS} (h : RDk w base g v P R) (i : Nat) (u : Value) (hi : (#[v, .int .i64 R.q, .int .i64 R.af, .int .i64 R.ct, .int .i64 R.rf] : Array Value)[i]? = some u) : w.cell? ⟨g, i, none⟩ = some u := cell_of h.cells i u hi
/-- The row's block is not the disk's. -/
theorem RDk.ne {w : World} {base g : Nat} {v : Value} {P : Nat → Prop} {R : RS} (h : RDk w base g v P R) : v.ownBlock ≠ some g := by
  intro e
  rcases h.own.2 with ⟨e1, _⟩ | ⟨g', cap, cur, e1, _, hg, _⟩
  · rw [e1] at e; cases e
  · rw [e1] at e
    have : g' = g := by simpa [Value.ownBlock] using e
    subst this
    rw [h.cells] at hg
    simp at hg
structure RS.ok (R : RS) : Prop where
  srt : Srt R.rs
  len : R.rs.length ≤ 4096
  tot : tot R.rs ≤ 268435456
  k : ∀ r ∈ R.rs, r.k ≤ r.b.size
  q : 0 ≤ R.q ∧ R.q ≤ 268435456
  af : 0 ≤ R.af ∧ R.af ≤ 9223372036854775807
  ct : 0 ≤ R.ct ∧ R.ct ≤ 9223372036854775807
  rf : 0 ≤ R.rf ∧ R.rf ≤ 4611686018427387904
theorem sum_mem : ∀ {l : List RF} {r : RF}, r ∈ l → r.b.size ≤ tot l
  | x :: l, r, h => by
    unfold tot
    rw [List.map_cons, List.sum_cons]
    rcases List.mem_cons.1 h with rfl | h
    · omega
    · have := sum_mem h; unfold tot at this; omega
theorem Rel.ok {S : St} {R : RS} (h : Rel S R) (hok : S.ok) (hn : (Mp.names S.fs).Nodup) (hk : ∀ p ∈ S.fs, p.2.k ≤ p.2.zs.length) : RS.ok R :=
  ⟨h.cor.srt, by rw [← h.cor.len hn]; exact hok.len, by rw [← h.cor.used hn]; exact hok.used, fun r hr => by
      obtain ⟨f, hf, hc⟩ := h.cor.some (look_of_mem h.cor.srt hr)
      have a1 := congrArg Prod.fst hc
      have a2 := congrArg Prod.snd hc
      simp only [cf, cr] at a1 a2
      have := hk _ (Mp.seek_mem hf)
      simp only at this
      rw [a1, a2, bs_len] at this
      exact this, by rw [← h.q]; exact hok.q, by rw [← h.af]; exact hok.af, by rw [← h.ct]; exact hok.ct, by rw [← h.rf]; exact hok.rf⟩
/-! ### The places -/
theorem below_iff {rs : List RF} (hs : Srt rs) (s : ByteArray) (i : Nat) (x : RF) (hx : rs[i]? = some x) : lt x.n s = true ↔ i < (lo s rs).length := by
  have e := parts hs s
  constructor
  · intro h
    refine Nat.lt_of_not_le fun hge => ?_
    rw [e, List.getElem?_append_right hge] at hx
    have hm := List.mem_of_getElem? hx
    rcases List.mem_append.1 hm with hm | hm
    · cases hl : lkp rs s with
      | none => rw [hl] at hm; cases hm
      | some r =>
        rw [hl] at hm
        have : x = r := by simpa using hm
        subst this
        rw [(look_mem hl).2, Lx.irr] at h; cases h
    · have h2 : lt s x.n = true := (List.mem_filter.1 hm).2
      rw [Lx.asym h2] at h; cases h
  · intro h
    rw [e, List.getElem?_append_left h] at hx
    exact (List.mem_filter.1 (List.mem_of_getElem? hx)).2
theorem lo_le (s : ByteArray) (rs : List RF) : (lo s rs).length ≤ rs.length := List.length_filter_le _ _
/-- What stands at the place. -/
theorem at_place {rs : List RF} (hs : Srt rs) (s : ByteArray) {r : RF} (h : lkp rs s = some r) : rs[(lo s rs).length]? = some r := by
  have e := parts hs s
  rw [h] at e
  have : rs[(lo s rs).length]? = (lo s rs ++ ((some r).toList ++ hi s rs))[(lo s rs).length]? := congrArg (fun l => l[(lo s rs).length]?) e
  rw [this, List.getElem?_append_right (Nat.le_refl _), Nat.sub_self]
  rfl
theorem not_place {rs : List RF} (hs : Srt rs) (s : ByteArray) (h : lkp rs s = none) {y : RF} (hy : rs[(lo s rs).length]? = some y) : y.n ≠ s := look_none h y (List.mem_of_getElem? hy)
theorem take_lo {rs : List RF} (hs : Srt rs) (s : ByteArray) : rs.take (lo s rs).length = lo s rs := by
  conv => lhs; arg 2; rw [parts hs s]
  exact List.take_left' rfl
theorem drop_none {rs : List RF} (hs : Srt rs) (s : ByteArray) (h : lkp rs s = none) : rs.drop (lo s rs).length = hi s rs := by
  conv => lhs; arg 2; rw [parts hs s, h]
  exact List.drop_left' rfl
theorem drop_some {rs : List RF} (hs : Srt rs) (s : ByteArray) {r : RF} (h : lkp rs s = some r) : rs.drop ((lo s rs).length + 1) = hi s rs := by
  conv => lhs; arg 2; rw [parts hs s, h]
  rw [← List.drop_drop, List.drop_left' rfl]
  rfl
theorem set_up {rs : List RF} (hs : Srt rs) (s : ByteArray) {r : RF} (h : lkp rs s = some r) (x : RF) : rs.set (lo s rs).length x = up s x rs := by
  have e := parts hs s
  rw [h] at e
  have : rs.set (lo s rs).length x = (lo s rs ++ ((some r).toList ++ hi s rs)).set (lo s rs).length x := congrArg (fun l => l.set (lo s rs).length x) e
  rw [this, List.set_append, if_neg (by omega), Nat.sub_self]
  rfl

theorem rname_any (s : ByteArray) (hs : s.size ≤ 9223372036854775807) (w : World) : Calls Try.prog 56 #[.string s] w fun e w' => e = .returned (.bool (isN s)) ∧ w' = w := by
  have h1 : (s.size : Int) ≤ 9223372036854775807 := by omega
  unfold isN
  by_cases a : 1 ≤ s.size
  · have i1 : (1 : Int) ≤ (s.size : Int) := by omega
    by_cases b : s.size ≤ 64
    · have i2 : (s.size : Int) ≤ 64 := by omega
      go_enter Try.func56, Try.ntmps56
      go_wp2
      go_ret
      exact ⟨by simp [a, b], rfl⟩
    · have i2 : ¬ (s.size : Int) ≤ 64 := by omega
      go_enter Try.func56, Try.ntmps56
      go_wp2
      go_ret
      exact ⟨by simp [a, b], rfl⟩
  · have i1 : ¬ (1 : Int) ≤ (s.size : Int) := by omega
    go_enter Try.func56, Try.ntmps56
    go_wp2
    go_ret
    exact ⟨by simp [a], rfl⟩
set_option maxHeartbeats 2000000 in
set_option maxRecDepth 100000 in
theorem rfind_yes {base g : Nat} {v : Value} {P : Nat → Prop} {R : RS} (s : ByteArray) (r : RF) (hl : lkp R.rs s = some r) (w : World) (H : RDk w base g v P R) (hok : RS.ok R) : Calls Try.prog 57 #[.pointer (some ⟨g, 0, none⟩), .string s] w fun e w' => e = .returned (.tuple #[.int .i64 ((lo s R.rs).length : Int), .bool true]) ∧ Below w.heap.size w w' := by
  have hsrt := hid hok.srt
  have hlen := hok.len
  have hll := lo_le s R.rs
  obtain ⟨a, c, rfl, hnc, hsome, _⟩ := H.own.shape
  have HO := hid H.own
  have c0 := H.cell 0 _ rfl
  obtain ⟨N, hN⟩ : ∃ N, N = R.rs.length := ⟨_, rfl⟩
  obtain ⟨L, hL⟩ : ∃ L, L = (lo s R.rs).length := ⟨_, rfl⟩
  rw [← hN] at c0 hlen hsome hnc hll
  rw [← hL] at hll ⊢
  replace hN := hid hN
  replace hL := hid hL
  replace hl := hid hl
  replace hsome := hid hsome
  have i64 : (N : Int) ≤ 4096 := by omega
  clear H hok
  go_enter Try.func57, Try.ntmps57
  go_wp2_with fail
  go_loopw [6] (fun iv wr => ∃ i : Nat, i ≤ L ∧ iv = .int .i64 (i : Int) ∧ wr = w) (fun iv _ => L - (intOf iv).toNat)
  case atStart => exact ⟨0, Nat.zero_le _, rfl, rfl⟩
  case round =>
    obtain ⟨i, hi, rfl, rfl⟩ := hrel
    by_cases hiN : i < N
    · obtain ⟨x, hx⟩ : ∃ x, R.rs[i]? = some x := ⟨_, List.getElem?_eq_getElem (by have := hN.out; omega)⟩
      obtain ⟨gv, rfl⟩ := hsome.out (by omega)
      have hb := below_iff hsrt.out s i x hx
      rw [← hL.out] at hb
      obtain ⟨k0, k1, k2⟩ := HO.out.cells i x hx
      have i1 : (i : Int) < (N : Int) := by omega
      by_cases hiL : i < L
      · have hlt : Op.bytesLess x.n.toList s.toList = true := hb.2 hiL
        have hwr : IntKind.i64.wrap ((i : Int) + 1) = ((i + 1 : Nat) : Int) := by rw [IntKind.wrap_i64]; omega
        clear hb hx
        go_wp2_with fail
        refine ⟨⟨i + 1, by omega, by first | rfl | go_num, by first | rfl | trivial⟩, ?_⟩
        simp only [intOf]; omega
      · have hlt : Op.bytesLess x.n.toList s.toList = false := by
          have : ¬ lt x.n s = true := fun h => hiL (hb.1 h)
          exact Bool.eq_false_iff.2 this
        obtain rfl : i = L := by omega
        have hp := at_place hsrt.out s hl.out
        rw [← hL.out, hx] at hp
        obtain rfl := Option.some.inj hp
        have hn := (look_mem hl.out).2
        rw [hn] at k0 hlt
        clear hb hx hp hn
        go_wp2_with fail
        go_quiet (fail)
        go_wp2_with fail
        refine bodyPost_ret (v := .tuple #[.int .i64 (i : Int), .bool true]) (by simp [results, Try.results57, go_sem]) rfl ⟨rfl, ?_⟩
        exact drewN_below _ _
    · obtain rfl : i = L := by omega
      exfalso
      have := (List.getElem?_eq_some_iff.1 (at_place hsrt.out s hl.out)).1
      have := hN.out
      have := hL.out
      omega
set_option maxHeartbeats 2000000 in
set_option maxRecDepth 100000 in
theorem rfind_no {base g : Nat} {v : Value} {P : Nat → Prop} {R : RS} (s : ByteArray) (hl : lkp R.rs s = none) (w : World) (H : RDk w base g v P R) (hok : RS.ok R) : Calls Try.prog 57 #[.pointer (some ⟨g, 0, none⟩), .string s] w fun e w' => e = .returned (.tuple #[.int .i64 ((lo s R.rs).length : Int), .bool false]) ∧ Below w.heap.size w w' := by
  have hsrt := hid hok.srt
  have hlen := hok.len
  have hll := lo_le s R.rs
  obtain ⟨a, c, rfl, hnc, hsome, _⟩ := H.own.shape
  have HO := hid H.own
  have c0 := H.cell 0 _ rfl
  obtain ⟨N, hN⟩ : ∃ N, N = R.rs.length := ⟨_, rfl⟩
  obtain ⟨L, hL⟩ : ∃ L, L = (lo s R.rs).length := ⟨_, rfl⟩
  rw [← hN] at c0 hlen hsome hnc hll
  rw [← hL] at hll ⊢
  replace hN := hid hN
  replace hL := hid hL
  replace hl := hid hl
  replace hsome := hid hsome
  have i64 : (N : Int) ≤ 4096 := by omega
  clear H hok
  go_enter Try.func57, Try.ntmps57
  go_wp2_with fail
  go_loopw [6] (fun iv wr => ∃ i : Nat, i ≤ L ∧ iv = .int .i64 (i : Int) ∧ wr = w) (fun iv _ => L - (intOf iv).toNat)
  case atStart => exact ⟨0, Nat.zero_le _, rfl, rfl⟩
  case round =>
    obtain ⟨i, hi, rfl, rfl⟩ := hrel
    by_cases hiN : i < N
    · obtain ⟨x, hx⟩ : ∃ x, R.rs[i]? = some x := ⟨_, List.getElem?_eq_getElem (by have := hN.out; omega)⟩
      obtain ⟨gv, rfl⟩ := hsome.out (by omega)
      have hb := below_iff hsrt.out s i x hx
      rw [← hL.out] at hb
      obtain ⟨k0, k1, k2⟩ := HO.out.cells i x hx
      have i1 : (i : Int) < (N : Int) := by omega
      by_cases hiL : i < L
      · have hlt : Op.bytesLess x.n.toList s.toList = true := hb.2 hiL
        have hwr : IntKind.i64.wrap ((i : Int) + 1) = ((i + 1 : Nat) : Int) := by rw [IntKind.wrap_i64]; omega
        clear hb hx
        go_wp2_with fail
        refine ⟨⟨i + 1, by omega, by first | rfl | go_num, by first | rfl | trivial⟩, ?_⟩
        simp only [intOf]; omega
      · have hlt : Op.bytesLess x.n.toList s.toList = false := by
          have : ¬ lt x.n s = true := fun h => hiL (hb.1 h)
          exact Bool.eq_false_iff.2 this
        obtain rfl : i = L := by omega
        have hn := not_place hsrt.out s hl.out (y := x) (by rw [← hL.out]; exact hx)
        have hn2 : ¬ x.n.toList = s.toList := fun e => hn (Lx.toList_inj e)
        clear hb hx
        go_wp2_with fail
        go_quiet (fail)
        go_wp2_with fail
        refine bodyPost_ret (v := .tuple #[.int .i64 (i : Int), .bool false]) (by simp [results, Try.results57, go_sem, hn2]) rfl ⟨rfl, ?_⟩
        exact drewN_below _ _
    · obtain rfl : i = L := by omega
      have i1 : ¬ (i : Int) < (N : Int) := by omega
      go_wp2_with fail
      go_quiet (fail)
      go_wp2_with fail
      refine bodyPost_ret (v := .tuple #[.int .i64 (i : Int), .bool false]) (by simp [results, Try.results57, go_sem]) rfl ⟨rfl, ?_⟩
      exact drewN_below _ _
end Go.Proofs.Ytgffojafdjcdoaa.Qa

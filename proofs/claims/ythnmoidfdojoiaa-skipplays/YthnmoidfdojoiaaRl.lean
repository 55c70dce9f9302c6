/- The document's list: its nodes, its order; place, at, Seek, Before, Find. -/
import Derived.Test.YthnmoidfdojoiaaOi
import Derived.Test.YthnmoidfdojoiaaFi
import Derived.Test.YthnmoidfdojoiaaRc
namespace Go.Proofs.Ythnmoidfdojoiaa.Rl
open Go.ChangeShapes Go.WideShapes Go.ChangeAt Go.RowKit
open Go.Sort (grow)
open Go.Proofs.Ythnmoidfdojoiaa.Ik
open Go.Proofs.Ythnmoidfdojoiaa.Sg
open Go.Proofs.Ythnmoidfdojoiaa.Cm (ik)
open Go.Proofs.Ythnmoidfdojoiaa.Vl
open Go.Proofs.Ythnmoidfdojoiaa.Mm
open Go.Proofs.Ythnmoidfdojoiaa.Tr
open Go.Proofs.Ythnmoidfdojoiaa.Li
open Go.Proofs.Ythnmoidfdojoiaa.In
open Go.Proofs.Ythnmoidfdojoiaa.Oi
set_option linter.unusedVariables false
set_option linter.unusedSimpArgs false



open Go.Proofs.Ythnmoidfdojoiaa.Rc
open Go.Proofs.Ythnmoidfdojoiaa.Fi (first_eq)

/-- The document's nodes in a row: five cells each. -/
def rcs (ns : List N) : List Value := ns.flatMap fun x => [.string x.k, .int .u64 x.s, .int .i64 x.c, x.v, .int .i64 (x.h : Int)]
def OwnN (w : World) (base : Nat) (v : Value) (ns : List N) : Prop := w.ownsRow base 56 5 v ns.length (rcs ns)
/-- The document's list as a value. -/
structure RL (w : World) (base : Nat) (an ao : Option Addr) (cn co : Nat) (ns : List N) (ord : List Nat) : Prop where
  n : OwnN w base (.slice an ns.length cn) ns
  o : OwnZ w base (.slice ao ord.length co) (zi ord)
  G : Gd ns ord
def rv (most : Nat) (an ao : Option Addr) (cn co : Nat) (n : Nat) : Array Value := #[.int .i64 (most : Int), .slice an n cn, .slice ao n co]
theorem RL.later {w w' : World} {base : Nat} {an ao : Option Addr} {cn co : Nat} {ns : List N} {ord : List Nat} (h : RL w base an ao cn co ns ord) (b : Below w.heap.size w w') : RL w' base an ao cn co ns ord := ⟨row_later h.n b, h.o.later b, h.G⟩
theorem rcs_get : ∀ (l : List N) (i : Nat) (x : N), l[i]? = some x → (rcs l)[i * 5]? = some (.string x.k) ∧ (rcs l)[i * 5 + 1]? = some (.int .u64 x.s) ∧ (rcs l)[i * 5 + 2]? = some (.int .i64 x.c) ∧ (rcs l)[i * 5 + 3]? = some x.v ∧ (rcs l)[i * 5 + 4]? = some (.int .i64 (x.h : Int))
  | [], i, n, h => by simp at h
  | x :: l, 0, n, h => by simp at h; subst h; simp [rcs]
  | x :: l, i + 1, n, h => by
    have := rcs_get l i n (by simpa using h)
    have e : rcs (x :: l) = [.string x.k, .int .u64 x.s, .int .i64 x.c, x.v, .int .i64 (x.h : Int)] ++ rcs l := by simp [rcs]
    rw [e]
    have q : ∀ j, ([.string x.k, .int .u64 x.s, .int .i64 x.c, x.v, .int .i64 (x.h : Int)] ++ rcs l)[5 + j]? = (rcs l)[j]? := fun j => by rw [List.getElem?_append_right (by simp)]; simp
    rw [show (i + 1) * 5 = 5 + i * 5 by omega, show 5 + i * 5 + 1 = 5 + (i * 5 + 1) by omega, show 5 + i * 5 + 2 = 5 + (i * 5 + 2) by omega, show 5 + i * 5 + 3 = 5 + (i * 5 + 3) by omega, show 5 + i * 5 + 4 = 5 + (i * 5 + 4) by omega, q, q, q, q, q]
    exact this
theorem nd_get {ns : List N} {n : Nat} (h : 1 ≤ n ∧ n ≤ ns.length) : ns[n - 1]? = some (nd ns n) := by
  rw [nd_pos h.1, List.getD_eq_getElem?_getD, List.getElem?_eq_getElem (by omega)]
  rfl
theorem OwnN.cells {w : World} {base g c m : Nat} {ns : List N} (h : OwnN w base (.slice (some ⟨g, 0, none⟩) m c) ns) (n : Nat) (hn : 1 ≤ n ∧ n ≤ ns.length) :
    w.cell? ⟨g, (n - 1) * 5, none⟩ = some (.string (nd ns n).k) ∧ w.cell? ⟨g, (n - 1) * 5 + 1, none⟩ = some (.int .u64 (nd ns n).s) ∧ w.cell? ⟨g, (n - 1) * 5 + 2, none⟩ = some (.int .i64 (nd ns n).c) ∧ w.cell? ⟨g, (n - 1) * 5 + 3, none⟩ = some (nd ns n).v ∧ w.cell? ⟨g, (n - 1) * 5 + 4, none⟩ = some (.int .i64 ((nd ns n).h : Int)) := by
  obtain ⟨a, c', he, _⟩ := row_shape h
  simp only [Value.slice.injEq] at he
  obtain ⟨_, rfl, _⟩ := he
  obtain ⟨h0, h1, h2, h3, h4⟩ := rcs_get ns (n - 1) _ (nd_get hn)
  exact ⟨by rw [World.ownsRow.cellAt h _ (by omega)]; exact h0, by rw [World.ownsRow.cellAt h _ (by omega)]; exact h1, by rw [World.ownsRow.cellAt h _ (by omega)]; exact h2, by rw [World.ownsRow.cellAt h _ (by omega)]; exact h3, by rw [World.ownsRow.cellAt h _ (by omega)]; exact h4⟩
theorem OwnN.some {w : World} {base c : Nat} {a : Option Addr} {ns : List N} (h : OwnN w base (.slice a ns.length c) ns) (hl : 0 < ns.length) : ∃ g, a = some ⟨g, 0, none⟩ := by
  rcases h.2 with ⟨_, h0⟩ | ⟨g, _, _, e, _⟩
  · omega
  · simp only [Value.slice.injEq] at e; exact ⟨g, e.1⟩
theorem OwnZ.some {w : World} {base c n : Nat} {a : Option Addr} {xs : List Int} (h : OwnZ w base (.slice a n c) xs) (hl : 0 < xs.length) : ∃ g, a = some ⟨g, 0, none⟩ := by
  rcases h.2 with ⟨_, h0⟩ | ⟨g, _, _, e, _⟩
  · omega
  · simp only [Value.slice.injEq] at e; exact ⟨g, e.1⟩
/-! ### How many are below -/
def plc (ns : List N) (ord : List Nat) (k : IK) : Nat := (ord.filter (below ns k)).length
theorem plc_le (ns : List N) (ord : List Nat) (k : IK) : plc ns ord k ≤ ord.length := List.length_filter_le _ _
theorem plc_iff {ns : List N} {ord : List Nat} (G : Gd ns ord) (k : IK) (i n : Nat) (h : ord[i]? = some n) : below ns k n = true ↔ i < plc ns ord k := by
  have e := ord_split G k
  unfold plc
  constructor
  · intro hb
    by_cases hi : i < (ord.filter (below ns k)).length
    · exact hi
    · exfalso
      rw [e, List.getElem?_append_right (by omega)] at h
      have := List.mem_filter.1 (List.mem_of_getElem? h)
      simp [hb] at this
  · intro hi
    rw [e, List.getElem?_append_left hi] at h
    exact (List.mem_filter.1 (List.mem_of_getElem? h)).2
theorem first_plc {ns : List N} {ord : List Nat} (G : Gd ns ord) (k : IK) : ord.getD (plc ns ord k) 0 = firstN ns ord k := by
  have e := ord_split G k
  unfold firstN plc
  have h : ∀ P Q : List Nat, (P ++ Q).getD P.length 0 = hz Q := fun P Q => by
    rw [List.getD_eq_getElem?_getD, List.getElem?_append_right (Nat.le_refl _), Nat.sub_self]
    cases Q <;> rfl
  have := h (ord.filter (below ns k)) (ord.filter fun n => !below ns k n)
  rwa [← e] at this
theorem last_plc {ns : List N} {ord : List Nat} (G : Gd ns ord) (k : IK) (h0 : 0 < plc ns ord k) : ord.getD (plc ns ord k - 1) 0 = lastB ns ord k 0 := by
  have e := ord_split G k
  unfold lastB
  rw [G.chain0]
  unfold plc at *
  have h : ∀ P Q : List Nat, 0 < P.length → (P ++ Q).getD (P.length - 1) 0 = P.getLastD 0 := fun P Q hP => by
    rw [List.getD_eq_getElem?_getD, List.getElem?_append_left (by omega), List.getLastD_eq_getLast?, List.getLast?_eq_getElem?]
  have := h (ord.filter (below ns k)) (ord.filter fun n => !below ns k n) h0
  rwa [← e] at this
theorem last_zero {ns : List N} {ord : List Nat} (G : Gd ns ord) (k : IK) (h0 : plc ns ord k = 0) : lastB ns ord k 0 = 0 := by
  unfold lastB
  rw [G.chain0, List.eq_nil_of_length_eq_zero h0]
  rfl
/-! ### The walks -/
theorem boxR (A K : Array Value) (w W0 : World) (hW0 : W0 = (w.alloc (.cells A 30)).alloc (.cells K 36)) :
    Below w.heap.size w W0 ∧ W0.heap[w.heap.size]? = some (.cells A 30) ∧ W0.heap[w.heap.size + 1]? = some (.cells K 36) := by
  obtain ⟨w1, e1⟩ : ∃ w1, w1 = w.alloc (.cells A 30) := ⟨_, rfl⟩
  rw [← e1] at hW0
  have s1 : w1.heap.size = w.heap.size + 1 := by rw [e1]; exact size_alloc _ _
  have b1 : Below w.heap.size w w1 := by rw [e1]; exact box_below _ _
  have b3 : Below w1.heap.size w1 W0 := by rw [hW0]; exact box_below _ _
  have k1 : w1.heap[w.heap.size]? = some (.cells A 30) := by rw [e1]; exact new_at _ _
  exact ⟨b1.trans (b3.mono (by omega)), (b3.block _ (by omega)).trans k1, by rw [← s1, hW0]; exact new_at _ _⟩
def RB (w : World) (g : Nat) (most : Nat) (an ao : Option Addr) (cn co n m : Nat) : Prop := w.heap[g]? = some (.cells #[.int .i64 (most : Int), .slice an n cn, .slice ao m co] 30)
theorem RB.later {w w' : World} {g most : Nat} {an ao : Option Addr} {cn co n m : Nat} (h : RB w g most an ao cn co n m) (b : Below w.heap.size w w') : RB w' g most an ao cn co n m := (b.block g (blk_lt h)).trans h
theorem RB.c0 {w : World} {g most : Nat} {an ao : Option Addr} {cn co n m : Nat} (h : RB w g most an ao cn co n m) : w.cell? ⟨g, 0, none⟩ = some (.int .i64 (most : Int)) := cell_of h 0 _ rfl
theorem RB.c1 {w : World} {g most : Nat} {an ao : Option Addr} {cn co n m : Nat} (h : RB w g most an ao cn co n m) : w.cell? ⟨g, 1, none⟩ = some (.slice an n cn) := cell_of h 1 _ rfl
theorem RB.c2 {w : World} {g most : Nat} {an ao : Option Addr} {cn co n m : Nat} (h : RB w g most an ao cn co n m) : w.cell? ⟨g, 2, none⟩ = some (.slice ao m co) := cell_of h 2 _ rfl
theorem zi_at {l : List Nat} {j n : Nat} (h : l[j]? = some n) : (zi l).getD j 0 = (n : Int) := by
  unfold zi
  rw [List.getD_eq_getElem?_getD, List.getElem?_map, h]
  rfl
set_option maxHeartbeats 4000000 in
set_option maxRecDepth 100000 in
theorem place_any (base most : Nat) (an ao : Option Addr) (cn co : Nat) (ns : List N) (ord : List Nat) (k : ByteArray) (s c : Int) (w : World) (H : RL w base an ao cn co ns ord) (hl : ns.length ≤ 1048576) :
    Calls Try.prog 67 #[.agg #[.int .i64 (most : Int), .slice an ns.length cn, .slice ao ord.length co], .agg #[.string k, .int .u64 s, .int .i64 c]] w fun e w' => e = .returned (.int .i64 (plc ns ord (ik k s c) : Int)) ∧ Below w.heap.size w w' := by
  obtain ⟨gk, hgk⟩ : ∃ gk, gk = w.heap.size := ⟨_, rfl⟩
  obtain ⟨W0, hW0⟩ : ∃ W0, W0 = (w.alloc (.cells #[.int .i64 (most : Int), .slice an ns.length cn, .slice ao ord.length co] 30)).alloc (.cells #[.string k, .int .u64 s, .int .i64 c] 36) := ⟨_, rfl⟩
  obtain ⟨B0, R0, K0⟩ := boxR _ _ w W0 hW0
  rw [← hgk] at R0 K0
  have R0 : RB W0 gk most an ao cn co ns.length ord.length := R0
  have K0 : Bx W0 (gk + 1) k s c := K0
  have H0 := hid (H.later B0)
  have hol := H.G.len
  have hpl := plc_le ns ord (ik k s c)
  have c2 := R0.c2
  rw [hW0] at c2
  have G := hid H.G
  replace hW0 := hid hW0
  replace hgk := hid hgk
  replace B0 := hid B0
  replace R0 := hid R0
  replace K0 := hid K0
  obtain ⟨P, hP⟩ : ∃ P, P = plc ns ord (ik k s c) := ⟨_, rfl⟩
  rw [← hP] at hpl
  replace hP := hid hP
  obtain ⟨M, hM⟩ : ∃ M, M = ord.length := ⟨_, rfl⟩
  rw [← hM] at hol hpl
  have hM1 : M ≤ 1048576 := by omega
  replace hM := hid hM
  rw [← hM.out] at c2 R0 hW0
  replace hol := hid hol
  clear H
  go_enter Try.func67, Try.ntmps67
  rw [← hM.out]
  go_wp2_with fail
  go_quiet (fail)
  rw [← hW0.out, ← hgk.out]
  have bq := drewN_below W0 nq
  have B1 := hid (B0.out.trans (bq.mono B0.out.size))
  have R1 := hid (R0.out.later bq)
  have K1 := hid (K0.out.later bq)
  have H1 := hid (H0.out.later bq)
  clear bq c2 B0 R0 K0 H0 hW0
  generalize W0.drewN nq = W1 at *
  go_wp2_with fail
  go_loopw [5, 6] (fun lv hv wr => ∃ lo hi : Nat, lv = .int .i64 (lo : Int) ∧ hv = .int .i64 (hi : Int) ∧ lo ≤ P ∧ P ≤ hi ∧ hi ≤ M ∧ Hid (Below W1.heap.size W1 wr)) (fun lv hv _ => (intOf hv - intOf lv).toNat)
  case atStart => exact ⟨0, M, rfl, rfl, Nat.zero_le _, hpl, Nat.le_refl _, Below.refl _ _⟩
  case round =>
    obtain ⟨lo, hi, rfl, rfl, h1, h2, h3, HB⟩ := hrel
    by_cases hlt : lo < hi
    · obtain ⟨mid, hmid⟩ : ∃ mid, mid = (lo + hi) / 2 := ⟨_, rfl⟩
      have hm1 : lo ≤ mid := by omega
      have hm2 : mid < hi := by omega
      obtain ⟨n, hn⟩ : ∃ n, ord[mid]? = some n := ⟨_, List.getElem?_eq_getElem (by rw [← hM.out]; omega)⟩
      have hmem := (G.out.mem n).1 (List.mem_of_getElem? hn)
      have Hr := H1.out.later HB.out
      obtain ⟨gn, hgn⟩ := OwnN.some Hr.n (by omega)
      obtain ⟨go, hgo⟩ := OwnZ.some Hr.o (by rw [zi_len, ← hM.out]; omega)
      subst hgn hgo
      obtain ⟨p0, p1, p2, _, _⟩ := OwnN.cells Hr.n n hmem
      have q0 := Hr.o.cell mid (by rw [zi_len, ← hM.out]; omega)
      rw [zi_at hn] at q0
      have Rr := R1.out.later HB.out
      have Kr := K1.out.later HB.out
      have hpi := plc_iff G.out (ik k s c) mid n hn
      rw [← hP.out] at hpi
      have hbl : below ns (ik k s c) n = decide (cmp (key ns n) (ik k s c) < 0) := rfl
      have HCm : Hid (∀ W, Calls Try.prog 87 #[.agg #[.string (nd ns n).k, .int .u64 (nd ns n).s, .int .i64 (nd ns n).c], .agg #[.string k, .int .u64 s, .int .i64 c]] W fun e w' => e = .returned (.int .i64 (cmp (key ns n) (ik k s c))) ∧ Below W.heap.size W w') := fun W => rcompare_any _ _ _ _ _ _ W
      rw [hbl] at hpi
      have d0 := fun d os => cell_regrown p0 d os
      have d1 := fun d os => cell_regrown p1 d os
      have d2 := fun d os => cell_regrown p2 d os
      have d3 := fun d os => cell_regrown q0 d os
      have d4 := fun d os => cell_regrown Rr.c1 d os
      have d5 := fun d os => cell_regrown Rr.c2 d os
      have d6 := fun d os => cell_regrown Kr.c0 d os
      have d7 := fun d os => cell_regrown Kr.c1 d os
      have d8 := fun d os => cell_regrown Kr.c2 d os
      generalize cmp (key ns n) (ik k s c) = C at *
      generalize (nd ns n).k = yk at *
      generalize (nd ns n).s = ys at *
      generalize (nd ns n).c = yc at *
      have i1 : (lo : Int) < (hi : Int) := by omega
      have i2 : (mid : Int) < (M : Int) := by omega
      have i3 : (n : Int) - 1 < (ns.length : Int) := by omega
      have i4 : 0 ≤ (n : Int) - 1 := by omega
      have i5 : ((n : Int) - 1).toNat = n - 1 := by omega
      have hdv : ((lo : Int) + (hi : Int)).tdiv 2 = (mid : Int) := by rw [Int.tdiv_eq_ediv_of_nonneg (by omega)]; omega
      have hdv2 : ((lo : Int) + (hi : Int)) / 2 = (mid : Int) := by omega
      replace hn := hid hn
      replace hmid := hid hmid
      clear p0 p1 p2 q0 Rr Kr Hr hbl
      by_cases hc : C < 0
      · have hmp : mid < P := hpi.1 (by simpa using hc)
        clear hpi
        go_wp2_with fail
        refine wp_region_quiet_below (by kernel_rfl) (by kernel_rfl) ?_
        repeat (first | go_big_quiet_step (first | (go_at_call 87; exact Calls.regrown_of (HCm.out _))) | quiet_step (first | (go_at_call 87; exact Calls.regrown_of (HCm.out _))))
        refine wpQuiet_nil ?_
        intro w8 hw8
        have b8 : Below wr.heap.size wr w8 := by
          obtain ⟨⟨dq, osq⟩, hw''⟩ := hw8
          rw [hw'']
          exact below_regrown _ dq osq
        have HB8 := hid (HB.out.trans (b8.mono HB.out.size))
        clear d0 d1 d2 d3 d4 d5 d6 d7 d8 HCm hw8 b8
        go_wp2_with fail
        refine ⟨⟨mid + 1, hi, by simp, rfl, by omega, h2, h3, HB8⟩, ?_⟩
        simp only [intOf]; omega
      · have hmp : ¬ mid < P := fun h => hc (by simpa using hpi.2 h)
        clear hpi
        go_wp2_with fail
        refine wp_region_quiet_below (by kernel_rfl) (by kernel_rfl) ?_
        repeat (first | go_big_quiet_step (first | (go_at_call 87; exact Calls.regrown_of (HCm.out _))) | quiet_step (first | (go_at_call 87; exact Calls.regrown_of (HCm.out _))))
        refine wpQuiet_nil ?_
        intro w8 hw8
        have b8 : Below wr.heap.size wr w8 := by
          obtain ⟨⟨dq, osq⟩, hw''⟩ := hw8
          rw [hw'']
          exact below_regrown _ dq osq
        have HB8 := hid (HB.out.trans (b8.mono HB.out.size))
        clear d0 d1 d2 d3 d4 d5 d6 d7 d8 HCm hw8 b8
        go_wp2_with fail
        refine ⟨⟨lo, mid, rfl, rfl, h1, by omega, by omega, HB8⟩, ?_⟩
        simp only [intOf]; omega
    · have e1 : lo = P := by omega
      have i1 : ¬ (lo : Int) < (hi : Int) := by omega
      have BF : Hid (Below w.heap.size w wr) := B1.out.trans (HB.out.mono B1.out.size)
      go_wp2_with fail
      go_ret
      exact ⟨by rw [← hP.out, ← e1]; first | rfl | go_num, BF.out⟩
set_option maxHeartbeats 1000000 in
theorem at_any (base most : Nat) (an ao : Option Addr) (cn co : Nat) (ns : List N) (ord : List Nat) (i : Int) (w : World) (H : RL w base an ao cn co ns ord) (hl : ord.length ≤ 1048576) :
    Calls Try.prog 80 #[.agg #[.int .i64 (most : Int), .slice an ns.length cn, .slice ao ord.length co], .int .i64 i] w fun e w' => e = .returned (.int .i64 ((if i < 0 then 0 else ord.getD i.toNat 0 : Nat) : Int)) ∧ Below w.heap.size w w' := by
  obtain ⟨W0, hW0⟩ : ∃ W0, W0 = w.alloc (.cells #[.int .i64 (most : Int), .slice an ns.length cn, .slice ao ord.length co] 30) := ⟨_, rfl⟩
  have B0 : Below w.heap.size w W0 := by rw [hW0]; exact box_below _ _
  have R0 : RB W0 w.heap.size most an ao cn co ns.length ord.length := by rw [hW0]; exact new_at _ _
  have c2 := R0.c2
  have B0' := B0
  rw [hW0] at c2 B0'
  replace B0' := hid B0'
  have H0 := H.later B0
  obtain ⟨M, hM⟩ : ∃ M, M = ord.length := ⟨_, rfl⟩
  by_cases h1 : i < 0
  · rw [if_pos h1]
    clear R0 H0 hW0
    go_enter Try.func80, Try.ntmps80
    go_wp2_with fail
    go_ret
    exact ⟨rfl, B0'.out⟩
  · rw [if_neg h1]
    by_cases h2 : (ord.length : Int) ≤ i
    · have h3 : ord.getD i.toNat 0 = 0 := by rw [List.getD_eq_getElem?_getD, List.getElem?_eq_none (by omega)]; rfl
      rw [h3]
      clear R0 H0 hW0 h3
      go_enter Try.func80, Try.ntmps80
      go_wp2_with fail
      go_ret
      exact ⟨rfl, B0'.out⟩
    · obtain ⟨j, rfl⟩ : ∃ j : Nat, i = j := ⟨i.toNat, by omega⟩
      obtain ⟨go, hgo⟩ := OwnZ.some H0.o (by rw [zi_len]; omega)
      subst hgo
      have q0 := H0.o.cell j (by rw [zi_len]; omega)
      obtain ⟨n, hn⟩ : ∃ n, ord[j]? = some n := ⟨_, List.getElem?_eq_getElem (by omega)⟩
      rw [zi_at hn, hW0] at q0
      have h3 : ord.getD (j : Int).toNat 0 = n := by rw [List.getD_eq_getElem?_getD, Int.toNat_natCast, hn]; rfl
      rw [h3]
      have i1 : (j : Int) < (ord.length : Int) := by omega
      clear R0 H0 hW0 h3 hn
      go_enter Try.func80, Try.ntmps80
      go_wp2_with fail
      go_ret
      exact ⟨rfl, B0'.out⟩
end Go.Proofs.Ythnmoidfdojoiaa.Rl

/- Tombs of a memtable (how many); two rows of the same entries held against one another; a row of the law's steps that grows. -/
import Derived.Test.YtefihoohdaegeaaPm
import Derived.Test.YtefihoohdaegeaaOa
namespace Go.Proofs.Ytefihoohdaegeaa.Og
open Go.ChangeShapes Go.WideShapes Go.ChangeAt Go.RowKit Go.Shelf
open Go.Sort (grow)
open Go.Proofs.Ytefihoohdaegeaa.Lx (hid)
open Go.Proofs.Ytefihoohdaegeaa.Tm
open Go.Proofs.Ytefihoohdaegeaa.Rw
open Go.Proofs.Ytefihoohdaegeaa.Es
open Go.Proofs.Ytefihoohdaegeaa.Fm
open Go.Proofs.Ytefihoohdaegeaa.Ee (E ze Ents)
open Go.Proofs.Ytefihoohdaegeaa.Tb
open Go.Proofs.Ytefihoohdaegeaa.Eo
open Go.Proofs.Ytefihoohdaegeaa.Fl
open Go.Proofs.Ytefihoohdaegeaa.Tr (new_at cell_of size_alloc blk_lt)
set_option linter.unusedVariables false
set_option linter.unusedSimpArgs false

theorem clone_some (ad : Addr) (n c : Nat) (xs : List T) (w : World) (H : Tbs w (some ad) n c xs) (hn : n * 40 ≤ 140737488355328) :
    Calls Try.prog 91 #[.slice (some ad) n c] w fun e w' => ∃ a c', e = .returned (.slice a n c') ∧ Below w.heap.size w w' := by
  obtain ⟨i0, hi, hz0, hz1, hz2⟩ := info_parts infoT
  have own0 : (w.alloc (.cells #[] 111)).ownsRow w.heap.size 111 3 (.slice (some ⟨w.heap.size, 0, none⟩) 0 0) 0 [] := World.ownsRow_made w #[] 0 (Nat.le_refl _) (by unfold maxLen; omega) rfl
  have b0 : Below w.heap.size w (w.alloc (.cells #[] 111)) := box_below _ _
  have hE : Sem.run Try.prog (binOp .eql 26 (.slice (some ad) n c) (.slice none 0 0)) w = .ok (.bool false) w := by kernel_rfl
  have hcells : ∀ (q : Nat) (u : Value), (tcs xs)[q]? = some u → (w.alloc (.cells #[] 111)).cell? (ad.add q) = some u := by
    intro q u hq
    have hql : q < (tcs xs).length := by
      rcases Nat.lt_or_ge q (tcs xs).length with h | h
      · exact h
      · rw [List.getElem?_eq_none h] at hq; cases hq
    rw [tcs_len] at hql
    obtain ⟨b, o, p⟩ := ad
    have hl := H.1
    obtain ⟨rfl, hat⟩ := H.2.2.2.2 b o p rfl (by omega)
    have h3 := hat (q / 3) (by omega)
    have hg := tcs_get xs (q / 3) (by omega)
    rw [Tm.addr_add]
    have hb : ∀ r, w.cell? ⟨b, r, none⟩ = some u → (w.alloc (.cells #[] 111)).cell? ⟨b, r, none⟩ = some u := fun r hr => (World.cell?_of_block (a := ⟨b, r, none⟩) (b0.block b (block_lt_of_cell hr))).trans hr
    apply hb
    have hq3 : q % 3 = 0 ∨ q % 3 = 1 ∨ q % 3 = 2 := by omega
    rcases hq3 with h | h | h
    · have e : q = q / 3 * 3 := by omega
      rw [e] at hq ⊢
      rw [hg.1] at hq
      rw [← hq]; exact h3.1
    · have e : q = q / 3 * 3 + 1 := by omega
      rw [e] at hq ⊢
      rw [hg.2.1] at hq
      rw [← hq]
      have := h3.2.1
      rwa [Nat.add_assoc] at this
    · have e : q = q / 3 * 3 + 2 := by omega
      rw [e] at hq ⊢
      rw [hg.2.2] at hq
      rw [← hq]
      have := h3.2.2
      rwa [Nat.add_assoc] at this
  obtain ⟨v5, W5, r5, o5, g5, _, q5⟩ := run_append_own_at (P := Try.prog) (w.alloc (.cells #[] 111)) w.heap.size 26 26 111 i0 _ 3 40 Try.underlying26 hi hz0 hz1 hz2 rfl (by decide) (.slice (some ⟨w.heap.size, 0, none⟩) 0 0) 0 _ own0 ad n c (tcs xs) (by rw [tcs_len, H.1]) hcells (tcs_one xs) (by unfold maxLen; omega) (by omega) b0.size
  have B1 := hid (b0.grown g5 b0.size (by intro k hk; simp [Value.ownBlock] at hk; omega))
  obtain ⟨a', c', rfl⟩ := Sa.row_block o5
  rw [Nat.zero_add] at r5
  replace r5 := hid r5
  clear o5 g5 q5 own0 b0 hcells H
  go_enter Try.func91, Try.ntmps91
  go_wp2_with (at_builtin; refine Ob.wpList_append_run rfl (.tmp 5) (.tmp 6) 26 26 rfl (.slice (some ⟨w.heap.size, 0, none⟩) 0 0) (.slice (some ad) n c) (.slice a' n c') rfl rfl r5.out ?_)
  go_wp2
  go_ret
  exact ⟨_, _, rfl, B1.out⟩
theorem clone_tombs (a : Option Addr) (n c : Nat) (xs : List T) (w : World) (H : Tbs w a n c xs) (hn : n * 40 ≤ 140737488355328) :
    Calls Try.prog 91 #[.slice a n c] w fun e w' => ∃ a' c', e = .returned (.slice a' n c') ∧ Below w.heap.size w w' := by
  cases a with
  | some ad => exact clone_some ad n c xs w H hn
  | none =>
    obtain ⟨rfl, rfl⟩ := H.2.2.1 rfl
    have hE : Sem.run Try.prog (binOp .eql 26 (.slice none 0 0) (.slice none 0 0)) w = .ok (.bool true) w := by kernel_rfl
    clear H
    go_enter Try.func91, Try.ntmps91
    go_wp2
    go_ret
    exact ⟨_, _, rfl, Below.refl _ _⟩
theorem tombs_any (base g : Nat) (P : Nat → Prop) (S : St) (w : World) (H : Tb.Tb w base g P S) (hr : S.ts.length * 40 ≤ 140737488355328) :
    Calls Try.prog 28 #[.pointer (some ⟨g, 0, none⟩)] w fun e w' => ∃ a c, e = .returned (.slice a S.ts.length c) ∧ Below w.heap.size w w' := by
  obtain ⟨gl, bl, gs, bm, vt, H⟩ := H
  have HN := hid (isnone_any g gl gs bm S w H.c)
  have c3 : w.cell? ⟨g, 3, none⟩ = some (.pointer (some ⟨gs, 0, none⟩)) := H.c.cell 3
  obtain ⟨a, c, rfl, ht⟩ := H.o.tbs (fun x hx => (H.wf.tomb x hx).2.2)
  have HC := hid (clone_tombs a S.ts.length c S.ts w ht.1 hr)
  have HH := hid (held_any gs (.slice a S.ts.length c) w H.s ⟨_, _, _, rfl⟩)
  have HS : Hid (Calls Try.prog 69 #[.pointer (some ⟨gs, 0, none⟩)] w fun e w' => ∃ a c, e = .returned (.slice a S.ts.length c) ∧ Below w.heap.size w w') := by
    generalize S.ts.length = n at *
    clear H ht c3 HN hr
    show Calls _ _ _ _ _
    go_enter Try.func69, Try.ntmps69
    go_wp2_with fail
    refine HH.out.mono ?_
    rintro e w1 ⟨rfl, rfl⟩
    go_wp2_with fail
    refine HC.out.mono ?_
    rintro e w2 ⟨a', c', rfl, b2⟩
    go_wp2_with fail
    go_ret
    exact ⟨_, _, rfl, b2⟩
  generalize S.ts.length = n at *
  clear H ht hr HC HH
  go_enter Try.func28, Try.ntmps28
  go_wp2_with fail
  refine HN.out.mono ?_
  rintro e w1 ⟨rfl, rfl⟩
  go_wp2_with fail
  refine HS.out.mono ?_
  rintro e w2 ⟨a', c', rfl, b2⟩
  go_wp2_with fail
  go_ret
  exact ⟨_, _, rfl, b2⟩
set_option maxHeartbeats 1000000 in
theorem same_any (a a' : Option Addr) (len cap cap' : Nat) (xs : List E) (w : World) (H : Ents w a len cap xs) (H' : Ents w a' len cap' xs) (hl : len ≤ 140737488351232) :
    Calls Try.prog 45 #[.slice a len cap, .slice a' len cap'] w fun e w' => e = .returned (.bool true) ∧ Below w.heap.size w w' := by
  have HH := hid H
  have HH' := hid H'
  clear H H'
  have t0 : ((len : Int) != (len : Int)) = false := bne_self_eq_false _
  go_enter Try.func45, Try.ntmps45
  go_wp2_with fail
  go_loopw [5] (fun i wr => ∃ k : Nat, i = .int .i64 k ∧ k ≤ len ∧ ∃ n, wr = w.drewN n) (fun i _ => len - (intOf i).toNat)
  case atStart => exact ⟨0, rfl, by omega, 0, rfl⟩
  case round =>
    obtain ⟨k, rfl, hk, n, rfl⟩ := hrel
    by_cases hlt : k < len
    · cases a with
      | none => have := (HH.out.2.2.1 rfl).1; omega
      | some ad =>
        cases a' with
        | none => have := (HH'.out.2.2.1 rfl).1; omega
        | some ad' =>
          obtain ⟨b, off, sp⟩ := ad
          obtain ⟨b', off', sp'⟩ := ad'
          obtain ⟨rfl, hat⟩ := HH.out.2.2.2.2 b off sp rfl (by omega)
          obtain ⟨rfl, hat'⟩ := HH'.out.2.2.2.2 b' off' sp' rfl (by omega)
          have hat := hat k hlt
          have hat' := hat' k hlt
          generalize xs.getD k ze = x at hat hat'
          obtain ⟨xk, xs', xc, xv⟩ := x
          obtain ⟨a1, a2, a3, a4⟩ := hat
          obtain ⟨c1, c2, c3, c4⟩ := hat'
          simp only at a1 a2 a3 a4 c1 c2 c3 c4
          have ik0 : (k : Int) < (len : Int) := by omega
          have ok0 : (0 : Int) ≤ (k : Int) := by omega
          have hlc := HH.out.2.1
          have hlc' := HH'.out.2.1
          go_wp2_with fail
          go_quiet (fail)
          go_wp2_with fail
          go_roundw
          case rel => exact ⟨k + 1, by go_num, by omega, n + nq, rfl⟩
          case measure => simp [intOf]; omega
    · go_wp2_with fail
      go_ret
      exact ⟨rfl, Li.drewN_below _ _⟩
/-! ### A row of steps -/
def ac (x : A6) : List Value := [.int .i64 x.kd, .int .i64 x.ht, .int .u64 x.sq, .int .i64 x.c, .string x.k, .string x.v]
def acs : List A6 → List Value
  | [] => []
  | x :: l => ac x ++ acs l
theorem acs_append : ∀ xs ys, acs (xs ++ ys) = acs xs ++ acs ys
  | [], _ => rfl
  | x :: l, ys => by show ac x ++ acs (l ++ ys) = (ac x ++ acs l) ++ acs ys; rw [acs_append l ys, List.append_assoc]
theorem acs_len : ∀ xs, (acs xs).length = xs.length * 6
  | [] => rfl
  | x :: l => by show (ac x ++ acs l).length = _; rw [List.length_append, acs_len l]; simp [ac]; omega
theorem acs_get : ∀ (xs : List A6) (i : Nat), i < xs.length → ∀ j, j < 6 → (acs xs)[i * 6 + j]? = (ac (xs.getD i za))[j]?
  | [], i, h => by simp at h
  | x :: l, 0, _ => by
    intro j hj
    show (ac x ++ acs l)[0 * 6 + j]? = (ac x)[j]?
    rw [Nat.zero_mul, Nat.zero_add, List.getElem?_append_left (by simp [ac]; omega)]
  | x :: l, i + 1, h => by
    intro j hj
    have ih := acs_get l i (by simpa using h) j hj
    show (ac x ++ acs l)[(i + 1) * 6 + j]? = (ac (l.getD i za))[j]?
    rw [List.getElem?_append_right (by simp [ac]; omega), ← ih]
    congr 1
    simp [ac]; omega
def OwnA (w : World) (base : Nat) (v : Value) (xs : List A6) : Prop := w.ownsRow base 34 6 v xs.length (acs xs)
theorem OwnA.later {w w' : World} {base : Nat} {v : Value} {xs : List A6} (h : OwnA w base v xs) (b : Below w.heap.size w w') : OwnA w' base v xs := own_blocks h (fun j hj => b.block j (own_lt h j hj).2)
theorem OwnA.nil (w : World) (base : Nat) : OwnA w base (.slice none 0 0) [] := World.ownsRow_nil _ _ _ _
theorem OwnA.acts {w : World} {base : Nat} {v : Value} {xs : List A6} (h : OwnA w base v xs) (hok : ∀ x ∈ xs, x.ok) : ∃ a c, v = .slice a xs.length c ∧ Acts w a xs.length c xs := by
  have h' := h
  rcases h.2 with ⟨e, h0⟩ | ⟨g, c, cur, e, hb, hg, hn, hm, hs, ht⟩
  · have hx : xs = [] := List.eq_nil_of_length_eq_zero h0
    subst hx
    exact ⟨none, 0, e, ⟨rfl, Nat.le_refl _, fun _ => ⟨rfl, rfl⟩, hok, fun _ _ _ h => by simp at h⟩⟩
  · subst e
    refine ⟨_, c, rfl, ⟨rfl, hn, fun e => by simp at e, hok, fun b o p hp _ => ?_⟩⟩
    simp at hp; obtain ⟨rfl, rfl, rfl⟩ := hp
    refine ⟨rfl, fun i hi => ?_⟩
    have hc := World.ownsRow.cells h' (g := g) rfl
    have e0 := hc _ _ ((acs_get xs i hi 0 (by omega)).trans rfl)
    have e1 := hc _ _ ((acs_get xs i hi 1 (by omega)).trans rfl)
    have e2 := hc _ _ ((acs_get xs i hi 2 (by omega)).trans rfl)
    have e3 := hc _ _ ((acs_get xs i hi 3 (by omega)).trans rfl)
    have e4 := hc _ _ ((acs_get xs i hi 4 (by omega)).trans rfl)
    have e5 := hc _ _ ((acs_get xs i hi 5 (by omega)).trans rfl)
    rw [Tm.addr_add, Nat.zero_add] at e0 e1 e2 e3 e4 e5
    rw [Nat.zero_add]
    exact ⟨e0, e1, e2, e3, e4, e5⟩
theorem infoA : (Try.prog.info? 34).map (fun i => (i.zero, i.size, i.bytes)) = some (some (.agg #[.int .i64 0, .int .i64 0, .int .u64 0, .int .i64 0, .string ⟨#[]⟩, .string ⟨#[]⟩]), 6, 64) := by kernel_rfl
theorem app_act (w : World) (base : Nat) (v : Value) (l : List A6) (x : A6) (H : OwnA w base v l) (hn : (l.length + 1) * 64 ≤ 140737488355328) (hbase : base ≤ w.heap.size) :
    ∃ v' w', (Builtin.append_ #[22, 22] 22 #[v, .slice (some ⟨w.heap.size, 0, none⟩) 1 1]).run Try.prog (w.alloc (.cells #[.int .i64 x.kd, .int .i64 x.ht, .int .u64 x.sq, .int .i64 x.c, .string x.k, .string x.v] 34)) = .ok v' w' ∧ OwnA w' base v' (l ++ [x]) ∧ w.grownBy w' v.ownBlock ∧ (∀ j, v'.ownBlock = some j → v.ownBlock = some j ∨ w.heap.size ≤ j) := by
  obtain ⟨i0, hi, hz0, hz1, hz2⟩ := info_parts infoA
  have b1 := box_below w (.cells #[.int .i64 x.kd, .int .i64 x.ht, .int .u64 x.sq, .int .i64 x.c, .string x.k, .string x.v] 34)
  have H2 := OwnA.later H b1
  have n4 := new_at w (.cells #[.int .i64 x.kd, .int .i64 x.ht, .int .u64 x.sq, .int .i64 x.c, .string x.k, .string x.v] 34)
  obtain ⟨v5, W5, r5, o5, g5, _, q5⟩ := run_append_own_at (P := Try.prog) (w.alloc (.cells #[.int .i64 x.kd, .int .i64 x.ht, .int .u64 x.sq, .int .i64 x.c, .string x.k, .string x.v] 34)) base 22 22 34 i0 _ 6 64 Try.underlying22 hi hz0 hz1 hz2 rfl (by decide) v l.length _ H2 ⟨w.heap.size, 0, none⟩ 1 1 [.int .i64 x.kd, .int .i64 x.ht, .int .u64 x.sq, .int .i64 x.c, .string x.k, .string x.v] rfl (by
    intro q u hq
    rw [Tm.addr_add, Nat.zero_add]
    exact cell_of n4 q u (by simpa using hq)) (by intro u hu; simp at hu; rcases hu with rfl | rfl | rfl | rfl | rfl | rfl <;> rfl) (by unfold maxLen; omega) (by omega) (by rw [size_alloc]; omega)
  refine ⟨v5, W5, r5, ?_, ?_, ?_⟩
  · unfold OwnA
    rw [List.length_append, acs_append]
    exact o5
  · exact ⟨g5.os.trans b1.os, g5.tape.trans b1.tape, g5.output.trans b1.output, Nat.le_trans b1.size g5.size, fun k hk hne => (g5.block k (Nat.lt_of_lt_of_le hk b1.size) hne).trans (b1.block k hk)⟩
  · intro j hj
    rcases q5 with h | h
    · exact .inl (h ▸ hj)
    · rw [h] at hj
      have := Option.some.inj hj
      rw [size_alloc] at this
      exact .inr (by omega)
end Go.Proofs.Ytefihoohdaegeaa.Og

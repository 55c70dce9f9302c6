/- The iterators with no tomb: nothing is told. -/
import Derived.Test.YtfmpdalabgfigaaEm
namespace Go.Proofs.Ytfmpdalabgfigaa.En
open Go.ChangeShapes Go.WideShapes Go.ChangeAt Go.RowKit Go.Shelf
open Go.Proofs.Ytfmpdalabgfigaa.Lx
open Go.Proofs.Ytfmpdalabgfigaa.Tm
open Go.Proofs.Ytfmpdalabgfigaa.Vi
open Go.Proofs.Ytfmpdalabgfigaa.Mm
open Go.Proofs.Ytfmpdalabgfigaa.Em
set_option linter.unusedVariables false
set_option linter.unusedSimpArgs false
attribute [local go_sem] Oper.semAt_some

theorem collect_0 (bl : Nat) (w : World) (hbl : Boxed w bl 26 (.slice none 0 0)) :
    Calls Try.prog 31 #[.func (.func 23) #[] #[.pointer (some ⟨bl, 0, none⟩)]] w fun e w' => e = .returned (.slice none 0 0) ∧ Below w.heap.size w w' := by
  have HA := hid (callsIn_wide.1 (appseq_0 bl w hbl))
  go_enter Try.func31, Try.ntmps31
  go_wp2_with fail
  refine HA.out.mono ?_
  rintro e w' ⟨rfl, b⟩
  replace b := hid b
  go_wp2_with fail
  go_ret
  exact ⟨rfl, b.out⟩
theorem sorted_0 (bl : Nat) (fv : Value) (w : World) (hbl : Boxed w bl 26 (.slice none 0 0)) :
    Calls Try.prog 25 #[.func (.func 23) #[] #[.pointer (some ⟨bl, 0, none⟩)], fv] w fun e w' => e = .returned (.slice none 0 0) ∧ Below w.heap.size w w' := by
  have HA := hid (collect_0 bl w hbl)
  go_enter Try.func25, Try.ntmps25
  go_wp2_with fail
  refine HA.out.mono ?_
  rintro e w' ⟨rfl, b⟩
  replace b := hid b
  go_wp2_with fail
  refine (sortc_0 fv _).mono ?_
  rintro e w' ⟨rfl, rfl⟩
  go_wp2_with fail
  go_ret
  exact ⟨rfl, b.out⟩
set_option maxRecDepth 100000 in
set_option maxHeartbeats 1000000 in
theorem strips1_0 (ly bl : Nat) (w : World) (hbl : Boxed w bl 26 (.slice none 0 0)) :
    Calls Try.prog 24 #[.func (.yield ly) #[] #[], .pointer (some ⟨bl, 0, none⟩)] w fun e w' => e = .returned (.tuple #[]) ∧ Below w.heap.size w w' := by
  have c0 := hbl.cell
  have hbx := hid (Boxed.new w 26 (.slice none 0 0))
  have HS : Hid (∀ fv, Calls Try.prog 25 #[.func (.func 23) #[] #[.pointer (some ⟨w.heap.size, 0, none⟩)], fv] (w.alloc (.cells #[.slice none 0 0] 26)) fun e w' => e = .returned (.slice none 0 0) ∧ Below (w.alloc (.cells #[.slice none 0 0] 26)).heap.size (w.alloc (.cells #[.slice none 0 0] 26)) w') := fun fv => sorted_0 _ fv _ hbx.out
  replace hbl := hid hbl
  go_enter Try.func24, Try.ntmps24
  go_wp2_with fail
  refine (valids_any none 0 0 _).mono ?_
  rintro e w' ⟨rfl, rfl⟩
  go_wp2_with fail
  refine (HS.out _).mono ?_
  rintro e w1 ⟨rfl, b1⟩
  have B1 : Hid (Below w.heap.size w w1) := (box_below w _).trans (b1.mono (by simp))
  replace b1 := hid b1
  go_wp2_with fail
  refine (bounds_0 _).mono ?_
  rintro e w2 ⟨a, c, rfl, b2⟩
  have B2 : Hid (Below w.heap.size w w2) := B1.out.trans (b2.mono B1.out.size)
  replace b2 := hid b2
  go_wp2_with fail
  refine wp_loop_rounds 1 ?_
  rw [rounds_succ]
  go_wp2_with fail
  go_end0
  exact ⟨rfl, B2.out⟩
theorem strips_any (a : Option Addr) (len cap : Nat) (w : World) :
    Calls Try.prog 20 #[.slice a len cap] w fun e w' => e = .returned (.func (.func 24) #[] #[.pointer (some ⟨w.heap.size, 0, none⟩)]) ∧ w' = w.alloc (.cells #[.slice a len cap] 26) := by
  have hmf : ∀ (fn : Fn) (first cap : Array Value) (w : World), (Instr.makeFunc fn first cap).run Try.prog w = .ok (.func fn first cap) w := fun _ _ _ _ => rfl
  go_enter Try.func20, Try.ntmps20
  go_wp2
  go_ret
  exact ⟨rfl, rfl⟩
theorem fragments_any (a : Option Addr) (len cap : Nat) (w : World) :
    Calls Try.prog 17 #[.slice a len cap] w fun e w' => e = .returned (.func (.func 19) #[] #[.pointer (some ⟨w.heap.size, 0, none⟩)]) ∧ w' = w.alloc (.cells #[.slice a len cap] 26) := by
  have hmf : ∀ (fn : Fn) (first cap : Array Value) (w : World), (Instr.makeFunc fn first cap).run Try.prog w = .ok (.func fn first cap) w := fun _ _ _ _ => rfl
  go_enter Try.func17, Try.ntmps17
  go_wp2
  go_ret
  exact ⟨rfl, rfl⟩
theorem ispiece_0 (w : World) : Calls Try.prog 22 #[.agg #[.string ⟨#[]⟩, .string ⟨#[]⟩, .slice none 0 0]] w fun e w' => e = .returned (.bool false) ∧ Below w.heap.size w w' := by
  go_enter Try.func22, Try.ntmps22
  go_wp2
  go_ret
  exact ⟨rfl, box_below _ _⟩
/-- What a fragment is handed over as. -/
def encf (x : ByteArray × ByteArray × Option Addr × Nat × Nat) : Array Value := #[.agg #[.string x.1, .string x.2.1, .slice x.2.2.1 x.2.2.2.1 x.2.2.2.2]]
set_option maxRecDepth 100000 in
set_option maxHeartbeats 4000000 in
theorem fragments1_0 (ly bl : Nat) (w : World) (hbl : Boxed w bl 26 (.slice none 0 0)) :
    CallsIn Fence.wide 8 Try.prog 19 #[.func (.yield ly) #[] #[], .pointer (some ⟨bl, 0, none⟩)] w fun e w' => e = .returned (.tuple #[]) ∧ Below w.heap.size w w' := by
  have c0 := ((hbl.alloc (.cells #[.func (.yield ly) #[] #[]] 50)).alloc (.cells #[.string ⟨#[]⟩, .string ⟨#[]⟩, .slice none 0 0] 44)).cell
  refine callsIn_of_wp_marks Try.func19 rfl trivial ?_ rfl
  simp only [Try.ntmps19, List.size_toArray, List.length_cons, List.length_nil, Nat.reduceAdd, Nat.reduceSub, Array.replicate_succ, Array.replicate_zero, List.push_toArray, List.append_toArray, List.nil_append, List.cons_append]
  obtain ⟨n0, hn0⟩ : ∃ n0, n0 = w.heap.size := ⟨_, rfl⟩
  obtain ⟨W4, hW4⟩ : ∃ W, W = ((w.alloc (.cells #[.func (.yield ly) #[] #[]] 50)).alloc (.cells #[.string ⟨#[]⟩, .string ⟨#[]⟩, .slice none 0 0] 44)).alloc (.cells #[.slice none 0 0] 26) := ⟨_, rfl⟩
  have s5 : W4.heap.size = n0 + 3 := by rw [hW4, hn0]; simp
  have B4 : Below n0 w W4 := by rw [hW4, hn0]; exact ((box_below w _).alloc (by simp) _).alloc (by simp; omega) _
  have hb4 : Boxed W4 (n0 + 2) 26 (.slice none 0 0) := by rw [hW4]; exact new_box (by simp; omega) _ _
  have hI0 : W4.heap[n0 + 1]? = some (.cells #[.string ⟨#[]⟩, .string ⟨#[]⟩, .slice none 0 0] 44) := by
    rw [hW4, hn0]
    have := Below.heap_alloc ((w.alloc (.cells #[.func (.yield ly) #[] #[]] 50)).alloc (.cells #[.string ⟨#[]⟩, .string ⟨#[]⟩, .slice none 0 0] 44)) (.cells #[.slice none 0 0] 26) (w.heap.size + 1) (by simp)
    refine this.trans ?_
    have := new_at (w.alloc (.cells #[.func (.yield ly) #[] #[]] 50)) (.cells #[.string ⟨#[]⟩, .string ⟨#[]⟩, .slice none 0 0] 44)
    simpa using this
  replace hW4 := hid hW4
  replace hb4 := hid hb4
  replace hI0 := hid hI0
  replace B4 := hid B4
  replace hn0 := hid hn0
  replace hbl := hid hbl
  gi_wp2_with fail
  refine ⟨trivial, (callsIn_wide.2 (strips_any none 0 0 _)).mono ?_⟩
  rintro e w' ⟨rfl, rfl⟩
  gi_wp2_with fail
  rw [← hW4.out, ← hn0.out]
  refine range_q (F := Fence.wide) (n := 8) encf rfl (by omega) (gf := 24) (lb := #[.pointer (some ⟨n0 + 2, 0, none⟩)]) rfl trivial (enters_of Try.func24 (by kernel_rfl) rfl) (fun _ => rfl)
    (fun ys W => W.heap[n0 + 1]? = some (.cells #[.string ⟨#[]⟩, .string ⟨#[]⟩, .slice none 0 0] 44) ∧ Below n0 w W ∧ n0 + 3 ≤ W.heap.size) (fun _ _ _ => False) (fun pre x => False) (Below n0) (fun ys _ _ => True) (fun _ => True)
    (fun s W o h => ⟨(Below.heap_alloc W o _ (by omega)).trans h.1, h.2.1.alloc (by omega) _, by simp; omega⟩) (fun s W W' k h g hk hc => ⟨(g.block _ (by omega) (by simp; omega)).trans h.1, h.2.1.grown g (by omega) (fun q e => by cases e; omega), Nat.le_trans h.2.2 g.size⟩) (fun _ _ _ _ _ h => h.elim)
    (fun A B hA hb => hb.mono (by omega)) (fun h k => h.trans k)
    (fun W l o o' hl ho hc => belowK_b' (w := W4) (by omega) W l o o' hl ho)
    ⟨hI0.out, B4.out, by omega⟩ ?seq (fun _ _ _ _ => True) (fun _ _ _ _ _ _ _ _ _ => trivial) ?assign ?body ?done ?stop
  case seq =>
    intro l J Jx W1 hB1 hY h0
    refine (callsIn_wide.2 (strips1_0 _ (n0 + 2) W1 ((hB1.block _ hb4.out.lt).trans hb4.out))).mono ?_
    rintro e W' ⟨rfl, b⟩
    exact ⟨⟨_, rfl⟩, .inl ⟨[], W1, h0, b, trivial⟩⟩
  case assign =>
    intro l x W K hK
    simp only [encf]
    gi_wp2
    exact hK _ _ (box_below _ _) trivial
  case body =>
    rintro l pre x a' W0 WY W1 W2 hI h0Y h01 hfr
    exact hfr.elim
  case done =>
    rintro D l ys W0 W W' hD hI h0W _ hWW hl hnc hDd
    have o1 : W'.heap[n0 + 1]? = some (.cells #[.string ⟨#[]⟩, .string ⟨#[]⟩, .slice none 0 0] 44) := (hWW.block _ (by have := h0W.size; omega) (by simp; omega)).trans ((h0W.block _ (by omega)).trans hI.1)
    have b1 : Below n0 w W' := (hI.2.1.trans (h0W.mono (by omega))).grown hWW (by have := h0W.size; omega) (fun q e => by cases e; omega)
    have c1 := cell_of o1 0 _ rfl
    have c2 := cell_of o1 1 _ rfl
    have c3 := cell_of o1 2 _ rfl
    have z1 := hWW.size
    have z0 := h0W.size
    replace o1 := hid o1
    replace b1 := hid b1
    replace hDd := hid hDd
    clear hI h0W hWW hnc
    gi_wp2_with fail
    refine ⟨trivial, (callsIn_wide.2 (ispiece_0 _)).mono ?_⟩
    rintro e w9 ⟨rfl, b9⟩
    have hD9 : w9.heap[D]? = some (.deferred (some [])) := (b9.block D (blk_lt hDd.out)).trans hDd.out
    have B9 : Below n0 w w9 := b1.out.trans (b9.mono (by have := b1.out.size; have := hn0.out; omega))
    replace b9 := hid b9
    replace hD9 := hid hD9
    replace B9 := hid B9
    gi_wp2_with fail
    refine ⟨by simp, .inl ⟨_, _, rfl, run_takeDeferred hD9.out, ?_⟩⟩
    refine ⟨.tuple #[], ?_, rfl, ?_⟩
    · simp [results, Try.results19, go_sem]
    · rw [← hn0.out]; exact B9.out.trans (belowK_b' (w := W4) (by omega) _ D _ _ hD hD9.out)
  case stop =>
    rintro D c pre W hD _ hx hDd
    exact hx.elim
/-- A set that no call gave: nil, or plain. -/
def Non (w : World) (p : Option Addr) : Prop := p = none ∨ ∃ g, p = some ⟨g, 0, none⟩ ∧ w.heap[g]? = some (.cells #[.bool false, .slice none 0 0] 28)
theorem Non.later {w w' : World} {p : Option Addr} (h : Non w p) (b : Below w.heap.size w w') : Non w' p := by
  rcases h with h | ⟨g, h1, h2⟩
  · exact .inl h
  · exact .inr ⟨g, h1, (b.block g (blk_lt h2)).trans h2⟩
theorem held_0 (p : Option Addr) (w : World) (H : Non w p) : Calls Try.prog 13 #[.pointer p] w fun e w' => e = .returned (.slice none 0 0) ∧ w' = w := by
  rcases H with rfl | ⟨g, rfl, h⟩
  · go_enter Try.func13, Try.ntmps13
    go_wp2
    go_ret
    exact ⟨rfl, rfl⟩
  · have c1 := cell_of h 1 _ rfl
    clear h
    go_enter Try.func13, Try.ntmps13
    go_wp2
    go_ret
    exact ⟨rfl, rfl⟩
theorem setlen_0 (p : Option Addr) (w : World) (H : Non w p) : Calls Try.prog 7 #[.pointer p] w fun e w' => e = .returned (.int .i64 0) ∧ w' = w := by
  replace H := hid H
  go_enter Try.func7, Try.ntmps7
  go_wp2_with fail
  refine (held_0 p _ H.out).mono ?_
  rintro e w' ⟨rfl, rfl⟩
  go_wp2_with fail
  go_ret
  exact ⟨rfl, rfl⟩
set_option maxRecDepth 100000 in
theorem clone_0 (w : World) : Calls Try.prog 15 #[.slice none 0 0] w fun e w' => e = .returned (.slice none 0 0) ∧ w' = w := by
  have hE : Sem.run Try.prog (binOp .eql 26 (.slice none 0 0) (.slice none 0 0)) w = .ok (.bool true) w := by kernel_rfl
  go_enter Try.func15, Try.ntmps15
  go_wp2
  go_ret
  exact ⟨rfl, rfl⟩
theorem settombs_0 (p : Option Addr) (w : World) (H : Non w p) : Calls Try.prog 8 #[.pointer p] w fun e w' => e = .returned (.slice none 0 0) ∧ w' = w := by
  replace H := hid H
  go_enter Try.func8, Try.ntmps8
  go_wp2_with fail
  refine (held_0 p _ H.out).mono ?_
  rintro e w' ⟨rfl, rfl⟩
  go_wp2_with fail
  refine (clone_0 _).mono ?_
  rintro e w' ⟨rfl, rfl⟩
  go_wp2_with fail
  go_ret
  exact ⟨rfl, rfl⟩
theorem setadd_0 (p : Option Addr) (b e : ByteArray) (s : Int) (w : World) (H : Non w p) : Calls Try.prog 6 #[.pointer p, .agg #[.string b, .string e, .int .u64 s]] w fun r w' => r = .returned (.int .i64 1) ∧ Below w.heap.size w w' := by
  rcases H with rfl | ⟨g, rfl, h⟩
  · go_enter Try.func6, Try.ntmps6
    go_wp2
    go_ret
    exact ⟨rfl, box_below _ _⟩
  · have c1 := cell_of ((Below.heap_alloc w (.cells #[.string b, .string e, .int .u64 s] 24) g (blk_lt h)).trans h) 0 _ rfl
    clear h
    go_enter Try.func6, Try.ntmps6
    go_wp2
    go_ret
    exact ⟨rfl, box_below _ _⟩
theorem setcover_0 (p : Option Addr) (k : ByteArray) (q : Int) (w : World) (H : Non w p) : Calls Try.prog 5 #[.pointer p, .string k, .int .u64 q] w fun e w' => e = .returned (.tuple #[.int .u64 0, .bool false]) ∧ Below w.heap.size w w' := by
  replace H := hid H
  have HC := hid (fun w => Cv.cover_any none 0 0 [] k q w (nil_tbs w) (by omega))
  go_enter Try.func5, Try.ntmps5
  go_wp2_with fail
  refine (held_0 p _ H.out).mono ?_
  rintro e w' ⟨rfl, rfl⟩
  go_wp2_with fail
  refine (HC.out _).mono ?_
  rintro e w' ⟨rfl, b⟩
  replace b := hid b
  rw [show (Cv.cov [] k q) = (0, false) from rfl]
  go_wp2_with fail
  go_ret2
  exact ⟨rfl, b.out⟩
theorem all_0 (p : Option Addr) (w : World) :
    Calls Try.prog 9 #[.pointer p] w fun e w' => e = .returned (.func (.func 16) #[] #[.pointer (some ⟨w.heap.size, 0, none⟩)]) ∧ w' = w.alloc (.cells #[.pointer p] 25) := by
  have hmf : ∀ (fn : Fn) (first cap : Array Value) (w : World), (Instr.makeFunc fn first cap).run Try.prog w = .ok (.func fn first cap) w := fun _ _ _ _ => rfl
  go_enter Try.func9, Try.ntmps9
  go_wp2
  go_ret
  exact ⟨rfl, rfl⟩
set_option maxRecDepth 100000 in
set_option maxHeartbeats 4000000 in
theorem all1_0 (ly bl : Nat) (p : Option Addr) (w : World) (hbl : Boxed w bl 25 (.pointer p)) (H : Non w p) :
    CallsIn Fence.wide 8 Try.prog 16 #[.func (.yield ly) #[] #[], .pointer (some ⟨bl, 0, none⟩)] w fun e w' => e = .returned (.tuple #[]) ∧ Below w.heap.size w w' := by
  have c0 := (hbl.alloc (.cells #[.func (.yield ly) #[] #[]] 50)).cell
  have H1 := hid (H.later (box_below w (.cells #[.func (.yield ly) #[] #[]] 50)))
  refine callsIn_of_wp_marks Try.func16 rfl trivial ?_ rfl
  simp only [Try.ntmps16, List.size_toArray, List.length_cons, List.length_nil, Nat.reduceAdd, Nat.reduceSub, Array.replicate_succ, Array.replicate_zero, List.push_toArray, List.append_toArray, List.nil_append, List.cons_append]
  obtain ⟨n0, hn0⟩ : ∃ n0, n0 = w.heap.size := ⟨_, rfl⟩
  obtain ⟨W4, hW4⟩ : ∃ W, W = (w.alloc (.cells #[.func (.yield ly) #[] #[]] 50)).alloc (.cells #[.slice none 0 0] 26) := ⟨_, rfl⟩
  have s5 : W4.heap.size = n0 + 2 := by rw [hW4, hn0]; simp
  have B4 : Below n0 w W4 := by rw [hW4, hn0]; exact (box_below w _).alloc (by simp) _
  have hb4 : Boxed W4 (n0 + 1) 26 (.slice none 0 0) := by rw [hW4]; exact new_box (by simp; omega) _ _
  replace hW4 := hid hW4
  replace hb4 := hid hb4
  replace B4 := hid B4
  replace hn0 := hid hn0
  replace hbl := hid hbl
  gi_wp2_with fail
  refine ⟨trivial, (callsIn_wide.2 (held_0 p _ H1.out)).mono ?_⟩
  rintro e w' ⟨rfl, rfl⟩
  gi_wp2_with fail
  refine ⟨trivial, (callsIn_wide.2 (fragments_any none 0 0 _)).mono ?_⟩
  rintro e w' ⟨rfl, rfl⟩
  gi_wp2_with fail
  rw [← hW4.out, ← hn0.out]
  refine range_q (F := Fence.wide) (n := 8) encf rfl (by omega) (gf := 19) (lb := #[.pointer (some ⟨n0 + 1, 0, none⟩)]) rfl trivial (enters_of Try.func19 (by kernel_rfl) rfl) (fun _ => rfl)
    (fun ys W => Below n0 w W ∧ n0 + 2 ≤ W.heap.size) (fun _ _ _ => False) (fun pre x => False) (Below n0) (fun ys _ _ => True) (fun _ => True)
    (fun s W o h => ⟨h.1.alloc (by omega) _, by simp; omega⟩) (fun s W W' k h g hk hc => ⟨h.1.grown g (by omega) (fun q e => by cases e; omega), Nat.le_trans h.2 g.size⟩) (fun _ _ _ _ _ h => h.elim)
    (fun A B hA hb => hb.mono (by omega)) (fun h k => h.trans k)
    (fun W l o o' hl ho hc => belowK_b' (w := W4) (by omega) W l o o' hl ho)
    ⟨B4.out, by omega⟩ ?seq (fun _ _ _ _ => True) (fun _ _ _ _ _ _ _ _ _ => trivial) ?assign ?body ?done ?stop
  case seq =>
    intro l J Jx W1 hB1 hY h0
    refine (callsIn_wide.2 (callsIn_wide.1 (fragments1_0 l (n0 + 1) W1 ((hB1.block _ hb4.out.lt).trans hb4.out)))).mono ?_
    rintro e W' ⟨rfl, b⟩
    exact ⟨⟨_, rfl⟩, .inl ⟨[], W1, h0, b, trivial⟩⟩
  case assign =>
    intro l x W K hK
    simp only [encf]
    gi_wp2
    exact hK _ _ (box_below _ _) trivial
  case body =>
    rintro l pre x a' W0 WY W1 W2 hI h0Y h01 hfr
    exact hfr.elim
  case done =>
    rintro D l ys W0 W W' hD hI h0W _ hWW hl hnc hDd
    have b1 : Below n0 w W' := (hI.1.trans (h0W.mono (by omega))).grown hWW (by have := h0W.size; omega) (fun q e => by cases e; omega)
    replace b1 := hid b1
    replace hDd := hid hDd
    clear hI h0W hWW hnc
    gi_wp2_with fail
    refine ⟨by simp, .inl ⟨_, _, rfl, run_takeDeferred hDd.out, ?_⟩⟩
    refine ⟨.tuple #[], ?_, rfl, ?_⟩
    · simp [results, Try.results16, go_sem]
    · rw [← hn0.out]; exact b1.out.trans (belowK_b' (w := W4) (by omega) _ D _ _ hD hDd.out)
  case stop =>
    rintro D c pre W hD _ hx hDd
    exact hx.elim
end Go.Proofs.Ytfmpdalabgfigaa.En

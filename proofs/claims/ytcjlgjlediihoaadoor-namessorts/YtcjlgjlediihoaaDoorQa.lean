/- The small calls that quoting leans on. -/
import Derived.Test.YtcjlgjlediihoaaDoorQs
import Derived.Lib.AppendStr
import Derived.Lib.OthersKept
import Derived.LoopTactic
import Derived.BigQuiet
import Derived.Laws.BitsAllLaws
namespace Go.Proofs.YtcjlgjlediihoaaDoor.Rw
open Go.ChangeShapes Go.WideShapes Go.ChangeAt Go.RowKit
open Go.Proofs.YtcjlgjlediihoaaDoor.Ut
open Go.Proofs.YtcjlgjlediihoaaDoor.By
set_option linter.unusedVariables false
set_option linter.unusedSimpArgs false

theorem hid {p : Prop} (h : p) : Hid p := h
theorem box_below (w : World) (o : Obj) : Below w.heap.size w (w.alloc o) := (Below.refl _ _).alloc (Nat.le_refl _) o
theorem iter_below (w : World) (s : ByteArray) (pos : Nat) : Below w.heap.size w (w.iter s pos) := box_below w _
/-- A buffer of the call's own that holds some bytes. -/
def Own (w : World) (base : Nat) (v : Value) (xs : List Int) : Prop := w.ownsRow base 5 1 v xs.length (xs.map (Value.int .u8))
theorem Own.later {w w' : World} {base : Nat} {v : Value} {xs : List Int} (h : Own w base v xs) (b : Below w.heap.size w w') : Own w' base v xs := by
  by_cases hv : v.ownBlock = none
  · exact World.ownsRow.kept (row := none) h ⟨b.os, b.tape, b.output, b.size, fun k hk _ => b.block k hk⟩ (.inl hv)
  · exact World.ownsRow.kept (row := none) h ⟨b.os, b.tape, b.output, b.size, fun k hk _ => b.block k hk⟩ (.inr hv)
theorem Own.lt {w : World} {base : Nat} {v : Value} {xs : List Int} (h : Own w base v xs) : ∀ k, v.ownBlock = some k → base ≤ k ∧ k < w.heap.size := fun k hk => World.ownsRow.lt h k hk
/-- What a call turns that writes into its own row alone: nothing below a place, and no block but rows. -/
def Gr (base : Nat) (w w' : World) : Prop := Below base w w' ∧ ∀ (k : Nat) (o : Obj), w.heap[k]? = some o → (∀ c e f, o ≠ Obj.cells c e f) → w'.heap[k]? = some o
theorem Gr.refl (base : Nat) (w : World) : Gr base w w := ⟨Below.refl _ _, fun _ _ h _ => h⟩
theorem Gr.trans {base : Nat} {a b c : World} (h : Gr base a b) (k : Gr base b c) : Gr base a c := ⟨h.1.trans k.1, fun i o ho hn => k.2 i o (h.2 i o ho hn) hn⟩
theorem Gr.of_below {base : Nat} {w w' : World} (b : Below w.heap.size w w') (h : base ≤ w.heap.size) : Gr base w w' :=
  ⟨b.mono h, fun k o ho _ => by rw [b.block k (Array.getElem?_eq_some_iff.1 ho).1]; exact ho⟩
theorem Gr.size {base : Nat} {w w' : World} (h : Gr base w w') : w.heap.size ≤ w'.heap.size := h.1.size
theorem Own.cells {w : World} {base : Nat} {v : Value} {xs : List Int} (h : Own w base v xs) : ∀ g, v.ownBlock = some g → ∃ c e f, w.heap[g]? = some (.cells c e f) := by
  intro g hg
  rcases h.2 with ⟨e, _⟩ | ⟨g', cap, cur, e, _, hgg, _⟩
  · rw [e] at hg
    simp [Value.ownBlock] at hg
  · rw [e] at hg
    simp [Value.ownBlock] at hg
    subst hg
    exact ⟨_, _, _, hgg⟩
theorem Gr.grown {base : Nat} {w w' : World} {v : Value} {xs : List Int} (H : Own w base v xs) (g : w.grownBy w' v.ownBlock) (hb : base ≤ w.heap.size) : Gr base w w' := by
  refine ⟨(Below.refl base w).grown g hb (fun k hk => (H.lt k hk).1), fun k o ho hn => ?_⟩
  rw [g.block k (Array.getElem?_eq_some_iff.1 ho).1 (fun e => ?_)]
  · exact ho
  · obtain ⟨c, e', f, h⟩ := H.cells k e.symm
    rw [h] at ho
    exact hn c e' f (Option.some.inj ho).symm
theorem wpList_append_run {P : Program} {w w' : World} {ops : Array Oper} {rest : List Oper} {o : Oper} {a : Act} {Q : Exit → Act → World → Prop} (hg : o.guard = none) (s x : Operand) (t tx : TypeId) (hop : o.op = Op.call { callee := Callee.builtin Builtin.append, args := #[s, x], argTypes := #[t, tx] })
    (u v v' : Value) (hs : a.eval s = u) (hx : a.eval x = v) (hrun : (Builtin.append_ #[t, tx] o.type #[u, v]).run P w = .ok v' w') (hK : wpList P ops Q rest (a.put o.dst v') w') : wpList P ops Q (o :: rest) a w := by
  refine wpList_plain hg fun K' hK' => ?_
  unfold Oper.wp
  simp [execOp, hop, resolve, invoke, builtin, hs, hx, hrun, Result.andThen]
  exact hK' _ _ hK
/-- Bytes that were just built, put behind. -/
theorem app_built (w : World) (base : Nat) (v : Value) (xs : List Int) (ys : List Int) (gz m : Nat) (H : Own w base v xs) (hm : ys.length = m) (hc : ∀ i, i < m → w.cell? ⟨gz, i, none⟩ = some (.int .u8 (ys.getD i 0))) (hn : xs.length + m ≤ 140737488355328) (hbase : base ≤ w.heap.size) :
    ∃ v' w', (Builtin.append_ #[60, 60] 60 #[v, .slice (some ⟨gz, 0, none⟩) m m]).run Tryd.prog w = .ok v' w' ∧ Own w' base v' (xs ++ ys) ∧ w.grownBy w' v.ownBlock := by
  obtain ⟨i0, hi, hz0, hz1, hz2⟩ := info_parts info5
  obtain ⟨v5, W5, r5, o5, g5, _⟩ := run_append_own (P := Tryd.prog) w base 60 60 5 i0 (.int .u8 0) 1 1 Tryd.underlying60 hi hz0 hz1 hz2 rfl (by decide) v xs.length _ H ⟨gz, 0, none⟩ m m (ys.map (Value.int .u8)) (by simp; exact hm) (by
    intro j u hu
    rw [List.getElem?_map] at hu
    by_cases hj : j < ys.length
    · rw [List.getElem?_eq_getElem hj] at hu
      simp at hu
      subst hu
      have := hc j (by omega)
      rw [addr_add, Nat.zero_add, this, List.getD_eq_getElem?_getD, List.getElem?_eq_getElem hj]
      rfl
    · rw [List.getElem?_eq_none (by omega)] at hu
      simp at hu) (one_cell ys) (by unfold maxLen; omega) (by omega) hbase
  refine ⟨v5, W5, r5, ?_, g5⟩
  unfold Own
  rw [List.length_append, List.map_append, hm]
  exact o5
/-- A text's bytes, put behind. -/
theorem app_text (w : World) (base : Nat) (v : Value) (xs : List Int) (t : ByteArray) (H : Own w base v xs) (hn : xs.length + t.size ≤ 140737488355328) (hbase : base ≤ w.heap.size) :
    ∃ v' w', (Builtin.append_ #[60, 9] 60 #[v, .string t]).run Tryd.prog w = .ok v' w' ∧ Own w' base v' (xs ++ tx t) ∧ w.grownBy w' v.ownBlock := by
  obtain ⟨i0, hi, hz0, hz1, hz2⟩ := info_parts info5
  obtain ⟨v5, W5, r5, o5, g5, _⟩ := Lib.run_append_own_string (P := Tryd.prog) (w := w) base 60 9 60 5 i0 Tryd.underlying60 Tryd.underlying9 hi hz0 hz1 hz2 v xs.length _ H t (by unfold maxLen; omega) hn hbase
  refine ⟨v5, W5, r5, ?_, g5⟩
  unfold Own
  rw [List.length_append, List.map_append, tx_len, ← tx_cells]
  exact o5
theorem Own.conv {w : World} {base : Nat} {v : Value} {xs : List Int} (h : Own w base v xs) : Sem.run Tryd.prog (convert 60 9 v) w = .ok (.string (str xs)) w := by
  rcases h.2 with ⟨e, e0⟩ | ⟨g, c, cur, e, hr⟩
  · have : xs = [] := List.eq_nil_of_length_eq_zero e0
    subst this
    rw [e]
    exact (nil_bytes w).conv
  · subst e
    exact Row.conv (g := g) h
theorem toList_inj {a b : ByteArray} (h : a.toList = b.toList) : a = b := by
  rw [ByteArray.toList_eq, ByteArray.toList_eq] at h
  cases a; cases b; simp at h; rw [ByteArray.mk.injEq]; exact Array.toList_inj.1 (by simpa using h)
/-! ### strings.HasPrefix -/
def hp (s pre : ByteArray) : Bool := decide (pre.size ≤ s.size ∧ s.extract 0 pre.size = pre)
theorem hp_lite (s pre : ByteArray) (w : World) : Calls Tryd.prog 66 #[.string s, .string pre] w fun e w' => e = .returned (.bool (hp s pre)) ∧ w' = w := by
  by_cases h1 : pre.size ≤ s.size
  · by_cases h2 : s.extract 0 pre.size = pre
    · have e : hp s pre = true := by simp [hp, h1, h2]
      rw [e]
      go_enter Tryd.func66, Tryd.ntmps66
      go_wp2
      go_ret
      simp [h2]
    · have e : hp s pre = false := by simp [hp, h1, h2]
      have h3 : ¬ (s.extract 0 pre.size).toList = pre.toList := fun h => h2 (toList_inj h)
      rw [e]
      go_enter Tryd.func66, Tryd.ntmps66
      go_wp2
      go_ret
      simp [h3]
  · have e : hp s pre = false := by simp [hp, h1]
    rw [e]
    go_enter Tryd.func66, Tryd.ntmps66
    go_wp2
    go_ret
    exact ⟨rfl, rfl⟩
theorem hp_any (s pre : ByteArray) (w : World) : Calls Tryd.prog 44 #[.string s, .string pre] w fun e w' => e = .returned (.bool (hp s pre)) ∧ w' = w := by
  go_enter Tryd.func44, Tryd.ntmps44
  go_wp2_with fail
  refine (hp_lite s pre w).mono ?_
  rintro e w ⟨rfl, rfl⟩
  go_wp2_with fail
  go_ret
  exact ⟨rfl, rfl⟩
theorem byte_ext {a b : ByteArray} (h : a.size = b.size) (hb : ∀ j, j < a.size → bt a j = bt b j) : a = b := by
  apply ByteArray.ext
  apply Array.ext h
  intro i h1 h2
  have := hb i h1
  rw [← bt_eq a i h1, ← bt_eq b i h2] at this
  exact UInt8.toNat_inj.1 (by simpa [ByteArray.getElem_eq_getElem_data] using this)
def fffd : ByteArray := ⟨#[239, 191, 189]⟩
theorem hp_bad (s : ByteArray) : hp s fffd = true ↔ (3 ≤ s.size ∧ bt s 0 = 239 ∧ bt s 1 = 191 ∧ bt s 2 = 189) := by
  have e3 : fffd.size = 3 := rfl
  unfold hp
  rw [decide_eq_true_iff, e3]
  constructor
  · rintro ⟨h1, h2⟩
    have q : ∀ j, j < 3 → bt s j = bt fffd j := fun j hj => by
      have := ext_bt s 0 3 j h1 (by omega)
      rw [h2, Nat.zero_add] at this
      exact this.symm
    exact ⟨h1, (q 0 (by omega)).trans (by kernel_rfl), (q 1 (by omega)).trans (by kernel_rfl), (q 2 (by omega)).trans (by kernel_rfl)⟩
  · rintro ⟨h1, h2, h3, h4⟩
    refine ⟨h1, byte_ext (by rw [ext_size s 0 3 h1, e3]) ?_⟩
    intro j hj
    rw [ext_size s 0 3 h1] at hj
    rw [ext_bt s 0 3 j h1 (by omega), Nat.zero_add]
    rcases (by omega : j = 0 ∨ j = 1 ∨ j = 2) with rfl | rfl | rfl
    · rw [h2]; kernel_rfl
    · rw [h3]; kernel_rfl
    · rw [h4]; kernel_rfl
def dq : ByteArray := ⟨#[34]⟩
theorem hp_dq (s : ByteArray) : hp s dq = true ↔ (1 ≤ s.size ∧ bt s 0 = 34) := by
  have e3 : dq.size = 1 := rfl
  unfold hp
  rw [decide_eq_true_iff, e3]
  constructor
  · rintro ⟨h1, h2⟩
    have := ext_bt s 0 1 0 h1 (by omega)
    rw [h2, Nat.zero_add] at this
    exact ⟨h1, this.symm.trans (by kernel_rfl)⟩
  · rintro ⟨h1, h2⟩
    refine ⟨h1, byte_ext (by rw [ext_size s 0 1 h1, e3]) ?_⟩
    intro j hj
    rw [ext_size s 0 1 h1] at hj
    rw [ext_bt s 0 1 j h1 (by omega), Nat.zero_add]
    have : j = 0 := by omega
    subst this
    exact h2.trans (show 34 = bt dq 0 by kernel_rfl)
/-! ### isStray, standsForItself, RuneLen -/
theorem stray_any (s : ByteArray) (hs : 0 < s.size) (w : World) : Calls Tryd.prog 61 #[.string s, .int .i32 ((Utf8.decode s 0).1 : Nat)] w fun e w' => e = .returned (.bool (decide (Utf8.decode s 0 = (65533, 1)))) ∧ w' = w := by
  have HB := dec_bad s 0 hs
  have HP := hid (hp_any s fffd w)
  have HE := hp_bad s
  rw [Nat.zero_add] at HB
  generalize hd : Utf8.decode s 0 = d at *
  clear hd
  obtain ⟨r, wd⟩ := d
  by_cases h : r = 65533
  · subst h
    have e : decide ((65533, wd) = (65533, 1)) = !hp s fffd := by
      cases hh : hp s fffd
      · have h3 : (65533, wd) = (65533, 1) := (HB rfl).2 (fun x => by
          have := HE.2 (by simpa using x)
          rw [hh] at this
          simp at this)
        rw [decide_eq_true h3]
        rfl
      · have h3 : ¬ (65533, wd) = (65533, 1) := fun e => (HB rfl).1 e (by simpa using HE.1 hh)
        rw [decide_eq_false h3]
        rfl
    rw [e]
    generalize hp s fffd = b at *
    clear HB HE e
    unfold fffd at HP
    go_enter Tryd.func61, Tryd.ntmps61
    go_wp2_with fail
    refine HP.out.mono ?_
    rintro e w ⟨rfl, rfl⟩
    clear HP
    go_wp2_with fail
    go_ret
    exact ⟨rfl, rfl⟩
  · have e : decide ((r, wd) = (65533, 1)) = false := by simp [h]
    rw [e]
    clear HB HE e HP
    have h1 : ¬ ((r : Int) = 65533) := by omega
    go_enter Tryd.func61, Tryd.ntmps61
    go_wp2_with fail
    go_ret
    exact ⟨rfl, rfl⟩
theorem stands_any (r : Nat) (w : World) : Calls Tryd.prog 64 #[.int .i32 (r : Int)] w fun e w' => e = .returned (.bool (plain r)) ∧ w' = w := by
  by_cases h1 : r ≤ 32
  · have e : plain r = false := by simp [plain]; omega
    rw [e]
    go_enter Tryd.func64, Tryd.ntmps64
    go_wp2
    go_ret
    exact ⟨rfl, rfl⟩
  · by_cases h2 : 127 ≤ r ∧ r ≤ 160
    · have e : plain r = false := by simp [plain]; omega
      rw [e]
      obtain ⟨h2, h3⟩ := h2
      go_enter Tryd.func64, Tryd.ntmps64
      go_wp2
      go_ret
      exact ⟨rfl, rfl⟩
    · by_cases h3 : r = 34
      · subst h3
        go_enter Tryd.func64, Tryd.ntmps64
        go_wp2
        go_ret
        exact ⟨rfl, rfl⟩
      · by_cases h4 : r = 92
        · subst h4
          go_enter Tryd.func64, Tryd.ntmps64
          go_wp2
          go_ret
          exact ⟨rfl, rfl⟩
        · have e : plain r = true := by simp [plain]; omega
          rw [e]
          have n1 : ((r : Int) != 34) = true := by simp; omega
          have n2 : ((r : Int) != 92) = true := by simp; omega
          by_cases h5 : 127 ≤ r
          · have h6 : ¬ (r : Int) ≤ 160 := by omega
            go_enter Tryd.func64, Tryd.ntmps64
            go_wp2
            go_ret
            exact ⟨by first | rfl | (simp [n1, n2]; done) | (simp; omega), rfl⟩
          · go_enter Tryd.func64, Tryd.ntmps64
            go_wp2
            go_ret
            exact ⟨by first | rfl | (simp [n1, n2]; done) | (simp; omega), rfl⟩
theorem rlen_any (r : Nat) (h : ¬ (55296 ≤ r ∧ r ≤ 57343)) (h' : r ≤ 1114111) (w : World) : Calls Tryd.prog 63 #[.int .i32 (r : Int)] w fun e w' => e = .returned (.int .i64 (rlen r : Nat)) ∧ w' = w := by
  unfold rlen
  by_cases h1 : r < 128
  · rw [if_pos h1]
    go_enter Tryd.func63, Tryd.ntmps63
    go_wp2
    go_ret
    exact ⟨rfl, rfl⟩
  · rw [if_neg h1]
    by_cases h2 : r < 2048
    · rw [if_pos h2]
      go_enter Tryd.func63, Tryd.ntmps63
      go_wp2
      go_ret
      exact ⟨rfl, rfl⟩
    · rw [if_neg h2]
      by_cases h3 : r < 65536
      · rw [if_pos h3]
        by_cases h4 : r < 55296
        · go_enter Tryd.func63, Tryd.ntmps63
          go_wp2
          go_ret
          exact ⟨rfl, rfl⟩
        · have h5 : ¬ (r : Int) ≤ 57343 := by omega
          go_enter Tryd.func63, Tryd.ntmps63
          go_wp2
          go_ret
          exact ⟨rfl, rfl⟩
      · rw [if_neg h3]
        have h5 : ¬ (r : Int) ≤ 57343 := by omega
        go_enter Tryd.func63, Tryd.ntmps63
        go_wp2
        go_ret
        exact ⟨rfl, rfl⟩
end Go.Proofs.YtcjlgjlediihoaaDoor.Rw

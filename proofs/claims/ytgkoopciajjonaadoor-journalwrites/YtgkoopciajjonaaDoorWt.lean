/- A buffer of the call's own; a writer's block; the small calls of the writer. -/
import Derived.Test.YtgkoopciajjonaaDoorCk
import Derived.Deep.AppendSrc
import Derived.Laws.OwnMore
import Derived.LoopTactic
import Derived.BigQuiet
import Derived.Lib.QuietBelow
import Derived.Laws.BitsAllLaws
namespace Go.Proofs.YtgkoopciajjonaaDoor.Wt
open Go.ChangeShapes Go.WideShapes Go.ChangeAt Go.RowKit
open Go.Proofs.YtgkoopciajjonaaDoor.Crc
open Go.Proofs.YtgkoopciajjonaaDoor.Jm
open Go.Proofs.YtgkoopciajjonaaDoor.Ck
set_option linter.unusedVariables false
set_option linter.unusedSimpArgs false

theorem box_below (w : World) (o : Obj) : Below w.heap.size w (w.alloc o) := (Below.refl _ _).alloc (Nat.le_refl _) o
/-- A buffer of the call's own that holds some bytes. -/
def Own (w : World) (base : Nat) (v : Value) (xs : List Int) : Prop := w.ownsRow base 5 1 v xs.length (xs.map (Value.int .u8))
theorem Own.later {w w' : World} {base : Nat} {v : Value} {xs : List Int} (h : Own w base v xs) (b : Below w.heap.size w w') : Own w' base v xs := by
  by_cases hv : v.ownBlock = none
  · exact World.ownsRow.kept (row := none) h ⟨b.os, b.tape, b.output, b.size, fun k hk _ => b.block k hk⟩ (.inl hv)
  · exact World.ownsRow.kept (row := none) h ⟨b.os, b.tape, b.output, b.size, fun k hk _ => b.block k hk⟩ (.inr hv)
theorem Own.lt {w : World} {base : Nat} {v : Value} {xs : List Int} (h : Own w base v xs) : ∀ k, v.ownBlock = some k → base ≤ k ∧ k < w.heap.size := fun k hk => World.ownsRow.lt h k hk
theorem Own.kept {w w' : World} {base : Nat} {v : Value} {xs : List Int} {row : Option Nat} (h : Own w base v xs) (k : w.grownBy w' row) (hne : row ≠ v.ownBlock) : Own w' base v xs :=
  World.ownsRow.kept h k (.inr hne.symm)
theorem Own.shape {w : World} {base : Nat} {v : Value} {xs : List Int} (h : Own w base v xs) : ∃ a c, v = .slice a xs.length c ∧ (a = none ∨ ∃ g, a = some ⟨g, 0, none⟩) := by
  rcases h.2 with ⟨e, h0⟩ | ⟨g, c, cur, e, _⟩
  · rw [h0]; exact ⟨none, 0, e, .inl rfl⟩
  · exact ⟨_, c, e, .inr ⟨g, rfl⟩⟩
theorem Own.bytes {w : World} {base : Nat} {a : Option Addr} {n c : Nat} {xs : List Int} (h : Own w base (.slice a n c) xs) (hb : ∀ y ∈ xs, 0 ≤ y ∧ y ≤ 255) : Bytes w a n c xs := by
  rcases h.2 with ⟨e, h0⟩ | ⟨g, c', cur, e, _⟩
  · simp only [Value.slice.injEq] at e
    obtain ⟨rfl, rfl, rfl⟩ := e
    have : xs = [] := List.eq_nil_of_length_eq_zero h0
    subst this
    exact nil_bytes w
  · simp only [Value.slice.injEq] at e
    obtain ⟨rfl, rfl, rfl⟩ := e
    exact Row.bytes (base := base) h hb
theorem wpList_append_run {P : Program} {w w' : World} {ops : Array Oper} {rest : List Oper} {o : Oper} {a : Act} {Q : Exit → Act → World → Prop} (hg : o.guard = none) (s x : Operand) (t tx : TypeId) (hop : o.op = Op.call { callee := Callee.builtin Builtin.append, args := #[s, x], argTypes := #[t, tx] })
    (u v v' : Value) (hs : a.eval s = u) (hx : a.eval x = v) (hrun : (Builtin.append_ #[t, tx] o.type #[u, v]).run P w = .ok v' w') (hK : wpList P ops Q rest (a.put o.dst v') w') : wpList P ops Q (o :: rest) a w := by
  refine wpList_plain hg fun K' hK' => ?_
  unfold Oper.wp
  simp [execOp, hop, resolve, invoke, builtin, hs, hx, hrun, Result.andThen]
  exact hK' _ _ hK
/-- Bytes put behind a buffer. -/
theorem app_bytes (w : World) (base : Nat) (v : Value) (xs ys : List Int) (a : Option Addr) (m c : Nat) (H : Own w base v xs) (HB : Bytes w a m c ys) (hn : xs.length + m ≤ 140737488355328) (hbase : base ≤ w.heap.size) :
    ∃ v' w', (Builtin.append_ #[31, 31] 31 #[v, .slice a m c]).run Tryd.prog w = .ok v' w' ∧ Own w' base v' (xs ++ ys) ∧ w.grownBy w' v.ownBlock := by
  obtain ⟨i0, hi, hz0, hz1, hz2⟩ := info_parts info5
  cases a with
  | none =>
    obtain ⟨rfl, rfl⟩ := HB.2.2.1 rfl
    have hy : ys = [] := List.eq_nil_of_length_eq_zero HB.1
    subst hy
    exact ⟨v, w, run_append_owned_none (P := Tryd.prog) (w := w) base 31 31 5 i0 1 Tryd.underlying31 hi v xs.length _ H, by simpa using H, World.grownBy.refl _ _⟩
  | some ad =>
    obtain ⟨v5, W5, r5, o5, g5, _⟩ := run_append_own (P := Tryd.prog) w base 31 31 5 i0 (.int .u8 0) 1 1 Tryd.underlying31 hi hz0 hz1 hz2 rfl (by decide) v xs.length _ H ad m c (ys.map (Value.int .u8)) (by simp; exact HB.1) ((bytes_later HB (Below.refl _ _)).2 ad rfl) (one_cell ys) (by unfold maxLen; omega) (by omega) hbase
    refine ⟨v5, W5, r5, ?_, g5⟩
    unfold Own
    rw [List.length_append, List.map_append, HB.1]
    exact o5
theorem cell_grown {W W' : World} {row : Option Nat} {a : Addr} {v : Value} (h : W.cell? a = some v) (g : W.grownBy W' row) (hne : some a.block ≠ row) : W'.cell? a = some v := by
  rw [← h]
  unfold World.cell?
  rw [g.block a.block (block_lt_of_cell h) hne]
theorem own_below {w w' : World} {base : Nat} {v : Value} {xs : List Int} (H : Own w base v xs) (g : w.grownBy w' v.ownBlock) (hb : base ≤ w.heap.size) : Below base w w' :=
  (Below.refl base w).grown g hb (fun k hk => (H.lt k hk).1)
theorem built_bytes (w : World) (xs : List Int) (hb : ∀ y ∈ xs, 0 ≤ y ∧ y ≤ 255) : Bytes (w.alloc (.cells (xs.map (Value.int .u8)).toArray 5)) (some ⟨w.heap.size, 0, none⟩) xs.length xs.length xs := by
  refine ⟨rfl, Nat.le_refl _, fun e => by simp at e, hb, ?_⟩
  intro x hx i hi
  simp at hx
  subst hx
  rw [addr_add, Nat.zero_add]
  unfold World.cell?
  rw [show (w.alloc (.cells (xs.map (Value.int .u8)).toArray 5)).heap[w.heap.size]? = some (.cells (xs.map (Value.int .u8)).toArray 5) from by show (w.heap.push _)[w.heap.size]? = _; simp]
  simp [List.getD_eq_getElem?_getD, hi]

/-! ### A piece as a value -/
def pv (k : Int) (a : Option Addr) (len cap : Nat) : Value := .agg #[.int .u8 k, .slice a len cap]
theorem begins_any (k : Int) (a : Option Addr) (len cap : Nat) (w : World) : Calls Tryd.prog 43 #[.agg #[.int .u8 k, .slice a len cap]] w fun e w' => e = .returned (.bool (begins k)) ∧ Below w.heap.size w w' := by
  by_cases h1 : k = 1
  · subst h1
    go_enter Tryd.func43, Tryd.ntmps43
    go_wp2
    go_ret
    exact ⟨rfl, box_below _ _⟩
  · go_enter Tryd.func43, Tryd.ntmps43
    go_wp2
    go_ret
    exact ⟨rfl, box_below _ _⟩
theorem ends_any (k : Int) (a : Option Addr) (len cap : Nat) (w : World) : Calls Tryd.prog 45 #[.agg #[.int .u8 k, .slice a len cap]] w fun e w' => e = .returned (.bool (ends k)) ∧ Below w.heap.size w w' := by
  by_cases h1 : k = 1
  · subst h1
    go_enter Tryd.func45, Tryd.ntmps45
    go_wp2
    go_ret
    exact ⟨rfl, box_below _ _⟩
  · go_enter Tryd.func45, Tryd.ntmps45
    go_wp2
    go_ret
    exact ⟨rfl, box_below _ _⟩
theorem size_any (k : Int) (a : Option Addr) (len cap : Nat) (w : World) (h : len ≤ 140737488355328) : Calls Tryd.prog 44 #[.agg #[.int .u8 k, .slice a len cap]] w fun e w' => e = .returned (.int .i64 ((7 + len : Nat) : Int)) ∧ Below w.heap.size w w' := by
  go_enter Tryd.func44, Tryd.ntmps44
  go_wp2
  go_ret
  exact ⟨by go_num, box_below _ _⟩
theorem kindof_any (f l : Bool) (w : World) : Calls Tryd.prog 30 #[.bool f, .bool l] w fun e w' => e = .returned (.int .u8 (kd f l)) ∧ w' = w := by
  cases f <;> cases l
  all_goals
    go_enter Tryd.func30, Tryd.ntmps30
    go_wp2
    go_ret
    exact ⟨rfl, rfl⟩

/-! ### A writer -/
def Wr (w : World) (g b s : Nat) : Prop := w.heap[g]? = some (.cells #[.int .i64 (b : Int), .int .u64 (s : Int)] 56)
theorem Wr.lt {w : World} {g b s : Nat} (h : Wr w g b s) : g < w.heap.size := (Array.getElem?_eq_some_iff.1 h).1
theorem Wr.later {w w' : World} {g b s : Nat} (h : Wr w g b s) (k : Below w.heap.size w w') : Wr w' g b s := (k.block g h.lt).trans h
theorem Wr.kept {w w' : World} {g b s : Nat} {row : Option Nat} (h : Wr w g b s) (k : w.grownBy w' row) (hne : some g ≠ row) : Wr w' g b s := (k.block g h.lt hne).trans h
theorem Wr.cell0 {w : World} {g b s : Nat} (h : Wr w g b s) : w.cell? ⟨g, 0, none⟩ = some (.int .i64 (b : Int)) := by
  unfold World.cell?; rw [show w.heap[g]? = _ from h]; rfl
theorem Wr.cell1 {w : World} {g b s : Nat} (h : Wr w g b s) : w.cell? ⟨g, 1, none⟩ = some (.int .u64 (s : Int)) := by
  unfold World.cell?; rw [show w.heap[g]? = _ from h]; rfl
theorem Wr.fz {w : World} {g b s : Nat} (h : Wr w g b s) (o : Nat) : w.frozen? ⟨g, o, none⟩ = false := by
  simp [World.frozen?, show w.heap[g]? = _ from h]
theorem grown_set (W : World) (r o : Nat) (v : Value) : W.grownBy (W.setCell ⟨r, o, none⟩ v) (some r) :=
  ⟨rfl, rfl, rfl, by simp [World.setCell], fun k hk hne => Below.heap_setCell W _ _ k (by intro e; exact hne (by rw [e]))⟩
theorem Wr.set {w : World} {g b s : Nat} (h : Wr w g b s) (x : Nat) : Wr (w.setCell ⟨g, 1, none⟩ (.int .u64 (x : Int))) g b x := by
  unfold Wr at h ⊢
  simp [World.setCell, Array.getElem?_modify, h]
theorem isblock_any (b : Int) (w : World) : Calls Tryd.prog 26 #[.int .i64 b] w fun e w' => e = .returned (.bool (decide (32 ≤ b) && decide (b ≤ 32768))) ∧ w' = w := by
  by_cases h : 32 ≤ b
  · by_cases h2 : b ≤ 32768
    all_goals
      go_enter Tryd.func26, Tryd.ntmps26
      go_wp2
      go_ret
      simp [h, h2]
  · go_enter Tryd.func26, Tryd.ntmps26
    go_wp2
    go_ret
    simp [h]
    omega
theorem isnone_nil (w : World) : Calls Tryd.prog 27 #[.pointer none] w fun e w' => e = .returned (.bool true) ∧ w' = w := by
  go_enter Tryd.func27, Tryd.ntmps27
  go_wp2
  go_ret
  exact ⟨rfl, rfl⟩
theorem isnone_any (g b s : Nat) (w : World) (H : Wr w g b s) : Calls Tryd.prog 27 #[.pointer (some ⟨g, 0, none⟩)] w fun e w' => e = .returned (.bool (decide ((b : Int) = 0))) ∧ w' = w := by
  have c0 := H.cell0
  go_enter Tryd.func27, Tryd.ntmps27
  go_wp2
  go_ret
  exact ⟨by rfl, rfl⟩
theorem new_no (b s : Int) (w : World) (h : (decide (32 ≤ b) && decide (b ≤ 32768)) = false ∨ s < 0) : Calls Tryd.prog 9 #[.int .i64 b, .int .i64 s] w fun e w' => e = .returned (.tuple #[.pointer none, .int .i64 2]) ∧ w' = w := by
  have HI := hid (isblock_any b)
  generalize (decide (32 ≤ b) && decide (b ≤ 32768)) = q at *
  cases q with
  | false =>
    go_enter Tryd.func9, Tryd.ntmps9
    go_wp2_with fail
    refine (HI.out _).mono ?_
    rintro e w' ⟨rfl, rfl⟩
    go_wp2_with fail
    go_ret2
    exact ⟨rfl, rfl⟩
  | true =>
    have h2 : s < 0 := by rcases h with h | h; simp at h; exact h
    go_enter Tryd.func9, Tryd.ntmps9
    go_wp2_with fail
    refine (HI.out _).mono ?_
    rintro e w' ⟨rfl, rfl⟩
    go_wp2_with fail
    go_ret2
    exact ⟨rfl, rfl⟩
theorem new_ok (b s : Nat) (w : World) (hb : 32 ≤ b ∧ b ≤ 32768) (hs : s ≤ 9223372036854775807) : Calls Tryd.prog 9 #[.int .i64 b, .int .i64 s] w fun e w' => e = .returned (.tuple #[.pointer (some ⟨w.heap.size, 0, none⟩), .int .i64 0]) ∧ w' = w.alloc (.cells #[.int .i64 (b : Int), .int .u64 (s : Int)] 56) := by
  have HI := isblock_any (b : Int)
  rw [show (decide (32 ≤ (b : Int)) && decide ((b : Int) ≤ 32768)) = true by simp; omega] at HI
  have HI := hid HI
  have h2 : ¬ (s : Int) < 0 := by omega
  have h3 : IntKind.u64.wrap (s : Int) = (s : Int) := by simp [IntKind.wrap, IntKind.bits, IntKind.signed]; omega
  go_enter Tryd.func9, Tryd.ntmps9
  go_wp2_with fail
  refine (HI.out _).mono ?_
  rintro e w' ⟨rfl, rfl⟩
  go_wp2_with fail
  go_ret2
  exact ⟨rfl, rfl⟩
end Go.Proofs.YtgkoopciajjonaaDoor.Wt

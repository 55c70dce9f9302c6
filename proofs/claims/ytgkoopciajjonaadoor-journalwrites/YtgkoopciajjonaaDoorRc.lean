/- Slices of bytes that can be read, in a row; rows of the call's own of them, and of numbers. -/
import Derived.Test.YtgkoopciajjonaaDoorWa
import Derived.Test.YtgkoopciajjonaaDoorJu
namespace Go.Proofs.YtgkoopciajjonaaDoor.Rc
open Go.ChangeShapes Go.WideShapes Go.ChangeAt Go.RowKit
open Go.Proofs.YtgkoopciajjonaaDoor.Crc
open Go.Proofs.YtgkoopciajjonaaDoor.Jm
open Go.Proofs.YtgkoopciajjonaaDoor.Jn
open Go.Proofs.YtgkoopciajjonaaDoor.Jt (pc_bytes)
open Go.Proofs.YtgkoopciajjonaaDoor.Ck
open Go.Proofs.YtgkoopciajjonaaDoor.Wt
open Go.Proofs.YtgkoopciajjonaaDoor.Wa
set_option linter.unusedVariables false

/-- A slice of bytes, and the bytes. -/
structure Sl where
  a : Option Addr
  len : Nat
  cap : Nat
  zs : List Int
def Sl.v (s : Sl) : Value := .slice s.a s.len s.cap
def Sl.ok (w : World) (s : Sl) : Prop := Bytes w s.a s.len s.cap s.zs
theorem Sl.later {w w' : World} {s : Sl} (h : s.ok w) (b : Below w.heap.size w w') : s.ok w' := bytes_kept h b
/-- A slice of slices of bytes that can be read. -/
def Recs (w : World) (a : Option Addr) (len cap : Nat) (rs : List Sl) : Prop :=
  rs.length = len ∧ len ≤ cap ∧ (a = none → len = 0 ∧ cap = 0) ∧ (∀ x, a = some x → ∀ i s, rs[i]? = some s → w.cell? (x.add i) = some s.v) ∧ (∀ s ∈ rs, s.ok w)
theorem Recs.later {w w' : World} {a : Option Addr} {len cap : Nat} {rs : List Sl} (h : Recs w a len cap rs) (b : Below w.heap.size w w') : Recs w' a len cap rs :=
  ⟨h.1, h.2.1, h.2.2.1, fun x hx i s hs => cell_later b (h.2.2.2.1 x hx i s hs), fun s hs => Sl.later (h.2.2.2.2 s hs) b⟩
/-- A row of the call's own of slices of bytes. -/
def OwnR (w : World) (base : Nat) (v : Value) (rs : List Sl) : Prop := w.ownsRow base 31 1 v rs.length (rs.map Sl.v)
/-- A row of the call's own of numbers. -/
def OwnI (w : World) (base : Nat) (v : Value) (xs : List Nat) : Prop := w.ownsRow base 3 1 v xs.length (xs.map fun (x : Nat) => Value.int .i64 (x : Int))
theorem infoB : (Tryd.prog.info? 31).map (fun i => (i.zero, i.size, i.bytes)) = some (some (.slice none 0 0), 1, 24) := by kernel_rfl
theorem infoI : (Tryd.prog.info? 3).map (fun i => (i.zero, i.size, i.bytes)) = some (some (.int .i64 0), 1, 8) := by kernel_rfl
theorem row_shape {w : World} {base e size : Nat} {v : Value} {n : Nat} {xs : List Value} (h : w.ownsRow base e size v n xs) : ∃ a c, v = .slice a n c ∧ (a = none ∨ ∃ g, a = some ⟨g, 0, none⟩) := by
  rcases h.2 with ⟨e, h0⟩ | ⟨g, c, cur, e, _⟩
  · rw [h0]; exact ⟨none, 0, e, .inl rfl⟩
  · exact ⟨_, c, e, .inr ⟨g, rfl⟩⟩
theorem row_later {w w' : World} {base e size : Nat} {v : Value} {n : Nat} {xs : List Value} (h : w.ownsRow base e size v n xs) (b : Below w.heap.size w w') : w'.ownsRow base e size v n xs := by
  by_cases hv : v.ownBlock = none
  · exact World.ownsRow.kept (row := none) h (grown_of b) (.inl hv)
  · exact World.ownsRow.kept (row := none) h (grown_of b) (.inr hv)
/-- Rows of unlike kinds lie in unlike blocks. -/
theorem row_blk {w : World} {base e size : Nat} {v : Value} {n : Nat} {xs : List Value} (h : w.ownsRow base e size v n xs) : ∀ g, v.ownBlock = some g → ∃ c f, w.heap[g]? = some (.cells c e f) := by
  intro g hg
  rcases h.2 with ⟨e, _⟩ | ⟨g', cap, cur, e, _, hgg, _⟩
  · rw [e] at hg
    simp [Value.ownBlock] at hg
  · rw [e] at hg
    simp [Value.ownBlock] at hg
    subst hg
    exact ⟨_, _, hgg⟩
theorem row_kept {w w' : World} {base e size : Nat} {v : Value} {n : Nat} {xs : List Value} {row : Option Nat} (h : w.ownsRow base e size v n xs) (g : w.grownBy w' row) (hne : ∀ k, row = some k → ∃ c t f, w.heap[k]? = some (.cells c t f) ∧ t ≠ e) : w'.ownsRow base e size v n xs := by
  by_cases hv : v.ownBlock = none
  · exact World.ownsRow.kept h g (.inl hv)
  · refine World.ownsRow.kept h g (.inr ?_)
    intro hr
    cases hb : v.ownBlock with
    | none => exact hv hb
    | some k =>
      obtain ⟨c, t, f, h1, h2⟩ := hne k (by rw [← hr, hb])
      obtain ⟨c', f', h3⟩ := row_blk h k hb
      rw [h3] at h1
      simp at h1
      exact h2 h1.2.1.symm
theorem row_other {w : World} {base e size : Nat} {v : Value} {n : Nat} {xs : List Value} (h : w.ownsRow base e size v n xs) (e2 : Nat) (hne : e ≠ e2) : ∀ k, v.ownBlock = some k → ∃ c t f, w.heap[k]? = some (.cells c t f) ∧ t ≠ e2 := by
  intro k hk
  obtain ⟨c, f, h1⟩ := row_blk h k hk
  exact ⟨c, e, f, h1, hne⟩
theorem row_below {w w' : World} {base e size : Nat} {v : Value} {n : Nat} {xs : List Value} (H : w.ownsRow base e size v n xs) (g : w.grownBy w' v.ownBlock) (hb : base ≤ w.heap.size) : Below base w w' :=
  (Below.refl base w).grown g hb (fun k hk => (World.ownsRow.lt H k hk).1)
theorem cell_new1 (w : World) (v : Value) (t : TypeId) : (w.alloc (.cells #[v] t)).cell? ⟨w.heap.size, 0, none⟩ = some v := by
  unfold World.cell?
  rw [show (w.alloc (.cells #[v] t)).heap[w.heap.size]? = some (.cells #[v] t) from by show (w.heap.push _)[w.heap.size]? = _; simp]
  rfl
/-- One slice put behind a row of them. -/
theorem app_rec (w : World) (base : Nat) (v : Value) (rs : List Sl) (s : Sl) (H : OwnR w base v rs) (hn : (rs.length + 1) * 24 ≤ 140737488355328) (hbase : base ≤ w.heap.size) :
    ∃ v' w', (Builtin.append_ #[22, 22] 22 #[v, .slice (some ⟨w.heap.size, 0, none⟩) 1 1]).run Tryd.prog (w.alloc (.cells #[s.v] 31)) = .ok v' w' ∧ OwnR w' base v' (rs ++ [s]) ∧ (w.alloc (.cells #[s.v] 31)).grownBy w' v.ownBlock ∧ (w.alloc (.cells #[s.v] 31)).ownsRow base 31 1 v rs.length (rs.map Sl.v) := by
  obtain ⟨i0, hi, hz0, hz1, hz2⟩ := info_parts infoB
  have H2 := row_later H (box_below w (.cells #[s.v] 31))
  obtain ⟨v5, W5, r5, o5, g5, _⟩ := run_append_own (P := Tryd.prog) (w.alloc (.cells #[s.v] 31)) base 22 22 31 i0 (.slice none 0 0) 1 24 Tryd.underlying22 hi hz0 hz1 hz2 rfl (by decide) v rs.length _ H2 ⟨w.heap.size, 0, none⟩ 1 1 [s.v] rfl (by
    intro j u hu
    match j, hu with
    | 0, hu => simp at hu; subst hu; exact cell_new1 w _ _) (by intro u hu; simp at hu; subst hu; rfl) (by unfold maxLen; omega) (by omega) (by simp; omega)
  refine ⟨v5, W5, r5, ?_, g5, H2⟩
  unfold OwnR
  rw [List.length_append, List.map_append]
  exact o5
/-- One number put behind a row of them. -/
theorem app_int (w : World) (base : Nat) (v : Value) (xs : List Nat) (x : Nat) (H : OwnI w base v xs) (hn : (xs.length + 1) * 8 ≤ 140737488355328) (hbase : base ≤ w.heap.size) :
    ∃ v' w', (Builtin.append_ #[59, 59] 59 #[v, .slice (some ⟨w.heap.size, 0, none⟩) 1 1]).run Tryd.prog (w.alloc (.cells #[.int .i64 (x : Int)] 3)) = .ok v' w' ∧ OwnI w' base v' (xs ++ [x]) ∧ (w.alloc (.cells #[.int .i64 (x : Int)] 3)).grownBy w' v.ownBlock ∧ (w.alloc (.cells #[.int .i64 (x : Int)] 3)).ownsRow base 3 1 v xs.length (xs.map fun (x : Nat) => Value.int .i64 (x : Int)) := by
  obtain ⟨i0, hi, hz0, hz1, hz2⟩ := info_parts infoI
  have H2 := row_later H (box_below w (.cells #[.int .i64 (x : Int)] 3))
  obtain ⟨v5, W5, r5, o5, g5, _⟩ := run_append_own (P := Tryd.prog) (w.alloc (.cells #[.int .i64 (x : Int)] 3)) base 59 59 3 i0 (.int .i64 0) 1 8 Tryd.underlying59 hi hz0 hz1 hz2 rfl (by decide) v xs.length _ H2 ⟨w.heap.size, 0, none⟩ 1 1 [.int .i64 (x : Int)] rfl (by
    intro j u hu
    match j, hu with
    | 0, hu => simp at hu; subst hu; exact cell_new1 w _ _) (by intro u hu; simp at hu; subst hu; rfl) (by unfold maxLen; omega) (by omega) (by simp; omega)
  refine ⟨v5, W5, r5, ?_, g5, H2⟩
  unfold OwnI
  rw [List.length_append, List.map_append]
  exact o5
theorem OwnI.cell {w : World} {base g c : Nat} {xs : List Nat} (h : OwnI w base (.slice (some ⟨g, 0, none⟩) xs.length c) xs) (i : Nat) (hi : i < xs.length) : w.cell? ⟨g, i, none⟩ = some (.int .i64 ((xs.getD i 0 : Nat) : Int)) := by
  rw [World.ownsRow.cellAt h i (by omega), List.getElem?_map, List.getD_eq_getElem?_getD, List.getElem?_eq_getElem hi]
  rfl
theorem OwnR.cell {w : World} {base g c : Nat} {rs : List Sl} (h : OwnR w base (.slice (some ⟨g, 0, none⟩) rs.length c) rs) (i : Nat) (s : Sl) (hi : rs[i]? = some s) : w.cell? ⟨g, i, none⟩ = some s.v := by
  have hl : i < rs.length := (List.getElem?_eq_some_iff.1 hi).1
  rw [World.ownsRow.cellAt h i (by omega), List.getElem?_map, hi]
  rfl

/-! ### All bytes of a file are bytes -/
theorem flat_bytes (fresh : Nat) : ∀ (n rm : Nat) (first : Bool) (r : List Int), (∀ y ∈ r, 0 ≤ y ∧ y ≤ 255) → ∀ y ∈ flat (pcs fresh n rm first r), 0 ≤ y ∧ y ≤ 255 := by
  intro n
  induction n with
  | zero => intro rm first r _ y hy; simp [pcs, flat] at hy
  | succ n ih =>
    intro rm first r hr y hy
    unfold pcs at hy
    by_cases h : r.length ≤ rm
    · rw [if_pos h, flat_cons, flat_nil, List.append_nil] at hy
      exact pc_bytes _ r (kd_bd _ _) hr y hy
    · rw [if_neg h, flat_cons] at hy
      rcases List.mem_append.1 hy with hy | hy
      · exact pc_bytes _ _ (kd_bd _ _) (fun y hy => hr y (List.mem_of_mem_take hy)) y hy
      · exact ih fresh false (r.drop rm) (fun y hy => hr y (List.mem_of_mem_drop hy)) y hy
theorem add_bytes (b s : Nat) (r : List Int) (hr : ∀ y ∈ r, 0 ≤ y ∧ y ≤ 255) : ∀ y ∈ flat (addc b s r), 0 ≤ y ∧ y ≤ 255 := by
  intro y hy
  rw [flat_addc] at hy
  rcases List.mem_append.1 hy with hy | hy
  · have := (List.mem_replicate.1 hy).2; omega
  · exact flat_bytes _ _ _ _ r hr y hy
theorem lay_bytes (b : Nat) : ∀ (rs : List (List Int)) (a : Nat), (∀ r ∈ rs, ∀ y ∈ r, 0 ≤ y ∧ y ≤ 255) → ∀ y ∈ lay b a rs, 0 ≤ y ∧ y ≤ 255
  | [], _, _, y, hy => by simp [lay] at hy
  | r :: rs, a, h, y, hy => by
    simp only [lay] at hy
    rcases List.mem_append.1 hy with hy | hy
    · exact add_bytes b a r (h r (by simp)) y hy
    · exact lay_bytes b rs _ (fun r' hr' => h r' (by simp [hr'])) y hy
theorem lay_append (b : Nat) : ∀ (rs : List (List Int)) (a : Nat) (r : List Int), lay b a (rs ++ [r]) = lay b a rs ++ flat (addc b (a + (lay b a rs).length) r)
  | [], a, r => by simp [lay]
  | x :: rs, a, r => by
    simp only [List.cons_append, lay, lay_append b rs, List.append_assoc, List.length_append]
    rw [Nat.add_assoc]
theorem endl_append (b : Nat) : ∀ (rs : List (List Int)) (a : Nat) (r : List Int), endl b a (rs ++ [r]) = endl b a rs ++ [a + (lay b a (rs ++ [r])).length]
  | [], a, r => by simp [lay, endl]
  | x :: rs, a, r => by
    simp only [List.cons_append, lay, endl, endl_append b rs, List.length_append]
    rw [Nat.add_assoc]
end Go.Proofs.YtgkoopciajjonaaDoor.Rc

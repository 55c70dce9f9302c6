/- Entries as values, rows of entries that can be read; keyOf and compareEntries of the program. -/
import Derived.Test.YtgjodfaliajlgaaCm
import Derived.Deep.Slices
import Derived.Lib.SmallJoins
namespace Go.Proofs.Ytgjodfaliajlgaa.Ee
open Go.ChangeShapes Go.WideShapes Go.ChangeAt Go.RowKit
open Go.Sort
open Go.Proofs.Ytgjodfaliajlgaa.Ik
open Go.Proofs.Ytgjodfaliajlgaa.Kd
open Go.Proofs.Ytgjodfaliajlgaa.Cm
set_option linter.unusedVariables false

theorem hid {p : Prop} (h : p) : Hid p := h
theorem addr_add (b off n : Nat) : (⟨b, off, none⟩ : Addr).add n = ⟨b, off + n, none⟩ := by
  unfold Addr.add; split <;> simp_all
/-- An entry: key, number, kind, value. -/
structure E where
  k : ByteArray
  s : Int
  c : Int
  v : ByteArray
/-- The entry of no call. -/
def ze : E := ⟨⟨#[]⟩, 0, 0, ⟨#[]⟩⟩
def E.ik (x : E) : IK := Cm.ik x.k x.s x.c
/-- What an entry's parts are bounded by. -/
def E.ok (x : E) : Prop := x.k.size ≤ maxLen ∧ (0 ≤ x.s ∧ x.s ≤ 18446744073709551615) ∧ (-9223372036854775808 ≤ x.c ∧ x.c ≤ 9223372036854775807) ∧ x.v.size ≤ maxLen
/-- An entry lies at a place. -/
def At4 (w : World) (b o : Nat) (x : E) : Prop := w.cell? ⟨b, o, none⟩ = some (.string x.k) ∧ w.cell? ⟨b, o + 1, none⟩ = some (.int .u64 x.s) ∧ w.cell? ⟨b, o + 2, none⟩ = some (.int .i64 x.c) ∧ w.cell? ⟨b, o + 3, none⟩ = some (.string x.v)
theorem At4.later {w w' : World} {b o : Nat} {x : E} (h : At4 w b o x) (hb : Below w.heap.size w w') : At4 w' b o x :=
  ⟨(hb.cell (block_lt_of_cell h.1)).trans h.1, (hb.cell (block_lt_of_cell h.2.1)).trans h.2.1, (hb.cell (block_lt_of_cell h.2.2.1)).trans h.2.2.1, (hb.cell (block_lt_of_cell h.2.2.2)).trans h.2.2.2⟩
/-- A slice of entries that can be read. -/
def Ents (w : World) (a : Option Addr) (len cap : Nat) (xs : List E) : Prop :=
  xs.length = len ∧ len ≤ cap ∧ (a = none → len = 0 ∧ cap = 0) ∧ (∀ x ∈ xs, x.ok) ∧ (∀ b o p, a = some ⟨b, o, p⟩ → 0 < len → p = none ∧ ∀ i, i < len → At4 w b (o + i * 4) (xs.getD i ze))
theorem Ents.later {w w' : World} {a : Option Addr} {len cap : Nat} {xs : List E} (h : Ents w a len cap xs) (hb : Below w.heap.size w w') : Ents w' a len cap xs :=
  ⟨h.1, h.2.1, h.2.2.1, h.2.2.2.1, fun b o p hp hl => ⟨(h.2.2.2.2 b o p hp hl).1, fun i hi => ((h.2.2.2.2 b o p hp hl).2 i hi).later hb⟩⟩

theorem keyOf_any (k : ByteArray) (s c : Int) (v : ByteArray) (w : World) :
    Calls Try.prog 70 #[.agg #[.string k, .int .u64 s, .int .i64 c, .string v]] w fun e w' => e = .returned (.agg #[.string k, .int .u64 s, .int .i64 c]) ∧ Below w.heap.size w w' := by
  go_enter Try.func70, Try.ntmps70
  go_wp2
  exact bodyPost_ret (v := .agg #[.string k, .int .u64 s, .int .i64 c]) (by simp [results, Try.results70, go_sem]) rfl ⟨rfl, ((Below.refl _ _).alloc (Nat.le_refl _) _).alloc (by simp) _⟩
theorem compare_below (a : ByteArray) (s k : Int) (b : ByteArray) (t m : Int) (w : World) :
    Calls Try.prog 32 #[.agg #[.string a, .int .u64 s, .int .i64 k], .agg #[.string b, .int .u64 t, .int .i64 m]] w fun e w' => e = .returned (.int .i64 (cmp (Cm.ik a s k) (Cm.ik b t m))) ∧ Below w.heap.size w w' :=
  (compare_any a s k b t m w).mono fun e w' ⟨he, hw⟩ => ⟨he, hw ▸ two_below ..⟩
set_option maxHeartbeats 1000000 in
theorem entries_any (k : ByteArray) (s c : Int) (v : ByteArray) (k' : ByteArray) (s' c' : Int) (v' : ByteArray) (w : World) :
    Calls Try.prog 55 #[.agg #[.string k, .int .u64 s, .int .i64 c, .string v], .agg #[.string k', .int .u64 s', .int .i64 c', .string v']] w fun e w' => e = .returned (.int .i64 (cmp (Cm.ik k s c) (Cm.ik k' s' c'))) ∧ Below w.heap.size w w' := by
  obtain ⟨W, hW⟩ : ∃ W, W = (w.alloc (.cells #[.string k, .int .u64 s, .int .i64 c, .string v] 43)).alloc (.cells #[.string k', .int .u64 s', .int .i64 c', .string v'] 43) := ⟨_, rfl⟩
  have HB : Hid (Below w.heap.size w W) := by
    rw [hW]; exact ((Below.refl _ _).alloc (Nat.le_refl _) _).alloc (by simp) _
  obtain ⟨g, hg⟩ : ∃ g, g = w.heap.size := ⟨_, rfl⟩
  have c1 : W.cell? ⟨g, 0, none⟩ = some (.string k) := by rw [hW, hg]; go_simp
  have c2 : W.cell? ⟨g, 1, none⟩ = some (.int .u64 s) := by rw [hW, hg]; go_simp
  have c3 : W.cell? ⟨g, 2, none⟩ = some (.int .i64 c) := by rw [hW, hg]; go_simp
  have c4 : W.cell? ⟨g, 3, none⟩ = some (.string v) := by rw [hW, hg]; go_simp
  have c5 : W.cell? ⟨g + 1, 0, none⟩ = some (.string k') := by rw [hW, hg]; go_simp
  have c6 : W.cell? ⟨g + 1, 1, none⟩ = some (.int .u64 s') := by rw [hW, hg]; go_simp
  have c7 : W.cell? ⟨g + 1, 2, none⟩ = some (.int .i64 c') := by rw [hW, hg]; go_simp
  have c8 : W.cell? ⟨g + 1, 3, none⟩ = some (.string v') := by rw [hW, hg]; go_simp
  have d1 := fun d os => cell_regrown c1 d os
  have d2 := fun d os => cell_regrown c2 d os
  have d3 := fun d os => cell_regrown c3 d os
  have d4 := fun d os => cell_regrown c4 d os
  have d5 := fun d os => cell_regrown c5 d os
  have d6 := fun d os => cell_regrown c6 d os
  have d7 := fun d os => cell_regrown c7 d os
  have d8 := fun d os => cell_regrown c8 d os
  have HW : Hid (W = (w.alloc (.cells #[.string k, .int .u64 s, .int .i64 c, .string v] 43)).alloc (.cells #[.string k', .int .u64 s', .int .i64 c', .string v'] 43)) := hW
  have HG : Hid (g = w.heap.size) := hg
  clear hW hg
  go_enter Try.func55, Try.ntmps55
  go_wp2_with fail
  rw [← HW.out, ← HG.out]
  refine wp_region_quiet_below (by kernel_rfl) (by kernel_rfl) ?_
  repeat (quiet_step (first | (go_at_call 70; exact Calls.regrown_of (keyOf_any _ _ _ _ _)) | (go_at_call 32; exact Calls.regrown_of (compare_below _ _ _ _ _ _ _))))
  refine wpQuiet_nil ?_
  intro _ hw'
  obtain ⟨⟨dq, osq⟩, hw''⟩ := hw'
  subst hw''
  have HB1 : Hid (Below w.heap.size w (grow (redrawn W dq) osq)) := HB.out.trans ((below_regrown W dq osq).mono HB.out.size)
  go_wp2_with fail
  go_ret
  exact ⟨rfl, HB1.out⟩
end Go.Proofs.Ytgjodfaliajlgaa.Ee

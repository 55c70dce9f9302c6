/- JournalWrites walked. -/
import Derived.Test.YtgkoopciajjonaaDoorRa
import Derived.Test.YtgkoopciajjonaaDoorSp
import Derived.Test.YtgkoopciajjonaaDoorWb
import Derived.Test.YtgkoopciajjonaaDoorWn
import Derived.BigQuiet
import Derived.Lib.QuietBelow
namespace Go.Proofs.YtgkoopciajjonaaDoor.Wj
open Go.ChangeShapes Go.WideShapes Go.ChangeAt Go.RowKit
open Go.Proofs.YtgkoopciajjonaaDoor.Crc
open Go.Proofs.YtgkoopciajjonaaDoor.Jm
open Go.Proofs.YtgkoopciajjonaaDoor.Jn
open Go.Proofs.YtgkoopciajjonaaDoor.Ck
open Go.Proofs.YtgkoopciajjonaaDoor.Wt
open Go.Proofs.YtgkoopciajjonaaDoor.Wc
open Go.Proofs.YtgkoopciajjonaaDoor.Wa
open Go.Proofs.YtgkoopciajjonaaDoor.Rc
open Go.Proofs.YtgkoopciajjonaaDoor.Wn
set_option linter.unusedVariables false
set_option linter.unusedSimpArgs false

theorem own_conv {w : World} {base : Nat} {v : Value} {xs : List Int} (h : Own w base v xs) : Sem.run Tryd.prog (convert 31 9 v) w = .ok (.string (str xs)) w := by
  rcases h.2 with ⟨e, e0⟩ | ⟨g, c, cur, e, hr⟩
  · have : xs = [] := List.eq_nil_of_length_eq_zero e0
    subst this
    rw [e]
    exact (nil_bytes w).conv
  · subst e
    exact Row.conv (g := g) h
theorem str_size (zs : List Int) : (str zs).size = zs.length := by
  have h : ∀ (l : List Int) (r : ByteArray), (l.foldl (fun r n => r.push (UInt8.ofNat n.toNat)) r).size = r.size + l.length := by
    intro l
    induction l with
    | nil => intro r; simp
    | cons x t ih => intro r; rw [List.foldl_cons, ih]; simp [ByteArray.size_push]; omega
  have := h zs ByteArray.empty
  simpa [str] using this
theorem cell_three (w : World) (a b c : Value) (t : TypeId) (i : Nat) (v : Value) (h : #[a, b, c][i]? = some v) : (w.alloc (.cells #[a, b, c] t)).cell? ⟨w.heap.size, i, none⟩ = some v := by
  have hb : (w.alloc (.cells #[a, b, c] t)).heap[w.heap.size]? = some (.cells #[a, b, c] t) := by
    show (w.heap.push _)[w.heap.size]? = _
    simp
  unfold World.cell?
  simp only [hb]
  first | exact h | simpa using h
/-- What a record of n bytes would cost; 0: no such record. -/
def cn (b s : Nat) (n : Int) : Int := if 0 ≤ n ∧ n ≤ 2097152 then (cst b s n.toNat : Int) else 0
theorem costn (g b s : Nat) (n : Int) (w : World) (H : Wr w g b s) (hb : 32 ≤ b ∧ b ≤ 32768) (hs : s ≤ 9223372036854775807) : Calls Tryd.prog 13 #[.pointer (some ⟨g, 0, none⟩), .int .i64 n] w fun e w' => e = .returned (.int .i64 (cn b s n)) ∧ Below w.heap.size w w' := by
  unfold cn
  by_cases h : 0 ≤ n ∧ n ≤ 2097152
  · obtain ⟨m, rfl⟩ := Int.eq_ofNat_of_zero_le h.1
    rw [if_pos h]
    exact cost_ok g b s m w H hb hs (by omega)
  · rw [if_neg h]
    refine (cost_no g b s n w H hb (by omega)).mono ?_
    rintro e w' ⟨rfl, rfl⟩
    exact ⟨rfl, Below.refl _ _⟩
theorem rcostn (b s : Nat) (n : Int) (w : World) (hb : 32 ≤ b ∧ b ≤ 32768) (hs : s ≤ 9223372036854775807) : Calls Tryd.prog 14 #[.int .i64 b, .int .i64 s, .int .i64 n] w fun e w' => e = .returned (.int .i64 (cn b s n)) ∧ Below w.heap.size w w' := by
  unfold cn
  by_cases h : 0 ≤ n ∧ n ≤ 2097152
  · obtain ⟨m, rfl⟩ := Int.eq_ofNat_of_zero_le h.1
    rw [if_pos h]
    refine (Ra.rcost_ok b s m w hb hs (by omega)).mono ?_
    rintro e w' ⟨rfl, rfl⟩
    exact ⟨rfl, Below.refl _ _⟩
  · rw [if_neg h]
    refine (Ra.rcost_no b s n w (by omega)).mono ?_
    rintro e w' ⟨rfl, rfl⟩
    exact ⟨rfl, Below.refl _ _⟩
set_option maxHeartbeats 1000000 in
set_option maxRecDepth 100000 in
theorem writes_big (b s n : Int) (a : Option Addr) (len cap : Nat) (w : World) (h : 4611686018427387904 < s) :
    Calls Tryd.prog 3 #[.agg #[.int .i64 b, .int .i64 s, .slice a len cap], .int .i64 n] w fun e w' => e = .returned (.bool true) ∧ Below w.heap.size w w' := by
  have b1 := box_below w (.cells #[.int .i64 b, .int .i64 s, .slice a len cap] 24)
  have p0 := cell_three w (.int .i64 b) (.int .i64 s) (.slice a len cap) 24 0 _ rfl
  have p1 := cell_three w (.int .i64 b) (.int .i64 s) (.slice a len cap) 24 1 _ rfl
  have p2 := cell_three w (.int .i64 b) (.int .i64 s) (.slice a len cap) 24 2 _ rfl
  go_enter Tryd.func3, Tryd.ntmps3
  go_wp2_with fail
  go_quiet (fail)
  go_wp2_with fail
  go_ret
  exact ⟨rfl, below_drewN b1 _⟩
set_option maxHeartbeats 1000000 in
set_option maxRecDepth 100000 in
theorem writes_no (b s n : Int) (a : Option Addr) (len cap : Nat) (w : World) (h : s ≤ 4611686018427387904) (hn : (decide (32 ≤ b) && decide (b ≤ 32768)) = false ∨ s < 0) :
    Calls Tryd.prog 3 #[.agg #[.int .i64 b, .int .i64 s, .slice a len cap], .int .i64 n] w fun e w' => e = .returned (.bool true) ∧ Below w.heap.size w w' := by
  have b1 := box_below w (.cells #[.int .i64 b, .int .i64 s, .slice a len cap] 24)
  have p0 := cell_three w (.int .i64 b) (.int .i64 s) (.slice a len cap) 24 0 _ rfl
  have p1 := cell_three w (.int .i64 b) (.int .i64 s) (.slice a len cap) 24 1 _ rfl
  have p2 := cell_three w (.int .i64 b) (.int .i64 s) (.slice a len cap) 24 2 _ rfl
  have h1 : ¬ (4611686018427387904 : Int) < s := by omega
  have HN := hid (fun W => new_no b s W hn)
  cases hv : (decide (32 ≤ b) && decide (b ≤ 32768)) with
  | false =>
    have HB := hid (fun W => Ra.rblock_any b W)
    rw [hv] at HB
    clear hv hn
    go_enter Tryd.func3, Tryd.ntmps3
    go_wp2_with fail
    go_quiet (fail)
    go_wp2_with fail
    refine (HN.out _).mono ?_
    rintro e w' ⟨rfl, rfl⟩
    go_wp2_with fail
    refine (HB.out _).mono ?_
    rintro e w' ⟨rfl, rfl⟩
    go_wp2_with fail
    refine (Ln.names_any _).mono ?_
    rintro e w' ⟨rfl, rfl⟩
    go_wp2_with fail
    go_ret
    exact ⟨rfl, below_drewN b1 _⟩
  | true =>
    have hs0 : s < 0 := by simpa [hv] using hn
    have HB := hid (fun W => Ra.rblock_any b W)
    rw [hv] at HB
    clear hv hn
    go_enter Tryd.func3, Tryd.ntmps3
    go_wp2_with fail
    go_quiet (fail)
    go_wp2_with fail
    refine (HN.out _).mono ?_
    rintro e w' ⟨rfl, rfl⟩
    go_wp2_with fail
    refine (HB.out _).mono ?_
    rintro e w' ⟨rfl, rfl⟩
    go_wp2_with fail
    refine (Ln.names_any _).mono ?_
    rintro e w' ⟨rfl, rfl⟩
    go_wp2_with fail
    go_ret
    exact ⟨rfl, below_drewN b1 _⟩
end Go.Proofs.YtgkoopciajjonaaDoor.Wj

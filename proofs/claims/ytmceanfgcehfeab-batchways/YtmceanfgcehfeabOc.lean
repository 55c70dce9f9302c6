/- Rows of operations of the call's own; the law's copied, same, stay and names. -/
import Derived.Test.YtmceanfgcehfeabCk
import Derived.Test.YtmceanfgcehfeabBy
import Derived.OwnWalk
import Derived.Laws.AppendOwnNone
namespace Go.Proofs.Ytmceanfgcehfeab.Ob
open Go.ChangeShapes Go.WideShapes Go.ChangeAt Go.RowKit
open Go.Proofs.Ytmceanfgcehfeab.By (ret_int)
set_option linter.unusedVariables false

theorem infoOp : (Try.prog.info? 60).map (fun i => (i.zero, i.size, i.bytes)) = some (some (.agg #[.int .i64 0, .string ⟨#[]⟩, .string ⟨#[]⟩]), 3, 40) := by kernel_rfl
/-- The cells of operations, one behind the other. -/
def oc (x : O) : List Value := [.int .i64 x.c, .string x.k, .string x.v]
def ocs : List O → List Value
  | [] => []
  | x :: r => oc x ++ ocs r
theorem ocs_len : ∀ xs, (ocs xs).length = xs.length * 3
  | [] => rfl
  | x :: r => by simp [ocs, oc, ocs_len r]; omega
theorem ocs_append : ∀ xs ys, ocs (xs ++ ys) = ocs xs ++ ocs ys
  | [], ys => rfl
  | x :: r, ys => by simp [ocs, ocs_append r ys]
theorem ocs_one (xs : List O) : ∀ u ∈ ocs xs, u.oneCell' = true := by
  induction xs with
  | nil => intro u h; simp [ocs] at h
  | cons x r ih =>
    intro u h
    rcases List.mem_append.1 h with h | h
    · simp [oc] at h; rcases h with rfl | rfl | rfl <;> rfl
    · exact ih u h
theorem ocs_get : ∀ (xs : List O) (i : Nat), i < xs.length → (ocs xs)[i * 3]? = some (.int .i64 (xs.getD i zo).c) ∧ (ocs xs)[i * 3 + 1]? = some (.string (xs.getD i zo).k) ∧ (ocs xs)[i * 3 + 2]? = some (.string (xs.getD i zo).v)
  | [], i, h => by simp at h
  | x :: r, 0, h => by simp [ocs, oc]
  | x :: r, i + 1, h => by
    have := ocs_get r i (by simpa using h)
    rw [show (i + 1) * 3 = i * 3 + 3 from by omega]
    simpa [ocs, oc] using this
theorem ocs_take : ∀ (xs : List O) (m : Nat), (ocs xs).take (m * 3) = ocs (xs.take m)
  | [], m => by simp [ocs]
  | x :: r, 0 => by simp [ocs]
  | x :: r, m + 1 => by
    rw [show (m + 1) * 3 = m * 3 + 3 from by omega]
    simp [ocs, oc, ocs_take r m]
theorem Ops.cells {w : World} {ad : Addr} {len cap : Nat} {xs : List O} (h : Ops w (some ad) len cap xs) : ∀ j u, (ocs xs)[j]? = some u → w.cell? (ad.add j) = some u := by
  intro j u hu
  have hj := (List.getElem?_eq_some_iff.1 hu).1
  rw [ocs_len, h.1] at hj
  obtain ⟨b, o, p⟩ := ad
  obtain ⟨rfl, hat⟩ := h.2.2.2.2 b o p rfl (by omega)
  obtain ⟨i, r, hr, rfl⟩ : ∃ i r, r < 3 ∧ j = i * 3 + r := ⟨j / 3, j % 3, by omega, by omega⟩
  have hi : i < len := by omega
  obtain ⟨c0, c1, c2⟩ := hat i hi
  obtain ⟨g0, g1, g2⟩ := ocs_get xs i (by rw [h.1]; exact hi)
  rw [addr_add]
  match r, hr with
  | 0, _ => rw [Nat.add_zero] at hu ⊢; rw [g0] at hu; rw [c0, ← hu]
  | 1, _ => rw [g1] at hu; rw [← Nat.add_assoc, c1, ← hu]
  | 2, _ => rw [g2] at hu; rw [← Nat.add_assoc, c2, ← hu]
/-- A row of operations of the call's own. -/
def ORow (w : World) (base g n cap : Nat) (xs : List O) : Prop := w.ownsRow base 60 3 (.slice (some ⟨g, 0, none⟩) n cap) n (ocs xs)
theorem ORow.len {w : World} {base g n cap : Nat} {xs : List O} (h : ORow w base g n cap xs) : xs.length = n := by
  have := h.1; rw [ocs_len] at this; omega
theorem ORow.lt {w : World} {base g n cap : Nat} {xs : List O} (h : ORow w base g n cap xs) : base ≤ g ∧ g < w.heap.size := World.ownsRow.lt h g rfl
theorem ORow.le {w : World} {base g n cap : Nat} {xs : List O} (h : ORow w base g n cap xs) : n ≤ cap := by
  rcases h.2 with ⟨e, _⟩ | ⟨g', cap', cur, e, hb, hg, hn, hm, hs, ht⟩
  · simp at e
  · simp at e; omega
theorem ORow.at {w : World} {base g n cap : Nat} {xs : List O} (h : ORow w base g n cap xs) (i : Nat) (hi : i < n) : At3 w g (i * 3) (xs.getD i zo) := by
  have hl := h.len
  obtain ⟨g0, g1, g2⟩ := ocs_get xs i (by omega)
  have hc := World.ownsRow.cells h (g := g) rfl
  have e0 := hc _ _ g0
  have e1 := hc _ _ g1
  have e2 := hc _ _ g2
  rw [addr_add, Nat.zero_add] at e0 e1 e2
  exact ⟨e0, e1, e2⟩
theorem ORow.ops {w : World} {base g n cap : Nat} {xs : List O} (h : ORow w base g n cap xs) (hok : ∀ x ∈ xs, x.ok) : Ops w (some ⟨g, 0, none⟩) n cap xs :=
  ⟨h.len, h.le, fun e => by simp at e, hok, fun b o p hp _ => by
    simp at hp; obtain ⟨rfl, rfl, rfl⟩ := hp
    exact ⟨rfl, fun i hi => by rw [Nat.zero_add]; exact h.at i hi⟩⟩
theorem Ops.take {w : World} {a : Option Addr} {len cap : Nat} {xs : List O} (h : Ops w a len cap xs) (m : Nat) (hm : m ≤ len) (ha : a = none → m = 0) : Ops w a m cap (xs.take m) := by
  refine ⟨by rw [List.length_take, h.1]; omega, by have := h.2.1; omega, fun e => ⟨ha e, (h.2.2.1 e).2⟩, fun x hx => h.2.2.2.1 x (List.mem_of_mem_take hx), fun b o p hp h0 => ?_⟩
  have := h.2.2.2.2 b o p hp (by omega)
  refine ⟨this.1, fun i hi => ?_⟩
  have e : (xs.take m).getD i zo = xs.getD i zo := by simp [List.getD_eq_getElem?_getD, hi]
  rw [e]
  exact this.2 i (by omega)
theorem ORow.later {w w' : World} {base g n cap : Nat} {xs : List O} (h : ORow w base g n cap xs) (b : Below w.heap.size w w') : ORow w' base g n cap xs := by
  have hl := h.lt
  refine ⟨h.1, ?_⟩
  rcases h.2 with ⟨e, h0⟩ | ⟨g', cap', cur, e, hb, hg, hr⟩
  · exact .inl ⟨e, h0⟩
  · simp only [Value.slice.injEq, Option.some.injEq, Addr.mk.injEq, and_true, true_and] at e
    obtain ⟨rfl, rfl⟩ := e
    exact .inr ⟨g, cap, cur, rfl, hb, by rw [b.block g hl.2]; exact hg, hr⟩

/-- The operation that the law lays behind. -/
def mark : O := ⟨77, ⟨#[]⟩, ⟨#[]⟩⟩
theorem names_any (w : World) : Calls Try.prog 9 #[] w fun e w' => e = .returned (.bool true) ∧ w' = w := by
  go_enter Try.func9, Try.ntmps9
  go_wp2
  go_ret
  exact ⟨rfl, rfl⟩
set_option maxHeartbeats 1000000 in
theorem same_any (a a' : Option Addr) (len cap cap' : Nat) (xs : List O) (w : World) (H : Ops w a len cap xs) (H' : Ops w a' len cap' xs) (hl : len ≤ 140737488351232) :
    Calls Try.prog 22 #[.slice a len cap, .slice a' len cap'] w fun e w' => e = .returned (.bool true) ∧ ∃ n, w' = w.drewN n := by
  have HH := hid H
  have HH' := hid H'
  clear H H'
  have t0 : ((len : Int) != (len : Int)) = false := bne_self_eq_false _
  go_enter Try.func22, Try.ntmps22
  go_wp2_with fail
  go_loopw [5] (fun i wr => ∃ k : Nat, i = .int .i64 k ∧ k ≤ len ∧ ∃ n, wr = w.drewN n) (fun i _ => len - (intOf i).toNat)
  case atStart => exact ⟨0, rfl, by omega, 0, rfl⟩
  case round =>
    obtain ⟨k, rfl, hk, n, rfl⟩ := hrel
    by_cases hlt : k < len
    · cases a with
      | none => have := (HH.out.2.2.1 rfl).1; omega
      | some ad =>
        cases a' with
        | none => have := (HH'.out.2.2.1 rfl).1; omega
        | some ad' =>
          obtain ⟨b, off, sp⟩ := ad
          obtain ⟨b', off', sp'⟩ := ad'
          obtain ⟨rfl, hat⟩ := HH.out.2.2.2.2 b off sp rfl (by omega)
          obtain ⟨rfl, hat'⟩ := HH'.out.2.2.2.2 b' off' sp' rfl (by omega)
          have hat := hat k hlt
          have hat' := hat' k hlt
          generalize xs.getD k zo = x at hat hat'
          obtain ⟨xc, xk, xv⟩ := x
          obtain ⟨a1, a2, a3⟩ := hat
          obtain ⟨c1, c2, c3⟩ := hat'
          simp only at a1 a2 a3 c1 c2 c3
          have ik0 : (k : Int) < (len : Int) := by omega
          have ok0 : (0 : Int) ≤ (k : Int) := by omega
          have hlc := HH.out.2.1
          have hlc' := HH'.out.2.1
          go_wp2_with fail
          go_quiet (fail)
          go_wp2_with fail
          go_roundw
          case rel => exact ⟨k + 1, by go_num, by omega, n + nq, rfl⟩
          case measure => simp [intOf]; omega
    · go_wp2_with fail
      go_ret
      exact ⟨rfl, n, rfl⟩
end Go.Proofs.Ytmceanfgcehfeab.Ob

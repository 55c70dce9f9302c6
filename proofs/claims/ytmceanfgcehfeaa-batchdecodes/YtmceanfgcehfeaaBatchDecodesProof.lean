/- Proved: for all bytes BatchDecodes returns true: Decode and Head of the program tell what the document's definition tells, in new memory, and what was handed in stays as it was. -/
import Derived.Test.YtmceanfgcehfeaaRx
import Derived.Test.YtmceanfgcehfeaaLk
import Derived.ShutString
import Derived.ChangeOld
import Derived.Below
import Derived.SizedLaws
import Derived.Deep.RegionWith
import Derived.Lib.SmallJoins
namespace Go.Proofs.Ytmceanfgcehfeaa.batchDecodes
open Go.Proofs.Ytmceanfgcehfeaa
open Go.Proofs.Ytmceanfgcehfeaa.Ob
open Go.Proofs.Ytmceanfgcehfeaa.By (Row Bytes nil_bytes row_below lb bytes_kept lent_any kept_any lent_bytes)
open Go.Proofs.Ytmceanfgcehfeaa.De
open Go.Proofs.Ytmceanfgcehfeaa.Hd
open Go.Proofs.Ytmceanfgcehfeaa.Rt
open Go.Proofs.Ytmceanfgcehfeaa.Pu
open Go.ChangeShapes Go.WideShapes Go.ChangeAt Go.RowKit Go.Joins
open Go.ChangeMaps (open_string shut_string)
set_option linter.unusedVariables false

theorem Row.up {w : World} {base g n c : Nat} {xs : List Int} (h : Row w base g n c xs) (k : Nat) (y : Int) : Row (w.setCell ⟨g, k, none⟩ (.int .u8 y)) base g n c (xs.set k y) ∧ w.grownBy (w.setCell ⟨g, k, none⟩ (.int .u8 y)) (some g) := by
  have := World.ownsRow.stored h k (.int .u8 y)
  unfold Row
  rw [List.map_set]
  exact this
theorem ops_nil (w : World) {a : Option Addr} {c : Nat} (h : a = none → c = 0) : Ops w a 0 c [] := ⟨rfl, Nat.zero_le _, fun e => ⟨rfl, h e⟩, fun x hx => by simp at hx, fun b o p _ h => by omega⟩
set_option maxRecDepth 100000 in
set_option maxHeartbeats 8000000 in
theorem walk_nil (a : Option Addr) (len cap : Nat) (zs : List Int) (w : World) (H : Bytes w a len cap zs) (hl : cap ≤ 140737488351232) (S E h1 h2 h3 : Int)
    (F1 : Hid (∀ a len cap w, len ≤ 140737488351232 → Bytes w a len cap zs → Calls Try.prog 19 #[.slice a len cap] w fun e w' => ∃ (a' : Option Addr) (c' : Nat), e = .returned (.tuple #[.int .u64 S, .slice a' 0 c', .int .i64 E]) ∧ (a' = none → c' = 0) ∧ Below w.heap.size w w'))
    (F2 : Hid (∀ a len cap w, len ≤ 140737488351232 → Bytes w a len cap zs → Calls Try.prog 20 #[.slice a len cap] w fun e w' => ∃ (a' : Option Addr) (c' : Nat), e = .returned (.tuple #[.int .u64 S, .slice a' 0 c', .int .i64 E]) ∧ (a' = none → c' = 0) ∧ Below w.heap.size w w'))
    (F3 : Hid (∀ a len cap w, len ≤ 140737488351232 → Bytes w a len cap zs → Calls Try.prog 21 #[.slice a len cap] w fun e w' => e = .returned (.tuple #[.int .u64 h1, .int .i64 h2, .int .i64 h3]) ∧ w' = w))
    (F4 : Hid (∀ a len cap w, len ≤ 140737488351232 → Bytes w a len cap zs → Calls Try.prog 22 #[.slice a len cap] w fun e w' => e = .returned (.tuple #[.int .u64 h1, .int .i64 h2, .int .i64 h3]) ∧ w' = w)) :
    Calls Try.prog 5 #[.slice a len cap] w fun e w' => e = .returned (.bool true) ∧ Below w.heap.size w w' := by
  have hlen := H.2.1
  have hzl := H.1
  have HB := hid H.2.2.2.1
  have HH := hid H
  clear H
  have n1 : (S != S) = false := bne_self_eq_false _
  have n2 : (E != E) = false := bne_self_eq_false _
  have n3 : (h1 != h1) = false := bne_self_eq_false _
  have n4 : (h2 != h2) = false := bne_self_eq_false _
  have n5 : (h3 != h3) = false := bne_self_eq_false _
  go_enter Try.func5, Try.ntmps5
  go_wp2_with fail
  refine (lent_any a len cap zs w HH.out (by omega)).mono ?_
  rintro e w1 ⟨g, c, rfl, R1, b1⟩
  have HR := hid R1
  have HB1 := hid b1
  have hgl := R1.lt
  clear R1 b1
  go_wp2_with fail
  refine (F1.out (some ⟨g, 0, none⟩) len c w1 (by omega) (lent_bytes HR.out HB.out)).mono ?_
  rintro e w2 ⟨a1, c1, rfl, e1, b2⟩
  have HB2 : Hid (Below w.heap.size w w2) := HB1.out.trans (b2.mono HB1.out.size)
  have HR := hid (row_below HR.out b2)
  have e1 := hid e1
  have s12 := b2.size
  clear HB1 b2
  go_wp2_with fail
  refine (F1.out (some ⟨g, 0, none⟩) len c w2 (by omega) (lent_bytes HR.out HB.out)).mono ?_
  rintro e w3 ⟨a2, c2, rfl, e2, b3⟩
  have HB3 : Hid (Below w.heap.size w w3) := HB2.out.trans (b3.mono HB2.out.size)
  have HR := hid (row_below HR.out b3)
  have e2 := hid e2
  have s23 := b3.size
  clear HB2 b3
  go_wp2_with fail
  refine (F2.out a len cap w3 (by omega) (bytes_kept HH.out HB3.out)).mono ?_
  rintro e w4 ⟨a3, c3, rfl, e3, b4⟩
  have HB4 : Hid (Below w.heap.size w w4) := HB3.out.trans (b4.mono HB3.out.size)
  have HR := hid (row_below HR.out b4)
  have e3 := hid e3
  have s34 := b4.size
  clear HB3 b4
  go_wp2_with fail
  refine (F3.out (some ⟨g, 0, none⟩) len c w4 (by omega) (lent_bytes HR.out HB.out)).mono ?_
  rintro e w' ⟨rfl, rfl⟩
  go_wp2_with fail
  refine (F4.out a len cap w' (by omega) (bytes_kept HH.out HB4.out)).mono ?_
  rintro e w4 ⟨rfl, rfl⟩
  go_wp2_with fail
  refine (same_any a1 a3 0 c1 c3 [] w4 (ops_nil _ e1.out) (ops_nil _ e3.out) (by omega)).mono ?_
  rintro e w5 ⟨rfl, n, rfl⟩
  have dn : Below w4.heap.size w4 (w4.drewN n) := below_drewN (Below.refl _ _) n
  have HB5 : Hid (Below w.heap.size w (w4.drewN n)) := below_drewN HB4.out n
  have HR := hid (row_below HR.out dn)
  generalize w4.drewN n = w5 at HB5 HR
  clear dn HB4
  go_wp2_with fail
  refine (kept_any _ g c a len cap zs w5 HR.out (bytes_kept HH.out HB5.out) (by omega)).mono ?_
  rintro e w' ⟨rfl, rfl⟩
  go_wp2_with fail
  refine (names_any _).mono ?_
  rintro e w6 ⟨rfl, rfl⟩
  go_wp2_with fail
  go_loopw [19] (fun i wr => ∃ k : Nat, ∃ ys : List Int, i = .int .i64 k ∧ k ≤ len ∧ Hid (Row wr w.heap.size g (len + 1) c ys) ∧ Hid (Below w.heap.size w wr)) (fun i _ => len - (intOf i).toNat)
  case atStart => exact ⟨0, _, rfl, by omega, HR, HB5⟩
  case round =>
    obtain ⟨k, ys, rfl, hk, r2, hbel⟩ := hrel
    clear HR HB5
    by_cases hlt : k < len
    · have q0 := r2.out.cell k (by omega)
      have ik0 : (k : Int) < (len : Int) := by omega
      have z0 : wr.frozen? ⟨g, k, none⟩ = false := World.ownsRow.frozenAt r2.out k
      have hlc : len + 1 ≤ c := (By.full r2.out).choose_spec.2.2
      generalize ys.getD k 0 = y at q0
      have HN2 : Hid (∀ v, Row (wr.setCell ⟨g, k, none⟩ (.int .u8 v)) w.heap.size g (len + 1) c (ys.set k v)) := fun v => (Row.up r2.out k v).1
      clear r2
      go_wp2_with fail
      go_roundw
      case rel => exact ⟨k + 1, _, by go_num, by omega, HN2.out _, hbel.out.setCell hgl.1 _⟩
      case measure => simp [intOf]; omega
    · go_wp2_with fail
      refine (same_any a1 a3 0 c1 c3 [] wr (ops_nil _ e1.out) (ops_nil _ e3.out) (by omega)).mono ?_
      rintro e w7 ⟨rfl, m, rfl⟩
      have HB7 : Hid (Below w.heap.size w (wr.drewN m)) := below_drewN hbel.out m
      generalize wr.drewN m = w7 at HB7
      go_wp2_with fail
      go_loopw [20] (fun i wz => i = .int .i64 0 ∧ wz = w7) (fun i _ => 0)
      case atStart => exact ⟨rfl, rfl⟩
      case round =>
        obtain ⟨rfl, rfl⟩ := hrel
        go_wp2_with fail
        refine (same_any a2 a3 0 c2 c3 [] _ (ops_nil _ e2.out) (ops_nil _ e3.out) (by omega)).mono ?_
        rintro e w8 ⟨rfl, m2, rfl⟩
        go_wp2_with fail
        go_ret
        exact ⟨rfl, below_drewN HB7.out m2⟩
theorem row_at {w : World} {base : Nat} {v : Value} {xs : List O} (h : w.ownsRow base 50 3 v xs.length (ocs xs)) (hne : xs.length ≠ 0) : ∃ g c, v = .slice (some ⟨g, 0, none⟩) xs.length c ∧ ORow w base g xs.length c xs := by
  rcases h.2 with ⟨e, h0⟩ | ⟨g, c, _, e, _⟩
  · exact absurd h0 hne
  · subst e; exact ⟨g, c, rfl, h⟩
theorem ORow.other {w : World} {base g n c : Nat} {xs : List O} (h : ORow w base g n c xs) (g' k : Nat) (v : Value) (hne : g ≠ g') : ORow (w.setCell ⟨g', k, none⟩ v) base g n c xs := by
  refine World.ownsRow.kept (row := some g') h ⟨rfl, rfl, rfl, by simp, fun j _ hj => Below.heap_setCell w _ _ j (fun e => hj (by rw [e]))⟩ (.inr ?_)
  simp [Value.ownBlock]; exact hne
set_option maxRecDepth 100000 in
set_option maxHeartbeats 8000000 in
theorem walk_val (a : Option Addr) (len cap : Nat) (zs : List Int) (w : World) (H : Bytes w a len cap zs) (hl : cap ≤ 140737488351232) (S E h1 h2 h3 : Int) (xs : List O) (hne : xs.length ≠ 0) (hxl : xs.length ≤ 4096) (hok : ∀ x ∈ xs, x.ok)
    (F1 : Hid (∀ a len cap w, len ≤ 140737488351232 → Bytes w a len cap zs → Calls Try.prog 19 #[.slice a len cap] w fun e w' => ∃ v, e = .returned (.tuple #[.int .u64 S, v, .int .i64 E]) ∧ w'.ownsRow w.heap.size 50 3 v xs.length (ocs xs) ∧ Below w.heap.size w w'))
    (F2 : Hid (∀ a len cap w, len ≤ 140737488351232 → Bytes w a len cap zs → Calls Try.prog 20 #[.slice a len cap] w fun e w' => ∃ v, e = .returned (.tuple #[.int .u64 S, v, .int .i64 E]) ∧ w'.ownsRow w.heap.size 50 3 v xs.length (ocs xs) ∧ Below w.heap.size w w'))
    (F3 : Hid (∀ a len cap w, len ≤ 140737488351232 → Bytes w a len cap zs → Calls Try.prog 21 #[.slice a len cap] w fun e w' => e = .returned (.tuple #[.int .u64 h1, .int .i64 h2, .int .i64 h3]) ∧ w' = w))
    (F4 : Hid (∀ a len cap w, len ≤ 140737488351232 → Bytes w a len cap zs → Calls Try.prog 22 #[.slice a len cap] w fun e w' => e = .returned (.tuple #[.int .u64 h1, .int .i64 h2, .int .i64 h3]) ∧ w' = w)) :
    Calls Try.prog 5 #[.slice a len cap] w fun e w' => e = .returned (.bool true) ∧ Below w.heap.size w w' := by
  have hne := hid hne
  have hok := hid hok
  have hlen := H.2.1
  have hzl := H.1
  have HB := hid H.2.2.2.1
  have HH := hid H
  clear H
  have n1 : (S != S) = false := bne_self_eq_false _
  have n2 : (E != E) = false := bne_self_eq_false _
  have n3 : (h1 != h1) = false := bne_self_eq_false _
  have n4 : (h2 != h2) = false := bne_self_eq_false _
  have n5 : (h3 != h3) = false := bne_self_eq_false _
  go_enter Try.func5, Try.ntmps5
  go_wp2_with fail
  refine (lent_any a len cap zs w HH.out (by omega)).mono ?_
  rintro e w1 ⟨g, c, rfl, R1, b1⟩
  have HR := hid R1
  have HB1 := hid b1
  have hgl := R1.lt
  clear R1 b1
  go_wp2_with fail
  refine (F1.out (some ⟨g, 0, none⟩) len c w1 (by omega) (lent_bytes HR.out HB.out)).mono ?_
  rintro e w2 ⟨v1, rfl, Q1, b2⟩
  have HB2 : Hid (Below w.heap.size w w2) := HB1.out.trans (b2.mono HB1.out.size)
  have HR := hid (row_below HR.out b2)
  obtain ⟨g1, c1, hv1, T1⟩ := row_at Q1 hne.out
  subst hv1
  have l1 := T1.lt
  have HQ1 := hid T1
  clear Q1 T1
  have s12 := b2.size
  clear HB1 b2
  go_wp2_with fail
  refine (F1.out (some ⟨g, 0, none⟩) len c w2 (by omega) (lent_bytes HR.out HB.out)).mono ?_
  rintro e w3 ⟨v2, rfl, Q2, b3⟩
  have HB3 : Hid (Below w.heap.size w w3) := HB2.out.trans (b3.mono HB2.out.size)
  have HR := hid (row_below HR.out b3)
  obtain ⟨g2, c2, hv2, T2⟩ := row_at Q2 hne.out
  subst hv2
  have l2 := T2.lt
  have HQ2 := hid T2
  clear Q2 T2
  have HQ1 := hid (HQ1.out.later b3)
  have s23 := b3.size
  clear HB2 b3
  go_wp2_with fail
  refine (F2.out a len cap w3 (by omega) (bytes_kept HH.out HB3.out)).mono ?_
  rintro e w4 ⟨v3, rfl, Q3, b4⟩
  have HB4 : Hid (Below w.heap.size w w4) := HB3.out.trans (b4.mono HB3.out.size)
  have HR := hid (row_below HR.out b4)
  obtain ⟨g3, c3, hv3, T3⟩ := row_at Q3 hne.out
  subst hv3
  have l3 := T3.lt
  have HQ3 := hid T3
  clear Q3 T3
  have HQ1 := hid (HQ1.out.later b4)
  have HQ2 := hid (HQ2.out.later b4)
  have s34 := b4.size
  clear HB3 b4
  go_wp2_with fail
  refine (F3.out (some ⟨g, 0, none⟩) len c w4 (by omega) (lent_bytes HR.out HB.out)).mono ?_
  rintro e w' ⟨rfl, rfl⟩
  go_wp2_with fail
  refine (F4.out a len cap w' (by omega) (bytes_kept HH.out HB4.out)).mono ?_
  rintro e w4 ⟨rfl, rfl⟩
  generalize hX : xs.length = X at *
  go_wp2_with fail
  refine (same_any (some ⟨g1, 0, none⟩) (some ⟨g3, 0, none⟩) X c1 c3 xs w4 (HQ1.out.ops hok.out) (HQ3.out.ops hok.out) (by omega)).mono ?_
  rintro e w5 ⟨rfl, n, rfl⟩
  have dn : Below w4.heap.size w4 (w4.drewN n) := below_drewN (Below.refl _ _) n
  have HB5 : Hid (Below w.heap.size w (w4.drewN n)) := below_drewN HB4.out n
  have HR := hid (row_below HR.out dn)
  have HQ1 := hid (HQ1.out.later dn)
  have HQ2 := hid (HQ2.out.later dn)
  have HQ3 := hid (HQ3.out.later dn)
  generalize w4.drewN n = w5 at HB5 HR HQ1 HQ2 HQ3
  clear dn HB4
  go_wp2_with fail
  refine (kept_any _ g c a len cap zs w5 HR.out (bytes_kept HH.out HB5.out) (by omega)).mono ?_
  rintro e w' ⟨rfl, rfl⟩
  go_wp2_with fail
  refine (names_any _).mono ?_
  rintro e w6 ⟨rfl, rfl⟩
  go_wp2_with fail
  go_loopw [19] (fun i wr => ∃ k : Nat, ∃ ys : List Int, i = .int .i64 k ∧ k ≤ len ∧ Hid (Row wr w.heap.size g (len + 1) c ys) ∧ Hid (ORow wr w1.heap.size g1 X c1 xs) ∧ Hid (ORow wr w2.heap.size g2 X c2 xs) ∧ Hid (ORow wr w3.heap.size g3 X c3 xs) ∧ Hid (Below w.heap.size w wr)) (fun i _ => len - (intOf i).toNat)
  case atStart => exact ⟨0, _, rfl, by omega, HR, HQ1, HQ2, HQ3, HB5⟩
  case round =>
    obtain ⟨k, ys, rfl, hk, r2, p1, p2, p3, hbel⟩ := hrel
    clear HR HB5 HQ1 HQ2 HQ3
    by_cases hlt : k < len
    · have q0 := r2.out.cell k (by omega)
      have ik0 : (k : Int) < (len : Int) := by omega
      have z0 : wr.frozen? ⟨g, k, none⟩ = false := World.ownsRow.frozenAt r2.out k
      have hlc : len + 1 ≤ c := (By.full r2.out).choose_spec.2.2
      generalize ys.getD k 0 = y at q0
      have HN2 : Hid (∀ v, Row (wr.setCell ⟨g, k, none⟩ (.int .u8 v)) w.heap.size g (len + 1) c (ys.set k v)) := fun v => (Row.up r2.out k v).1
      clear r2
      go_wp2_with fail
      go_roundw
      case rel => exact ⟨k + 1, _, by go_num, by omega, HN2.out _, ORow.other p1.out _ _ _ (by omega), ORow.other p2.out _ _ _ (by omega), ORow.other p3.out _ _ _ (by omega), hbel.out.setCell hgl.1 _⟩
      case measure => simp [intOf]; omega
    · go_wp2_with fail
      refine (same_any (some ⟨g1, 0, none⟩) (some ⟨g3, 0, none⟩) X c1 c3 xs wr (p1.out.ops hok.out) (p3.out.ops hok.out) (by omega)).mono ?_
      rintro e w7 ⟨rfl, m, rfl⟩
      have dn : Below wr.heap.size wr (wr.drewN m) := below_drewN (Below.refl _ _) m
      have HB7 : Hid (Below w.heap.size w (wr.drewN m)) := below_drewN hbel.out m
      have p1 := hid (p1.out.later dn)
      have p2 := hid (p2.out.later dn)
      have p3 := hid (p3.out.later dn)
      generalize wr.drewN m = w7 at HB7 p1 p2 p3
      clear dn hbel r2
      go_wp2_with fail
      go_loopw [20] (fun i wz => ∃ k : Nat, ∃ us : List Value, i = .int .i64 k ∧ k ≤ X ∧ Hid (wz.ownsRow w1.heap.size 50 3 (.slice (some ⟨g1, 0, none⟩) X c1) X us) ∧ Hid (ORow wz w2.heap.size g2 X c2 xs) ∧ Hid (ORow wz w3.heap.size g3 X c3 xs) ∧ Hid (Below w.heap.size w wz)) (fun i _ => X - (intOf i).toNat)
      case atStart => exact ⟨0, _, rfl, by omega, p1, p2, p3, HB7⟩
      case round =>
        obtain ⟨k', us, rfl, hk', u1, p2, p3, hbz⟩ := hrel
        by_cases hlt' : k' < X
        · have hul := u1.out.1
          have cc : ∀ j, j < X * 3 → ∃ v, wr.cell? ⟨g1, j, none⟩ = some v := fun j hj => by
            have := World.ownsRow.cells u1.out (g := g1) rfl j (us[j]'(by omega)) (by simp)
            rw [Ob.addr_add, Nat.zero_add] at this
            exact ⟨_, this⟩
          obtain ⟨x0, q0⟩ := cc (k' * 3) (by omega)
          obtain ⟨x1, q1⟩ := cc (k' * 3 + 1) (by omega)
          obtain ⟨x2, q2⟩ := cc (k' * 3 + 2) (by omega)
          have z0 : wr.frozen? ⟨g1, k' * 3, none⟩ = false := World.ownsRow.frozenAt u1.out _
          have z1 : wr.frozen? ⟨g1, k' * 3 + 1, none⟩ = false := World.ownsRow.frozenAt u1.out _
          have z2 : wr.frozen? ⟨g1, k' * 3 + 2, none⟩ = false := World.ownsRow.frozenAt u1.out _
          have ik0 : (k' : Int) < (X : Int) := by omega
          have hlc : X ≤ c1 := by
            rcases u1.out.2 with ⟨e, _⟩ | ⟨g', cap', cur, e, hb, hg, hn, _⟩
            · simp at e
            · simp at e; omega
          have hg1 : w.heap.size ≤ g1 := by omega
          have HS := (World.ownsRow.stored (World.ownsRow.stored (World.ownsRow.stored u1.out (k' * 3) (.int .i64 77)).1 (k' * 3 + 1) (.string ⟨#[]⟩)).1 (k' * 3 + 2) (.string ⟨#[]⟩)).1
          have HHS := hid HS
          clear HS u1 cc hul
          go_wp2_with fail
          go_roundw
          case rel => exact ⟨k' + 1, _, by go_num, by omega, HHS, ORow.other (ORow.other (ORow.other p2.out _ _ _ (by omega)) _ _ _ (by omega)) _ _ _ (by omega), ORow.other (ORow.other (ORow.other p3.out _ _ _ (by omega)) _ _ _ (by omega)) _ _ _ (by omega), ((hbz.out.setCell hg1 _).setCell hg1 _).setCell hg1 _⟩
          case measure => simp [intOf]; omega
        · go_wp2_with fail
          refine (same_any (some ⟨g2, 0, none⟩) (some ⟨g3, 0, none⟩) X c2 c3 xs wr (p2.out.ops hok.out) (p3.out.ops hok.out) (by omega)).mono ?_
          rintro e w8 ⟨rfl, m2, rfl⟩
          go_wp2_with fail
          go_ret
          exact ⟨rfl, below_drewN hbz.out m2⟩
theorem walk (a : Option Addr) (len cap : Nat) (zs : List Int) (w : World) (H : Bytes w a len cap zs) (hl : cap ≤ 140737488351232) :
    Calls Try.prog 5 #[.slice a len cap] w fun e w' => e = .returned (.bool true) ∧ Below w.heap.size w w' := by
  have hzl := H.1
  cases hd : dec zs with
  | none =>
    by_cases h12 : zs.length < 12
    · exact walk_nil a len cap zs w H hl 0 41 0 0 41 (fun a len cap w hl h => (decode_no a len cap zs w h hl hd).mono fun e w' hh => ⟨none, 0, hh.1, fun _ => rfl, hh.2⟩) (fun a len cap w hl h => (rdecode_no a len cap zs w h hd).mono fun e w' hh => ⟨none, 0, hh.1, fun _ => rfl, hh.2⟩) (fun a len cap w hl h => head_no a len cap w (by have := h.1; omega)) (fun a len cap w hl h => rhead_no a len cap w (by have := h.1; omega))
    · exact walk_nil a len cap zs w H hl 0 41 (hseq zs) (hcnt zs) 0 (fun a len cap w hl h => (decode_no a len cap zs w h hl hd).mono fun e w' hh => ⟨none, 0, hh.1, fun _ => rfl, hh.2⟩) (fun a len cap w hl h => (rdecode_no a len cap zs w h hd).mono fun e w' hh => ⟨none, 0, hh.1, fun _ => rfl, hh.2⟩) (fun a len cap w hl h => head_ok a len cap zs w h hl (by have := h.1; omega)) (fun a len cap w hl h => rhead_ok a len cap zs w h (by omega) (by have := h.1; omega))
  | some r =>
    obtain ⟨S, xs⟩ := r
    have h12 : ¬ zs.length < 12 := by
      intro h
      unfold dec at hd
      rw [if_pos h] at hd
      simp at hd
    obtain ⟨_, _, _, hm, h4⟩ := enc_dec zs H.2.2.2.1 S xs hd
    by_cases hx : xs.length = 0
    · have hx0 : xs = [] := List.eq_nil_of_length_eq_zero hx
      subst hx0
      have nilv : ∀ {w' : World} {b : Nat} {v : Value}, w'.ownsRow b 50 3 v 0 (ocs []) → ∃ (a' : Option Addr) (c' : Nat), v = .slice a' 0 c' ∧ (a' = none → c' = 0) := by
        intro w' b v h
        rcases h.2 with ⟨e, _⟩ | ⟨g, c, _, e, _⟩
        · exact ⟨none, 0, e, fun _ => rfl⟩
        · exact ⟨_, c, e, fun e => by simp at e⟩
      exact walk_nil a len cap zs w H hl S 0 (hseq zs) (hcnt zs) 0
        (fun a len cap w hl h => (decode_ok a len cap zs w h S [] hd).mono fun e w' ⟨v, he, hr, hb⟩ => by obtain ⟨a', c', hv, hn⟩ := nilv hr; subst hv; exact ⟨a', c', he, hn, hb⟩)
        (fun a len cap w hl h => (rdecode_ok a len cap zs w h S [] hd).mono fun e w' ⟨v, he, hr, hb⟩ => by obtain ⟨a', c', hv, hn⟩ := nilv hr; subst hv; exact ⟨a', c', he, hn, hb⟩)
        (fun a len cap w hl h => head_ok a len cap zs w h hl (by have := h.1; omega)) (fun a len cap w hl h => rhead_ok a len cap zs w h (by omega) (by have := h.1; omega))
    · exact walk_val a len cap zs w H hl S 0 (hseq zs) (hcnt zs) 0 xs hx h4 (fun x hx => may_ok (hm x hx)) (fun a len cap w hl h => decode_ok a len cap zs w h S xs hd) (fun a len cap w hl h => rdecode_ok a len cap zs w h S xs hd) (fun a len cap w hl h => head_ok a len cap zs w h hl (by have := h.1; omega)) (fun a len cap w hl h => rhead_ok a len cap zs w h (by omega) (by have := h.1; omega))

theorem own : ownKnob Try.prog.godebug = none := by kernel_rfl
theorem laidOut : laidOutB Try.prog = true := by kernel_rfl
theorem bytes5 : Try.prog.bytesOf 5 = 1 := by kernel_rfl
theorem u8_bd {y : Int} (h : (Lit.int .u8 y).wf = true) : 0 ≤ y ∧ y ≤ 255 := by
  simpa [Lit.wf, IntKind.min, IntKind.max, IntKind.signed, IntKind.bits] using h
theorem u64_bd {v : Int} (h : (Lit.int .u64 v).wf = true) : 0 ≤ v ∧ v ≤ 18446744073709551615 := by
  simpa [Lit.wf, IntKind.min, IntKind.max, IntKind.signed, IntKind.bits] using h
theorem i64_bd {v : Int} (h : (Lit.int .i64 v).wf = true) : -9223372036854775808 ≤ v ∧ v ≤ 9223372036854775807 := by
  simpa [Lit.wf, IntKind.min, IntKind.max, IntKind.signed, IntKind.bits] using h

/-! ### The row's step -/
set_option maxRecDepth 100000 in
theorem lifted (os : Os) (started : os.Started) (H : Type) (enc : TypeId × Value → H) :
    ReturnsInHanded {} Try.checked os 5 .any (Rows.batchDecodesSpec.pre6 enc Try.prog Try.f5 Rows.batchDecodesRow.domain false) (Rows.batchDecodesSpec.post enc Try.prog Try.f5 false true false false) := by
  refine returnsInHanded_of_change_sized (C := Try.checked) own started (by kernel_rfl) Try.func5
    (ChangeSpec.witness6 (enc := enc) (C := Try.checked) false ⟨#[], #[.slice none 0 0], []⟩ 8 (by kernel_rfl) (by kernel_rfl) (by kernel_rfl) (by kernel_rfl)) ?_
  intro W base args ds gs before hval0 hW hcnd hsz0 _
  have hval : ∀ (j : Nat) t v, Try.f5.params[j]? = some t → args[j]? = some v → Value.okWide Try.prog W .any base t v := hval0
  have hsz : (DataW.weightsEach Try.prog (Try.f5.params.toList ++ Rows.batchDecodesSpec.plain.varTypes Try.prog) (ds ++ gs)).all (· ≤ reachBytes) = true := hsz0
  have hW' := hW
  obtain ⟨p, q, hA0, hV, rfl, hfz, hnd⟩ := hW
  have hA : DataW.TrodAll enc Try.prog W 0 (fun _ => true) true Try.f5.params.toList args.toList ds p := hA0
  rw [Try.params5] at hA hval hsz
  obtain ⟨v0, vs0, d0, ds0, p0, q0, hargs, rfl, rfl, h0, r0⟩ := trodAll_cons hA
  obtain ⟨rfl, rfl, rfl⟩ := trodAll_nil r0
  obtain rfl : args = #[v0] := by cases args; simp_all
  obtain ⟨rfl, rfl⟩ := trodVars_none hV
  obtain ⟨a0, len0, cap0, rfl⟩ := okWide_slice Try.underlying33 (hval 0 33 v0 rfl rfl)
  have k0 := h0
  have lt0 : ∀ x ∈ p0, x.block < W.heap.size := by obtain ⟨m, hm⟩ := k0; exact DataW.trod_lt m _ _ _ hm
  obtain ⟨z0, w0, c0⟩ : ∃ zs, By.Bytes W a0 len0 cap0 zs ∧ cap0 ≤ 140737488351232 := by
    obtain ⟨fuel, hf⟩ := h0
    rcases open_ints Try.underlying33 Try.underlying5 (by kernel_rfl) hf with ⟨hcs, _⟩ | ⟨x, l, c, zs, hcs, _, hl, hm, hz, hx, hcell, hwz⟩
    · simp [Value.cells] at hcs
      obtain ⟨rfl, rfl, rfl⟩ := hcs
      exact ⟨[], By.nil_bytes W, by omega⟩
    · simp [Value.cells] at hcs
      obtain ⟨rfl, rfl, rfl⟩ := hcs
      have hd : d0 = .slice (lits .u8 (zs.take len0)) (lits .u8 (zs.drop len0)) := (Prod.mk.inj hx).1
      have hz' : zs.length = cap0 := by simpa using hz
      have sz := sized_slice hsz (j := 0) (t := 33) (e := 5) rfl (by rw [hd]; rfl) Try.underlying33
      rw [bytes5] at sz
      simp only [lits, List.length_map, List.length_take, List.length_drop, reachBytes] at sz
      refine ⟨zs.take len0, ⟨by rw [List.length_take]; omega, hl, fun e => by simp at e, fun y hy => u8_bd (hwz y (List.mem_of_mem_take hy)), ?_⟩, by omega⟩
      intro x' hx' j hj
      simp at hx'
      subst hx'
      rw [hcell j (by omega)]
      simp [List.getD_eq_getElem?_getD, hj]
  clear hA0 hval0
  refine (walk a0 len0 cap0 z0 W w0 c0).mono fun e W' ⟨he, bel⟩ => ?_
  subst he
  exact ⟨_, rfl, _, _, _, [], _, [], hW', trodAll_mk1 (shut_bool Try.underlying4 _), (trodAll_cons_mk (Below.trod laidOut (by kernel_rfl) (of_decide_eq_true (by kernel_rfl)) k0 bel lt0) trodAll_mk0), rfl, bel.frame _, fun h => by cases h⟩

theorem over : Rows.batchDecodesRow.holds Try.pinned (OpenSpec.ofChange Rows.batchDecodesSpec) :=
  OpenClaim.holds_of_wide 5 Try.f5 rfl rfl rfl rfl rfl rfl rfl ⟨rfl, rfl, rfl, rfl, rfl⟩ rfl rfl rfl rfl rfl (by kernel_rfl) Try.func5 (by kernel_rfl)
    (of_decide_eq_true (by kernel_rfl)) (by unfold Func.isWrapper; first | (rw [if_pos (by decide +kernel)]; kernel_rfl) | (rw [if_neg (by decide +kernel)]; exact ⟨rfl, rfl⟩))
    (fun os started H enc _ => lifted os started H enc)
end Go.Proofs.Ytmceanfgcehfeaa.batchDecodes
namespace Go.Proofs.Ytmceanfgcehfeaa
theorem batchDecodes_holds : Rows.BatchDecodesSaid := batchDecodes.over
#print axioms batchDecodes_holds
end Go.Proofs.Ytmceanfgcehfeaa

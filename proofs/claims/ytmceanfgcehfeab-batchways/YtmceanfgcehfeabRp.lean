/- An operation read at a place: by the program. -/
import Derived.Test.YtmceanfgcehfeabEb
import Derived.Test.YtmceanfgcehfeabCt
import Derived.Deep.RegionWith
namespace Go.Proofs.Ytmceanfgcehfeab.Rp
open Go.ChangeShapes Go.WideShapes Go.ChangeAt Go.RowKit
open Go.Proofs.Ytmceanfgcehfeab.By
open Go.Proofs.Ytmceanfgcehfeab.Ob
open Go.Proofs.Ytmceanfgcehfeab.En (Blk)
set_option linter.unusedVariables false

/-- An operation that may be, at a place, and the place behind it. -/
def rop (zs : List Int) (p : Nat) : Option (O × Nat) :=
  if zs.length ≤ p then none else
  if (tread zs ((p : Int) + 1)).2.2 ≠ 0 then none else
  if zs.getD p 0 = 0 then (if may ⟨0, str (tread zs ((p : Int) + 1)).1, ⟨#[]⟩⟩ = true then some (⟨0, str (tread zs ((p : Int) + 1)).1, ⟨#[]⟩⟩, (tread zs ((p : Int) + 1)).2.1.toNat) else none) else
  if (tread zs (tread zs ((p : Int) + 1)).2.1).2.2 ≠ 0 then none else
  (if may ⟨zs.getD p 0, str (tread zs ((p : Int) + 1)).1, str (tread zs (tread zs ((p : Int) + 1)).2.1).1⟩ = true then some (⟨zs.getD p 0, str (tread zs ((p : Int) + 1)).1, str (tread zs (tread zs ((p : Int) + 1)).2.1).1⟩, (tread zs (tread zs ((p : Int) + 1)).2.1).2.1.toNat) else none)

/-- What readOp hands back. -/
def out3 (x : O) (nx : Int) (ok : Bool) : Value := .tuple #[.agg #[.int .i64 x.c, .string x.k, .string x.v], .int .i64 nx, .bool ok]
set_option maxHeartbeats 2000000 in
theorem read2 (a : Option Addr) (len cap : Nat) (zs : List Int) (p : Nat) (w : World) (H : Bytes w a len cap zs) (hcap : len ≤ 140737488351232) (hp : p < len)
    (c : Int) (hc : zs.getD p 0 = c) (c0 : c ≠ 0) (t1 : List Int) (q1 : Int) (h1 : tread zs ((p : Int) + 1) = (t1, q1, 0)) (t2 : List Int) (q2 : Int) (h2 : tread zs q1 = (t2, q2, 0)) (M : Bool) (hM : may ⟨c, str t1, str t2⟩ = M) :
    Calls Try.prog 55 #[.slice a len cap, .int .i64 p] w fun e w' => e = .returned (out3 ⟨c, str t1, str t2⟩ q2 M) ∧ Below w.heap.size w w' := by
  cases a with
  | none => have := H.2.2.1 rfl; omega
  | some ad =>
    have HT1 : Hid (∀ W, Below w.heap.size w W → Calls Try.prog 65 #[.slice (some ad) len cap, .int .i64 ((p : Int) + 1)] W fun e w' => e = .returned (.tuple #[.string (str t1), .int .i64 q1, .int .i64 0]) ∧ w' = W) := fun W hW => by
      have := text_any (some ad) len cap zs ((p : Int) + 1) W (bytes_kept H hW) (by omega)
      rw [h1] at this
      exact this
    have HT2 : Hid (∀ W, Below w.heap.size w W → Calls Try.prog 65 #[.slice (some ad) len cap, .int .i64 q1] W fun e w' => e = .returned (.tuple #[.string (str t2), .int .i64 q2, .int .i64 0]) ∧ w' = W) := fun W hW => by
      have := text_any (some ad) len cap zs q1 W (bytes_kept H hW) (by omega)
      rw [h2] at this
      exact this
    have HM : Hid (∀ W, Calls Try.prog 49 #[.agg #[.int .i64 c, .string (str t1), .string (str t2)]] W fun e w' => e = .returned (.bool M) ∧ Below W.heap.size W w') := fun W => by
      rw [← hM]; exact maybe_any c (str t1) (str t2) W
    have q0 := H.2.2.2.2 ad rfl p hp
    obtain ⟨b, off, spot⟩ := ad
    have hspot : spot = none := by have := World.cell?_spot (H.2.2.2.2 _ rfl 0 (by omega)); simpa [Addr.add] using this
    subst hspot
    rw [hc, By.addr_add] at q0
    have hcb : 0 ≤ c ∧ c ≤ 255 := by
      rw [← hc]
      have hl := H.1
      rw [List.getD_eq_getElem?_getD, List.getElem?_eq_getElem (by omega)]
      exact H.2.2.2.1 _ (List.getElem_mem _)
    obtain ⟨hcb0, hcb1⟩ := hcb
    have hlc := H.2.1
    have ip : ¬ (len : Int) ≤ (p : Int) := by omega
    have ip2 : (p : Int) < (len : Int) := by omega
    have hlt := block_lt_of_cell q0
    have e0 : (!decide (c = 0)) = true := by simp [c0]
    generalize str t1 = s1 at *
    generalize str t2 = s2 at *
    clear H hc h1 h2 hM c0
    go_enter Try.func55, Try.ntmps55
    go_wp2_with fail
    refine (HT1.out _ ?_).mono ?_
    · exact box_below _ _
    rintro e w' ⟨rfl, rfl⟩
    go_wp2_with fail
    refine (hasvalue_any c _).mono ?_
    rintro e w' ⟨rfl, rfl⟩
    rw [e0]
    go_wp2_with fail
    refine (HT2.out _ ?_).mono ?_
    · exact box_below _ _
    rintro e w' ⟨rfl, rfl⟩
    go_wp2_with fail
    obtain ⟨W0, hW0⟩ : ∃ W0, W0 = w.alloc (.cells #[.int .i64 c, .string s1, .string s2] 60) := ⟨_, rfl⟩
    obtain ⟨g, hg⟩ : ∃ g, g = w.heap.size := ⟨_, rfl⟩
    have K0 : Hid (Blk W0 g #[.int .i64 c, .string s1, .string s2]) := by show Blk _ _ _; rw [hW0, hg]; exact Blk.new _ _
    have B0 : Hid (Below w.heap.size w W0) := by show Below _ _ _; rw [hW0]; exact box_below _ _
    have HG : Hid (g = w.heap.size) := hg
    rw [← hW0, ← hg]
    clear hW0 hg HT1 HT2 hlt
    have r0 : W0.cell? ⟨g, 0, none⟩ = some (.int .i64 c) := K0.out.cell 0
    have r1 : W0.cell? ⟨g, 1, none⟩ = some (.string s1) := K0.out.cell 1
    have r2 : W0.cell? ⟨g, 2, none⟩ = some (.string s2) := K0.out.cell 2
    have z0 : W0.frozen? ⟨g, 0, none⟩ = false := by simp [World.frozen?, show W0.heap[g]? = _ from K0.out]
    have z1 : W0.frozen? ⟨g, 1, none⟩ = false := by simp [World.frozen?, show W0.heap[g]? = _ from K0.out]
    have z2 : W0.frozen? ⟨g, 2, none⟩ = false := by simp [World.frozen?, show W0.heap[g]? = _ from K0.out]
    go_region_with (go_at_call 49; refine (HM.out _).mono ?_; rintro e w2 ⟨rfl, b2⟩; have K2 := (show Blk W0.drew g #[.int .i64 c, .string s1, .string s2] from K0.out).later b2; have f0 : w2.cell? ⟨g, 0, none⟩ = some (.int .i64 c) := K2.cell 0; have f1 : w2.cell? ⟨g, 1, none⟩ = some (.string s1) := K2.cell 1; have f2 : w2.cell? ⟨g, 2, none⟩ = some (.string s2) := K2.cell 2; have u0 : w2.frozen? ⟨g, 0, none⟩ = false := (b2.frozen K0.out.lt).trans z0; have u1 : w2.frozen? ⟨g, 1, none⟩ = false := (b2.frozen K0.out.lt).trans z1; have u2 : w2.frozen? ⟨g, 2, none⟩ = false := (b2.frozen K0.out.lt).trans z2)
    all_goals go_wp2_with fail
    all_goals have hbw : Below w.heap.size w w2 := B0.out.drew.trans (b2.mono B0.out.size)
    all_goals exact bodyPost_ret (v := out3 ⟨c, s1, s2⟩ q2 M) (by simp [results, Try.results55, go_sem, out3, f0, f1, f2]) rfl ⟨rfl, ((hbw.setCell (Nat.le_of_eq HG.out.symm) _).setCell (Nat.le_of_eq HG.out.symm) _).setCell (Nat.le_of_eq HG.out.symm) _⟩
set_option maxHeartbeats 2000000 in
theorem read1 (a : Option Addr) (len cap : Nat) (zs : List Int) (p : Nat) (w : World) (H : Bytes w a len cap zs) (hcap : len ≤ 140737488351232) (hp : p < len)
    (hc : zs.getD p 0 = 0) (t1 : List Int) (q1 : Int) (h1 : tread zs ((p : Int) + 1) = (t1, q1, 0)) (M : Bool) (hM : may ⟨0, str t1, ⟨#[]⟩⟩ = M) :
    Calls Try.prog 55 #[.slice a len cap, .int .i64 p] w fun e w' => e = .returned (out3 ⟨0, str t1, ⟨#[]⟩⟩ q1 M) ∧ Below w.heap.size w w' := by
  cases a with
  | none => have := H.2.2.1 rfl; omega
  | some ad =>
    have HT1 : Hid (∀ W, Below w.heap.size w W → Calls Try.prog 65 #[.slice (some ad) len cap, .int .i64 ((p : Int) + 1)] W fun e w' => e = .returned (.tuple #[.string (str t1), .int .i64 q1, .int .i64 0]) ∧ w' = W) := fun W hW => by
      have := text_any (some ad) len cap zs ((p : Int) + 1) W (bytes_kept H hW) (by omega)
      rw [h1] at this
      exact this
    have HM : Hid (∀ W, Calls Try.prog 49 #[.agg #[.int .i64 0, .string (str t1), .string ⟨#[]⟩]] W fun e w' => e = .returned (.bool M) ∧ Below W.heap.size W w') := fun W => by
      rw [← hM]; exact maybe_any 0 (str t1) ⟨#[]⟩ W
    have q0 := H.2.2.2.2 ad rfl p hp
    obtain ⟨b, off, spot⟩ := ad
    have hspot : spot = none := by have := World.cell?_spot (H.2.2.2.2 _ rfl 0 (by omega)); simpa [Addr.add] using this
    subst hspot
    rw [hc, By.addr_add] at q0
    have hlc := H.2.1
    have ip : ¬ (len : Int) ≤ (p : Int) := by omega
    have ip2 : (p : Int) < (len : Int) := by omega
    have hlt := block_lt_of_cell q0
    generalize str t1 = s1 at *
    clear H hc h1 hM
    go_enter Try.func55, Try.ntmps55
    go_wp2_with fail
    refine (HT1.out _ ?_).mono ?_
    · exact box_below _ _
    rintro e w' ⟨rfl, rfl⟩
    go_wp2_with fail
    refine (hasvalue_any 0 _).mono ?_
    rintro e w' ⟨rfl, rfl⟩
    go_wp2_with fail
    obtain ⟨W0, hW0⟩ : ∃ W0, W0 = w.alloc (.cells #[.int .i64 0, .string s1, .string ⟨#[]⟩] 60) := ⟨_, rfl⟩
    obtain ⟨g, hg⟩ : ∃ g, g = w.heap.size := ⟨_, rfl⟩
    have K0 : Hid (Blk W0 g #[.int .i64 0, .string s1, .string ⟨#[]⟩]) := by show Blk _ _ _; rw [hW0, hg]; exact Blk.new _ _
    have B0 : Hid (Below w.heap.size w W0) := by show Below _ _ _; rw [hW0]; exact box_below _ _
    have HG : Hid (g = w.heap.size) := hg
    rw [← hW0, ← hg]
    clear hW0 hg HT1 hlt
    have r0 : W0.cell? ⟨g, 0, none⟩ = some (.int .i64 0) := K0.out.cell 0
    have r1 : W0.cell? ⟨g, 1, none⟩ = some (.string s1) := K0.out.cell 1
    have r2 : W0.cell? ⟨g, 2, none⟩ = some (.string ⟨#[]⟩) := K0.out.cell 2
    have z0 : W0.frozen? ⟨g, 0, none⟩ = false := by simp [World.frozen?, show W0.heap[g]? = _ from K0.out]
    have z1 : W0.frozen? ⟨g, 1, none⟩ = false := by simp [World.frozen?, show W0.heap[g]? = _ from K0.out]
    have z2 : W0.frozen? ⟨g, 2, none⟩ = false := by simp [World.frozen?, show W0.heap[g]? = _ from K0.out]
    go_region_with (go_at_call 49; refine (HM.out _).mono ?_; rintro e w2 ⟨rfl, b2⟩; have K2 := (show Blk W0.drew g #[.int .i64 0, .string s1, .string ⟨#[]⟩] from K0.out).later b2; have f0 : w2.cell? ⟨g, 0, none⟩ = some (.int .i64 0) := K2.cell 0; have f1 : w2.cell? ⟨g, 1, none⟩ = some (.string s1) := K2.cell 1; have f2 : w2.cell? ⟨g, 2, none⟩ = some (.string ⟨#[]⟩) := K2.cell 2; have u0 : w2.frozen? ⟨g, 0, none⟩ = false := (b2.frozen K0.out.lt).trans z0; have u1 : w2.frozen? ⟨g, 1, none⟩ = false := (b2.frozen K0.out.lt).trans z1; have u2 : w2.frozen? ⟨g, 2, none⟩ = false := (b2.frozen K0.out.lt).trans z2)
    all_goals go_wp2_with fail
    all_goals have hbw : Below w.heap.size w w2 := B0.out.drew.trans (b2.mono B0.out.size)
    all_goals exact bodyPost_ret (v := out3 ⟨0, s1, ⟨#[]⟩⟩ q1 M) (by simp [results, Try.results55, go_sem, out3, f0, f1, f2]) rfl ⟨rfl, ((hbw.setCell (Nat.le_of_eq HG.out.symm) _).setCell (Nat.le_of_eq HG.out.symm) _).setCell (Nat.le_of_eq HG.out.symm) _⟩
theorem read_short (a : Option Addr) (len cap : Nat) (p : Nat) (w : World) (hp : len ≤ p) (hp2 : p ≤ 281474976710656) :
    Calls Try.prog 55 #[.slice a len cap, .int .i64 p] w fun e w' => e = .returned (out3 zo p false) ∧ Below w.heap.size w w' := by
  have ip : (len : Int) ≤ (p : Int) := by omega
  go_enter Try.func55, Try.ntmps55
  go_wp2_with fail
  exact bodyPost_ret (v := out3 zo p false) (by simp [results, Try.results55, go_sem, out3, zo]) rfl ⟨rfl, box_below _ _⟩
set_option maxHeartbeats 2000000 in
theorem read_e1 (a : Option Addr) (len cap : Nat) (zs : List Int) (p : Nat) (w : World) (H : Bytes w a len cap zs) (hcap : len ≤ 140737488351232) (hp : p < len)
    (c : Int) (hc : zs.getD p 0 = c) (t1 : List Int) (q1 : Int) (E : Int) (hE : E ≠ 0) (h1 : tread zs ((p : Int) + 1) = (t1, q1, E)) :
    Calls Try.prog 55 #[.slice a len cap, .int .i64 p] w fun e w' => e = .returned (out3 ⟨c, ⟨#[]⟩, ⟨#[]⟩⟩ p false) ∧ Below w.heap.size w w' := by
  cases a with
  | none => have := H.2.2.1 rfl; omega
  | some ad =>
    have HT1 : Hid (∀ W, Below w.heap.size w W → Calls Try.prog 65 #[.slice (some ad) len cap, .int .i64 ((p : Int) + 1)] W fun e w' => e = .returned (.tuple #[.string (str t1), .int .i64 q1, .int .i64 E]) ∧ w' = W) := fun W hW => by
      have := text_any (some ad) len cap zs ((p : Int) + 1) W (bytes_kept H hW) (by omega)
      rw [h1] at this
      exact this
    have q0 := H.2.2.2.2 ad rfl p hp
    obtain ⟨b, off, spot⟩ := ad
    have hspot : spot = none := by have := World.cell?_spot (H.2.2.2.2 _ rfl 0 (by omega)); simpa [Addr.add] using this
    subst hspot
    rw [hc, By.addr_add] at q0
    have hcb : 0 ≤ c ∧ c ≤ 255 := by
      rw [← hc]
      have hl := H.1
      rw [List.getD_eq_getElem?_getD, List.getElem?_eq_getElem (by omega)]
      exact H.2.2.2.1 _ (List.getElem_mem _)
    obtain ⟨hcb0, hcb1⟩ := hcb
    have hlc := H.2.1
    have ip : ¬ (len : Int) ≤ (p : Int) := by omega
    have ip2 : (p : Int) < (len : Int) := by omega
    have hlt := block_lt_of_cell q0
    have d0 : (E == 0) = false := by simp [hE]
    have d1 : (E != 0) = true := by simp [hE]
    generalize str t1 = s1 at *
    clear H hc h1 hE
    go_enter Try.func55, Try.ntmps55
    go_wp2_with fail
    refine (HT1.out _ ?_).mono ?_
    · exact box_below _ _
    rintro e w' ⟨rfl, rfl⟩
    go_wp2_with fail
    exact bodyPost_ret (v := out3 ⟨c, ⟨#[]⟩, ⟨#[]⟩⟩ p false) (by simp [results, Try.results55, go_sem, out3]) rfl ⟨rfl, box_below _ _⟩
set_option maxHeartbeats 2000000 in
theorem read_e2 (a : Option Addr) (len cap : Nat) (zs : List Int) (p : Nat) (w : World) (H : Bytes w a len cap zs) (hcap : len ≤ 140737488351232) (hp : p < len)
    (c : Int) (hc : zs.getD p 0 = c) (c0 : c ≠ 0) (t1 : List Int) (q1 : Int) (h1 : tread zs ((p : Int) + 1) = (t1, q1, 0)) (t2 : List Int) (q2 : Int) (E : Int) (hE : E ≠ 0) (h2 : tread zs q1 = (t2, q2, E)) :
    Calls Try.prog 55 #[.slice a len cap, .int .i64 p] w fun e w' => e = .returned (out3 ⟨c, str t1, str t2⟩ p false) ∧ Below w.heap.size w w' := by
  cases a with
  | none => have := H.2.2.1 rfl; omega
  | some ad =>
    have HT1 : Hid (∀ W, Below w.heap.size w W → Calls Try.prog 65 #[.slice (some ad) len cap, .int .i64 ((p : Int) + 1)] W fun e w' => e = .returned (.tuple #[.string (str t1), .int .i64 q1, .int .i64 0]) ∧ w' = W) := fun W hW => by
      have := text_any (some ad) len cap zs ((p : Int) + 1) W (bytes_kept H hW) (by omega)
      rw [h1] at this
      exact this
    have HT2 : Hid (∀ W, Below w.heap.size w W → Calls Try.prog 65 #[.slice (some ad) len cap, .int .i64 q1] W fun e w' => e = .returned (.tuple #[.string (str t2), .int .i64 q2, .int .i64 E]) ∧ w' = W) := fun W hW => by
      have := text_any (some ad) len cap zs q1 W (bytes_kept H hW) (by omega)
      rw [h2] at this
      exact this
    have q0 := H.2.2.2.2 ad rfl p hp
    obtain ⟨b, off, spot⟩ := ad
    have hspot : spot = none := by have := World.cell?_spot (H.2.2.2.2 _ rfl 0 (by omega)); simpa [Addr.add] using this
    subst hspot
    rw [hc, By.addr_add] at q0
    have hcb : 0 ≤ c ∧ c ≤ 255 := by
      rw [← hc]
      have hl := H.1
      rw [List.getD_eq_getElem?_getD, List.getElem?_eq_getElem (by omega)]
      exact H.2.2.2.1 _ (List.getElem_mem _)
    obtain ⟨hcb0, hcb1⟩ := hcb
    have hlc := H.2.1
    have ip : ¬ (len : Int) ≤ (p : Int) := by omega
    have ip2 : (p : Int) < (len : Int) := by omega
    have hlt := block_lt_of_cell q0
    have e0 : (!decide (c = 0)) = true := by simp [c0]
    have d0 : (E == 0) = false := by simp [hE]
    have d1 : (E != 0) = true := by simp [hE]
    generalize str t1 = s1 at *
    generalize str t2 = s2 at *
    clear H hc h1 h2 hE c0
    go_enter Try.func55, Try.ntmps55
    go_wp2_with fail
    refine (HT1.out _ ?_).mono ?_
    · exact box_below _ _
    rintro e w' ⟨rfl, rfl⟩
    go_wp2_with fail
    refine (hasvalue_any c _).mono ?_
    rintro e w' ⟨rfl, rfl⟩
    rw [e0]
    go_wp2_with fail
    refine (HT2.out _ ?_).mono ?_
    · exact box_below _ _
    rintro e w' ⟨rfl, rfl⟩
    go_wp2_with fail
    exact bodyPost_ret (v := out3 ⟨c, s1, s2⟩ p false) (by simp [results, Try.results55, go_sem, out3]) rfl ⟨rfl, box_below _ _⟩
theorem tread_place (zs : List Int) (p : Int) (hb : ∀ y ∈ zs, 0 ≤ y ∧ y ≤ 255) (h : (tread zs p).2.2 = 0) : ∃ q : Nat, (tread zs p).2.1 = (q : Int) := by
  unfold tread at h ⊢
  split at h
  · next h1 => exact absurd h h1
  · next h1 =>
    rw [if_neg h1]
    split at h
    · simp at h
    · next h2 =>
      rw [if_neg h2]
      obtain ⟨q, hq, _, _, _, h0, _⟩ := vread_ok zs p hb (Decidable.of_not_not h1)
      exact ⟨q + (Vb.vread zs p).1.toNat, by rw [hq]; simp; omega⟩
theorem readop_some (a : Option Addr) (len cap : Nat) (zs : List Int) (p : Nat) (w : World) (H : Bytes w a len cap zs) (hcap : len ≤ 140737488351232) (x : O) (nx : Nat) (h : rop zs p = some (x, nx)) :
    Calls Try.prog 55 #[.slice a len cap, .int .i64 p] w fun e w' => e = .returned (out3 x nx true) ∧ Below w.heap.size w w' := by
  have hl := H.1
  unfold rop at h
  split at h
  · simp at h
  · next hp =>
    split at h
    · simp at h
    · next h1 =>
      have e1 := Decidable.of_not_not h1
      obtain ⟨q1, t1⟩ := tread_place zs _ H.2.2.2.1 e1
      split at h
      · next hc =>
        split at h
        · next hm =>
          simp only [Option.some.injEq, Prod.mk.injEq] at h
          obtain ⟨rfl, rfl⟩ := h
          have := read1 a len cap zs p w H hcap (by omega) hc (tread zs ((p : Int) + 1)).1 (tread zs ((p : Int) + 1)).2.1 (by rw [← e1]) true hm
          rw [t1] at this ⊢
          simpa using this
        · simp at h
      · next hc =>
        split at h
        · simp at h
        · next h2 =>
          have e2 := Decidable.of_not_not h2
          obtain ⟨q2, t2⟩ := tread_place zs _ H.2.2.2.1 e2
          split at h
          · next hm =>
            simp only [Option.some.injEq, Prod.mk.injEq] at h
            obtain ⟨rfl, rfl⟩ := h
            have := read2 a len cap zs p w H hcap (by omega) (zs.getD p 0) rfl hc (tread zs ((p : Int) + 1)).1 (tread zs ((p : Int) + 1)).2.1 (by rw [← e1]) (tread zs (tread zs ((p : Int) + 1)).2.1).1 (tread zs (tread zs ((p : Int) + 1)).2.1).2.1 (by rw [← e2]) true hm
            rw [t2] at this ⊢
            simpa using this
          · simp at h
theorem readop_none (a : Option Addr) (len cap : Nat) (zs : List Int) (p : Nat) (w : World) (H : Bytes w a len cap zs) (hcap : len ≤ 140737488351232) (hp2 : p ≤ 281474976710656) (h : rop zs p = none) :
    ∃ (x : O) (nx : Int), Calls Try.prog 55 #[.slice a len cap, .int .i64 p] w fun e w' => e = .returned (out3 x nx false) ∧ Below w.heap.size w w' := by
  have hl := H.1
  unfold rop at h
  split at h
  · next hp => exact ⟨_, _, read_short a len cap p w (by omega) hp2⟩
  · next hp =>
    split at h
    · next h1 => exact ⟨_, _, read_e1 a len cap zs p w H hcap (by omega) (zs.getD p 0) rfl (tread zs ((p : Int) + 1)).1 (tread zs ((p : Int) + 1)).2.1 _ h1 rfl⟩
    · next h1 =>
      have e1 := Decidable.of_not_not h1
      split at h
      · next hc =>
        split at h
        · simp at h
        · next hm => exact ⟨_, _, read1 a len cap zs p w H hcap (by omega) hc (tread zs ((p : Int) + 1)).1 (tread zs ((p : Int) + 1)).2.1 (by rw [← e1]) false (by simpa using hm)⟩
      · next hc =>
        split at h
        · next h2 => exact ⟨_, _, read_e2 a len cap zs p w H hcap (by omega) (zs.getD p 0) rfl hc (tread zs ((p : Int) + 1)).1 (tread zs ((p : Int) + 1)).2.1 (by rw [← e1]) (tread zs (tread zs ((p : Int) + 1)).2.1).1 (tread zs (tread zs ((p : Int) + 1)).2.1).2.1 _ h2 rfl⟩
        · next h2 =>
          have e2 := Decidable.of_not_not h2
          split at h
          · simp at h
          · next hm => exact ⟨_, _, read2 a len cap zs p w H hcap (by omega) (zs.getD p 0) rfl hc (tread zs ((p : Int) + 1)).1 (tread zs ((p : Int) + 1)).2.1 (by rw [← e1]) (tread zs (tread zs ((p : Int) + 1)).2.1).1 (tread zs (tread zs ((p : Int) + 1)).2.1).2.1 (by rw [← e2]) false (by simpa using hm)⟩
end Go.Proofs.Ytmceanfgcehfeab.Rp

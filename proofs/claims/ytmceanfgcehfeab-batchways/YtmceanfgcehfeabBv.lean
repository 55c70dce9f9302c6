/- The Builder's calls: Put, Delete, Range, Len, Size, Bytes, Clear; and those of none. -/
import Derived.Test.YtmceanfgcehfeabBu
namespace Go.Proofs.Ytmceanfgcehfeab.Bv
open Go.ChangeShapes Go.WideShapes Go.ChangeAt Go.RowKit
open Go.Sort
open Go.Proofs.Ytmceanfgcehfeab.By
open Go.Proofs.Ytmceanfgcehfeab.Ob
open Go.Proofs.Ytmceanfgcehfeab.En
open Go.Proofs.Ytmceanfgcehfeab.Bu
open Go.Proofs.Ytmceanfgcehfeab.Jo (Res encR encode_res)
open Go.Proofs.Ytmceanfgcehfeab.De (row_ops may_ok)
set_option linter.unusedVariables false

theorem put_any (g : Nat) (k v : ByteArray) (xs : List O) (base : Nat) (P : Nat → Prop) (w : World) (H : Bs w base g P xs) (hbase : base ≤ w.heap.size) (hp : ∀ j, P j → j < w.heap.size) (hpg : ¬ P g) (hf : Fits xs) :
    Calls Try.prog 16 #[.pointer (some ⟨g, 0, none⟩), .string k, .string v] w fun e w' => e = .returned (.int .i64 (bput xs ⟨1, k, v⟩).1) ∧ Bs w' base g P (bput xs ⟨1, k, v⟩).2 ∧ Below base w w' ∧ Kept w w' P := by
  have HA := hid (add_any g 1 k v xs base P w H hbase hp hpg hf)
  clear H hf hp hpg
  generalize bput xs ⟨1, k, v⟩ = r at *
  go_enter Try.func16, Try.ntmps16
  go_wp2_with fail
  refine HA.out.mono ?_
  rintro e w' ⟨rfl, B, b, KK⟩
  have KK := hid KK
  have B := hid B
  have b := hid b
  go_wp2_with fail
  go_ret
  exact ⟨rfl, B.out, b.out, KK.out⟩
theorem delete_any (g : Nat) (k : ByteArray) (xs : List O) (base : Nat) (P : Nat → Prop) (w : World) (H : Bs w base g P xs) (hbase : base ≤ w.heap.size) (hp : ∀ j, P j → j < w.heap.size) (hpg : ¬ P g) (hf : Fits xs) :
    Calls Try.prog 17 #[.pointer (some ⟨g, 0, none⟩), .string k] w fun e w' => e = .returned (.int .i64 (bput xs ⟨0, k, ⟨#[]⟩⟩).1) ∧ Bs w' base g P (bput xs ⟨0, k, ⟨#[]⟩⟩).2 ∧ Below base w w' ∧ Kept w w' P := by
  have HA := hid (add_any g 0 k ⟨#[]⟩ xs base P w H hbase hp hpg hf)
  clear H hf hp hpg
  generalize bput xs ⟨0, k, ⟨#[]⟩⟩ = r at *
  go_enter Try.func17, Try.ntmps17
  go_wp2_with fail
  refine HA.out.mono ?_
  rintro e w' ⟨rfl, B, b, KK⟩
  have KK := hid KK
  have B := hid B
  have b := hid b
  go_wp2_with fail
  go_ret
  exact ⟨rfl, B.out, b.out, KK.out⟩
theorem range_any (g : Nat) (k v : ByteArray) (xs : List O) (base : Nat) (P : Nat → Prop) (w : World) (H : Bs w base g P xs) (hbase : base ≤ w.heap.size) (hp : ∀ j, P j → j < w.heap.size) (hpg : ¬ P g) (hf : Fits xs) :
    Calls Try.prog 18 #[.pointer (some ⟨g, 0, none⟩), .string k, .string v] w fun e w' => e = .returned (.int .i64 (bput xs ⟨2, k, v⟩).1) ∧ Bs w' base g P (bput xs ⟨2, k, v⟩).2 ∧ Below base w w' ∧ Kept w w' P := by
  have HA := hid (add_any g 2 k v xs base P w H hbase hp hpg hf)
  clear H hf hp hpg
  generalize bput xs ⟨2, k, v⟩ = r at *
  go_enter Try.func18, Try.ntmps18
  go_wp2_with fail
  refine HA.out.mono ?_
  rintro e w' ⟨rfl, B, b, KK⟩
  have KK := hid KK
  have B := hid B
  have b := hid b
  go_wp2_with fail
  go_ret
  exact ⟨rfl, B.out, b.out, KK.out⟩
theorem Bs.parts {W : World} {base g : Nat} {P : Nat → Prop} {xs : List O} (h : Bs W base g P xs) : ∃ a c, Bld W g (.slice a xs.length c) (bsz xs) ∧ W.ownsRow base 60 3 (.slice a xs.length c) xs.length (ocs xs) ∧ base ≤ g := by
  obtain ⟨u, B0, O0, hbg, _⟩ := h
  rcases O0.2 with ⟨e, h0⟩ | ⟨g', c', _, e, _⟩
  · subst e
    exact ⟨none, 0, by rw [h0]; exact B0, by rw [h0] at O0 ⊢; exact O0, hbg⟩
  · subst e
    exact ⟨_, c', B0, O0, hbg⟩
theorem len_any (g : Nat) (xs : List O) (base : Nat) (P : Nat → Prop) (w : World) (H : Bs w base g P xs) :
    Calls Try.prog 10 #[.pointer (some ⟨g, 0, none⟩)] w fun e w' => e = .returned (.int .i64 (xs.length : Nat)) ∧ w' = w := by
  obtain ⟨a, c, B, _, _⟩ := Bs.parts H
  have B0 := hid B
  have e1 : w.cell? ⟨g, 1, none⟩ = some (.slice a xs.length c) := B.cell 1
  clear B H
  go_enter Try.func10, Try.ntmps10
  go_wp2_with fail
  refine (isnone_any g _ _ w B0.out).mono ?_
  rintro e w' ⟨rfl, rfl⟩
  go_wp2_with fail
  go_ret
  exact ⟨rfl, rfl⟩
theorem size_any (g : Nat) (xs : List O) (base : Nat) (P : Nat → Prop) (w : World) (H : Bs w base g P xs) :
    Calls Try.prog 11 #[.pointer (some ⟨g, 0, none⟩)] w fun e w' => e = .returned (.int .i64 (bsz xs : Nat)) ∧ w' = w := by
  obtain ⟨a, c, B, _, _⟩ := Bs.parts H
  have B0 := hid B
  have e1 : w.cell? ⟨g, 2, none⟩ = some (.int .i64 (bsz xs : Nat)) := B.cell 2
  clear B H
  generalize bsz xs = z at *
  go_enter Try.func11, Try.ntmps11
  go_wp2_with fail
  refine (isnone_any g _ _ w B0.out).mono ?_
  rintro e w' ⟨rfl, rfl⟩
  go_wp2_with fail
  go_ret
  exact ⟨rfl, rfl⟩
theorem bytes_any (g : Nat) (s : Int) (xs : List O) (base : Nat) (P : Nat → Prop) (w : World) (H : Bs w base g P xs) (hf : Fits xs) (hs : 0 ≤ s ∧ s ≤ 18446744073709551615) :
    Calls Try.prog 13 #[.pointer (some ⟨g, 0, none⟩), .int .u64 s] w fun e w' => ∃ v, e = .returned (.tuple #[v, .int .i64 (encR s xs).1]) ∧ Res w' w.heap.size v (encR s xs).2 ∧ Below w.heap.size w w' := by
  obtain ⟨a, c, B, O1, _⟩ := Bs.parts H
  have B0 := hid B
  have e1 : w.cell? ⟨g, 1, none⟩ = some (.slice a xs.length c) := B.cell 1
  obtain ⟨a', c', hv', HO⟩ := row_ops O1 (fun x hx => may_ok (hf.1 x hx))
  cases hv'
  have HE := hid (encode_res s a xs.length c xs w HO (by have := hf.2.1; omega) hs)
  clear B H O1 HO hf hs
  generalize encR s xs = r at *
  go_enter Try.func13, Try.ntmps13
  go_wp2_with fail
  refine (isnone_any g _ _ w B0.out).mono ?_
  rintro e w' ⟨rfl, rfl⟩
  go_wp2_with fail
  refine HE.out.mono ?_
  rintro e w2 ⟨v, rfl, R, b⟩
  have R := hid R
  have b := hid b
  clear HE
  go_wp2_with fail
  go_ret2
  exact ⟨_, rfl, R.out, b.out⟩
theorem clear_any (g : Nat) (xs : List O) (base : Nat) (P : Nat → Prop) (w : World) (H : Bs w base g P xs) (hp : ∀ j, P j → j < w.heap.size) (hpg : ¬ P g) :
    Calls Try.prog 15 #[.pointer (some ⟨g, 0, none⟩)] w fun e w' => e = .returned (.tuple #[]) ∧ Bs w' base g P [] ∧ Below base w w' ∧ Kept w w' P := by
  obtain ⟨a, c, B, O1, hbg⟩ := Bs.parts H
  have B0 := hid B
  have s1 : w.cell? ⟨g, 1, none⟩ = some (.slice a xs.length c) := B.cell 1
  have s2 : w.cell? ⟨g, 2, none⟩ = some (.int .i64 (bsz xs : Nat)) := B.cell 2
  have t1 := B.fz 1
  have t2 := B.fz 2
  have BS : Hid (Bs ((w.setCell ⟨g, 1, none⟩ (.slice none 0 0)).setCell ⟨g, 2, none⟩ (.int .i64 12)) base g P []) := by
    have h1 := (B.set1 (.slice none 0 0)).set2 12
    exact ⟨.slice none 0 0, by simpa [bsz, osum] using h1, World.ownsRow_nil _ _ _ _, hbg, fun _ e => nomatch e⟩
  have KW : Hid (Kept w ((w.setCell ⟨g, 1, none⟩ (.slice none 0 0)).setCell ⟨g, 2, none⟩ (.int .i64 12)) P) := ((Kept.refl hp).set hpg _ _).set hpg _ _
  clear hp hpg
  have BW : Hid (Below base w ((w.setCell ⟨g, 1, none⟩ (.slice none 0 0)).setCell ⟨g, 2, none⟩ (.int .i64 12))) := ((Below.refl base w).setCell hbg _).setCell hbg _
  clear B H O1
  generalize bsz xs = z at *
  go_enter Try.func15, Try.ntmps15
  go_wp2_with fail
  refine (isnone_any g _ _ w B0.out).mono ?_
  rintro e w' ⟨rfl, rfl⟩
  go_wp2_with fail
  refine bodyPost_end (results_none rfl _ _ _) rfl ?_
  exact ⟨rfl, BS.out, BW.out, KW.out⟩
/-- A Builder that is none: nil, or one that New did not give. -/
def Non (w : World) (p : Option Addr) : Prop := ∀ g, p = some g → g.block < w.heap.size ∧ g = ⟨g.block, 0, none⟩ ∧ w.heap[g.block]? = some (.cells #[.bool false, .slice none 0 0, .int .i64 0] 40 (0, 0))
theorem Non.later {w w' : World} {p : Option Addr} (h : Non w p) (b : Below w.heap.size w w') : Non w' p := by
  intro g hg
  obtain ⟨h1, h2, h3⟩ := h g hg
  exact ⟨by have := b.size; omega, h2, (b.block _ h1).trans h3⟩
theorem isnone_non (p : Option Addr) (w : World) (H : Non w p) : Calls Try.prog 29 #[.pointer p] w fun e w' => e = .returned (.bool true) ∧ w' = w := by
  cases p with
  | none =>
    go_enter Try.func29, Try.ntmps29
    go_wp2
    go_ret
    exact ⟨rfl, rfl⟩
  | some g =>
    obtain ⟨h1, h2, h3⟩ := H g rfl
    obtain ⟨gb, go, gp⟩ := g
    simp at h2
    obtain ⟨rfl, rfl⟩ := h2
    have c0 : w.cell? ⟨gb, 0, none⟩ = some (.bool false) := cell_of_row w gb 0 _ 40 (0, 0) h3
    clear h3 h1 H
    go_enter Try.func29, Try.ntmps29
    go_wp2
    go_ret
    exact ⟨rfl, rfl⟩
theorem len_non (p : Option Addr) (w : World) (H : Non w p) : Calls Try.prog 10 #[.pointer p] w fun e w' => e = .returned (.int .i64 0) ∧ w' = w := by
  have HN := hid H
  clear H
  go_enter Try.func10, Try.ntmps10
  go_wp2_with fail
  refine (isnone_non p w HN.out).mono ?_
  rintro e w' ⟨rfl, rfl⟩
  go_wp2_with fail
  go_ret
  exact ⟨rfl, rfl⟩
theorem size_non (p : Option Addr) (w : World) (H : Non w p) : Calls Try.prog 11 #[.pointer p] w fun e w' => e = .returned (.int .i64 0) ∧ w' = w := by
  have HN := hid H
  clear H
  go_enter Try.func11, Try.ntmps11
  go_wp2_with fail
  refine (isnone_non p w HN.out).mono ?_
  rintro e w' ⟨rfl, rfl⟩
  go_wp2_with fail
  go_ret
  exact ⟨rfl, rfl⟩
theorem bytes_non (p : Option Addr) (s : Int) (w : World) (H : Non w p) : Calls Try.prog 13 #[.pointer p, .int .u64 s] w fun e w' => e = .returned (.tuple #[.slice none 0 0, .int .i64 1]) ∧ w' = w := by
  have HN := hid H
  clear H
  go_enter Try.func13, Try.ntmps13
  go_wp2_with fail
  refine (isnone_non p w HN.out).mono ?_
  rintro e w' ⟨rfl, rfl⟩
  go_wp2_with fail
  go_ret2
  exact ⟨rfl, rfl⟩
theorem clear_non (p : Option Addr) (w : World) (H : Non w p) : Calls Try.prog 15 #[.pointer p] w fun e w' => e = .returned (.tuple #[]) ∧ w' = w := by
  have HN := hid H
  clear H
  go_enter Try.func15, Try.ntmps15
  go_wp2_with fail
  refine (isnone_non p w HN.out).mono ?_
  rintro e w' ⟨rfl, rfl⟩
  go_wp2_with fail
  (try simp only [Exit.inBlock, Exit.then])
  refine bodyPost_ret (results_none rfl _ _ _) rfl ?_
  exact ⟨rfl, rfl⟩
theorem add_non (p : Option Addr) (c : Int) (k v : ByteArray) (w : World) (H : Non w p) : Calls Try.prog 36 #[.pointer p, .agg #[.int .i64 c, .string k, .string v]] w fun e w' => e = .returned (.int .i64 1) ∧ Below w.heap.size w w' := by
  obtain ⟨W0, hW0⟩ : ∃ W0, W0 = w.alloc (.cells #[.int .i64 c, .string k, .string v] 60) := ⟨_, rfl⟩
  have bb := box_below w (.cells #[.int .i64 c, .string k, .string v] 60)
  rw [← hW0] at bb
  have HN := hid (H.later bb)
  have BB := hid bb
  have HW := hid hW0
  clear H hW0 bb
  go_enter Try.func36, Try.ntmps36
  go_wp2_with fail
  rw [← HW.out]
  refine (isnone_non p W0 HN.out).mono ?_
  rintro e w' ⟨rfl, rfl⟩
  go_wp2_with fail
  go_ret
  exact ⟨rfl, BB.out⟩
theorem put_non (p : Option Addr) (k v : ByteArray) (w : World) (H : Non w p) : Calls Try.prog 16 #[.pointer p, .string k, .string v] w fun e w' => e = .returned (.int .i64 1) ∧ Below w.heap.size w w' := by
  have HA := hid (add_non p 1 k v w H)
  clear H
  go_enter Try.func16, Try.ntmps16
  go_wp2_with fail
  refine HA.out.mono ?_
  rintro e w' ⟨rfl, b⟩
  have b := hid b
  go_wp2_with fail
  go_ret
  exact ⟨rfl, b.out⟩
theorem delete_non (p : Option Addr) (k : ByteArray) (w : World) (H : Non w p) : Calls Try.prog 17 #[.pointer p, .string k] w fun e w' => e = .returned (.int .i64 1) ∧ Below w.heap.size w w' := by
  have HA := hid (add_non p 0 k ⟨#[]⟩ w H)
  clear H
  go_enter Try.func17, Try.ntmps17
  go_wp2_with fail
  refine HA.out.mono ?_
  rintro e w' ⟨rfl, b⟩
  have b := hid b
  go_wp2_with fail
  go_ret
  exact ⟨rfl, b.out⟩
theorem range_non (p : Option Addr) (k v : ByteArray) (w : World) (H : Non w p) : Calls Try.prog 18 #[.pointer p, .string k, .string v] w fun e w' => e = .returned (.int .i64 1) ∧ Below w.heap.size w w' := by
  have HA := hid (add_non p 2 k v w H)
  clear H
  go_enter Try.func18, Try.ntmps18
  go_wp2_with fail
  refine HA.out.mono ?_
  rintro e w' ⟨rfl, b⟩
  have b := hid b
  go_wp2_with fail
  go_ret
  exact ⟨rfl, b.out⟩
end Go.Proofs.Ytmceanfgcehfeab.Bv

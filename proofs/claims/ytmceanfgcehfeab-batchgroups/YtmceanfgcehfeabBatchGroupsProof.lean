/- Proved: for every number and all operations of three batches BatchGroups returns true: joined batches have the operations of all, numbered on; which two of three are joined first changes nothing. -/
import Derived.Test.YtmceanfgcehfeabOw
import Derived.Test.YtmceanfgcehfeabWk
import Derived.BigQuiet
import Derived.Deep.QuietTactic
import Derived.ShutString
import Derived.ChangeOld
import Derived.Below
import Derived.SizedLaws
import Derived.Deep.RegionWith
import Derived.Lib.SmallJoins
namespace Go.Proofs.Ytmceanfgcehfeab.batchGroups
open Go.Proofs.Ytmceanfgcehfeab
open Go.Proofs.Ytmceanfgcehfeab.Ob
open Go.Proofs.Ytmceanfgcehfeab.By (Row Bytes nil_bytes row_below lb bytes_kept)
open Go.Proofs.Ytmceanfgcehfeab.En
open Go.Proofs.Ytmceanfgcehfeab.De
open Go.Proofs.Ytmceanfgcehfeab.Pu
open Go.Proofs.Ytmceanfgcehfeab.Jo
open Go.Proofs.Ytmceanfgcehfeab.Wk
open Go.Proofs.Ytmceanfgcehfeab.Ow
open Go.ChangeShapes Go.WideShapes Go.ChangeAt Go.RowKit Go.Joins
open Go.ChangeMaps (open_string shut_string)
set_option linter.unusedVariables false

theorem may_of {s : Int} {xs : List O} (h : encE s xs = 0) : ∀ x ∈ xs, may x = true := all_may xs (chk_parts (encE_ok h).1).2.1
theorem join_enc (s t : Int) (xs ys : List O) (hs : 0 ≤ s ∧ s ≤ 18446744073709551615) (ht : 0 ≤ t ∧ t ≤ 18446744073709551615) (h : encE s xs = 0) (h' : encE t ys = 0) : joinR (enc s xs) (enc t ys) = encR s (xs ++ ys) := by
  unfold joinR
  rw [dec_enc s xs hs h]
  simp only
  rw [dec_enc t ys ht h']
theorem codes (s : Int) (xs : List O) (h : ∀ x ∈ xs, may x = true) : encE s xs = 0 ∨ encE s xs = 3 ∨ encE s xs = 42 := by
  unfold encE
  by_cases h1 : 4096 < xs.length
  · rw [chk_long h1]; simp
  · by_cases h2 : 1048576 < bsz xs
    · rw [chk_big h1 (bad_of_all xs h) h2]; simp
    · rw [chk_ok h1 (bad_of_all xs h) h2, if_pos rfl]
      split <;> simp
theorem encR_ok {s : Int} {xs : List O} (h : encE s xs = 0) : encR s xs = (0, enc s xs) := by unfold encR; rw [if_pos h]
theorem encR_pair (s : Int) (xs : List O) : encR s xs = (encE s xs, (encR s xs).2) := by
  by_cases h : encE s xs = 0
  · rw [encR_ok h, h]
  · unfold encR; rw [if_neg h]
theorem encR_no {s : Int} {xs : List O} (h : encE s xs ≠ 0) : encR s xs = (encE s xs, []) := by unfold encR; rw [if_neg h]
set_option maxRecDepth 100000 in
set_option maxHeartbeats 4000000 in
theorem walk_no0 (s : Int) (a : Option Addr) (len cap : Nat) (xs : List O) (b : Option Addr) (lenb capb : Nat) (ys : List O) (c : Option Addr) (lenc capc : Nat) (zs : List O) (w : World) (hs : 0 ≤ s ∧ s ≤ 18446744073709551615) (H : Ops w a len cap xs) (hl : len ≤ 140737488351232 / 40) (H2 : Ops w b lenb capb ys) (hl2 : lenb ≤ 140737488351232 / 40) (H3 : Ops w c lenc capc zs) (hl3 : lenc ≤ 140737488351232 / 40) (h1 : encE s xs ≠ 0) :
    Calls Try.prog 6 #[.int .u64 s, .slice a len cap, .agg #[.slice b lenb capb, .slice c lenc capc]] w fun e w' => e = .returned (.bool true) ∧ Below w.heap.size w w' := by
  have R1 := fun W hW => encode_res s a len cap xs W (H.later hW) (by omega) hs
  have R2 := fun W hW => encode_res 1 b lenb capb ys W (H2.later hW) (by omega) (by omega)
  have R3 := fun W hW => encode_res 2 c lenc capc zs W (H3.later hW) (by omega) (by omega)
  have e1 : (encR s xs).1 = encE s xs := by unfold encR; split <;> simp_all
  have e2 : (encR 1 ys).1 = encE 1 ys := by unfold encR; split <;> simp_all
  have e3 : (encR 2 zs).1 = encE 2 zs := by unfold encR; split <;> simp_all
  rw [e1] at R1
  rw [e2] at R2
  rw [e3] at R3
  have HR1 := hid R1
  have HR2 := hid R2
  have HR3 := hid R3
  clear R1 R2 R3 e1 e2 e3
  have d1 : ((encE s xs) == 0) = false := by simp [h1]
  have f1 : ((encE s xs) != 0) = true := by simp [h1]
  generalize encE s xs = E1 at *
  generalize encE 1 ys = E2 at *
  generalize encE 2 zs = E3 at *
  clear h1
  obtain ⟨W0, hW0⟩ : ∃ W0, W0 = w.alloc (.cells #[.slice b lenb capb, .slice c lenc capc] 57) := ⟨_, rfl⟩
  have c0 : W0.cell? ⟨w.heap.size, 0, none⟩ = some (.slice b lenb capb) := by rw [hW0]; go_simp
  have c1 : W0.cell? ⟨w.heap.size, 1, none⟩ = some (.slice c lenc capc) := by rw [hW0]; go_simp
  have BW0 : Hid (Below w.heap.size w W0) := by show Below _ _ _; rw [hW0]; exact box_below _ _
  have HW0 := hid hW0
  have HH := hid H
  have HH2 := hid H2
  have HH3 := hid H3
  clear hW0 H H2 H3
  go_enter Try.func6, Try.ntmps6
  go_wp2_with fail
  rw [← HW0.out]
  go_quiet (fail)
  have BW1 : Hid (Below w.heap.size w (W0.drewN nq)) := below_drewN BW0.out nq
  generalize W0.drewN nq = w0 at BW1
  go_wp2_with fail
  refine (works_any w0).mono ?_
  rintro e w1 ⟨rfl, b1⟩
  have HB1 : Hid (Below w.heap.size w w1) := BW1.out.trans (b1.mono BW1.out.size)
  clear b1 BW1 BW0 HW0 c0 c1
  go_wp2_with fail
  refine (HR1.out w1 HB1.out).mono ?_
  rintro e w2 ⟨v2, rfl, _, b2⟩
  have HB2 : Hid (Below w.heap.size w w2) := HB1.out.trans (b2.mono HB1.out.size)
  clear b2 HB1
  go_wp2_with fail
  refine (HR2.out w2 HB2.out).mono ?_
  rintro e w3 ⟨v3, rfl, _, b3⟩
  have HB3 : Hid (Below w.heap.size w w3) := HB2.out.trans (b3.mono HB2.out.size)
  clear b3 HB2
  go_wp2_with fail
  refine (HR3.out w3 HB3.out).mono ?_
  rintro e w4 ⟨v4, rfl, _, b4⟩
  have HB4 : Hid (Below w.heap.size w w4) := HB3.out.trans (b4.mono HB3.out.size)
  clear b4 HB3
  go_wp2_with fail
  go_ret
  exact ⟨rfl, HB4.out⟩
set_option maxRecDepth 100000 in
set_option maxHeartbeats 4000000 in
theorem walk_no1 (s : Int) (a : Option Addr) (len cap : Nat) (xs : List O) (b : Option Addr) (lenb capb : Nat) (ys : List O) (c : Option Addr) (lenc capc : Nat) (zs : List O) (w : World) (hs : 0 ≤ s ∧ s ≤ 18446744073709551615) (H : Ops w a len cap xs) (hl : len ≤ 140737488351232 / 40) (H2 : Ops w b lenb capb ys) (hl2 : lenb ≤ 140737488351232 / 40) (H3 : Ops w c lenc capc zs) (hl3 : lenc ≤ 140737488351232 / 40) (h1 : encE s xs = 0) (h2 : encE 1 ys ≠ 0) :
    Calls Try.prog 6 #[.int .u64 s, .slice a len cap, .agg #[.slice b lenb capb, .slice c lenc capc]] w fun e w' => e = .returned (.bool true) ∧ Below w.heap.size w w' := by
  have R1 := fun W hW => encode_res s a len cap xs W (H.later hW) (by omega) hs
  have R2 := fun W hW => encode_res 1 b lenb capb ys W (H2.later hW) (by omega) (by omega)
  have R3 := fun W hW => encode_res 2 c lenc capc zs W (H3.later hW) (by omega) (by omega)
  have e1 : (encR s xs).1 = encE s xs := by unfold encR; split <;> simp_all
  have e2 : (encR 1 ys).1 = encE 1 ys := by unfold encR; split <;> simp_all
  have e3 : (encR 2 zs).1 = encE 2 zs := by unfold encR; split <;> simp_all
  rw [e1] at R1
  rw [e2] at R2
  rw [e3] at R3
  have HR1 := hid R1
  have HR2 := hid R2
  have HR3 := hid R3
  clear R1 R2 R3 e1 e2 e3
  have d1 : ((encE s xs) == 0) = true := by simp [h1]
  have f1 : ((encE s xs) != 0) = false := by simp [h1]
  have d2 : ((encE 1 ys) == 0) = false := by simp [h2]
  have f2 : ((encE 1 ys) != 0) = true := by simp [h2]
  generalize encE s xs = E1 at *
  generalize encE 1 ys = E2 at *
  generalize encE 2 zs = E3 at *
  clear h1 h2
  obtain ⟨W0, hW0⟩ : ∃ W0, W0 = w.alloc (.cells #[.slice b lenb capb, .slice c lenc capc] 57) := ⟨_, rfl⟩
  have c0 : W0.cell? ⟨w.heap.size, 0, none⟩ = some (.slice b lenb capb) := by rw [hW0]; go_simp
  have c1 : W0.cell? ⟨w.heap.size, 1, none⟩ = some (.slice c lenc capc) := by rw [hW0]; go_simp
  have BW0 : Hid (Below w.heap.size w W0) := by show Below _ _ _; rw [hW0]; exact box_below _ _
  have HW0 := hid hW0
  have HH := hid H
  have HH2 := hid H2
  have HH3 := hid H3
  clear hW0 H H2 H3
  go_enter Try.func6, Try.ntmps6
  go_wp2_with fail
  rw [← HW0.out]
  go_quiet (fail)
  have BW1 : Hid (Below w.heap.size w (W0.drewN nq)) := below_drewN BW0.out nq
  generalize W0.drewN nq = w0 at BW1
  go_wp2_with fail
  refine (works_any w0).mono ?_
  rintro e w1 ⟨rfl, b1⟩
  have HB1 : Hid (Below w.heap.size w w1) := BW1.out.trans (b1.mono BW1.out.size)
  clear b1 BW1 BW0 HW0 c0 c1
  go_wp2_with fail
  refine (HR1.out w1 HB1.out).mono ?_
  rintro e w2 ⟨v2, rfl, _, b2⟩
  have HB2 : Hid (Below w.heap.size w w2) := HB1.out.trans (b2.mono HB1.out.size)
  clear b2 HB1
  go_wp2_with fail
  refine (HR2.out w2 HB2.out).mono ?_
  rintro e w3 ⟨v3, rfl, _, b3⟩
  have HB3 : Hid (Below w.heap.size w w3) := HB2.out.trans (b3.mono HB2.out.size)
  clear b3 HB2
  go_wp2_with fail
  refine (HR3.out w3 HB3.out).mono ?_
  rintro e w4 ⟨v4, rfl, _, b4⟩
  have HB4 : Hid (Below w.heap.size w w4) := HB3.out.trans (b4.mono HB3.out.size)
  clear b4 HB3
  go_wp2_with fail
  go_ret
  exact ⟨rfl, HB4.out⟩
set_option maxRecDepth 100000 in
set_option maxHeartbeats 4000000 in
theorem walk_no2 (s : Int) (a : Option Addr) (len cap : Nat) (xs : List O) (b : Option Addr) (lenb capb : Nat) (ys : List O) (c : Option Addr) (lenc capc : Nat) (zs : List O) (w : World) (hs : 0 ≤ s ∧ s ≤ 18446744073709551615) (H : Ops w a len cap xs) (hl : len ≤ 140737488351232 / 40) (H2 : Ops w b lenb capb ys) (hl2 : lenb ≤ 140737488351232 / 40) (H3 : Ops w c lenc capc zs) (hl3 : lenc ≤ 140737488351232 / 40) (h1 : encE s xs = 0) (h2 : encE 1 ys = 0) (h3 : encE 2 zs ≠ 0) :
    Calls Try.prog 6 #[.int .u64 s, .slice a len cap, .agg #[.slice b lenb capb, .slice c lenc capc]] w fun e w' => e = .returned (.bool true) ∧ Below w.heap.size w w' := by
  have R1 := fun W hW => encode_res s a len cap xs W (H.later hW) (by omega) hs
  have R2 := fun W hW => encode_res 1 b lenb capb ys W (H2.later hW) (by omega) (by omega)
  have R3 := fun W hW => encode_res 2 c lenc capc zs W (H3.later hW) (by omega) (by omega)
  have e1 : (encR s xs).1 = encE s xs := by unfold encR; split <;> simp_all
  have e2 : (encR 1 ys).1 = encE 1 ys := by unfold encR; split <;> simp_all
  have e3 : (encR 2 zs).1 = encE 2 zs := by unfold encR; split <;> simp_all
  rw [e1] at R1
  rw [e2] at R2
  rw [e3] at R3
  have HR1 := hid R1
  have HR2 := hid R2
  have HR3 := hid R3
  clear R1 R2 R3 e1 e2 e3
  have d1 : ((encE s xs) == 0) = true := by simp [h1]
  have f1 : ((encE s xs) != 0) = false := by simp [h1]
  have d2 : ((encE 1 ys) == 0) = true := by simp [h2]
  have f2 : ((encE 1 ys) != 0) = false := by simp [h2]
  have d3 : ((encE 2 zs) == 0) = false := by simp [h3]
  have f3 : ((encE 2 zs) != 0) = true := by simp [h3]
  generalize encE s xs = E1 at *
  generalize encE 1 ys = E2 at *
  generalize encE 2 zs = E3 at *
  clear h1 h2 h3
  obtain ⟨W0, hW0⟩ : ∃ W0, W0 = w.alloc (.cells #[.slice b lenb capb, .slice c lenc capc] 57) := ⟨_, rfl⟩
  have c0 : W0.cell? ⟨w.heap.size, 0, none⟩ = some (.slice b lenb capb) := by rw [hW0]; go_simp
  have c1 : W0.cell? ⟨w.heap.size, 1, none⟩ = some (.slice c lenc capc) := by rw [hW0]; go_simp
  have BW0 : Hid (Below w.heap.size w W0) := by show Below _ _ _; rw [hW0]; exact box_below _ _
  have HW0 := hid hW0
  have HH := hid H
  have HH2 := hid H2
  have HH3 := hid H3
  clear hW0 H H2 H3
  go_enter Try.func6, Try.ntmps6
  go_wp2_with fail
  rw [← HW0.out]
  go_quiet (fail)
  have BW1 : Hid (Below w.heap.size w (W0.drewN nq)) := below_drewN BW0.out nq
  generalize W0.drewN nq = w0 at BW1
  go_wp2_with fail
  refine (works_any w0).mono ?_
  rintro e w1 ⟨rfl, b1⟩
  have HB1 : Hid (Below w.heap.size w w1) := BW1.out.trans (b1.mono BW1.out.size)
  clear b1 BW1 BW0 HW0 c0 c1
  go_wp2_with fail
  refine (HR1.out w1 HB1.out).mono ?_
  rintro e w2 ⟨v2, rfl, _, b2⟩
  have HB2 : Hid (Below w.heap.size w w2) := HB1.out.trans (b2.mono HB1.out.size)
  clear b2 HB1
  go_wp2_with fail
  refine (HR2.out w2 HB2.out).mono ?_
  rintro e w3 ⟨v3, rfl, _, b3⟩
  have HB3 : Hid (Below w.heap.size w w3) := HB2.out.trans (b3.mono HB2.out.size)
  clear b3 HB2
  go_wp2_with fail
  refine (HR3.out w3 HB3.out).mono ?_
  rintro e w4 ⟨v4, rfl, _, b4⟩
  have HB4 : Hid (Below w.heap.size w w4) := HB3.out.trans (b4.mono HB3.out.size)
  clear b4 HB3
  go_wp2_with fail
  go_ret
  exact ⟨rfl, HB4.out⟩
set_option maxRecDepth 100000 in
set_option maxHeartbeats 8000000 in
theorem walk_j4 (s : Int) (a : Option Addr) (len cap : Nat) (xs : List O) (b : Option Addr) (lenb capb : Nat) (ys : List O) (c : Option Addr) (lenc capc : Nat) (zs : List O) (w : World) (hs : 0 ≤ s ∧ s ≤ 18446744073709551615) (H : Ops w a len cap xs) (hl : len ≤ 140737488351232 / 40) (H2 : Ops w b lenb capb ys) (hl2 : lenb ≤ 140737488351232 / 40) (H3 : Ops w c lenc capc zs) (hl3 : lenc ≤ 140737488351232 / 40) (h1 : encE s xs = 0) (h2 : encE 1 ys = 0) (h3 : encE 2 zs = 0) (h4 : encE s (xs ++ ys) ≠ 0) :
    Calls Try.prog 6 #[.int .u64 s, .slice a len cap, .agg #[.slice b lenb capb, .slice c lenc capc]] w fun e w' => e = .returned (.bool true) ∧ Below w.heap.size w w' := by
  have m1 := may_of h1
  have m2 := may_of h2
  have m3 := may_of h3
  have p1 := (chk_parts (encE_ok h1).1)
  have p2 := (chk_parts (encE_ok h2).1)
  have p3 := (chk_parts (encE_ok h3).1)
  have L1 : len ≤ 4096 := by have := H.1; omega
  have L2 : lenb ≤ 4096 := by have := H2.1; omega
  have L3 : lenc ≤ 4096 := by have := H3.1; omega
  have R1 := hid (fun W hW => encode_ok s a len cap xs W (H.later hW) hs h1)
  have R2 := hid (fun W hW => encode_ok 1 b lenb capb ys W (H2.later hW) (by omega) h2)
  have R3 := hid (fun W hW => encode_ok 2 c lenc capc zs W (H3.later hW) (by omega) h3)
  have B1 := hid (enc_bytes s xs m1)
  have B2 := hid (enc_bytes 1 ys m2)
  have B3 := hid (enc_bytes 2 zs m3)
  have J4 : Hid (joinR (enc s xs) (enc 1 ys) = encR s (xs ++ ys)) := join_enc s 1 xs ys hs (by omega) h1 h2
  have J5 : Hid (joinR (enc 1 ys) (enc 2 zs) = encR 1 (ys ++ zs)) := join_enc 1 2 ys zs (by omega) (by omega) h2 h3
  have C4 := codes s (xs ++ ys) (fun x hx => by rcases List.mem_append.1 hx with h | h; exact m1 x h; exact m2 x h)
  have C5 := codes 1 (ys ++ zs) (fun x hx => by rcases List.mem_append.1 hx with h | h; exact m2 x h; exact m3 x h)
  have mL : ∀ x ∈ xs ++ (ys ++ zs), may x = true := fun x hx => by
    rcases List.mem_append.1 hx with h | h
    · exact m1 x h
    · rcases List.mem_append.1 h with h | h
      · exact m2 x h
      · exact m3 x h
  have C6 := codes s (xs ++ (ys ++ zs)) mL
  have HML := hid mL
  have z1 : bsz xs ≤ 1048576 := p1.2.2.1
  have z2 : bsz ys ≤ 1048576 := p2.2.2.1
  have z3 : bsz zs ≤ 1048576 := p3.2.2.1
  have n1 : (enc s xs).length = bsz xs := enc_len s xs
  have n2 : (enc 1 ys).length = bsz ys := enc_len 1 ys
  have n3 : (enc 2 zs).length = bsz zs := enc_len 2 zs
  have N1 := hid n1
  have N2 := hid n2
  have N3 := hid n3
  have e4 := encR_pair s (xs ++ ys)
  have e5 := encR_pair 1 (ys ++ zs)
  rw [e4] at J4
  rw [e5] at J5
  generalize (encR s (xs ++ ys)).2 = Z4 at J4
  generalize (encR 1 (ys ++ zs)).2 = Z5 at J5
  generalize encE s (xs ++ ys) = E4 at *
  generalize encE 1 (ys ++ zs) = E5 at *
  have d4 : (E4 == 0) = false := by simp [h4]
  have f4 : (E4 != 0) = true := by simp [h4]
  have g4 : (E4 != 41) = true := by simp; omega
  have g4' : (E4 == 41) = false := by simp; omega
  have g5 : (E5 != 41) = true := by simp; omega
  have g5' : (E5 == 41) = false := by simp; omega
  clear e4 e5 C4 C5 C6 h4
  clear m1 m2 m3 p1 p2 p3 h1 h2 h3 mL n1 n2 n3
  generalize enc s xs = X at *
  generalize enc 1 ys = Y at *
  generalize enc 2 zs = Zz at *
  obtain ⟨W0, hW0⟩ : ∃ W0, W0 = w.alloc (.cells #[.slice b lenb capb, .slice c lenc capc] 57) := ⟨_, rfl⟩
  have c0 : W0.cell? ⟨w.heap.size, 0, none⟩ = some (.slice b lenb capb) := by rw [hW0]; go_simp
  have c1 : W0.cell? ⟨w.heap.size, 1, none⟩ = some (.slice c lenc capc) := by rw [hW0]; go_simp
  have BW0 : Hid (Below w.heap.size w W0) := by show Below _ _ _; rw [hW0]; exact box_below _ _
  have HW0 := hid hW0
  have HH := hid H
  have HH2 := hid H2
  have HH3 := hid H3
  clear hW0 H H2 H3
  go_enter Try.func6, Try.ntmps6
  go_wp2_with fail
  rw [← HW0.out]
  go_quiet (fail)
  have BW1 : Hid (Below w.heap.size w (W0.drewN nq)) := below_drewN BW0.out nq
  generalize W0.drewN nq = w0 at BW1
  go_wp2_with fail
  refine (works_any w0).mono ?_
  rintro e w1 ⟨rfl, b1⟩
  have HB1 : Hid (Below w.heap.size w w1) := BW1.out.trans (b1.mono BW1.out.size)
  clear b1 BW1 BW0 HW0 c0 c1
  go_wp2_with fail
  refine (R1.out w1 HB1.out).mono ?_
  rintro e w2 ⟨g1, c1, rfl, r1, b2⟩
  have HB2 : Hid (Below w.heap.size w w2) := HB1.out.trans (b2.mono HB1.out.size)
  have HX := hid (r1.bytes B1.out)
  clear b2 HB1 r1 R1
  go_wp2_with fail
  refine (R2.out w2 HB2.out).mono ?_
  rintro e w3 ⟨g2, c2, rfl, r2, b3⟩
  have HB3 : Hid (Below w.heap.size w w3) := HB2.out.trans (b3.mono HB2.out.size)
  have HX := hid (bytes_kept HX.out b3)
  have HY := hid (r2.bytes B2.out)
  clear b3 HB2 r2 R2
  go_wp2_with fail
  refine (R3.out w3 HB3.out).mono ?_
  rintro e w4 ⟨g3, c3, rfl, r3, b4⟩
  have HB4 : Hid (Below w.heap.size w w4) := HB3.out.trans (b4.mono HB3.out.size)
  have HX := hid (bytes_kept HX.out b4)
  have HY := hid (bytes_kept HY.out b4)
  have HZ := hid (r3.bytes B3.out)
  clear b4 HB3 r3 R3
  go_wp2_with fail
  refine (join_any (some ⟨g1, 0, none⟩) (bsz xs) c1 X (some ⟨g2, 0, none⟩) (bsz ys) c2 Y w4 HX.out (by omega) HY.out (by omega)).mono ?_
  rw [J4.out]
  rintro e w5 ⟨v5, rfl, r5, b5⟩
  have HB5 : Hid (Below w.heap.size w w5) := HB4.out.trans (b5.mono HB4.out.size)
  have HX := hid (bytes_kept HX.out b5)
  have HY := hid (bytes_kept HY.out b5)
  have HZ := hid (bytes_kept HZ.out b5)
  have Hr5 := hid r5
  clear b5 HB4 r5
  go_wp2_with fail
  refine (join_any (some ⟨g2, 0, none⟩) (bsz ys) c2 Y (some ⟨g3, 0, none⟩) (bsz zs) c3 Zz w5 HY.out (by omega) HZ.out (by omega)).mono ?_
  rw [J5.out]
  rintro e w6 ⟨v6, rfl, r6, b6⟩
  have HB6 : Hid (Below w.heap.size w w6) := HB5.out.trans (b6.mono HB5.out.size)
  clear b6 HB5 r6 Hr5 HX HY HZ
  go_wp2_with fail
  go_ret
  exact ⟨rfl, HB6.out⟩
set_option maxRecDepth 100000 in
set_option maxHeartbeats 8000000 in
theorem walk_j5 (s : Int) (a : Option Addr) (len cap : Nat) (xs : List O) (b : Option Addr) (lenb capb : Nat) (ys : List O) (c : Option Addr) (lenc capc : Nat) (zs : List O) (w : World) (hs : 0 ≤ s ∧ s ≤ 18446744073709551615) (H : Ops w a len cap xs) (hl : len ≤ 140737488351232 / 40) (H2 : Ops w b lenb capb ys) (hl2 : lenb ≤ 140737488351232 / 40) (H3 : Ops w c lenc capc zs) (hl3 : lenc ≤ 140737488351232 / 40) (h1 : encE s xs = 0) (h2 : encE 1 ys = 0) (h3 : encE 2 zs = 0) (h4 : encE s (xs ++ ys) = 0) (h5 : encE 1 (ys ++ zs) ≠ 0) :
    Calls Try.prog 6 #[.int .u64 s, .slice a len cap, .agg #[.slice b lenb capb, .slice c lenc capc]] w fun e w' => e = .returned (.bool true) ∧ Below w.heap.size w w' := by
  have m1 := may_of h1
  have m2 := may_of h2
  have m3 := may_of h3
  have p1 := (chk_parts (encE_ok h1).1)
  have p2 := (chk_parts (encE_ok h2).1)
  have p3 := (chk_parts (encE_ok h3).1)
  have L1 : len ≤ 4096 := by have := H.1; omega
  have L2 : lenb ≤ 4096 := by have := H2.1; omega
  have L3 : lenc ≤ 4096 := by have := H3.1; omega
  have R1 := hid (fun W hW => encode_ok s a len cap xs W (H.later hW) hs h1)
  have R2 := hid (fun W hW => encode_ok 1 b lenb capb ys W (H2.later hW) (by omega) h2)
  have R3 := hid (fun W hW => encode_ok 2 c lenc capc zs W (H3.later hW) (by omega) h3)
  have B1 := hid (enc_bytes s xs m1)
  have B2 := hid (enc_bytes 1 ys m2)
  have B3 := hid (enc_bytes 2 zs m3)
  have J4 : Hid (joinR (enc s xs) (enc 1 ys) = encR s (xs ++ ys)) := join_enc s 1 xs ys hs (by omega) h1 h2
  have J5 : Hid (joinR (enc 1 ys) (enc 2 zs) = encR 1 (ys ++ zs)) := join_enc 1 2 ys zs (by omega) (by omega) h2 h3
  have C4 := codes s (xs ++ ys) (fun x hx => by rcases List.mem_append.1 hx with h | h; exact m1 x h; exact m2 x h)
  have C5 := codes 1 (ys ++ zs) (fun x hx => by rcases List.mem_append.1 hx with h | h; exact m2 x h; exact m3 x h)
  have mL : ∀ x ∈ xs ++ (ys ++ zs), may x = true := fun x hx => by
    rcases List.mem_append.1 hx with h | h
    · exact m1 x h
    · rcases List.mem_append.1 h with h | h
      · exact m2 x h
      · exact m3 x h
  have C6 := codes s (xs ++ (ys ++ zs)) mL
  have HML := hid mL
  have z1 : bsz xs ≤ 1048576 := p1.2.2.1
  have z2 : bsz ys ≤ 1048576 := p2.2.2.1
  have z3 : bsz zs ≤ 1048576 := p3.2.2.1
  have n1 : (enc s xs).length = bsz xs := enc_len s xs
  have n2 : (enc 1 ys).length = bsz ys := enc_len 1 ys
  have n3 : (enc 2 zs).length = bsz zs := enc_len 2 zs
  have N1 := hid n1
  have N2 := hid n2
  have N3 := hid n3
  have e4 := encR_pair s (xs ++ ys)
  have e5 := encR_pair 1 (ys ++ zs)
  rw [e4] at J4
  rw [e5] at J5
  generalize (encR s (xs ++ ys)).2 = Z4 at J4
  generalize (encR 1 (ys ++ zs)).2 = Z5 at J5
  generalize encE s (xs ++ ys) = E4 at *
  generalize encE 1 (ys ++ zs) = E5 at *
  have d4 : (E4 == 0) = true := by simp [h4]
  have f4 : (E4 != 0) = false := by simp [h4]
  have g4 : (E4 != 41) = true := by simp; omega
  have g4' : (E4 == 41) = false := by simp; omega
  have g5 : (E5 != 41) = true := by simp; omega
  have g5' : (E5 == 41) = false := by simp; omega
  have d5 : (E5 == 0) = false := by simp [h5]
  have f5 : (E5 != 0) = true := by simp [h5]
  clear e4 e5 C4 C5 C6 h4 h5
  clear m1 m2 m3 p1 p2 p3 h1 h2 h3 mL n1 n2 n3
  generalize enc s xs = X at *
  generalize enc 1 ys = Y at *
  generalize enc 2 zs = Zz at *
  obtain ⟨W0, hW0⟩ : ∃ W0, W0 = w.alloc (.cells #[.slice b lenb capb, .slice c lenc capc] 57) := ⟨_, rfl⟩
  have c0 : W0.cell? ⟨w.heap.size, 0, none⟩ = some (.slice b lenb capb) := by rw [hW0]; go_simp
  have c1 : W0.cell? ⟨w.heap.size, 1, none⟩ = some (.slice c lenc capc) := by rw [hW0]; go_simp
  have BW0 : Hid (Below w.heap.size w W0) := by show Below _ _ _; rw [hW0]; exact box_below _ _
  have HW0 := hid hW0
  have HH := hid H
  have HH2 := hid H2
  have HH3 := hid H3
  clear hW0 H H2 H3
  go_enter Try.func6, Try.ntmps6
  go_wp2_with fail
  rw [← HW0.out]
  go_quiet (fail)
  have BW1 : Hid (Below w.heap.size w (W0.drewN nq)) := below_drewN BW0.out nq
  generalize W0.drewN nq = w0 at BW1
  go_wp2_with fail
  refine (works_any w0).mono ?_
  rintro e w1 ⟨rfl, b1⟩
  have HB1 : Hid (Below w.heap.size w w1) := BW1.out.trans (b1.mono BW1.out.size)
  clear b1 BW1 BW0 HW0 c0 c1
  go_wp2_with fail
  refine (R1.out w1 HB1.out).mono ?_
  rintro e w2 ⟨g1, c1, rfl, r1, b2⟩
  have HB2 : Hid (Below w.heap.size w w2) := HB1.out.trans (b2.mono HB1.out.size)
  have HX := hid (r1.bytes B1.out)
  clear b2 HB1 r1 R1
  go_wp2_with fail
  refine (R2.out w2 HB2.out).mono ?_
  rintro e w3 ⟨g2, c2, rfl, r2, b3⟩
  have HB3 : Hid (Below w.heap.size w w3) := HB2.out.trans (b3.mono HB2.out.size)
  have HX := hid (bytes_kept HX.out b3)
  have HY := hid (r2.bytes B2.out)
  clear b3 HB2 r2 R2
  go_wp2_with fail
  refine (R3.out w3 HB3.out).mono ?_
  rintro e w4 ⟨g3, c3, rfl, r3, b4⟩
  have HB4 : Hid (Below w.heap.size w w4) := HB3.out.trans (b4.mono HB3.out.size)
  have HX := hid (bytes_kept HX.out b4)
  have HY := hid (bytes_kept HY.out b4)
  have HZ := hid (r3.bytes B3.out)
  clear b4 HB3 r3 R3
  go_wp2_with fail
  refine (join_any (some ⟨g1, 0, none⟩) (bsz xs) c1 X (some ⟨g2, 0, none⟩) (bsz ys) c2 Y w4 HX.out (by omega) HY.out (by omega)).mono ?_
  rw [J4.out]
  rintro e w5 ⟨v5, rfl, r5, b5⟩
  have HB5 : Hid (Below w.heap.size w w5) := HB4.out.trans (b5.mono HB4.out.size)
  have HX := hid (bytes_kept HX.out b5)
  have HY := hid (bytes_kept HY.out b5)
  have HZ := hid (bytes_kept HZ.out b5)
  have Hr5 := hid r5
  clear b5 HB4 r5
  go_wp2_with fail
  refine (join_any (some ⟨g2, 0, none⟩) (bsz ys) c2 Y (some ⟨g3, 0, none⟩) (bsz zs) c3 Zz w5 HY.out (by omega) HZ.out (by omega)).mono ?_
  rw [J5.out]
  rintro e w6 ⟨v6, rfl, r6, b6⟩
  have HB6 : Hid (Below w.heap.size w w6) := HB5.out.trans (b6.mono HB5.out.size)
  clear b6 HB5 r6 Hr5 HX HY HZ
  go_wp2_with fail
  go_ret
  exact ⟨rfl, HB6.out⟩
set_option maxRecDepth 100000 in
set_option maxHeartbeats 8000000 in
theorem walk_l (s : Int) (a : Option Addr) (len cap : Nat) (xs : List O) (b : Option Addr) (lenb capb : Nat) (ys : List O) (c : Option Addr) (lenc capc : Nat) (zs : List O) (w : World) (hs : 0 ≤ s ∧ s ≤ 18446744073709551615) (H : Ops w a len cap xs) (hl : len ≤ 140737488351232 / 40) (H2 : Ops w b lenb capb ys) (hl2 : lenb ≤ 140737488351232 / 40) (H3 : Ops w c lenc capc zs) (hl3 : lenc ≤ 140737488351232 / 40) (h1 : encE s xs = 0) (h2 : encE 1 ys = 0) (h3 : encE 2 zs = 0) (h4 : encE s (xs ++ ys) = 0) (h5 : encE 1 (ys ++ zs) = 0) (h6 : encE s (xs ++ (ys ++ zs)) ≠ 0) :
    Calls Try.prog 6 #[.int .u64 s, .slice a len cap, .agg #[.slice b lenb capb, .slice c lenc capc]] w fun e w' => e = .returned (.bool true) ∧ Below w.heap.size w w' := by
  have m1 := may_of h1
  have m2 := may_of h2
  have m3 := may_of h3
  have p1 := (chk_parts (encE_ok h1).1)
  have p2 := (chk_parts (encE_ok h2).1)
  have p3 := (chk_parts (encE_ok h3).1)
  have L1 : len ≤ 4096 := by have := H.1; omega
  have L2 : lenb ≤ 4096 := by have := H2.1; omega
  have L3 : lenc ≤ 4096 := by have := H3.1; omega
  have R1 := hid (fun W hW => encode_ok s a len cap xs W (H.later hW) hs h1)
  have R2 := hid (fun W hW => encode_ok 1 b lenb capb ys W (H2.later hW) (by omega) h2)
  have R3 := hid (fun W hW => encode_ok 2 c lenc capc zs W (H3.later hW) (by omega) h3)
  have B1 := hid (enc_bytes s xs m1)
  have B2 := hid (enc_bytes 1 ys m2)
  have B3 := hid (enc_bytes 2 zs m3)
  have J4 : Hid (joinR (enc s xs) (enc 1 ys) = encR s (xs ++ ys)) := join_enc s 1 xs ys hs (by omega) h1 h2
  have J5 : Hid (joinR (enc 1 ys) (enc 2 zs) = encR 1 (ys ++ zs)) := join_enc 1 2 ys zs (by omega) (by omega) h2 h3
  have C4 := codes s (xs ++ ys) (fun x hx => by rcases List.mem_append.1 hx with h | h; exact m1 x h; exact m2 x h)
  have C5 := codes 1 (ys ++ zs) (fun x hx => by rcases List.mem_append.1 hx with h | h; exact m2 x h; exact m3 x h)
  have mL : ∀ x ∈ xs ++ (ys ++ zs), may x = true := fun x hx => by
    rcases List.mem_append.1 hx with h | h
    · exact m1 x h
    · rcases List.mem_append.1 h with h | h
      · exact m2 x h
      · exact m3 x h
  have C6 := codes s (xs ++ (ys ++ zs)) mL
  have HML := hid mL
  have z1 : bsz xs ≤ 1048576 := p1.2.2.1
  have z2 : bsz ys ≤ 1048576 := p2.2.2.1
  have z3 : bsz zs ≤ 1048576 := p3.2.2.1
  have n1 : (enc s xs).length = bsz xs := enc_len s xs
  have n2 : (enc 1 ys).length = bsz ys := enc_len 1 ys
  have n3 : (enc 2 zs).length = bsz zs := enc_len 2 zs
  have N1 := hid n1
  have N2 := hid n2
  have N3 := hid n3
  have J6 : Hid (joinR (enc s (xs ++ ys)) (enc 2 zs) = encR s (xs ++ (ys ++ zs))) := by show _ = _; rw [join_enc s 2 _ _ hs (by omega) h4 h3, List.append_assoc]
  have J7 : Hid (joinR (enc s xs) (enc 1 (ys ++ zs)) = encR s (xs ++ (ys ++ zs))) := join_enc s 1 _ _ hs (by omega) h1 h5
  rw [encR_ok h4] at J4
  rw [encR_ok h5] at J5
  have B4 := hid (enc_bytes s (xs ++ ys) (may_of h4))
  have B5 := hid (enc_bytes 1 (ys ++ zs) (may_of h5))
  have N4 : Hid ((enc s (xs ++ ys)).length ≤ 1048576) := by show _ ≤ _; rw [enc_len]; exact (chk_parts (encE_ok h4).1).2.2.1
  have N5 : Hid ((enc 1 (ys ++ zs)).length ≤ 1048576) := by show _ ≤ _; rw [enc_len]; exact (chk_parts (encE_ok h5).1).2.2.1
  rw [encR_no h6] at J6 J7
  generalize encE s (xs ++ (ys ++ zs)) = E6 at *
  have d6 : (E6 != E6) = false := bne_self_eq_false _
  have d6' : (E6 == 0) = false := by simp [h6]
  have f6' : (E6 != 0) = true := by simp [h6]
  have HC6 : Hid (E6 = 3 ∨ E6 = 42) := by show _ ∨ _; omega
  clear C4 C5 C6 h6 h4 h5
  clear m1 m2 m3 p1 p2 p3 h1 h2 h3 mL n1 n2 n3
  generalize enc s xs = X at *
  generalize enc 1 ys = Y at *
  generalize enc 2 zs = Zz at *
  obtain ⟨W0, hW0⟩ : ∃ W0, W0 = w.alloc (.cells #[.slice b lenb capb, .slice c lenc capc] 57) := ⟨_, rfl⟩
  have c0 : W0.cell? ⟨w.heap.size, 0, none⟩ = some (.slice b lenb capb) := by rw [hW0]; go_simp
  have c1 : W0.cell? ⟨w.heap.size, 1, none⟩ = some (.slice c lenc capc) := by rw [hW0]; go_simp
  have BW0 : Hid (Below w.heap.size w W0) := by show Below _ _ _; rw [hW0]; exact box_below _ _
  have HW0 := hid hW0
  have HH := hid H
  have HH2 := hid H2
  have HH3 := hid H3
  clear hW0 H H2 H3
  go_enter Try.func6, Try.ntmps6
  go_wp2_with fail
  rw [← HW0.out]
  go_quiet (fail)
  have BW1 : Hid (Below w.heap.size w (W0.drewN nq)) := below_drewN BW0.out nq
  generalize W0.drewN nq = w0 at BW1
  go_wp2_with fail
  refine (works_any w0).mono ?_
  rintro e w1 ⟨rfl, b1⟩
  have HB1 : Hid (Below w.heap.size w w1) := BW1.out.trans (b1.mono BW1.out.size)
  clear b1 BW1 BW0 HW0 c0 c1
  go_wp2_with fail
  refine (R1.out w1 HB1.out).mono ?_
  rintro e w2 ⟨g1, c1, rfl, r1, b2⟩
  have HB2 : Hid (Below w.heap.size w w2) := HB1.out.trans (b2.mono HB1.out.size)
  have HX := hid (r1.bytes B1.out)
  clear b2 HB1 r1 R1
  go_wp2_with fail
  refine (R2.out w2 HB2.out).mono ?_
  rintro e w3 ⟨g2, c2, rfl, r2, b3⟩
  have HB3 : Hid (Below w.heap.size w w3) := HB2.out.trans (b3.mono HB2.out.size)
  have HX := hid (bytes_kept HX.out b3)
  have HY := hid (r2.bytes B2.out)
  clear b3 HB2 r2 R2
  go_wp2_with fail
  refine (R3.out w3 HB3.out).mono ?_
  rintro e w4 ⟨g3, c3, rfl, r3, b4⟩
  have HB4 : Hid (Below w.heap.size w w4) := HB3.out.trans (b4.mono HB3.out.size)
  have HX := hid (bytes_kept HX.out b4)
  have HY := hid (bytes_kept HY.out b4)
  have HZ := hid (r3.bytes B3.out)
  clear b4 HB3 r3 R3
  go_wp2_with fail
  refine (join_any (some ⟨g1, 0, none⟩) (bsz xs) c1 X (some ⟨g2, 0, none⟩) (bsz ys) c2 Y w4 HX.out (by omega) HY.out (by omega)).mono ?_
  rw [J4.out]
  rintro e w5 ⟨v5, rfl, r5, b5⟩
  have HB5 : Hid (Below w.heap.size w w5) := HB4.out.trans (b5.mono HB4.out.size)
  have HX := hid (bytes_kept HX.out b5)
  have HY := hid (bytes_kept HY.out b5)
  have HZ := hid (bytes_kept HZ.out b5)
  have Hr5 := hid r5
  clear b5 HB4 r5
  go_wp2_with fail
  refine (join_any (some ⟨g2, 0, none⟩) (bsz ys) c2 Y (some ⟨g3, 0, none⟩) (bsz zs) c3 Zz w5 HY.out (by omega) HZ.out (by omega)).mono ?_
  rw [J5.out]
  rintro e w6 ⟨v6, rfl, r6, b6⟩
  have HB6 : Hid (Below w.heap.size w w6) := HB5.out.trans (b6.mono HB5.out.size)
  have HX := hid (bytes_kept HX.out b6)
  have HZ := hid (bytes_kept HZ.out b6)
  obtain ⟨a5, c5, hv5, y5⟩ := (Hr5.out.later b6).bytes B4.out
  obtain ⟨a6, c6, hv6, y6⟩ := r6.bytes B5.out
  subst hv5 hv6
  have HP5 := hid y5
  have HP6 := hid y6
  clear b6 HB5 r6 Hr5 y5 y6
  generalize enc s (xs ++ ys) = P at *
  generalize enc 1 (ys ++ zs) = Qq at *
  have nP := N4.out
  have nQ := N5.out
  generalize hPl : P.length = lp at *
  generalize hQl : Qq.length = lq at *
  go_wp2_with fail
  refine (join_any a5 lp c5 P (some ⟨g3, 0, none⟩) (bsz zs) c3 Zz w6 HP5.out (by omega) HZ.out (by omega)).mono ?_
  rw [J6.out]
  rintro e w7 ⟨v7, rfl, r7, b7⟩
  have HB7 : Hid (Below w.heap.size w w7) := HB6.out.trans (b7.mono HB6.out.size)
  have HX := hid (bytes_kept HX.out b7)
  have HP6 := hid (bytes_kept HP6.out b7)
  have Hr7 := hid r7
  clear b7 HB6 r7 HP5
  go_wp2_with fail
  refine (join_any (some ⟨g1, 0, none⟩) (bsz xs) c1 X a6 lq c6 Qq w7 HX.out (by omega) HP6.out (by omega)).mono ?_
  rw [J7.out]
  rintro e w8 ⟨v8, rfl, r8, b8⟩
  have HB8 : Hid (Below w.heap.size w w8) := HB7.out.trans (b8.mono HB7.out.size)
  obtain ⟨a7, c7, hv7, y7⟩ := (Hr7.out.later b8).bytes (by simp)
  obtain ⟨a8, c8, hv8, y8⟩ := r8.bytes (by simp)
  subst hv7 hv8
  have k7 := By.Bytes.conv y7
  have k8 := By.Bytes.conv y8
  simp only [List.length_nil] at k7 k8
  clear b8 r8 Hr7 y7 y8 HP6 HX HZ
  rcases HC6.out with h | h
  · subst h
    go_wp2_with fail
    go_ret
    exact ⟨rfl, HB8.out⟩
  · subst h
    go_wp2_with fail
    go_ret
    exact ⟨rfl, HB8.out⟩
set_option maxRecDepth 100000 in
set_option maxHeartbeats 8000000 in
theorem walk_ok (s : Int) (a : Option Addr) (len cap : Nat) (xs : List O) (b : Option Addr) (lenb capb : Nat) (ys : List O) (c : Option Addr) (lenc capc : Nat) (zs : List O) (w : World) (hs : 0 ≤ s ∧ s ≤ 18446744073709551615) (H : Ops w a len cap xs) (hl : len ≤ 140737488351232 / 40) (H2 : Ops w b lenb capb ys) (hl2 : lenb ≤ 140737488351232 / 40) (H3 : Ops w c lenc capc zs) (hl3 : lenc ≤ 140737488351232 / 40) (h1 : encE s xs = 0) (h2 : encE 1 ys = 0) (h3 : encE 2 zs = 0) (h4 : encE s (xs ++ ys) = 0) (h5 : encE 1 (ys ++ zs) = 0) (h6 : encE s (xs ++ (ys ++ zs)) = 0) :
    Calls Try.prog 6 #[.int .u64 s, .slice a len cap, .agg #[.slice b lenb capb, .slice c lenc capc]] w fun e w' => e = .returned (.bool true) ∧ Below w.heap.size w w' := by
  have m1 := may_of h1
  have m2 := may_of h2
  have m3 := may_of h3
  have p1 := (chk_parts (encE_ok h1).1)
  have p2 := (chk_parts (encE_ok h2).1)
  have p3 := (chk_parts (encE_ok h3).1)
  have L1 : len ≤ 4096 := by have := H.1; omega
  have L2 : lenb ≤ 4096 := by have := H2.1; omega
  have L3 : lenc ≤ 4096 := by have := H3.1; omega
  have R1 := hid (fun W hW => encode_ok s a len cap xs W (H.later hW) hs h1)
  have R2 := hid (fun W hW => encode_ok 1 b lenb capb ys W (H2.later hW) (by omega) h2)
  have R3 := hid (fun W hW => encode_ok 2 c lenc capc zs W (H3.later hW) (by omega) h3)
  have B1 := hid (enc_bytes s xs m1)
  have B2 := hid (enc_bytes 1 ys m2)
  have B3 := hid (enc_bytes 2 zs m3)
  have J4 : Hid (joinR (enc s xs) (enc 1 ys) = encR s (xs ++ ys)) := join_enc s 1 xs ys hs (by omega) h1 h2
  have J5 : Hid (joinR (enc 1 ys) (enc 2 zs) = encR 1 (ys ++ zs)) := join_enc 1 2 ys zs (by omega) (by omega) h2 h3
  have C4 := codes s (xs ++ ys) (fun x hx => by rcases List.mem_append.1 hx with h | h; exact m1 x h; exact m2 x h)
  have C5 := codes 1 (ys ++ zs) (fun x hx => by rcases List.mem_append.1 hx with h | h; exact m2 x h; exact m3 x h)
  have mL : ∀ x ∈ xs ++ (ys ++ zs), may x = true := fun x hx => by
    rcases List.mem_append.1 hx with h | h
    · exact m1 x h
    · rcases List.mem_append.1 h with h | h
      · exact m2 x h
      · exact m3 x h
  have C6 := codes s (xs ++ (ys ++ zs)) mL
  have HML := hid mL
  have z1 : bsz xs ≤ 1048576 := p1.2.2.1
  have z2 : bsz ys ≤ 1048576 := p2.2.2.1
  have z3 : bsz zs ≤ 1048576 := p3.2.2.1
  have n1 : (enc s xs).length = bsz xs := enc_len s xs
  have n2 : (enc 1 ys).length = bsz ys := enc_len 1 ys
  have n3 : (enc 2 zs).length = bsz zs := enc_len 2 zs
  have N1 := hid n1
  have N2 := hid n2
  have N3 := hid n3
  have J6 : Hid (joinR (enc s (xs ++ ys)) (enc 2 zs) = encR s (xs ++ (ys ++ zs))) := by show _ = _; rw [join_enc s 2 _ _ hs (by omega) h4 h3, List.append_assoc]
  have J7 : Hid (joinR (enc s xs) (enc 1 (ys ++ zs)) = encR s (xs ++ (ys ++ zs))) := join_enc s 1 _ _ hs (by omega) h1 h5
  rw [encR_ok h4] at J4
  rw [encR_ok h5] at J5
  have B4 := hid (enc_bytes s (xs ++ ys) (may_of h4))
  have B5 := hid (enc_bytes 1 (ys ++ zs) (may_of h5))
  have N4 : Hid ((enc s (xs ++ ys)).length ≤ 1048576) := by show _ ≤ _; rw [enc_len]; exact (chk_parts (encE_ok h4).1).2.2.1
  have N5 : Hid ((enc 1 (ys ++ zs)).length ≤ 1048576) := by show _ ≤ _; rw [enc_len]; exact (chk_parts (encE_ok h5).1).2.2.1
  have HD := hid (dec_enc s (xs ++ (ys ++ zs)) hs h6)
  have B6 := hid (enc_bytes s (xs ++ (ys ++ zs)) HML.out)
  have pL := (chk_parts (encE_ok h6).1).1
  rw [encR_ok h6] at J6 J7
  have ss : (s == s) = true := beq_self_eq_true _
  clear C4 C5 C6 h6 h4 h5
  clear m1 m2 m3 p1 p2 p3 h1 h2 h3 mL n1 n2 n3
  generalize enc s xs = X at *
  generalize enc 1 ys = Y at *
  generalize enc 2 zs = Zz at *
  obtain ⟨W0, hW0⟩ : ∃ W0, W0 = w.alloc (.cells #[.slice b lenb capb, .slice c lenc capc] 57) := ⟨_, rfl⟩
  have c0 : W0.cell? ⟨w.heap.size, 0, none⟩ = some (.slice b lenb capb) := by rw [hW0]; go_simp
  have c1 : W0.cell? ⟨w.heap.size, 1, none⟩ = some (.slice c lenc capc) := by rw [hW0]; go_simp
  have BW0 : Hid (Below w.heap.size w W0) := by show Below _ _ _; rw [hW0]; exact box_below _ _
  have HW0 := hid hW0
  have HH := hid H
  have HH2 := hid H2
  have HH3 := hid H3
  clear hW0 H H2 H3
  go_enter Try.func6, Try.ntmps6
  go_wp2_with fail
  rw [← HW0.out]
  go_quiet (fail)
  have BW1 : Hid (Below w.heap.size w (W0.drewN nq)) := below_drewN BW0.out nq
  generalize W0.drewN nq = w0 at BW1
  go_wp2_with fail
  refine (works_any w0).mono ?_
  rintro e w1 ⟨rfl, b1⟩
  have HB1 : Hid (Below w.heap.size w w1) := BW1.out.trans (b1.mono BW1.out.size)
  clear b1 BW1 BW0 HW0 c0 c1
  go_wp2_with fail
  refine (R1.out w1 HB1.out).mono ?_
  rintro e w2 ⟨g1, c1, rfl, r1, b2⟩
  have HB2 : Hid (Below w.heap.size w w2) := HB1.out.trans (b2.mono HB1.out.size)
  have HX := hid (r1.bytes B1.out)
  clear b2 HB1 r1 R1
  go_wp2_with fail
  refine (R2.out w2 HB2.out).mono ?_
  rintro e w3 ⟨g2, c2, rfl, r2, b3⟩
  have HB3 : Hid (Below w.heap.size w w3) := HB2.out.trans (b3.mono HB2.out.size)
  have HX := hid (bytes_kept HX.out b3)
  have HY := hid (r2.bytes B2.out)
  clear b3 HB2 r2 R2
  go_wp2_with fail
  refine (R3.out w3 HB3.out).mono ?_
  rintro e w4 ⟨g3, c3, rfl, r3, b4⟩
  have HB4 : Hid (Below w.heap.size w w4) := HB3.out.trans (b4.mono HB3.out.size)
  have HX := hid (bytes_kept HX.out b4)
  have HY := hid (bytes_kept HY.out b4)
  have HZ := hid (r3.bytes B3.out)
  clear b4 HB3 r3 R3
  go_wp2_with fail
  refine (join_any (some ⟨g1, 0, none⟩) (bsz xs) c1 X (some ⟨g2, 0, none⟩) (bsz ys) c2 Y w4 HX.out (by omega) HY.out (by omega)).mono ?_
  rw [J4.out]
  rintro e w5 ⟨v5, rfl, r5, b5⟩
  have HB5 : Hid (Below w.heap.size w w5) := HB4.out.trans (b5.mono HB4.out.size)
  have HX := hid (bytes_kept HX.out b5)
  have HY := hid (bytes_kept HY.out b5)
  have HZ := hid (bytes_kept HZ.out b5)
  have Hr5 := hid r5
  clear b5 HB4 r5
  go_wp2_with fail
  refine (join_any (some ⟨g2, 0, none⟩) (bsz ys) c2 Y (some ⟨g3, 0, none⟩) (bsz zs) c3 Zz w5 HY.out (by omega) HZ.out (by omega)).mono ?_
  rw [J5.out]
  rintro e w6 ⟨v6, rfl, r6, b6⟩
  have HB6 : Hid (Below w.heap.size w w6) := HB5.out.trans (b6.mono HB5.out.size)
  have HX := hid (bytes_kept HX.out b6)
  have HZ := hid (bytes_kept HZ.out b6)
  obtain ⟨a5, c5, hv5, y5⟩ := (Hr5.out.later b6).bytes B4.out
  obtain ⟨a6, c6, hv6, y6⟩ := r6.bytes B5.out
  subst hv5 hv6
  have HP5 := hid y5
  have HP6 := hid y6
  clear b6 HB5 r6 Hr5 y5 y6
  generalize enc s (xs ++ ys) = P at *
  generalize enc 1 (ys ++ zs) = Qq at *
  have nP := N4.out
  have nQ := N5.out
  generalize hPl : P.length = lp at *
  generalize hQl : Qq.length = lq at *
  go_wp2_with fail
  refine (join_any a5 lp c5 P (some ⟨g3, 0, none⟩) (bsz zs) c3 Zz w6 HP5.out (by omega) HZ.out (by omega)).mono ?_
  rw [J6.out]
  rintro e w7 ⟨v7, rfl, r7, b7⟩
  have HB7 : Hid (Below w.heap.size w w7) := HB6.out.trans (b7.mono HB6.out.size)
  have HX := hid (bytes_kept HX.out b7)
  have HP6 := hid (bytes_kept HP6.out b7)
  have Hr7 := hid r7
  clear b7 HB6 r7 HP5
  go_wp2_with fail
  refine (join_any (some ⟨g1, 0, none⟩) (bsz xs) c1 X a6 lq c6 Qq w7 HX.out (by omega) HP6.out (by omega)).mono ?_
  rw [J7.out]
  rintro e w8 ⟨v8, rfl, r8, b8⟩
  have HB8 : Hid (Below w.heap.size w w8) := HB7.out.trans (b8.mono HB7.out.size)
  obtain ⟨a7, c7, hv7, y7⟩ := (Hr7.out.later b8).bytes B6.out
  obtain ⟨a8, c8, hv8, y8⟩ := r8.bytes B6.out
  subst hv7 hv8
  have k7 := By.Bytes.conv y7
  have k8 := By.Bytes.conv y8
  have HP7 := hid y7
  clear b8 r8 Hr7 y7 y8 HP6 HX HZ
  generalize enc s (xs ++ (ys ++ zs)) = L at *
  generalize hLl : L.length = ll at *
  go_wp2_with fail
  refine (decode_ok a7 ll c7 L w8 HP7.out s (xs ++ (ys ++ zs)) HD.out).mono ?_
  rintro e w9 ⟨v9, rfl, O9, b9⟩
  have HB9 : Hid (Below w.heap.size w w9) := HB8.out.trans (b9.mono HB8.out.size)
  obtain ⟨a9, c9, hv9, o9⟩ := row_ops O9 (fun x hx => may_ok (HML.out x hx))
  subst hv9
  have y9 := HB9.out.size
  have own0 : (w9.alloc (.cells #[] 60)).ownsRow w9.heap.size 60 3 (.slice (some ⟨w9.heap.size, 0, none⟩) 0 0) 0 (ocs []) := World.ownsRow_made w9 #[] 0 (Nat.le_refl _) (by unfold maxLen; omega) rfl
  have ba := box_below w9 (.cells #[] 60)
  have Hown0 := hid own0
  have HBa : Hid (Below w9.heap.size w9 (w9.alloc (.cells #[] 60))) := ba
  have HBw : Hid (Below w.heap.size w (w9.alloc (.cells #[] 60))) := HB9.out.alloc y9 _
  have Ho9 := hid o9
  have hxl : Hid (xs.length = len) := HH.out.1
  have hyl : Hid (ys.length = lenb) := HH2.out.1
  have hzl : Hid (zs.length = lenc) := HH3.out.1
  have hL : (xs ++ (ys ++ zs)).length = len + (lenb + lenc) := by simp [hxl.out, hyl.out, hzl.out]
  rw [hL] at Ho9 ⊢
  clear O9 b9 o9 own0 ba k7 k8 HP7
  go_wp2_with (at_builtin; refine app_opsg rfl _ _ rfl w9.heap.size _ 0 [] rfl Hown0.out a len cap xs rfl (HH.out.later HBw.out) (by omega) (by simp) ?_)
  intro va wa Oa ga
  have HBa1 : Hid (Below w9.heap.size w9 wa) := HBa.out.grown ga (by simp) (fun j hj => (World.ownsRow.lt Hown0.out j hj).1)
  have HOa : Hid (wa.ownsRow w9.heap.size 60 3 va len (ocs xs)) := by show World.ownsRow _ _ _ _ _ _ _; simpa using Oa
  have HBw1 : Hid (Below w.heap.size w wa) := HB9.out.trans (HBa1.out.mono y9)
  clear Oa ga HBa HBw Hown0
  go_wp2_with (at_builtin; refine app_opsg rfl _ _ rfl w9.heap.size va len xs rfl HOa.out b lenb capb ys rfl (HH2.out.later HBw1.out) (by omega) (HBa1.out.size) ?_)
  intro vb wb Ob' gb
  have HBa2 : Hid (Below w9.heap.size w9 wb) := HBa1.out.grown gb HBa1.out.size (fun j hj => (World.ownsRow.lt HOa.out j hj).1)
  have HOb := hid Ob'
  have HBw2 : Hid (Below w.heap.size w wb) := HB9.out.trans (HBa2.out.mono y9)
  clear Ob' gb HBa1 HBw1 HOa
  go_wp2_with (at_builtin; refine app_opsg rfl _ _ rfl w9.heap.size vb (len + lenb) (xs ++ ys) rfl HOb.out c lenc capc zs rfl (HH3.out.later HBw2.out) (by omega) (HBa2.out.size) ?_)
  intro vc wc Oc gc
  have HBa3 : Hid (Below w9.heap.size w9 wc) := HBa2.out.grown gc HBa2.out.size (fun j hj => (World.ownsRow.lt HOb.out j hj).1)
  have HBw3 : Hid (Below w.heap.size w wc) := HB9.out.trans (HBa3.out.mono y9)
  simp only [Nat.add_assoc] at Oc
  rw [← hL] at Oc
  obtain ⟨ac, cc, hvc, oc'⟩ := row_ops Oc (fun x hx => may_ok (HML.out x hx))
  subst hvc
  rw [hL] at oc' ⊢
  have HS := hid (same_any a9 ac (len + (lenb + lenc)) c9 cc (xs ++ (ys ++ zs)) wc (Ho9.out.later HBa3.out) oc' (by omega))
  clear Oc gc oc' HBa2 HBw2 HOb HBa3
  go_wp2_with fail
  refine HS.out.mono ?_
  rintro e wd ⟨rfl, n, rfl⟩
  go_wp2_with fail
  go_ret
  exact ⟨rfl, below_drewN HBw3.out n⟩
theorem walk (s : Int) (a : Option Addr) (len cap : Nat) (xs : List O) (b : Option Addr) (lenb capb : Nat) (ys : List O) (c : Option Addr) (lenc capc : Nat) (zs : List O) (w : World) (hs : 0 ≤ s ∧ s ≤ 18446744073709551615) (H : Ops w a len cap xs) (hl : len ≤ 140737488351232 / 40) (H2 : Ops w b lenb capb ys) (hl2 : lenb ≤ 140737488351232 / 40) (H3 : Ops w c lenc capc zs) (hl3 : lenc ≤ 140737488351232 / 40) :
    Calls Try.prog 6 #[.int .u64 s, .slice a len cap, .agg #[.slice b lenb capb, .slice c lenc capc]] w fun e w' => e = .returned (.bool true) ∧ Below w.heap.size w w' := by
  by_cases h1 : encE s xs = 0
  · by_cases h2 : encE 1 ys = 0
    · by_cases h3 : encE 2 zs = 0
      · by_cases h4 : encE s (xs ++ ys) = 0
        · by_cases h5 : encE 1 (ys ++ zs) = 0
          · by_cases h6 : encE s (xs ++ (ys ++ zs)) = 0
            · exact walk_ok s a len cap xs b lenb capb ys c lenc capc zs w hs H hl H2 hl2 H3 hl3 h1 h2 h3 h4 h5 h6
            · exact walk_l s a len cap xs b lenb capb ys c lenc capc zs w hs H hl H2 hl2 H3 hl3 h1 h2 h3 h4 h5 h6
          · exact walk_j5 s a len cap xs b lenb capb ys c lenc capc zs w hs H hl H2 hl2 H3 hl3 h1 h2 h3 h4 h5
        · exact walk_j4 s a len cap xs b lenb capb ys c lenc capc zs w hs H hl H2 hl2 H3 hl3 h1 h2 h3 h4
      · exact walk_no2 s a len cap xs b lenb capb ys c lenc capc zs w hs H hl H2 hl2 H3 hl3 h1 h2 h3
    · exact walk_no1 s a len cap xs b lenb capb ys c lenc capc zs w hs H hl H2 hl2 H3 hl3 h1 h2
  · exact walk_no0 s a len cap xs b lenb capb ys c lenc capc zs w hs H hl H2 hl2 H3 hl3 h1

theorem own : ownKnob Try.prog.godebug = none := by kernel_rfl
theorem laidOut : laidOutB Try.prog = true := by kernel_rfl
theorem u64_bd {v : Int} (h : (Lit.int .u64 v).wf = true) : 0 ≤ v ∧ v ≤ 18446744073709551615 := by
  simpa [Lit.wf, IntKind.min, IntKind.max, IntKind.signed, IntKind.bits] using h
theorem i64_bd {v : Int} (h : (Lit.int .i64 v).wf = true) : -9223372036854775808 ≤ v ∧ v ≤ 9223372036854775807 := by
  simpa [Lit.wf, IntKind.min, IntKind.max, IntKind.signed, IntKind.bits] using h

/-! ### The row's step -/
set_option maxRecDepth 100000 in
theorem lifted (os : Os) (started : os.Started) (H : Type) (enc : TypeId × Value → H) :
    ReturnsInHanded {} Try.checked os 6 .any (Rows.batchGroupsSpec.pre6 enc Try.prog Try.f6 Rows.batchGroupsRow.domain false) (Rows.batchGroupsSpec.post enc Try.prog Try.f6 false true false false) := by
  refine returnsInHanded_of_change_sized (C := Try.checked) own started (by kernel_rfl) Try.func6
    (ChangeSpec.witness6 (enc := enc) (C := Try.checked) false ⟨#[], #[.int .u64 0, .slice none 0 0, .agg #[.slice none 0 0, .slice none 0 0]], []⟩ 8 (by kernel_rfl) (by kernel_rfl) (by kernel_rfl) (by kernel_rfl)) ?_
  intro W base args ds gs before hval0 hW hcnd hsz0 _
  have hval : ∀ (j : Nat) t v, Try.f6.params[j]? = some t → args[j]? = some v → Value.okWide Try.prog W .any base t v := hval0
  have hsz : (DataW.weightsEach Try.prog (Try.f6.params.toList ++ Rows.batchGroupsSpec.plain.varTypes Try.prog) (ds ++ gs)).all (· ≤ reachBytes) = true := hsz0
  have hW' := hW
  obtain ⟨p, q, hA0, hV, rfl, hfz, hnd⟩ := hW
  have hA : DataW.TrodAll enc Try.prog W 0 (fun _ => true) true Try.f6.params.toList args.toList ds p := hA0
  rw [Try.params6] at hA hval hsz
  obtain ⟨v0, vs0, d0, ds0, p0, q0, hargs, rfl, rfl, h0, r0⟩ := trodAll_cons hA
  obtain ⟨v1, vs1, d1, ds1, p1, q1, rfl, rfl, rfl, h1, r1⟩ := trodAll_cons r0
  obtain ⟨v2, vs2, d2, ds2, p2, q2, rfl, rfl, rfl, h2, r2⟩ := trodAll_cons r1
  obtain ⟨rfl, rfl, rfl⟩ := trodAll_nil r2
  obtain rfl : args = #[v0, v1, v2] := by cases args; simp_all
  obtain ⟨rfl, rfl⟩ := trodVars_none hV
  obtain ⟨a0, rfl, rfl, rfl, w0⟩ := open_int Try.underlying28 (hval 0 28 v0 rfl rfl) h0
  obtain ⟨a1, len1, cap1, rfl⟩ := okWide_slice Try.underlying26 (hval 1 26 v1 rfl rfl)
  have k1 := h1
  have lt1 : ∀ x ∈ p1, x.block < W.heap.size := by obtain ⟨m, hm⟩ := k1; exact DataW.trod_lt m _ _ _ hm
  obtain ⟨z1, w1, c1⟩ : ∃ zs, Ob.Ops W a1 len1 cap1 zs ∧ len1 ≤ 140737488351232 / 40 := by
    obtain ⟨fuel, hf⟩ := h1
    obtain ⟨⟨zs, hz⟩, hd⟩ := Ob.open_ops (by simpa [Value.cells] using hf)
    refine ⟨zs, hz, ?_⟩
    rcases hd with ⟨rfl, rfl⟩ | ⟨l, r, hd, hll⟩
    · omega
    · have sz := sized_slice hsz (j := 1) (t := 26) (e := 60) rfl (by simp only [List.cons_append, List.getElem?_cons_succ, List.getElem?_cons_zero]; rw [show d1 = _ from hd]) Try.underlying26
      rw [show Try.prog.bytesOf 60 = 40 from by kernel_rfl] at sz
      simp only [reachBytes] at sz
      omega
  have k2 := h2
  have lt2 : ∀ x ∈ p2, x.block < W.heap.size := by obtain ⟨m, hm⟩ := k2; exact DataW.trod_lt m _ _ _ hm
  have hws2 : ∀ m ∈ d2.weights Try.prog 57, m ≤ reachBytes := fun m hm => by
    have := List.all_eq_true.1 hsz m (DataW.weights_mem_each (j := 2) (t := 57) (d := d2) rfl rfl m hm)
    simpa using this
  obtain ⟨c20, c21, y20, y21, m2, rfl, hd2, hp2, hy20, hy21⟩ := open_agg2 Try.underlying57 (by kernel_rfl) (by kernel_rfl) (hval 2 57 v2 rfl rfl) h2
  obtain ⟨a20, l20, k20, x20, rfl, o20, b20⟩ := Ow.open_opsw hy20 (fun q hq => hws2 q (by rw [hd2]; simp only [DataW.weights, Try.underlying57]; exact DataW.weights_mem_each (j := 0) (d := y20.1) rfl rfl q hq))
  obtain ⟨a21, l21, k21, x21, rfl, o21, b21⟩ := Ow.open_opsw hy21 (fun q hq => hws2 q (by rw [hd2]; simp only [DataW.weights, Try.underlying57]; exact DataW.weights_mem_each (j := 1) (d := y21.1) rfl rfl q hq))
  clear hA0 hval0
  refine (walk a0 a1 len1 cap1 z1 a20 l20 k20 x20 a21 l21 k21 x21 W (u64_bd w0) w1 c1 o20 b20 o21 b21).mono fun e W' ⟨he, bel⟩ => ?_
  subst he
  exact ⟨_, rfl, _, _, _, [], _, [], hW', trodAll_mk1 (shut_bool Try.underlying4 _), (trodAll_cons_mk (shut_int Try.underlying28 w0) (trodAll_cons_mk (Below.trod laidOut (by kernel_rfl) (of_decide_eq_true (by kernel_rfl)) k1 bel lt1) (trodAll_cons_mk (Below.trod laidOut (by kernel_rfl) (of_decide_eq_true (by kernel_rfl)) k2 bel lt2) trodAll_mk0))), rfl, bel.frame _, fun h => by cases h⟩

theorem over : Rows.batchGroupsRow.holds Try.pinned (OpenSpec.ofChange Rows.batchGroupsSpec) :=
  OpenClaim.holds_of_wide 6 Try.f6 rfl rfl rfl rfl rfl rfl rfl ⟨rfl, rfl, rfl, rfl, rfl⟩ rfl rfl rfl rfl rfl (by kernel_rfl) Try.func6 (by kernel_rfl)
    (of_decide_eq_true (by kernel_rfl)) (by unfold Func.isWrapper; first | (rw [if_pos (by decide +kernel)]; kernel_rfl) | (rw [if_neg (by decide +kernel)]; exact ⟨rfl, rfl⟩))
    (fun os started H enc _ => lifted os started H enc)
end Go.Proofs.Ytmceanfgcehfeab.batchGroups
namespace Go.Proofs.Ytmceanfgcehfeab
theorem batchGroups_holds : Rows.BatchGroupsSaid := batchGroups.over
#print axioms batchGroups_holds
end Go.Proofs.Ytmceanfgcehfeab

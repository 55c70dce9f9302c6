/- The document's reading of an operation. -/
import Derived.Test.YtmceanfgcehfeaaRt
namespace Go.Proofs.Ytmceanfgcehfeaa.Rt
open Go.ChangeShapes Go.WideShapes Go.ChangeAt Go.RowKit
open Go.Proofs.Ytmceanfgcehfeaa.By
open Go.Proofs.Ytmceanfgcehfeaa.Ob
open Go.Proofs.Ytmceanfgcehfeaa.Rp
open Go.Proofs.Ytmceanfgcehfeaa.En (Blk)
set_option linter.unusedVariables false

theorem may_key {c : Int} {k v : ByteArray} (h : 1024 < k.size) : may ⟨c, k, v⟩ = false := by
  unfold may ksz
  rw [show decide (((k.size : Nat) : Int) ≤ 1024) = false from by simp; omega]
  simp
theorem may_val {c : Int} {k v : ByteArray} (hc : c ≠ 0) (h : 65536 < v.size) : may ⟨c, k, v⟩ = false := by
  unfold may ksz
  rw [if_neg hc]
  rw [show decide (((v.size : Nat) : Int) ≤ 65536) = false from by simp; omega, show decide (((v.size : Nat) : Int) ≤ 1024) = false from by simp; omega]
  split <;> simp
theorem rop_eq (zs : List Int) (p : Nat) : rop zs p =
    if zs.length ≤ p then none else
    match rdt zs ((p : Int) + 1) 1024 with
    | none => none
    | some (t1, q1) => if zs.getD p 0 = 0 then (if may ⟨0, str t1, ⟨#[]⟩⟩ = true then some (⟨0, str t1, ⟨#[]⟩⟩, q1) else none) else
      match rdt zs (tread zs ((p : Int) + 1)).2.1 65536 with
      | none => none
      | some (t2, q2) => if may ⟨zs.getD p 0, str t1, str t2⟩ = true then some (⟨zs.getD p 0, str t1, str t2⟩, q2) else none := by
  unfold rop
  by_cases h0 : zs.length ≤ p
  · rw [if_pos h0, if_pos h0]
  · rw [if_neg h0, if_neg h0]
    by_cases h1 : (tread zs ((p : Int) + 1)).2.2 = 0
    · rw [if_neg (by simp [h1])]
      by_cases h2 : (tread zs ((p : Int) + 1)).1.length ≤ 1024
      · rw [show rdt zs ((p : Int) + 1) 1024 = some ((tread zs ((p : Int) + 1)).1, (tread zs ((p : Int) + 1)).2.1.toNat) from by unfold rdt; rw [if_pos ⟨h1, h2⟩]]
        simp only
        by_cases hc : zs.getD p 0 = 0
        · rw [if_pos hc, if_pos hc]
        · rw [if_neg hc, if_neg hc]
          by_cases h3 : (tread zs (tread zs ((p : Int) + 1)).2.1).2.2 = 0
          · rw [if_neg (by simp [h3])]
            by_cases h4 : (tread zs (tread zs ((p : Int) + 1)).2.1).1.length ≤ 65536
            · rw [show rdt zs (tread zs ((p : Int) + 1)).2.1 65536 = some ((tread zs (tread zs ((p : Int) + 1)).2.1).1, (tread zs (tread zs ((p : Int) + 1)).2.1).2.1.toNat) from by unfold rdt; rw [if_pos ⟨h3, h4⟩]]
            · rw [show rdt zs (tread zs ((p : Int) + 1)).2.1 65536 = none from by unfold rdt; rw [if_neg (fun h => h4 h.2)]]
              rw [may_val hc (by rw [str_size]; omega)]
              simp
          · rw [if_pos h3, show rdt zs (tread zs ((p : Int) + 1)).2.1 65536 = none from by unfold rdt; rw [if_neg (fun h => h3 h.1)]]
      · rw [show rdt zs ((p : Int) + 1) 1024 = none from by unfold rdt; rw [if_neg (fun h => h2 h.2)]]
        rw [may_key (by rw [str_size]; omega), may_key (by rw [str_size]; omega)]
        simp
    · rw [if_pos h1, show rdt zs ((p : Int) + 1) 1024 = none from by unfold rdt; rw [if_neg (fun h => h1 h.1)]]
/-- What op hands back. -/
def outO (r : Option (O × Nat)) : Value := match r with
  | none => .tuple #[.agg #[.int .i64 0, .string ⟨#[]⟩, .string ⟨#[]⟩], .int .i64 (-1)]
  | some (x, q) => .tuple #[.agg #[.int .i64 x.c, .string x.k, .string x.v], .int .i64 q]
theorem rdt_place {zs : List Int} {p : Int} {m : Nat} {t : List Int} {q : Nat} (hb : ∀ y ∈ zs, 0 ≤ y ∧ y ≤ 255) (h : rdt zs p m = some (t, q)) : (tread zs p).2.1 = (q : Int) ∧ q ≤ zs.length := by
  unfold rdt at h
  split at h
  · next hh =>
    simp only [Option.some.injEq, Prod.mk.injEq] at h
    obtain ⟨q', hq'⟩ := tread_place zs p hb hh.1
    rw [hq'] at h ⊢
    refine ⟨by have := h.2; simp at this; omega, ?_⟩
    have h1 := hh.1
    have hq2 := hq'
    unfold tread at h1 hq2
    split at h1
    · next e => exact absurd h1 e
    · next e =>
      split at h1
      · simp at h1
      · next e2 =>
        rw [if_neg e, if_neg e2] at hq2
        obtain ⟨r, hr, _, _, hl, h0, _⟩ := vread_ok zs p hb (Decidable.of_not_not e)
        have := h.2
        simp at this hq2
        omega
  · simp at h
set_option maxRecDepth 100000 in
set_option maxHeartbeats 4000000 in
theorem op_any (a : Option Addr) (len cap p : Nat) (zs : List Int) (w : World) (H : Bytes w a len cap zs) (hcap : len ≤ 140737488351232) (hp2 : p ≤ 281474976710656) :
    Calls Try.prog 48 #[.slice a len cap, .int .i64 p] w fun e w' => e = .returned (outO (rop zs p)) ∧ Below w.heap.size w w' := by
  obtain ⟨R, hR⟩ : ∃ R, R = rop zs p := ⟨_, rfl⟩
  rw [← hR]
  have HR : Hid (R = rop zs p) := hR
  clear hR
  have hzl := H.1
  by_cases hp : len ≤ p
  · have HN : Hid (R = none) := by show _ = _; rw [HR.out, rop_eq, if_pos (by omega)]
    have ip : (len : Int) ≤ (p : Int) := by omega
    clear HR
    go_enter Try.func48, Try.ntmps48
    go_wp2_with fail
    exact bodyPost_ret (v := outO none) (by simp [results, Try.results48, go_sem, outO]) rfl ⟨by rw [HN.out], box_below _ _⟩
  · have HR1 := HR.out
    rw [rop_eq, if_neg (by omega)] at HR1
    have R1 := rread_any a len cap (p + 1) 1024 zs
    rw [show ((p + 1 : Nat) : Int) = (p : Int) + 1 from by omega] at R1
    have HC1 : Hid (∀ W, Below w.heap.size w W → Calls Try.prog 59 #[.slice a len cap, .int .i64 ((p : Int) + 1), .int .i64 1024] W fun e w' => e = .returned (outR (rdt zs ((p : Int) + 1) 1024)) ∧ w' = W) := fun W hW => R1 W (bytes_kept H hW) hcap (by omega) (by omega) (by omega)
    clear R1
    cases a with
    | none => have := H.2.2.1 rfl; omega
    | some ad =>
      have h0 := H.2.2.2.2 ad rfl 0 (by omega)
      have q0 := H.2.2.2.2 ad rfl p (by omega)
      obtain ⟨b, off, spot⟩ := ad
      have hspot : spot = none := by simpa [Addr.add] using World.cell?_spot h0
      subst hspot
      rw [By.addr_add] at q0
      have hcb : 0 ≤ zs.getD p 0 ∧ zs.getD p 0 ≤ 255 := by
        rw [List.getD_eq_getElem?_getD, List.getElem?_eq_getElem (by omega)]
        exact H.2.2.2.1 _ (List.getElem_mem _)
      generalize zs.getD p 0 = c at *
      obtain ⟨hcb0, hcb1⟩ := hcb
      have hlc := H.2.1
      have hlt := block_lt_of_cell q0
      have ip : ¬ (len : Int) ≤ (p : Int) := by omega
      have ip2 : (p : Int) < (len : Int) := by omega
      have HB2 : ∀ o o', Below w.heap.size w ((w.alloc o).alloc o') := fun o o' => (box_below w o).trans ((box_below _ o').mono (by simp))
      have HHB2 := hid HB2
      clear h0 HR HB2
      cases h1 : rdt zs ((p : Int) + 1) 1024 with
      | none =>
        rw [h1] at HR1 HC1
        have HN : Hid (R = none) := HR1
        clear HR1 h1 H
        go_enter Try.func48, Try.ntmps48
        go_wp2_with fail
        refine (HC1.out _ (HHB2.out _ _)).mono ?_
        rintro e w' ⟨rfl, rfl⟩
        unfold outR
        go_wp2_with fail
        exact bodyPost_ret (v := outO none) (by simp [results, Try.results48, go_sem, outO]) rfl ⟨by rw [HN.out], HHB2.out _ _⟩
      | some r =>
        obtain ⟨t1, q1⟩ := r
        have hpl := rdt_place H.2.2.2.1 h1
        rw [h1] at HR1 HC1
        simp only at HR1
        by_cases c0 : c = 0
        · subst c0
          rw [if_pos rfl] at HR1
          obtain ⟨M, hM⟩ : ∃ M, M = may ⟨0, str t1, ⟨#[]⟩⟩ := ⟨_, rfl⟩
          rw [← hM] at HR1
          generalize hs1 : str t1 = s1 at *
          have HM : Hid (∀ W, Calls Try.prog 35 #[.agg #[.int .i64 0, .string s1, .string ⟨#[]⟩]] W fun e w' => e = .returned (.bool M) ∧ Below W.heap.size W w') := fun W => by rw [hM]; exact rmay_any 0 s1 ⟨#[]⟩ W
          have HR1 := hid HR1
          have e0 : ¬ (q1 : Int) < 0 := by omega
          clear hM h1 H hpl
          go_enter Try.func48, Try.ntmps48
          go_wp2_with fail
          refine (HC1.out _ (HHB2.out _ _)).mono ?_
          rintro e w' ⟨rfl, rfl⟩
          unfold outR
          simp only [hs1]
          go_wp2_with fail
          obtain ⟨W, hW⟩ : ∃ W, W = (w.alloc (.cells #[.int .i64 0, .string ⟨#[]⟩, .string ⟨#[]⟩] 50)).alloc (.cells #[.int .i64 0, .string s1, .string ⟨#[]⟩] 50) := ⟨_, rfl⟩
          obtain ⟨g, hg⟩ : ∃ g, g = w.heap.size := ⟨_, rfl⟩
          have K4 : Blk W g #[.int .i64 0, .string ⟨#[]⟩, .string ⟨#[]⟩] := by rw [hW, hg]; exact (Blk.new w _).later (box_below _ _)
          have K6 : Blk W (g + 1) #[.int .i64 0, .string s1, .string ⟨#[]⟩] := by rw [hW, hg]; have := Blk.new (w.alloc (.cells #[.int .i64 0, .string ⟨#[]⟩, .string ⟨#[]⟩] 50)) #[.int .i64 0, .string s1, .string ⟨#[]⟩]; simpa using this
          have BW : Hid (Below w.heap.size w W) := by show Below _ _ _; rw [hW]; exact HHB2.out _ _
          have HG : Hid (g = w.heap.size) := hg
          rw [← hW, ← hg]
          clear hW hg HC1 hlt
          have r0 : W.cell? ⟨g + 1, 0, none⟩ = some (.int .i64 0) := K6.cell 0
          have r1 : W.cell? ⟨g + 1, 1, none⟩ = some (.string s1) := K6.cell 1
          have r2 : W.cell? ⟨g + 1, 2, none⟩ = some (.string ⟨#[]⟩) := K6.cell 2
          have HK4 := hid K4
          have HK6 := hid K6
          clear K4 K6
          refine (HM.out W).mono ?_
          rintro e w3 ⟨rfl, b3⟩
          have K4 := HK4.out.later b3
          have K6 := HK6.out.later b3
          have BW3 : Hid (Below w.heap.size w w3) := BW.out.trans (b3.mono BW.out.size)
          have r0 : w3.cell? ⟨g + 1, 0, none⟩ = some (.int .i64 0) := K6.cell 0
          have r1 : w3.cell? ⟨g + 1, 1, none⟩ = some (.string s1) := K6.cell 1
          have r2 : w3.cell? ⟨g + 1, 2, none⟩ = some (.string ⟨#[]⟩) := K6.cell 2
          have f0 : w3.cell? ⟨g, 0, none⟩ = some (.int .i64 0) := K4.cell 0
          have f1 : w3.cell? ⟨g, 1, none⟩ = some (.string ⟨#[]⟩) := K4.cell 1
          have f2 : w3.cell? ⟨g, 2, none⟩ = some (.string ⟨#[]⟩) := K4.cell 2
          have z0 : w3.frozen? ⟨g, 0, none⟩ = false := by simp [World.frozen?, show w3.heap[g]? = _ from K4]
          have z1 : w3.frozen? ⟨g, 1, none⟩ = false := by simp [World.frozen?, show w3.heap[g]? = _ from K4]
          have z2 : w3.frozen? ⟨g, 2, none⟩ = false := by simp [World.frozen?, show w3.heap[g]? = _ from K4]
          have BS : Hid (∀ a b c : Value, Below w.heap.size w (((w3.setCell ⟨g, 0, none⟩ a).setCell ⟨g, 1, none⟩ b).setCell ⟨g, 2, none⟩ c)) := fun a b c => ((BW3.out.setCell (Nat.le_of_eq HG.out.symm) _).setCell (Nat.le_of_eq HG.out.symm) _).setCell (Nat.le_of_eq HG.out.symm) _
          clear K4 K6 b3 HK4 HK6 BW BW3
          cases M with
          | true =>
            have HN : Hid (R = some (⟨0, s1, ⟨#[]⟩⟩, q1)) := HR1.out.trans (if_pos rfl)
            go_wp2_with fail
            exact bodyPost_ret (v := outO (some (⟨0, s1, ⟨#[]⟩⟩, q1))) (by simp [results, Try.results48, go_sem, outO, f0, f1, f2]) rfl ⟨by rw [HN.out], BS.out _ _ _⟩
          | false =>
            have HN : Hid (R = none) := HR1.out.trans (if_neg (by simp))
            go_wp2_with fail
            exact bodyPost_ret (v := outO none) (by simp [results, Try.results48, go_sem, outO, f0, f1, f2]) rfl ⟨by rw [HN.out], BS.out _ _ _⟩
        · rw [if_neg c0, hpl.1] at HR1
          have R2 := rread_any (some ⟨b, off, none⟩) len cap q1 65536 zs
          have HC2 : Hid (∀ W, Below w.heap.size w W → Calls Try.prog 59 #[.slice (some ⟨b, off, none⟩) len cap, .int .i64 q1, .int .i64 65536] W fun e w' => e = .returned (outR (rdt zs q1 65536)) ∧ w' = W) := fun W hW => R2 W (bytes_kept H hW) hcap (by omega) (by omega) (by omega)
          have e0 : (c == 0) = false := by simp [c0]
          have e1 : (c != 0) = true := by simp [c0]
          have e2 : (0 : Int) ≤ (q1 : Int) := by omega
          clear R2
          cases h2 : rdt zs q1 65536 with
          | none =>
            rw [h2] at HR1 HC2
            have HN : Hid (R = none) := HR1
            clear HR1 h1 h2 H hpl c0
            go_enter Try.func48, Try.ntmps48
            go_wp2_with fail
            refine (HC1.out _ (HHB2.out _ _)).mono ?_
            rintro e w' ⟨rfl, rfl⟩
            unfold outR
            go_wp2_with fail
            refine (HC2.out _ (HHB2.out _ _)).mono ?_
            rintro e w' ⟨rfl, rfl⟩
            unfold outR
            go_wp2_with fail
            exact bodyPost_ret (v := outO none) (by simp [results, Try.results48, go_sem, outO]) rfl ⟨by rw [HN.out], HHB2.out _ _⟩
          | some r2' =>
            obtain ⟨t2, q2⟩ := r2'
            rw [h2] at HR1 HC2
            simp only at HR1
            obtain ⟨M, hM⟩ : ∃ M, M = may ⟨c, str t1, str t2⟩ := ⟨_, rfl⟩
            rw [← hM] at HR1
            generalize hs1 : str t1 = s1 at *
            generalize hs2 : str t2 = s2 at *
            have HM : Hid (∀ W, Calls Try.prog 35 #[.agg #[.int .i64 c, .string s1, .string s2]] W fun e w' => e = .returned (.bool M) ∧ Below W.heap.size W w') := fun W => by rw [hM]; exact rmay_any c s1 s2 W
            have HR1 := hid HR1
            have e3 : ¬ (q2 : Int) < 0 := by omega
            clear hM h1 h2 H hpl c0
            go_enter Try.func48, Try.ntmps48
            go_wp2_with fail
            refine (HC1.out _ (HHB2.out _ _)).mono ?_
            rintro e w' ⟨rfl, rfl⟩
            unfold outR
            simp only [hs1]
            go_wp2_with fail
            refine (HC2.out _ (HHB2.out _ _)).mono ?_
            rintro e w' ⟨rfl, rfl⟩
            unfold outR
            simp only [hs2]
            clear HC2
            go_wp2_with fail
            obtain ⟨W, hW⟩ : ∃ W, W = (w.alloc (.cells #[.int .i64 0, .string ⟨#[]⟩, .string ⟨#[]⟩] 50)).alloc (.cells #[.int .i64 c, .string s1, .string s2] 50) := ⟨_, rfl⟩
            obtain ⟨g, hg⟩ : ∃ g, g = w.heap.size := ⟨_, rfl⟩
            have K4 : Blk W g #[.int .i64 0, .string ⟨#[]⟩, .string ⟨#[]⟩] := by rw [hW, hg]; exact (Blk.new w _).later (box_below _ _)
            have K6 : Blk W (g + 1) #[.int .i64 c, .string s1, .string s2] := by rw [hW, hg]; have := Blk.new (w.alloc (.cells #[.int .i64 0, .string ⟨#[]⟩, .string ⟨#[]⟩] 50)) #[.int .i64 c, .string s1, .string s2]; simpa using this
            have BW : Hid (Below w.heap.size w W) := by show Below _ _ _; rw [hW]; exact HHB2.out _ _
            have HG : Hid (g = w.heap.size) := hg
            rw [← hW, ← hg]
            clear hW hg HC1 hlt
            have r0 : W.cell? ⟨g + 1, 0, none⟩ = some (.int .i64 c) := K6.cell 0
            have r1 : W.cell? ⟨g + 1, 1, none⟩ = some (.string s1) := K6.cell 1
            have r2 : W.cell? ⟨g + 1, 2, none⟩ = some (.string s2) := K6.cell 2
            have HK4 := hid K4
            have HK6 := hid K6
            clear K4 K6
            refine (HM.out W).mono ?_
            rintro e w3 ⟨rfl, b3⟩
            have K4 := HK4.out.later b3
            have K6 := HK6.out.later b3
            have BW3 : Hid (Below w.heap.size w w3) := BW.out.trans (b3.mono BW.out.size)
            have r0 : w3.cell? ⟨g + 1, 0, none⟩ = some (.int .i64 c) := K6.cell 0
            have r1 : w3.cell? ⟨g + 1, 1, none⟩ = some (.string s1) := K6.cell 1
            have r2 : w3.cell? ⟨g + 1, 2, none⟩ = some (.string s2) := K6.cell 2
            have f0 : w3.cell? ⟨g, 0, none⟩ = some (.int .i64 0) := K4.cell 0
            have f1 : w3.cell? ⟨g, 1, none⟩ = some (.string ⟨#[]⟩) := K4.cell 1
            have f2 : w3.cell? ⟨g, 2, none⟩ = some (.string ⟨#[]⟩) := K4.cell 2
            have z0 : w3.frozen? ⟨g, 0, none⟩ = false := by simp [World.frozen?, show w3.heap[g]? = _ from K4]
            have z1 : w3.frozen? ⟨g, 1, none⟩ = false := by simp [World.frozen?, show w3.heap[g]? = _ from K4]
            have z2 : w3.frozen? ⟨g, 2, none⟩ = false := by simp [World.frozen?, show w3.heap[g]? = _ from K4]
            have BS : Hid (∀ a b c : Value, Below w.heap.size w (((w3.setCell ⟨g, 0, none⟩ a).setCell ⟨g, 1, none⟩ b).setCell ⟨g, 2, none⟩ c)) := fun a b c => ((BW3.out.setCell (Nat.le_of_eq HG.out.symm) _).setCell (Nat.le_of_eq HG.out.symm) _).setCell (Nat.le_of_eq HG.out.symm) _
            clear K4 K6 b3 HK4 HK6 BW BW3
            cases M with
            | true =>
              have HN : Hid (R = some (⟨c, s1, s2⟩, q2)) := HR1.out.trans (if_pos rfl)
              go_wp2_with fail
              exact bodyPost_ret (v := outO (some (⟨c, s1, s2⟩, q2))) (by simp [results, Try.results48, go_sem, outO, f0, f1, f2]) rfl ⟨by rw [HN.out], BS.out _ _ _⟩
            | false =>
              have HN : Hid (R = none) := HR1.out.trans (if_neg (by simp))
              go_wp2_with fail
              exact bodyPost_ret (v := outO none) (by simp [results, Try.results48, go_sem, outO, f0, f1, f2]) rfl ⟨by rw [HN.out], BS.out _ _ _⟩
end Go.Proofs.Ytmceanfgcehfeaa.Rt

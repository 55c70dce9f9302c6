/- No order: the law walked. -/
import Derived.Test.YtempagacpfejdaaSt
namespace Go.Proofs.Ytempagacpfejdaa.Lo
open Go.ChangeShapes Go.WideShapes Go.ChangeAt Go.RowKit Go.Shelf
open Go.Proofs.Ytempagacpfejdaa.Wd
open Go.Proofs.Ytempagacpfejdaa.Pr
open Go.Proofs.Ytempagacpfejdaa.Rq
open Go.Proofs.Ytempagacpfejdaa.Bi
open Go.Proofs.Ytempagacpfejdaa.Fl
open Go.Proofs.Ytempagacpfejdaa.Mk
open Go.Proofs.Ytempagacpfejdaa.By
open Go.Proofs.Ytempagacpfejdaa.Op
open Go.Proofs.Ytempagacpfejdaa.Fu
open Go.Proofs.Ytempagacpfejdaa.St
set_option linter.unusedVariables false
set_option linter.unusedSimpArgs false

def om (ks : List ByteArray) (t i : Nat) : ByteArray := ks.getD (ks.length - 1 - (i + t) % ks.length) ByteArray.empty
def oms (ks : List ByteArray) (t i : Nat) : List ByteArray := (List.range i).map (om ks t)
theorem oms_len (ks : List ByteArray) (t i : Nat) : (oms ks t i).length = i := by simp [oms]
theorem oms_succ (ks : List ByteArray) (t i : Nat) : oms ks t (i + 1) = oms ks t i ++ [om ks t i] := by
  unfold oms; rw [List.range_succ, List.map_append]; rfl
theorem getD_mem (ks : List ByteArray) (j : Nat) (h : j < ks.length) : ks.getD j ByteArray.empty ∈ ks := by
  rw [List.getD_eq_getElem?_getD, List.getElem?_eq_getElem h]; exact List.getElem_mem _
theorem om_mem (ks : List ByteArray) (t i : Nat) (h : 0 < ks.length) : om ks t i ∈ ks := getD_mem ks _ (by omega)
theorem oms_mem (ks : List ByteArray) (t : Nat) (ht : t < ks.length) (s : ByteArray) : s ∈ oms ks t ks.length ↔ s ∈ ks := by
  constructor
  · intro h
    obtain ⟨i, hi, rfl⟩ := List.mem_map.1 h
    exact om_mem ks t i (by omega)
  · intro h
    obtain ⟨j, hj, rfl⟩ := List.getElem_of_mem h
    refine List.mem_map.2 ⟨(ks.length - 1 - j + (ks.length - t)) % ks.length, by simp; exact Nat.mod_lt _ (by omega), ?_⟩
    have e1 : ((ks.length - 1 - j + (ks.length - t)) % ks.length + t) % ks.length = ks.length - 1 - j := by
      rw [Nat.mod_add_mod, show ks.length - 1 - j + (ks.length - t) + t = ks.length - 1 - j + ks.length by omega, Nat.add_mod_right, Nat.mod_eq_of_lt (by omega)]
    unfold om
    rw [e1, show ks.length - 1 - (ks.length - 1 - j) = j by omega, List.getD_eq_getElem?_getD, List.getElem?_eq_getElem hj]
    rfl
theorem mkf_same (ks ls : List ByteArray) (b : Nat) (hl : ls.length = ks.length) (hm : ∀ s, s ∈ ls ↔ s ∈ ks) : mkf ls b = mkf ks b := by
  unfold mkf
  rw [hl, flt_same ls ks _ _ (by have := room_ge ks.length b; omega) hm]
set_option maxRecDepth 100000 in
set_option maxHeartbeats 400000 in
theorem order_any (a : Option Addr) (len cap : Nat) (ks : List ByteArray) (b y : Int) (w : World) (H : Strs w a len cap ks) (hlen : len ≤ 8796093021952) (hb : -9223372036854775808 ≤ b ∧ b ≤ 9223372036854775807) (hy : -9223372036854775808 ≤ y ∧ y ≤ 9223372036854775807) :
    Calls Try.prog 8 #[.slice a len cap, .int .i64 b, .int .i64 y] w fun e w' => e = .returned (.bool true) ∧ Below w.heap.size w w' := by
  obtain ⟨p, hp, hp1, hp2⟩ : ∃ p : Nat, 1 + b % ((64 : Nat) : Int) = (p : Int) ∧ 1 ≤ p ∧ p ≤ 64 := ⟨(1 + b % 64).toNat, by omega, by omega, by omega⟩
  have hpb : b % ((64 : Nat) : Int) = (p : Int) - 1 := by omega
  have HA := hid (fun W => among_any b 64 W (by omega))
  rw [hpb] at HA
  clear hp hpb
  obtain ⟨t, ht, htl⟩ : ∃ t : Nat, (0 < len → y % (len : Int) = (t : Int)) ∧ (0 < len → t < len) := by
    by_cases h : 0 < len
    · have h1 := Int.emod_nonneg y (show (len : Int) ≠ 0 by omega)
      have h2 := Int.emod_lt_of_pos y (show (0 : Int) < (len : Int) by omega)
      exact ⟨(y % (len : Int)).toNat, fun _ => by omega, fun _ => by omega⟩
    · exact ⟨0, fun h' => absurd h' h, fun h' => absurd h' h⟩
  have HT := hid (fun (h : 0 < len) W => ht h ▸ among_any y len W (by omega) : 0 < len → ∀ W, Calls Try.prog 23 #[.int .i64 y, .int .i64 (len : Int)] W fun e w' => e = .returned (.int .i64 (t : Int)) ∧ w' = W)
  clear ht hb hy
  have hks := H.1
  have hS := hid (fun W h => H.later h : ∀ W, Below w.heap.size w W → Strs W a len cap ks)
  have hsm := hid H.2.2.1
  clear H
  go_enter Try.func8, Try.ntmps8
  go_wp2_with fail
  refine (works_any w).mono ?_
  rintro e w1 ⟨rfl, hb1⟩
  go_wp2_with fail
  refine (HA.out w1).mono ?_
  rintro e w1' ⟨rfl, rfl⟩
  have e1 : 1 + ((p : Int) - 1) = (p : Int) := by omega
  replace hb1 := hid hb1
  go_wp2_with fail
  go_loopw [7, 8] (fun ov iv wr => ∃ (i : Nat) (g : Option Addr) (c : Nat), i ≤ len ∧ ov = .slice g i c ∧ iv = .int .i64 (i : Int) ∧ Hid (OwnS wr w1'.heap.size (.slice g i c) (oms ks t i)) ∧ Hid (Below w1'.heap.size w1' wr)) (fun _ iv _ => len - (intOf iv).toNat)
  case atStart => exact ⟨0, none, 0, by omega, rfl, rfl, OwnS.nil _ _, Below.refl _ _⟩
  case round =>
    obtain ⟨i, g, c, hi, rfl, rfl, hO, hbr⟩ := hrel
    by_cases hlt : i < len
    · obtain ⟨j, hj, hjl⟩ : ∃ j : Nat, (len : Int) - 1 - ((i : Int) + (t : Int)) % (len : Int) = (j : Int) ∧ j = len - 1 - (i + t) % len := by
        have := Nat.mod_lt (i + t) (show 0 < len by omega)
        refine ⟨_, ?_, rfl⟩
        rw [← Int.natCast_add, ← Int.natCast_emod]
        omega
      have hjn : j < len := by omega
      obtain ⟨bk, off, rfl, cj⟩ := (hS.out wr (hb1.out.trans (hbr.out.mono hb1.out.size))).2.2.2.2 j hjn
      have hM : Hid (oms ks t (i + 1) = oms ks t i ++ [ks.getD j ByteArray.empty]) := by
        show _ = _
        rw [oms_succ, hjl]
        unfold om
        rw [hks]
      obtain ⟨v', W', r1, o1, g1⟩ := app_str wr w1'.heap.size (.slice g i c) (oms ks t i) (ks.getD j ByteArray.empty) hO.out (by rw [oms_len]; omega) hbr.out.size
      rw [← hM.out] at o1
      obtain ⟨g2, c2, rfl, _⟩ := o1.shape
      rw [oms_len] at r1 o1
      have b2 := hid ((Below.refl w1'.heap.size wr).grown g1 hbr.out.size (fun q e => (World.ownsRow.lt hO.out q e).1))
      have ht := HT.out (by omega)
      have hl0 : ((len : Int) == 0) = false := by simp; omega
      have hti : (t : Int) < (len : Int) := by have := htl (by omega); omega
      generalize ks.getD j ByteArray.empty = s at *
      have e3 : Int.tmod ((i : Int) + (t : Int)) (len : Int) = ((i : Int) + (t : Int)) % (len : Int) := Int.tmod_eq_emod_of_nonneg (by omega)
      have hjb : (j : Int) < (len : Int) := by omega
      replace hjl := hid hjl
      replace o1 := hid o1
      replace g1 := hid g1
      replace r1 := hid r1
      replace ht := hid ht
      have ii : (i : Int) < (len : Int) := by omega
      go_wp2_with fail
      refine (ht.out _).mono ?_
      rintro e w3 ⟨rfl, rfl⟩
      go_wp2_with (first | (at_builtin; refine wpList_append_run rfl (.tmp 24) (.tmp 41) 32 32 rfl (.slice g i c) (.slice (some ⟨w3.heap.size, 0, none⟩) 1 1) (.slice g2 (i + 1) c2) rfl rfl r1.out ?_))
      exact ⟨⟨i + 1, g2, c2, by omega, rfl, by go_num, o1, hbr.out.trans b2.out⟩, by simp [intOf]; omega⟩
    · have e2 : i = len := by omega
      subst e2
      have hsame : ∀ s, s ∈ oms ks t i ↔ s ∈ ks := by
        intro s
        by_cases h0 : 0 < i
        · have := oms_mem ks t (by rw [hks]; exact htl h0) s
          rw [hks] at this
          exact this
        · have : i = 0 := by omega
          subst this
          have : ks = [] := List.eq_nil_of_length_eq_zero hks
          subst this
          simp [oms]
      have hlo := oms_len ks t i
      have hMk := hid (mkf_same ks (oms ks t i) p (by rw [hlo, hks]) hsame)
      obtain ⟨ga, gc, he, hOS⟩ := own_strs hO.out (fun s hs => hsm.out s ((hsame s).1 hs))
      rw [hlo] at he hOS
      simp only [Value.slice.injEq] at he
      obtain ⟨rfl, _, rfl⟩ := he
      have b3 := hid (hb1.out.trans (hbr.out.mono hb1.out.size))
      generalize oms ks t i = ls at *
      replace hO := hid hO
      replace hOS := hid hOS
      have i0 : ¬ (i : Int) < (i : Int) := by omega
      go_wp2_with fail
      refine (make_ok a i cap ks p wr (hS.out _ b3.out) hp1 hp2 (by omega)).mono ?_
      rintro e w4 ⟨rfl, hf4, hb4⟩
      go_wp2_with fail
      refine (make_ok g i c ls p w4 (hOS.out.later hb4) hp1 hp2 (by omega)).mono ?_
      rintro e w5 ⟨rfl, hf5, hb5⟩
      have q1 := Bytes.conv (fb_bts (hf4.later hb5) (room i p + 1) (by rw [mkf_len, hks]))
      have q2 := Bytes.conv (fb_bts hf5 (room i p + 1) (by rw [mkf_len, hlo]))
      rw [hMk.out] at q2
      have b5 := hid (b3.out.trans ((hb4.trans (hb5.mono hb4.size)).mono b3.out.size))
      clear hf4 hf5 hb4 hb5
      generalize str ((mkf ks p).map bi) = z at q1 q2
      go_wp2_with fail
      go_ret
      exact ⟨by first | rfl | simp, b5.out⟩
end Go.Proofs.Ytempagacpfejdaa.Lo

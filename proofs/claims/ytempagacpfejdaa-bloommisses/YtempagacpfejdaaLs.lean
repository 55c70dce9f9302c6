/- No key is missed: the law walked. -/
import Derived.Test.YtempagacpfejdaaFu
namespace Go.Proofs.Ytempagacpfejdaa.Ls
open Go.ChangeShapes Go.WideShapes Go.ChangeAt Go.RowKit Go.Shelf
open Go.Proofs.Ytempagacpfejdaa.Wd
open Go.Proofs.Ytempagacpfejdaa.Pr
open Go.Proofs.Ytempagacpfejdaa.Rq
open Go.Proofs.Ytempagacpfejdaa.Bi
open Go.Proofs.Ytempagacpfejdaa.Fl
open Go.Proofs.Ytempagacpfejdaa.Mk
open Go.Proofs.Ytempagacpfejdaa.By
open Go.Proofs.Ytempagacpfejdaa.My
open Go.Proofs.Ytempagacpfejdaa.Op
open Go.Proofs.Ytempagacpfejdaa.Fu
set_option linter.unusedVariables false
set_option linter.unusedSimpArgs false

theorem lst_mkf (ks : List ByteArray) (b : Nat) : lst (mkf ks b) = pb b := by
  have := pb_bd b
  unfold lst
  rw [mkf_len]
  unfold mkf
  rw [List.getD_eq_getElem?_getD, List.getElem?_append_right (by rw [flt_len]; omega), flt_len]
  simp
  omega
theorem isF_mkf (ks : List ByteArray) (b : Nat) : isF (mkf ks b) := by
  have := pb_bd b
  have := room_ge ks.length b
  refine ⟨by rw [mkf_len]; omega, by rw [lst_mkf]; omega, by rw [lst_mkf]; omega⟩
theorem bit_mkf (ks : List ByteArray) (b c : Nat) (h : c < 8 * room ks.length b) : bitT (mkf ks b) c = decide (c ∈ kbs ks (room ks.length b) (pb b)) := by
  rw [← bit_flt _ _ _ _ (by have := room_ge ks.length b; omega)]
  unfold bitT mkf
  rw [List.getD_eq_getElem?_getD, List.getElem?_append_left (by rw [flt_len]; omega), List.getD_eq_getElem?_getD]
theorem may_mem (ks : List ByteArray) (b : Nat) (s : ByteArray) (h : s ∈ ks) : mayf (mkf ks b) s = true := by
  unfold mayf
  rw [if_pos (isF_mkf ks b), mkf_len, lst_mkf, Nat.add_sub_cancel, List.all_eq_true]
  intro c hc
  rw [bit_mkf ks b c (kb_lt s _ _ (by have := room_ge ks.length b; omega) c hc)]
  simp only [decide_eq_true_eq]
  exact List.mem_flatMap.2 ⟨s, h, hc⟩
theorem cb_mkf (ks : List ByteArray) (b : Nat) : 0 < cb (mkf ks b) (8 * room ks.length b) ↔ 0 < ks.length := by
  rw [cb_pos]
  have hr := room_ge ks.length b
  have hp := pb_bd b
  constructor
  · rintro ⟨c, h1, h2⟩
    rw [bit_mkf ks b c h1] at h2
    simp only [decide_eq_true_eq] at h2
    obtain ⟨s, hs, _⟩ := List.mem_flatMap.1 h2
    exact List.length_pos_of_mem hs
  · intro h
    obtain ⟨s, hs⟩ := List.exists_mem_of_length_pos h
    have hk : bitA s (8 * room ks.length b) 0 ∈ kb s (8 * room ks.length b) (pb b) := List.mem_map.2 ⟨0, by simp; omega, rfl⟩
    refine ⟨_, bitA_lt s _ 0 (by omega), ?_⟩
    rw [bit_mkf ks b _ (bitA_lt s _ 0 (by omega))]
    simp only [decide_eq_true_eq]
    exact List.mem_flatMap.2 ⟨s, hs, hk⟩
set_option maxRecDepth 100000 in
set_option maxHeartbeats 400000 in
theorem misses_any (a : Option Addr) (len cap : Nat) (ks : List ByteArray) (b : Int) (w : World) (H : Strs w a len cap ks) (hlen : len ≤ 8796093021952) (hb : -9223372036854775808 ≤ b ∧ b ≤ 9223372036854775807) :
    Calls Try.prog 7 #[.slice a len cap, .int .i64 b] w fun e w' => e = .returned (.bool true) ∧ Below w.heap.size w w' := by
  obtain ⟨p, hp, hp1, hp2⟩ : ∃ p : Nat, 1 + b % ((64 : Nat) : Int) = (p : Int) ∧ 1 ≤ p ∧ p ≤ 64 := ⟨(1 + b % 64).toNat, by omega, by omega, by omega⟩
  have hpb : b % ((64 : Nat) : Int) = (p : Int) - 1 := by omega
  have HA := hid (fun W => among_any b 64 W (by omega))
  rw [hpb] at HA
  replace hp := hid hp
  replace hpb := hid hpb
  have hks := H.1
  have hS := hid (fun W h => H.later h : ∀ W, Below w.heap.size w W → Strs W a len cap ks)
  clear H
  go_enter Try.func7, Try.ntmps7
  go_wp2_with fail
  refine (works_any w).mono ?_
  rintro e w1 ⟨rfl, hb1⟩
  go_wp2_with fail
  refine (HA.out w1).mono ?_
  rintro e w1' ⟨rfl, rfl⟩
  have e1 : 1 + ((p : Int) - 1) = (p : Int) := by omega
  go_wp2_with fail
  refine (make_ok a len cap ks p w1' (hS.out _ hb1) hp1 hp2 (by omega)).mono ?_
  rintro e w2 ⟨rfl, hf, hb2⟩
  have hr8 := room_ge len p
  have hrl := room_le len p hp2
  have hB := fb_bts hf (room len p + 1) (by rw [mkf_len, hks])
  have hb12 := hb1.trans (hb2.mono hb1.size)
  have hC := hid (cb_mkf ks p)
  rw [hks] at hC
  obtain ⟨r, hr⟩ : ∃ r, r = room len p := ⟨_, rfl⟩
  rw [← hr] at hr8 hrl hB hC ⊢
  replace hf := hid hf
  replace hb2 := hid hb2
  replace hb1 := hid hb1
  replace hb12 := hid hb12
  replace hB := hid hB
  replace hr := hid hr
  go_wp2_with fail
  go_loopw [7] (fun iv wr => ∃ i : Nat, i ≤ len ∧ iv = .int .i64 (i : Int) ∧ Hid (Below w2.heap.size w2 wr)) (fun iv _ => len - (intOf iv).toNat)
  case atStart => exact ⟨0, by omega, rfl, Below.refl _ _⟩
  case round =>
    obtain ⟨i, hi, rfl, hbr⟩ := hrel
    by_cases hlt : i < len
    · obtain ⟨bk, off, rfl, c⟩ := (hS.out wr (hb12.out.trans (hbr.out.mono hb12.out.size))).2.2.2.2 i hlt
      have hsm : ks.getD i ByteArray.empty ∈ ks := by
        rw [List.getD_eq_getElem?_getD, List.getElem?_eq_getElem (by omega)]
        exact List.getElem_mem _
      have hsz := (hS.out wr (hb12.out.trans (hbr.out.mono hb12.out.size))).2.2.1 _ hsm
      have HM := hid (may_any _ _ _ _ (ks.getD i ByteArray.empty) wr (hB.out.later hbr.out) (by omega) hsz)
      rw [may_mem ks p _ hsm] at HM
      generalize ks.getD i ByteArray.empty = s at c HM
      clear hsm hsz
      have ii : (i : Int) < (len : Int) := by omega
      go_wp2_with fail
      refine HM.out.mono ?_
      rintro e w3 ⟨rfl, hb3⟩
      replace hb3 := hid hb3
      go_wp2_with fail
      go_roundw
      case rel => exact ⟨i + 1, by omega, by go_num, hbr.out.trans (hb3.out.mono hbr.out.size)⟩
      case measure => simp [intOf]; omega
    · have e2 : i = len := by omega
      subst e2
      have HF := hid (full_yes _ _ _ _ wr (hB.out.later hbr.out) (isF_mkf ks p) (by omega))
      rw [Nat.add_sub_cancel] at HF
      have hcl := cb_le (mkf ks p) (8 * r)
      generalize cb (mkf ks p) (8 * r) = q at *
      go_wp2_with fail
      refine HF.out.mono ?_
      rintro e w3 ⟨rfl, rfl⟩
      have h1 : (q : Int) ≤ 8 * (r : Int) := by omega
      go_wp2_with fail
      go_ret
      refine ⟨?_, hb12.out.trans (hbr.out.mono hb12.out.size)⟩
      show Ending.returned (.bool (decide (0 < q) == decide (0 < i))) = _
      rw [show decide (0 < q) = decide (0 < i) from by rw [decide_eq_decide]; exact hC.out, beq_self_eq_true]
end Go.Proofs.Ytempagacpfejdaa.Ls

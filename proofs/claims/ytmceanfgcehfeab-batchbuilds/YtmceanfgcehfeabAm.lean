/- The law's among; cut and lengthened batches are none; Decode of bytes that may be very long. -/
import Derived.Test.YtmceanfgcehfeabWk
import Derived.Test.YtmceanfgcehfeabOw
import Derived.Deep.DeepAppendWide
namespace Go.Proofs.Ytmceanfgcehfeab.Am
open Go.ChangeShapes Go.WideShapes Go.ChangeAt Go.RowKit Go.Joins
open Go.Proofs.Ytmceanfgcehfeab.By
open Go.Proofs.Ytmceanfgcehfeab.Ob
open Go.Proofs.Ytmceanfgcehfeab.Hd
open Go.Proofs.Ytmceanfgcehfeab.It
open Go.Proofs.Ytmceanfgcehfeab.En
open Go.Proofs.Ytmceanfgcehfeab.De
open Go.Proofs.Ytmceanfgcehfeab.Pu
set_option linter.unusedVariables false

theorem tmod_bd (x : Int) (n : Nat) (hn : 1 ≤ n) : -(n : Int) < x.tmod n ∧ x.tmod n < n := by
  by_cases h : 0 ≤ x
  · rw [Int.tmod_eq_emod_of_nonneg h]
    have := Int.emod_nonneg x (show (n : Int) ≠ 0 by omega)
    have := Int.emod_lt_of_pos x (show (0 : Int) < n by omega)
    omega
  · have e : x = -(-x) := by omega
    rw [e, Int.neg_tmod, Int.tmod_eq_emod_of_nonneg (by omega)]
    have := Int.emod_nonneg (-x) (show (n : Int) ≠ 0 by omega)
    have := Int.emod_lt_of_pos (-x) (show (0 : Int) < n by omega)
    omega
theorem among_any (x : Int) (n : Nat) (w : World) (hx : -9223372036854775808 ≤ x ∧ x ≤ 9223372036854775807) (hn : 1 ≤ n ∧ n ≤ 1048576) :
    Calls Try.prog 23 #[.int .i64 x, .int .i64 n] w fun e w' => (∃ k : Nat, k < n ∧ e = .returned (.int .i64 k)) ∧ w' = w := by
  have n0 : ((n : Int) == 0) = false := by simp; omega
  have HB : Hid (∃ k : Nat, k < n ∧ (wrap64 (x.tmod n + n)).tmod n = k) := by
    have h1 := tmod_bd x n hn.1
    have e : wrap64 (x.tmod n + n) = x.tmod n + n := by unfold wrap64; omega
    rw [e]
    have h2 := tmod_bd (x.tmod n + n) n hn.1
    rw [Int.tmod_eq_emod_of_nonneg (by omega)] at h2 ⊢
    have := Int.emod_nonneg (x.tmod n + n) (show (n : Int) ≠ 0 by omega)
    exact ⟨((x.tmod n + n) % n).toNat, by omega, by omega⟩
  go_enter Try.func23, Try.ntmps23
  go_wp2
  go_ret
  obtain ⟨k, hk, he⟩ := HB.out
  exact ⟨⟨k, hk, ret_int he⟩, rfl⟩
/-! ### Cut and lengthened -/
theorem dec_long (s : Int) (xs : List O) (hs : 0 ≤ s ∧ s ≤ 18446744073709551615) (h : encE s xs = 0) (more : List Int) (hm : more ≠ []) : dec (enc s xs ++ more) = none := by
  obtain ⟨hc, hf⟩ := encE_ok h
  obtain ⟨p1, p2, p3, p4⟩ := chk_parts hc
  have hl := enc_len s xs
  have hl12 : 12 ≤ (enc s xs).length := by rw [hl]; unfold bsz; omega
  obtain ⟨e1, e2⟩ := enc_head s xs hs p1
  have t8 : hseq (enc s xs ++ more) = s := by
    unfold hseq at e1 ⊢
    rw [List.take_append_of_le_length (by omega)]
    exact e1
  have t4 : hcnt (enc s xs ++ more) = xs.length := by
    unfold hcnt at e2 ⊢
    rw [List.drop_append_of_le_length (by omega), List.take_append_of_le_length (by rw [List.length_drop]; omega)]
    exact e2
  have hw : wlk (enc s xs ++ more) xs.length 12 = (xs, 12 + osum xs) := by
    have := wlk_back xs (lb 8 s ++ lb 4 xs.length) more (all_may xs p2)
    have e : (lb 8 s ++ lb 4 (xs.length : Int)) ++ (obs xs ++ more) = enc s xs ++ more := by unfold enc; simp
    have el : (lb 8 s ++ lb 4 (xs.length : Int)).length = 12 := by simp [lb_len]
    rw [e, el] at this
    exact this
  have hne : 0 < more.length := List.length_pos_iff.2 hm
  unfold dec
  rw [if_neg (by rw [List.length_append]; omega), t8, t4]
  by_cases hb : 1048576 < (enc s xs ++ more).length ∨ 4096 < xs.length ∨ fit s xs.length = false
  · rw [if_pos hb]
  · rw [if_neg hb, hw, if_neg]
    rintro ⟨_, h2⟩
    rw [List.length_append, hl] at h2
    simp only at h2
    omega
theorem dec_cut (s : Int) (xs : List O) (hs : 0 ≤ s ∧ s ≤ 18446744073709551615) (h : encE s xs = 0) (k : Nat) (hk : k < (enc s xs).length) : dec ((enc s xs).take k) = none := by
  have hb := enc_bytes s xs (all_may xs (chk_parts (encE_ok h).1).2.1)
  cases hd : dec ((enc s xs).take k) with
  | none => rfl
  | some q =>
    obtain ⟨s', xs'⟩ := q
    obtain ⟨q1, q2, q3, _, _⟩ := enc_dec _ (fun y hy => hb y (List.mem_of_mem_take hy)) s' xs' hd
    have hne : (enc s xs).drop k ≠ [] := by
      intro e
      have := congrArg List.length e
      rw [List.length_drop] at this
      simp at this
      omega
    have h1 := dec_long s' xs' q3 q1 ((enc s xs).drop k) hne
    rw [q2, List.take_append_drop, dec_enc s xs hs h] at h1
    simp at h1
/-! ### Very long bytes -/
set_option maxHeartbeats 1000000 in
theorem head_ok' (a : Option Addr) (len cap : Nat) (zs : List Int) (w : World) (H : Bytes w a len cap zs) (hcap : len ≤ 281474976710656) (h : 12 ≤ len) :
    Calls Try.prog 27 #[.slice a len cap] w fun e w' => e = .returned (.tuple #[.int .u64 (hseq zs), .int .i64 (hcnt zs), .int .i64 0]) ∧ w' = w := by
  have ip : ¬ (len : Int) < 12 := by omega
  have hl := H.1
  have F8 := fixed64_any a len cap zs 0 w H (by omega)
  rw [fread8 zs (by omega)] at F8
  have F4 := fixed32_any a len cap zs 8 w H (by omega)
  rw [fread4 zs H.2.2.2.1 (by omega)] at F4
  have hc := cnt_lt zs H.2.2.2.1
  have HF8 := hid F8
  have HF4 := hid F4
  clear F8 F4 H
  generalize hseq zs = S at *
  generalize hcnt zs = C at *
  go_enter Try.func27, Try.ntmps27
  go_wp2_with fail
  refine HF8.out.mono ?_
  rintro e w' ⟨rfl, rfl⟩
  go_wp2_with fail
  refine HF4.out.mono ?_
  rintro e w' ⟨rfl, rfl⟩
  go_wp2_with fail
  go_ret3
  exact ⟨rfl, rfl⟩
set_option maxHeartbeats 1000000 in
theorem decode_no' (a : Option Addr) (len cap : Nat) (zs : List Int) (w : World) (H : Bytes w a len cap zs) (hcap : len ≤ 281474976710656) (h : dec zs = none) :
    Calls Try.prog 21 #[.slice a len cap] w fun e w' => e = .returned (.tuple #[.int .u64 0, .slice none 0 0, .int .i64 41]) ∧ Below w.heap.size w w' := by
  by_cases h1 : 1048576 < len
  · have HD := hid (head_ok' a len cap zs (w.alloc (.cells #[.slice none 0 0] 26)) (bytes_kept H (box_below _ _)) hcap (by omega))
    generalize hseq zs = S at *
    generalize hcnt zs = C at *
    have i1 : (1048576 : Int) < (len : Int) := by omega
    clear H h
    go_enter Try.func21, Try.ntmps21
    go_wp2_with fail
    refine HD.out.mono ?_
    rintro e w' ⟨rfl, rfl⟩
    go_wp2_with fail
    exact bodyPost_ret (v := .tuple #[.int .u64 0, .slice none 0 0, .int .i64 41]) (by simp [results, Try.results21, go_sem]) rfl ⟨rfl, box_below _ _⟩
  · exact decode_no a len cap zs w H (by omega) h
/-! ### Bytes inside a struct that came in -/
theorem u8_bd {y : Int} (h : (Lit.int .u8 y).wf = true) : 0 ≤ y ∧ y ≤ 255 := by
  simpa [Lit.wf, IntKind.min, IntKind.max, IntKind.signed, IntKind.bits] using h
theorem open_bytesw {H : Type} {enc : TypeId × Value → H} {W : World} {v : Value} {fuel : Nat} {y : DataW H × List MemPlace} (hf : DataW.trod enc Try.prog W 0 (fun _ => true) true fuel 33 [v] = some y) (hs : ∀ m ∈ y.1.weights Try.prog 33, m ≤ reachBytes) :
    ∃ a len cap zs, v = .slice a len cap ∧ Bytes W a len cap zs ∧ cap ≤ 140737488351232 := by
  rcases open_ints Try.underlying33 Try.underlying5 (by kernel_rfl) hf with ⟨hcs, _⟩ | ⟨x, l, c, zs, hcs, _, hl, hm, hz, hx, hcell, hwz⟩
  · simp at hcs
    subst hcs
    exact ⟨none, 0, 0, [], rfl, nil_bytes W, by omega⟩
  · simp at hcs
    subst hcs
    have hd : y.1 = .slice (lits .u8 (zs.take l)) (lits .u8 (zs.drop l)) := (Prod.mk.inj hx).1
    have hz' : zs.length = c := by simpa using hz
    have sz := hs _ (by rw [hd]; simp only [DataW.weights, Try.underlying33]; exact List.mem_cons_self ..)
    rw [show Try.prog.bytesOf 5 = 1 from by kernel_rfl] at sz
    simp only [lits, List.length_map, List.length_take, List.length_drop, reachBytes] at sz
    refine ⟨some x, l, c, zs.take l, rfl, ⟨by rw [List.length_take]; omega, hl, fun e => by simp at e, fun y hy => u8_bd (hwz y (List.mem_of_mem_take hy)), ?_⟩, by omega⟩
    intro x' hx' j hj
    simp at hx'
    subst hx'
    rw [hcell j (by omega)]
    simp [List.getD_eq_getElem?_getD, hj]
end Go.Proofs.Ytmceanfgcehfeab.Am

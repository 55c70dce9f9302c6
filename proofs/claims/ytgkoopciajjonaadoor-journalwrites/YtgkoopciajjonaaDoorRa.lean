/- The document's Cost and Add. -/
import Derived.Test.YtgkoopciajjonaaDoorRp
import Derived.Lib.AppendZerosOnto
namespace Go.Proofs.YtgkoopciajjonaaDoor.Ra
open Go.ChangeShapes Go.WideShapes Go.ChangeAt Go.RowKit
open Go.Proofs.YtgkoopciajjonaaDoor.Crc
open Go.Proofs.YtgkoopciajjonaaDoor.Jm
open Go.Proofs.YtgkoopciajjonaaDoor.Ck
open Go.Proofs.YtgkoopciajjonaaDoor.Wt
open Go.Proofs.YtgkoopciajjonaaDoor.Wc
open Go.Proofs.YtgkoopciajjonaaDoor.Wa
open Go.Proofs.YtgkoopciajjonaaDoor.Rc
open Go.Proofs.YtgkoopciajjonaaDoor.Rp
open Go.Proofs.YtgkoopciajjonaaDoor
set_option linter.unusedVariables false
set_option linter.unusedSimpArgs false

theorem left_mod (b s : Nat) : left b (s % b) = left b s := by unfold left; rw [Nat.mod_mod]
theorem left_lt (b a : Nat) (h : a < b) : left b a = b - a := by unfold left; rw [Nat.mod_eq_of_lt h]
theorem cst_np (b s n : Nat) : cst b s n = noughts b s + np (b - 7) (room b s) n * 7 + n := by unfold cst np; rfl
theorem noughts0 (b : Nat) (hb : 32 ≤ b) : noughts b 0 = 0 := by unfold noughts; rw [left_lt b 0 (by omega), if_neg (by omega)]
theorem room0 (b : Nat) (hb : 32 ≤ b) : room b 0 = b - 7 := by unfold room; rw [left_lt b 0 (by omega), if_neg (by omega)]; omega
theorem noughts_mod (b s : Nat) : noughts b (s % b) = noughts b s := by unfold noughts; rw [left_mod]
theorem room_mod (b s : Nat) : room b (s % b) = room b s := by unfold room; rw [left_mod]
theorem rcost_no (b s n : Int) (w : World) (hn : n < 0 ∨ 2097152 < n) : Calls Tryd.prog 14 #[.int .i64 b, .int .i64 s, .int .i64 n] w fun e w' => e = .returned (.int .i64 0) ∧ w' = w := by
  by_cases h0 : n < 0
  · go_enter Tryd.func14, Tryd.ntmps14
    go_wp2_with fail
    go_ret
    exact ⟨rfl, rfl⟩
  · have h1 : 2097152 < n := by omega
    go_enter Tryd.func14, Tryd.ntmps14
    go_wp2_with fail
    go_ret
    exact ⟨rfl, rfl⟩
def mz (v : Value) : Nat := if intOf v = 0 then 0 else 1
set_option maxHeartbeats 1600000 in
theorem rcost_ok (b s n : Nat) (w : World) (hb : 32 ≤ b ∧ b ≤ 32768) (hs : s ≤ 9223372036854775807) (hn : n ≤ 2097152) : Calls Tryd.prog 14 #[.int .i64 b, .int .i64 s, .int .i64 n] w fun e w' => e = .returned (.int .i64 ((cst b s n : Nat) : Int)) ∧ w' = w := by
  have h0 : ¬ (n : Int) < 0 := by omega
  have h1 : ¬ (2097152 : Int) < (n : Int) := by omega
  have hC := cst_le b s n hb
  have hQ := cst_np b s n
  generalize cst b s n = q at *
  have hz : ¬ (b : Int) = 0 := by omega
  have hsb : s % b < b := Nat.mod_lt _ (by omega)
  have e1 : (s : Int) % (b : Int) = ((s % b : Nat) : Int) := by rw [Int.natCast_emod]
  have e2 : (s : Int).tmod (b : Int) = ((s % b : Nat) : Int) := by rw [Int.tmod_eq_emod_of_nonneg (by omega), e1]
  rw [← noughts_mod, ← room_mod] at hQ
  generalize s % b = a0 at *
  replace hQ := hid hQ
  go_enter Tryd.func14, Tryd.ntmps14
  go_wp2_with fail
  go_loopw [2, 7, 8, 9] (fun nv sv av kv wr => ∃ n' s' a' : Nat, nv = .int .i64 (n' : Int) ∧ sv = .int .i64 (s' : Int) ∧ av = .int .i64 (a' : Int) ∧ n' ≤ n ∧ a' < b ∧ s' ≤ q ∧ Hid (q = s' + (noughts b a' + np (b - 7) (room b a') n' * 7 + n')) ∧ wr = w) (fun nv _ av _ _ => (intOf nv).toNat * 2 + mz av)
  case atStart => exact ⟨n, 0, a0, rfl, rfl, rfl, Nat.le_refl _, hsb, Nat.zero_le _, by show _ = _; have := hQ.out; omega, rfl⟩
  case round =>
    obtain ⟨n', s', a', rfl, rfl, rfl, hn', ha', hs', hq, rfl⟩ := hrel
    have hl := left_lt b a' ha'
    have hnx := np_next (b - 7) (room b a') n' (by omega)
    have hq' := hq.out
    by_cases h7 : left b a' < 7
    · have hno : noughts b a' = left b a' := by unfold noughts; rw [if_pos h7]
      have hro : room b a' = b - 7 := by unfold room; rw [if_pos h7]
      have i7 : (b : Int) - (a' : Int) < 7 := by omega
      rw [hno, hro] at hq'
      by_cases hk : n' ≤ b - 7
      · have ik : (n' : Int) ≤ (b : Int) - 7 := by omega
        have hp : np (b - 7) (b - 7) n' = 1 := by unfold np; rw [if_pos hk]
        rw [hp] at hq'
        have E : Hid ((s' : Int) + (b : Int) - (a' : Int) + 7 + (n' : Int) = (q : Int)) := by show _ = _; omega
        clear hq hq'
        go_wp2_with fail
        go_ret
        exact ⟨by first | (rw [← E.out]; rfl) | (have := E.out; exact ret_int (by omega)), rfl⟩
      · have ik : ¬ (n' : Int) ≤ (b : Int) - 7 := by omega
        rw [hro] at hnx
        have hp := hnx hk
        rw [hp] at hq'
        have hn2 := noughts0 b hb.1
        have hr2 := room0 b hb.1
        generalize hN : np (b - 7) (b - 7) (n' - (b - 7)) = N at *
        have hE : q = (s' + (b - a') + 7 + (b - 7)) + (noughts b 0 + np (b - 7) (room b 0) (n' - (b - 7)) * 7 + (n' - (b - 7))) := by rw [hn2, hr2, hN]; omega
        replace hE := hid hE
        clear hq hN hn2 hr2 hp
        go_wp2_with fail
        refine ⟨⟨n' - (b - 7), s' + (b - a') + 7 + (b - 7), 0, by congr 1; omega, by congr 1; omega, rfl, by omega, by omega, by omega, hE, by first | rfl | trivial⟩, ?_⟩
        have h2 : mz (.int .i64 0) = 0 := by simp [mz, intOf]
        simp only [intOf, h2]
        omega
    · have hno : noughts b a' = 0 := by unfold noughts; rw [if_neg h7]
      have hro : room b a' = b - a' - 7 := by unfold room; rw [if_neg h7, hl]
      have i7 : ¬ (b : Int) - (a' : Int) < 7 := by omega
      rw [hno, hro] at hq'
      by_cases hk : n' ≤ b - a' - 7
      · have ik : (n' : Int) ≤ (b : Int) - (a' : Int) - 7 := by omega
        have hp : np (b - 7) (b - a' - 7) n' = 1 := by unfold np; rw [if_pos hk]
        rw [hp] at hq'
        have E : Hid ((s' : Int) + 7 + (n' : Int) = (q : Int)) := by show _ = _; omega
        clear hq hq'
        go_wp2_with fail
        go_ret
        exact ⟨by first | (rw [← E.out]; rfl) | (have := E.out; exact ret_int (by omega)), rfl⟩
      · have ik : ¬ (n' : Int) ≤ (b : Int) - (a' : Int) - 7 := by omega
        rw [hro] at hnx
        have hp := hnx hk
        rw [hp] at hq'
        have hn2 := noughts0 b hb.1
        have hr2 := room0 b hb.1
        generalize hN : np (b - 7) (b - 7) (n' - (b - a' - 7)) = N at *
        have hE : q = (s' + 7 + (b - a' - 7)) + (noughts b 0 + np (b - 7) (room b 0) (n' - (b - a' - 7)) * 7 + (n' - (b - a' - 7))) := by rw [hn2, hr2, hN]; omega
        replace hE := hid hE
        clear hq hN hn2 hr2 hp
        go_wp2_with fail
        refine ⟨⟨n' - (b - a' - 7), s' + 7 + (b - a' - 7), 0, by congr 1; omega, by congr 1; omega, rfl, by omega, by omega, by omega, hE, by first | rfl | trivial⟩, ?_⟩
        by_cases ha0 : (a' : Int) = 0
        · have h1 : mz (.int .i64 (a' : Int)) = 0 := by show (if (a' : Int) = 0 then 0 else 1) = 0; rw [if_pos ha0]
          have h2 : mz (.int .i64 0) = 0 := by simp [mz, intOf]
          simp only [intOf, h1, h2]
          omega
        · have h1 : mz (.int .i64 (a' : Int)) = 1 := by show (if (a' : Int) = 0 then 0 else 1) = 1; rw [if_neg ha0]
          have h2 : mz (.int .i64 0) = 0 := by simp [mz, intOf]
          simp only [intOf, h1, h2]
          omega
theorem zero_list (m : Nat) : (Builtin.zeroCells #[Value.int .u8 0] m).toList = (List.replicate m (0 : Int)).map (Value.int .u8) := by
  apply List.ext_getElem?
  intro i
  by_cases h : i < m
  · simp [Builtin.zeroCells, h, Nat.mod_one]
  · simp [Builtin.zeroCells, h]
theorem int_under : Tryd.prog.underlying 3 = some (.int .i64) := Tryd.underlying3
/-- Noughts behind nothing. -/
theorem zeros_nil (w : World) (base m : Nat) (hm : 0 < m) (hm2 : m ≤ 1000) (hbase : base ≤ w.heap.size) (ty : TypeId) :
    ∃ v' w', (Builtin.append_ #[31, 3] ty #[.slice none 0 0, .int .i64 (m : Int)]).run Tryd.prog w = .ok v' w' ∧ Wt.Own w' base v' (List.replicate m 0) ∧ Below w.heap.size w w' := by
  obtain ⟨i0, hi, hz0, hz1, hz2⟩ := info_parts info5
  have z1 : (Value.int .u8 0).cells = #[Value.int .u8 0] := rfl
  have hold : (Builtin.firstCells i0.size 0 (.slice none 0 0)).run Tryd.prog w.drew = .ok ([] : List Value).toArray w.drew := by simp [Builtin.firstCells]
  have hr := Lib.run_append_grow_zeros (P := Tryd.prog) w 31 3 ty 5 i0 (.int .u8 0) .i64 .i64 Tryd.underlying31 int_under hi hz0 none 0 0 _ hold m (by omega) (by rw [hz1]; omega) (by omega) (by omega) (by rw [hz2]; omega) (growslice_fits (by omega) (by rw [hz2]; omega))
  rw [Nat.zero_add] at hr
  have hge := grownCap_ge w m 0 5
  have hcm2 : grownCap w m 0 5 ≤ maxLen := grownCap_le_maxLen w m 0 5 (by unfold maxLen; omega)
  refine ⟨_, _, hr, ?_, ?_⟩
  · unfold Wt.Own
    rw [List.length_replicate]
    refine ⟨by simp, .inr ⟨w.heap.size, _, _, rfl, hbase, heap_alloc_new w.drew _, by omega, hcm2, ?_, ?_⟩⟩
    · simp only [Array.size_append, size_zeroCells, z1]
      simp
      omega
    · simp only [Nat.mul_one, Array.toList_append, z1, zero_list]
      rw [List.nil_append]
      exact List.take_left' (by simp)
  · exact ((Below.refl _ _).drew).alloc (by simp) _
set_option maxHeartbeats 1600000 in
set_option maxRecDepth 100000 in
theorem radd_any (b s : Nat) (a : Option Addr) (len cap : Nat) (r : List Int) (w : World) (H : Bytes w a len cap r) (hb : 32 ≤ b ∧ b ≤ 32768) (hs : s ≤ 9223372036854775807) (hn : len ≤ 2097152) :
    Calls Tryd.prog 18 #[.int .i64 b, .int .i64 s, .slice a len cap] w fun e w' => ∃ v, e = .returned v ∧ Wt.Own w' w.heap.size v (flat (addc b s r)) ∧ Below w.heap.size w w' := by
  have hX := flat_addc b s r
  have hXl := add_len b s r hb
  have hrl := H.1
  rw [hrl] at hX hXl
  have hC := (cst_le b s len hb).2
  rw [← hXl] at hC
  clear hXl
  generalize flat (addc b s r) = X at *
  rw [← noughts_mod, ← room_mod] at hX
  have hz : ¬ (b : Int) = 0 := by omega
  have hsb : s % b < b := Nat.mod_lt _ (by omega)
  have e1 : (s : Int) % (b : Int) = ((s % b : Nat) : Int) := by rw [Int.natCast_emod]
  have e2 : (s : Int).tmod (b : Int) = ((s % b : Nat) : Int) := by rw [Int.tmod_eq_emod_of_nonneg (by omega), e1]
  generalize s % b = a0 at *
  replace hX := hid hX
  replace H := hid H
  go_enter Tryd.func18, Tryd.ntmps18
  go_wp2_with fail
  go_loopw [2, 7, 8, 9, 10, 11] (fun rv ov av fv kv dv wr => ∃ (a' : Option Addr) (len' cap' at' n : Nat) (r' xs : List Int) (first : Bool), rv = .slice a' len' cap' ∧ av = .int .i64 (at' : Int) ∧ fv = .bool first ∧ at' < b ∧ len' ≤ len ∧ Hid (Bytes w a' len' cap' r') ∧ Hid (Wt.Own wr w.heap.size ov xs) ∧ Hid (Below w.heap.size w wr) ∧
      Hid (X = xs ++ (List.replicate (noughts b at') 0 ++ flat (pcs (b - 7) n (room b at') first r'))) ∧ Hid (len' + (if first then 2 else 1) ≤ n) ∧ Hid (first = false → at' = 0) ∧ Hid (first = true → ov = .slice none 0 0))
    (fun rv _ _ fv _ _ _ => vlen rv + vb fv)
  case atStart => exact ⟨a, len, cap, a0, len + 2, r, [], true, rfl, rfl, rfl, hsb, Nat.le_refl _, H, World.ownsRow_nil _ _ _ _, Below.refl _ _, hX, by show _ ≤ _; simp, by simp [Hid], fun _ => rfl⟩
  case round =>
    obtain ⟨a', len', cap', at', n, r', xs, first, rfl, rfl, rfl, hat, hl', HB', HO, HBel, HX, HN, HF, HV⟩ := hrel
    have hrl' := HB'.out.1
    have hlc' := HB'.out.2.1
    have hl := left_lt b at' hat
    have hxl : Hid (xs.length + len' ≤ X.length) := by
      show _ ≤ _
      have := congrArg List.length HX.out
      rw [List.length_append, List.length_append, flat_len (b - 7) (by omega) n (room b at') first r' (by rw [hrl']; exact HN.out) (fun e => by rw [HF.out e]; exact room0 b hb.1), hrl'] at this
      omega
    obtain ⟨n', hn'⟩ : ∃ n', n = n' + 1 := ⟨n - 1, by have := HN.out; cases first <;> simp at this <;> omega⟩
    subst hn'
    obtain ⟨rm, hrm⟩ : ∃ rm, rm = room b at' := ⟨_, rfl⟩
    have hno7 := noughts_le b at'
    by_cases h7 : left b at' < 7
    · have hf : first = true := by cases first with | true => rfl | false => have := HF.out rfl; omega
      subst hf
      have hov := HV.out rfl
      subst hov
      have hxs : xs = [] := by
        rcases HO.out.2 with ⟨_, e0⟩ | ⟨g, c, cur, e, _⟩
        · exact List.eq_nil_of_length_eq_zero e0
        · simp at e
      have i7 : (b : Int) - (at' : Int) < 7 := by omega
      have hno : noughts b at' = left b at' := by unfold noughts; rw [if_pos h7]
      have hro : rm = b - 7 := by rw [hrm]; unfold room; rw [if_pos h7]
      have hro1 : rm ≤ b - 7 := by omega
      have hro2 : b - 7 ≤ rm := by omega
      clear hro
      obtain ⟨v1, w1, hrun, O1, b1⟩ := zeros_nil wr w.heap.size (left b at') (by omega) (by omega) HBel.out.size 31
      have B1 := hid (HBel.out.trans (b1.mono HBel.out.size))
      replace O1 : Hid (Wt.Own w1 w.heap.size v1 (xs ++ List.replicate (noughts b at') 0)) := by show Wt.Own _ _ _ _; rw [hxs, hno]; exact O1
      rw [show ((left b at' : Nat) : Int) = (b : Int) - (at' : Int) by omega] at hrun
      replace hrun := hid hrun
      replace hrm := hid hrm
      have hl1 := hl
      clear b1 hno hxs hl hl1
      rcases Nat.lt_trichotomy rm len' with hc | hc | hc
      · skip
        have ik : ¬ (len' : Int) < (b : Int) - 7 := by omega
        have ieq : (b : Int) - 7 = (rm : Int) := by omega
        have ibq : ((rm : Int) == (len' : Int)) = false := by rw [beq_eq_false_iff_ne]; omega
        have HT : Bytes w a' rm cap' (r'.take rm) := bytes_take HB'.out rm (by omega) (fun e => by have := (HB'.out.2.2.1 e).1; omega)
        have HPc := hid (fun W (hW : Below w.heap.size w W) => rpiece_any 2 a' rm cap' (r'.take rm) W (bytes_kept HT hW) (by omega) (by omega))
        have hcc : (rm : Int) ≤ (cap' : Int) := by omega
        have hE : Hid (X = ((xs ++ List.replicate (noughts b at') 0) ++ pc 2 (r'.take rm)) ++ (List.replicate (noughts b 0) 0 ++ flat (pcs (b - 7) n' (room b 0) false (r'.drop rm)))) := by
          show _ = _
          rw [HX.out, noughts0 b hb.1, room0 b hb.1]
          conv => lhs; unfold pcs
          rw [← hrm.out, if_neg (by omega), flat_cons]
          simp [List.append_assoc, Ch.b, kd]
        obtain ⟨ad, rfl⟩ : ∃ ad, a' = some ad := by
          cases a' with
          | none => have := (HB'.out.2.2.1 rfl).1; omega
          | some ad => exact ⟨ad, rfl⟩
        have HD := hid (bytes_drop HB'.out rm (by omega))
        clear HT
        go_wp2_with (first | (at_builtin; refine wpList_append_run rfl _ _ _ _ rfl _ _ _ rfl rfl hrun.out ?_))
        refine (HPc.out _ B1.out).mono ?_
        rintro e w2 ⟨u2, rfl, O2, B2⟩
        have O12 := O1.out.later B2
        have B12 := B1.out.trans (B2.mono B1.out.size)
        obtain ⟨a2, c2, hv2, _⟩ := O2.shape
        subst hv2
        obtain ⟨v3, w3, r3, O3, g3⟩ := app_bytes w2 w.heap.size v1 _ _ a2 _ c2 O12 (O2.bytes (Jt.pc_bytes 2 _ (by omega) (fun y hy => HB'.out.2.2.2.1 y (List.mem_of_mem_take hy)))) (by rw [pc_len, List.length_append, List.length_replicate]; have := hxl.out; rw [List.length_take]; omega) B12.size
        have B3 := hid (B12.trans (own_below O12 g3 B12.size))
        replace r3 := hid r3
        replace O3 := hid O3
        clear O12 B12 g3 B2 O2 O1 B1 HPc
        go_wp2_with (first | (at_builtin; refine wpList_append_run rfl _ _ _ _ rfl _ _ _ rfl rfl r3.out ?_))
        have hz0 : (7 + (rm : Int)) % (b : Int) = 0 := by rw [show 7 + (rm : Int) = (b : Int) by omega]; exact Int.emod_self
        refine ⟨⟨_, _, _, 0, n', _, _, false, rfl, by rw [hz0]; rfl, rfl, by omega, by omega, HD, O3, B3, hE, by show _ ≤ _; have := HN.out; simp at this ⊢; omega, fun _ => rfl, fun e => by simp at e⟩, ?_⟩
        simp [vlen, vb]
        try omega
      · skip
        have ik : ¬ (len' : Int) < (b : Int) - 7 := by omega
        have ieq : (b : Int) - 7 = (len' : Int) := by omega
        have HT : Bytes w a' len' cap' r' := HB'.out
        have HPc := hid (fun W (hW : Below w.heap.size w W) => rpiece_any 1 a' len' cap' r' W (bytes_kept HT hW) (by omega) (by omega))
        have hcc : (len' : Int) ≤ (cap' : Int) := by omega
        have hE : Hid ((xs ++ List.replicate (noughts b at') 0) ++ pc 1 r' = X) := by
          show _ = _
          rw [HX.out]
          unfold pcs
          rw [← hrm.out, if_pos (by omega), flat_cons, flat_nil, List.append_nil, List.append_assoc]
          rfl
        clear HT
        go_wp2_with (first | (at_builtin; refine wpList_append_run rfl _ _ _ _ rfl _ _ _ rfl rfl hrun.out ?_))
        refine (HPc.out _ B1.out).mono ?_
        rintro e w2 ⟨u2, rfl, O2, B2⟩
        have O12 := O1.out.later B2
        have B12 := B1.out.trans (B2.mono B1.out.size)
        obtain ⟨a2, c2, hv2, _⟩ := O2.shape
        subst hv2
        obtain ⟨v3, w3, r3, O3, g3⟩ := app_bytes w2 w.heap.size v1 _ _ a2 _ c2 O12 (O2.bytes (Jt.pc_bytes 1 _ (by omega) (fun y hy => HB'.out.2.2.2.1 y hy))) (by rw [pc_len, List.length_append, List.length_replicate]; have := hxl.out; rw [hrl']; omega) B12.size
        have B3 := hid (B12.trans (own_below O12 g3 B12.size))
        replace r3 := hid r3
        rw [hE.out] at O3
        replace O3 := hid O3
        clear O12 B12 g3 B2 O2 O1 B1 HPc
        go_wp2_with (first | (at_builtin; refine wpList_append_run rfl _ _ _ _ rfl _ _ _ rfl rfl r3.out ?_))
        all_goals
          go_ret
          exact ⟨_, rfl, O3.out, B3.out⟩
      · skip
        have ik : (len' : Int) < (b : Int) - 7 := by omega
        have HT : Bytes w a' len' cap' r' := HB'.out
        have HPc := hid (fun W (hW : Below w.heap.size w W) => rpiece_any 1 a' len' cap' r' W (bytes_kept HT hW) (by omega) (by omega))
        have hcc : (len' : Int) ≤ (cap' : Int) := by omega
        have hE : Hid ((xs ++ List.replicate (noughts b at') 0) ++ pc 1 r' = X) := by
          show _ = _
          rw [HX.out]
          unfold pcs
          rw [← hrm.out, if_pos (by omega), flat_cons, flat_nil, List.append_nil, List.append_assoc]
          rfl
        clear HT
        go_wp2_with (first | (at_builtin; refine wpList_append_run rfl _ _ _ _ rfl _ _ _ rfl rfl hrun.out ?_))
        refine (HPc.out _ B1.out).mono ?_
        rintro e w2 ⟨u2, rfl, O2, B2⟩
        have O12 := O1.out.later B2
        have B12 := B1.out.trans (B2.mono B1.out.size)
        obtain ⟨a2, c2, hv2, _⟩ := O2.shape
        subst hv2
        obtain ⟨v3, w3, r3, O3, g3⟩ := app_bytes w2 w.heap.size v1 _ _ a2 _ c2 O12 (O2.bytes (Jt.pc_bytes 1 _ (by omega) (fun y hy => HB'.out.2.2.2.1 y hy))) (by rw [pc_len, List.length_append, List.length_replicate]; have := hxl.out; rw [hrl']; omega) B12.size
        have B3 := hid (B12.trans (own_below O12 g3 B12.size))
        replace r3 := hid r3
        rw [hE.out] at O3
        replace O3 := hid O3
        clear O12 B12 g3 B2 O2 O1 B1 HPc
        go_wp2_with (first | (at_builtin; refine wpList_append_run rfl _ _ _ _ rfl _ _ _ rfl rfl r3.out ?_))
        all_goals
          go_ret
          exact ⟨_, rfl, O3.out, B3.out⟩
    · have i7 : ¬ (b : Int) - (at' : Int) < 7 := by omega
      have hno : noughts b at' = 0 := by unfold noughts; rw [if_neg h7]
      have hro : rm = b - at' - 7 := by rw [hrm]; unfold room; rw [if_neg h7, hl]
      have hro1 : rm + 7 + at' ≤ b := by omega
      have hro2 : b ≤ rm + 7 + at' := by omega
      clear hro
      obtain ⟨v1, hv1⟩ : ∃ v1, v1 = u7 := ⟨_, rfl⟩
      subst hv1
      have O1 : Hid (Wt.Own wr w.heap.size v1 (xs ++ List.replicate (noughts b at') 0)) := by show Wt.Own _ _ _ _; rw [hno]; simpa using HO.out
      have B1 := HBel
      replace hrm := hid hrm
      clear hno hl
      cases first with
      | true =>
        rcases Nat.lt_trichotomy rm len' with hc | hc | hc
        · skip
          have ik : ¬ (len' : Int) < (b : Int) - (at' : Int) - 7 := by omega
          have ieq : (b : Int) - (at' : Int) - 7 = (rm : Int) := by omega
          have ibq : ((rm : Int) == (len' : Int)) = false := by rw [beq_eq_false_iff_ne]; omega
          have HT : Bytes w a' rm cap' (r'.take rm) := bytes_take HB'.out rm (by omega) (fun e => by have := (HB'.out.2.2.1 e).1; omega)
          have HPc := hid (fun W (hW : Below w.heap.size w W) => rpiece_any 2 a' rm cap' (r'.take rm) W (bytes_kept HT hW) (by omega) (by omega))
          have hcc : (rm : Int) ≤ (cap' : Int) := by omega
          have hE : Hid (X = ((xs ++ List.replicate (noughts b at') 0) ++ pc 2 (r'.take rm)) ++ (List.replicate (noughts b 0) 0 ++ flat (pcs (b - 7) n' (room b 0) false (r'.drop rm)))) := by
            show _ = _
            rw [HX.out, noughts0 b hb.1, room0 b hb.1]
            conv => lhs; unfold pcs
            rw [← hrm.out, if_neg (by omega), flat_cons]
            simp [List.append_assoc, Ch.b, kd]
          obtain ⟨ad, rfl⟩ : ∃ ad, a' = some ad := by
            cases a' with
            | none => have := (HB'.out.2.2.1 rfl).1; omega
            | some ad => exact ⟨ad, rfl⟩
          have HD := hid (bytes_drop HB'.out rm (by omega))
          clear HT
          go_wp2_with fail
          refine (HPc.out _ B1.out).mono ?_
          rintro e w2 ⟨u2, rfl, O2, B2⟩
          have O12 := O1.out.later B2
          have B12 := B1.out.trans (B2.mono B1.out.size)
          obtain ⟨a2, c2, hv2, _⟩ := O2.shape
          subst hv2
          obtain ⟨v3, w3, r3, O3, g3⟩ := app_bytes w2 w.heap.size v1 _ _ a2 _ c2 O12 (O2.bytes (Jt.pc_bytes 2 _ (by omega) (fun y hy => HB'.out.2.2.2.1 y (List.mem_of_mem_take hy)))) (by rw [pc_len, List.length_append, List.length_replicate]; have := hxl.out; rw [List.length_take]; omega) B12.size
          have B3 := hid (B12.trans (own_below O12 g3 B12.size))
          replace r3 := hid r3
          replace O3 := hid O3
          clear O12 B12 g3 B2 O2 O1 B1 HPc
          go_wp2_with (first | (at_builtin; refine wpList_append_run rfl _ _ _ _ rfl _ _ _ rfl rfl r3.out ?_))
          have hz0 : ((at' : Int) + 7 + (rm : Int)) % (b : Int) = 0 := by rw [show (at' : Int) + 7 + (rm : Int) = (b : Int) by omega]; exact Int.emod_self
          refine ⟨⟨_, _, _, 0, n', _, _, false, rfl, by rw [hz0]; rfl, rfl, by omega, by omega, HD, O3, B3, hE, by show _ ≤ _; have := HN.out; simp at this ⊢; omega, fun _ => rfl, fun e => by simp at e⟩, ?_⟩
          simp [vlen, vb]
          try omega
        · skip
          have ik : ¬ (len' : Int) < (b : Int) - (at' : Int) - 7 := by omega
          have ieq : (b : Int) - (at' : Int) - 7 = (len' : Int) := by omega
          have HT : Bytes w a' len' cap' r' := HB'.out
          have HPc := hid (fun W (hW : Below w.heap.size w W) => rpiece_any 1 a' len' cap' r' W (bytes_kept HT hW) (by omega) (by omega))
          have hcc : (len' : Int) ≤ (cap' : Int) := by omega
          have hE : Hid ((xs ++ List.replicate (noughts b at') 0) ++ pc 1 r' = X) := by
            show _ = _
            rw [HX.out]
            unfold pcs
            rw [← hrm.out, if_pos (by omega), flat_cons, flat_nil, List.append_nil, List.append_assoc]
            rfl
          clear HT
          go_wp2_with fail
          refine (HPc.out _ B1.out).mono ?_
          rintro e w2 ⟨u2, rfl, O2, B2⟩
          have O12 := O1.out.later B2
          have B12 := B1.out.trans (B2.mono B1.out.size)
          obtain ⟨a2, c2, hv2, _⟩ := O2.shape
          subst hv2
          obtain ⟨v3, w3, r3, O3, g3⟩ := app_bytes w2 w.heap.size v1 _ _ a2 _ c2 O12 (O2.bytes (Jt.pc_bytes 1 _ (by omega) (fun y hy => HB'.out.2.2.2.1 y hy))) (by rw [pc_len, List.length_append, List.length_replicate]; have := hxl.out; rw [hrl']; omega) B12.size
          have B3 := hid (B12.trans (own_below O12 g3 B12.size))
          replace r3 := hid r3
          rw [hE.out] at O3
          replace O3 := hid O3
          clear O12 B12 g3 B2 O2 O1 B1 HPc
          go_wp2_with (first | (at_builtin; refine wpList_append_run rfl _ _ _ _ rfl _ _ _ rfl rfl r3.out ?_))
          all_goals
            go_ret
            exact ⟨_, rfl, O3.out, B3.out⟩
        · skip
          have ik : (len' : Int) < (b : Int) - (at' : Int) - 7 := by omega
          have HT : Bytes w a' len' cap' r' := HB'.out
          have HPc := hid (fun W (hW : Below w.heap.size w W) => rpiece_any 1 a' len' cap' r' W (bytes_kept HT hW) (by omega) (by omega))
          have hcc : (len' : Int) ≤ (cap' : Int) := by omega
          have hE : Hid ((xs ++ List.replicate (noughts b at') 0) ++ pc 1 r' = X) := by
            show _ = _
            rw [HX.out]
            unfold pcs
            rw [← hrm.out, if_pos (by omega), flat_cons, flat_nil, List.append_nil, List.append_assoc]
            rfl
          clear HT
          go_wp2_with fail
          refine (HPc.out _ B1.out).mono ?_
          rintro e w2 ⟨u2, rfl, O2, B2⟩
          have O12 := O1.out.later B2
          have B12 := B1.out.trans (B2.mono B1.out.size)
          obtain ⟨a2, c2, hv2, _⟩ := O2.shape
          subst hv2
          obtain ⟨v3, w3, r3, O3, g3⟩ := app_bytes w2 w.heap.size v1 _ _ a2 _ c2 O12 (O2.bytes (Jt.pc_bytes 1 _ (by omega) (fun y hy => HB'.out.2.2.2.1 y hy))) (by rw [pc_len, List.length_append, List.length_replicate]; have := hxl.out; rw [hrl']; omega) B12.size
          have B3 := hid (B12.trans (own_below O12 g3 B12.size))
          replace r3 := hid r3
          rw [hE.out] at O3
          replace O3 := hid O3
          clear O12 B12 g3 B2 O2 O1 B1 HPc
          go_wp2_with (first | (at_builtin; refine wpList_append_run rfl _ _ _ _ rfl _ _ _ rfl rfl r3.out ?_))
          all_goals
            go_ret
            exact ⟨_, rfl, O3.out, B3.out⟩
      | false =>
        rcases Nat.lt_trichotomy rm len' with hc | hc | hc
        · skip
          have ik : ¬ (len' : Int) < (b : Int) - (at' : Int) - 7 := by omega
          have ieq : (b : Int) - (at' : Int) - 7 = (rm : Int) := by omega
          have ibq : ((rm : Int) == (len' : Int)) = false := by rw [beq_eq_false_iff_ne]; omega
          have HT : Bytes w a' rm cap' (r'.take rm) := bytes_take HB'.out rm (by omega) (fun e => by have := (HB'.out.2.2.1 e).1; omega)
          have HPc := hid (fun W (hW : Below w.heap.size w W) => rpiece_any 3 a' rm cap' (r'.take rm) W (bytes_kept HT hW) (by omega) (by omega))
          have hcc : (rm : Int) ≤ (cap' : Int) := by omega
          have hE : Hid (X = ((xs ++ List.replicate (noughts b at') 0) ++ pc 3 (r'.take rm)) ++ (List.replicate (noughts b 0) 0 ++ flat (pcs (b - 7) n' (room b 0) false (r'.drop rm)))) := by
            show _ = _
            rw [HX.out, noughts0 b hb.1, room0 b hb.1]
            conv => lhs; unfold pcs
            rw [← hrm.out, if_neg (by omega), flat_cons]
            simp [List.append_assoc, Ch.b, kd]
          obtain ⟨ad, rfl⟩ : ∃ ad, a' = some ad := by
            cases a' with
            | none => have := (HB'.out.2.2.1 rfl).1; omega
            | some ad => exact ⟨ad, rfl⟩
          have HD := hid (bytes_drop HB'.out rm (by omega))
          clear HT
          go_wp2_with fail
          refine (HPc.out _ B1.out).mono ?_
          rintro e w2 ⟨u2, rfl, O2, B2⟩
          have O12 := O1.out.later B2
          have B12 := B1.out.trans (B2.mono B1.out.size)
          obtain ⟨a2, c2, hv2, _⟩ := O2.shape
          subst hv2
          obtain ⟨v3, w3, r3, O3, g3⟩ := app_bytes w2 w.heap.size v1 _ _ a2 _ c2 O12 (O2.bytes (Jt.pc_bytes 3 _ (by omega) (fun y hy => HB'.out.2.2.2.1 y (List.mem_of_mem_take hy)))) (by rw [pc_len, List.length_append, List.length_replicate]; have := hxl.out; rw [List.length_take]; omega) B12.size
          have B3 := hid (B12.trans (own_below O12 g3 B12.size))
          replace r3 := hid r3
          replace O3 := hid O3
          clear O12 B12 g3 B2 O2 O1 B1 HPc
          go_wp2_with (first | (at_builtin; refine wpList_append_run rfl _ _ _ _ rfl _ _ _ rfl rfl r3.out ?_))
          have hat0 : at' = 0 := by simpa using HF.out
          have hz0 : ((at' : Int) + 7 + (rm : Int)) % (b : Int) = 0 := by rw [show (at' : Int) + 7 + (rm : Int) = (b : Int) by omega]; exact Int.emod_self
          refine ⟨⟨_, _, _, 0, n', _, _, false, rfl, by rw [hz0]; rfl, rfl, by omega, by omega, HD, O3, B3, hE, by show _ ≤ _; have := HN.out; simp at this ⊢; omega, fun _ => rfl, fun e => by simp at e⟩, ?_⟩
          simp [vlen, vb]
          omega
        · skip
          have ik : ¬ (len' : Int) < (b : Int) - (at' : Int) - 7 := by omega
          have ieq : (b : Int) - (at' : Int) - 7 = (len' : Int) := by omega
          have HT : Bytes w a' len' cap' r' := HB'.out
          have HPc := hid (fun W (hW : Below w.heap.size w W) => rpiece_any 4 a' len' cap' r' W (bytes_kept HT hW) (by omega) (by omega))
          have hcc : (len' : Int) ≤ (cap' : Int) := by omega
          have hE : Hid ((xs ++ List.replicate (noughts b at') 0) ++ pc 4 r' = X) := by
            show _ = _
            rw [HX.out]
            unfold pcs
            rw [← hrm.out, if_pos (by omega), flat_cons, flat_nil, List.append_nil, List.append_assoc]
            rfl
          clear HT
          go_wp2_with fail
          refine (HPc.out _ B1.out).mono ?_
          rintro e w2 ⟨u2, rfl, O2, B2⟩
          have O12 := O1.out.later B2
          have B12 := B1.out.trans (B2.mono B1.out.size)
          obtain ⟨a2, c2, hv2, _⟩ := O2.shape
          subst hv2
          obtain ⟨v3, w3, r3, O3, g3⟩ := app_bytes w2 w.heap.size v1 _ _ a2 _ c2 O12 (O2.bytes (Jt.pc_bytes 4 _ (by omega) (fun y hy => HB'.out.2.2.2.1 y hy))) (by rw [pc_len, List.length_append, List.length_replicate]; have := hxl.out; rw [hrl']; omega) B12.size
          have B3 := hid (B12.trans (own_below O12 g3 B12.size))
          replace r3 := hid r3
          rw [hE.out] at O3
          replace O3 := hid O3
          clear O12 B12 g3 B2 O2 O1 B1 HPc
          go_wp2_with (first | (at_builtin; refine wpList_append_run rfl _ _ _ _ rfl _ _ _ rfl rfl r3.out ?_))
          all_goals
            go_ret
            exact ⟨_, rfl, O3.out, B3.out⟩
        · skip
          have ik : (len' : Int) < (b : Int) - (at' : Int) - 7 := by omega
          have HT : Bytes w a' len' cap' r' := HB'.out
          have HPc := hid (fun W (hW : Below w.heap.size w W) => rpiece_any 4 a' len' cap' r' W (bytes_kept HT hW) (by omega) (by omega))
          have hcc : (len' : Int) ≤ (cap' : Int) := by omega
          have hE : Hid ((xs ++ List.replicate (noughts b at') 0) ++ pc 4 r' = X) := by
            show _ = _
            rw [HX.out]
            unfold pcs
            rw [← hrm.out, if_pos (by omega), flat_cons, flat_nil, List.append_nil, List.append_assoc]
            rfl
          clear HT
          go_wp2_with fail
          refine (HPc.out _ B1.out).mono ?_
          rintro e w2 ⟨u2, rfl, O2, B2⟩
          have O12 := O1.out.later B2
          have B12 := B1.out.trans (B2.mono B1.out.size)
          obtain ⟨a2, c2, hv2, _⟩ := O2.shape
          subst hv2
          obtain ⟨v3, w3, r3, O3, g3⟩ := app_bytes w2 w.heap.size v1 _ _ a2 _ c2 O12 (O2.bytes (Jt.pc_bytes 4 _ (by omega) (fun y hy => HB'.out.2.2.2.1 y hy))) (by rw [pc_len, List.length_append, List.length_replicate]; have := hxl.out; rw [hrl']; omega) B12.size
          have B3 := hid (B12.trans (own_below O12 g3 B12.size))
          replace r3 := hid r3
          rw [hE.out] at O3
          replace O3 := hid O3
          clear O12 B12 g3 B2 O2 O1 B1 HPc
          go_wp2_with (first | (at_builtin; refine wpList_append_run rfl _ _ _ _ rfl _ _ _ rfl rfl r3.out ?_))
          all_goals
            go_ret
            exact ⟨_, rfl, O3.out, B3.out⟩
theorem rblock_any (b : Int) (w : World) : Calls Tryd.prog 10 #[.int .i64 b] w fun e w' => e = .returned (.bool (decide (32 ≤ b) && decide (b ≤ 32768))) ∧ w' = w := by
  by_cases h : 32 ≤ b
  · by_cases h2 : b ≤ 32768
    all_goals
      go_enter Tryd.func10, Tryd.ntmps10
      go_wp2
      go_ret
      simp [h, h2]
  · go_enter Tryd.func10, Tryd.ntmps10
    go_wp2
    go_ret
    simp [h]
    omega
end Go.Proofs.YtgkoopciajjonaaDoor.Ra

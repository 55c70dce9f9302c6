/- The codec's puts: numbers of fixed length, texts with their length ahead. -/
import Derived.Test.YtnpeocoipodmfaaCz
namespace Go.Proofs.Ytnpeocoipodmfaa.By
open Go.ChangeShapes Go.WideShapes Go.ChangeAt Go.RowKit
set_option linter.unusedVariables false

theorem app_fits {W : World} {base g n cap : Nat} {xs : List Int} (R : Row W base g n cap xs) (s : ByteArray) (h : n + s.size ≤ cap) :
    ∃ W', (Builtin.append_ #[27, 9] 27 #[.slice (some ⟨g, 0, none⟩) n cap, .string s]).run Try.prog W = .ok (.slice (some ⟨g, 0, none⟩) (n + s.size) cap) W' ∧ Row W' base g (n + s.size) cap (xs ++ tx s) ∧ W.grownBy W' (some g) := by
  obtain ⟨i0, hi, hz0, hz1, hz2⟩ := info_parts info5
  obtain ⟨ys, hfull, hyt, hn⟩ := full R
  have hl : ys.length = cap := by have := hfull.1; omega
  have hsrc : Src Try.prog i0.size 9 (.string s) s.size (byteCells s) W := by rw [hz1]; exact Src.ofString W Try.underlying9 s
  have hbl : (byteCells s).length = s.size := byteCells_length s
  have run := run_append_room_src (P := Try.prog) W 27 9 27 5 i0 Try.underlying27 hi g 0 n cap (.string s) s.size (byteCells s) hsrc h
    (by intro j hj; rw [hz1]; rw [World.ownsRow.cellAt hfull _ (by omega)]; rw [List.getElem?_eq_getElem (by omega)]; rfl)
    (by intro j hj; exact World.ownsRow.frozenAt hfull _)
  rw [hz1] at run
  simp only [Nat.zero_add, Nat.mul_one] at run
  have st := stored_many (byteCells s) n ys W hfull (by omega)
  refine ⟨_, run, ?_, st.2⟩
  have c := cut st.1 (n := n + s.size) (by omega)
  unfold Row
  have e : (ys.take n ++ (byteCells s ++ ys.drop (n + (byteCells s).length))).take (n + s.size) = (xs ++ tx s).map (Value.int .u8) := by
    rw [hyt, ← List.append_assoc, List.map_append, ← tx_cells, List.take_left' (by simp [hbl]; exact R.len)]
  rw [e] at c
  exact c

theorem app_grows {W : World} {base g n cap : Nat} {xs : List Int} (R : Row W base g n cap xs) (s : ByteArray) (h : ¬ n + s.size ≤ cap) (hs : n + s.size ≤ 140737488355328) (hb : base ≤ W.heap.size) :
    ∃ c' W', (Builtin.append_ #[27, 9] 27 #[.slice (some ⟨g, 0, none⟩) n cap, .string s]).run Try.prog W = .ok (.slice (some ⟨W.heap.size, 0, none⟩) (n + s.size) c') W' ∧ Row W' base W.heap.size (n + s.size) c' (xs ++ tx s) ∧ W.grownBy W' none := by
  obtain ⟨i0, hi, hz0, hz1, hz2⟩ := info_parts info5
  have hsrc : Src Try.prog i0.size 9 (.string s) s.size (byteCells s) W := by rw [hz1]; exact Src.ofString W Try.underlying9 s
  have hbl : (byteCells s).length = s.size := byteCells_length s
  have hold : (Builtin.firstCells i0.size n (.slice (some ⟨g, 0, none⟩) n cap)).run Try.prog W.drew = .ok (xs.map (Value.int .u8)).toArray W.drew := by
    rw [hz1]
    refine run_firstCells_some W.drew 1 n _ n cap _ (by simp; exact R.len) ?_
    intro j u hu
    rw [addr_add, Nat.zero_add]
    have hj : j < n := by have := (List.getElem?_eq_some_iff.1 hu).1; simp at this; have := R.len; omega
    rw [List.getElem?_map] at hu
    have := R.cell j hj
    rw [List.getD_eq_getElem?_getD] at this
    have hjx : j < xs.length := by have := R.len; omega
    rw [List.getElem?_eq_getElem hjx] at this hu
    simp at this hu
    rw [← hu]
    exact this
  have run := run_append_grow_src (P := Try.prog) W 27 9 27 5 i0 (.int .u8 0) Try.underlying27 hi hz0 (some ⟨g, 0, none⟩) n cap (xs.map (Value.int .u8)) hold (.string s) s.size (byteCells s) hsrc (by omega) (by omega) (by rw [hz2, Nat.mul_one]; have := nextslicecap_le (need := n + s.size) (old := cap) (by omega); omega)
  have hge := grownCap_ge W (n + s.size) cap 5
  have hcm : grownCap W (n + s.size) cap 5 ≤ maxLen := grownCap_le_maxLen W (n + s.size) cap 5 (by unfold maxLen; omega)
  refine ⟨_, _, run, ?_, ⟨rfl, rfl, rfl, by simp, fun k hk _ => heap_alloc_old W.drew _ hk⟩⟩
  unfold Row
  refine ⟨by simp [tx_len]; exact R.len, .inr ⟨W.heap.size, _, _, rfl, hb, heap_alloc_new W.drew _, hge, hcm, ?_, ?_⟩⟩
  · simp only [Array.size_append, List.size_toArray, List.length_append, List.length_map, size_zeroCells, hbl, R.len]
    show n + s.size + (grownCap W (n + s.size) cap 5 - (n + s.size)) * 1 = _
    omega
  · simp only [Array.toList_append, List.append_assoc]
    rw [Nat.mul_one, ← List.append_assoc, tx_cells, ← List.map_append]
    exact List.take_left' (by simp [tx_len]; exact R.len)

theorem or128 (u : Int) (h : 0 ≤ u) : bits .or .u8 (u % 256) 128 = u % 128 + 128 := by
  obtain ⟨n, hn⟩ : ∃ n : Nat, u = (n : Int) := ⟨u.toNat, by omega⟩
  subst hn
  have h1 : (BitVec.ofInt 8 ((n : Int) % 256)).toNat = n % 256 := by
    rw [show ((n : Int) % 256) = ((n % 256 : Nat) : Int) by omega, BitVec.ofInt_natCast, BitVec.toNat_ofNat]; omega
  show IntKind.u8.wrap ((BitVec.ofInt 8 ((n : Int) % 256) ||| BitVec.ofInt 8 128).toNat : Int) = _
  rw [BitVec.toNat_or, h1, show (BitVec.ofInt 8 128).toNat = 128 from rfl]
  have e : ∀ m : Fin 256, m.val ||| 128 = m.val % 128 + 128 := by decide +kernel
  rw [show n % 256 ||| 128 = (n % 256) % 128 + 128 from e ⟨n % 256, by omega⟩]
  simp only [IntKind.wrap, IntKind.signed, IntKind.bits, Bool.false_and, Bool.false_eq_true, if_false]
  omega

set_option maxHeartbeats 1000000 in
theorem appv_any (base g n cap : Nat) (xs : List Int) (v : Int) (w : World) (R : Row w base g n cap xs) (hv : 0 ≤ v ∧ v ≤ 18446744073709551615) (hroom : n + (Vb.vb v).length ≤ cap) :
    Calls Try.prog 48 #[.slice (some ⟨g, 0, none⟩) n cap, .int .u64 v] w fun e w' => e = .returned (.slice (some ⟨g, 0, none⟩) (n + (Vb.vb v).length) cap) ∧ Row w' base g (n + (Vb.vb v).length) cap (xs ++ Vb.vb v) ∧ w.grownBy w' (some g) := by
  obtain ⟨i0, hi, hz0, hz1, hz2⟩ := info_parts info5
  obtain ⟨V, hV⟩ : ∃ V, V = Vb.vb v := ⟨_, rfl⟩
  rw [← hV] at hroom ⊢
  have HV : Hid (V = Vb.vb v) := hV
  have HR : Hid (Row w base g n cap xs) := R
  clear hV R
  go_enter Try.func48, Try.ntmps48
  go_wp2
  go_loopw [0, 1] (fun b x wr => ∃ k j : Nat, ∃ u : Int, ∃ acc : List Int, b = .slice (some ⟨g, 0, none⟩) (n + j) cap ∧ x = .int .u64 u ∧ 0 ≤ u ∧ u ≤ 18446744073709551615 ∧ Hid (u < 2 * 128 ^ k) ∧ Hid (acc.length = j) ∧ Hid (acc ++ Vb.vbF k u = V) ∧ Hid (Row wr base g (n + j) cap (xs ++ acc)) ∧ Hid (w.grownBy wr (some g))) (fun _ x _ => (intOf x).toNat)
  case atStart => exact ⟨9, 0, v, [], rfl, rfl, hv.1, hv.2, by show _ < _; rw [Vb.two9]; omega, rfl, by show _ = _; rw [HV.out]; rfl, by show Row _ _ _ _ _ _; simpa using HR.out, World.grownBy.refl _ _⟩
  case round =>
    obtain ⟨k, j, u, acc, rfl, rfl, hu0, hu1, hk, hj, hacc, hrow, hgr⟩ := hrel
    by_cases h : 128 ≤ u
    · obtain ⟨k', hk'⟩ : ∃ k', k = k' + 1 := by
        cases k with
        | zero => have := hk.out; simp at this; omega
        | succ k => exact ⟨k, rfl⟩
      subst hk'
      have e1 : Hid (acc ++ (u % 128 + 128) :: Vb.vbF k' (u / 128) = V) := by
        have := hacc.out
        rw [Vb.vbF_step _ _ h] at this
        exact this
      have hjl : j < V.length := by have := congrArg List.length e1.out; simp at this; have := hj.out; omega
      clear hacc
      have hor : Hid (bits .or .u8 (u % 256) 128 = u % 128 + 128) := or128 u hu0
      have hk2 : Hid (u / 128 < 2 * 128 ^ k') := by show _ < _; have := hk.out; rw [Int.pow_succ] at this; omega
      clear hk
      go_wp2_with (at_builtin; refine wpList_append_fits _ rfl _ _ 27 rfl base 5 i0 1 Try.underlying27 hi hz1 g (n + j) cap ((xs ++ acc).map (Value.int .u8)) rfl (World.ownsRow.alloc hrow.out _) ⟨wr.heap.size, 0, none⟩ 1 1 [.int .u8 (bits .or .u8 (u % 256) 128)] rfl rfl ?c1 ?c2 ?c3 ?_)
      case c1 => exact cell_one_new _ _ _
      case c2 => intro u hu; simp at hu; subst hu; rfl
      case c3 => omega
      intro w1 own1 g1
      have R1 : Hid (Row w1 base g (n + (j + 1)) cap (xs ++ (acc ++ [u % 128 + 128]))) := by
        show Row _ _ _ _ _ _
        rw [hor.out] at own1
        unfold Row
        simpa [Nat.add_assoc] using own1
      have G1 : Hid (w.grownBy w1 (some g)) := grown_trans hgr.out (grown_trans (World.grownBy_alloc _ _ _) g1)
      clear own1 g1 hrow hgr hor
      go_wp2
      go_roundw
      case rel => exact ⟨k', j + 1, u / 128, acc ++ [u % 128 + 128], by rw [Nat.add_assoc], by go_num, by omega, by omega, hk2, by show _ = _; have := hj.out; simp; omega, by show _ = _; rw [← e1.out]; simp, R1, G1⟩
      case measure => simp [intOf]; omega
    · have e1 : Hid (acc ++ [u] = V) := by
        have := hacc.out
        rw [Vb.vbF_small _ _ (by omega)] at this
        exact this
      have hjl : j < V.length := by have := congrArg List.length e1.out; simp at this; have := hj.out; omega
      have hjv : Hid (n + j + 1 = n + V.length) := by show _ = _; have := congrArg List.length e1.out; simp at this; have := hj.out; omega
      have hm : Hid (u % 256 = u) := by show _ = _; omega
      clear hacc hk
      go_wp2_with (at_builtin; refine wpList_append_fits _ rfl _ _ 27 rfl base 5 i0 1 Try.underlying27 hi hz1 g (n + j) cap ((xs ++ acc).map (Value.int .u8)) rfl (World.ownsRow.alloc hrow.out _) ⟨wr.heap.size, 0, none⟩ 1 1 [.int .u8 u] rfl rfl ?d1 ?d2 ?d3 ?_)
      case d2 => rfl
      case d3 => omega
      intro w1 own1 g1
      have R1 : Hid (Row w1 base g (n + V.length) cap (xs ++ V)) := by
        show Row _ _ _ _ _ _
        rw [← hjv.out, ← e1.out]
        unfold Row
        simpa [Nat.add_assoc] using own1
      have G1 : Hid (w.grownBy w1 (some g)) := grown_trans hgr.out (grown_trans (World.grownBy_alloc _ _ _) g1)
      clear own1 g1 hrow hgr
      go_wp2
      go_ret
      exact ⟨by rw [← hjv.out]; rfl, R1.out, G1.out⟩

/-! ### Texts -/
theorem wpList_append_run {P : Program} {w w' : World} {ops : Array Oper} {rest : List Oper} {o : Oper} {a : Act} {Q : Exit → Act → World → Prop}
    (hg : o.guard = none) (s x : Operand) (t tx : TypeId) (hop : o.op = Op.call { callee := Callee.builtin Builtin.append, args := #[s, x], argTypes := #[t, tx] })
    (u v v' : Value) (hs : a.eval s = u) (hx : a.eval x = v) (hrun : (Builtin.append_ #[t, tx] o.type #[u, v]).run P w = .ok v' w')
    (hK : wpList P ops Q rest (a.put o.dst v') w') : wpList P ops Q (o :: rest) a w := by
  refine wpList_plain hg fun K hK' => ?_
  unfold Oper.wp
  simp [execOp, hop, resolve, invoke, builtin, hs, hx, hrun, Result.andThen]
  exact hK' _ _ hK
set_option maxHeartbeats 1000000 in
theorem putt_any (a : Option Addr) (len cap : Nat) (zs : List Int) (s : ByteArray) (w : World) (H : Bytes w a len cap zs) (hs : s.size ≤ 140737488351232) (hm : len ≤ 140737488351232) :
    Calls Try.prog 25 #[.slice a len cap, .string s] w fun e w' => ∃ c : Nat, e = .returned (.slice (some ⟨w.heap.size, 0, none⟩) (len + (Vb.vb s.size).length + s.size) c) ∧ Row w' w.heap.size w.heap.size (len + (Vb.vb s.size).length + s.size) c (zs ++ Vb.vb s.size ++ tx s) ∧ Below w.heap.size w w' := by
  have hl := Vb.vb_le s.size
  go_enter Try.func25, Try.ntmps25
  go_wp2_with fail
  refine (size_any s.size _ (by omega)).mono ?_
  rintro e w' ⟨rfl, rfl⟩
  go_wp2_with fail
  have e0 : ((Vb.vb s.size).length : Int) + (s.size : Int) = (((Vb.vb s.size).length + s.size : Nat) : Int) := by omega
  rw [e0]
  refine (room_any a len cap ((Vb.vb s.size).length + s.size) zs _ H (by omega)).mono ?_
  rintro e w1 ⟨rfl, R1, b1⟩
  rw [← e0]
  clear e0
  go_wp2_with fail
  refine (appv_any _ _ _ _ zs s.size _ R1 (by omega) (by omega)).mono ?_
  rintro e w2 ⟨rfl, R2, g2⟩
  obtain ⟨w3, hrun, R3, g3⟩ := app_fits R2 s (by omega)
  have B3 : Below w'.heap.size w' w3 := (b1.grown g2 b1.size (by intro k hk; simp at hk; omega)).grown g3 (by have := b1.size; have := g2.size; omega) (by intro k hk; simp at hk; omega)
  have HRun : Hid ((Builtin.append_ #[27, 9] 27 #[.slice (some ⟨w'.heap.size, 0, none⟩) (len + (Vb.vb s.size).length) (len + ((Vb.vb s.size).length + s.size)), .string s]).run Try.prog w2 = .ok (.slice (some ⟨w'.heap.size, 0, none⟩) (len + (Vb.vb s.size).length + s.size) (len + ((Vb.vb s.size).length + s.size))) w3) := hrun
  clear R1 b1 R2 g2 hrun g3
  go_wp2_with (at_builtin; refine wpList_append_run rfl _ _ 27 9 rfl _ _ _ rfl rfl HRun.out ?_)
  go_ret
  exact ⟨_, rfl, R3, B3⟩

end Go.Proofs.Ytnpeocoipodmfaa.By

/- Proved: for all two lists of bytes of together at most 1048576 values and every number, CheckJoins returns true: the sums of two lists, joined by Combine, by Extend and by a Running, are the sum of both joined, and noughts behind them are noughts. The listed variable (the table of half bytes) is tied to the program's text. -/
import Derived.Test.YtkgmdhldongloabDoorWk
import Derived.Test.YtkgmdhldongloabDoorRn
import Derived.Test.YtkgmdhldongloabDoorAz
import Derived.Deep.DeepHandedRow
import Derived.Test.YtkgmdhldongloabDoorLd
import Derived.Test.YtkgmdhldongloabDoorCards
import Derived.Test.YtkgmdhldongloabDoorTie
import Derived.SevenTiedAt
import Derived.ShutString
import Derived.ChangeOld
import Derived.Below
import Derived.SizedLaws
import Derived.Deep.RegionWith
namespace Go.Proofs.YtkgmdhldongloabDoor.checkJoins
open Go.ChangeShapes Go.WideShapes Go.ChangeAt Go.RowKit
open Go.ChangeMaps (open_string shut_string)
open Go.Proofs.YtkgmdhldongloabDoor.Crc
open Go.Proofs.YtkgmdhldongloabDoor.Ck
open Go.Proofs.YtkgmdhldongloabDoor.Wk (works_any among_any tab_later)
open Go.Proofs.YtkgmdhldongloabDoor.Ap
open Go.Proofs.YtkgmdhldongloabDoor.Az
open Go.Proofs.YtkgmdhldongloabDoor.Zc
open Go.Proofs.YtkgmdhldongloabDoor.Rn
set_option linter.unusedVariables false
theorem ret_bool {a b : Bool} (h : a = b) : Ending.returned (.bool a) = .returned (.bool b) := by rw [h]
/-- What stays true of every world on the way. -/
def Env (w : World) (g c : Nat) (a0 : Option Addr) (len0 cap0 : Nat) (z0 : List Int) (a1 : Option Addr) (len1 cap1 : Nat) (z1 : List Int) (W : World) : Prop :=
  Bytes W (some ⟨g, 0, none⟩) (len0 + len1) c (z0 ++ z1) ∧ Bytes W a0 len0 cap0 z0 ∧ Bytes W a1 len1 cap1 z1 ∧ Hid (Tab W) ∧ Below w.heap.size w W
theorem env_later {w : World} {g c : Nat} {a0 : Option Addr} {len0 cap0 : Nat} {z0 : List Int} {a1 : Option Addr} {len1 cap1 : Nat} {z1 : List Int} {W W' : World} (h : Env w g c a0 len0 cap0 z0 a1 len1 cap1 z1 W) (b : Below W.heap.size W W') : Env w g c a0 len0 cap0 z0 a1 len1 cap1 z1 W' :=
  ⟨bytes_kept h.1 b, bytes_kept h.2.1 b, bytes_kept h.2.2.1 b, tab_later h.2.2.2.1 b, h.2.2.2.2.trans (b.mono h.2.2.2.2.size)⟩
theorem both_bytes {xs ys : List Int} (h : ∀ y ∈ xs, 0 ≤ y ∧ y ≤ 255) (k : ∀ y ∈ ys, 0 ≤ y ∧ y ≤ 255) : ∀ y ∈ xs ++ ys, 0 ≤ y ∧ y ≤ 255 := by
  intro y hy
  rcases List.mem_append.1 hy with h' | h'
  · exact h y h'
  · exact k y h'
theorem below_app {W w' : World} (h : (W.alloc (.cells #[] 5)).grownBy w' (some W.heap.size)) : Below W.heap.size W w' := by
  have b := (Below.refl W.heap.size W).alloc (Nat.le_refl _) (.cells #[] 5)
  exact b.grown h b.size (by intro j hj; simp at hj; omega)

set_option maxHeartbeats 8000000 in
set_option maxRecDepth 100000 in
theorem joins (a0 : Option Addr) (len0 cap0 : Nat) (z0 : List Int) (a1 : Option Addr) (len1 cap1 : Nat) (z1 : List Int) (a2 : Int) (w : World) (T : Hid (Tab w)) (w0 : Bytes w a0 len0 cap0 z0) (c0 : len0 ≤ 1048576) (w1 : Bytes w a1 len1 cap1 z1) (c1 : len1 ≤ 1048576) :
    Calls Tryd.prog 3 #[.slice a0 len0 cap0, .slice a1 len1 cap1, .int .i64 a2] w fun e w' => e = .returned (.bool true) ∧ Below w.heap.size w w' := by
  have H0 := hid w0
  have H1 := hid w1
  have hl0 : len0 ≤ cap0 := w0.2.1
  have hl1 : len1 ≤ cap1 := w1.2.1
  have HL1 := hid w1.1
  have HL0 := hid w0.1
  obtain ⟨m, hm⟩ : ∃ m : Nat, a2 % 3000 = m := ⟨(a2 % 3000).toNat, by omega⟩
  have hm2 : m < 3000 := by omega
  have HM := hid hm
  have HS : Hid (shiftZ (8 * len1) (sum z0) ^^^ sum z1 = sum (z0 ++ z1)) := by show _ = _; rw [sum_append, w1.1]
  have HE : Hid (extend (sum z0) z1 = sum (z0 ++ z1)) := extend_sum z0 z1
  have HZ : Hid (~~~shiftZ (8 * m) (~~~sum (z0 ++ z1)) = sum ((z0 ++ z1) ++ List.replicate m 0)) := by show _ = _; rw [← extend_sum (z0 ++ z1), extend_zeros]
  have HT1 : Hid (tx (str z1) = z1) := tx_str z1 w1.2.2.2.1
  have HTs : Hid ((str z1).size = len1) := by show _ = _; rw [str_size z1 w1.2.2.2.1, w1.1]
  obtain ⟨S, HSum⟩ : ∃ S, Hid (S = sum (z0 ++ z1)) := ⟨_, rfl⟩
  rw [← HSum.out] at HS HE HZ
  clear w0 w1 hm
  go_enter Tryd.func3, Tryd.ntmps3
  go_wp2_with fail
  refine (works_any _ T).mono ?_
  rintro e w1 ⟨rfl, b1⟩
  have B1 := hid b1
  have T1 := hid (tab_later T b1).out
  have H0' := hid (bytes_kept H0.out b1)
  have H1' := hid (bytes_kept H1.out b1)
  clear b1 T H0 H1
  go_wp2_with fail
  refine (among_any a2 3000 _ (by omega) (by omega)).mono ?_
  rintro e w1 ⟨rfl, rfl⟩
  rw [HM.out]
  have HE1 := hid (empty_row w1)
  have ba := (Below.refl w1.heap.size w1).alloc (Nat.le_refl _) (.cells #[] 5)
  have HSz : Hid (w1.heap.size ≤ (w1.alloc (.cells #[] 5)).heap.size) := ba.size
  have X1 := hid (bytes_kept H0'.out ba)
  clear ba
  go_wp2_with (at_builtin; refine app_own (by rfl) _ _ rfl w1.heap.size w1.heap.size 0 0 [] rfl HE1.out a0 len0 cap0 z0 rfl X1.out len0 (by omega) z0 rfl (by omega) HSz.out ?_)
  intro g2 c2 w2 R2 gr2
  have HR2 := hid R2
  have B2 := hid (below_app gr2)
  have Y2 := hid (bytes_kept H1'.out B2.out)
  clear R2 gr2 X1 HE1 HSz
  go_wp2_with (at_builtin; refine app_own (by rfl) _ _ rfl w1.heap.size g2 len0 c2 z0 rfl HR2.out a1 len1 cap1 z1 rfl Y2.out (len0 + len1) rfl (z0 ++ z1) rfl (by omega) B2.out.size ?_)
  intro g c w3 R3 gr3
  have B3 : Hid (Below w1.heap.size w1 w3) := B2.out.grown gr3 B2.out.size (by intro j hj; simp at hj; have := HR2.out.lt; omega)
  have E3 : Hid (Env w g c a0 len0 cap0 z0 a1 len1 cap1 z1 w3) := ⟨R3.bytes (both_bytes H0'.out.2.2.2.1 H1'.out.2.2.2.1), bytes_kept H0'.out B3.out, bytes_kept H1'.out B3.out, tab_later T1 B3.out, B1.out.trans (B3.out.mono B1.out.size)⟩
  clear R3 gr3 HR2 B2 Y2 B3 H0' H1' T1 B1
  go_wp2_with fail
  refine (Sum_any _ _ _ _ _ E3.out.2.2.2.1 E3.out.1 (by omega)).mono ?_
  rintro e w3 ⟨rfl, rfl⟩
  rw [← HSum.out]
  go_wp2_with fail
  refine (Sum_any _ _ _ _ _ E3.out.2.2.2.1 E3.out.2.1 (by omega)).mono ?_
  rintro e w3 ⟨rfl, rfl⟩
  go_wp2_with fail
  refine (Sum_any _ _ _ _ _ E3.out.2.2.2.1 E3.out.2.2.1 (by omega)).mono ?_
  rintro e w3 ⟨rfl, rfl⟩
  go_wp2_with fail
  refine (Combine_any (sum z0) (sum z1) len1 _ E3.out.2.2.2.1 (by omega)).mono ?_
  rintro e w4 ⟨rfl, b4⟩
  rw [HS.out]
  have E4 := hid (env_later E3.out b4)
  clear b4 E3
  go_wp2_with fail
  refine (New_any _).mono ?_
  rintro e w5 ⟨rfl, A5, b5⟩
  obtain ⟨r, Hr⟩ : ∃ r, Hid (r = w4.heap.size) := ⟨_, rfl⟩
  rw [← Hr.out] at A5 ⊢
  have HA5 := hid A5
  have B5 := hid b5
  clear A5 b5
  go_wp2_with fail
  refine (New_any _).mono ?_
  rintro e w6 ⟨rfl, A6, b6⟩
  obtain ⟨o, Ho⟩ : ∃ o, Hid (o = w5.heap.size) := ⟨_, rfl⟩
  rw [← Ho.out] at A6 ⊢
  have hro : r < o := by have := HA5.out.lt; have := Ho.out; omega
  have hwr : w4.heap.size ≤ r := by have := Hr.out; omega
  have O6 := hid A6
  have R6 := hid (HA5.out.kept (below_grown b6) (by simp))
  have B6 : Hid (Below w4.heap.size w4 w6) := B5.out.trans (b6.mono B5.out.size)
  have E6 := hid (env_later E4.out B6.out)
  clear A6 b6 HA5 B5
  go_wp2_with fail
  refine (Add_ok r 0#32 0 a0 len0 cap0 z0 _ R6 E6.out.2.2.2.1 (hid E6.out.2.1) (by omega) (by omega) (by omega)).mono ?_
  rintro e w7 ⟨rfl, A7, g7⟩
  have R7 : Hid (At w7 r (sum z0) len0) := by
    rw [extend0] at A7
    show At _ _ _ _
    simpa using A7
  have O7 := hid (O6.out.kept g7 (by simp; omega))
  have B7 : Hid (Below w4.heap.size w4 w7) := B6.out.grown g7 B6.out.size (by intro j hj; simp at hj; omega)
  have E7 := hid (env_later E4.out B7.out)
  have k7 := Bytes.conv E7.out.2.2.1
  clear A7 g7 R6 O6 B6 E6
  go_wp2_with fail
  refine (AddText_ok o 0#32 0 (str z1) _ O7 E7.out.2.2.2.1 (by omega) (by rw [HTs.out]; omega) (by rw [HTs.out]; omega)).mono ?_
  rintro e w8 ⟨rfl, A8, g8⟩
  have O8 : Hid (At w8 o (sum z1) len1) := by
    rw [extend0, HT1.out, HTs.out] at A8
    show At _ _ _ _
    simpa using A8
  have R8 := hid (R7.out.kept g8 (by simp; omega))
  have B8 : Hid (Below w4.heap.size w4 w8) := B7.out.grown g8 B7.out.size (by intro j hj; simp at hj; omega)
  have E8 := hid (env_later E4.out B8.out)
  clear A8 g8 R7 O7 B7 E7 k7
  go_wp2_with fail
  refine (Join_ok r o (sum z0) (sum z1) len0 len1 _ R8 O8 E8.out.2.2.2.1 (by omega)).mono ?_
  rintro e w9 ⟨rfl, A9, g9⟩
  rw [HS.out] at A9
  have R9 := hid A9
  have O9 := hid (O8.out.kept g9 (by simp; omega))
  have B9 : Hid (Below w4.heap.size w4 w9) := B8.out.grown g9 B8.out.size (by intro j hj; simp at hj; omega)
  have E9 := hid (env_later E4.out B9.out)
  clear A9 g9 R8 O8 B8 E8 B9 E4
  go_wp2_with fail
  refine (Zeros_any S m _ E9.out.2.2.2.1 (by omega)).mono ?_
  rintro e w10 ⟨rfl, b10⟩
  have R10 := hid (R9.out.kept (below_grown b10) (by simp))
  have O10 := hid (O9.out.kept (below_grown b10) (by simp))
  have E10 := hid (env_later E9.out b10)
  rw [HZ.out]
  clear b10 R9 O9 E9
  have HE10 := hid (empty_row w10)
  have bb := (Below.refl w10.heap.size w10).alloc (Nat.le_refl _) (.cells #[] 5)
  have HS10 : Hid (w10.heap.size ≤ (w10.alloc (.cells #[] 5)).heap.size) := bb.size
  have X10 := hid (bytes_kept E10.out.1 bb)
  clear bb
  go_wp2_with (at_builtin; refine app_own (by rfl) _ _ rfl w10.heap.size w10.heap.size 0 0 [] rfl HE10.out _ (len0 + len1) c (z0 ++ z1) rfl X10.out (len0 + len1) (by omega) (z0 ++ z1) rfl (by omega) HS10.out ?_)
  intro g11 c11 w11 R11 gr11
  have HR11 := hid R11
  have B11 := hid (below_app gr11)
  clear R11 gr11 X10 HE10 HS10
  go_wp2_with (at_builtin; refine app_zeros rfl _ _ rfl w10.heap.size g11 (len0 + len1) c11 (z0 ++ z1) rfl HR11.out m rfl (by omega) B11.out.size ?_)
  intro g12 c12 w12 R12 gr12
  have B12 : Hid (Below w10.heap.size w10 w12) := B11.out.grown gr12 B11.out.size (by intro j hj; simp at hj; have := HR11.out.lt; omega)
  have E12 := hid (env_later E10.out B12.out)
  have R12' := hid (R10.out.kept (below_grown B12.out) (by simp))
  have O12 := hid (O10.out.kept (below_grown B12.out) (by simp))
  have P12 : Hid (Bytes w12 (some ⟨g12, 0, none⟩) (len0 + len1 + m) c12 ((z0 ++ z1) ++ List.replicate m 0)) := by
    show Bytes _ _ _ _ _
    have hr : ∀ y ∈ List.replicate m (0 : Int), 0 ≤ y ∧ y ≤ 255 := fun y hy => by have := List.eq_of_mem_replicate hy; omega
    rw [List.append_assoc]
    exact Row.bytes (by first | exact R12 | simpa using R12) (both_bytes E10.out.2.1.2.2.2.1 (both_bytes E10.out.2.2.1.2.2.2.1 hr))
  clear R12 gr12 HR11 B11 B12 E10 R10 O10
  go_wp2_with fail
  refine (Sum_any _ _ _ _ _ E12.out.2.2.2.1 E12.out.2.1 (by omega)).mono ?_
  rintro e w12 ⟨rfl, rfl⟩
  go_wp2_with fail
  refine (Extend_any (sum z0) _ _ _ _ _ E12.out.2.2.2.1 E12.out.2.2.1 (by omega)).mono ?_
  rintro e w12 ⟨rfl, rfl⟩
  rw [HE.out]
  go_wp2_with fail
  refine (Sum_at r _ _ _ R12').mono ?_
  rintro e w12 ⟨rfl, rfl⟩
  go_wp2_with fail
  refine (Len_at r _ _ _ R12').mono ?_
  rintro e w12 ⟨rfl, rfl⟩
  go_wp2_with fail
  refine (Len_at o _ _ _ O12).mono ?_
  rintro e w12 ⟨rfl, rfl⟩
  go_wp2_with fail
  refine (Sum_any _ _ _ _ _ E12.out.2.2.2.1 P12.out (by omega)).mono ?_
  rintro e w12 ⟨rfl, rfl⟩
  go_wp2_with fail
  go_ret
  exact ⟨rfl, E12.out.2.2.2.2⟩

theorem own : ownKnob Tryd.prog.godebug = none := by kernel_rfl
theorem laidOut : laidOutB Tryd.prog = true := by kernel_rfl
theorem u8_bd {y : Int} (h : (Lit.int .u8 y).wf = true) : 0 ≤ y ∧ y ≤ 255 := by
  simpa [Lit.wf, IntKind.min, IntKind.max, IntKind.signed, IntKind.bits] using h
theorem bulk_pos {H : Type} (d : DataW H) : 1 ≤ Rows.uptoBulk d := by
  cases d with
  | lit l => cases l <;> simp [Rows.uptoBulk]
  | nil => simp [Rows.uptoBulk]
  | ptr d => simp [Rows.uptoBulk]
  | slice elems spare => simp [Rows.uptoBulk]
  | agg parts => simp [Rows.uptoBulk]
  | iface t d => simp [Rows.uptoBulk]
  | map entries => simp [Rows.uptoBulk]
  | held h => simp [Rows.uptoBulk]
theorem bulk_len {H : Type} (l : List (DataW H)) : l.length ≤ Rows.uptoBulkAll l := by
  induction l with
  | nil => simp [Rows.uptoBulkAll]
  | cons x r ih => have := bulk_pos x; simp only [Rows.uptoBulkAll, List.length_cons]; omega
theorem open_bytes {H : Type} {enc : TypeId × Value → H} {W : World} {a : Option Addr} {len cap fuel : Nat} {d : DataW H} {p : List MemPlace}
    (hf : DataW.trod enc Tryd.prog W 0 (fun _ => true) true fuel 22 (Value.slice a len cap).cells.toList = some (d, p)) : ∃ zs, Bytes W a len cap zs ∧ len ≤ Rows.uptoBulk d := by
  rcases open_ints Tryd.underlying22 Tryd.underlying5 (by kernel_rfl) hf with ⟨hcs, _⟩ | ⟨x, l, c, zs, hcs, _, hl, hm, hz, hx, hcell, hwz⟩
  · simp [Value.cells] at hcs
    obtain ⟨rfl, rfl, rfl⟩ := hcs
    exact ⟨[], nil_bytes W, by omega⟩
  · simp [Value.cells] at hcs
    obtain ⟨rfl, rfl, rfl⟩ := hcs
    have hd : d = .slice (lits .u8 (zs.take len)) (lits .u8 (zs.drop len)) := (Prod.mk.inj hx).1
    have hz' : zs.length = cap := by simpa using hz
    refine ⟨zs.take len, ⟨by rw [List.length_take]; omega, hl, fun e => by simp at e, fun y hy => u8_bd (hwz y (List.mem_of_mem_take hy)), ?_⟩, ?_⟩
    · intro x' hx' j hj
      simp at hx'
      subst hx'
      rw [hcell j (by omega)]
      simp [List.getD_eq_getElem?_getD, hj]
    · have := bulk_len (lits (H := H) .u8 (zs.take len))
      rw [hd]
      simp only [Rows.uptoBulk]
      simp only [lits, List.length_map, List.length_take] at this ⊢
      omega

theorem contract (H : Type) (enc : TypeId × Value → H) (W : World) (base : Nat) (args : Array Value) (ds gs : List (DataW H)) (before : List MemPlace)
    (hval : ∀ (j : Nat) t v, Tryd.f3.params[j]? = some t → args[j]? = some v → Value.okWide Tryd.prog W .any base t v)
    (hW : DataW.Whole enc Tryd.prog Tryd.f3.params.toList Rows.checkJoinsSpec.vars false W args.toList ds gs before) (hk : Rows.uptoSmall H (ds ++ gs) = true) (hL : laidMetH Tryd.prog Ld.laid W) :
    Calls Tryd.prog 3 args W fun e W' => ∃ v, e = .returned v ∧ Rows.checkJoinsSpec.post enc Tryd.prog Tryd.f3 false true false false W args v W' := by
  have T : Hid (Ck.Tab W) := Ld.tab_of hL
  have hW' := hW
  obtain ⟨p, q, hA0, hV, rfl, hfz, hnd⟩ := hW
  have hA : DataW.TrodAll enc Tryd.prog W 0 (fun _ => true) true Tryd.f3.params.toList args.toList ds p := hA0
  rw [Tryd.params3] at hA hval
  obtain ⟨v0, vs0, d0, ds0, p0, q0, hargs, rfl, rfl, h0, r0⟩ := trodAll_cons hA
  obtain ⟨v1, vs1, d1, ds1, p1, q1, rfl, rfl, rfl, h1, r1⟩ := trodAll_cons r0
  obtain ⟨v2, vs2, d2, ds2, p2, q2, rfl, rfl, rfl, h2, r2⟩ := trodAll_cons r1
  obtain ⟨rfl, rfl, rfl⟩ := trodAll_nil r2
  obtain rfl : args = #[v0, v1, v2] := by cases args; simp_all
  obtain ⟨rfl, rfl⟩ := trodVars_none hV
  obtain ⟨a0, len0, cap0, rfl⟩ := okWide_slice Tryd.underlying22 (hval 0 22 v0 rfl rfl)
  obtain ⟨a1, len1, cap1, rfl⟩ := okWide_slice Tryd.underlying22 (hval 1 22 v1 rfl rfl)
  have k0 := h0
  have lt0 : ∀ x ∈ p0, x.block < W.heap.size := by obtain ⟨m, hm⟩ := k0; exact DataW.trod_lt m _ _ _ hm
  have k1 := h1
  have lt1 : ∀ x ∈ p1, x.block < W.heap.size := by obtain ⟨m, hm⟩ := k1; exact DataW.trod_lt m _ _ _ hm
  obtain ⟨z0, w0, e0⟩ : ∃ zs, Bytes W a0 len0 cap0 zs ∧ len0 ≤ Rows.uptoBulk d0 := by obtain ⟨fuel, hf⟩ := h0; exact open_bytes hf
  obtain ⟨z1, w1, e1⟩ : ∃ zs, Bytes W a1 len1 cap1 zs ∧ len1 ≤ Rows.uptoBulk d1 := by obtain ⟨fuel, hf⟩ := h1; exact open_bytes hf
  obtain ⟨a2, rfl, rfl, rfl, w2⟩ := open_int Tryd.underlying3 (hval 2 3 v2 rfl rfl) h2
  clear hA0
  have hb : Rows.uptoBulkAll [d0, d1, DataW.lit (H := H) (.int .i64 a2)] ≤ 1048576 := by
    have := of_decide_eq_true hk
    simpa using this
  simp only [Rows.uptoBulkAll] at hb
  refine (joins a0 len0 cap0 z0 a1 len1 cap1 z1 a2 W T w0 (by omega) w1 (by omega)).mono fun e W' ⟨he, bel⟩ => ?_
  subst he
  exact ⟨_, rfl, _, _, _, [], _, [], hW', trodAll_mk1 (shut_bool Tryd.underlying4 _), (trodAll_cons_mk (Below.trod laidOut (by kernel_rfl) (of_decide_eq_true (by kernel_rfl)) k0 bel lt0) (trodAll_cons_mk (Below.trod laidOut (by kernel_rfl) (of_decide_eq_true (by kernel_rfl)) k1 bel lt1) (trodAll_cons_mk (shut_int Tryd.underlying3 w2) trodAll_mk0))), rfl, bel.frame _, fun h => by cases h⟩

theorem laid_met (os : Os) : laidMet Tryd.prog Ld.laid ((World.doorLaid Tryd.prog 400 os).forCall (fun _ _ => 0) ⟨#[], #[.slice none 0 0, .slice none 0 0, .int .i64 0], []⟩).memory :=
  laidMet_of_run' 8 (by kernel_rfl) (by kernel_rfl)
theorem reads (os : Os) {H : Type} (enc : TypeId × Value → H) : ∃ places, DataW.whole enc Tryd.prog ((World.doorLaid Tryd.prog 400 os).forCall (fun _ _ => 0) ⟨#[], #[.slice none 0 0, .slice none 0 0, .int .i64 0], []⟩).memory Tryd.f3.params.toList Rows.checkJoinsSpec.vars false #[Value.slice none 0 0, Value.slice none 0 0, Value.int .i64 0].toList 8 = some ([.nil, .nil, .lit (.int .i64 0)], [], places) :=
  ⟨[], by kernel_rfl⟩

set_option maxRecDepth 100000 in
theorem lifted (os : Os) (started : os.Started) (H : Type) (enc : TypeId × Value → H) (F : Stop.Interp) :
    ReturnsInHanded {} Tryd.checked os 3 .any ((Rows.OpenSpec.upto Rows.checkJoinsSpec).preRow enc Tryd.prog Tryd.f3 Rows.checkJoinsUptoRow.domain false Rows.checkJoinsUptoRow.laid) (((Rows.OpenSpec.upto Rows.checkJoinsSpec).at F).post enc Tryd.prog Tryd.f3 false true false false) := by
  obtain ⟨places, hx⟩ := reads os enc
  refine returnsInHanded_of_row (C := Tryd.checked) (s := Rows.OpenSpec.upto Rows.checkJoinsSpec) own started (by kernel_rfl) Tryd.func3
    (witness_row_at (enc := enc) (C := Tryd.checked) false (World.doorLaid Tryd.prog 400 os) #[.slice none 0 0, .slice none 0 0, .int .i64 0] rfl (by kernel_rfl) (by kernel_rfl) (by kernel_rfl)
      (OpenSpec.preRow_of_cond 8 hx (by kernel_rfl) (fun k hk => by cases hk; kernel_rfl) (by kernel_rfl) (laid_met os))) ?_
  intro W base args ds gs before hval hW _ hcond _ hL _ _
  exact contract H enc W base args ds gs before hval hW (hcond _ rfl) hL

theorem over : Rows.CheckJoinsUptoSaid :=
  OpenClaim.holds_of_cond 3 Tryd.f3 rfl rfl rfl rfl rfl rfl rfl ⟨rfl, rfl, rfl, rfl, rfl⟩ rfl rfl rfl rfl rfl (by kernel_rfl) Tryd.func3 (by kernel_rfl)
    (of_decide_eq_true (by kernel_rfl)) (by unfold Func.isWrapper; first | (rw [if_pos (by decide +kernel)]; kernel_rfl) | (rw [if_neg (by decide +kernel)]; exact ⟨rfl, rfl⟩))
    (fun os started H enc _ F => by rw [OpenClaim.pre_eq_preRow]; exact lifted os started H enc F)

/-! ### The card: the variable tied to the program's text -/
theorem plain (f : FuncId) (fn : Func) (hf : Tryd.pinned.checked.prog.funcNamed "moraine/morainelaw02.CheckJoins" = some f) (hfn : Tryd.pinned.checked.prog.funcs[f]? = some fn) :
    false = Tryd.pinned.checked.prog.looks [] ∧ ∀ (j : Nat) t, fn.params[j]? = some t → Tryd.pinned.checked.prog.wantsStandIn t = false := by
  obtain rfl : f = 3 := Option.some.inj ((show Tryd.prog.funcNamed "moraine/morainelaw02.CheckJoins" = some 3 by kernel_rfl).symm.trans hf) |>.symm
  obtain rfl : fn = Tryd.f3 := (Option.some.inj (Tryd.func3.symm.trans hfn)).symm
  refine ⟨by kernel_rfl, fun j t ht => ?_⟩
  rw [Tryd.params3] at ht
  have hm : t ∈ [22, 3] := by
    have := Array.mem_of_getElem? ht
    simp at this ⊢
    omega
  have hall : ([22, 3].all fun u => !Tryd.prog.wantsStandIn u) = true := by kernel_rfl
  exact (show Tryd.prog.wantsStandIn t = false by simpa using List.all_eq_true.1 hall t hm)
theorem carded : Rows.CheckJoinsUptoCardSaid :=
  Claim7.holds_tied_plain_at .later [] _ _ _ _ over (fun _ h => by cases h) (by kernel_rfl) (fun _ h => by cases h) checkJoinsUpto_row_tie rfl ⟨rfl, rfl⟩ (by kernel_rfl) rfl plain (by kernel_rfl)
end Go.Proofs.YtkgmdhldongloabDoor.checkJoins
namespace Go.Proofs.YtkgmdhldongloabDoor
theorem checkJoins_upto_holds : Rows.CheckJoinsUptoCardSaid := checkJoins.carded
#print axioms checkJoins_upto_holds
end Go.Proofs.YtkgmdhldongloabDoor

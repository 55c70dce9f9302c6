/- SkipNil walked. -/
import Derived.Test.YthnmoidfdojoiaaNn
namespace Go.Proofs.Ythnmoidfdojoiaa.Nl
open Go.ChangeShapes Go.WideShapes Go.ChangeAt Go.RowKit Go.Shelf
open Go.Sort (grow)
open Go.Proofs.Ythnmoidfdojoiaa.Ik
open Go.Proofs.Ythnmoidfdojoiaa.Sg
open Go.Proofs.Ythnmoidfdojoiaa.Cm (ik)
open Go.Proofs.Ythnmoidfdojoiaa.Vl
open Go.Proofs.Ythnmoidfdojoiaa.Mm
open Go.Proofs.Ythnmoidfdojoiaa.Tr
open Go.Proofs.Ythnmoidfdojoiaa.Li
open Go.Proofs.Ythnmoidfdojoiaa.In
open Go.Proofs.Ythnmoidfdojoiaa.Oi
set_option linter.unusedVariables false
set_option linter.unusedSimpArgs false

open Go.Proofs.Ythnmoidfdojoiaa.Tl
open Go.Proofs.Ythnmoidfdojoiaa.Fi

open Go.Proofs.Ythnmoidfdojoiaa.Pu

open Go.Proofs.Ythnmoidfdojoiaa.Al
open Go.Proofs.Ythnmoidfdojoiaa.Gn
attribute [local go_sem] Oper.semAt_some

open Go.Proofs.Ythnmoidfdojoiaa.Nn

set_option maxHeartbeats 1000000 in
theorem allof_n (p : Option Addr) (w : World) (H : Non w p) :
    Calls Try.prog 19 #[.pointer p] w fun e w' => e = .returned (.func (.func 72) #[] #[.pointer (some ⟨w.heap.size, 0, none⟩), .pointer (some ⟨w.heap.size + 1, 0, none⟩)]) ∧ Boxed w' w.heap.size 46 (.pointer p) ∧ Boxed w' (w.heap.size + 1) 3 (.int .i64 0) ∧ Below w.heap.size w w' ∧ w'.heap.size = w.heap.size + 2 := by
  have B0 := box_below w (.cells #[.pointer p] 46)
  have HLen := hid (len_n p _ (H.later B0))
  have hmf : ∀ (fn : Fn) (first cap : Array Value) (w : World), (Instr.makeFunc fn first cap).run Try.prog w = .ok (.func fn first cap) w := fun _ _ _ _ => rfl
  obtain ⟨W1, hW1⟩ : ∃ W1, W1 = w.alloc (.cells #[.pointer p] 46) := ⟨_, rfl⟩
  have b1 : Boxed W1 w.heap.size 46 (.pointer p) := by rw [hW1]; exact Boxed.new _ _ _
  have s1 : W1.heap.size = w.heap.size + 1 := by rw [hW1]; exact size_alloc _ _
  have FIN : Hid (Boxed (W1.alloc (.cells #[.int .i64 0] 3)) w.heap.size 46 (.pointer p) ∧ Boxed (W1.alloc (.cells #[.int .i64 0] 3)) (w.heap.size + 1) 3 (.int .i64 0) ∧ Below w.heap.size w (W1.alloc (.cells #[.int .i64 0] 3)) ∧ (W1.alloc (.cells #[.int .i64 0] 3)).heap.size = w.heap.size + 2) := by
    refine ⟨b1.alloc _, ?_, ?_, ?_⟩
    · rw [← s1]; exact Boxed.new _ _ _
    · exact ((by rw [hW1]; exact B0 : Below w.heap.size w W1)).alloc (by omega) _
    · rw [size_alloc, s1]
  rw [hW1] at FIN
  clear B0 hW1 b1 s1
  go_enter Try.func19, Try.ntmps19
  go_wp2_with fail
  refine HLen.out.mono ?_
  rintro e w' ⟨rfl, rfl⟩
  go_wp2_with fail
  go_ret
  exact ⟨rfl, FIN.out⟩
set_option maxRecDepth 100000 in
set_option maxHeartbeats 1000000 in
theorem all_none (m : Nat) (hm : 1 ≤ m) (l bl bm : Nat) (p : Option Addr) (v : Value) (W : World) (H : Non W p) (hbl : Boxed W bl 46 (.pointer p)) :
    CallsIn Fence.wide m Try.prog 72 #[.func (.yield l) #[] #[], .pointer (some ⟨bl, 0, none⟩), v] W fun e W' => (∃ v, e = .returned v) ∧ W' = W := by
  have HF := hid (firstof_n p W H)
  have c0 := hbl.cell
  refine callsIn_of_wp Try.func72 rfl trivial ?_ rfl
  simp only [Try.ntmps72, List.size_toArray, List.length_cons, List.length_nil, Nat.reduceAdd, Nat.reduceSub, Array.replicate_succ, Array.replicate_zero, List.push_toArray, List.append_toArray, List.nil_append, List.cons_append]
  gi_wp2_with fail
  refine ⟨trivial, (callsIn_wide.2 HF.out).mono ?_⟩
  rintro e w' ⟨rfl, rfl⟩
  gi_wp2_with fail
  gi_loopw [4] (fun nv wr => nv = .int .i64 0 ∧ wr = w') (fun _ _ => 0)
  case atStart => exact ⟨rfl, rfl⟩
  case round =>
    obtain ⟨rfl, rfl⟩ := hrel
    gi_wp2_with fail
    go_end0
    exact ⟨⟨_, rfl⟩, rfl⟩
structure Cl (n0 : Nat) (w W : World) : Prop where
  a : Boxed W (n0 + 1) 28 (.slice none 0 0)
  k : Boxed W (n0 + 1 + 1) 66 (.slice none 0 0)
  b : Below n0 w W
  z : n0 + 5 ≤ W.heap.size
theorem Cl.kept {n0 : Nat} {w W W' : World} {row : Option Nat} (h : Cl n0 w W) (K : W.grownBy W' row) (hr : ∀ k, row = some k → n0 + 5 ≤ k) : Cl n0 w W' := by
  have ne : ∀ q, q < n0 + 5 → some q ≠ row := fun q hq e => by have := hr q e.symm; omega
  exact ⟨h.a.kept K (ne _ (by omega)), h.k.kept K (ne _ (by omega)), h.b.grown K (by have := h.z; omega) (fun k e => by have := hr k e; omega), Nat.le_trans h.z K.size⟩
theorem Cl.later {n0 : Nat} {w W W' : World} (h : Cl n0 w W) (K : Below W.heap.size W W') : Cl n0 w W' := h.kept (row := none) (grown_of K) (fun _ e => by cases e)
set_option maxRecDepth 100000 in
set_option maxHeartbeats 4000000 in
theorem gone_in_n (p : Option Addr) (w : World) (H : Non w p) :
    CallsIn Fence.wide 8 Try.prog 22 #[.pointer p, .int .i64 1] w fun e w' => e = .returned (.tuple #[.slice none 0 0, .slice none 0 0]) ∧ Below w.heap.size w w' := by
  refine callsIn_of_wp_marks Try.func22 rfl trivial ?_ rfl
  simp only [Try.ntmps22, List.size_toArray, List.length_cons, List.length_nil, Nat.reduceAdd, Nat.reduceSub, Array.replicate_succ, Array.replicate_zero, List.push_toArray, List.append_toArray, List.nil_append, List.cons_append]
  obtain ⟨W3, hW3⟩ : ∃ W, W = ((w.alloc (.cells #[.int .i64 1] 3)).alloc (.cells #[.slice none 0 0] 28)).alloc (.cells #[.slice none 0 0] 66) := ⟨_, rfl⟩
  obtain ⟨n0, hn0⟩ : ∃ n0, n0 = w.heap.size := ⟨_, rfl⟩
  have s3 : W3.heap.size = n0 + 3 := by rw [hW3, hn0]; simp
  have B3 : Below w.heap.size w W3 := by rw [hW3]; exact ((box_below w _).alloc (by simp) _).alloc (by simp; omega) _
  have x1 : Boxed W3 (n0 + 1) 28 (.slice none 0 0) := by
    rw [hW3, hn0]
    have := (Boxed.new (w.alloc (.cells #[.int .i64 1] 3)) 28 (.slice none 0 0)).alloc (.cells #[.slice none 0 0] 66)
    simpa using this
  have x2 : Boxed W3 (n0 + 1 + 1) 66 (.slice none 0 0) := by
    rw [hW3, hn0]
    have := Boxed.new ((w.alloc (.cells #[.int .i64 1] 3)).alloc (.cells #[.slice none 0 0] 28)) 66 (.slice none 0 0)
    simpa using this
  have HA := allof_n p W3 (H.later B3)
  rw [s3] at HA
  replace HA := hid HA
  replace hW3 := hid hW3
  replace H := hid H
  gi_wp2_with fail
  rw [← hW3.out]
  refine ⟨trivial, (callsIn_wide.2 HA.out).mono ?_⟩
  rintro e W4 ⟨rfl, l4, m4, b4, s4⟩
  have hnf : ∀ (fn : Fn) (u v : Array Value) (w : World), Sem.run Try.prog (binOp .eql 53 (.func fn u v) .nilFunc) w = .ok (.bool false) w := fun fn u v w => nil_no fn u v w
  have hC0 : Cl n0 w W4 := ⟨(b4.block _ (by omega)).trans x1, (b4.block _ (by omega)).trans x2, by rw [hn0]; exact B3.trans (b4.mono (by rw [← hn0]; omega)), by omega⟩
  have s5 : W4.heap.size = n0 + 5 := by omega
  have hN4 : Hid (∀ W', Below n0 w W' → Non W' p) := fun W' h' => H.out.later (by rw [← hn0]; exact h')
  replace l4 := hid l4
  replace hC0 := hid hC0
  replace hn0 := hid hn0
  clear m4 b4 s4 x1 x2 s3 B3 HA
  gi_wp2_with fail
  rw [← hn0.out]
  refine range_q (F := Fence.wide) (n := 8) (encs []) rfl (by omega) (gf := 72) (lb := #[.pointer (some ⟨n0 + 3, 0, none⟩), .pointer (some ⟨n0 + 3 + 1, 0, none⟩)]) rfl trivial (enters_of Try.func72 (by kernel_rfl) rfl) (fun _ => rfl)
    (fun _ W => Cl n0 w W) (fun _ _ _ => False) (fun _ _ => False) (fun _ _ => True) (fun _ _ _ => True) (fun _ => True)
    (fun s W o h => h.later (box_below W o)) (fun s W W' k h g hk hc => h.kept g (fun q e => by cases e; omega)) (fun _ _ _ _ _ h => h.elim)
    (fun _ _ _ _ => trivial) (fun _ _ => trivial) (fun _ _ _ _ _ _ _ => trivial)
    hC0.out ?seq
    (fun x a' W => True)
    (fun _ _ _ _ _ _ _ _ => trivial) ?assign ?body ?done ?stop
  case seq =>
    intro l J Jx W1 hB1 hY h0
    have hB1' : Below n0 w W1 := hC0.out.b.trans (hB1.mono (by omega))
    refine (all_none 7 (by omega) l (n0 + 3) 0 p (.pointer (some ⟨n0 + 3 + 1, 0, none⟩)) W1 (hN4.out W1 hB1') ((hB1.block _ l4.out.lt).trans l4.out)).mono ?_
    rintro e W' ⟨hv, rfl⟩
    exact ⟨hv, .inl ⟨[], W', h0, Below.refl _ _, trivial⟩⟩
  case assign =>
    intro l x W K hK
    simp only [encs]
    gi_wp2
    exact hK _ _ (box_below _ _) trivial
  case body =>
    intro l pre x a' W0 W1 W2 _ _ hf
    exact hf.elim
  case done =>
    rintro D l ys W0 W W' hD hI h0W _ hWW hl hnc hDd
    have hC : Cl n0 w W' := (hI.later h0W).kept hWW (fun q e => by cases e; omega)
    have c1 := hC.a.cell
    have c2 := hC.k.cell
    have hDW : (W'.drew).heap[D]? = some (.deferred (some [])) := hDd
    have hb3 : Below n0 w W'.drew := hC.b.drew
    replace hb3 := hid hb3
    replace hDW := hid hDW
    clear hI h0W hWW hnc hDd hC
    gi_wp2_with fail
    gi_region
    gi_wp2_with fail
    refine ⟨by simp, .inl ⟨_, _, rfl, run_takeDeferred hDW.out, ?_⟩⟩
    refine ⟨.tuple #[.slice none 0 0, .slice none 0 0], ?_, ⟨rfl, ?_⟩⟩
    · simp [results, Try.results22, go_sem]
    · rw [← hn0.out]; exact hb3.out.trans (belowK_b' (w := W4) (by omega) _ D _ _ hD hDW.out)
  case stop =>
    rintro D c pre W hD _ hx hDd
    exact hx.elim
theorem gone_n (p : Option Addr) (w : World) (H : Non w p) : Calls Try.prog 22 #[.pointer p, .int .i64 1] w fun e w' => e = .returned (.tuple #[.slice none 0 0, .slice none 0 0]) ∧ Below w.heap.size w w' := callsIn_wide.1 (gone_in_n p w H)
set_option maxHeartbeats 8000000 in
set_option maxRecDepth 100000 in
theorem nil_any (k : ByteArray) (s c : Int) (n : Int) (w : World) (hn : -9223372036854775808 ≤ n ∧ n ≤ 9223372036854775807) :
    Calls Try.prog 5 #[.agg #[.string k, .int .u64 s, .int .i64 c], .int .i64 n] w fun e w' => e = .returned (.bool true) ∧ Below w.heap.size w w' := by
  obtain ⟨gk, hgk⟩ : ∃ gk, gk = w.heap.size := ⟨_, rfl⟩
  obtain ⟨W0, hW0⟩ : ∃ W0, W0 = ((w.alloc (.cells #[.string k, .int .u64 s, .int .i64 c] 36)).alloc (.cells #[.int .i64 0, .int .i64 0, .slice none 0 0] 60)).alloc (.cells #[.pointer none, .pointer (some ⟨gk + 1, 0, none⟩)] 46) := ⟨_, rfl⟩
  have hB : Below w.heap.size w W0 ∧ Bx W0 gk k s c ∧ W0.heap[gk + 1]? = some (.cells #[.int .i64 0, .int .i64 0, .slice none 0 0] 60) ∧ W0.heap[gk + 1 + 1]? = some (.cells #[.pointer none, .pointer (some ⟨gk + 1, 0, none⟩)] 46) := by
    obtain ⟨w1, e1⟩ : ∃ w1, w1 = w.alloc (.cells #[.string k, .int .u64 s, .int .i64 c] 36) := ⟨_, rfl⟩
    obtain ⟨w2, e2⟩ : ∃ w2, w2 = w1.alloc (.cells #[.int .i64 0, .int .i64 0, .slice none 0 0] 60) := ⟨_, rfl⟩
    rw [← e1, ← e2] at hW0
    have s1 : w1.heap.size = gk + 1 := by rw [e1, hgk]; exact size_alloc _ _
    have s2 : w2.heap.size = gk + 1 + 1 := by rw [e2, size_alloc, s1]
    have b1 : Below w.heap.size w w1 := by rw [e1]; exact box_below _ _
    have b2 : Below w1.heap.size w1 w2 := by rw [e2]; exact box_below _ _
    have b3 : Below w2.heap.size w2 W0 := by rw [hW0]; exact box_below _ _
    have k1 : Bx w1 gk k s c := by rw [e1, hgk]; exact new_at _ _
    have l2 : w2.heap[gk + 1]? = some (.cells #[.int .i64 0, .int .i64 0, .slice none 0 0] 60) := by rw [← s1, e2]; exact new_at _ _
    exact ⟨(b1.trans (b2.mono (by omega))).trans (b3.mono (by omega)), (k1.later b2).later b3, (b3.block _ (blk_lt l2)).trans l2, by rw [← s2, hW0]; exact new_at _ _⟩
  obtain ⟨B0, K0, L0, A0⟩ := hB
  rw [hgk] at hW0
  replace hW0 := hid hW0
  replace hgk := hid hgk
  replace B0 := hid B0
  replace K0 := hid K0
  replace L0 := hid L0
  replace A0 := hid A0
  go_enter Try.func5, Try.ntmps5
  go_wp2_with fail
  rw [← hW0.out, ← hgk.out]
  go_loopw [20] (fun iv wr => ∃ i : Nat, iv = .int .i64 (i : Int) ∧ i ≤ 2 ∧ Hid (Below W0.heap.size W0 wr)) (fun iv _ => 2 - (intOf iv).toNat)
  case atStart => exact ⟨0, rfl, by omega, Below.refl _ _⟩
  case round =>
    obtain ⟨i, rfl, hi, HB⟩ := hrel
    by_cases hlt : i < 2
    · obtain ⟨p, hp, hN⟩ : ∃ p, (∀ W, Below W0.heap.size W0 W → W.cell? ⟨gk + 1 + 1, i, none⟩ = some (.pointer p)) ∧ ∀ W, Below W0.heap.size W0 W → Non W p := by
        match i, hlt with
        | 0, _ => exact ⟨none, fun W hW => cell_of ((hW.block _ (blk_lt A0.out)).trans A0.out) 0 _ rfl, fun W _ => .inl rfl⟩
        | 1, _ => exact ⟨some ⟨gk + 1, 0, none⟩, fun W hW => cell_of ((hW.block _ (blk_lt A0.out)).trans A0.out) 1 _ rfl, fun W hW => .inr ⟨gk + 1, rfl, (hW.block _ (blk_lt L0.out)).trans L0.out⟩⟩
      have cp := hp wr HB.out
      have K1 := K0.out.later HB.out
      have k0 := K1.c0
      have k1 := K1.c1
      have k2 := K1.c2
      have HX0 := hid (get_n p k s c wr (hN wr HB.out))
      have i1 : (i : Int) < 2 := by omega
      replace hN := hid hN
      clear hp K1
      go_wp2_with fail
      refine HX0.out.mono ?_
      rintro e w1 ⟨rfl, c1⟩
      have HB1 := hid (HB.out.trans (c1.mono HB.out.size))
      have HX1 := hid (node_n p n w1 (hN.out w1 HB1.out))
      clear c1 HX0 cp k0 k1 k2
      go_wp2_with fail
      refine HX1.out.mono ?_
      rintro e w2 ⟨rfl, c2⟩
      have HB2 := hid (HB1.out.trans (c2.mono HB1.out.size))
      obtain ⟨W3, hW3⟩ : ∃ W3, W3 = w2.alloc (.cells #[.string ⟨#[]⟩, .int .u64 0, .int .i64 0] 36) := ⟨_, rfl⟩
      obtain ⟨gn, hgn⟩ : ∃ gn, gn = w2.heap.size := ⟨_, rfl⟩
      have b3 : Below w2.heap.size w2 W3 := by rw [hW3]; exact box_below _ _
      have Z3 : Bx W3 gn ⟨#[]⟩ 0 0 := by rw [hW3, hgn]; exact new_at _ _
      have HB3 := hid (HB2.out.trans (b3.mono HB2.out.size))
      have HX3 := gone_n p W3 (hN.out W3 HB3.out)
      rw [hW3] at HX3
      replace HX3 := hid HX3
      replace hW3 := hid hW3
      replace hgn := hid hgn
      replace Z3 := hid Z3
      clear c2 HX1 b3
      go_wp2_with fail
      refine HX3.out.mono ?_
      rw [← hW3.out, ← hgn.out]
      rintro e w4 ⟨rfl, c4⟩
      have HB4 := hid (HB3.out.trans (c4.mono HB3.out.size))
      have Z4 := hid (Z3.out.later c4)
      have K4 := K0.out.later HB4.out
      have k0 := K4.c0
      have k1 := K4.c1
      have k2 := K4.c2
      have HX4 := hid (insert_n p k s c 7 1 w4 (hN.out w4 HB4.out))
      clear c4 HX3 hW3 Z3 K4
      go_wp2_with fail
      refine HX4.out.mono ?_
      rintro e w5 ⟨rfl, c5⟩
      have HB5 := hid (HB4.out.trans (c5.mono HB4.out.size))
      have Z5 := Z4.out.later c5
      have z0 := Z5.c0
      have z1 := Z5.c1
      have z2 := Z5.c2
      have K5 := K0.out.later HB5.out
      have k0 := K5.c0
      have k1 := K5.c1
      have k2 := K5.c2
      have HX5 := hid (len_n p w5 (hN.out w5 HB5.out))
      have HX6 := hid (height_n p w5 (hN.out w5 HB5.out))
      have HX7 := hid (seek_n p k s c w5 (hN.out w5 HB5.out))
      clear c5 HX4 Z4 Z5 K5
      go_wp2_with fail
      refine HX5.out.mono ?_
      rintro e w6 ⟨rfl, rfl⟩
      go_wp2_with fail
      refine HX6.out.mono ?_
      rintro e w6 ⟨rfl, rfl⟩
      go_wp2_with fail
      refine HX7.out.mono ?_
      rintro e w7 ⟨rfl, c7⟩
      have HB7 := hid (HB5.out.trans (c7.mono HB5.out.size))
      have K7 := K0.out.later HB7.out
      clear k0 k1 k2 z0 z1 z2 c7 HX5 HX6 HX7
      have k0 := K7.c0
      have k1 := K7.c1
      have k2 := K7.c2
      have HX8 := hid (before_n p k s c w7 (hN.out w7 HB7.out))
      clear K7
      go_wp2_with fail
      refine HX8.out.mono ?_
      rintro e w8 ⟨rfl, c8⟩
      have HB8 := hid (HB7.out.trans (c8.mono HB7.out.size))
      have HX9 := hid (firstof_n p w8 (hN.out w8 HB8.out))
      have HX10 := hid (last_n p w8 (hN.out w8 HB8.out))
      have HX11 := hid (nextof_n p n w8 (hN.out w8 HB8.out))
      have HX12 := hid (prevof_n p n w8 (hN.out w8 HB8.out))
      have HX13 := hid (links_n p n w8 (hN.out w8 HB8.out))
      have HX14 := hid (trailing_n p k s c w8 (hN.out w8 HB8.out))
      have K8 := K0.out.later HB8.out
      clear k0 k1 k2 c8 HX8
      have k0 := K8.c0
      have k1 := K8.c1
      have k2 := K8.c2
      clear K8
      go_wp2_with fail
      refine HX9.out.mono ?_
      rintro e w9 ⟨rfl, rfl⟩
      go_wp2_with fail
      refine HX10.out.mono ?_
      rintro e w9 ⟨rfl, rfl⟩
      go_wp2_with fail
      refine HX11.out.mono ?_
      rintro e w9 ⟨rfl, rfl⟩
      go_wp2_with fail
      refine HX12.out.mono ?_
      rintro e w9 ⟨rfl, rfl⟩
      go_wp2_with fail
      refine HX13.out.mono ?_
      rintro e w9 ⟨rfl, rfl⟩
      go_wp2_with fail
      refine HX14.out.mono ?_
      rintro e w10 ⟨rfl, c10⟩
      have HB10 := hid (HB8.out.trans (c10.mono HB8.out.size))
      clear k0 k1 k2 c10 HX9 HX10 HX11 HX12 HX13 HX14
      go_wp2_with fail
      refine ⟨⟨i + 1, by simp, by omega, HB10⟩, ?_⟩
      simp only [intOf]; omega
    · have ei : i = 2 := by omega
      subst ei
      have HNw := hid (new_ok 1 wr (by omega) (by omega))
      have BF : Hid (Below w.heap.size w wr) := B0.out.trans (HB.out.mono B0.out.size)
      go_wp2_with fail
      refine HNw.out.mono ?_
      rintro e w2 ⟨rfl, _, c2⟩
      have B2 := hid (BF.out.trans (c2.mono BF.out.size))
      go_wp2_with fail
      go_ret
      exact ⟨rfl, B2.out⟩
end Go.Proofs.Ythnmoidfdojoiaa.Nl

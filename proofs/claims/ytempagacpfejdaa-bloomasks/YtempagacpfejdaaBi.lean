/- The bits of a key: in plain words; bitsOf's iterator by its contract. -/
import Derived.Test.YtempagacpfejdaaRq
import Derived.Test.YtempagacpfejdaaPr
namespace Go.Proofs.Ytempagacpfejdaa.Bi
open Go.ChangeShapes Go.WideShapes Go.ChangeAt Go.RowKit Go.Shelf
open Go.Proofs.Ytempagacpfejdaa.Wd
open Go.Proofs.Ytempagacpfejdaa.Hs
open Go.Proofs.Ytempagacpfejdaa.Rq
set_option linter.unusedVariables false
set_option linter.unusedSimpArgs false
attribute [local go_sem] Oper.semAt_some

def sd : BitVec 32 := 0xbc9f1d34#32
theorem sd_i : (3164544308 : Int) = toI sd := by decide
def rot (x : BitVec 32) : BitVec 32 := (x >>> 17) ||| (x <<< 15)
theorem rotr_any (x : BitVec 32) (w : World) : Calls Try.prog 31 #[.int .u32 (toI x), .int .i64 (-17)] w fun e w' => e = .returned (.int .u32 (toI (rot x))) ∧ w' = w := by
  have E : Hid (bits .or .u32 (toI x * 32768 % 4294967296) (toI x / 131072) = toI (rot x)) := by
    show _ = _
    rw [shl15, shr17, or_i, BitVec.or_comm]; rfl
  have A : bits .and .u64 (IntKind.u64.wrap (-17)) 31 = 15 := by decide
  go_enter Try.func31, Try.ntmps31
  go_wp2
  go_ret
  exact ⟨ret_int E.out, rfl⟩
/-- The key's word behind i steps. -/
def hk (s : ByteArray) : Nat → BitVec 32
  | 0 => hsh s sd
  | i + 1 => hk s i + rot (hsh s sd)
def bitA (s : ByteArray) (n i : Nat) : Nat := (hk s i).toNat % n
/-- The bits of a key, in a filter of n bits with k probes. -/
def kb (s : ByteArray) (n k : Nat) : List Nat := (List.range k).map (bitA s n)
theorem kb_len (s : ByteArray) (n k : Nat) : (kb s n k).length = k := by simp [kb]
theorem kb_succ (s : ByteArray) (n k : Nat) : kb s n (k + 1) = kb s n k ++ [bitA s n k] := by
  unfold kb; rw [List.range_succ, List.map_append]; rfl
theorem kb_pre (s : ByteArray) (n i k : Nat) (h : i ≤ k) : kb s n i <+: kb s n k := by
  obtain ⟨d, rfl⟩ := Nat.exists_eq_add_of_le h
  induction d with
  | zero => exact List.prefix_refl _
  | succ d ih => exact (ih (by omega)).trans (by rw [← Nat.add_assoc, kb_succ]; exact List.prefix_append _ _)
theorem bitA_lt (s : ByteArray) (n i : Nat) (h : 0 < n) : bitA s n i < n := Nat.mod_lt _ h
theorem kb_lt (s : ByteArray) (n k : Nat) (h : 0 < n) : ∀ x ∈ kb s n k, x < n := by
  intro x hx
  obtain ⟨i, _, rfl⟩ := List.mem_map.1 hx
  exact bitA_lt s n i h
def encs (x : Nat) : Array Value := #[.int .i64 (x : Int)]
/-- The three boxes stay. -/
def Kx (b1 b2 b3 : Nat) (A B : World) : Prop := B.heap[b1]? = A.heap[b1]? ∧ B.heap[b2]? = A.heap[b2]? ∧ B.heap[b3]? = A.heap[b3]?
theorem Kx.trans {b1 b2 b3 : Nat} {A B C : World} (h : Kx b1 b2 b3 A B) (k : Kx b1 b2 b3 B C) : Kx b1 b2 b3 A C := ⟨k.1.trans h.1, k.2.1.trans h.2.1, k.2.2.trans h.2.2⟩
theorem wrap64_in (n : Int) (h : -9223372036854775808 ≤ n ∧ n ≤ 9223372036854775807) : wrap64 n = n := by unfold wrap64; omega
theorem bitA_i (x : BitVec 32) (n : Nat) : (toI x) % (n : Int) = ((x.toNat % n : Nat) : Int) := by unfold toI; norm_cast
set_option maxRecDepth 100000 in
set_option maxHeartbeats 400000 in
theorem bits_in (m : Nat) (hm : 1 ≤ m) (l b1 b2 b3 : Nat) (s : ByteArray) (n k : Nat) (J Jx : List Nat → World → Prop) (hs0 : s.size ≤ 9223372036854775807) (hn : 0 < n) (hn2 : n ≤ 9223372036854775807) (hk30 : k ≤ 30)
    (hY : ∀ pre x W0 W1, J pre W0 → Below W0.heap.size W0 W1 → pre ++ [x] <+: kb s n k → YieldAt Fence.wide (m - 1) Try.prog l (encs x) W1 fun e W' =>
      (e = .returned (.bool true) ∧ J (pre ++ [x]) W' ∧ Kx b1 b2 b3 W1 W') ∨ (e = .returned (.bool false) ∧ Jx (pre ++ [x]) W'))
    (W : World) (h1 : Boxed W b1 9 (.string s)) (h2 : Boxed W b2 3 (.int .i64 (k : Int))) (h3 : Boxed W b3 3 (.int .i64 (n : Int))) (h0 : J [] W) :
    CallsIn Fence.wide m Try.prog 30 #[.func (.yield l) #[] #[], .pointer (some ⟨b1, 0, none⟩), .pointer (some ⟨b2, 0, none⟩), .pointer (some ⟨b3, 0, none⟩)] W fun e W' => (∃ v, e = .returned v) ∧
      ((∃ W0, J (kb s n k) W0 ∧ Below W0.heap.size W0 W') ∨ (∃ pre, pre <+: kb s n k ∧ Jx pre W')) := by
  have HH := hid (fun W => by have := hash_any s sd hs0 W; rw [← sd_i] at this; exact this : ∀ W, Calls Try.prog 10 #[.string s, .int .u32 3164544308] W fun e w' => e = .returned (.int .u32 (toI (hsh s sd))) ∧ ∃ n, w' = W.drewN n)
  have c1 := h1.cell
  have c2 := h2.cell
  have c3 := h3.cell
  replace hY := hid hY
  replace h1 := hid h1
  replace h2 := hid h2
  replace h3 := hid h3
  replace h0 := hid h0
  refine callsIn_of_wp Try.func30 rfl trivial ?_ rfl
  simp only [Try.ntmps30, List.size_toArray, List.length_cons, List.length_nil, Nat.reduceAdd, Nat.reduceSub, Array.replicate_succ, Array.replicate_zero, List.push_toArray, List.append_toArray, List.nil_append, List.cons_append]
  gi_wp2_with fail
  refine ⟨trivial, (callsIn_wide.2 (HH.out _)).mono ?_⟩
  rintro e w' ⟨rfl, q, rfl⟩
  have HB : Hid (Below W.heap.size W (W.drewN q)) := below_drewN (Below.refl _ _) q
  have g1 : Hid (Boxed (W.drewN q) b1 9 (.string s)) := h1.out
  have g2 : Hid (Boxed (W.drewN q) b2 3 (.int .i64 (k : Int))) := h2.out
  have g3 : Hid (Boxed (W.drewN q) b3 3 (.int .i64 (n : Int))) := h3.out
  have d2 := g2.out.cell
  clear c1 c2 c3 HH
  generalize W.drewN q = W9 at *
  gi_wp2_with fail
  refine ⟨trivial, (callsIn_wide.2 (rotr_any _ _)).mono ?_⟩
  rintro e w' ⟨rfl, rfl⟩
  gi_wp2_with fail
  gi_loopw [5, 12] (fun hv iv wr => ∃ (i : Nat) (W0 : World), hv = .int .u32 (toI (hk s i)) ∧ iv = .int .i64 (i : Int) ∧ i ≤ k ∧ Hid (J (kb s n i) W0) ∧ Hid (Below W0.heap.size W0 wr) ∧ Hid (Boxed wr b1 9 (.string s)) ∧ Hid (Boxed wr b2 3 (.int .i64 (k : Int))) ∧ Hid (Boxed wr b3 3 (.int .i64 (n : Int))))
    (fun _ iv _ => k - (intOf iv).toNat)
  case atStart => exact ⟨0, W, rfl, rfl, by omega, h0, HB, g1, g2, g3⟩
  case round =>
    obtain ⟨i, W0, rfl, rfl, hik, HJ, HB0, G1, G2, G3⟩ := hrel
    have x3 := G3.out.cell
    by_cases hlt : i < k
    · have HS := hid (kb_succ s n i)
      have HP := hid (kb_pre s n (i + 1) k (by omega))
      have HK : Hid (hk s (i + 1) = hk s i + rot (hsh s sd)) := rfl
      have HA : Hid (bitA s n i = (hk s i).toNat % n) := rfl
      obtain ⟨fn, tmps, assign, body, hy, hR⟩ := hY.out _ (bitA s n i) W0 wr HJ.out HB0.out (by rw [← HS.out]; exact HP.out)
      dsimp only [encs] at hy
      rw [HA.out, ← bitA_i] at hy
      generalize hk s i = x at *
      have hx := toI_bd x
      have ik : (i : Int) < (k : Int) := by omega
      have wx : wrap64 (toI x % (n : Int)) = toI x % (n : Int) := wrap64_in _ (by
        have h5 := Nat.mod_le x.toNat n
        have h6 := x.isLt
        rw [bitA_i]; omega)
      gi_wp2_with fail
      refine hR.mono ?_
      rintro e w3 (⟨rfl, hJ3, hk3⟩ | ⟨rfl, hJx3⟩)
      · have l1 : Hid (Boxed w3 b1 9 (.string s)) := hk3.1.trans G1.out
        have l2 : Hid (Boxed w3 b2 3 (.int .i64 (k : Int))) := hk3.2.1.trans G2.out
        have l3 : Hid (Boxed w3 b3 3 (.int .i64 (n : Int))) := hk3.2.2.trans G3.out
        replace hJ3 := hid hJ3
        clear hk3 hR
        gi_wp2_with fail
        go_roundw
        case rel => exact ⟨i + 1, w3, by rw [HK.out, ← add_m], by go_num, by omega, by rw [HS.out]; exact hJ3, Below.refl _ _, l1, l2, l3⟩
        case measure => simp [intOf]; omega
      · gi_wp2_with fail
        refine bodyPost_ret (results_none rfl _ _ _) rfl ?_
        exact ⟨⟨_, rfl⟩, .inr ⟨_, by rw [← HS.out]; exact HP.out, hJx3⟩⟩
    · have e1 : i = k := by omega
      subst e1
      gi_wp2_with fail
      go_end0
      exact ⟨⟨_, rfl⟩, .inl ⟨W0, HJ.out, HB0.out⟩⟩
theorem bitsof_any (s : ByteArray) (n k : Int) (w : World) :
    Calls Try.prog 25 #[.string s, .int .i64 n, .int .i64 k] w fun e w' => e = .returned (.func (.func 30) #[] #[.pointer (some ⟨w.heap.size, 0, none⟩), .pointer (some ⟨w.heap.size + 2, 0, none⟩), .pointer (some ⟨w.heap.size + 1, 0, none⟩)]) ∧
      w' = ((w.alloc (.cells #[.string s] 9)).alloc (.cells #[.int .i64 n] 3)).alloc (.cells #[.int .i64 k] 3) := by
  have hmf : ∀ (fn : Fn) (first cap : Array Value) (w : World), (Instr.makeFunc fn first cap).run Try.prog w = .ok (.func fn first cap) w := fun _ _ _ _ => rfl
  go_enter Try.func25, Try.ntmps25
  go_wp2
  go_ret
  exact ⟨by first | rfl | simp, rfl⟩
end Go.Proofs.Ytempagacpfejdaa.Bi

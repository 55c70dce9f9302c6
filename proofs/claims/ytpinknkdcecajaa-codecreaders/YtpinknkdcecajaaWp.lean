/- Contracts of the calls that lay numbers and texts behind bytes, of the program and of the document's definition: each answer is a new row of memory with just these bytes, and nothing else has turned. -/
import Derived.Test.YtpinknkdcecajaaWs
namespace Go.Proofs.Ytpinknkdcecajaa.Wp
open Go.ChangeShapes Go.WideShapes Go.ChangeAt Go.RowKit
open Go.Proofs.Ytpinknkdcecajaa.Rd (Bytes ret_int addr_add)
open Go.Proofs.Ytpinknkdcecajaa.Wr
open Go.Proofs.Ytpinknkdcecajaa.Ws
set_option linter.unusedVariables false

/-- The bytes of a number, the lowest first. -/
def lb : Nat → Int → List Int
  | 0, _ => []
  | n + 1, v => v % 256 :: lb n (v / 256)
theorem lb_len (n : Nat) : ∀ v, (lb n v).length = n := by
  induction n with
  | zero => intro v; rfl
  | succ n ih => intro v; simp [lb, ih]
theorem lb_bytes (n : Nat) : ∀ v, ∀ y ∈ lb n v, 0 ≤ y ∧ y ≤ 255 := by
  induction n with
  | zero => intro v y hy; simp [lb] at hy
  | succ n ih =>
    intro v y hy
    simp only [lb, List.mem_cons] at hy
    rcases hy with rfl | h
    · omega
    · exact ih _ y h

/-- Behind an append that may have grown a row: which value it is, which row. -/
theorem shape {w : World} {base n : Nat} {v : Value} {xs : List Int} (h : w.ownsRow base 5 1 v n (xs.map (Value.int .u8))) (hn : 0 < n) : ∃ g c, v = .slice (some ⟨g, 0, none⟩) n c ∧ Row w base g n c xs := by
  rcases h.2 with ⟨_, e⟩ | ⟨g, c, _, e, _⟩
  · omega
  · subst e; exact ⟨g, c, rfl, h⟩
theorem below_own {B : Nat} {a w w' : World} {v : Value} {n : Nat} {xs : List Value} (h : Below B a w) (ho : w.ownsRow B 5 1 v n xs) (hg : w.grownBy w' v.ownBlock) (hB : B ≤ w.heap.size) : Below B a w' :=
  h.grown hg hB (fun k hk => (World.ownsRow.lt ho k hk).1)
theorem below_size {w w' : World} (h : Below w.heap.size w w') : w.heap.size ≤ w'.heap.size := h.size

set_option maxHeartbeats 1000000 in
theorem rvar_any (v : Int) (w : World) (hv : 0 ≤ v ∧ v ≤ 18446744073709551615) :
    Calls Try.prog 12 #[.int .u64 v] w fun e w' => ∃ g c : Nat, e = .returned (.slice (some ⟨g, 0, none⟩) (Vb.vb v).length c) ∧ Row w' w.heap.size g (Vb.vb v).length c (Vb.vb v) ∧ Below w.heap.size w w' := by
  obtain ⟨i0, hi, hz0, hz1, hz2⟩ := info_parts info5
  have hV10 := Vb.vb_le v
  obtain ⟨V, hV⟩ : ∃ V, V = Vb.vb v := ⟨_, rfl⟩
  rw [← hV] at hV10 ⊢
  have HV : Hid (V = Vb.vb v) := hV
  clear hV
  go_enter Try.func12, Try.ntmps12
  go_wp2
  go_loopw [3, 0] (fun b x wr => ∃ k j : Nat, ∃ u : Int, ∃ acc : List Int, x = .int .u64 u ∧ 0 ≤ u ∧ u ≤ 18446744073709551615 ∧ Hid (u < 2 * 128 ^ k) ∧ Hid (acc.length = j) ∧ Hid (acc ++ Vb.vbF k u = V) ∧ Hid (wr.ownsRow w.heap.size 5 1 b j (acc.map (Value.int .u8))) ∧ Hid (Below w.heap.size w wr)) (fun _ x _ => (intOf x).toNat)
  case atStart => exact ⟨9, 0, v, [], rfl, hv.1, hv.2, by show _ < _; rw [Vb.two9]; omega, rfl, by show _ = _; rw [HV.out]; rfl, World.ownsRow_nil _ _ _ _, Below.refl _ _⟩
  case round =>
    obtain ⟨k, j, u, acc, rfl, hu0, hu1, hk, hj, hacc, hrow, hbel⟩ := hrel
    by_cases h : 128 ≤ u
    · obtain ⟨k', hk'⟩ : ∃ k', k = k' + 1 := by
        cases k with
        | zero => have := hk.out; simp at this; omega
        | succ k => exact ⟨k, rfl⟩
      subst hk'
      have e1 : Hid (acc ++ (u % 128 + 128) :: Vb.vbF k' (u / 128) = V) := by
        have := hacc.out
        rw [Vb.vbF_step _ _ h] at this
        exact this
      have hjl : j < V.length := by have := congrArg List.length e1.out; simp at this; have := hj.out; omega
      clear hacc
      have hk2 : Hid (u / 128 < 2 * 128 ^ k') := by show _ < _; have := hk.out; rw [Int.pow_succ] at this; omega
      clear hk
      go_wp2_with (at_builtin; refine wpList_append_own _ rfl _ _ 22 rfl w.heap.size 5 i0 (.int .u8 0) 1 1 Try.underlying22 hi hz0 hz1 hz2 rfl (by decide) _ _ _ rfl (World.ownsRow.alloc hrow.out _) ⟨wr.heap.size, 0, none⟩ 1 1 [.int .u8 (u % 128 + 128)] rfl rfl ?c1 ?c2 ?c3 ?c4 ?c5 ?_)
      case c1 => exact cell_one_new _ _ _
      case c2 => intro u hu; simp at hu; subst hu; rfl
      case c3 => unfold maxLen; omega
      case c4 => omega
      case c5 => have := hbel.out.size; simp; omega
      intro v1 w1 own1 g1 _
      have R1 : Hid (w1.ownsRow w.heap.size 5 1 v1 (j + 1) ((acc ++ [u % 128 + 128]).map (Value.int .u8))) := by
        show World.ownsRow _ _ _ _ _ _ _
        simpa using own1
      have B1 : Hid (Below w.heap.size w w1) := below_own (hbel.out.alloc hbel.out.size _) (World.ownsRow.alloc hrow.out _) g1 (by have := hbel.out.size; simp; omega)
      clear own1 g1 hrow hbel
      go_wp2
      go_roundw
      case rel => exact ⟨k', j + 1, u / 128, acc ++ [u % 128 + 128], by go_num, by omega, by omega, hk2, by show _ = _; have := hj.out; simp; omega, by show _ = _; rw [← e1.out]; simp, R1, B1⟩
      case measure => simp [intOf]; omega
    · have e1 : Hid (acc ++ [u] = V) := by
        have := hacc.out
        rw [Vb.vbF_small _ _ (by omega)] at this
        exact this
      have hjv : Hid (j + 1 = V.length) := by show _ = _; have := congrArg List.length e1.out; simp at this; have := hj.out; omega
      have hjl : j < V.length := by have := hjv.out; omega
      clear hacc hk
      go_wp2_with (at_builtin; refine wpList_append_own _ rfl _ _ 22 rfl w.heap.size 5 i0 (.int .u8 0) 1 1 Try.underlying22 hi hz0 hz1 hz2 rfl (by decide) _ _ _ rfl (World.ownsRow.alloc hrow.out _) ⟨wr.heap.size, 0, none⟩ 1 1 [.int .u8 u] rfl rfl ?d1 ?d2 ?d3 ?d4 ?d5 ?_)
      case d2 => rfl
      case d3 => unfold maxLen; omega
      case d4 => omega
      case d5 => have := hbel.out.size; omega
      intro v1 w1 own1 g1 _
      have B1 : Hid (Below w.heap.size w w1) := below_own (hbel.out.alloc hbel.out.size _) (World.ownsRow.alloc hrow.out _) g1 (by have := hbel.out.size; simp; omega)
      obtain ⟨g, c, hv1, R1⟩ : ∃ g c, v1 = .slice (some ⟨g, 0, none⟩) (j + 1) c ∧ Row w1 w.heap.size g (j + 1) c (acc ++ [u]) := shape (by simpa using own1) (by omega)
      subst hv1
      rw [hjv.out, e1.out] at R1
      have HR : Hid (Row w1 w.heap.size g V.length c V) := R1
      clear own1 g1 hrow hbel R1
      go_wp2
      go_ret
      exact ⟨g, c, by rw [← hjv.out]; rfl, HR.out, B1.out⟩

/-! ### Four and eight bytes -/
theorem lb_get (n : Nat) : ∀ (k : Nat) (v : Int), k < n → (lb n v)[k]? = some (v / 256 ^ k % 256) := by
  induction n with
  | zero => intro k v h; omega
  | succ n ih =>
    intro k v h
    cases k with
    | zero => simp [lb]
    | succ k =>
      simp only [lb, List.getElem?_cons_succ]
      rw [ih k (v / 256) (by omega), Int.pow_succ, Int.mul_comm, Int.ediv_ediv_of_nonneg (by omega)]
theorem lb_take (n k : Nat) (v : Int) (h : k < n) : (lb n v).take (k + 1) = (lb n v).take k ++ [v / 256 ^ k % 256] := by
  have hl : k < (lb n v).length := by rw [lb_len]; exact h
  rw [List.take_succ_eq_append_getElem hl]
  have := lb_get n k v h
  rw [List.getElem?_eq_getElem hl] at this
  simp at this
  rw [this]
theorem lb_low (v : Int) : lb 4 (v % 4294967296) = lb 4 v := by
  simp only [lb, List.cons.injEq, and_true]
  omega

set_option maxHeartbeats 1000000 in
theorem rfix_any (v : Int) (n : Nat) (w : World) (hv : 0 ≤ v ∧ v ≤ 18446744073709551615) (hn : 1 ≤ n ∧ n ≤ 8) :
    Calls Try.prog 16 #[.int .u64 v, .int .i64 n] w fun e w' => ∃ g c : Nat, e = .returned (.slice (some ⟨g, 0, none⟩) n c) ∧ Row w' w.heap.size g n c (lb n v) ∧ Below w.heap.size w w' := by
  obtain ⟨i0, hi, hz0, hz1, hz2⟩ := info_parts info5
  go_enter Try.func16, Try.ntmps16
  go_wp2
  go_loopw [5, 6, 0] (fun b i x wr => ∃ k : Nat, ∃ u : Int, ∃ acc : List Int, k ≤ n ∧ i = .int .i64 k ∧ x = .int .u64 u ∧ 0 ≤ u ∧ u ≤ 18446744073709551615 ∧ Hid (acc.length = k) ∧ Hid (acc ++ lb (n - k) u = lb n v) ∧ Hid (wr.ownsRow w.heap.size 5 1 b k (acc.map (Value.int .u8))) ∧ Hid (Below w.heap.size w wr)) (fun _ i _ _ => n - (intOf i).toNat)
  case atStart => exact ⟨0, v, [], by omega, rfl, rfl, hv.1, hv.2, rfl, rfl, World.ownsRow_nil _ _ _ _, Below.refl _ _⟩
  case round =>
    obtain ⟨k, u, acc, hk, rfl, rfl, hu0, hu1, hj, hacc, hrow, hbel⟩ := hrel
    by_cases h : k < n
    · have e1 : Hid (acc ++ (u % 256) :: lb (n - (k + 1)) (u / 256) = lb n v) := by
        have := hacc.out
        rw [show n - k = (n - (k + 1)) + 1 by omega] at this
        exact this
      clear hacc
      go_wp2_with (at_builtin; refine wpList_append_own _ rfl _ _ 22 rfl w.heap.size 5 i0 (.int .u8 0) 1 1 Try.underlying22 hi hz0 hz1 hz2 rfl (by decide) _ _ _ rfl (World.ownsRow.alloc hrow.out _) ⟨wr.heap.size, 0, none⟩ 1 1 [.int .u8 (u % 256)] rfl rfl ?c1 ?c2 ?c3 ?c4 ?c5 ?_)
      case c1 => exact cell_one_new _ _ _
      case c2 => intro u hu; simp at hu; subst hu; rfl
      case c3 => unfold maxLen; omega
      case c4 => omega
      case c5 => have := hbel.out.size; simp; omega
      intro v1 w1 own1 g1 _
      have R1 : Hid (w1.ownsRow w.heap.size 5 1 v1 (k + 1) ((acc ++ [u % 256]).map (Value.int .u8))) := by
        show World.ownsRow _ _ _ _ _ _ _
        simpa using own1
      have B1 : Hid (Below w.heap.size w w1) := below_own (hbel.out.alloc hbel.out.size _) (World.ownsRow.alloc hrow.out _) g1 (by have := hbel.out.size; simp; omega)
      clear own1 g1 hrow hbel
      go_wp2
      go_roundw
      case rel => exact ⟨k + 1, u / 256, acc ++ [u % 256], by omega, by go_num, by go_num, by omega, by omega, by show _ = _; have := hj.out; simp; omega, by show _ = _; rw [← e1.out]; simp, R1, B1⟩
      case measure => simp [intOf]; omega
    · have hkn : k = n := by omega
      subst hkn
      obtain ⟨g, c, hv1, R1⟩ := shape hrow.out (by omega)
      have e1 : acc = lb k v := by have := hacc.out; simp [lb] at this; exact this
      rw [e1] at R1
      have HR : Hid (Row wr w.heap.size g k c (lb k v)) := R1
      rw [hv1]
      clear R1 hrow hacc hv1 e1
      go_wp2
      go_ret
      exact ⟨g, c, rfl, HR.out, hbel.out⟩

set_option maxHeartbeats 1000000 in
theorem putf_any (a : Option Addr) (len cap n : Nat) (zs : List Int) (v : Int) (w : World) (H : Bytes w a len cap zs) (hv : 0 ≤ v ∧ v ≤ 18446744073709551615) (hn : 1 ≤ n ∧ n ≤ 8) (hm : len + 8 ≤ 281474976710656) :
    Calls Try.prog 48 #[.slice a len cap, .int .u64 v, .int .i64 n] w fun e w' => e = .returned (.slice (some ⟨w.heap.size, 0, none⟩) (len + n) (len + n)) ∧ Row w' w.heap.size w.heap.size (len + n) (len + n) (zs ++ lb n v) ∧ Below w.heap.size w w' := by
  obtain ⟨i0, hi, hz0, hz1, hz2⟩ := info_parts info5
  go_enter Try.func48, Try.ntmps48
  go_wp2_with fail
  refine (room_any a len cap n zs _ H (by omega)).mono ?_
  rintro e w1 ⟨rfl, R1, b1⟩
  have HR : Hid (Row w1 w.heap.size w.heap.size len (len + n) zs) := R1
  have HB : Hid (Below w.heap.size w w1) := b1
  clear R1 b1 H
  go_wp2
  go_loopw [7, 13] (fun b i wr => ∃ k : Nat, k ≤ n ∧ i = .int .i64 k ∧ b = .slice (some ⟨w.heap.size, 0, none⟩) (len + k) (len + n) ∧ Hid (Row wr w.heap.size w.heap.size (len + k) (len + n) (zs ++ (lb n v).take k)) ∧ Hid (Below w.heap.size w wr)) (fun _ i _ => n - (intOf i).toNat)
  case atStart => exact ⟨0, by omega, rfl, rfl, by show Row _ _ _ _ _ _; simpa using HR.out, HB⟩
  case round =>
    obtain ⟨k, hk, rfl, rfl, hrow, hbel⟩ := hrel
    by_cases h : k < n
    · have e1 : Hid ((lb n v).take (k + 1) = (lb n v).take k ++ [v / 256 ^ k % 256]) := lb_take n k v h
      have e2 : Hid (v / 2 ^ (8 * k) % 256 = v / 256 ^ k % 256) := by show _ = _; rw [Fx.ipow256]
      go_wp2_with (at_builtin; refine wpList_append_fits _ rfl _ _ 22 rfl w.heap.size 5 i0 1 Try.underlying22 hi hz1 w.heap.size (len + k) (len + n) ((zs ++ (lb n v).take k).map (Value.int .u8)) rfl (World.ownsRow.alloc hrow.out _) ⟨wr.heap.size, 0, none⟩ 1 1 [.int .u8 (v / 2 ^ (8 * k) % 256)] rfl rfl ?c1 ?c2 ?c3 ?_)
      case c1 => exact cell_one_new _ _ _
      case c2 => intro u hu; simp at hu; subst hu; rfl
      case c3 => omega
      intro w2 own2 g2
      have R2 : Hid (Row w2 w.heap.size w.heap.size (len + (k + 1)) (len + n) (zs ++ (lb n v).take (k + 1))) := by
        show Row _ _ _ _ _ _
        rw [e1.out, ← e2.out]
        unfold Row
        simpa [Nat.add_assoc] using own2
      have B2 : Hid (Below w.heap.size w w2) := (hbel.out.alloc hbel.out.size _).grown g2 (by have := hbel.out.size; simp; omega) (by intro k hk; simp at hk; omega)
      clear own2 g2 hrow hbel e1 e2
      go_wp2
      go_roundw
      case rel => exact ⟨k + 1, by omega, by go_num, by rw [Nat.add_assoc], R2, B2⟩
      case measure => simp [intOf]; omega
    · have hkn : k = n := by omega
      subst hkn
      have R2 : Hid (Row wr w.heap.size w.heap.size (len + k) (len + k) (zs ++ lb k v)) := by
        show Row _ _ _ _ _ _
        have := hrow.out
        rw [List.take_of_length_le (by rw [lb_len]; omega)] at this
        exact this
      clear hrow
      go_wp2
      go_ret
      exact ⟨rfl, R2.out, hbel.out⟩

theorem putf64_any (a : Option Addr) (len cap : Nat) (zs : List Int) (v : Int) (w : World) (H : Bytes w a len cap zs) (hv : 0 ≤ v ∧ v ≤ 18446744073709551615) (hm : len + 8 ≤ 281474976710656) :
    Calls Try.prog 15 #[.slice a len cap, .int .u64 v] w fun e w' => e = .returned (.slice (some ⟨w.heap.size, 0, none⟩) (len + 8) (len + 8)) ∧ Row w' w.heap.size w.heap.size (len + 8) (len + 8) (zs ++ lb 8 v) ∧ Below w.heap.size w w' := by
  go_enter Try.func15, Try.ntmps15
  go_wp2_with fail
  refine (putf_any a len cap 8 zs v _ H hv (by omega) hm).mono ?_
  rintro e w' ⟨rfl, R, b⟩
  go_wp2_with fail
  go_ret
  exact ⟨rfl, R, b⟩
theorem putf32_any (a : Option Addr) (len cap : Nat) (zs : List Int) (v : Int) (w : World) (H : Bytes w a len cap zs) (hv : 0 ≤ v ∧ v ≤ 4294967295) (hm : len + 8 ≤ 281474976710656) :
    Calls Try.prog 17 #[.slice a len cap, .int .u32 v] w fun e w' => e = .returned (.slice (some ⟨w.heap.size, 0, none⟩) (len + 4) (len + 4)) ∧ Row w' w.heap.size w.heap.size (len + 4) (len + 4) (zs ++ lb 4 v) ∧ Below w.heap.size w w' := by
  obtain ⟨hv0, hv1⟩ := hv
  go_enter Try.func17, Try.ntmps17
  go_wp2_with fail
  refine (putf_any a len cap 4 zs v _ H (by omega) (by omega) hm).mono ?_
  rintro e w' ⟨rfl, R, b⟩
  go_wp2_with fail
  go_ret
  exact ⟨rfl, R, b⟩

/-! ### Texts -/
theorem wpList_append_run {P : Program} {w w' : World} {ops : Array Oper} {rest : List Oper} {o : Oper} {a : Act} {Q : Exit → Act → World → Prop}
    (hg : o.guard = none) (s x : Operand) (t tx : TypeId) (hop : o.op = Op.call { callee := Callee.builtin Builtin.append, args := #[s, x], argTypes := #[t, tx] })
    (u v v' : Value) (hs : a.eval s = u) (hx : a.eval x = v) (hrun : (Builtin.append_ #[t, tx] o.type #[u, v]).run P w = .ok v' w')
    (hK : wpList P ops Q rest (a.put o.dst v') w') : wpList P ops Q (o :: rest) a w := by
  refine wpList_plain hg fun K hK' => ?_
  unfold Oper.wp
  simp [execOp, hop, resolve, invoke, builtin, hs, hx, hrun, Result.andThen]
  exact hK' _ _ hK
set_option maxHeartbeats 1000000 in
theorem putt_any (a : Option Addr) (len cap : Nat) (zs : List Int) (s : ByteArray) (w : World) (H : Bytes w a len cap zs) (hs : s.size ≤ 140737488351232) (hm : len ≤ 140737488351232) :
    Calls Try.prog 18 #[.slice a len cap, .string s] w fun e w' => ∃ c : Nat, e = .returned (.slice (some ⟨w.heap.size, 0, none⟩) (len + (Vb.vb s.size).length + s.size) c) ∧ Row w' w.heap.size w.heap.size (len + (Vb.vb s.size).length + s.size) c (zs ++ Vb.vb s.size ++ tx s) ∧ Below w.heap.size w w' := by
  have hl := Vb.vb_le s.size
  go_enter Try.func18, Try.ntmps18
  go_wp2_with fail
  refine (Rd.size_any s.size _ (by omega)).mono ?_
  rintro e w' ⟨rfl, rfl⟩
  go_wp2_with fail
  have e0 : ((Vb.vb s.size).length : Int) + (s.size : Int) = (((Vb.vb s.size).length + s.size : Nat) : Int) := by omega
  rw [e0]
  refine (room_any a len cap ((Vb.vb s.size).length + s.size) zs _ H (by omega)).mono ?_
  rintro e w1 ⟨rfl, R1, b1⟩
  rw [← e0]
  clear e0
  go_wp2_with fail
  refine (appv_any _ _ _ _ zs s.size _ R1 (by omega) (by omega)).mono ?_
  rintro e w2 ⟨rfl, R2, g2⟩
  obtain ⟨w3, hrun, R3, g3⟩ := app_fits R2 s (by omega)
  have B3 : Below w'.heap.size w' w3 := (b1.grown g2 b1.size (by intro k hk; simp at hk; omega)).grown g3 (by have := b1.size; have := g2.size; omega) (by intro k hk; simp at hk; omega)
  have HRun : Hid ((Builtin.append_ #[22, 9] 22 #[.slice (some ⟨w'.heap.size, 0, none⟩) (len + (Vb.vb s.size).length) (len + ((Vb.vb s.size).length + s.size)), .string s]).run Try.prog w2 = .ok (.slice (some ⟨w'.heap.size, 0, none⟩) (len + (Vb.vb s.size).length + s.size) (len + ((Vb.vb s.size).length + s.size))) w3) := hrun
  clear R1 b1 R2 g2 hrun g3
  go_wp2_with (at_builtin; refine wpList_append_run rfl _ _ 22 9 rfl _ _ _ rfl rfl HRun.out ?_)
  go_ret
  exact ⟨_, rfl, R3, B3⟩

set_option maxHeartbeats 1000000 in
theorem rtxt_any (s : ByteArray) (w : World) (hs : s.size ≤ 140737488351232) :
    Calls Try.prog 19 #[.string s] w fun e w' => ∃ g c : Nat, e = .returned (.slice (some ⟨g, 0, none⟩) ((Vb.vb s.size).length + s.size) c) ∧ Row w' w.heap.size g ((Vb.vb s.size).length + s.size) c (Vb.vb s.size ++ tx s) ∧ Below w.heap.size w w' := by
  have hl := Vb.vb_le s.size
  go_enter Try.func19, Try.ntmps19
  go_wp2_with fail
  refine (rvar_any s.size _ (by omega)).mono ?_
  rintro e w1 ⟨g, c, rfl, R1, b1⟩
  by_cases h : (Vb.vb s.size).length + s.size ≤ c
  · obtain ⟨w3, hrun, R3, g3⟩ := app_fits R1 s h
    have B3 : Below w.heap.size w w3 := b1.grown g3 b1.size (by intro k hk; simp at hk; have := R1.lt; omega)
    have HRun : Hid ((Builtin.append_ #[22, 9] 22 #[.slice (some ⟨g, 0, none⟩) (Vb.vb s.size).length c, .string s]).run Try.prog w1 = .ok (.slice (some ⟨g, 0, none⟩) ((Vb.vb s.size).length + s.size) c) w3) := hrun
    clear R1 b1 hrun g3
    go_wp2_with (at_builtin; refine wpList_append_run rfl _ _ 22 9 rfl _ _ _ rfl rfl HRun.out ?_)
    go_ret
    exact ⟨_, _, rfl, R3, B3⟩
  · obtain ⟨c', w3, hrun, R3, g3⟩ := app_grows R1 s h (by omega) b1.size
    have B3 : Below w.heap.size w w3 := b1.grown g3 b1.size (by simp)
    have HRun : Hid ((Builtin.append_ #[22, 9] 22 #[.slice (some ⟨g, 0, none⟩) (Vb.vb s.size).length c, .string s]).run Try.prog w1 = .ok (.slice (some ⟨w1.heap.size, 0, none⟩) ((Vb.vb s.size).length + s.size) c') w3) := hrun
    clear R1 b1 hrun g3
    go_wp2_with (at_builtin; refine wpList_append_run rfl _ _ 22 9 rfl _ _ _ rfl rfl HRun.out ?_)
    go_ret
    exact ⟨_, _, rfl, R3, B3⟩
end Go.Proofs.Ytpinknkdcecajaa.Wp

/- What the law asks of both lists. -/
import Derived.Test.YthnmoidfdojoiaaAt
import Derived.Deep.RegionHeld
import Derived.Test.YthnmoidfdojoiaaLsS
namespace Go.Proofs.Ythnmoidfdojoiaa.Au
open Go.ChangeShapes Go.WideShapes Go.ChangeAt Go.RowKit
open Go.Sort (grow)
open Go.Proofs.Ythnmoidfdojoiaa.Ik
open Go.Proofs.Ythnmoidfdojoiaa.Sg
open Go.Proofs.Ythnmoidfdojoiaa.Cm (ik)
open Go.Proofs.Ythnmoidfdojoiaa.Vl
open Go.Proofs.Ythnmoidfdojoiaa.Mm
open Go.Proofs.Ythnmoidfdojoiaa.Tr
open Go.Proofs.Ythnmoidfdojoiaa.Li
open Go.Proofs.Ythnmoidfdojoiaa.In (thr first_mem)
open Go.Proofs.Ythnmoidfdojoiaa.Oi
open Go.Proofs.Ythnmoidfdojoiaa.Tl (trl)
open Go.Proofs.Ythnmoidfdojoiaa.Fi (among_any)
open Go.Proofs.Ythnmoidfdojoiaa.Rc
open Go.Proofs.Ythnmoidfdojoiaa.Rl
open Go.Proofs.Ythnmoidfdojoiaa.Rn
open Go.Proofs.Ythnmoidfdojoiaa.Rk
open Go.Proofs.Ythnmoidfdojoiaa.Rt
open Go.Proofs.Ythnmoidfdojoiaa.As
open Go.Proofs.Ythnmoidfdojoiaa.InS (SL)
set_option linter.unusedVariables false
set_option linter.unusedSimpArgs false
set_option maxHeartbeats 4000000 in
set_option maxRecDepth 100000 in
theorem asked_1 (base bs g b most : Nat) (an ao : Option Addr) (cn co : Nat) (ns : List N) (ord : List Nat) (kd ht n : Int) (k : ByteArray) (s c : Int) (v : ByteArray) (w : World) (S : SL w bs g b most ns ord) (H : RL w base an ao cn co ns ord) (hl : ns.length ≤ 1048576) (hst : Strs ns) (hkd : kd % 8 = 1) :
    Calls Try.prog 13 #[.pointer (some ⟨g, 0, none⟩), .agg #[.int .i64 (most : Int), .slice an ns.length cn, .slice ao ord.length co], .agg #[.int .i64 kd, .int .i64 ht, .int .i64 n, .string k, .int .u64 s, .int .i64 c, .string v]] w fun e w' => e = .returned (.bool true) ∧ Below w.heap.size w w' := by
  obtain ⟨gk, hgk⟩ : ∃ gk, gk = w.heap.size := ⟨_, rfl⟩
  obtain ⟨wa, hwa⟩ : ∃ wa, wa = w.alloc (.cells #[.int .i64 (most : Int), .slice an ns.length cn, .slice ao ord.length co] 30) := ⟨_, rfl⟩
  obtain ⟨wr, hwr⟩ : ∃ wr, wr = wa.alloc (.cells #[.int .i64 kd, .int .i64 ht, .int .i64 n, .string k, .int .u64 s, .int .i64 c, .string v] 38) := ⟨_, rfl⟩
  have b1 : Below w.heap.size w wa := by rw [hwa]; exact box_below _ _
  have b2 : Below wa.heap.size wa wr := by rw [hwr]; exact box_below _ _
  have s1 : wa.heap.size = gk + 1 := by rw [hwa, size_alloc, hgk]
  have B0 : Below w.heap.size w wr := b1.trans (b2.mono b1.size)
  have R0 : RB wr gk most an ao cn co ns.length ord.length := (b2.block _ (by omega)).trans (by rw [hwa, hgk]; exact new_at _ _)
  have A0 : wr.heap[gk + 1]? = some (.cells #[.int .i64 kd, .int .i64 ht, .int .i64 n, .string k, .int .u64 s, .int .i64 c, .string v] 38) := by rw [← s1, hwr]; exact new_at _ _
  rw [hwa] at hwr
  clear b1 b2 s1 hwa
  have S0 := S.later B0
  have H0 := H.later B0
  have hol := H.G.len
  have G := H.G
  have HAm : Hid (∀ W, Calls Try.prog 12 #[.int .i64 kd, .int .i64 8] W fun e w' => e = .returned (.int .i64 1) ∧ w' = W) := fun W => by
    have := among_any kd 8 W (by omega)
    rwa [show kd % ((8 : Nat) : Int) = 1 from hkd] at this
  have a0 := cell_of A0 0 (.int .i64 kd) rfl
  have a2 := cell_of A0 2 (.int .i64 n) rfl
  have a3 := cell_of A0 3 (.string k) rfl
  have a4 := cell_of A0 4 (.int .u64 s) rfl
  have a5 := cell_of A0 5 (.int .i64 c) rfl
  have key : ∃ (x : ByteArray) (o : Bool), (∀ W, SL W bs g b most ns ord → Calls Try.prog 38 #[.pointer (some ⟨g, 0, none⟩), .agg #[.string k, .int .u64 s, .int .i64 c]] W fun e w' => e = .returned (.tuple #[.string x, .bool o]) ∧ Below W.heap.size W w') ∧ (∀ W, RL W base an ao cn co ns ord → Calls Try.prog 39 #[.agg #[.int .i64 (most : Int), .slice an ns.length cn, .slice ao ord.length co], .agg #[.string k, .int .u64 s, .int .i64 c]] W fun e w' => e = .returned (.tuple #[.string x, .bool o]) ∧ Below W.heap.size W w') := by
    cases hth : thr ns ord (ik k s c) with
    | false => exact ⟨⟨#[]⟩, false, fun W hW => LsS.get_no bs g b most ns ord k s c W hW hth, fun W hW => rget_no base most an ao cn co ns ord k s c W hW hl hth⟩
    | true =>
      have h1 := (of_decide_eq_true hth).1
      have hmem := (first_mem G _ h1).1
      obtain ⟨x, hx⟩ := hst _ (G.nd_mem hmem)
      refine ⟨x, true, fun W hW => LsS.get_yes bs g b most ns ord k s c x W hW hth hx, fun W hW => ?_⟩
      have := rget_yes base most an ao cn co ns ord k s c W hW hl hth
      rwa [hx] at this
  obtain ⟨x, o, K1, K2⟩ := key
  replace K1 := hid K1
  replace K2 := hid K2
  replace hwr := hid hwr
  replace hgk := hid hgk
  replace B0 := hid B0
  replace S0 := hid S0
  replace H0 := hid H0
  replace R0 := hid R0
  replace A0 := hid A0
  replace hol := hid hol
  replace G := hid G
  replace hst := hid hst
  clear S H hkd
  go_enter Try.func13, Try.ntmps13
  go_wp2_with fail
  rw [← hwr.out, ← hgk.out]
  go_wp2_with fail
  refine (HAm.out _).mono ?_
  rintro e w' ⟨rfl, rfl⟩
  clear HAm
  go_wp2_with fail
  refine (K1.out _ S0.out).mono ?_
  rintro e w2 ⟨rfl, b1⟩
  have B1 := hid (B0.out.trans (b1.mono B0.out.size))
  have R1 := R0.out.later b1
  have A1 := (b1.block _ (blk_lt A0.out)).trans A0.out
  have H1 := hid (H0.out.later b1)
  clear a0 a2 a3 a4 a5
  have a0 := cell_of A1 0 (.int .i64 kd) rfl
  have a2 := cell_of A1 2 (.int .i64 n) rfl
  have a3 := cell_of A1 3 (.string k) rfl
  have a4 := cell_of A1 4 (.int .u64 s) rfl
  have a5 := cell_of A1 5 (.int .i64 c) rfl
  have r0 := R1.c0
  have r1 := R1.c1
  have r2 := R1.c2
  replace R1 := hid R1
  replace A1 := hid A1
  go_wp2_with fail
  refine (K2.out _ H1.out).mono ?_
  rintro e w3 ⟨rfl, b2⟩
  have BF := hid (B1.out.trans (b2.mono B1.out.size))
  clear b2 a0 a2 a3 a4 a5 r0 r1 r2
  go_wp2_with fail
  go_ret
  exact ⟨by cases o <;> simp, BF.out⟩
set_option maxHeartbeats 4000000 in
set_option maxRecDepth 100000 in
theorem asked_4 (base bs g b most : Nat) (an ao : Option Addr) (cn co : Nat) (ns : List N) (ord : List Nat) (kd ht n : Int) (k : ByteArray) (s c : Int) (v : ByteArray) (w : World) (S : SL w bs g b most ns ord) (H : RL w base an ao cn co ns ord) (hl : ns.length ≤ 1048576) (hst : Strs ns) (hkd : kd % 8 = 4) :
    Calls Try.prog 13 #[.pointer (some ⟨g, 0, none⟩), .agg #[.int .i64 (most : Int), .slice an ns.length cn, .slice ao ord.length co], .agg #[.int .i64 kd, .int .i64 ht, .int .i64 n, .string k, .int .u64 s, .int .i64 c, .string v]] w fun e w' => e = .returned (.bool true) ∧ Below w.heap.size w w' := by
  obtain ⟨gk, hgk⟩ : ∃ gk, gk = w.heap.size := ⟨_, rfl⟩
  obtain ⟨wa, hwa⟩ : ∃ wa, wa = w.alloc (.cells #[.int .i64 (most : Int), .slice an ns.length cn, .slice ao ord.length co] 30) := ⟨_, rfl⟩
  obtain ⟨wr, hwr⟩ : ∃ wr, wr = wa.alloc (.cells #[.int .i64 kd, .int .i64 ht, .int .i64 n, .string k, .int .u64 s, .int .i64 c, .string v] 38) := ⟨_, rfl⟩
  have b1 : Below w.heap.size w wa := by rw [hwa]; exact box_below _ _
  have b2 : Below wa.heap.size wa wr := by rw [hwr]; exact box_below _ _
  have s1 : wa.heap.size = gk + 1 := by rw [hwa, size_alloc, hgk]
  have B0 : Below w.heap.size w wr := b1.trans (b2.mono b1.size)
  have R0 : RB wr gk most an ao cn co ns.length ord.length := (b2.block _ (by omega)).trans (by rw [hwa, hgk]; exact new_at _ _)
  have A0 : wr.heap[gk + 1]? = some (.cells #[.int .i64 kd, .int .i64 ht, .int .i64 n, .string k, .int .u64 s, .int .i64 c, .string v] 38) := by rw [← s1, hwr]; exact new_at _ _
  rw [hwa] at hwr
  clear b1 b2 s1 hwa
  have S0 := S.later B0
  have H0 := H.later B0
  have hol := H.G.len
  have G := H.G
  have HAm : Hid (∀ W, Calls Try.prog 12 #[.int .i64 kd, .int .i64 8] W fun e w' => e = .returned (.int .i64 4) ∧ w' = W) := fun W => by
    have := among_any kd 8 W (by omega)
    rwa [show kd % ((8 : Nat) : Int) = 4 from hkd] at this
  have a0 := cell_of A0 0 (.int .i64 kd) rfl
  have a2 := cell_of A0 2 (.int .i64 n) rfl
  have a3 := cell_of A0 3 (.string k) rfl
  have a4 := cell_of A0 4 (.int .u64 s) rfl
  have a5 := cell_of A0 5 (.int .i64 c) rfl
  have key : ∃ (jk : ByteArray) (js jc : Int) (x : ByteArray) (o : Bool), (∀ W, SL W bs g b most ns ord → Calls Try.prog 48 #[.pointer (some ⟨g, 0, none⟩), .int .i64 n] W fun e w' => e = .returned (.tuple #[.agg #[.string jk, .int .u64 js, .int .i64 jc], .string x, .bool o]) ∧ Below W.heap.size W w') ∧ (∀ W, RL W base an ao cn co ns ord → Calls Try.prog 49 #[.agg #[.int .i64 (most : Int), .slice an ns.length cn, .slice ao ord.length co], .int .i64 n] W fun e w' => e = .returned (.tuple #[.agg #[.string jk, .int .u64 js, .int .i64 jc], .string x, .bool o]) ∧ Below W.heap.size W w') := by
    by_cases hn : n < 1 ∨ (ns.length : Int) < n
    · exact ⟨⟨#[]⟩, 0, 0, ⟨#[]⟩, false, fun W hW => LsS.node_out bs g b most ns ord n W hW hn, fun W hW => rnode_out base most an ao cn co ns ord n W hW hl hn⟩
    · obtain ⟨m, rfl⟩ : ∃ m : Nat, n = m := ⟨n.toNat, by omega⟩
      have hm : 1 ≤ m ∧ m ≤ ns.length := by omega
      obtain ⟨x, hx⟩ := hst _ (G.nd_mem ((G.mem m).2 hm))
      exact ⟨_, _, _, x, true, fun W hW => GsS.node_any bs g b most ns ord m x W hW hm hx, fun W hW => rnode_in base most an ao cn co ns ord m x W hW hl hm hx⟩
  obtain ⟨jk, js, jc, x, o, K1, K2⟩ := key
  replace K1 := hid K1
  replace K2 := hid K2
  replace hwr := hid hwr
  replace hgk := hid hgk
  replace B0 := hid B0
  replace S0 := hid S0
  replace H0 := hid H0
  replace R0 := hid R0
  replace A0 := hid A0
  replace hol := hid hol
  replace G := hid G
  replace hst := hid hst
  clear S H hkd
  go_enter Try.func13, Try.ntmps13
  go_wp2_with fail
  rw [← hwr.out, ← hgk.out]
  go_wp2_with fail
  refine (HAm.out _).mono ?_
  rintro e w' ⟨rfl, rfl⟩
  clear HAm
  go_wp2_with fail
  refine (K1.out _ S0.out).mono ?_
  rintro e w2 ⟨rfl, b0⟩
  obtain ⟨w3, hw3⟩ : ∃ w3, w3 = w2.alloc (.cells #[.string jk, .int .u64 js, .int .i64 jc] 36) := ⟨_, rfl⟩
  have b1 : Below w'.heap.size w' w3 := b0.trans ((by rw [hw3]; exact box_below _ _ : Below w2.heap.size w2 w3).mono b0.size)
  have J3 : Bx w3 w2.heap.size jk js jc := by rw [hw3]; exact new_at _ _
  have B1 := hid (B0.out.trans (b1.mono B0.out.size))
  have R1 := R0.out.later b1
  have A1 := (b1.block _ (blk_lt A0.out)).trans A0.out
  have H1 := hid (H0.out.later b1)
  clear a0 a2 a3 a4 a5
  have a2 := cell_of A1 2 (.int .i64 n) rfl
  have r0 := R1.c0
  have r1 := R1.c1
  have r2 := R1.c2
  obtain ⟨gj, hgj⟩ : ∃ gj, gj = w2.heap.size := ⟨_, rfl⟩
  rw [← hgj] at J3
  rw [hw3] at a2 r0 r1 r2
  replace R1 := hid R1
  replace A1 := hid A1
  replace J3 := hid J3
  replace hw3 := hid hw3
  replace hgj := hid hgj
  clear b0 b1
  go_wp2_with fail
  rw [← hw3.out, ← hgj.out]
  refine (K2.out _ H1.out).mono ?_
  rintro e w4 ⟨rfl, b4⟩
  clear a2 r0 r1 r2 hw3 hgj
  obtain ⟨w5, hw5⟩ : ∃ w5, w5 = w4.alloc (.cells #[.string jk, .int .u64 js, .int .i64 jc] 36) := ⟨_, rfl⟩
  have b5 : Below w3.heap.size w3 w5 := b4.trans ((by rw [hw5]; exact box_below _ _ : Below w4.heap.size w4 w5).mono b4.size)
  have J5 := J3.out.later b5
  have N5 : Bx w5 w4.heap.size jk js jc := by rw [hw5]; exact new_at _ _
  have BF := hid (B1.out.trans (b5.mono B1.out.size))
  have m0 := J5.c0
  have m1 := J5.c1
  have m2 := J5.c2
  rw [hw5] at m0 m1 m2
  replace J5 := hid J5
  replace N5 := hid N5
  replace hw5 := hid hw5
  clear b4 b5
  go_wp2_with fail
  go_ret
  rw [← hw5.out]
  exact ⟨rfl, BF.out⟩
theorem asked_any (base bs g b most : Nat) (an ao : Option Addr) (cn co : Nat) (ns : List N) (ord : List Nat) (kd ht n : Int) (k : ByteArray) (s c : Int) (v : ByteArray) (w : World) (S : SL w bs g b most ns ord) (H : RL w base an ao cn co ns ord) (hl : ns.length ≤ 1048576) (hst : Strs ns) (hkd : kd % 8 ≠ 0) :
    Calls Try.prog 13 #[.pointer (some ⟨g, 0, none⟩), .agg #[.int .i64 (most : Int), .slice an ns.length cn, .slice ao ord.length co], .agg #[.int .i64 kd, .int .i64 ht, .int .i64 n, .string k, .int .u64 s, .int .i64 c, .string v]] w fun e w' => e = .returned (.bool true) ∧ Below w.heap.size w w' := by
  have : kd % 8 = 1 ∨ kd % 8 = 2 ∨ kd % 8 = 3 ∨ kd % 8 = 4 ∨ kd % 8 = 5 ∨ kd % 8 = 6 ∨ kd % 8 = 7 := by omega
  rcases this with h | h | h | h | h | h | h
  · exact asked_1 base bs g b most an ao cn co ns ord kd ht n k s c v w S H hl hst h
  · exact As.asked_2 base bs g b most an ao cn co ns ord kd ht n k s c v w S H hl hst h
  · exact As.asked_3 base bs g b most an ao cn co ns ord kd ht n k s c v w S H hl hst h
  · exact asked_4 base bs g b most an ao cn co ns ord kd ht n k s c v w S H hl hst h
  · exact At.asked_5 base bs g b most an ao cn co ns ord kd ht n k s c v w S H hl hst h
  · exact At.asked_6 base bs g b most an ao cn co ns ord kd ht n k s c v w S H hl hst h
  · exact As.asked_7 base bs g b most an ao cn co ns ord kd ht n k s c v w S H hl hst h
end Go.Proofs.Ythnmoidfdojoiaa.Au

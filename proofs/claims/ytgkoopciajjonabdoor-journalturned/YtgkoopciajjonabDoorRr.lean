/- The iterator of a reading: its contract. -/
import Derived.Test.YtgkoopciajjonabDoorPt
import Derived.Test.YtgkoopciajjonabDoorRc
import Derived.RangeFuncNested
import Derived.RangeFuncBound
import Derived.RangeFuncCalls
import Derived.RangeFuncLeaves
import Derived.Shelf.Abstract
import Derived.Shelf.RegionOpen
import Derived.OwnWalkIn
import Derived.TacticsInMore
import Derived.LoopNIn
import Derived.LoopIn
import Derived.WalkMore
import Derived.ControlIn
namespace Go.Proofs.YtgkoopciajjonabDoor.Rr
open Go.ChangeShapes Go.WideShapes Go.ChangeAt Go.RowKit Go.Shelf
open Go.Proofs.YtgkoopciajjonabDoor.Crc
open Go.Proofs.YtgkoopciajjonabDoor.Jm
open Go.Proofs.YtgkoopciajjonabDoor.Jn
open Go.Proofs.YtgkoopciajjonabDoor.Ck
open Go.Proofs.YtgkoopciajjonabDoor.Wt
open Go.Proofs.YtgkoopciajjonabDoor.Wa (grown_of)
open Go.Proofs.YtgkoopciajjonabDoor.Pt
open Go.Proofs.YtgkoopciajjonabDoor.Rc
set_option linter.unusedVariables false
set_option linter.unusedSimpArgs false
attribute [local go_sem] Oper.semAt_some

/-- A reading in memory. -/
def Rg (w : World) (g b : Nat) (a : Option Addr) (len cap how : Nat) : Prop := w.heap[g]? = some (.cells #[.int .i64 (b : Int), .slice a len cap, .int .i64 (how : Int)] 41)
theorem Rg.lt {w : World} {g b : Nat} {a : Option Addr} {len cap how : Nat} (h : Rg w g b a len cap how) : g < w.heap.size := (Array.getElem?_eq_some_iff.1 h).1
theorem Rg.c0 {w : World} {g b : Nat} {a : Option Addr} {len cap how : Nat} (h : Rg w g b a len cap how) : w.cell? ⟨g, 0, none⟩ = some (.int .i64 (b : Int)) := by
  unfold World.cell?; rw [show w.heap[g]? = _ from h]; rfl
theorem Rg.c1 {w : World} {g b : Nat} {a : Option Addr} {len cap how : Nat} (h : Rg w g b a len cap how) : w.cell? ⟨g, 1, none⟩ = some (.slice a len cap) := by
  unfold World.cell?; rw [show w.heap[g]? = _ from h]; rfl
theorem Rg.c2 {w : World} {g b : Nat} {a : Option Addr} {len cap how : Nat} (h : Rg w g b a len cap how) : w.cell? ⟨g, 2, none⟩ = some (.int .i64 (how : Int)) := by
  unfold World.cell?; rw [show w.heap[g]? = _ from h]; rfl
theorem Rg.fz {w : World} {g b : Nat} {a : Option Addr} {len cap how : Nat} (h : Rg w g b a len cap how) (o : Nat) : w.frozen? ⟨g, o, none⟩ = false := by
  simp [World.frozen?, show w.heap[g]? = _ from h]
theorem Rg.later {w w' : World} {g b : Nat} {a : Option Addr} {len cap how : Nat} (h : Rg w g b a len cap how) (k : Below w.heap.size w w') : Rg w' g b a len cap how := (k.block g h.lt).trans h
theorem Rg.set {w : World} {g b : Nat} {a : Option Addr} {len cap how : Nat} (h : Rg w g b a len cap how) (x : Nat) : Rg (w.setCell ⟨g, 2, none⟩ (.int .i64 (x : Int))) g b a len cap x := by
  unfold Rg at h ⊢
  simp [World.setCell, Array.getElem?_modify, h]
/-- What a round keeps. -/
def Kp (n0 g : Nat) (W W' : World) : Prop := Below n0 W W' ∧ W'.heap[g]? = W.heap[g]?
def pr (x : Nat × Sl) : Nat × List Int := (x.1, x.2.zs)
def encs (x : Nat × Sl) : Array Value := #[.int .i64 (x.1 : Int), x.2.v]
theorem rd_stop {b : Nat} {f : List Int} {p : Nat} {r : List Int} {bg : Bool} {rest : List (Nat × List Int)} {how h : Nat} (H : Rd b f p r bg rest how) (hs : stp b f p r bg = .stop h) : rest = [] ∧ how = h := by
  cases H with
  | stop h1 => rw [h1] at hs; exact ⟨rfl, by cases hs; rfl⟩
  | go h1 _ => rw [h1] at hs; cases hs
  | give h1 _ => rw [h1] at hs; cases hs
theorem rd_go {b : Nat} {f : List Int} {p : Nat} {r : List Int} {bg : Bool} {rest : List (Nat × List Int)} {how a2 : Nat} {r2 : List Int} {b2 : Bool} (H : Rd b f p r bg rest how) (hs : stp b f p r bg = .go a2 r2 b2) : Rd b f a2 r2 b2 rest how := by
  cases H with
  | stop h1 => rw [h1] at hs; cases hs
  | go h1 h2 => rw [h1] at hs; cases hs; exact h2
  | give h1 _ => rw [h1] at hs; cases hs
theorem rd_give {b : Nat} {f : List Int} {p : Nat} {r : List Int} {bg : Bool} {rest : List (Nat × List Int)} {how a2 : Nat} {r2 : List Int} (H : Rd b f p r bg rest how) (hs : stp b f p r bg = .give a2 r2) : ∃ rest', rest = (a2, r2) :: rest' ∧ Rd b f a2 [] false rest' how := by
  cases H with
  | stop h1 => rw [h1] at hs; cases hs
  | go h1 h2 => rw [h1] at hs; cases hs
  | give h1 h2 => rw [h1] at hs; cases hs; exact ⟨_, rfl, h2⟩
theorem at_all (x : Addr) (len cap : Nat) (zs : List Int) (lf : Nat) (w : World) (T : Hid (Tab w)) (H : Bytes w (some x) len cap zs) (hlf : lf ≤ 32768) (hl7 : 7 ≤ lf) (hcap : cap ≤ 9223372036854775807) :
    Calls Tryd.prog 17 #[.slice (some x) len cap, .int .i64 lf] w fun e w' => (match pa zs lf with | .bad how => e = .returned (nv how) ∧ 1 ≤ how ∧ how ≤ 2 | .ok k d => ∃ a' c', e = .returned (.tuple #[.agg #[.int .u8 k, .slice a' d.length c'], .int .i64 0]) ∧ (∀ w2, Bytes w2 (some x) len cap zs → Bytes w2 a' d.length c' d) ∧ 1 ≤ k ∧ k ≤ 4) ∧ Below w.heap.size w w' := by
  by_cases h7 : len < 7
  · have : pa zs lf = .bad 1 := by unfold pa; rw [if_pos (by rw [H.1]; exact h7)]
    rw [this]
    refine (at_short (some x) len cap lf w h7).mono ?_
    rintro e w' ⟨rfl, b⟩
    exact ⟨⟨rfl, by omega, by omega⟩, b⟩
  · refine (at_any x len cap zs lf w T H (by omega) hlf hl7 hcap).mono ?_
    rintro e w' ⟨h, b⟩
    refine ⟨?_, b⟩
    cases hp : pa zs lf with
    | ok k d => rw [hp] at h; exact h
    | bad how =>
      rw [hp] at h
      refine ⟨h, ?_⟩
      unfold pa at hp
      split at hp
      · cases hp; omega
      · split at hp
        · cases hp; omega
        · split at hp
          · cases hp; omega
          · split at hp
            · cases hp; omega
            · cases hp
/-- Two cells of a block of the call's own are written, then how a reading ended. -/
theorem cell_of {w : World} {g : Nat} {c : Array Value} {t : TypeId} (h : w.heap[g]? = some (.cells c t)) (i : Nat) (v : Value) (hi : c[i]? = some v) : w.cell? ⟨g, i, none⟩ = some v := by
  unfold World.cell?; rw [h]; exact hi
theorem fz_of {w : World} {g : Nat} {c : Array Value} {t : TypeId} (h : w.heap[g]? = some (.cells c t)) (i : Nat) : w.frozen? ⟨g, i, none⟩ = false := by
  simp [World.frozen?, h]
theorem set_of {w : World} {g : Nat} {c : Array Value} {t : TypeId} (h : w.heap[g]? = some (.cells c t)) (i : Nat) (v : Value) : (w.setCell ⟨g, i, none⟩ v).heap[g]? = some (.cells (c.setIfInBounds i v) t) := by
  simp [World.setCell, Array.getElem?_modify, h]
theorem set_ne (w : World) (g k i : Nat) (v : Value) (h : k ≠ g) : (w.setCell ⟨g, i, none⟩ v).heap[k]? = w.heap[k]? := Below.heap_setCell w _ _ k (by simpa using h)
theorem wpListIn_append_run {F : Fence} {n : Nat} {P : Program} {w w' : World} {ops : Array Oper} {rest : List Oper} {o : Oper} {a : Act} {Q : Exit → Act → World → Prop} (hg : o.guard = none) (s x : Operand) (t tx : TypeId) (hop : o.op = Op.call { callee := Callee.builtin Builtin.append, args := #[s, x], argTypes := #[t, tx] })
    (u v v' : Value) (hs : a.eval s = u) (hx : a.eval x = v) (hrun : (Builtin.append_ #[t, tx] o.type #[u, v]).run P w = .ok v' w') (hK : wpListIn F n P ops Q rest (a.put o.dst v') w') : wpListIn F n P ops Q (o :: rest) a w := by
  refine wpListIn_plain hg fun K hK' => ?_
  unfold Oper.wpIn
  refine ⟨?_, ?_⟩
  · simp [Oper.about, hop, resolve, Target.leads, Sem.run_pure]
  · rw [Oper.semAt_plain F _ _ (by rw [hop]; intro c hc'; cases hc')]
    simp [execOp, hop, resolve, invoke, builtin, hs, hx, hrun, Result.andThen]
    exact hK' _ _ hK
theorem grown_over {W0 w w' : World} {g : Nat} {row : Option Nat} (h : W0.grownBy w (some g)) (k : w.grownBy w' row) (hr : ∀ j, row = some j → W0.heap.size ≤ j) : W0.grownBy w' (some g) :=
  ⟨k.os.trans h.os, k.tape.trans h.tape, k.output.trans h.output, Nat.le_trans h.size k.size, fun j hj hne => (k.block j (Nat.lt_of_lt_of_le hj h.size) (fun e => by have := hr j e.symm; omega)).trans (h.block j hj hne)⟩
theorem pa_len {t : List Int} {lf : Nat} {k : Int} {d : List Int} (h : pa t lf = .ok k d) : d.length + 7 ≤ t.length := by
  unfold pa at h
  split at h
  · cases h
  · split at h
    · cases h
    · split at h
      · cases h
      · split at h
        · cases h
        · cases h
          rw [List.length_take, List.length_drop]; omega
theorem first_not (th : List Int) (h : ¬ ∀ y ∈ th, y = 0) : ∃ j, j < th.length ∧ th.getD j 0 ≠ 0 ∧ ∀ i, i < j → th.getD i 0 = 0 := by
  induction th with
  | nil => exact absurd (by simp) h
  | cons y t ih =>
    by_cases hy : y = 0
    · obtain ⟨j, h1, h2, h3⟩ := ih (fun h' => h (by intro z hz; rcases List.mem_cons.1 hz with rfl | hz; exact hy; exact h' z hz))
      refine ⟨j + 1, by simp; omega, by simpa using h2, ?_⟩
      intro i hi
      cases i with
      | zero => simpa using hy
      | succ i => simpa using h3 i (by omega)
    · exact ⟨0, by simp, by simpa using hy, by intro i hi; omega⟩
theorem getD_zero (th : List Int) (h : ∀ y ∈ th, y = 0) (i : Nat) : th.getD i 0 = 0 := by
  rw [List.getD_eq_getElem?_getD]
  cases hi : th[i]? with
  | none => rfl
  | some y => exact h y (List.mem_of_getElem? hi)
set_option maxRecDepth 100000 in
set_option maxHeartbeats 3000000 in
theorem records_in (n : Nat) (hn : 1 ≤ n) (l g n0 b : Nat) (a : Option Addr) (len cap : Nat) (f : List Int) (out : List (Nat × List Int)) (how : Nat) (J Jx : List (Nat × Sl) → World → Prop) (hb : 32 ≤ b ∧ b ≤ 32768) (hcap : cap ≤ 9223372036854775807) (hlen : len ≤ 140737488355328)
    (hR : Rd b f 0 [] false out how)
    (hY : ∀ pre x W0 W1, J pre W0 → W0.grownBy W1 (some g) → Wt.Own W1 W0.heap.size x.2.v x.2.zs → pre.map pr ++ [pr x] <+: out → Rg W1 g b a len cap 0 → YieldAt Fence.wide (n - 1) Tryd.prog l (encs x) W1 fun e W' =>
      (e = .returned (.bool true) ∧ J (pre ++ [x]) W' ∧ Kp n0 g W1 W') ∨ (e = .returned (.bool false) ∧ Jx (pre ++ [x]) W'))
    (W : World) (hg : Rg W g b a len cap 0) (hng : n0 ≤ g) (hB : ∀ W', Below n0 W W' → Bytes W' a len cap f) (hT : ∀ W', Below n0 W W' → Hid (Tab W')) (h0 : J [] W) :
    CallsIn Fence.wide n Tryd.prog 11 #[.pointer (some ⟨g, 0, none⟩), .func (.yield l) #[] #[]] W fun e W' => (∃ v, e = .returned v) ∧
      ((∃ ys W0, ys.map pr = out ∧ J ys W0 ∧ W0.grownBy W' (some g) ∧ Rg W' g b a len cap how ∧ Below n0 W W') ∨ (∃ pre, pre.map pr <+: out ∧ Jx pre W')) := by
  have hfl := (hB W (Below.refl _ _)).1
  have hlc := (hB W (Below.refl _ _)).2.1
  replace hY := hid hY
  replace hB := hid hB
  replace hT := hid hT
  replace hR := hid hR
  replace hg := hid hg
  replace h0 := hid h0
  refine callsIn_of_wp Tryd.func11 rfl trivial ?_ rfl
  simp only [Tryd.ntmps11, List.size_toArray, List.length_cons, List.length_nil, Nat.reduceAdd, Nat.reduceSub, Array.replicate_succ, Array.replicate_zero, List.push_toArray, List.append_toArray, List.nil_append, List.cons_append]
  refine wpIn_wide.2 (wp_scope_straight ((wpIn_wide (n := n)).1 ?_))
  gi_wp2_with fail
  refine wpIn_label ?_
  gi_wp2_with fail
  gi_loopw [4, 5, 6] (fun v bg p wr => ∃ (at' : Nat) (pre : List (Nat × Sl)) (W0 : World) (r : List Int) (begun : Bool) (rest : List (Nat × List Int)), p = .int .i64 (at' : Int) ∧ bg = .bool begun ∧ at' ≤ len + 32768 ∧ Hid (r.length ≤ at' ∧ ∀ y ∈ r, 0 ≤ y ∧ y ≤ 255) ∧ Hid (J pre W0) ∧ Hid (W0.grownBy wr (some g)) ∧ Hid (Wt.Own wr W0.heap.size v r) ∧ Hid (Below n0 W wr) ∧ Hid (Rg wr g b a len cap 0) ∧ Hid (Rd b f at' r begun rest how) ∧ Hid (pre.map pr ++ rest = out) ∧ Hid (g < W0.heap.size))
    (fun _ _ p _ => len + 32768 - (intOf p).toNat)
  case atStart => exact ⟨0, [], W, [], false, out, rfl, rfl, by omega, by simp [Hid], h0, World.grownBy.refl _ _, World.ownsRow_nil _ _ _ _, Below.refl _ _, hg, hR, rfl, by exact hg.out.lt⟩
  case round =>
    obtain ⟨p, pre, W0, r, begun, rest, rfl, rfl, hp, hr, hJ, hGr, hO, hBel, hRg, hRd, hOut, hn0⟩ := hrel
    have c0 := hRg.out.c0
    have c1 := hRg.out.c1
    have c2 := hRg.out.c2
    by_cases hlt : p < len
    · have i1 : (p : Int) < (len : Int) := by omega
      obtain ⟨ad, rfl⟩ : ∃ ad, a = some ad := by
        cases a with
        | none => have := ((hB.out W (Below.refl _ _)).2.2.1 rfl).1; omega
        | some ad => exact ⟨ad, rfl⟩
      obtain ⟨L, hL⟩ : ∃ L, L = left b p := ⟨_, rfl⟩
      have hL1 : 0 < L := by rw [hL]; exact left_pos b p (by omega)
      have hL2 : L ≤ b := by rw [hL]; exact left_le b p
      have hm2 : (p : Int) % (b : Int) < (b : Int) := by rw [← Int.natCast_emod]; have := Nat.mod_lt p (show 0 < b by omega); omega
      have hm3 : 0 ≤ (p : Int) % (b : Int) := by rw [← Int.natCast_emod]; omega
      have E : Hid ((b : Int) - (p : Int) % (b : Int) = (L : Int)) := by show _ = _; rw [← Int.natCast_emod, hL]; have := Nat.mod_lt p (show 0 < b by omega); unfold left; omega
      replace hL := hid hL
      obtain ⟨th, hth⟩ : ∃ th, th = (f.drop p).take L := ⟨_, rfl⟩
      obtain ⟨M, hM⟩ : ∃ M, M = th.length := ⟨_, rfl⟩
      have hM2 : M = min L (len - p) := by rw [hM, hth, List.length_take, List.length_drop, hfl]
      have hmin : min ((p : Int) + (L : Int)) (len : Int) = ((p + M : Nat) : Int) := by omega
      have HTh : Hid (∀ W', Below n0 W W' → Bytes W' (some (ad.add p)) M (cap - p) th) := fun W' h' => by
        have := bytes_take (bytes_drop (hB.out W' h') p (by omega)) M (by omega) (by simp)
        rw [show (f.drop p).take M = th by rw [hth, hM2]; rw [List.take_eq_take_iff]; simp; omega] at this
        exact this
      have EM : Hid ((if (len : Int) < (p : Int) + (L : Int) then (len : Int) else (p : Int) + (L : Int)) = ((p + M : Nat) : Int)) := by show _ = _; split <;> omega
      have EM3 : Hid (((p + M : Nat) : Int).toNat - p = M) := by show _ = _; omega
      replace hth := hid hth
      replace hM := hid hM
      have hM0 : 0 < M := by omega
      have hMa : M ≤ L := by omega
      have hMb : p + M ≤ len := by omega
      clear hM2
      have i2 : ((p + M : Nat) : Int) ≤ (cap : Int) := by omega
      have i3 : (p : Int) ≤ ((p + M : Nat) : Int) := by omega
      have i4 : p < cap := by omega
      clear hm2
      have hm2 : (p : Int) % (b : Int) < (b : Int) := by rw [← Int.natCast_emod]; have := Nat.mod_lt p (show 0 < b by omega); omega
      gi_wp2_with fail
      refine wpIn_wide.2 ?_
      go_quiet (fail)
      rw [E.out]
      have bq := below_drewN (Below.refl wr.heap.size wr) nq
      have hRg2 := hid (hRg.out.later bq)
      have hGr2 := hid (grown_trans hGr.out (grown_none (grown_of bq)))
      have hO2 := hid (hO.out.later bq)
      have hBel2 := hid (hBel.out.trans (bq.mono (by have := hBel.out.size; have := hg.out.lt; omega)))
      generalize wr.drewN nq = W2 at *
      clear c0 c1 c2 hRg hGr hO hBel bq
      have c1 := hRg2.out.c1
      gi_wp2_with fail
      refine wpIn_wide.2 ?_
      go_quiet (fail)
      rw [EM.out, EM3.out]
      have bq := below_drewN (Below.refl W2.heap.size W2) nq
      have hRg := hid (hRg2.out.later bq)
      have hGr := hid (grown_trans hGr2.out (grown_none (grown_of bq)))
      have hO := hid (hO2.out.later bq)
      have hBel := hid (hBel2.out.trans (bq.mono (by have := hBel2.out.size; have := hg.out.lt; omega)))
      generalize W2.drewN nq = W3 at *
      clear c1 hRg2 hGr2 hO2 hBel2 bq E EM EM3 hmin i2 i3 hm2 hm3
      by_cases h7 : L < 7
      · have i7 : (L : Int) < 7 := by omega
        by_cases hz : ∀ y ∈ th, y = 0
        · have hs : stp b f p r begun = .go (p + M) r begun := by unfold stp; rw [if_neg (by omega), ← hL.out, if_pos h7, ← hth.out, if_pos hz, ← hM.out]
          have hRd2 := hid (rd_go hRd.out hs)
          have hcell : Hid (∀ k, k < M → W3.cell? ((ad.add p).add k) = some (.int .u8 0)) := fun k hk => by
            rw [(HTh.out W3 hBel.out).2.2.2.2 _ rfl k hk, getD_zero th hz]
          clear hs hz hRd
          gi_wp2_with fail
          gi_loopw [49] (fun i w4 => ∃ k : Nat, i = .int .i64 (k : Int) ∧ k ≤ M ∧ w4 = W3) (fun i _ => M - (intOf i).toNat)
          case atStart => exact ⟨0, rfl, Nat.zero_le _, rfl⟩
          case round =>
            obtain ⟨k, rfl, hk, rfl⟩ := hrel
            by_cases hkM : k < M
            · have hc := hcell.out k hkM
              gi_wp2_with fail
              go_roundw
              case rel => exact ⟨k + 1, by go_num, by omega, by first | rfl | trivial⟩
              case measure => simp [intOf]; omega
            · gi_wp2_with fail
              refine ⟨⟨p + M, pre, W0, r, begun, rest, by push_cast; rfl, rfl, by omega, ⟨by have := hr.out.1; omega, hr.out.2⟩, hJ, hGr, hO, hBel, hRg, hRd2, hOut, hn0⟩, ?_⟩
              simp [intOf]; omega
        · obtain ⟨j, hj1, hj2, hj3⟩ := first_not th hz
          have hs : stp b f p r begun = .stop 2 := by unfold stp; rw [if_neg (by omega), ← hL.out, if_pos h7, ← hth.out, if_neg hz]
          obtain ⟨hr1, hr2⟩ := rd_stop hRd.out hs
          have hE : Hid (pre.map pr = out) := by show _ = _; rw [← hOut.out, hr1, List.append_nil]
          replace hr2 := hid hr2
          have hTW := hid (HTh.out W3 hBel.out)
          have hjM : j < M := by rw [hM.out]; exact hj1
          have hcell : Hid (∀ k, k < j → W3.cell? ((ad.add p).add k) = some (.int .u8 0)) := fun k hk => by
            rw [hTW.out.2.2.2.2 _ rfl k (by omega), hj3 k hk]
          have hcj := hid (hTW.out.2.2.2.2 _ rfl j hjM)
          generalize th.getD j 0 = y at hcj hj2
          have hyb : (y == 0) = false := by rw [beq_eq_false_iff_ne]; exact hj2
          have f2 := hRg.out.fz 2
          have c2 := hRg.out.c2
          have hR4 : Hid (Rg (W3.setCell ⟨g, 2, none⟩ (.int .i64 2)) g b (some ad) len cap how) := by rw [hr2.out]; exact hRg.out.set 2
          have hG4 := hid (grown_trans hGr.out (grown_set W3 g 2 (.int .i64 2)))
          have hB4 := hid (hBel.out.setCell (p := ⟨g, 2, none⟩) hng (.int .i64 2))
          clear hs hz hRd hr1 hj3 hTW
          gi_wp2_with fail
          gi_loopw [49] (fun i w4 => ∃ k : Nat, i = .int .i64 (k : Int) ∧ k ≤ j ∧ w4 = W3) (fun i _ => M - (intOf i).toNat)
          case atStart => exact ⟨0, rfl, Nat.zero_le _, rfl⟩
          case round =>
            obtain ⟨k, rfl, hk, rfl⟩ := hrel
            by_cases hkj : k < j
            · have hc := hcell.out k hkj
              gi_wp2_with fail
              go_roundw
              case rel => exact ⟨k + 1, by go_num, by omega, by first | rfl | trivial⟩
              case measure => simp [intOf]; omega
            · have hkj2 : k = j := by omega
              subst hkj2
              have hc := hcj.out
              cases begun with
              | true =>
                gi_wp2_with fail
                try rw [Exit.noGoto_normal]
                go_end0
                first
                  | exact ⟨⟨_, rfl⟩, .inl ⟨pre, W0, hE.out, hJ.out, hG4.out, hR4.out, hB4.out⟩⟩
                  | exact ⟨⟨_, rfl⟩, .inl ⟨pre, hE.out, W0, hJ.out, hG4.out, hR4.out, hB4.out⟩⟩
              | false =>
                gi_wp2_with fail
                try rw [Exit.noGoto_normal]
                go_end0
                first
                  | exact ⟨⟨_, rfl⟩, .inl ⟨pre, W0, hE.out, hJ.out, hG4.out, hR4.out, hB4.out⟩⟩
                  | exact ⟨⟨_, rfl⟩, .inl ⟨pre, hE.out, W0, hJ.out, hG4.out, hR4.out, hB4.out⟩⟩
      · have h7b : ¬ (L : Int) < 7 := by omega
        obtain ⟨av, cv, hvv, _⟩ := hO.out.shape
        subst hvv
        have hrl := hr.out.1
        have HAt := hid (at_all (ad.add p) M (cap - p) th L (W3.alloc zp) (tab_later (hT.out W3 hBel.out) (box_below W3 zp)) (bytes_kept (HTh.out W3 hBel.out) (box_below W3 zp)) (by omega) (by omega) (by omega))
        cases hpa : pa th L with
        | bad h =>
          have hs : stp b f p r begun = .stop h := by unfold stp; rw [if_neg (by omega), ← hL.out, if_neg h7, ← hth.out, hpa]
          obtain ⟨hr1, hr2⟩ := rd_stop hRd.out hs
          have hE : Hid (pre.map pr = out) := by show _ = _; rw [← hOut.out, hr1, List.append_nil]
          subst hr2
          rw [hpa] at HAt
          clear hs hRd hr1 hpa
          gi_wp2_with fail
          refine ⟨trivial, (callsIn_wide.2 HAt.out).mono ?_⟩
          rintro e w4 ⟨⟨rfl, h1, h2⟩, b4⟩
          have P4 : w4.heap[W3.heap.size]? = some zp := (b4.block _ (by simp)).trans (by show (W3.heap.push _)[W3.heap.size]? = _; simp)
          have R4 := (hRg.out.later (box_below W3 zp)).later b4
          have hng2 : g ≠ W3.heap.size := by have := hRg.out.lt; omega
          have B34 : Below W3.heap.size W3 w4 := (box_below W3 zp).trans (b4.mono (by simp))
          have e0 := cell_of P4 0 _ rfl
          have f0 := fz_of P4 0
          have P5 := set_of P4 0 (.int .u8 0)
          have e1 := cell_of P5 1 (.slice none 0 0) rfl
          have f1 := fz_of P5 1
          have P6 := set_of P5 1 (.slice none 0 0)
          have R6 : Rg ((w4.setCell ⟨W3.heap.size, 0, none⟩ (.int .u8 0)).setCell ⟨W3.heap.size, 1, none⟩ (.slice none 0 0)) g b (some ad) len cap 0 := by
            show _ = _
            rw [set_ne _ _ _ _ _ hng2, set_ne _ _ _ _ _ hng2]
            exact R4
          have cA := R6.c2
          have fA := R6.fz 2
          have R7 := R6.set how
          have P7 : (((w4.setCell ⟨W3.heap.size, 0, none⟩ (.int .u8 0)).setCell ⟨W3.heap.size, 1, none⟩ (.slice none 0 0)).setCell ⟨g, 2, none⟩ (.int .i64 ((how : Nat) : Int))).heap[W3.heap.size]? = some (.cells #[.int .u8 0, .slice none 0 0] 53) := by
            rw [set_ne _ _ _ _ _ (Ne.symm hng2), P6]
            rfl
          have B7 : Below W3.heap.size W3 ((w4.setCell ⟨W3.heap.size, 0, none⟩ (.int .u8 0)).setCell ⟨W3.heap.size, 1, none⟩ (.slice none 0 0)) := (B34.setCell (p := ⟨W3.heap.size, 0, none⟩) (Nat.le_refl _) _).setCell (p := ⟨W3.heap.size, 1, none⟩) (Nat.le_refl _) _
          have hsz3 : n0 ≤ W3.heap.size := by have := hRg.out.lt; omega
          have hG7 := hid (grown_trans (grown_trans hGr.out (grown_none (grown_of B7))) (grown_set _ g 2 (.int .i64 ((how : Nat) : Int))))
          have hB7 := hid ((hBel.out.trans (B7.mono hsz3)).setCell (p := ⟨g, 2, none⟩) hng (.int .i64 ((how : Nat) : Int)))
          have hh0 : ((how : Int) == 0) = false := by rw [beq_eq_false_iff_ne]; omega
          have hR7 := hid R7
          have q0 := cell_of P7 0 _ rfl
          have q1 := cell_of P7 1 _ rfl
          clear HAt R4 B34 P4 P5 P6 R6 R7 P7 B7 b4
          cases begun with
          | true =>
            gi_wp2_with fail
            refine ⟨trivial, ?_⟩
            gi_wp2_with fail
            all_goals
              first
                | (rename_i hz1 hz2; exact absurd hz1 (by unfold undef; simp))
                | (try rw [Exit.noGoto_normal]
                   go_end0
                   first
                     | exact ⟨⟨_, rfl⟩, .inl ⟨pre, W0, hE.out, hJ.out, hG7.out, hR7.out, hB7.out⟩⟩
                     | exact ⟨⟨_, rfl⟩, .inl ⟨pre, hE.out, W0, hJ.out, hG7.out, hR7.out, hB7.out⟩⟩)
          | false =>
            gi_wp2_with fail
            refine ⟨trivial, ?_⟩
            gi_wp2_with fail
            all_goals
              first
                | (rename_i hz1 hz2; exact absurd hz1 (by unfold undef; simp))
                | (try rw [Exit.noGoto_normal]
                   go_end0
                   first
                     | exact ⟨⟨_, rfl⟩, .inl ⟨pre, W0, hE.out, hJ.out, hG7.out, hR7.out, hB7.out⟩⟩
                     | exact ⟨⟨_, rfl⟩, .inl ⟨pre, hE.out, W0, hJ.out, hG7.out, hR7.out, hB7.out⟩⟩)
        | ok k d =>
          rw [hpa] at HAt
          have hdM : d.length + 7 ≤ M := by rw [hM.out]; exact pa_len hpa
          have hdl : d.length ≤ 32768 := by omega
          have hstp : Hid (stp b f p r begun = if begins k = begun ∨ 2097152 < r.length + d.length then .stop 2 else if ends k then .give (p + 7 + d.length) (r ++ d) else .go (p + 7 + d.length) (r ++ d) true) := by
            show _ = _
            unfold stp; rw [if_neg (by omega), ← hL.out, if_neg h7, ← hth.out, hpa]
          clear hpa
          by_cases hbad : begins k = begun
          · rw [if_pos (.inl hbad)] at hstp
            obtain ⟨hr1, hr2⟩ := rd_stop hRd.out hstp.out
            have hE : Hid (pre.map pr = out) := by show _ = _; rw [← hOut.out, hr1, List.append_nil]
            replace hr2 := hid hr2
            clear hstp hRd hr1
            gi_wp2_with fail
            refine ⟨trivial, (callsIn_wide.2 HAt.out).mono ?_⟩
            rintro e w4 ⟨⟨a', c', rfl, hBd, hk1, hk2⟩, b4⟩
            have P4 : w4.heap[W3.heap.size]? = some zp := (b4.block _ (by simp)).trans (by show (W3.heap.push _)[W3.heap.size]? = _; simp)
            have R4 := (hRg.out.later (box_below W3 zp)).later b4
            have hng2 : g ≠ W3.heap.size := by have := hRg.out.lt; omega
            have B34 : Below W3.heap.size W3 w4 := (box_below W3 zp).trans (b4.mono (by simp))
            have e0 := cell_of P4 0 _ rfl
            have f0 := fz_of P4 0
            have P5 := set_of P4 0 (.int .u8 k)
            have e1 := cell_of P5 1 (.slice none 0 0) rfl
            have f1 := fz_of P5 1
            have P6 := set_of P5 1 (.slice a' d.length c')
            have R6 : Rg ((w4.setCell ⟨W3.heap.size, 0, none⟩ (.int .u8 k)).setCell ⟨W3.heap.size, 1, none⟩ (.slice a' d.length c')) g b (some ad) len cap 0 := by
              show _ = _
              rw [set_ne _ _ _ _ _ hng2, set_ne _ _ _ _ _ hng2]
              exact R4
            have cA := R6.c2
            have fA := R6.fz 2
            have R7 := R6.set 0
            have P7 : (((w4.setCell ⟨W3.heap.size, 0, none⟩ (.int .u8 k)).setCell ⟨W3.heap.size, 1, none⟩ (.slice a' d.length c')).setCell ⟨g, 2, none⟩ (.int .i64 ((0 : Nat) : Int))).heap[W3.heap.size]? = some (.cells #[.int .u8 k, .slice a' d.length c'] 53) := by
              rw [set_ne _ _ _ _ _ (Ne.symm hng2), P6]
              rfl
            have B7 : Below W3.heap.size W3 ((w4.setCell ⟨W3.heap.size, 0, none⟩ (.int .u8 k)).setCell ⟨W3.heap.size, 1, none⟩ (.slice a' d.length c')) := (B34.setCell (p := ⟨W3.heap.size, 0, none⟩) (Nat.le_refl _) _).setCell (p := ⟨W3.heap.size, 1, none⟩) (Nat.le_refl _) _
            have hsz3 : n0 ≤ W3.heap.size := by have := hRg.out.lt; omega
            have hG7 := hid (grown_trans (grown_trans hGr.out (grown_none (grown_of B7))) (grown_set _ g 2 (.int .i64 ((0 : Nat) : Int))))
            have hB7 := hid ((hBel.out.trans (B7.mono hsz3)).setCell (p := ⟨g, 2, none⟩) hng (.int .i64 ((0 : Nat) : Int)))
            have O7 : Wt.Own (((w4.setCell ⟨W3.heap.size, 0, none⟩ (.int .u8 k)).setCell ⟨W3.heap.size, 1, none⟩ (.slice a' d.length c')).setCell ⟨g, 2, none⟩ (.int .i64 ((0 : Nat) : Int))) W0.heap.size (.slice av r.length cv) r :=
              (hO.out.later B7).kept (grown_set _ g 2 _) (fun e => by have := (hO.out.lt g e.symm).1; have := hn0.out; omega)
            have q0 := cell_of P7 0 _ rfl
            have q1 := cell_of P7 1 _ rfl
            have HB1 := hid (begins_any k a' d.length c')
            have Hn : Hid (∀ j, (Value.slice av r.length cv).ownBlock = some j → j < W3.heap.size) := fun j hj => (hO.out.lt j hj).2
            have hP7 := hid P7
            have hR7 := hid R7
            have hO7 := hid O7
            replace hBd := hid hBd
            clear HAt R4 B34 P4 P5 P6 R6 R7 P7 B7 b4 O7 hO hGr hBel hRg
            rw [hbad] at HB1
            cases begun with
            | true =>
              gi_wp2_with fail
              refine ⟨trivial, (callsIn_wide.2 (HB1.out _)).mono ?_⟩
              rintro e w8 ⟨rfl, b8⟩
              have P8 := hid ((b8.block _ (Array.getElem?_eq_some_iff.1 hP7.out).1).trans hP7.out)
              have R8 := hid (hR7.out.later b8)
              have O8 := hid (hO7.out.later b8)
              have G8 := hid (grown_trans hG7.out (grown_none (grown_of b8)))
              have B8 := hid (hB7.out.trans (b8.mono (Nat.le_trans (Nat.le_trans hng (Nat.le_of_lt hg.out.lt)) hB7.out.size)))
              have c28 := R8.out.c2
              have f28 := R8.out.fz 2
              have q18 := cell_of P8.out 1 _ rfl
              have q08 := cell_of P8.out 0 _ rfl
              have R9 : Hid (Rg (w8.setCell ⟨g, 2, none⟩ (.int .i64 2)) g b (some ad) len cap how) := by rw [hr2.out]; exact R8.out.set 2
              have G9 := hid (grown_trans G8.out (grown_set w8 g 2 (.int .i64 2)))
              have B9 := hid (B8.out.setCell (p := ⟨g, 2, none⟩) hng (.int .i64 2))
              clear b8
              gi_wp2_with fail
              all_goals
                first
                  | (rename_i hz1 hz2; exact absurd hz1 (by unfold undef; simp))
                  | (try rw [Exit.noGoto_normal]
                     go_end0
                     first
                       | exact ⟨⟨_, rfl⟩, .inl ⟨pre, W0, hE.out, hJ.out, G9.out, R9.out, B9.out⟩⟩
                       | exact ⟨⟨_, rfl⟩, .inl ⟨pre, hE.out, W0, hJ.out, G9.out, R9.out, B9.out⟩⟩)
            | false =>
              gi_wp2_with fail
              refine ⟨trivial, (callsIn_wide.2 (HB1.out _)).mono ?_⟩
              rintro e w8 ⟨rfl, b8⟩
              have P8 := hid ((b8.block _ (Array.getElem?_eq_some_iff.1 hP7.out).1).trans hP7.out)
              have R8 := hid (hR7.out.later b8)
              have O8 := hid (hO7.out.later b8)
              have G8 := hid (grown_trans hG7.out (grown_none (grown_of b8)))
              have B8 := hid (hB7.out.trans (b8.mono (Nat.le_trans (Nat.le_trans hng (Nat.le_of_lt hg.out.lt)) hB7.out.size)))
              have c28 := R8.out.c2
              have f28 := R8.out.fz 2
              have q18 := cell_of P8.out 1 _ rfl
              have q08 := cell_of P8.out 0 _ rfl
              have R9 : Hid (Rg (w8.setCell ⟨g, 2, none⟩ (.int .i64 2)) g b (some ad) len cap how) := by rw [hr2.out]; exact R8.out.set 2
              have G9 := hid (grown_trans G8.out (grown_set w8 g 2 (.int .i64 2)))
              have B9 := hid (B8.out.setCell (p := ⟨g, 2, none⟩) hng (.int .i64 2))
              clear b8
              gi_wp2_with fail
              all_goals
                first
                  | (rename_i hz1 hz2; exact absurd hz1 (by unfold undef; simp))
                  | (try rw [Exit.noGoto_normal]
                     go_end0
                     first
                       | exact ⟨⟨_, rfl⟩, .inl ⟨pre, W0, hE.out, hJ.out, G9.out, R9.out, B9.out⟩⟩
                       | exact ⟨⟨_, rfl⟩, .inl ⟨pre, hE.out, W0, hJ.out, G9.out, R9.out, B9.out⟩⟩)
          · have hbn : begins k = !begun := by cases hb1 : begins k <;> cases hb2 : begun <;> simp_all
            have hbq : ((!begun) == begun) = false := by cases begun <;> rfl
            by_cases hlong : 2097152 < r.length + d.length
            · rw [if_pos (.inr hlong)] at hstp
              obtain ⟨hr1, hr2⟩ := rd_stop hRd.out hstp.out
              have hE : Hid (pre.map pr = out) := by show _ = _; rw [← hOut.out, hr1, List.append_nil]
              replace hr2 := hid hr2
              have hlong2 : (2097152 : Int) < (r.length : Int) + (d.length : Int) := by omega
              clear hstp hRd hr1 hbad
              gi_wp2_with fail
              refine ⟨trivial, (callsIn_wide.2 HAt.out).mono ?_⟩
              rintro e w4 ⟨⟨a', c', rfl, hBd, hk1, hk2⟩, b4⟩
              have P4 : w4.heap[W3.heap.size]? = some zp := (b4.block _ (by simp)).trans (by show (W3.heap.push _)[W3.heap.size]? = _; simp)
              have R4 := (hRg.out.later (box_below W3 zp)).later b4
              have hng2 : g ≠ W3.heap.size := by have := hRg.out.lt; omega
              have B34 : Below W3.heap.size W3 w4 := (box_below W3 zp).trans (b4.mono (by simp))
              have e0 := cell_of P4 0 _ rfl
              have f0 := fz_of P4 0
              have P5 := set_of P4 0 (.int .u8 k)
              have e1 := cell_of P5 1 (.slice none 0 0) rfl
              have f1 := fz_of P5 1
              have P6 := set_of P5 1 (.slice a' d.length c')
              have R6 : Rg ((w4.setCell ⟨W3.heap.size, 0, none⟩ (.int .u8 k)).setCell ⟨W3.heap.size, 1, none⟩ (.slice a' d.length c')) g b (some ad) len cap 0 := by
                show _ = _
                rw [set_ne _ _ _ _ _ hng2, set_ne _ _ _ _ _ hng2]
                exact R4
              have cA := R6.c2
              have fA := R6.fz 2
              have R7 := R6.set 0
              have P7 : (((w4.setCell ⟨W3.heap.size, 0, none⟩ (.int .u8 k)).setCell ⟨W3.heap.size, 1, none⟩ (.slice a' d.length c')).setCell ⟨g, 2, none⟩ (.int .i64 ((0 : Nat) : Int))).heap[W3.heap.size]? = some (.cells #[.int .u8 k, .slice a' d.length c'] 53) := by
                rw [set_ne _ _ _ _ _ (Ne.symm hng2), P6]
                rfl
              have B7 : Below W3.heap.size W3 ((w4.setCell ⟨W3.heap.size, 0, none⟩ (.int .u8 k)).setCell ⟨W3.heap.size, 1, none⟩ (.slice a' d.length c')) := (B34.setCell (p := ⟨W3.heap.size, 0, none⟩) (Nat.le_refl _) _).setCell (p := ⟨W3.heap.size, 1, none⟩) (Nat.le_refl _) _
              have hsz3 : n0 ≤ W3.heap.size := by have := hRg.out.lt; omega
              have hG7 := hid (grown_trans (grown_trans hGr.out (grown_none (grown_of B7))) (grown_set _ g 2 (.int .i64 ((0 : Nat) : Int))))
              have hB7 := hid ((hBel.out.trans (B7.mono hsz3)).setCell (p := ⟨g, 2, none⟩) hng (.int .i64 ((0 : Nat) : Int)))
              have O7 : Wt.Own (((w4.setCell ⟨W3.heap.size, 0, none⟩ (.int .u8 k)).setCell ⟨W3.heap.size, 1, none⟩ (.slice a' d.length c')).setCell ⟨g, 2, none⟩ (.int .i64 ((0 : Nat) : Int))) W0.heap.size (.slice av r.length cv) r :=
                (hO.out.later B7).kept (grown_set _ g 2 _) (fun e => by have := (hO.out.lt g e.symm).1; have := hn0.out; omega)
              have q0 := cell_of P7 0 _ rfl
              have q1 := cell_of P7 1 _ rfl
              have HB1 := hid (begins_any k a' d.length c')
              have Hn : Hid (∀ j, (Value.slice av r.length cv).ownBlock = some j → j < W3.heap.size) := fun j hj => (hO.out.lt j hj).2
              have hP7 := hid P7
              have hR7 := hid R7
              have hO7 := hid O7
              replace hBd := hid hBd
              clear HAt R4 B34 P4 P5 P6 R6 R7 P7 B7 b4 O7 hO hGr hBel hRg
              rw [hbn] at HB1
              cases begun with
              | true =>
                gi_wp2_with fail
                refine ⟨trivial, (callsIn_wide.2 (HB1.out _)).mono ?_⟩
                rintro e w8 ⟨rfl, b8⟩
                have P8 := hid ((b8.block _ (Array.getElem?_eq_some_iff.1 hP7.out).1).trans hP7.out)
                have R8 := hid (hR7.out.later b8)
                have O8 := hid (hO7.out.later b8)
                have G8 := hid (grown_trans hG7.out (grown_none (grown_of b8)))
                have B8 := hid (hB7.out.trans (b8.mono (Nat.le_trans (Nat.le_trans hng (Nat.le_of_lt hg.out.lt)) hB7.out.size)))
                have c28 := R8.out.c2
                have f28 := R8.out.fz 2
                have q18 := cell_of P8.out 1 _ rfl
                have q08 := cell_of P8.out 0 _ rfl
                have R9 : Hid (Rg (w8.setCell ⟨g, 2, none⟩ (.int .i64 2)) g b (some ad) len cap how) := by rw [hr2.out]; exact R8.out.set 2
                have G9 := hid (grown_trans G8.out (grown_set w8 g 2 (.int .i64 2)))
                have B9 := hid (B8.out.setCell (p := ⟨g, 2, none⟩) hng (.int .i64 2))
                clear b8
                gi_wp2_with fail
                all_goals
                  first
                    | (rename_i hz1 hz2; exact absurd hz1 (by unfold undef; simp))
                    | (try rw [Exit.noGoto_normal]
                       go_end0
                       first
                         | exact ⟨⟨_, rfl⟩, .inl ⟨pre, W0, hE.out, hJ.out, G9.out, R9.out, B9.out⟩⟩
                         | exact ⟨⟨_, rfl⟩, .inl ⟨pre, hE.out, W0, hJ.out, G9.out, R9.out, B9.out⟩⟩)
              | false =>
                gi_wp2_with fail
                refine ⟨trivial, (callsIn_wide.2 (HB1.out _)).mono ?_⟩
                rintro e w8 ⟨rfl, b8⟩
                have P8 := hid ((b8.block _ (Array.getElem?_eq_some_iff.1 hP7.out).1).trans hP7.out)
                have R8 := hid (hR7.out.later b8)
                have O8 := hid (hO7.out.later b8)
                have G8 := hid (grown_trans hG7.out (grown_none (grown_of b8)))
                have B8 := hid (hB7.out.trans (b8.mono (Nat.le_trans (Nat.le_trans hng (Nat.le_of_lt hg.out.lt)) hB7.out.size)))
                have c28 := R8.out.c2
                have f28 := R8.out.fz 2
                have q18 := cell_of P8.out 1 _ rfl
                have q08 := cell_of P8.out 0 _ rfl
                have R9 : Hid (Rg (w8.setCell ⟨g, 2, none⟩ (.int .i64 2)) g b (some ad) len cap how) := by rw [hr2.out]; exact R8.out.set 2
                have G9 := hid (grown_trans G8.out (grown_set w8 g 2 (.int .i64 2)))
                have B9 := hid (B8.out.setCell (p := ⟨g, 2, none⟩) hng (.int .i64 2))
                clear b8
                gi_wp2_with fail
                all_goals
                  first
                    | (rename_i hz1 hz2; exact absurd hz1 (by unfold undef; simp))
                    | (try rw [Exit.noGoto_normal]
                       go_end0
                       first
                         | exact ⟨⟨_, rfl⟩, .inl ⟨pre, W0, hE.out, hJ.out, G9.out, R9.out, B9.out⟩⟩
                         | exact ⟨⟨_, rfl⟩, .inl ⟨pre, hE.out, W0, hJ.out, G9.out, R9.out, B9.out⟩⟩)
            · rw [if_neg (by rintro (h | h); exact hbad h; exact hlong h)] at hstp
              have hlong2 : ¬ (2097152 : Int) < (r.length : Int) + (d.length : Int) := by omega
              clear hbad
              gi_wp2_with fail
              refine ⟨trivial, (callsIn_wide.2 HAt.out).mono ?_⟩
              rintro e w4 ⟨⟨a', c', rfl, hBd, hk1, hk2⟩, b4⟩
              have P4 : w4.heap[W3.heap.size]? = some zp := (b4.block _ (by simp)).trans (by show (W3.heap.push _)[W3.heap.size]? = _; simp)
              have R4 := (hRg.out.later (box_below W3 zp)).later b4
              have hng2 : g ≠ W3.heap.size := by have := hRg.out.lt; omega
              have B34 : Below W3.heap.size W3 w4 := (box_below W3 zp).trans (b4.mono (by simp))
              have e0 := cell_of P4 0 _ rfl
              have f0 := fz_of P4 0
              have P5 := set_of P4 0 (.int .u8 k)
              have e1 := cell_of P5 1 (.slice none 0 0) rfl
              have f1 := fz_of P5 1
              have P6 := set_of P5 1 (.slice a' d.length c')
              have R6 : Rg ((w4.setCell ⟨W3.heap.size, 0, none⟩ (.int .u8 k)).setCell ⟨W3.heap.size, 1, none⟩ (.slice a' d.length c')) g b (some ad) len cap 0 := by
                show _ = _
                rw [set_ne _ _ _ _ _ hng2, set_ne _ _ _ _ _ hng2]
                exact R4
              have cA := R6.c2
              have fA := R6.fz 2
              have R7 := R6.set 0
              have P7 : (((w4.setCell ⟨W3.heap.size, 0, none⟩ (.int .u8 k)).setCell ⟨W3.heap.size, 1, none⟩ (.slice a' d.length c')).setCell ⟨g, 2, none⟩ (.int .i64 ((0 : Nat) : Int))).heap[W3.heap.size]? = some (.cells #[.int .u8 k, .slice a' d.length c'] 53) := by
                rw [set_ne _ _ _ _ _ (Ne.symm hng2), P6]
                rfl
              have B7 : Below W3.heap.size W3 ((w4.setCell ⟨W3.heap.size, 0, none⟩ (.int .u8 k)).setCell ⟨W3.heap.size, 1, none⟩ (.slice a' d.length c')) := (B34.setCell (p := ⟨W3.heap.size, 0, none⟩) (Nat.le_refl _) _).setCell (p := ⟨W3.heap.size, 1, none⟩) (Nat.le_refl _) _
              have hsz3 : n0 ≤ W3.heap.size := by have := hRg.out.lt; omega
              have hG7 := hid (grown_trans (grown_trans hGr.out (grown_none (grown_of B7))) (grown_set _ g 2 (.int .i64 ((0 : Nat) : Int))))
              have hB7 := hid ((hBel.out.trans (B7.mono hsz3)).setCell (p := ⟨g, 2, none⟩) hng (.int .i64 ((0 : Nat) : Int)))
              have O7 : Wt.Own (((w4.setCell ⟨W3.heap.size, 0, none⟩ (.int .u8 k)).setCell ⟨W3.heap.size, 1, none⟩ (.slice a' d.length c')).setCell ⟨g, 2, none⟩ (.int .i64 ((0 : Nat) : Int))) W0.heap.size (.slice av r.length cv) r :=
                (hO.out.later B7).kept (grown_set _ g 2 _) (fun e => by have := (hO.out.lt g e.symm).1; have := hn0.out; omega)
              have q0 := cell_of P7 0 _ rfl
              have q1 := cell_of P7 1 _ rfl
              have HB1 := hid (begins_any k a' d.length c')
              have Hn : Hid (∀ j, (Value.slice av r.length cv).ownBlock = some j → j < W3.heap.size) := fun j hj => (hO.out.lt j hj).2
              have hP7 := hid P7
              have hR7 := hid R7
              have hO7 := hid O7
              replace hBd := hid hBd
              clear HAt R4 B34 P4 P5 P6 R6 R7 P7 B7 b4 O7 hO hGr hBel hRg
              rw [hbn] at HB1
              gi_wp2_with fail
              refine ⟨trivial, (callsIn_wide.2 (HB1.out _)).mono ?_⟩
              rintro e w8 ⟨rfl, b8⟩
              have P8 := hid ((b8.block _ (Array.getElem?_eq_some_iff.1 hP7.out).1).trans hP7.out)
              have R8 := hid (hR7.out.later b8)
              have O8 := hid (hO7.out.later b8)
              have G8 := hid (grown_trans hG7.out (grown_none (grown_of b8)))
              have B8 := hid (hB7.out.trans (b8.mono (Nat.le_trans (Nat.le_trans hng (Nat.le_of_lt hg.out.lt)) hB7.out.size)))
              have c28 := R8.out.c2
              have f28 := R8.out.fz 2
              have q18 := cell_of P8.out 1 _ rfl
              have q08 := cell_of P8.out 0 _ rfl
              have HSz := hid (size_any k a' d.length c')
              clear b8 hP7 hR7 hO7 hG7 hB7 HB1 q0 q1 cA fA e0 e1 f0 f1
              gi_wp2_with fail
              refine ⟨trivial, (callsIn_wide.2 (HSz.out _ (by omega))).mono ?_⟩
              rintro e w9 ⟨rfl, b9⟩
              have P9 := (b9.block _ (Array.getElem?_eq_some_iff.1 P8.out).1).trans P8.out
              have R9 := R8.out.later b9
              have O9 := O8.out.later b9
              have G9 := grown_trans G8.out (grown_none (grown_of b9))
              have B9 := B8.out.trans (b9.mono (Nat.le_trans (Nat.le_trans hng (Nat.le_of_lt hg.out.lt)) B8.out.size))
              have hdB := hBd.out w9 (HTh.out w9 B9)
              obtain ⟨v10, w10, r10, O10, g10⟩ := app_bytes w9 W0.heap.size (.slice av r.length cv) r d a' d.length c' O9 hdB (by omega) G9.size
              have P10 := hid ((g10.block _ (Array.getElem?_eq_some_iff.1 P9).1 (fun e => by have := Hn.out _ e.symm; omega)).trans P9)
              have R10 := hid ((g10.block g R9.lt (fun e => by have := (O9.lt g e.symm).1; have := hn0.out; omega)).trans R9)
              have G10 := hid (grown_over G9 g10 (fun j hj => (O9.lt j hj).1))
              have B10 : Hid (Below n0 W w10) := B9.grown g10 (Nat.le_trans (Nat.le_trans hng (Nat.le_of_lt hg.out.lt)) B9.size) (fun j hj => by have := (O9.lt j hj).1; have := hn0.out; omega)
              have hrb : Hid (∀ y ∈ r ++ d, 0 ≤ y ∧ y ≤ 255) := fun y hy => by
                rcases List.mem_append.1 hy with h | h
                · exact hr.out.2 y h
                · exact hdB.2.2.2.1 y h
              obtain ⟨ax, cx, hvx, _⟩ := O10.shape
              subst hvx
              replace O10 := hid O10
              replace r10 := hid r10
              have q19 := cell_of P9 1 _ rfl
              have q09 := cell_of P9 0 _ rfl
              have q110 := cell_of P10.out 1 _ rfl
              have q010 := cell_of P10.out 0 _ rfl
              have HEn := hid (ends_any k a' d.length c')
              generalize hrd : (r ++ d).length = N at *
              clear P9 R9 O9 G9 B9 b9 hdB g10 P8 R8 O8 G8 B8 HSz c28 f28 q18 q08
              gi_wp2_with (first | (gi_at_builtin; refine wpListIn_append_run rfl _ _ _ _ rfl _ _ _ rfl rfl r10.out ?_))
              refine ⟨trivial, (callsIn_wide.2 (HEn.out _)).mono ?_⟩
              rintro e w11 ⟨rfl, b11⟩
              have R11 := hid (R10.out.trans rfl |> fun h => (b11.block g (Array.getElem?_eq_some_iff.1 h).1).trans h)
              have O11 := hid (O10.out.later b11)
              have G11 := hid (grown_trans G10.out (grown_none (grown_of b11)))
              have B11 := hid (B10.out.trans (b11.mono (Nat.le_trans (Nat.le_trans hng (Nat.le_of_lt hg.out.lt)) B10.out.size)))
              have hNl : N ≤ p + 7 + d.length := by have : (r ++ d).length = r.length + d.length := by simp
                                                    omega
              clear b11 R10 O10 G10 B10 P10 r10 q19 q09 q110 q010 HEn
              cases hen : ends k with
              | false =>
                rw [hen] at hstp
                have hRd2 := hid (rd_go hRd.out hstp.out)
                clear hstp hRd
                gi_wp2_with fail
                refine ⟨⟨p + 7 + d.length, pre, W0, r ++ d, true, rest, by congr 1; omega, rfl, by omega, ⟨by rw [hrd]; exact hNl, hrb.out⟩, hJ, G11, O11, B11, R11, hRd2, hOut, hn0⟩, ?_⟩
                simp [intOf]; omega
              | true =>
                rw [hen] at hstp
                obtain ⟨rest', hre, hRd2⟩ := rd_give hRd.out hstp.out
                subst hre
                replace hRd2 := hid hRd2
                have hpx : pre.map pr ++ [pr (p + 7 + d.length, ⟨ax, N, cx, r ++ d⟩)] <+: out := ⟨rest', by rw [← hOut.out]; simp [pr]⟩
                obtain ⟨fn, tmps, assign, body, hy, hRI⟩ := hY.out pre (p + 7 + d.length, ⟨ax, N, cx, r ++ d⟩) W0 w11 hJ.out G11.out O11.out hpx R11.out
                dsimp only [encs, Sl.v] at hy
                replace hRI := hid hRI
                clear hstp hRd
                rw [show ((p + 7 + d.length : Nat) : Int) = (p : Int) + (7 + (d.length : Int)) by omega] at hy
                gi_wp2_with fail
                refine hRI.out.mono ?_
                rintro e w12 (⟨rfl, hJ3, hk3⟩ | ⟨rfl, hJx3⟩)
                · have hR12 : Rg w12 g b (some ad) len cap 0 := hk3.2.trans R11.out
                  have hB12 := B11.out.trans hk3.1
                  replace hJ3 := hid hJ3
                  replace hR12 := hid hR12
                  replace hB12 := hid hB12
                  have hO12 : Hid ((pre ++ [(p + 7 + d.length, (⟨ax, N, cx, r ++ d⟩ : Sl))]).map pr ++ rest' = out) := by show _ = _; rw [← hOut.out]; simp [pr]
                  clear hk3 hRI hy R11 O11 G11 B11
                  gi_wp2_with fail
                  refine ⟨⟨p + 7 + d.length, _, w12, [], false, rest', by congr 1; omega, rfl, by omega, ⟨by simp, by simp⟩, hJ3, World.grownBy.refl _ _, World.ownsRow_nil _ _ _ _, hB12, hR12, hRd2, hO12, hR12.out.lt⟩, ?_⟩
                  simp [intOf]; omega
                · replace hJx3 := hid hJx3
                  have hpx2 : Hid ((pre ++ [(p + 7 + d.length, (⟨ax, N, cx, r ++ d⟩ : Sl))]).map pr <+: out) := by rw [List.map_append]; exact hpx
                  clear hRI hy hpx
                  gi_wp2_with fail
                  try rw [Exit.noGoto_ret]
                  refine bodyPost_ret (results_none rfl _ _ _) rfl ?_
                  exact ⟨⟨_, rfl⟩, .inr ⟨_, hpx2.out, hJx3.out⟩⟩
    · have hs : stp b f p r begun = .stop (if begun then 1 else 0) := by unfold stp; rw [if_pos (by omega)]
      obtain ⟨hr1, hr2⟩ := rd_stop hRd.out hs
      have hE : Hid (pre.map pr = out) := by show _ = _; rw [← hOut.out, hr1, List.append_nil]
      replace hr2 := hid hr2
      have f2 := hRg.out.fz 2
      clear hs hr1 hRd hOut
      cases begun with
      | true =>
        have hR4 : Hid (Rg (wr.setCell ⟨g, 2, none⟩ (.int .i64 1)) g b a len cap how) := by rw [hr2.out]; exact hRg.out.set 1
        have hG4 := hid (grown_trans hGr.out (grown_set wr g 2 (.int .i64 1)))
        have hB4 := hid (hBel.out.setCell (p := ⟨g, 2, none⟩) hng (.int .i64 1))
        gi_wp2_with fail
        try rw [Exit.noGoto_normal]
        go_end0
        first
          | exact ⟨⟨_, rfl⟩, .inl ⟨pre, W0, hE.out, hJ.out, hG4.out, hR4.out, hB4.out⟩⟩
          | exact ⟨⟨_, rfl⟩, .inl ⟨pre, hE.out, W0, hJ.out, hG4.out, hR4.out, hB4.out⟩⟩
      | false =>
        have hR4 : Hid (Rg wr g b a len cap how) := by rw [hr2.out]; exact hRg.out
        gi_wp2_with fail
        try rw [Exit.noGoto_normal]
        go_end0
        first
          | exact ⟨⟨_, rfl⟩, .inl ⟨pre, W0, hE.out, hJ.out, hGr.out, hR4.out, hBel.out⟩⟩
          | exact ⟨⟨_, rfl⟩, .inl ⟨pre, hE.out, W0, hJ.out, hGr.out, hR4.out, hBel.out⟩⟩
end Go.Proofs.YtgkoopciajjonabDoor.Rr

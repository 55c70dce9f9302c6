/- The document's Check and Bytes. -/
import Derived.Test.YtkanjbeijoeenaaRv
import Derived.Test.YtkanjbeijoeenaaRl
import Derived.Lib.QuietBelow
namespace Go.Proofs.Ytkanjbeijoeenaa.Rb
open Go.ChangeShapes Go.WideShapes Go.ChangeAt Go.RowKit
open Go.Sort (grow)
open Go.Proofs.Ytkanjbeijoeenaa.By
open Go.Proofs.Ytkanjbeijoeenaa.Bl
open Go.Proofs.Ytkanjbeijoeenaa.Bn
open Go.Proofs.Ytkanjbeijoeenaa.Bm
open Go.Proofs.Ytkanjbeijoeenaa.Bb
open Go.Proofs.Ytkanjbeijoeenaa.Rl
open Go.Proofs.Ytkanjbeijoeenaa.Rv
open Go.Proofs.Ytkanjbeijoeenaa.En (rencode_yes vld)
open Go.Proofs.Ytkanjbeijoeenaa.Ik
open Go.Proofs.Ytkanjbeijoeenaa.Cm (ik rvalid_any rcompare_any)
open Go.Proofs.Ytkanjbeijoeenaa.Oi (wts)
open Go.Proofs.Ytkanjbeijoeenaa.Mb (hid box_below blk_lt new_at size_alloc cell_of fz_of Fp own_blocks own_lt E ze At4 Ents OwnE drew_below drewN_below)
set_option linter.unusedVariables false
set_option linter.unusedSimpArgs false

/-- What Bytes holds: what it has laid, the places' bytes, the last key, the key. -/
structure St (w0 w : World) (n0 : Nat) (vo vp : Value) (la : Option Addr) (ln lc kg kn kc : Nat) (ent pb last kz : List Int) : Prop where
  o : OwnB w n0 vo ent
  p : OwnB w n0 vp pb
  l : Bytes w la ln lc last
  k : Bytes w (some ⟨kg, 0, none⟩) kn kc kz
  op : ∀ j, vo.ownBlock = some j → vp.ownBlock ≠ some j
  ol : ∀ x, la = some x → vo.ownBlock ≠ some x.block ∧ vp.ownBlock ≠ some x.block ∧ x.block < w.heap.size
  ok : vo.ownBlock ≠ some kg ∧ vp.ownBlock ≠ some kg ∧ kg < w.heap.size
  bw : Below n0 w0 w
  hb : n0 ≤ w.heap.size
theorem bytes_grown {w w' : World} {row : Option Nat} {a : Option Addr} {n c : Nat} {zs : List Int} (h : Bytes w a n c zs) (k : w.grownBy w' row) (hne : ∀ x, a = some x → row ≠ some x.block ∧ x.block < w.heap.size) : Bytes w' a n c zs := by
  refine ⟨h.1, h.2.1, h.2.2.1, h.2.2.2.1, fun x hx i hi => ?_⟩
  have h1 := h.2.2.2.2 x hx i hi
  have e : w'.heap[x.block]? = w.heap[x.block]? := k.block x.block (hne x hx).2 (fun e => (hne x hx).1 e.symm)
  have hbk : (x.add i).block = x.block := by unfold Addr.add; split <;> rfl
  unfold World.cell? at h1 ⊢
  rw [hbk] at h1 ⊢
  rw [e]
  exact h1
theorem St.later {w0 w w' : World} {n0 : Nat} {vo vp : Value} {la : Option Addr} {ln lc kg kn kc : Nat} {ent pb last kz : List Int} (h : St w0 w n0 vo vp la ln lc kg kn kc ent pb last kz) (b : Below w.heap.size w w') : St w0 w' n0 vo vp la ln lc kg kn kc ent pb last kz :=
  ⟨h.o.later b, h.p.later b, bytes_kept h.l b, bytes_kept h.k b, h.op, fun x hx => ⟨(h.ol x hx).1, (h.ol x hx).2.1, Nat.lt_of_lt_of_le (h.ol x hx).2.2 b.size⟩, ⟨h.ok.1, h.ok.2.1, Nat.lt_of_lt_of_le h.ok.2.2 b.size⟩, h.bw.trans (b.mono h.hb), Nat.le_trans h.hb b.size⟩
theorem St.out {w0 w w' : World} {n0 : Nat} {vo vp v' : Value} {la : Option Addr} {ln lc kg kn kc : Nat} {ent pb last kz ent' : List Int} (h : St w0 w n0 vo vp la ln lc kg kn kc ent pb last kz) (k : w.grownBy w' vo.ownBlock) (o : OwnB w' n0 v' ent') (q : v'.ownBlock = vo.ownBlock ∨ ∃ j, v'.ownBlock = some j ∧ w.heap.size ≤ j) : St w0 w' n0 v' vp la ln lc kg kn kc ent' pb last kz := by
  have hne : ∀ b, vo.ownBlock ≠ some b → b < w.heap.size → v'.ownBlock ≠ some b := by
    intro b h1 h2 e
    rcases q with q | ⟨j, q, hj⟩
    · exact h1 (by rw [← q]; exact e)
    · rw [q] at e; cases e; omega
  have hp : ∀ j, vp.ownBlock = some j → vo.ownBlock ≠ some j := fun j hj e => h.op j e hj
  refine ⟨o, own_blocks h.p (fun j hj => k.block j (own_lt h.p j hj).2 (fun e => hp j hj e.symm)), bytes_grown h.l k (fun x hx => ⟨(h.ol x hx).1, (h.ol x hx).2.2⟩), bytes_grown h.k k (fun x hx => by cases hx; exact ⟨h.ok.1, h.ok.2.2⟩), ?_, ?_, ?_, h.bw.grown k h.hb (fun j hj => (own_lt h.o j hj).1), Nat.le_trans h.hb k.size⟩
  · intro j hj e
    exact hne j (hp j e) (own_lt h.p j e).2 hj
  · intro x hx
    exact ⟨hne _ (h.ol x hx).1 (h.ol x hx).2.2, (h.ol x hx).2.1, Nat.lt_of_lt_of_le (h.ol x hx).2.2 k.size⟩
  · exact ⟨hne _ h.ok.1 h.ok.2.2, h.ok.2.1, Nat.lt_of_lt_of_le h.ok.2.2 k.size⟩
theorem St.swap {w0 w : World} {n0 : Nat} {vo vp : Value} {la : Option Addr} {ln lc kg kn kc : Nat} {ent pb last kz : List Int} (h : St w0 w n0 vo vp la ln lc kg kn kc ent pb last kz) : St w0 w n0 vp vo la ln lc kg kn kc pb ent last kz :=
  ⟨h.p, h.o, h.l, h.k, fun j hj e => h.op j e hj, fun x hx => ⟨(h.ol x hx).2.1, (h.ol x hx).1, (h.ol x hx).2.2⟩, ⟨h.ok.2.1, h.ok.1, h.ok.2.2⟩, h.bw, h.hb⟩
theorem q_of {v v' : Value} {n m : Nat} (h : v'.ownBlock = v.ownBlock ∨ v'.ownBlock = some n) (hm : m ≤ n) : v'.ownBlock = v.ownBlock ∨ ∃ j, v'.ownBlock = some j ∧ m ≤ j := by
  rcases h with h | h
  · exact .inl h
  · exact .inr ⟨_, h, hm⟩

theorem rcheck_arg (a : Option Addr) (n c : Nat) (x : E) (w : World) (hx : x.ok) (hm : may x = false) :
    Calls Try.prog 16 #[.slice a n c, .agg #[.string x.k, .int .u64 x.s, .int .i64 x.c, .string x.v]] w fun e w' => e = .returned (.int .i64 2) ∧ Below w.heap.size w w' := by
  obtain ⟨k, s, q, v⟩ := x
  obtain ⟨hk, hs, hc, hv⟩ := hx
  dsimp only at *
  obtain ⟨W, hW⟩ : ∃ W, W = w.alloc (.cells #[.string k, .int .u64 s, .int .i64 q, .string v] 38) := ⟨_, rfl⟩
  have B : Hid (Below w.heap.size w W) := by show Below _ _ _; rw [hW]; exact box_below _ _
  have k0 : W.heap[w.heap.size]? = some (.cells #[.string k, .int .u64 s, .int .i64 q, .string v] 38) := by rw [hW]; exact new_at _ _
  have HV := rvalid_any k s q W hk
  have hvm : v.size ≤ 9223372036854775807 := by unfold maxLen at hv; omega
  cases hvl : vld k s q with
  | false =>
    rw [show Cm.vld k s q = false from hvl] at HV
    replace HV := hid HV
    replace hW := hid hW
    clear hm hvl k0
    go_enter Try.func16, Try.ntmps16
    go_wp2_with fail
    rw [← hW.out]
    refine HV.out.mono ?_
    rintro e w1 ⟨rfl, b1⟩
    have B1 : Hid (Below w.heap.size w w1) := B.out.trans (b1.mono B.out.size)
    clear b1
    go_wp2_with fail
    go_ret
    exact ⟨rfl, B1.out⟩
  | true =>
    rw [show Cm.vld k s q = true from hvl] at HV
    have hvs : 65536 < v.size := by
      unfold may at hm
      dsimp only at hm
      rw [hvl, Bool.true_and] at hm
      have := of_decide_eq_false hm
      omega
    have hvs' : (65536 : Int) < (v.size : Int) := by omega
    replace HV := hid HV
    replace hW := hid hW
    replace k0 := hid k0
    clear hm hvl
    go_enter Try.func16, Try.ntmps16
    go_wp2_with fail
    rw [← hW.out]
    refine HV.out.mono ?_
    rintro e w1 ⟨rfl, b1⟩
    have k1 := (b1.block _ (blk_lt k0.out)).trans k0.out
    have y3 := cell_of k1 3 _ rfl
    have B1 : Hid (Below w.heap.size w w1) := B.out.trans (b1.mono B.out.size)
    clear b1 k1
    go_wp2_with fail
    go_ret
    exact ⟨rfl, B1.out⟩
set_option maxRecDepth 100000 in
set_option maxHeartbeats 1000000 in
theorem rcheck_may (a : Option Addr) (n c : Nat) (xs : List E) (x : E) (w : World) (H : Ents w a n c xs) (hn : n ≤ 1000000000) (hx : x.ok) (hm : may x = true) :
    Calls Try.prog 16 #[.slice a n c, .agg #[.string x.k, .int .u64 x.s, .int .i64 x.c, .string x.v]] w fun e w' => e = .returned (.int .i64 (if beh xs x then 0 else 80)) ∧ Below w.heap.size w w' := by
  obtain ⟨hvl, hvs⟩ := may_vld hm
  obtain ⟨E0, hE0⟩ : ∃ E0, E0 = (if beh xs x then (0 : Int) else 80) := ⟨_, rfl⟩
  rw [← hE0]
  obtain ⟨k, s, q, v⟩ := x
  obtain ⟨hk, hs, hc, hv⟩ := hx
  dsimp only at *
  obtain ⟨W, hW⟩ : ∃ W, W = w.alloc (.cells #[.string k, .int .u64 s, .int .i64 q, .string v] 38) := ⟨_, rfl⟩
  have B : Hid (Below w.heap.size w W) := by show Below _ _ _; rw [hW]; exact box_below _ _
  obtain ⟨g0, hg0⟩ : ∃ g, g = w.heap.size := ⟨_, rfl⟩
  have k0 : Hid (W.heap[g0]? = some (.cells #[.string k, .int .u64 s, .int .i64 q, .string v] 38)) := by show _ = _; rw [hW, hg0]; exact new_at _ _
  have HV := rvalid_any k s q W hk
  rw [show Cm.vld k s q = true from hvl] at HV
  replace HV := hid HV
  have hvs' : ¬ (65536 : Int) < (v.size : Int) := by omega
  have hlen := H.1
  have hcap := H.2.1
  replace H := hid H
  replace hW := hid hW
  replace hg0 := hid hg0
  clear hm hvl
  cases hl : xs.getLast? with
  | none =>
    have hxe := List.getLast?_eq_none_iff.1 hl
    subst hxe
    obtain rfl : n = 0 := by simpa using hlen.symm
    obtain rfl : E0 = 0 := hE0
    clear hlen hl
    go_enter Try.func16, Try.ntmps16
    go_wp2_with fail
    rw [← hW.out, ← hg0.out]
    refine HV.out.mono ?_
    rintro e w1 ⟨rfl, b1⟩
    have k1 := (b1.block _ (blk_lt k0.out)).trans k0.out
    have y3 := cell_of k1 3 _ rfl
    have B1 : Below w.heap.size w w1 := B.out.trans (b1.mono B.out.size)
    have AFT : Hid (∀ nn, Below w.heap.size w (w1.drewN nn)) := fun nn => B1.trans ((drewN_below w1 nn).mono B1.size)
    clear b1 k1 B1
    go_wp2_with fail
    go_quiet (fail)
    go_wp2_with fail
    go_ret
    exact ⟨rfl, AFT.out _⟩
  | some y =>
    obtain ⟨ys, hys⟩ := List.getLast?_eq_some_iff.1 hl
    have hq : n = ys.length + 1 := by rw [← hlen, hys, List.length_append]; rfl
    have hby : beh xs (⟨k, s, q, v⟩ : E) = decide (cmp y.ik (ik k s q) < 0) := by unfold beh; rw [hl]; rfl
    cases a with
    | none => exact absurd (H.out.2.2.1 rfl).1 (by omega)
    | some ad =>
      obtain ⟨hb, ho, hp⟩ := ad
      obtain ⟨rfl, hat⟩ := H.out.2.2.2.2 hb ho hp rfl (by omega)
      have hlast := hat ys.length (by omega)
      have hgy : xs.getD ys.length ze = y := by rw [hys]; simp [List.getD_eq_getElem?_getD]
      rw [hgy] at hlast
      have hC : Hid (∀ W, Calls Try.prog 36 #[.agg #[.string y.k, .int .u64 y.s, .int .i64 y.c], .agg #[.string k, .int .u64 s, .int .i64 q]] W fun e w' => e = .returned (.int .i64 (cmp y.ik (ik k s q))) ∧ Below W.heap.size W w') := fun W => rcompare_any _ _ _ _ _ _ W
      generalize ys.length = p at *
      have hq1 : IntKind.i64.wrap ((n : Int) - 1) = (p : Int) := by rw [IntKind.wrap_i64]; omega
      have hq2 : (p : Int) < (n : Int) := by omega
      have hq3 : (0 : Int) < (n : Int) := by omega
      have hq4 : 0 < n := by omega
      generalize cmp y.ik (ik k s q) = C at *
      replace hq := hid hq
      replace hby := hid hby
      replace hE0 := hid hE0
      replace hlast := hid hlast
      clear hl hys hgy hat
      go_enter Try.func16, Try.ntmps16
      go_wp2_with fail
      rw [← hW.out, ← hg0.out]
      refine HV.out.mono ?_
      rintro e w1 ⟨rfl, b1⟩
      have k1 := (b1.block _ (blk_lt k0.out)).trans k0.out
      have B1 : Below w.heap.size w w1 := B.out.trans (b1.mono B.out.size)
      have y3 := cell_of k1 3 _ rfl
      have z0 := cell_regrown (cell_of k1 0 _ rfl)
      have z1 := cell_regrown (cell_of k1 1 _ rfl)
      have z2 := cell_regrown (cell_of k1 2 _ rfl)
      obtain ⟨l0, l1, l2, l3⟩ := hlast.out.later B1
      replace l0 := cell_regrown l0
      replace l1 := cell_regrown l1
      replace l2 := cell_regrown l2
      replace B1 := hid B1
      clear b1 k1 l3
      go_wp2_with fail
      refine wp_region_quiet_below (by kernel_rfl) (by kernel_rfl) ?_
      repeat (first | go_big_quiet_step (first | (go_at_call 36; exact Calls.regrown_of (hC.out _))) | quiet_step (first | (go_at_call 36; exact Calls.regrown_of (hC.out _))))
      refine wpQuiet_nil ?_
      intro w5 hw5
      have b5 : Below w1.heap.size w1 w5 := by
        obtain ⟨⟨dq, osq⟩, hw''⟩ := hw5
        rw [hw'']
        exact below_regrown _ dq osq
      have B5 := hid (B1.out.trans (b5.mono B1.out.size))
      clear hw5 b5 z0 z1 z2 l0 l1 l2 hC y3
      by_cases hC0 : C < 0
      · have hC1 : ¬ 0 ≤ C := by omega
        have hC2 : decide (0 ≤ C) = false := decide_eq_false hC1
        obtain rfl : E0 = 0 := by rw [hE0.out, hby.out, decide_eq_true hC0]; rfl
        clear hby hE0 hC0
        go_wp2_with fail
        go_ret
        exact ⟨rfl, B5.out⟩
      · have hC1 : 0 ≤ C := by omega
        have hC2 : decide (0 ≤ C) = true := decide_eq_true hC1
        obtain rfl : E0 = 80 := by rw [hE0.out, hby.out, decide_eq_false hC0]; rfl
        clear hby hE0 hC0
        go_wp2_with fail
        go_ret
        exact ⟨rfl, B5.out⟩
end Go.Proofs.Ytkanjbeijoeenaa.Rb

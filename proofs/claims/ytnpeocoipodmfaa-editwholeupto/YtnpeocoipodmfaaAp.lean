/- The law's apart: no place goes twice, no Number comes twice. -/
import Derived.Test.YtnpeocoipodmfaaKm
namespace Go.Proofs.Ytnpeocoipodmfaa.Ap
open Go.ChangeShapes Go.WideShapes Go.ChangeAt Go.RowKit
open Go.Proofs.Ytnpeocoipodmfaa.Gr
open Go.Proofs.Ytnpeocoipodmfaa.Ev
open Go.Proofs.Ytnpeocoipodmfaa.Ss
open Go.Proofs.Ytnpeocoipodmfaa.Le
open Go.Proofs.Ytnpeocoipodmfaa.Km
set_option linter.unusedVariables false
set_option linter.unusedSimpArgs false

theorem eq_run (w : World) (a b c d : Int) : Sem.run Try.prog (binOp .eql 57 (.agg #[.int .i64 a, .int .i64 b]) (.agg #[.int .i64 c, .int .i64 d])) w = .ok (.bool ((a == c) && (b == d))) w := by
  simp [binOp, eq_pl, Result.andThen]
/-- An edit's cells. -/
structure Hd where
  log : Int
  nx : Int
  sq : Int
  a : Option Addr
  n : Nat
  c : Nat
  a' : Option Addr
  n' : Nat
  c' : Nat
def zh : Hd := ⟨0, 0, 0, none, 0, 0, none, 0, 0⟩
def eEd : El Hd where
  st := 93
  et := 26
  k := 5
  by_ := 72
  cs := fun x => [.int .i64 x.log, .int .i64 x.nx, .int .u64 x.sq, .slice x.a x.n x.c, .slice x.a' x.n' x.c']
  z := zh
  zv := .agg #[.int .i64 0, .int .i64 0, .int .u64 0, .slice none 0 0, .slice none 0 0]
  len := fun _ => rfl
  one := by intro x u h; simp at h; rcases h with rfl | rfl | rfl | rfl | rfl <;> rfl
  und := Try.underlying93
  info := by kernel_rfl
  zc := rfl
  pos := by decide
  ok := fun _ => True
theorem ed_at {w : World} {b o : Nat} {x : Hd} (h : eEd.At w b o x) : w.cell? ⟨b, o, none⟩ = some (.int .i64 x.log) ∧ w.cell? ⟨b, o + 1, none⟩ = some (.int .i64 x.nx) ∧ w.cell? ⟨b, o + 2, none⟩ = some (.int .u64 x.sq) ∧ w.cell? ⟨b, o + 3, none⟩ = some (.slice x.a x.n x.c) ∧ w.cell? ⟨b, o + 4, none⟩ = some (.slice x.a' x.n' x.c') := ⟨h 0 _ rfl, h 1 _ rfl, h 2 _ rfl, h 3 _ rfl, h 4 _ rfl⟩
def eInt : El Int where
  st := 94
  et := 3
  k := 1
  by_ := 8
  cs := fun x => [.int .i64 x]
  z := 0
  zv := .int .i64 0
  len := fun _ => rfl
  one := by intro x u h; simp at h; rcases h with rfl; rfl
  und := Try.underlying94
  info := by kernel_rfl
  zc := rfl
  pos := by decide
  ok := fun _ => True
def gsum (es : List Ed) (k : Nat) : List Pl := (es.take k).flatMap Ed.go
def csum (es : List Ed) (k : Nat) : List Int := (es.take k).flatMap fun e => e.co.map (·.f.n)
theorem take_snoc {es : List Ed} {k : Nat} (h : k < es.length) : es.take (k + 1) = es.take k ++ [es.getD k zed] := by
  rw [List.take_succ_eq_append_getElem h, List.getD_eq_getElem?_getD, List.getElem?_eq_getElem h]
  rfl
theorem gsum_succ {es : List Ed} {k : Nat} (h : k < es.length) : gsum es (k + 1) = gsum es k ++ (es.getD k zed).go := by
  unfold gsum; rw [take_snoc h]; simp
theorem csum_succ {es : List Ed} {k : Nat} (h : k < es.length) : csum es (k + 1) = csum es k ++ (es.getD k zed).co.map (·.f.n) := by
  unfold csum; rw [take_snoc h]; simp
theorem nodup_snoc {α : Type} {l : List α} {x : α} (h : l.Nodup) (hx : ∀ y ∈ l, y ≠ x) : (l ++ [x]).Nodup := by
  rw [List.nodup_append]
  exact ⟨h, by simp, fun y hy z hz => by simp at hz; subst hz; exact hx y hy⟩
theorem gsum_le {es : List Ed} {k : Nat} : ∀ {m : Nat}, k ≤ m → m ≤ es.length → (gsum es k).length ≤ (gsum es m).length ∧ (csum es k).length ≤ (csum es m).length := by
  intro m
  induction m with
  | zero => intro h _; have : k = 0 := by omega
            subst this; exact ⟨Nat.le_refl _, Nat.le_refl _⟩
  | succ m ih =>
    intro h hm
    by_cases e : k = m + 1
    · subst e; exact ⟨Nat.le_refl _, Nat.le_refl _⟩
    · have := ih (by omega) (by omega)
      rw [gsum_succ (by omega), csum_succ (by omega)]
      simp only [List.length_append]
      omega
/-- What a round of the loops over edits leaves. -/
structure St (w : World) (base : Nat) (W : World) (vg vc : Value) (gs : List Pl) (cs : List Int) : Prop where
  g : ePl.Own W base vg gs
  c : eInt.Own W base vc cs
  lo : Below base w W
  b : base ≤ W.heap.size
  dg : gs.Nodup
  dc : cs.Nodup
theorem St.later {w : World} {base : Nat} {W W' : World} {vg vc : Value} {gs : List Pl} {cs : List Int} (h : St w base W vg vc gs cs) (b : Below W.heap.size W W') : St w base W' vg vc gs cs :=
  ⟨h.g.later b, h.c.later b, Below.tr h.lo b h.b, Nat.le_trans h.b b.size, h.dg, h.dc⟩
theorem apart_ty {W : World} {e e' size size' n n' base base' : Nat} {v v' : Value} {zs zs' : List Value} (h : W.ownsRow base e size v n zs) (h' : W.ownsRow base' e' size' v' n' zs') (he : e ≠ e') : ∀ j, v.ownBlock = some j → v'.ownBlock ≠ some j := by
  intro j hj hj'
  rcases h.2 with ⟨h1, _⟩ | ⟨g, c, cur, h1, h2, h3, h4⟩
  · rw [h1] at hj; simp [Value.ownBlock] at hj
  · rcases h'.2 with ⟨k1, _⟩ | ⟨g', c', cur', k1, k2, k3, k4⟩
    · rw [k1] at hj'; simp [Value.ownBlock] at hj'
    · rw [h1] at hj; rw [k1] at hj'
      simp [Value.ownBlock] at hj hj'
      subst hj hj'
      rw [h3] at k3
      injection k3 with k3
      injection k3 with _ k3
      exact he k3
theorem own_ty {W : World} {e size n base g : Nat} {v : Value} {zs : List Value} {c : Array Value} {t : TypeId} (h : W.ownsRow base e size v n zs) (k : W.heap[g]? = some (.cells c t)) (he : e ≠ t) : ∀ j, v.ownBlock = some j → j ≠ g := by
  intro j hj e1
  subst e1
  rcases h.2 with ⟨h1, _⟩ | ⟨g', c', cur, h1, h2, h3, h4⟩
  · rw [h1] at hj; simp [Value.ownBlock] at hj
  · rw [h1] at hj
    simp [Value.ownBlock] at hj
    subst hj
    rw [h3] at k
    injection k with k
    injection k with _ k
    exact he k
theorem own_some {α : Type} {E : El α} {W : World} {base n c : Nat} {a : Option Addr} {xs : List α} (h : E.Own W base (.slice a n c) xs) (hx : 0 < xs.length) : ∃ b, a = some ⟨b, 0, none⟩ ∧ n ≤ c ∧ ∀ i, i < xs.length → E.At W b (i * E.k) (xs.getD i E.z) := by
  have h' := h
  rcases h.2 with ⟨e, h0⟩ | ⟨g, c', cur, e, hb, hg, hn, hm, hs, ht⟩
  · omega
  · injection e with e1 e2 e3
    subst e1 e2 e3
    exact ⟨g, rfl, hn, fun i hi => h'.at i hi⟩
theorem row_any {w : World} {base e size n : Nat} {v : Value} {xs : List Value} (h : w.ownsRow base e size v n xs) : ∃ a c, v = .slice a n c := row_block h
theorem St.appg {w : World} {base : Nat} {W : World} {vg vc : Value} {gs : List Pl} {cs : List Int} (h : St w base W vg vc gs cs) (x : Pl) (A : Array Value) (hA : A = #[.int .i64 x.l, .int .i64 x.n]) (hx : ∀ y ∈ gs, y ≠ x) (hn : gs.length + 1 ≤ 1099511627777) :
    ∃ v' W', (Builtin.append_ #[23, 23] 23 #[vg, .slice (some ⟨W.heap.size, 0, none⟩) 1 1]).run Try.prog (W.alloc (.cells A 57)) = .ok v' W' ∧ St w base W' v' vc (gs ++ [x]) cs ∧ W.grownBy W' vg.ownBlock := by
  obtain ⟨v', W', h1, h2, h3, h4⟩ := El.app1 ePl W base vg gs x A (by rw [hA]; rfl) h.g (by show (_ + 1) * 16 ≤ _; omega) (by omega) h.b
  have hc := own_blocks h.c (w' := W') (fun j hj => h3.block j (own_lt h.c j hj).2 (fun e => apart_ty h.g h.c (by decide) j e.symm hj))
  refine ⟨v', W', h1, ⟨h2, hc, ?_, Nat.le_trans h.b h3.size, nodup_snoc h.dg hx, h.dc⟩, h3⟩
  exact ⟨h3.os.trans h.lo.os, h3.tape.trans h.lo.tape, h3.output.trans h.lo.output, Nat.le_trans h.lo.size h3.size, fun j hj => (h3.block j (by have := h.b; omega) (fun e => by have := (own_lt h.g j e.symm).1; omega)).trans (h.lo.block j hj)⟩
theorem St.appc {w : World} {base : Nat} {W : World} {vg vc : Value} {gs : List Pl} {cs : List Int} (h : St w base W vg vc gs cs) (x : Int) (hx : ∀ y ∈ cs, y ≠ x) (hn : cs.length + 1 ≤ 1099511627777) :
    ∃ v' W', (Builtin.append_ #[94, 94] 94 #[vc, .slice (some ⟨W.heap.size, 0, none⟩) 1 1]).run Try.prog (W.alloc (.cells #[.int .i64 x] 3)) = .ok v' W' ∧ St w base W' vg v' gs (cs ++ [x]) ∧ W.grownBy W' vc.ownBlock := by
  obtain ⟨v', W', h1, h2, h3, h4⟩ := El.app1 eInt W base vc cs x #[.int .i64 x] rfl h.c (by show (_ + 1) * 8 ≤ _; omega) (by omega) h.b
  have hg := own_blocks h.g (w' := W') (fun j hj => h3.block j (own_lt h.g j hj).2 (fun e => apart_ty h.c h.g (by decide) j e.symm hj))
  refine ⟨v', W', h1, ⟨hg, h2, ?_, Nat.le_trans h.b h3.size, h.dg, nodup_snoc h.dc hx⟩, h3⟩
  exact ⟨h3.os.trans h.lo.os, h3.tape.trans h.lo.tape, h3.output.trans h.lo.output, Nat.le_trans h.lo.size h3.size, fun j hj => (h3.block j (by have := h.b; omega) (fun e => by have := (own_lt h.c j e.symm).1; omega)).trans (h.lo.block j hj)⟩
set_option maxHeartbeats 4000000 in
set_option maxRecDepth 100000 in
theorem apart_any (g n : Nat) (hs : List Hd) (es : List Ed) (w : World) (H : eEd.Sl w (some ⟨g, 0, none⟩) n n hs) (hn : es.length = n) (hnb : n ≤ 1000) (HE : ∀ i, i < n → (hs.getD i zh).n = (es.getD i zed).go.length ∧ (hs.getD i zh).n' = (es.getD i zed).co.length ∧ ePl.Sl w (hs.getD i zh).a (hs.getD i zh).n (hs.getD i zh).c (es.getD i zed).go ∧ eAd.Sl w (hs.getD i zh).a' (hs.getD i zh).n' (hs.getD i zh).c' (es.getD i zed).co)
    (hg : (gsum es n).length ≤ 1099511627776) (hc : (csum es n).length ≤ 1099511627776) :
    Calls Try.prog 22 #[.slice (some ⟨g, 0, none⟩) n n] w fun e w' => ∃ B : Bool, e = .returned (.bool B) ∧ (B = true → (gsum es n).Nodup ∧ (csum es n).Nodup) ∧ Below w.heap.size w w' := by
  obtain ⟨base, hbase⟩ : ∃ b, b = w.heap.size := ⟨_, rfl⟩
  rw [← hbase]
  have S0 : Hid (St w base w (.slice none 0 0) (.slice none 0 0) [] []) := ⟨El.Own.nil _ _ _, El.Own.nil _ _ _, Below.refl _ _, by omega, List.nodup_nil, List.nodup_nil⟩
  have HL : Hid (∀ W, Below base w W → eEd.Sl W (some ⟨g, 0, none⟩) n n hs) := fun W b => H.later (by rw [← hbase]; exact b)
  have HM : Hid (∀ W, Below base w W → ∀ i, i < n → ePl.Sl W (hs.getD i zh).a (hs.getD i zh).n (hs.getD i zh).c (es.getD i zed).go ∧ eAd.Sl W (hs.getD i zh).a' (hs.getD i zh).n' (hs.getD i zh).c' (es.getD i zed).co) := fun W b i hi => ⟨(HE i hi).2.2.1.later (by rw [← hbase]; exact b), (HE i hi).2.2.2.later (by rw [← hbase]; exact b)⟩
  have HN : Hid (∀ i, i < n → (hs.getD i zh).n = (es.getD i zed).go.length ∧ (hs.getD i zh).n' = (es.getD i zed).co.length) := fun i hi => ⟨(HE i hi).1, (HE i hi).2.1⟩
  replace hg := hid hg
  replace hc := hid hc
  replace hn := hid hn
  replace hbase := hid hbase
  clear H HE
  go_enter Try.func22, Try.ntmps22
  go_wp2_with fail
  go_loopw [3, 4, 17] (fun vg vc i wr => ∃ k : Nat, i = .int .i64 k ∧ k ≤ n ∧ St w base wr vg vc (gsum es k) (csum es k)) (fun _ _ i _ => n - (intOf i).toNat)
  case atStart => exact ⟨0, rfl, by omega, S0.out⟩
  case round =>
    clear S0
    obtain ⟨k, rfl, hk, S⟩ := hrel
    by_cases hlt : k < n
    · obtain ⟨_, hat⟩ := (HL.out wr S.lo).cells g 0 none rfl (by omega)
      have hat := ed_at (hat k hlt)
      obtain ⟨x, hx⟩ : ∃ x, x = hs.getD k zh := ⟨_, rfl⟩
      have hN := HN.out k hlt
      obtain ⟨M1, M2⟩ := HM.out wr S.lo k hlt
      rw [show hs.getD k eEd.z = x from hx.symm] at hat
      rw [← hx] at hN M1 M2
      obtain ⟨ed, hed⟩ : ∃ e, e = es.getD k zed := ⟨_, rfl⟩
      rw [← hed] at hN M1 M2
      obtain ⟨hl, hn', hq, ha, hna, hca, hb, hnb', hcb⟩ := x
      obtain ⟨c1, c2, c3, c4, c5⟩ := hat
      simp only [show eEd.k = 5 from rfl, Nat.zero_add] at c1 c2 c3 c4 c5
      dsimp only at hN M1 M2
      have ik0 : (k : Int) < (n : Int) := by omega
      have ok0 : (0 : Int) ≤ (k : Int) := by omega
      have hgs : Hid (gsum es (k + 1) = gsum es k ++ ed.go) := by show _ = _; rw [gsum_succ (by rw [hn.out]; exact hlt), hed]
      have hcs : Hid (csum es (k + 1) = csum es k ++ ed.co.map (·.f.n)) := by show _ = _; rw [csum_succ (by rw [hn.out]; exact hlt), hed]
      have hgl : Hid ((gsum es k).length + ed.go.length ≤ 1099511627776) := by
        show _ ≤ _
        have := (gsum_le (es := es) (k := k + 1) (m := n) (by omega) (by rw [hn.out]; exact Nat.le_refl _)).1
        rw [hgs.out, List.length_append] at this
        have := hg.out; omega
      have hcl : Hid ((csum es k).length + ed.co.length ≤ 1099511627776) := by
        show _ ≤ _
        have := (gsum_le (es := es) (k := k + 1) (m := n) (by omega) (by rw [hn.out]; exact Nat.le_refl _)).2
        rw [hcs.out, List.length_append, List.length_map] at this
        have := hc.out; omega
      obtain ⟨G, hG⟩ : ∃ G, G = gsum es k := ⟨_, rfl⟩
      obtain ⟨C, hC⟩ : ∃ C, C = csum es k := ⟨_, rfl⟩
      rw [← hG] at S hgs hgl
      rw [← hC] at S hcs hcl
      replace hx := hid hx
      replace hed := hid hed
      replace hG := hid hG
      replace hC := hid hC
      have hb1 := box_below wr (.cells #[.int .i64 hl, .int .i64 hn', .int .u64 hq, .slice ha hna hca, .slice hb hnb' hcb] 26)
      have ke := new_at wr (.cells #[.int .i64 hl, .int .i64 hn', .int .u64 hq, .slice ha hna hca, .slice hb hnb' hcb] 26)
      obtain ⟨W1, hW1⟩ : ∃ W1, W1 = wr.alloc (.cells #[.int .i64 hl, .int .i64 hn', .int .u64 hq, .slice ha hna hca, .slice hb hnb' hcb] 26) := ⟨_, rfl⟩
      rw [← hW1] at hb1 ke
      obtain ⟨ge, hge⟩ : ∃ ge, ge = wr.heap.size := ⟨_, rfl⟩
      rw [← hge] at ke
      have S1 := hid (S.later hb1)
      have N1 := hN.1
      have N2 := hN.2
      clear hN
      have nb1 : hna ≤ 1099511627776 := by have := hgl.out; omega
      have nb2 : hnb' ≤ 1099511627776 := by have := hcl.out; omega
      replace N1 := hid N1
      replace N2 := hid N2
      have E1 : Hid (∀ W, Below W1.heap.size W1 W → ePl.Sl W ha hna hca ed.go) := fun W b => (M1.later hb1).later b
      have E2 : Hid (∀ W, Below W1.heap.size W1 W → eAd.Sl W hb hnb' hcb ed.co) := fun W b => (M2.later hb1).later b
      replace S := hid S
      replace hW1 := hid hW1
      replace hge := hid hge
      replace ke := hid ke
      have hgeb : Hid (base ≤ ge) := by show _ ≤ _; rw [hge.out]; exact S.out.b
      clear M1 M2 hb1
      go_wp2_with fail
      rw [← hW1.out, ← hge.out]
      clear c1 c2 c3 c4 c5
      obtain ⟨vc0, hvc0⟩ : ∃ v, v = u4 := ⟨_, rfl⟩
      rw [← hvc0] at S1
      rw [← hvc0]
      replace hvc0 := hid hvc0
      go_loopw [3, 24] (fun vg j wr => ∃ m : Nat, j = .int .i64 m ∧ m ≤ hna ∧ St w base wr vg vc0 (G ++ ed.go.take m) C ∧ wr.heap[ge]? = some (.cells #[.int .i64 hl, .int .i64 hn', .int .u64 hq, .slice ha hna hca, .slice hb hnb' hcb] 26)) (fun _ j _ => hna - (intOf j).toNat)
      case atStart => exact ⟨0, rfl, by omega, by simpa using S1.out, ke.out⟩
      case round =>
        clear S1 ke
        obtain ⟨m, rfl, hm, S, ke⟩ := hrel
        by_cases hlt2 : m < hna
        · have P1 := (HM.out wr S.lo k hlt).1
          rw [← hx.out, ← hed.out] at P1
          dsimp only at P1
          cases ha with
          | none => have := (P1.nil rfl).1; omega
          | some ad =>
            obtain ⟨p, off, sp⟩ := ad
            obtain ⟨rfl, hat⟩ := P1.cells p off sp rfl (by omega)
            have hat := pl_at (hat m hlt2)
            have hlc := P1.c
            obtain ⟨y, hy⟩ : ∃ y, y = ed.go.getD m ePl.z := ⟨_, rfl⟩
            rw [← hy] at hat
            obtain ⟨el, en⟩ := y
            obtain ⟨e1, e2⟩ := hat
            simp only [show ePl.k = 2 from rfl] at e1 e2
            have ik1 : (m : Int) < (hna : Int) := by omega
            have ok1 : (0 : Int) ≤ (m : Int) := by omega
            have htk : Hid (G ++ ed.go.take (m + 1) = G ++ ed.go.take m ++ [⟨el, en⟩]) := by show _ = _; rw [El.take_snoc (E := ePl) (by rw [← N1.out]; exact hlt2), ← hy, List.append_assoc]
            obtain ⟨W2, hW2⟩ : ∃ W2, W2 = wr.alloc (.cells #[.int .i64 el, .int .i64 en] 57) := ⟨_, rfl⟩
            have b2 : Below wr.heap.size wr W2 := by rw [hW2]; exact box_below _ _
            have kp : W2.heap[wr.heap.size]? = some (.cells #[.int .i64 el, .int .i64 en] 57) := by rw [hW2]; exact new_at _ _
            obtain ⟨gp, hgp⟩ : ∃ gp, gp = wr.heap.size := ⟨_, rfl⟩
            rw [← hgp] at kp
            have S2 := S.later b2
            have ke2 := hid (below_blk ke b2)
            have hlen : (G ++ ed.go.take m).length ≤ 1099511627776 := by have := hgl.out; rw [List.length_append, List.length_take]; omega
            obtain ⟨GL, hGL⟩ : ∃ GL, GL = G ++ ed.go.take m := ⟨_, rfl⟩
            rw [← hGL] at S2 hlen htk
            obtain ⟨ra, rc, hra⟩ := row_any S2.g
            subst hra
            replace hGL := hid hGL
            replace hW2 := hid hW2
            replace hgp := hid hgp
            replace hy := hid hy
            replace S := hid S
            replace P1 := hid P1
            replace ke := hid ke
            obtain ⟨NL, hNL⟩ : ∃ NL, NL = GL.length := ⟨_, rfl⟩
            rw [← hNL] at S2 hlen ⊢
            have SR : Hid (∀ W, Below W2.heap.size W2 W → ePl.Own W base (.slice ra NL rc) GL) := fun W b => S2.g.later b
            have SS : Hid (∀ W, Below W2.heap.size W2 W → St w base W (.slice ra NL rc) vc0 GL C) := fun W b => S2.later b
            have KP : Hid (∀ W, Below W2.heap.size W2 W → W.heap[gp]? = some (.cells #[.int .i64 el, .int .i64 en] 57)) := fun W b => below_blk kp b
            have KE : Hid (∀ W, Below W2.heap.size W2 W → W.heap[ge]? = some (.cells #[.int .i64 hl, .int .i64 hn', .int .u64 hq, .slice (some ⟨p, off, none⟩) hna hca, .slice hb hnb' hcb] 26)) := fun W b => below_blk ke2.out b
            replace hNL := hid hNL
            clear b2 kp ke2 S2
            have ce3 := cell_of ke.out 3 _ rfl
            go_wp2_with fail
            rw [← hW2.out, ← hgp.out]
            clear ce3 e1 e2
            go_loopw [30] (fun q wr => ∃ z : Nat, q = .int .i64 z ∧ z ≤ NL ∧ (∀ y ∈ GL.take z, y ≠ (⟨el, en⟩ : Pl)) ∧ Below W2.heap.size W2 wr) (fun q _ => NL - (intOf q).toNat)
            case atStart => exact ⟨0, rfl, by omega, by simp, Below.refl _ _⟩
            case round =>
              obtain ⟨z, rfl, hz, hne, bz⟩ := hrel
              replace hne := hid hne
              have kp := KP.out wr bz
              have x0 := cell_of kp 0 _ rfl
              have x1 := cell_of kp 1 _ rfl
              have hgz : gp < wr.heap.size := blk_lt kp
              clear kp
              by_cases hlt3 : z < NL
              · obtain ⟨rb, rfl, hrc, hat3⟩ := own_some (SR.out wr bz) (by rw [← hNL.out]; omega)
                have hat3 := pl_at (hat3 z (by rw [← hNL.out]; exact hlt3))
                obtain ⟨y, hy3⟩ : ∃ y, y = GL.getD z ePl.z := ⟨_, rfl⟩
                rw [← hy3] at hat3
                obtain ⟨fl, fn⟩ := y
                obtain ⟨d1, d2⟩ := hat3
                simp only [show ePl.k = 2 from rfl] at d1 d2
                have htk3 : Hid (GL.take (z + 1) = GL.take z ++ [⟨fl, fn⟩]) := by show _ = _; rw [El.take_snoc (E := ePl) (by rw [← hNL.out]; exact hlt3), ← hy3]
                have ik3 : (z : Int) < (NL : Int) := by omega
                have ok3 : (0 : Int) ≤ (z : Int) := by omega
                replace hy3 := hid hy3
                have bb := hid (Below.up bz (box_below wr (.cells #[.int .i64 fl, .int .i64 fn] 57)))
                replace bz := hid bz
                have hE := fun W => eq_run W el en fl fn
                by_cases heq : el = fl ∧ en = fn
                · obtain ⟨rfl, rfl⟩ := heq
                  simp only [BEq.rfl, Bool.and_self] at hE
                  go_wp2_with fail
                  go_ret
                  exact ⟨false, rfl, fun h => (by cases h), (SS.out _ bb.out).lo⟩
                · have hB : ((el == fl) && (en == fn)) = false := by
                    rw [Bool.and_eq_false_iff, beq_eq_false_iff_ne, beq_eq_false_iff_ne]
                    by_cases h4 : el = fl
                    · exact .inr (fun h5 => heq ⟨h4, h5⟩)
                    · exact .inl h4
                  simp only [hB] at hE
                  have hne' : Hid (∀ y ∈ GL.take (z + 1), y ≠ (⟨el, en⟩ : Pl)) := by
                    intro y hy4
                    rw [htk3.out, List.mem_append, List.mem_singleton] at hy4
                    rcases hy4 with h | h
                    · exact hne.out y h
                    · subst h; intro e; injection e with e5 e6; exact heq ⟨e5.symm, e6.symm⟩
                  clear heq hB
                  go_wp2_with fail
                  go_roundw
                  case rel => exact ⟨z + 1, by go_num, by omega, hne'.out, bb.out⟩
                  case measure => simp [intOf]; omega
              · have hke : z = NL := by omega
                subst hke
                have hne' : ∀ y ∈ GL, y ≠ (⟨el, en⟩ : Pl) := by
                  have := hne.out
                  rwa [hNL.out, List.take_length] at this
                obtain ⟨v9, W9, r9, S9, g9⟩ := (SS.out wr bz).appg ⟨el, en⟩ #[.int .i64 el, .int .i64 en] rfl hne' (by rw [← hNL.out]; omega)
                obtain ⟨sa, sc, hv9⟩ := row_any S9.g
                obtain ⟨n9, hn9⟩ : ∃ n9, n9 = (GL ++ [(⟨el, en⟩ : Pl)]).length := ⟨_, rfl⟩
                rw [← hn9] at hv9
                subst hv9
                replace hn9 := hid hn9
                have K9 := hid (grown_blk (KE.out wr bz) g9 (own_ty (SR.out wr bz) (KE.out wr bz) (by decide)))
                rw [← htk.out] at S9
                replace S9 := hid S9
                replace r9 := hid r9
                clear g9 hne' bz
                go_wp2_with (first | (at_builtin; refine wpList_append_run rfl (.tmp 38) (.tmp 40) 23 23 rfl (.slice ra z rc) (.slice (some ⟨wr.heap.size, 0, none⟩) 1 1) (.slice sa n9 sc) rfl rfl r9.out ?_))
                go_roundw
                case rel => exact ⟨m + 1, by go_num, by omega, S9.out, K9.out⟩
                case measure => simp [intOf]; omega
        · have hme : m = hna := by omega
          subst hme
          rw [show ed.go.take m = ed.go by rw [N1.out, List.take_length], ← hgs.out] at S
          have ce4 := cell_of ke 4 _ rfl
          replace S := hid S
          replace ke := hid ke
          go_wp2_with fail
          clear ce4
          obtain ⟨vg0, hvg0⟩ : ∃ v, v = u3 := ⟨_, rfl⟩
          rw [← hvg0] at S
          rw [← hvg0]
          replace hvg0 := hid hvg0
          obtain ⟨GG, hGG⟩ : ∃ GG, GG = gsum es (k + 1) := ⟨_, rfl⟩
          rw [← hGG] at S
          replace hGG := hid hGG
          go_loopw [4, 46] (fun vc j wr => ∃ q : Nat, j = .int .i64 q ∧ q ≤ hnb' ∧ St w base wr vg0 vc GG (C ++ (ed.co.take q).map (·.f.n)) ∧ wr.heap[ge]? = some (.cells #[.int .i64 hl, .int .i64 hn', .int .u64 hq, .slice ha m hca, .slice hb hnb' hcb] 26)) (fun _ j _ => hnb' - (intOf j).toNat)
          case atStart => exact ⟨0, rfl, by omega, by simpa using S.out, ke.out⟩
          case round =>
            clear S ke
            obtain ⟨q, rfl, hq', S, ke⟩ := hrel
            by_cases hlt2 : q < hnb'
            · have P1 := (HM.out wr S.lo k hlt).2
              rw [← hx.out, ← hed.out] at P1
              dsimp only at P1
              cases hb with
              | none => have := (P1.nil rfl).1; omega
              | some ad =>
                obtain ⟨p, off, sp⟩ := ad
                obtain ⟨rfl, hat⟩ := P1.cells p off sp rfl (by omega)
                have hat := ad_at (hat q hlt2)
                have hlc := P1.c
                obtain ⟨y, hy⟩ : ∃ y, y = ed.co.getD q eAd.z := ⟨_, rfl⟩
                rw [← hy] at hat
                obtain ⟨el, en, ez, ea, eb, elo, ehi⟩ := y
                obtain ⟨e1, e2, e3, e4, e5, e6, e7⟩ := hat
                simp only [show eAd.k = 7 from rfl] at e1 e2 e3 e4 e5 e6 e7
                have ik1 : (q : Int) < (hnb' : Int) := by omega
                have ok1 : (0 : Int) ≤ (q : Int) := by omega
                have htk : Hid (C ++ (ed.co.take (q + 1)).map (·.f.n) = C ++ (ed.co.take q).map (·.f.n) ++ [en]) := by show _ = _; rw [El.take_snoc (E := eAd) (by rw [← N2.out]; exact hlt2), ← hy, List.map_append, List.append_assoc]; rfl
                obtain ⟨W2, hW2⟩ : ∃ W2, W2 = wr.alloc (.cells #[.int .i64 el, .int .i64 en, .int .i64 ez, .string ea, .string eb, .int .u64 elo, .int .u64 ehi] 60) := ⟨_, rfl⟩
                have b2 : Below wr.heap.size wr W2 := by rw [hW2]; exact box_below _ _
                have kp : W2.heap[wr.heap.size]? = some (.cells #[.int .i64 el, .int .i64 en, .int .i64 ez, .string ea, .string eb, .int .u64 elo, .int .u64 ehi] 60) := by rw [hW2]; exact new_at _ _
                obtain ⟨gp, hgp⟩ : ∃ gp, gp = wr.heap.size := ⟨_, rfl⟩
                rw [← hgp] at kp
                have S2 := S.later b2
                have ke2 := hid (below_blk ke b2)
                have hlen : (C ++ (ed.co.take q).map (·.f.n)).length ≤ 1099511627776 := by have := hcl.out; rw [List.length_append, List.length_map, List.length_take]; omega
                obtain ⟨GL, hGL⟩ : ∃ GL, GL = C ++ (ed.co.take q).map (·.f.n) := ⟨_, rfl⟩
                rw [← hGL] at S2 hlen htk
                obtain ⟨ra, rc, hra⟩ := row_any S2.c
                subst hra
                replace hGL := hid hGL
                replace hW2 := hid hW2
                replace hgp := hid hgp
                replace hy := hid hy
                replace S := hid S
                replace P1 := hid P1
                replace ke := hid ke
                obtain ⟨NL, hNL⟩ : ∃ NL, NL = GL.length := ⟨_, rfl⟩
                rw [← hNL] at S2 hlen ⊢
                have SR : Hid (∀ W, Below W2.heap.size W2 W → eInt.Own W base (.slice ra NL rc) GL) := fun W b => S2.c.later b
                have SS : Hid (∀ W, Below W2.heap.size W2 W → St w base W vg0 (.slice ra NL rc) GG GL) := fun W b => S2.later b
                have KP : Hid (∀ W, Below W2.heap.size W2 W → W.heap[gp]? = some (.cells #[.int .i64 el, .int .i64 en, .int .i64 ez, .string ea, .string eb, .int .u64 elo, .int .u64 ehi] 60)) := fun W b => below_blk kp b
                have KE : Hid (∀ W, Below W2.heap.size W2 W → W.heap[ge]? = some (.cells #[.int .i64 hl, .int .i64 hn', .int .u64 hq, .slice ha m hca, .slice (some ⟨p, off, none⟩) hnb' hcb] 26)) := fun W b => below_blk ke2.out b
                replace hNL := hid hNL
                clear b2 kp ke2 S2
                go_wp2_with fail
                rw [← hW2.out, ← hgp.out]
                clear e1 e2 e3 e4 e5 e6 e7
                go_loopw [52] (fun r wr => ∃ z : Nat, r = .int .i64 z ∧ z ≤ NL ∧ (∀ y ∈ GL.take z, y ≠ en) ∧ Below W2.heap.size W2 wr) (fun r _ => NL - (intOf r).toNat)
                case atStart => exact ⟨0, rfl, by omega, by simp, Below.refl _ _⟩
                case round =>
                  obtain ⟨z, rfl, hz, hne, bz⟩ := hrel
                  replace hne := hid hne
                  have kp := KP.out wr bz
                  have x1 := cell_of kp 1 _ rfl
                  have hgz : gp < wr.heap.size := blk_lt kp
                  clear kp
                  by_cases hlt3 : z < NL
                  · obtain ⟨rb, rfl, hrc, hat3⟩ := own_some (SR.out wr bz) (by rw [← hNL.out]; omega)
                    have d1 := hat3 z (by rw [← hNL.out]; exact hlt3) 0 _ rfl
                    obtain ⟨fn, hy3⟩ : ∃ y, y = GL.getD z eInt.z := ⟨_, rfl⟩
                    rw [← hy3] at d1
                    simp only [show eInt.k = 1 from rfl, Nat.mul_one, Nat.add_zero] at d1
                    have htk3 : Hid (GL.take (z + 1) = GL.take z ++ [fn]) := by show _ = _; rw [El.take_snoc (E := eInt) (by rw [← hNL.out]; exact hlt3), ← hy3]
                    have ik3 : (z : Int) < (NL : Int) := by omega
                    have ok3 : (0 : Int) ≤ (z : Int) := by omega
                    replace hy3 := hid hy3
                    replace bz := hid bz
                    by_cases heq : fn = en
                    · have hB : (fn == en) = true := by simp [heq]
                      replace heq := hid heq
                      go_wp2_with fail
                      go_ret
                      exact ⟨false, rfl, fun h => (by cases h), (SS.out _ bz.out).lo⟩
                    · have hB : (fn == en) = false := by simp [heq]
                      have hne' : Hid (∀ y ∈ GL.take (z + 1), y ≠ en) := by
                        intro y hy4
                        rw [htk3.out, List.mem_append, List.mem_singleton] at hy4
                        rcases hy4 with h | h
                        · exact hne.out y h
                        · subst h; exact heq
                      replace heq := hid heq
                      go_wp2_with fail
                      go_roundw
                      case rel => exact ⟨z + 1, by go_num, by omega, hne'.out, bz.out⟩
                      case measure => simp [intOf]; omega
                  · have hke : z = NL := by omega
                    subst hke
                    have hne' : ∀ y ∈ GL, y ≠ en := by
                      have := hne.out
                      rwa [hNL.out, List.take_length] at this
                    obtain ⟨v9, W9, r9, S9, g9⟩ := (SS.out wr bz).appc en hne' (by rw [← hNL.out]; omega)
                    obtain ⟨sa, sc, hv9⟩ := row_any S9.c
                    obtain ⟨n9, hn9⟩ : ∃ n9, n9 = (GL ++ [en]).length := ⟨_, rfl⟩
                    rw [← hn9] at hv9
                    subst hv9
                    replace hn9 := hid hn9
                    have K9 := hid (grown_blk (KE.out wr bz) g9 (own_ty (SR.out wr bz) (KE.out wr bz) (by decide)))
                    rw [← htk.out] at S9
                    replace S9 := hid S9
                    replace r9 := hid r9
                    clear g9 hne' bz
                    go_wp2_with (first | (at_builtin; refine wpList_append_run rfl (.tmp 62) (.tmp 66) 94 94 rfl (.slice ra z rc) (.slice (some ⟨wr.heap.size, 0, none⟩) 1 1) (.slice sa n9 sc) rfl rfl r9.out ?_))
                    go_roundw
                    case rel => exact ⟨q + 1, by go_num, by omega, S9.out, K9.out⟩
                    case measure => simp [intOf]; omega
            · have hqe : q = hnb' := by omega
              subst hqe
              rw [show ed.co.take q = ed.co by rw [N2.out, List.take_length], ← hcs.out, hGG.out] at S
              replace S := hid S
              replace ke := hid ke
              go_wp2_with fail
              go_roundw
              case rel => exact ⟨k + 1, by go_num, by omega, S.out⟩
              case measure => simp [intOf]; omega
    · have hke : k = n := by omega
      subst hke
      replace S := hid S
      go_wp2_with fail
      go_ret
      exact ⟨true, rfl, fun _ => ⟨S.out.dg, S.out.dc⟩, S.out.lo⟩
end Go.Proofs.Ytnpeocoipodmfaa.Ap

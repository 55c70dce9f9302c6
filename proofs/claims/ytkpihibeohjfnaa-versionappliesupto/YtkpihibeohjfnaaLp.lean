/- VersionApplies walked. -/
import Derived.Test.YtkpihibeohjfnaaRv
import Derived.Test.YtkpihibeohjfnaaCp
import Derived.Test.YtkpihibeohjfnaaSm
import Derived.BigQuiet
import Derived.Deep.CutRange
namespace Go.Proofs.Ytkpihibeohjfnaa.Lp
open Go.ChangeShapes Go.WideShapes Go.ChangeAt Go.RowKit
open Go.Proofs.Ytkpihibeohjfnaa.Gr
open Go.Proofs.Ytkpihibeohjfnaa.Ev
open Go.Proofs.Ytkpihibeohjfnaa.Oe
open Go.Proofs.Ytkpihibeohjfnaa.Lv
open Go.Proofs.Ytkpihibeohjfnaa.Vp
open Go.Proofs.Ytkpihibeohjfnaa.Vq
open Go.Proofs.Ytkpihibeohjfnaa.Vr
open Go.Proofs.Ytkpihibeohjfnaa.Vt
open Go.Proofs.Ytkpihibeohjfnaa.Vu (cell_later)
open Go.Proofs.Ytkpihibeohjfnaa.As (wp_append_run)
open Go.Proofs.Ytkpihibeohjfnaa.Aq (own_ty)
open Go.Proofs.Ytkpihibeohjfnaa.Ou
open Go.Proofs.Ytkpihibeohjfnaa.Cp (copied_any)
open Go.Proofs.Ytkpihibeohjfnaa.Dv (rvalid_any)
open Go.Proofs.Ytkpihibeohjfnaa.Sm (rsame_any)
open Go.Proofs.Ytkpihibeohjfnaa.Sq
open Go.Proofs.Ytkpihibeohjfnaa.Ay
open Go.Proofs.Ytkpihibeohjfnaa.Rv (rapply_any)
open Go.Proofs.Ytkpihibeohjfnaa.Wi (six run_pneq)
set_option linter.unusedVariables false
set_option linter.unusedSimpArgs false

/-! ### Rows and blocks side by side -/
theorem made3 {α : Type} (E : El α) {w W : World} (b : Below w.heap.size w W) : Acc E w (W.alloc (.cells #[] E.et)) (.slice (some ⟨W.heap.size, 0, none⟩) 0 0) [] :=
  ⟨own_base (El.Own.made E W) (fun j hj => Nat.le_trans b.size (own_lt (El.Own.made E W) j hj).1), b.alloc b.size _⟩
theorem own_ne {W : World} {base e size n g : Nat} {v : Value} {ys : List Value} {c : Array Value} {t : TypeId} (o : W.ownsRow base e size v n ys) (h : W.heap[g]? = some (.cells c t)) (ht : e ≠ t) : ∀ j, v.ownBlock = some j → j ≠ g := by
  intro j hj e1
  subst e1
  obtain ⟨c1, e1⟩ := own_ty o j hj
  rw [h] at e1
  injection e1 with e1
  injection e1 with _ e1
  exact ht e1.symm
theorem keep_acc {α β : Type} {E : El α} {F : El β} {w W W' : World} {v u : Value} {xs : List α} {ys : List β} (g : W.grownBy W' v.ownBlock) (A : Acc E w W v xs) (B : Acc F w W u ys) (h : E.et ≠ F.et) : Acc F w W' u ys := by
  have h1 : ∀ j, u.ownBlock = some j → W'.heap[j]? = W.heap[j]? := by
    intro j hj
    refine g.block j (own_lt B.o j hj).2 (fun e => ?_)
    obtain ⟨c1, e1⟩ := own_ty A.o j e.symm
    obtain ⟨c2, e2⟩ := own_ty B.o j hj
    rw [e1] at e2
    injection e2 with e2
    injection e2 with _ e2
    exact h e2
  exact ⟨own_blocks B.o h1, below_grown B.lo B.lo.size g (fun j hj => (own_lt A.o j hj).1)⟩
theorem keep_blk {W W' : World} {base e size n g : Nat} {v : Value} {ys : List Value} {c : Array Value} {t : TypeId} (gr : W.grownBy W' v.ownBlock) (o : W.ownsRow base e size v n ys) (h : W.heap[g]? = some (.cells c t)) (ht : e ≠ t) : W'.heap[g]? = some (.cells c t) :=
  (gr.block g (blk_lt h) (fun e' => own_ne o h ht g e'.symm rfl)).trans h
def five5 (W : World) (g : Nat) (v0 v1 v2 v3 v4 : Value) : World := ((((W.setCell ⟨g, 0, none⟩ v0).setCell ⟨g, 1, none⟩ v1).setCell ⟨g, 2, none⟩ v2).setCell ⟨g, 3, none⟩ v3).setCell ⟨g, 4, none⟩ v4
theorem five_put {W : World} {g : Nat} {t : TypeId} {a0 a1 a2 a3 a4 : Value} (h : W.heap[g]? = some (.cells #[a0, a1, a2, a3, a4] t)) (v0 v1 v2 v3 v4 : Value) : (five5 W g v0 v1 v2 v3 v4).heap[g]? = some (.cells #[v0, v1, v2, v3, v4] t) :=
  (set_of (set_of (set_of (set_of (set_of h 0 _) 1 _) 2 _) 3 _) 4 _).trans rfl
theorem five_low {n g : Nat} {w W : World} (h : Below n w W) (hg : n ≤ g) (v0 v1 v2 v3 v4 : Value) : Below n w (five5 W g v0 v1 v2 v3 v4) :=
  ((((h.setCell (p := ⟨g, 0, none⟩) hg _).setCell (p := ⟨g, 1, none⟩) hg _).setCell (p := ⟨g, 2, none⟩) hg _).setCell (p := ⟨g, 3, none⟩) hg _).setCell (p := ⟨g, 4, none⟩) hg _
theorem five_ne (W : World) (g k : Nat) (v0 v1 v2 v3 v4 : Value) (h : k ≠ g) : (five5 W g v0 v1 v2 v3 v4).heap[k]? = W.heap[k]? := by
  unfold five5
  rw [set_ne _ _ _ _ _ h, set_ne _ _ _ _ _ h, set_ne _ _ _ _ _ h, set_ne _ _ _ _ _ h, set_ne _ _ _ _ _ h]
theorem names_any (w : World) : Calls Try.prog 9 #[] w fun e w' => e = .returned (.bool true) ∧ w' = w := by
  go_enter Try.func9, Try.ntmps9
  go_wp2_with fail
  go_ret
  exact ⟨rfl, rfl⟩
def adv (x : Ad) : Value := .agg #[.int .i64 x.l, .int .i64 x.f.n, .int .i64 x.f.z, .string x.f.a, .string x.f.b, .int .u64 x.f.lo, .int .u64 x.f.hi]
theorem run_aneq (x : Ad) (w : World) : (binOp .neq 45 (adv x) (adv x)).run Try.prog w = .ok (.bool false) w := by
  obtain ⟨l, n, z, a, b, lo, hi⟩ := x
  unfold adv
  dsimp only
  have h1 : (l == l) = true := beq_self_eq_true l
  have h2 : (n == n) = true := beq_self_eq_true n
  have h3 : (z == z) = true := beq_self_eq_true z
  have h4 : (a.toList == a.toList) = true := beq_self_eq_true _
  have h5 : (b.toList == b.toList) = true := beq_self_eq_true _
  have h6 : (lo == lo) = true := beq_self_eq_true lo
  have h7 : (hi == hi) = true := beq_self_eq_true hi
  go_simp
/-! ### wiped, with its frame -/
theorem six_fp {P : Nat → Prop} {w W : World} {g : Nat} (h : Fp P w W) (hg : P g) (o : Nat) (v0 v1 v2 v3 v4 v5 : Value) : Fp P w (six W g o v0 v1 v2 v3 v4 v5) :=
  (((((h.set (.inl hg) _ _).set (.inl hg) _ _).set (.inl hg) _ _).set (.inl hg) _ _).set (.inl hg) _ _).set (.inl hg) _ _
set_option maxHeartbeats 1000000 in
theorem wiped_fp (a : Option Addr) (n c : Nat) (W : World) (P : Nat → Prop) (hn : n ≤ 1048576) (hc : n ≤ c) (hp : 0 < n → ∃ b, a = some ⟨b, 0, none⟩ ∧ P b ∧ Pad W b 43 (n * 6)) :
    Calls Try.prog 16 #[.slice a n c] W fun e w' => e = .returned (.tuple #[]) ∧ Fp P W w' := by
  replace hp := hid hp
  have hb : Hid (Fp P W W) := Fp.refl _ _
  go_enter Try.func16, Try.ntmps16
  go_wp2_with fail
  go_loopw [2] (fun jj wr => ∃ j : Nat, jj = .int .i64 j ∧ j ≤ n ∧ Hid (0 < n → ∃ b, a = some ⟨b, 0, none⟩ ∧ P b ∧ Pad wr b 43 (n * 6)) ∧ Hid (Fp P W wr)) (fun jj _ => n - (intOf jj).toNat)
  case atStart => exact ⟨0, rfl, by omega, hp, hb⟩
  case round =>
    clear hp hb
    obtain ⟨j, rfl, hj, hp, hb⟩ := hrel
    by_cases hjl : j < n
    · obtain ⟨b, hab, hwb, Q⟩ := hp.out (by omega)
      subst hab
      obtain ⟨x0, e0⟩ := Q.cell (j * 6) (by omega)
      obtain ⟨x1, e1⟩ := Q.cell (j * 6 + 1) (by omega)
      obtain ⟨x2, e2⟩ := Q.cell (j * 6 + 2) (by omega)
      obtain ⟨x3, e3⟩ := Q.cell (j * 6 + 3) (by omega)
      obtain ⟨x4, e4⟩ := Q.cell (j * 6 + 4) (by omega)
      obtain ⟨x5, e5⟩ := Q.cell (j * 6 + 5) (by omega)
      have f0 := Q.fz (j * 6)
      have f1 := Q.fz (j * 6 + 1)
      have f2 := Q.fz (j * 6 + 2)
      have f3 := Q.fz (j * 6 + 3)
      have f4 := Q.fz (j * 6 + 4)
      have f5 := Q.fz (j * 6 + 5)
      have P2 := hid (fun v0 v1 v2 v3 v4 v5 => Wi.six_pad Q (j * 6) v0 v1 v2 v3 v4 v5)
      have b2 := hid (fun v0 v1 v2 v3 v4 v5 => six_fp hb.out hwb (j * 6) v0 v1 v2 v3 v4 v5)
      replace hwb := hid hwb
      have jk0 : (j : Int) < (n : Int) := by omega
      have jo0 : (0 : Int) ≤ (j : Int) := by omega
      clear Q hp hb
      go_wp2_with fail
      go_roundw
      case rel => exact ⟨j + 1, by go_num, by omega, fun _ => ⟨b, rfl, hwb.out, P2.out _ _ _ _ _ _⟩, b2.out _ _ _ _ _ _⟩
      case measure => simp [intOf]; omega
    · have hje : j = n := by omega
      subst hje
      clear hp
      go_wp2_with fail
      refine bodyPost_end (results_none rfl _ _ _) rfl ?_
      exact ⟨rfl, hb.out⟩
theorem pad_of {W : World} {base : Nat} {a : Option Addr} {n c : Nat} {ys : List Fi} (o : eFi.Own W base (.slice a n c) ys) (hn : n = ys.length) : n ≤ c ∧ (0 < n → ∃ b, a = some ⟨b, 0, none⟩ ∧ (Value.slice a n c).ownBlock = some b ∧ Pad W b 43 (n * 6)) := by
  subst hn
  constructor
  · rcases o.2 with ⟨h1, h2⟩ | ⟨g, c', cur, h1, _, _, h3, _⟩
    · injection h1 with _ e1 e2; omega
    · injection h1 with _ _ e2; omega
  · intro h
    obtain ⟨b, e, _, _, p⟩ := own_pad o h
    subst e
    exact ⟨b, rfl, rfl, p⟩
set_option maxRecDepth 100000 in
set_option maxHeartbeats 2000000 in
theorem bad_any (a : Option Addr) (len cap : Nat) (L : List (List Fi)) (v : Value) (e : Ed) (w : World) (H : Lvs w a len cap L) (HE : EV w v e) (hb : wL L + wE e ≤ 1048576) (K : Int) (hbad : (vld L = false ∧ K = 2) ∨ (vld L = true ∧ good L e.go e.co = false ∧ K = 160)) :
    Calls Try.prog 3 #[.slice a len cap, v] w fun en w' => en = .returned (.bool true) ∧ Below w.heap.size w w' := by
  have hw : wL L ≤ 1048576 := by omega
  have hwe : e.go.length + wsum wA e.co ≤ 1048576 := by unfold wE at hb; omega
  have hg8 : e.go.length ≤ 1048576 := by omega
  have hcl := wsum_len wA (fun x => by unfold wA wF; omega) e.co
  have hc8 : e.co.length ≤ 1048576 := by omega
  have hap : wL (ap L e.go e.co) ≤ 1048576 := by have := ap_w L e.go e.co; unfold wE at hb; omega
  have hcc8 : wL L + e.co.length ≤ 1048576 := by unfold wE at hb; omega
  have c3 : Hid (∀ (b : Option Addr) (c : Nat) (vx : Value) W, Lvs W b len c L → EV W vx e → Calls Try.prog 13 #[.slice b len c, vx] W fun en w' => en = .returned (.tuple #[.slice none 0 0, .int .i64 K]) ∧ Below W.heap.size W w') := by
    intro b c vx W h1 h2
    refine (apply_any b len c L vx e W h1 h2 hw hg8 hc8 hap).mono ?_
    rintro en w' hp
    cases hp with
    | arg _ h1 b => rcases hbad with ⟨_, rfl⟩ | ⟨h2, _⟩
                    · exact ⟨rfl, b⟩
                    · rw [h1] at h2; cases h2
    | ver _ h1 h2 b => rcases hbad with ⟨h3, _⟩ | ⟨_, _, rfl⟩
                       · rw [h1] at h3; cases h3
                       · exact ⟨rfl, b⟩
    | ok _ g xs h1 h2 o e => rcases hbad with ⟨h3, _⟩ | ⟨_, h3, _⟩
                             · rw [h1] at h3; cases h3
                             · rw [h2] at h3; cases h3
  have c4 : Hid (∀ W, Below w.heap.size w W → Calls Try.prog 14 #[.slice a len cap, v] W fun en w' => en = .returned (.tuple #[.slice none 0 0, .int .i64 K]) ∧ Below W.heap.size W w') := by
    intro W b
    refine (rapply_any a len cap L v e W (H.later b) (HE.later b) hcc8 hg8 hap).mono ?_
    rintro en w' hp
    cases hp with
    | arg _ h1 b => rcases hbad with ⟨_, rfl⟩ | ⟨h2, _⟩
                    · exact ⟨rfl, b⟩
                    · rw [h1] at h2; cases h2
    | ver _ h1 h2 b => rcases hbad with ⟨h3, _⟩ | ⟨_, _, rfl⟩
                       · rw [h1] at h3; cases h3
                       · exact ⟨rfl, b⟩
    | ok _ g xs h1 h2 o e => rcases hbad with ⟨h3, _⟩ | ⟨_, h3, _⟩
                             · rw [h1] at h3; cases h3
                             · rw [h2] at h3; cases h3
  have c1 : Hid (∀ (b : Option Addr) (c : Nat) W, Lvs W b len c L → Calls Try.prog 11 #[.slice b len c] W fun e w' => e = .returned (.bool (vld L)) ∧ Below W.heap.size W w') := fun b c W h => valid_any b len c L W h hw
  have c2 : Hid (∀ W, Below w.heap.size w W → Calls Try.prog 12 #[.slice a len cap] W fun e w' => e = .returned (.bool (vld L)) ∧ Below W.heap.size W w') := fun W b => rvalid_any a len cap L W (H.later b) hw
  have c5 : Hid (∀ (b : Option Addr) (c : Nat) W, Below w.heap.size w W → Lvs W b len c L → Calls Try.prog 15 #[.slice b len c, .slice a len cap] W fun e w' => e = .returned (.bool true) ∧ Below W.heap.size W w') := by
    intro b c W bw h
    have := rsame_any b a len c len cap L L W h (H.later bw) hw hw
    rwa [decide_eq_true rfl] at this
  have c6 : Hid (∀ W, Calls Try.prog 15 #[.slice none 0 0, .slice none 0 0] W fun e w' => e = .returned (.bool true) ∧ Below W.heap.size W w') := by
    intro W
    have h0 : Lvs W none 0 0 [] := ⟨[], El.Sl.none _ _, rfl⟩
    have := rsame_any none none 0 0 0 0 [] [] W h0 h0 (by decide) (by decide)
    rwa [decide_eq_true rfl] at this
  have hll := H.len_eq
  have hl7 : len ≤ 1048576 := by have := wL_len L; omega
  have hcap := H.cap_le
  have HEv := hid (fun W (b : Below w.heap.size w W) => HE.later b)
  obtain ⟨V, hV⟩ : ∃ V, V = vld L := ⟨_, rfl⟩
  rw [← hV] at c1 c2
  have hVV : (V != V) = false := by cases V <;> rfl
  obtain ⟨lg, nx, sq, ps, co⟩ := e
  obtain ⟨hok, pa, pc, ca, cc, rfl, HP, HC⟩ := HE
  unfold ev at *
  dsimp only at *
  generalize hpn' : ps.length = pn at *
  generalize hcn' : co.length = cn at *
  have hpn := hid hpn'.symm
  have hcn := hid hcn'.symm
  clear hpn' hcn'
  obtain ⟨gx, hgx⟩ : ∃ g, g = w.heap.size := ⟨_, rfl⟩
  obtain ⟨W1, hW1⟩ : ∃ W, W = w.alloc (.cells #[.int .i64 lg, .int .i64 nx, .int .u64 sq, .slice pa pn pc, .slice ca cn cc] 28) := ⟨_, rfl⟩
  have kx : W1.heap[gx]? = some (.cells #[.int .i64 lg, .int .i64 nx, .int .u64 sq, .slice pa pn pc, .slice ca cn cc] 28) := by rw [hW1, hgx]; exact new_at _ _
  have bx : Below w.heap.size w W1 := by rw [hW1]; exact box_below _ _
  have hk : Hid (∀ W, Below W1.heap.size W1 W → W.heap[gx]? = some (.cells #[.int .i64 lg, .int .i64 nx, .int .u64 sq, .slice pa pn pc, .slice ca cn cc] 28)) := fun W b => (b.block _ (blk_lt kx)).trans kx
  have cc1 := hid (copied_any a len cap L W1 (H.later bx) hw)
  have HP0 : Hid (∀ W, Below w.heap.size w W → ePl.Sl W pa pn pc ps) := fun W b => HP.later b
  have HC0 : Hid (∀ W, Below w.heap.size w W → eAd.Sl W ca cn cc co) := fun W b => HC.later b
  have hpok := hid HP.ok
  have hcok := hid HC.ok
  have hpc := HP.c
  have hcc := HC.c
  have cn1 := hid names_any
  replace bx := hid bx
  replace hW1 := hid hW1
  replace hgx := hid hgx
  replace hok := hid hok
  replace hV := hid hV
  clear kx HP HC H hap hwe hw hb hcl hll hcc8 hbad
  go_enter Try.func3, Try.ntmps3
  go_wp2_with (first
    | (go_at_call 9; rw [← hW1.out, ← hgx.out]; refine (cn1.out _).mono ?_; rintro e w1 ⟨rfl, hw1⟩; subst hw1)
    | (go_at_call 10; refine cc1.out.mono ?_; rintro e w3 ⟨ib, ic, rfl, L3, b3⟩; replace L3 := hid L3; replace b3 := hid b3))
  clear cc1 cn1
  obtain ⟨WS, hWS⟩ : ∃ W, W = w3 := ⟨_, rfl⟩
  rw [← hWS] at L3 b3 ⊢
  clear hWS w3
  have b1W := b3
  have HPl : Hid (∀ W, Below WS.heap.size WS W → ePl.Sl W pa pn pc ps) := fun W b => HP0.out W (Below.up bx.out (Below.up b1W.out b))
  have HCl : Hid (∀ W, Below WS.heap.size WS W → eAd.Sl W ca cn cc co) := fun W b => HC0.out W (Below.up bx.out (Below.up b1W.out b))
  go_cut [6] from 18 to 32 (fun vx wx => ∃ (g6 : Nat) (a1 : Option Addr) (c1 : Nat) (a2 : Option Addr) (c2 : Nat), vx = .pointer (some ⟨g6, 0, none⟩) ∧ Hid (wx.heap[g6]? = some (.cells #[.int .i64 lg, .int .i64 nx, .int .u64 sq, .slice a1 pn c1, .slice a2 cn c2] 28)) ∧ Hid (ePl.Own wx WS.heap.size (.slice a1 pn c1) ps) ∧ Hid (eAd.Own wx WS.heap.size (.slice a2 cn c2) co) ∧ Hid (Below WS.heap.size WS wx))
  case first =>
    refine wp_region_held_drew (S := fun V => Below WS.heap.size WS V) (by kernel_rfl) (drew_below _) (fun hS => ?_)
    generalize World.drew WS = D at *
    refine wpAnyH_take (i := 0) (v := ?v1) rfl (by kernel_rfl) (by kernel_rfl) (by kernel_rfl) (fun _ _ _ h => h) (Or.inl ⟨by rfl, ?h1⟩) hS ?_
    case h1 => (intro W hW; go_simp; try (with_reducible rfl))
    go_simp
    refine wpAnyH_take (i := 1) (v := ?v2) rfl (by kernel_rfl) (by kernel_rfl) (by kernel_rfl) (fun _ _ _ h => h) (Or.inl ⟨by rfl, ?h2⟩) hS ?_
    case h2 => (intro W hW; have cc := cell_of (hk.out _ (Below.up b1W.out hW)) 0 _ rfl; go_simp; try (with_reducible rfl))
    go_simp
    refine wpAnyH_take (i := 2) (v := ?v3) rfl (by kernel_rfl) (by kernel_rfl) (by kernel_rfl) (fun _ _ _ h => h) (Or.inl ⟨by rfl, ?h3⟩) hS ?_
    case h3 => (intro W hW; go_simp; try (with_reducible rfl))
    go_simp
    refine wpAnyH_take (i := 3) (v := ?v4) rfl (by kernel_rfl) (by kernel_rfl) (by kernel_rfl) (fun _ _ _ h => h) (Or.inl ⟨by rfl, ?h4⟩) hS ?_
    case h4 => (intro W hW; have cc := cell_of (hk.out _ (Below.up b1W.out hW)) 1 _ rfl; go_simp; try (with_reducible rfl))
    go_simp
    refine wpAnyH_take (i := 4) (v := ?v5) rfl (by kernel_rfl) (by kernel_rfl) (by kernel_rfl) (fun _ _ _ h => h) (Or.inl ⟨by rfl, ?h5⟩) hS ?_
    case h5 => (intro W hW; go_simp; try (with_reducible rfl))
    go_simp
    refine wpAnyH_take (i := 5) (v := ?v6) rfl (by kernel_rfl) (by kernel_rfl) (by kernel_rfl) (fun _ _ _ h => h) (Or.inl ⟨by rfl, ?h6⟩) hS ?_
    case h6 => (intro W hW; have cc := cell_of (hk.out _ (Below.up b1W.out hW)) 2 _ rfl; go_simp; try (with_reducible rfl))
    go_simp
    refine wpAnyH_take (i := 7) (v := ?v7) rfl (by kernel_rfl) (by kernel_rfl) (by kernel_rfl) (fun _ _ _ h => h) (Or.inl ⟨by rfl, ?h7⟩) hS ?_
    case h7 => (intro W hW; go_simp; try (with_reducible rfl))
    go_simp
    refine wpAnyH_take (i := 8) (v := ?v8) rfl (by kernel_rfl) (by kernel_rfl) (by kernel_rfl) (fun _ _ _ h => h) (Or.inl ⟨by rfl, ?h8⟩) hS ?_
    case h8 => (intro W hW; have cc := cell_of (hk.out _ (Below.up b1W.out hW)) 3 _ rfl; go_simp; try (with_reducible rfl))
    go_simp
    refine wpAnyH_take (i := 11) (v := ?v9) rfl (by kernel_rfl) (by kernel_rfl) (by kernel_rfl) (fun _ _ _ h => h) (Or.inl ⟨by rfl, ?h9⟩) hS ?_
    case h9 => (intro W hW; go_simp; try (with_reducible rfl))
    go_simp
    refine wpAnyH_take (i := 12) (v := ?v10) rfl (by kernel_rfl) (by kernel_rfl) (by kernel_rfl) (fun _ _ _ h => h) (Or.inl ⟨by rfl, ?h10⟩) hS ?_
    case h10 => (intro W hW; have cc := cell_of (hk.out _ (Below.up b1W.out hW)) 4 _ rfl; go_simp; try (with_reducible rfl))
    go_simp
    refine wpAnyH_ready (rs := [6, 10, 15]) (by kernel_rfl) (by simp) ?_
    refine AllReadyH.cons rfl (fun K hK => ?_) ?_
    · go_simp
      have AG0 := made3 ePl hS
      have bb := box_below D (.cells #[] 41)
      have hS' := hid (Below.up hS bb)
      clear bb
      refine hK.out _ _ hS'.out (fun hS => ?_)
      clear hK K hS'
      change Acc ePl WS (D.alloc (.cells #[] 41)) _ _ at AG0
      replace AG0 := hid AG0
      generalize D.alloc (.cells #[] 41) = y6 at *
      generalize D.heap.size = g6 at *
      have AG := AG0
      clear AG0
      refine wpAnyH_ready (rs := [9, 10, 15]) (by kernel_rfl) (by simp) ?_
      refine AllReadyH.cons rfl (fun K hK => ?_) ?_
      · obtain ⟨v9, y9, r9, o9, gr9, q9⟩ := El.app ePl y6 WS.heap.size _ _ AG.out.o _ _ _ ps (HPl.out _ hS) (by show (0 + pn) * 16 ≤ _; omega) (by show 0 + pn ≤ _; omega) AG.out.sz
        have A2 : Acc ePl WS y9 v9 ([] ++ ps) := ⟨o9, below_grown AG.out.lo AG.out.sz gr9 (fun j hj => (own_lt AG.out.o j hj).1)⟩
        rw [List.nil_append] at A2
        obtain ⟨a9, c9, hv9⟩ := A2.shape
        rw [← hpn.out] at hv9
        subst hv9
        clear o9 gr9 q9 AG
        have AG := hid A2
        clear A2
        replace r9 := hid r9
        refine wp_append_run (.tmp 24) (.tmp 26) 25 25 rfl (.slice (some ⟨g6, 0, none⟩) 0 0) (.slice pa pn pc) (.slice a9 pn c9) (by go_simp) (by go_simp) r9.out ?_
        go_simp
        refine hK.out _ _ AG.out.lo (fun hS => ?_)
        clear hK K
        refine wpAnyH_ready (rs := [10, 15]) (by kernel_rfl) (by simp) ?_
        refine AllReadyH.cons rfl (fun K hK => ?_) ?_
        · go_simp
          have AC0 := made3 eAd hS
          have bb := box_below y9 (.cells #[] 45)
          have hS' := hid (Below.up hS bb)
          replace AG := hid (AG.out.later bb)
          clear bb
          refine hK.out _ _ hS'.out (fun hS => ?_)
          clear hK K hS'
          change Acc eAd WS (y9.alloc (.cells #[] 45)) _ _ at AC0
          replace AC0 := hid AC0
          generalize y9.alloc (.cells #[] 45) = y10 at *
          generalize y9.heap.size = g10 at *
          have AC := AC0
          clear AC0
          refine wpAnyH_ready (rs := [13, 15]) (by kernel_rfl) (by simp) ?_
          refine AllReadyH.cons rfl (fun K hK => ?_) ?_
          · obtain ⟨v13, y13, r13, o13, gr13, q13⟩ := El.app eAd y10 WS.heap.size _ _ AC.out.o _ _ _ co (HCl.out _ hS) (by show (0 + cn) * 72 ≤ _; omega) (by show 0 + cn ≤ _; omega) AC.out.sz
            have A2 : Acc eAd WS y13 v13 ([] ++ co) := ⟨o13, below_grown AC.out.lo AC.out.sz gr13 (fun j hj => (own_lt AC.out.o j hj).1)⟩
            rw [List.nil_append] at A2
            obtain ⟨a13, c13, hv13⟩ := A2.shape
            rw [← hcn.out] at hv13
            subst hv13
            replace AG := hid (keep_acc gr13 AC.out AG.out (by decide))
            clear o13 gr13 q13 AC
            have AC := hid A2
            clear A2
            replace r13 := hid r13
            refine wp_append_run (.tmp 28) (.tmp 30) 26 26 rfl (.slice (some ⟨g10, 0, none⟩) 0 0) (.slice ca cn cc) (.slice a13 cn c13) (by go_simp) (by go_simp) r13.out ?_
            go_simp
            refine hK.out _ _ AC.out.lo (fun hS => ?_)
            clear hK K
            refine wpAnyH_take (i := 14) (v := ?v11) rfl (by kernel_rfl) (by kernel_rfl) (by kernel_rfl) (fun _ _ _ h => h) (Or.inl ⟨by rfl, ?h11⟩) hS ?_
            case h11 => (intro W hW; go_simp; try (with_reducible rfl))
            go_simp
            refine wpAnyH_ready (rs := [15]) (by kernel_rfl) (by simp) ?_
            refine AllReadyH.cons rfl (fun K hK => ?_) ?_
            · go_simp
              have KZ := hid (new_at y13 (.cells #[.int .i64 0, .int .i64 0, .int .u64 0, .slice none 0 0, .slice none 0 0] 28))
              have hgz := hid hS.size
              have bb := box_below y13 (.cells #[.int .i64 0, .int .i64 0, .int .u64 0, .slice none 0 0, .slice none 0 0] 28)
              have hS' := hid (Below.up hS bb)
              replace AG := hid (AG.out.later bb)
              replace AC := hid (AC.out.later bb)
              clear bb
              refine hK.out _ _ hS'.out (fun hS => ?_)
              clear hK K hS'
              generalize y13.alloc (.cells #[.int .i64 0, .int .i64 0, .int .u64 0, .slice none 0 0, .slice none 0 0] 28) = y15 at *
              generalize y13.heap.size = g15 at *
              refine wpAnyH_ready (rs := [16]) (by kernel_rfl) (by simp) ?_
              refine AllReadyH.cons rfl (fun K hK => ?_) ?_
              · have q0 := cell_of KZ.out 0 _ rfl
                have f0 := fz_of KZ.out 0
                have q1 := cell_of KZ.out 1 _ rfl
                have f1 := fz_of KZ.out 1
                have q2 := cell_of KZ.out 2 _ rfl
                have f2 := fz_of KZ.out 2
                have q3 := cell_of KZ.out 3 _ rfl
                have f3 := fz_of KZ.out 3
                have q4 := cell_of KZ.out 4 _ rfl
                have f4 := fz_of KZ.out 4
                have KF := hid (five_put KZ.out (.int .i64 lg) (.int .i64 nx) (.int .u64 sq) (.slice a9 pn c9) (.slice a13 cn c13))
                have BF := hid (five_low hS hgz.out (.int .i64 lg) (.int .i64 nx) (.int .u64 sq) (.slice a9 pn c9) (.slice a13 cn c13))
                have OG := hid (own_blocks AG.out.o (fun j hj => five_ne y15 g15 j (.int .i64 lg) (.int .i64 nx) (.int .u64 sq) (.slice a9 pn c9) (.slice a13 cn c13) (own_ne AG.out.o KZ.out (by decide) j hj)))
                have OC := hid (own_blocks AC.out.o (fun j hj => five_ne y15 g15 j (.int .i64 lg) (.int .i64 nx) (.int .u64 sq) (.slice a9 pn c9) (.slice a13 cn c13) (own_ne AC.out.o KZ.out (by decide) j hj)))
                unfold five5 at KF BF OG OC
                go_simp
                refine hK.out _ _ BF.out (fun hS => ?_)
                clear hK K
                refine wpAnyH_done (by kernel_rfl) ?_ _
                go_wp2_with fail
                go_meet
                case rel => exact ⟨g15, a9, c9, a13, c13, rfl, KF, OG, OC, BF⟩
              exact AllReadyH.nil
            exact AllReadyH.nil
          refine AllReadyH.cons rfl (fun K hK => ?_) ?_
          · go_simp
            have KZ := hid (new_at y10 (.cells #[.int .i64 0, .int .i64 0, .int .u64 0, .slice none 0 0, .slice none 0 0] 28))
            have hgz := hid hS.size
            have bb := box_below y10 (.cells #[.int .i64 0, .int .i64 0, .int .u64 0, .slice none 0 0, .slice none 0 0] 28)
            have hS' := hid (Below.up hS bb)
            replace AG := hid (AG.out.later bb)
            replace AC := hid (AC.out.later bb)
            clear bb
            refine hK.out _ _ hS'.out (fun hS => ?_)
            clear hK K hS'
            generalize y10.alloc (.cells #[.int .i64 0, .int .i64 0, .int .u64 0, .slice none 0 0, .slice none 0 0] 28) = y15 at *
            generalize y10.heap.size = g15 at *
            refine wpAnyH_ready (rs := [13]) (by kernel_rfl) (by simp) ?_
            refine AllReadyH.cons rfl (fun K hK => ?_) ?_
            · obtain ⟨v13, y13, r13, o13, gr13, q13⟩ := El.app eAd y15 WS.heap.size _ _ AC.out.o _ _ _ co (HCl.out _ hS) (by show (0 + cn) * 72 ≤ _; omega) (by show 0 + cn ≤ _; omega) AC.out.sz
              have A2 : Acc eAd WS y13 v13 ([] ++ co) := ⟨o13, below_grown AC.out.lo AC.out.sz gr13 (fun j hj => (own_lt AC.out.o j hj).1)⟩
              rw [List.nil_append] at A2
              obtain ⟨a13, c13, hv13⟩ := A2.shape
              rw [← hcn.out] at hv13
              subst hv13
              replace AG := hid (keep_acc gr13 AC.out AG.out (by decide))
              replace KZ := hid (keep_blk gr13 AC.out.o KZ.out (by decide))
              clear o13 gr13 q13 AC
              have AC := hid A2
              clear A2
              replace r13 := hid r13
              refine wp_append_run (.tmp 28) (.tmp 30) 26 26 rfl (.slice (some ⟨g10, 0, none⟩) 0 0) (.slice ca cn cc) (.slice a13 cn c13) (by go_simp) (by go_simp) r13.out ?_
              go_simp
              refine hK.out _ _ AC.out.lo (fun hS => ?_)
              clear hK K
              refine wpAnyH_take (i := 14) (v := ?v12) rfl (by kernel_rfl) (by kernel_rfl) (by kernel_rfl) (fun _ _ _ h => h) (Or.inl ⟨by rfl, ?h12⟩) hS ?_
              case h12 => (intro W hW; go_simp; try (with_reducible rfl))
              go_simp
              refine wpAnyH_ready (rs := [16]) (by kernel_rfl) (by simp) ?_
              refine AllReadyH.cons rfl (fun K hK => ?_) ?_
              · have q0 := cell_of KZ.out 0 _ rfl
                have f0 := fz_of KZ.out 0
                have q1 := cell_of KZ.out 1 _ rfl
                have f1 := fz_of KZ.out 1
                have q2 := cell_of KZ.out 2 _ rfl
                have f2 := fz_of KZ.out 2
                have q3 := cell_of KZ.out 3 _ rfl
                have f3 := fz_of KZ.out 3
                have q4 := cell_of KZ.out 4 _ rfl
                have f4 := fz_of KZ.out 4
                have KF := hid (five_put KZ.out (.int .i64 lg) (.int .i64 nx) (.int .u64 sq) (.slice a9 pn c9) (.slice a13 cn c13))
                have BF := hid (five_low hS hgz.out (.int .i64 lg) (.int .i64 nx) (.int .u64 sq) (.slice a9 pn c9) (.slice a13 cn c13))
                have OG := hid (own_blocks AG.out.o (fun j hj => five_ne y13 g15 j (.int .i64 lg) (.int .i64 nx) (.int .u64 sq) (.slice a9 pn c9) (.slice a13 cn c13) (own_ne AG.out.o KZ.out (by decide) j hj)))
                have OC := hid (own_blocks AC.out.o (fun j hj => five_ne y13 g15 j (.int .i64 lg) (.int .i64 nx) (.int .u64 sq) (.slice a9 pn c9) (.slice a13 cn c13) (own_ne AC.out.o KZ.out (by decide) j hj)))
                unfold five5 at KF BF OG OC
                go_simp
                refine hK.out _ _ BF.out (fun hS => ?_)
                clear hK K
                refine wpAnyH_done (by kernel_rfl) ?_ _
                go_wp2_with fail
                go_meet
                case rel => exact ⟨g15, a9, c9, a13, c13, rfl, KF, OG, OC, BF⟩
              exact AllReadyH.nil
            exact AllReadyH.nil
          exact AllReadyH.nil
        refine AllReadyH.cons rfl (fun K hK => ?_) ?_
        · go_simp
          have KZ := hid (new_at y9 (.cells #[.int .i64 0, .int .i64 0, .int .u64 0, .slice none 0 0, .slice none 0 0] 28))
          have hgz := hid hS.size
          have bb := box_below y9 (.cells #[.int .i64 0, .int .i64 0, .int .u64 0, .slice none 0 0, .slice none 0 0] 28)
          have hS' := hid (Below.up hS bb)
          replace AG := hid (AG.out.later bb)
          clear bb
          refine hK.out _ _ hS'.out (fun hS => ?_)
          clear hK K hS'
          generalize y9.alloc (.cells #[.int .i64 0, .int .i64 0, .int .u64 0, .slice none 0 0, .slice none 0 0] 28) = y15 at *
          generalize y9.heap.size = g15 at *
          refine wpAnyH_ready (rs := [10]) (by kernel_rfl) (by simp) ?_
          refine AllReadyH.cons rfl (fun K hK => ?_) ?_
          · go_simp
            have AC0 := made3 eAd hS
            have bb := box_below y15 (.cells #[] 45)
            have hS' := hid (Below.up hS bb)
            replace AG := hid (AG.out.later bb)
            replace KZ := hid ((bb.block _ (blk_lt KZ.out)).trans KZ.out)
            clear bb
            refine hK.out _ _ hS'.out (fun hS => ?_)
            clear hK K hS'
            change Acc eAd WS (y15.alloc (.cells #[] 45)) _ _ at AC0
            replace AC0 := hid AC0
            generalize y15.alloc (.cells #[] 45) = y10 at *
            generalize y15.heap.size = g10 at *
            have AC := AC0
            clear AC0
            refine wpAnyH_ready (rs := [13]) (by kernel_rfl) (by simp) ?_
            refine AllReadyH.cons rfl (fun K hK => ?_) ?_
            · obtain ⟨v13, y13, r13, o13, gr13, q13⟩ := El.app eAd y10 WS.heap.size _ _ AC.out.o _ _ _ co (HCl.out _ hS) (by show (0 + cn) * 72 ≤ _; omega) (by show 0 + cn ≤ _; omega) AC.out.sz
              have A2 : Acc eAd WS y13 v13 ([] ++ co) := ⟨o13, below_grown AC.out.lo AC.out.sz gr13 (fun j hj => (own_lt AC.out.o j hj).1)⟩
              rw [List.nil_append] at A2
              obtain ⟨a13, c13, hv13⟩ := A2.shape
              rw [← hcn.out] at hv13
              subst hv13
              replace AG := hid (keep_acc gr13 AC.out AG.out (by decide))
              replace KZ := hid (keep_blk gr13 AC.out.o KZ.out (by decide))
              clear o13 gr13 q13 AC
              have AC := hid A2
              clear A2
              replace r13 := hid r13
              refine wp_append_run (.tmp 28) (.tmp 30) 26 26 rfl (.slice (some ⟨g10, 0, none⟩) 0 0) (.slice ca cn cc) (.slice a13 cn c13) (by go_simp) (by go_simp) r13.out ?_
              go_simp
              refine hK.out _ _ AC.out.lo (fun hS => ?_)
              clear hK K
              refine wpAnyH_take (i := 14) (v := ?v13) rfl (by kernel_rfl) (by kernel_rfl) (by kernel_rfl) (fun _ _ _ h => h) (Or.inl ⟨by rfl, ?h13⟩) hS ?_
              case h13 => (intro W hW; go_simp; try (with_reducible rfl))
              go_simp
              refine wpAnyH_ready (rs := [16]) (by kernel_rfl) (by simp) ?_
              refine AllReadyH.cons rfl (fun K hK => ?_) ?_
              · have q0 := cell_of KZ.out 0 _ rfl
                have f0 := fz_of KZ.out 0
                have q1 := cell_of KZ.out 1 _ rfl
                have f1 := fz_of KZ.out 1
                have q2 := cell_of KZ.out 2 _ rfl
                have f2 := fz_of KZ.out 2
                have q3 := cell_of KZ.out 3 _ rfl
                have f3 := fz_of KZ.out 3
                have q4 := cell_of KZ.out 4 _ rfl
                have f4 := fz_of KZ.out 4
                have KF := hid (five_put KZ.out (.int .i64 lg) (.int .i64 nx) (.int .u64 sq) (.slice a9 pn c9) (.slice a13 cn c13))
                have BF := hid (five_low hS hgz.out (.int .i64 lg) (.int .i64 nx) (.int .u64 sq) (.slice a9 pn c9) (.slice a13 cn c13))
                have OG := hid (own_blocks AG.out.o (fun j hj => five_ne y13 g15 j (.int .i64 lg) (.int .i64 nx) (.int .u64 sq) (.slice a9 pn c9) (.slice a13 cn c13) (own_ne AG.out.o KZ.out (by decide) j hj)))
                have OC := hid (own_blocks AC.out.o (fun j hj => five_ne y13 g15 j (.int .i64 lg) (.int .i64 nx) (.int .u64 sq) (.slice a9 pn c9) (.slice a13 cn c13) (own_ne AC.out.o KZ.out (by decide) j hj)))
                unfold five5 at KF BF OG OC
                go_simp
                refine hK.out _ _ BF.out (fun hS => ?_)
                clear hK K
                refine wpAnyH_done (by kernel_rfl) ?_ _
                go_wp2_with fail
                go_meet
                case rel => exact ⟨g15, a9, c9, a13, c13, rfl, KF, OG, OC, BF⟩
              exact AllReadyH.nil
            exact AllReadyH.nil
          exact AllReadyH.nil
        exact AllReadyH.nil
      refine AllReadyH.cons rfl (fun K hK => ?_) ?_
      · go_simp
        have AC0 := made3 eAd hS
        have bb := box_below y6 (.cells #[] 45)
        have hS' := hid (Below.up hS bb)
        replace AG := hid (AG.out.later bb)
        clear bb
        refine hK.out _ _ hS'.out (fun hS => ?_)
        clear hK K hS'
        change Acc eAd WS (y6.alloc (.cells #[] 45)) _ _ at AC0
        replace AC0 := hid AC0
        generalize y6.alloc (.cells #[] 45) = y10 at *
        generalize y6.heap.size = g10 at *
        have AC := AC0
        clear AC0
        refine wpAnyH_ready (rs := [9, 15]) (by kernel_rfl) (by simp) ?_
        refine AllReadyH.cons rfl (fun K hK => ?_) ?_
        · obtain ⟨v9, y9, r9, o9, gr9, q9⟩ := El.app ePl y10 WS.heap.size _ _ AG.out.o _ _ _ ps (HPl.out _ hS) (by show (0 + pn) * 16 ≤ _; omega) (by show 0 + pn ≤ _; omega) AG.out.sz
          have A2 : Acc ePl WS y9 v9 ([] ++ ps) := ⟨o9, below_grown AG.out.lo AG.out.sz gr9 (fun j hj => (own_lt AG.out.o j hj).1)⟩
          rw [List.nil_append] at A2
          obtain ⟨a9, c9, hv9⟩ := A2.shape
          rw [← hpn.out] at hv9
          subst hv9
          replace AC := hid (keep_acc gr9 AG.out AC.out (by decide))
          clear o9 gr9 q9 AG
          have AG := hid A2
          clear A2
          replace r9 := hid r9
          refine wp_append_run (.tmp 24) (.tmp 26) 25 25 rfl (.slice (some ⟨g6, 0, none⟩) 0 0) (.slice pa pn pc) (.slice a9 pn c9) (by go_simp) (by go_simp) r9.out ?_
          go_simp
          refine hK.out _ _ AG.out.lo (fun hS => ?_)
          clear hK K
          refine wpAnyH_ready (rs := [13, 15]) (by kernel_rfl) (by simp) ?_
          refine AllReadyH.cons rfl (fun K hK => ?_) ?_
          · obtain ⟨v13, y13, r13, o13, gr13, q13⟩ := El.app eAd y9 WS.heap.size _ _ AC.out.o _ _ _ co (HCl.out _ hS) (by show (0 + cn) * 72 ≤ _; omega) (by show 0 + cn ≤ _; omega) AC.out.sz
            have A2 : Acc eAd WS y13 v13 ([] ++ co) := ⟨o13, below_grown AC.out.lo AC.out.sz gr13 (fun j hj => (own_lt AC.out.o j hj).1)⟩
            rw [List.nil_append] at A2
            obtain ⟨a13, c13, hv13⟩ := A2.shape
            rw [← hcn.out] at hv13
            subst hv13
            replace AG := hid (keep_acc gr13 AC.out AG.out (by decide))
            clear o13 gr13 q13 AC
            have AC := hid A2
            clear A2
            replace r13 := hid r13
            refine wp_append_run (.tmp 28) (.tmp 30) 26 26 rfl (.slice (some ⟨g10, 0, none⟩) 0 0) (.slice ca cn cc) (.slice a13 cn c13) (by go_simp) (by go_simp) r13.out ?_
            go_simp
            refine hK.out _ _ AC.out.lo (fun hS => ?_)
            clear hK K
            refine wpAnyH_take (i := 14) (v := ?v14) rfl (by kernel_rfl) (by kernel_rfl) (by kernel_rfl) (fun _ _ _ h => h) (Or.inl ⟨by rfl, ?h14⟩) hS ?_
            case h14 => (intro W hW; go_simp; try (with_reducible rfl))
            go_simp
            refine wpAnyH_ready (rs := [15]) (by kernel_rfl) (by simp) ?_
            refine AllReadyH.cons rfl (fun K hK => ?_) ?_
            · go_simp
              have KZ := hid (new_at y13 (.cells #[.int .i64 0, .int .i64 0, .int .u64 0, .slice none 0 0, .slice none 0 0] 28))
              have hgz := hid hS.size
              have bb := box_below y13 (.cells #[.int .i64 0, .int .i64 0, .int .u64 0, .slice none 0 0, .slice none 0 0] 28)
              have hS' := hid (Below.up hS bb)
              replace AG := hid (AG.out.later bb)
              replace AC := hid (AC.out.later bb)
              clear bb
              refine hK.out _ _ hS'.out (fun hS => ?_)
              clear hK K hS'
              generalize y13.alloc (.cells #[.int .i64 0, .int .i64 0, .int .u64 0, .slice none 0 0, .slice none 0 0] 28) = y15 at *
              generalize y13.heap.size = g15 at *
              refine wpAnyH_ready (rs := [16]) (by kernel_rfl) (by simp) ?_
              refine AllReadyH.cons rfl (fun K hK => ?_) ?_
              · have q0 := cell_of KZ.out 0 _ rfl
                have f0 := fz_of KZ.out 0
                have q1 := cell_of KZ.out 1 _ rfl
                have f1 := fz_of KZ.out 1
                have q2 := cell_of KZ.out 2 _ rfl
                have f2 := fz_of KZ.out 2
                have q3 := cell_of KZ.out 3 _ rfl
                have f3 := fz_of KZ.out 3
                have q4 := cell_of KZ.out 4 _ rfl
                have f4 := fz_of KZ.out 4
                have KF := hid (five_put KZ.out (.int .i64 lg) (.int .i64 nx) (.int .u64 sq) (.slice a9 pn c9) (.slice a13 cn c13))
                have BF := hid (five_low hS hgz.out (.int .i64 lg) (.int .i64 nx) (.int .u64 sq) (.slice a9 pn c9) (.slice a13 cn c13))
                have OG := hid (own_blocks AG.out.o (fun j hj => five_ne y15 g15 j (.int .i64 lg) (.int .i64 nx) (.int .u64 sq) (.slice a9 pn c9) (.slice a13 cn c13) (own_ne AG.out.o KZ.out (by decide) j hj)))
                have OC := hid (own_blocks AC.out.o (fun j hj => five_ne y15 g15 j (.int .i64 lg) (.int .i64 nx) (.int .u64 sq) (.slice a9 pn c9) (.slice a13 cn c13) (own_ne AC.out.o KZ.out (by decide) j hj)))
                unfold five5 at KF BF OG OC
                go_simp
                refine hK.out _ _ BF.out (fun hS => ?_)
                clear hK K
                refine wpAnyH_done (by kernel_rfl) ?_ _
                go_wp2_with fail
                go_meet
                case rel => exact ⟨g15, a9, c9, a13, c13, rfl, KF, OG, OC, BF⟩
              exact AllReadyH.nil
            exact AllReadyH.nil
          refine AllReadyH.cons rfl (fun K hK => ?_) ?_
          · go_simp
            have KZ := hid (new_at y9 (.cells #[.int .i64 0, .int .i64 0, .int .u64 0, .slice none 0 0, .slice none 0 0] 28))
            have hgz := hid hS.size
            have bb := box_below y9 (.cells #[.int .i64 0, .int .i64 0, .int .u64 0, .slice none 0 0, .slice none 0 0] 28)
            have hS' := hid (Below.up hS bb)
            replace AG := hid (AG.out.later bb)
            replace AC := hid (AC.out.later bb)
            clear bb
            refine hK.out _ _ hS'.out (fun hS => ?_)
            clear hK K hS'
            generalize y9.alloc (.cells #[.int .i64 0, .int .i64 0, .int .u64 0, .slice none 0 0, .slice none 0 0] 28) = y15 at *
            generalize y9.heap.size = g15 at *
            refine wpAnyH_ready (rs := [13]) (by kernel_rfl) (by simp) ?_
            refine AllReadyH.cons rfl (fun K hK => ?_) ?_
            · obtain ⟨v13, y13, r13, o13, gr13, q13⟩ := El.app eAd y15 WS.heap.size _ _ AC.out.o _ _ _ co (HCl.out _ hS) (by show (0 + cn) * 72 ≤ _; omega) (by show 0 + cn ≤ _; omega) AC.out.sz
              have A2 : Acc eAd WS y13 v13 ([] ++ co) := ⟨o13, below_grown AC.out.lo AC.out.sz gr13 (fun j hj => (own_lt AC.out.o j hj).1)⟩
              rw [List.nil_append] at A2
              obtain ⟨a13, c13, hv13⟩ := A2.shape
              rw [← hcn.out] at hv13
              subst hv13
              replace AG := hid (keep_acc gr13 AC.out AG.out (by decide))
              replace KZ := hid (keep_blk gr13 AC.out.o KZ.out (by decide))
              clear o13 gr13 q13 AC
              have AC := hid A2
              clear A2
              replace r13 := hid r13
              refine wp_append_run (.tmp 28) (.tmp 30) 26 26 rfl (.slice (some ⟨g10, 0, none⟩) 0 0) (.slice ca cn cc) (.slice a13 cn c13) (by go_simp) (by go_simp) r13.out ?_
              go_simp
              refine hK.out _ _ AC.out.lo (fun hS => ?_)
              clear hK K
              refine wpAnyH_take (i := 14) (v := ?v15) rfl (by kernel_rfl) (by kernel_rfl) (by kernel_rfl) (fun _ _ _ h => h) (Or.inl ⟨by rfl, ?h15⟩) hS ?_
              case h15 => (intro W hW; go_simp; try (with_reducible rfl))
              go_simp
              refine wpAnyH_ready (rs := [16]) (by kernel_rfl) (by simp) ?_
              refine AllReadyH.cons rfl (fun K hK => ?_) ?_
              · have q0 := cell_of KZ.out 0 _ rfl
                have f0 := fz_of KZ.out 0
                have q1 := cell_of KZ.out 1 _ rfl
                have f1 := fz_of KZ.out 1
                have q2 := cell_of KZ.out 2 _ rfl
                have f2 := fz_of KZ.out 2
                have q3 := cell_of KZ.out 3 _ rfl
                have f3 := fz_of KZ.out 3
                have q4 := cell_of KZ.out 4 _ rfl
                have f4 := fz_of KZ.out 4
                have KF := hid (five_put KZ.out (.int .i64 lg) (.int .i64 nx) (.int .u64 sq) (.slice a9 pn c9) (.slice a13 cn c13))
                have BF := hid (five_low hS hgz.out (.int .i64 lg) (.int .i64 nx) (.int .u64 sq) (.slice a9 pn c9) (.slice a13 cn c13))
                have OG := hid (own_blocks AG.out.o (fun j hj => five_ne y13 g15 j (.int .i64 lg) (.int .i64 nx) (.int .u64 sq) (.slice a9 pn c9) (.slice a13 cn c13) (own_ne AG.out.o KZ.out (by decide) j hj)))
                have OC := hid (own_blocks AC.out.o (fun j hj => five_ne y13 g15 j (.int .i64 lg) (.int .i64 nx) (.int .u64 sq) (.slice a9 pn c9) (.slice a13 cn c13) (own_ne AC.out.o KZ.out (by decide) j hj)))
                unfold five5 at KF BF OG OC
                go_simp
                refine hK.out _ _ BF.out (fun hS => ?_)
                clear hK K
                refine wpAnyH_done (by kernel_rfl) ?_ _
                go_wp2_with fail
                go_meet
                case rel => exact ⟨g15, a9, c9, a13, c13, rfl, KF, OG, OC, BF⟩
              exact AllReadyH.nil
            exact AllReadyH.nil
          exact AllReadyH.nil
        refine AllReadyH.cons rfl (fun K hK => ?_) ?_
        · go_simp
          have KZ := hid (new_at y10 (.cells #[.int .i64 0, .int .i64 0, .int .u64 0, .slice none 0 0, .slice none 0 0] 28))
          have hgz := hid hS.size
          have bb := box_below y10 (.cells #[.int .i64 0, .int .i64 0, .int .u64 0, .slice none 0 0, .slice none 0 0] 28)
          have hS' := hid (Below.up hS bb)
          replace AG := hid (AG.out.later bb)
          replace AC := hid (AC.out.later bb)
          clear bb
          refine hK.out _ _ hS'.out (fun hS => ?_)
          clear hK K hS'
          generalize y10.alloc (.cells #[.int .i64 0, .int .i64 0, .int .u64 0, .slice none 0 0, .slice none 0 0] 28) = y15 at *
          generalize y10.heap.size = g15 at *
          refine wpAnyH_ready (rs := [9]) (by kernel_rfl) (by simp) ?_
          refine AllReadyH.cons rfl (fun K hK => ?_) ?_
          · obtain ⟨v9, y9, r9, o9, gr9, q9⟩ := El.app ePl y15 WS.heap.size _ _ AG.out.o _ _ _ ps (HPl.out _ hS) (by show (0 + pn) * 16 ≤ _; omega) (by show 0 + pn ≤ _; omega) AG.out.sz
            have A2 : Acc ePl WS y9 v9 ([] ++ ps) := ⟨o9, below_grown AG.out.lo AG.out.sz gr9 (fun j hj => (own_lt AG.out.o j hj).1)⟩
            rw [List.nil_append] at A2
            obtain ⟨a9, c9, hv9⟩ := A2.shape
            rw [← hpn.out] at hv9
            subst hv9
            replace AC := hid (keep_acc gr9 AG.out AC.out (by decide))
            replace KZ := hid (keep_blk gr9 AG.out.o KZ.out (by decide))
            clear o9 gr9 q9 AG
            have AG := hid A2
            clear A2
            replace r9 := hid r9
            refine wp_append_run (.tmp 24) (.tmp 26) 25 25 rfl (.slice (some ⟨g6, 0, none⟩) 0 0) (.slice pa pn pc) (.slice a9 pn c9) (by go_simp) (by go_simp) r9.out ?_
            go_simp
            refine hK.out _ _ AG.out.lo (fun hS => ?_)
            clear hK K
            refine wpAnyH_ready (rs := [13]) (by kernel_rfl) (by simp) ?_
            refine AllReadyH.cons rfl (fun K hK => ?_) ?_
            · obtain ⟨v13, y13, r13, o13, gr13, q13⟩ := El.app eAd y9 WS.heap.size _ _ AC.out.o _ _ _ co (HCl.out _ hS) (by show (0 + cn) * 72 ≤ _; omega) (by show 0 + cn ≤ _; omega) AC.out.sz
              have A2 : Acc eAd WS y13 v13 ([] ++ co) := ⟨o13, below_grown AC.out.lo AC.out.sz gr13 (fun j hj => (own_lt AC.out.o j hj).1)⟩
              rw [List.nil_append] at A2
              obtain ⟨a13, c13, hv13⟩ := A2.shape
              rw [← hcn.out] at hv13
              subst hv13
              replace AG := hid (keep_acc gr13 AC.out AG.out (by decide))
              replace KZ := hid (keep_blk gr13 AC.out.o KZ.out (by decide))
              clear o13 gr13 q13 AC
              have AC := hid A2
              clear A2
              replace r13 := hid r13
              refine wp_append_run (.tmp 28) (.tmp 30) 26 26 rfl (.slice (some ⟨g10, 0, none⟩) 0 0) (.slice ca cn cc) (.slice a13 cn c13) (by go_simp) (by go_simp) r13.out ?_
              go_simp
              refine hK.out _ _ AC.out.lo (fun hS => ?_)
              clear hK K
              refine wpAnyH_take (i := 14) (v := ?v16) rfl (by kernel_rfl) (by kernel_rfl) (by kernel_rfl) (fun _ _ _ h => h) (Or.inl ⟨by rfl, ?h16⟩) hS ?_
              case h16 => (intro W hW; go_simp; try (with_reducible rfl))
              go_simp
              refine wpAnyH_ready (rs := [16]) (by kernel_rfl) (by simp) ?_
              refine AllReadyH.cons rfl (fun K hK => ?_) ?_
              · have q0 := cell_of KZ.out 0 _ rfl
                have f0 := fz_of KZ.out 0
                have q1 := cell_of KZ.out 1 _ rfl
                have f1 := fz_of KZ.out 1
                have q2 := cell_of KZ.out 2 _ rfl
                have f2 := fz_of KZ.out 2
                have q3 := cell_of KZ.out 3 _ rfl
                have f3 := fz_of KZ.out 3
                have q4 := cell_of KZ.out 4 _ rfl
                have f4 := fz_of KZ.out 4
                have KF := hid (five_put KZ.out (.int .i64 lg) (.int .i64 nx) (.int .u64 sq) (.slice a9 pn c9) (.slice a13 cn c13))
                have BF := hid (five_low hS hgz.out (.int .i64 lg) (.int .i64 nx) (.int .u64 sq) (.slice a9 pn c9) (.slice a13 cn c13))
                have OG := hid (own_blocks AG.out.o (fun j hj => five_ne y13 g15 j (.int .i64 lg) (.int .i64 nx) (.int .u64 sq) (.slice a9 pn c9) (.slice a13 cn c13) (own_ne AG.out.o KZ.out (by decide) j hj)))
                have OC := hid (own_blocks AC.out.o (fun j hj => five_ne y13 g15 j (.int .i64 lg) (.int .i64 nx) (.int .u64 sq) (.slice a9 pn c9) (.slice a13 cn c13) (own_ne AC.out.o KZ.out (by decide) j hj)))
                unfold five5 at KF BF OG OC
                go_simp
                refine hK.out _ _ BF.out (fun hS => ?_)
                clear hK K
                refine wpAnyH_done (by kernel_rfl) ?_ _
                go_wp2_with fail
                go_meet
                case rel => exact ⟨g15, a9, c9, a13, c13, rfl, KF, OG, OC, BF⟩
              exact AllReadyH.nil
            exact AllReadyH.nil
          exact AllReadyH.nil
        exact AllReadyH.nil
      refine AllReadyH.cons rfl (fun K hK => ?_) ?_
      · go_simp
        have KZ := hid (new_at y6 (.cells #[.int .i64 0, .int .i64 0, .int .u64 0, .slice none 0 0, .slice none 0 0] 28))
        have hgz := hid hS.size
        have bb := box_below y6 (.cells #[.int .i64 0, .int .i64 0, .int .u64 0, .slice none 0 0, .slice none 0 0] 28)
        have hS' := hid (Below.up hS bb)
        replace AG := hid (AG.out.later bb)
        clear bb
        refine hK.out _ _ hS'.out (fun hS => ?_)
        clear hK K hS'
        generalize y6.alloc (.cells #[.int .i64 0, .int .i64 0, .int .u64 0, .slice none 0 0, .slice none 0 0] 28) = y15 at *
        generalize y6.heap.size = g15 at *
        refine wpAnyH_ready (rs := [9, 10]) (by kernel_rfl) (by simp) ?_
        refine AllReadyH.cons rfl (fun K hK => ?_) ?_
        · obtain ⟨v9, y9, r9, o9, gr9, q9⟩ := El.app ePl y15 WS.heap.size _ _ AG.out.o _ _ _ ps (HPl.out _ hS) (by show (0 + pn) * 16 ≤ _; omega) (by show 0 + pn ≤ _; omega) AG.out.sz
          have A2 : Acc ePl WS y9 v9 ([] ++ ps) := ⟨o9, below_grown AG.out.lo AG.out.sz gr9 (fun j hj => (own_lt AG.out.o j hj).1)⟩
          rw [List.nil_append] at A2
          obtain ⟨a9, c9, hv9⟩ := A2.shape
          rw [← hpn.out] at hv9
          subst hv9
          replace KZ := hid (keep_blk gr9 AG.out.o KZ.out (by decide))
          clear o9 gr9 q9 AG
          have AG := hid A2
          clear A2
          replace r9 := hid r9
          refine wp_append_run (.tmp 24) (.tmp 26) 25 25 rfl (.slice (some ⟨g6, 0, none⟩) 0 0) (.slice pa pn pc) (.slice a9 pn c9) (by go_simp) (by go_simp) r9.out ?_
          go_simp
          refine hK.out _ _ AG.out.lo (fun hS => ?_)
          clear hK K
          refine wpAnyH_ready (rs := [10]) (by kernel_rfl) (by simp) ?_
          refine AllReadyH.cons rfl (fun K hK => ?_) ?_
          · go_simp
            have AC0 := made3 eAd hS
            have bb := box_below y9 (.cells #[] 45)
            have hS' := hid (Below.up hS bb)
            replace AG := hid (AG.out.later bb)
            replace KZ := hid ((bb.block _ (blk_lt KZ.out)).trans KZ.out)
            clear bb
            refine hK.out _ _ hS'.out (fun hS => ?_)
            clear hK K hS'
            change Acc eAd WS (y9.alloc (.cells #[] 45)) _ _ at AC0
            replace AC0 := hid AC0
            generalize y9.alloc (.cells #[] 45) = y10 at *
            generalize y9.heap.size = g10 at *
            have AC := AC0
            clear AC0
            refine wpAnyH_ready (rs := [13]) (by kernel_rfl) (by simp) ?_
            refine AllReadyH.cons rfl (fun K hK => ?_) ?_
            · obtain ⟨v13, y13, r13, o13, gr13, q13⟩ := El.app eAd y10 WS.heap.size _ _ AC.out.o _ _ _ co (HCl.out _ hS) (by show (0 + cn) * 72 ≤ _; omega) (by show 0 + cn ≤ _; omega) AC.out.sz
              have A2 : Acc eAd WS y13 v13 ([] ++ co) := ⟨o13, below_grown AC.out.lo AC.out.sz gr13 (fun j hj => (own_lt AC.out.o j hj).1)⟩
              rw [List.nil_append] at A2
              obtain ⟨a13, c13, hv13⟩ := A2.shape
              rw [← hcn.out] at hv13
              subst hv13
              replace AG := hid (keep_acc gr13 AC.out AG.out (by decide))
              replace KZ := hid (keep_blk gr13 AC.out.o KZ.out (by decide))
              clear o13 gr13 q13 AC
              have AC := hid A2
              clear A2
              replace r13 := hid r13
              refine wp_append_run (.tmp 28) (.tmp 30) 26 26 rfl (.slice (some ⟨g10, 0, none⟩) 0 0) (.slice ca cn cc) (.slice a13 cn c13) (by go_simp) (by go_simp) r13.out ?_
              go_simp
              refine hK.out _ _ AC.out.lo (fun hS => ?_)
              clear hK K
              refine wpAnyH_take (i := 14) (v := ?v17) rfl (by kernel_rfl) (by kernel_rfl) (by kernel_rfl) (fun _ _ _ h => h) (Or.inl ⟨by rfl, ?h17⟩) hS ?_
              case h17 => (intro W hW; go_simp; try (with_reducible rfl))
              go_simp
              refine wpAnyH_ready (rs := [16]) (by kernel_rfl) (by simp) ?_
              refine AllReadyH.cons rfl (fun K hK => ?_) ?_
              · have q0 := cell_of KZ.out 0 _ rfl
                have f0 := fz_of KZ.out 0
                have q1 := cell_of KZ.out 1 _ rfl
                have f1 := fz_of KZ.out 1
                have q2 := cell_of KZ.out 2 _ rfl
                have f2 := fz_of KZ.out 2
                have q3 := cell_of KZ.out 3 _ rfl
                have f3 := fz_of KZ.out 3
                have q4 := cell_of KZ.out 4 _ rfl
                have f4 := fz_of KZ.out 4
                have KF := hid (five_put KZ.out (.int .i64 lg) (.int .i64 nx) (.int .u64 sq) (.slice a9 pn c9) (.slice a13 cn c13))
                have BF := hid (five_low hS hgz.out (.int .i64 lg) (.int .i64 nx) (.int .u64 sq) (.slice a9 pn c9) (.slice a13 cn c13))
                have OG := hid (own_blocks AG.out.o (fun j hj => five_ne y13 g15 j (.int .i64 lg) (.int .i64 nx) (.int .u64 sq) (.slice a9 pn c9) (.slice a13 cn c13) (own_ne AG.out.o KZ.out (by decide) j hj)))
                have OC := hid (own_blocks AC.out.o (fun j hj => five_ne y13 g15 j (.int .i64 lg) (.int .i64 nx) (.int .u64 sq) (.slice a9 pn c9) (.slice a13 cn c13) (own_ne AC.out.o KZ.out (by decide) j hj)))
                unfold five5 at KF BF OG OC
                go_simp
                refine hK.out _ _ BF.out (fun hS => ?_)
                clear hK K
                refine wpAnyH_done (by kernel_rfl) ?_ _
                go_wp2_with fail
                go_meet
                case rel => exact ⟨g15, a9, c9, a13, c13, rfl, KF, OG, OC, BF⟩
              exact AllReadyH.nil
            exact AllReadyH.nil
          exact AllReadyH.nil
        refine AllReadyH.cons rfl (fun K hK => ?_) ?_
        · go_simp
          have AC0 := made3 eAd hS
          have bb := box_below y15 (.cells #[] 45)
          have hS' := hid (Below.up hS bb)
          replace AG := hid (AG.out.later bb)
          replace KZ := hid ((bb.block _ (blk_lt KZ.out)).trans KZ.out)
          clear bb
          refine hK.out _ _ hS'.out (fun hS => ?_)
          clear hK K hS'
          change Acc eAd WS (y15.alloc (.cells #[] 45)) _ _ at AC0
          replace AC0 := hid AC0
          generalize y15.alloc (.cells #[] 45) = y10 at *
          generalize y15.heap.size = g10 at *
          have AC := AC0
          clear AC0
          refine wpAnyH_ready (rs := [9]) (by kernel_rfl) (by simp) ?_
          refine AllReadyH.cons rfl (fun K hK => ?_) ?_
          · obtain ⟨v9, y9, r9, o9, gr9, q9⟩ := El.app ePl y10 WS.heap.size _ _ AG.out.o _ _ _ ps (HPl.out _ hS) (by show (0 + pn) * 16 ≤ _; omega) (by show 0 + pn ≤ _; omega) AG.out.sz
            have A2 : Acc ePl WS y9 v9 ([] ++ ps) := ⟨o9, below_grown AG.out.lo AG.out.sz gr9 (fun j hj => (own_lt AG.out.o j hj).1)⟩
            rw [List.nil_append] at A2
            obtain ⟨a9, c9, hv9⟩ := A2.shape
            rw [← hpn.out] at hv9
            subst hv9
            replace AC := hid (keep_acc gr9 AG.out AC.out (by decide))
            replace KZ := hid (keep_blk gr9 AG.out.o KZ.out (by decide))
            clear o9 gr9 q9 AG
            have AG := hid A2
            clear A2
            replace r9 := hid r9
            refine wp_append_run (.tmp 24) (.tmp 26) 25 25 rfl (.slice (some ⟨g6, 0, none⟩) 0 0) (.slice pa pn pc) (.slice a9 pn c9) (by go_simp) (by go_simp) r9.out ?_
            go_simp
            refine hK.out _ _ AG.out.lo (fun hS => ?_)
            clear hK K
            refine wpAnyH_ready (rs := [13]) (by kernel_rfl) (by simp) ?_
            refine AllReadyH.cons rfl (fun K hK => ?_) ?_
            · obtain ⟨v13, y13, r13, o13, gr13, q13⟩ := El.app eAd y9 WS.heap.size _ _ AC.out.o _ _ _ co (HCl.out _ hS) (by show (0 + cn) * 72 ≤ _; omega) (by show 0 + cn ≤ _; omega) AC.out.sz
              have A2 : Acc eAd WS y13 v13 ([] ++ co) := ⟨o13, below_grown AC.out.lo AC.out.sz gr13 (fun j hj => (own_lt AC.out.o j hj).1)⟩
              rw [List.nil_append] at A2
              obtain ⟨a13, c13, hv13⟩ := A2.shape
              rw [← hcn.out] at hv13
              subst hv13
              replace AG := hid (keep_acc gr13 AC.out AG.out (by decide))
              replace KZ := hid (keep_blk gr13 AC.out.o KZ.out (by decide))
              clear o13 gr13 q13 AC
              have AC := hid A2
              clear A2
              replace r13 := hid r13
              refine wp_append_run (.tmp 28) (.tmp 30) 26 26 rfl (.slice (some ⟨g10, 0, none⟩) 0 0) (.slice ca cn cc) (.slice a13 cn c13) (by go_simp) (by go_simp) r13.out ?_
              go_simp
              refine hK.out _ _ AC.out.lo (fun hS => ?_)
              clear hK K
              refine wpAnyH_take (i := 14) (v := ?v18) rfl (by kernel_rfl) (by kernel_rfl) (by kernel_rfl) (fun _ _ _ h => h) (Or.inl ⟨by rfl, ?h18⟩) hS ?_
              case h18 => (intro W hW; go_simp; try (with_reducible rfl))
              go_simp
              refine wpAnyH_ready (rs := [16]) (by kernel_rfl) (by simp) ?_
              refine AllReadyH.cons rfl (fun K hK => ?_) ?_
              · have q0 := cell_of KZ.out 0 _ rfl
                have f0 := fz_of KZ.out 0
                have q1 := cell_of KZ.out 1 _ rfl
                have f1 := fz_of KZ.out 1
                have q2 := cell_of KZ.out 2 _ rfl
                have f2 := fz_of KZ.out 2
                have q3 := cell_of KZ.out 3 _ rfl
                have f3 := fz_of KZ.out 3
                have q4 := cell_of KZ.out 4 _ rfl
                have f4 := fz_of KZ.out 4
                have KF := hid (five_put KZ.out (.int .i64 lg) (.int .i64 nx) (.int .u64 sq) (.slice a9 pn c9) (.slice a13 cn c13))
                have BF := hid (five_low hS hgz.out (.int .i64 lg) (.int .i64 nx) (.int .u64 sq) (.slice a9 pn c9) (.slice a13 cn c13))
                have OG := hid (own_blocks AG.out.o (fun j hj => five_ne y13 g15 j (.int .i64 lg) (.int .i64 nx) (.int .u64 sq) (.slice a9 pn c9) (.slice a13 cn c13) (own_ne AG.out.o KZ.out (by decide) j hj)))
                have OC := hid (own_blocks AC.out.o (fun j hj => five_ne y13 g15 j (.int .i64 lg) (.int .i64 nx) (.int .u64 sq) (.slice a9 pn c9) (.slice a13 cn c13) (own_ne AC.out.o KZ.out (by decide) j hj)))
                unfold five5 at KF BF OG OC
                go_simp
                refine hK.out _ _ BF.out (fun hS => ?_)
                clear hK K
                refine wpAnyH_done (by kernel_rfl) ?_ _
                go_wp2_with fail
                go_meet
                case rel => exact ⟨g15, a9, c9, a13, c13, rfl, KF, OG, OC, BF⟩
              exact AllReadyH.nil
            exact AllReadyH.nil
          exact AllReadyH.nil
        exact AllReadyH.nil
      exact AllReadyH.nil
    refine AllReadyH.cons rfl (fun K hK => ?_) ?_
    · go_simp
      have AC0 := made3 eAd hS
      have bb := box_below D (.cells #[] 45)
      have hS' := hid (Below.up hS bb)
      clear bb
      refine hK.out _ _ hS'.out (fun hS => ?_)
      clear hK K hS'
      change Acc eAd WS (D.alloc (.cells #[] 45)) _ _ at AC0
      replace AC0 := hid AC0
      generalize D.alloc (.cells #[] 45) = y10 at *
      generalize D.heap.size = g10 at *
      have AC := AC0
      clear AC0
      refine wpAnyH_ready (rs := [6, 15]) (by kernel_rfl) (by simp) ?_
      refine AllReadyH.cons rfl (fun K hK => ?_) ?_
      · go_simp
        have AG0 := made3 ePl hS
        have bb := box_below y10 (.cells #[] 41)
        have hS' := hid (Below.up hS bb)
        replace AC := hid (AC.out.later bb)
        clear bb
        refine hK.out _ _ hS'.out (fun hS => ?_)
        clear hK K hS'
        change Acc ePl WS (y10.alloc (.cells #[] 41)) _ _ at AG0
        replace AG0 := hid AG0
        generalize y10.alloc (.cells #[] 41) = y6 at *
        generalize y10.heap.size = g6 at *
        have AG := AG0
        clear AG0
        refine wpAnyH_ready (rs := [9, 15]) (by kernel_rfl) (by simp) ?_
        refine AllReadyH.cons rfl (fun K hK => ?_) ?_
        · obtain ⟨v9, y9, r9, o9, gr9, q9⟩ := El.app ePl y6 WS.heap.size _ _ AG.out.o _ _ _ ps (HPl.out _ hS) (by show (0 + pn) * 16 ≤ _; omega) (by show 0 + pn ≤ _; omega) AG.out.sz
          have A2 : Acc ePl WS y9 v9 ([] ++ ps) := ⟨o9, below_grown AG.out.lo AG.out.sz gr9 (fun j hj => (own_lt AG.out.o j hj).1)⟩
          rw [List.nil_append] at A2
          obtain ⟨a9, c9, hv9⟩ := A2.shape
          rw [← hpn.out] at hv9
          subst hv9
          replace AC := hid (keep_acc gr9 AG.out AC.out (by decide))
          clear o9 gr9 q9 AG
          have AG := hid A2
          clear A2
          replace r9 := hid r9
          refine wp_append_run (.tmp 24) (.tmp 26) 25 25 rfl (.slice (some ⟨g6, 0, none⟩) 0 0) (.slice pa pn pc) (.slice a9 pn c9) (by go_simp) (by go_simp) r9.out ?_
          go_simp
          refine hK.out _ _ AG.out.lo (fun hS => ?_)
          clear hK K
          refine wpAnyH_ready (rs := [13, 15]) (by kernel_rfl) (by simp) ?_
          refine AllReadyH.cons rfl (fun K hK => ?_) ?_
          · obtain ⟨v13, y13, r13, o13, gr13, q13⟩ := El.app eAd y9 WS.heap.size _ _ AC.out.o _ _ _ co (HCl.out _ hS) (by show (0 + cn) * 72 ≤ _; omega) (by show 0 + cn ≤ _; omega) AC.out.sz
            have A2 : Acc eAd WS y13 v13 ([] ++ co) := ⟨o13, below_grown AC.out.lo AC.out.sz gr13 (fun j hj => (own_lt AC.out.o j hj).1)⟩
            rw [List.nil_append] at A2
            obtain ⟨a13, c13, hv13⟩ := A2.shape
            rw [← hcn.out] at hv13
            subst hv13
            replace AG := hid (keep_acc gr13 AC.out AG.out (by decide))
            clear o13 gr13 q13 AC
            have AC := hid A2
            clear A2
            replace r13 := hid r13
            refine wp_append_run (.tmp 28) (.tmp 30) 26 26 rfl (.slice (some ⟨g10, 0, none⟩) 0 0) (.slice ca cn cc) (.slice a13 cn c13) (by go_simp) (by go_simp) r13.out ?_
            go_simp
            refine hK.out _ _ AC.out.lo (fun hS => ?_)
            clear hK K
            refine wpAnyH_take (i := 14) (v := ?v19) rfl (by kernel_rfl) (by kernel_rfl) (by kernel_rfl) (fun _ _ _ h => h) (Or.inl ⟨by rfl, ?h19⟩) hS ?_
            case h19 => (intro W hW; go_simp; try (with_reducible rfl))
            go_simp
            refine wpAnyH_ready (rs := [15]) (by kernel_rfl) (by simp) ?_
            refine AllReadyH.cons rfl (fun K hK => ?_) ?_
            · go_simp
              have KZ := hid (new_at y13 (.cells #[.int .i64 0, .int .i64 0, .int .u64 0, .slice none 0 0, .slice none 0 0] 28))
              have hgz := hid hS.size
              have bb := box_below y13 (.cells #[.int .i64 0, .int .i64 0, .int .u64 0, .slice none 0 0, .slice none 0 0] 28)
              have hS' := hid (Below.up hS bb)
              replace AG := hid (AG.out.later bb)
              replace AC := hid (AC.out.later bb)
              clear bb
              refine hK.out _ _ hS'.out (fun hS => ?_)
              clear hK K hS'
              generalize y13.alloc (.cells #[.int .i64 0, .int .i64 0, .int .u64 0, .slice none 0 0, .slice none 0 0] 28) = y15 at *
              generalize y13.heap.size = g15 at *
              refine wpAnyH_ready (rs := [16]) (by kernel_rfl) (by simp) ?_
              refine AllReadyH.cons rfl (fun K hK => ?_) ?_
              · have q0 := cell_of KZ.out 0 _ rfl
                have f0 := fz_of KZ.out 0
                have q1 := cell_of KZ.out 1 _ rfl
                have f1 := fz_of KZ.out 1
                have q2 := cell_of KZ.out 2 _ rfl
                have f2 := fz_of KZ.out 2
                have q3 := cell_of KZ.out 3 _ rfl
                have f3 := fz_of KZ.out 3
                have q4 := cell_of KZ.out 4 _ rfl
                have f4 := fz_of KZ.out 4
                have KF := hid (five_put KZ.out (.int .i64 lg) (.int .i64 nx) (.int .u64 sq) (.slice a9 pn c9) (.slice a13 cn c13))
                have BF := hid (five_low hS hgz.out (.int .i64 lg) (.int .i64 nx) (.int .u64 sq) (.slice a9 pn c9) (.slice a13 cn c13))
                have OG := hid (own_blocks AG.out.o (fun j hj => five_ne y15 g15 j (.int .i64 lg) (.int .i64 nx) (.int .u64 sq) (.slice a9 pn c9) (.slice a13 cn c13) (own_ne AG.out.o KZ.out (by decide) j hj)))
                have OC := hid (own_blocks AC.out.o (fun j hj => five_ne y15 g15 j (.int .i64 lg) (.int .i64 nx) (.int .u64 sq) (.slice a9 pn c9) (.slice a13 cn c13) (own_ne AC.out.o KZ.out (by decide) j hj)))
                unfold five5 at KF BF OG OC
                go_simp
                refine hK.out _ _ BF.out (fun hS => ?_)
                clear hK K
                refine wpAnyH_done (by kernel_rfl) ?_ _
                go_wp2_with fail
                go_meet
                case rel => exact ⟨g15, a9, c9, a13, c13, rfl, KF, OG, OC, BF⟩
              exact AllReadyH.nil
            exact AllReadyH.nil
          refine AllReadyH.cons rfl (fun K hK => ?_) ?_
          · go_simp
            have KZ := hid (new_at y9 (.cells #[.int .i64 0, .int .i64 0, .int .u64 0, .slice none 0 0, .slice none 0 0] 28))
            have hgz := hid hS.size
            have bb := box_below y9 (.cells #[.int .i64 0, .int .i64 0, .int .u64 0, .slice none 0 0, .slice none 0 0] 28)
            have hS' := hid (Below.up hS bb)
            replace AG := hid (AG.out.later bb)
            replace AC := hid (AC.out.later bb)
            clear bb
            refine hK.out _ _ hS'.out (fun hS => ?_)
            clear hK K hS'
            generalize y9.alloc (.cells #[.int .i64 0, .int .i64 0, .int .u64 0, .slice none 0 0, .slice none 0 0] 28) = y15 at *
            generalize y9.heap.size = g15 at *
            refine wpAnyH_ready (rs := [13]) (by kernel_rfl) (by simp) ?_
            refine AllReadyH.cons rfl (fun K hK => ?_) ?_
            · obtain ⟨v13, y13, r13, o13, gr13, q13⟩ := El.app eAd y15 WS.heap.size _ _ AC.out.o _ _ _ co (HCl.out _ hS) (by show (0 + cn) * 72 ≤ _; omega) (by show 0 + cn ≤ _; omega) AC.out.sz
              have A2 : Acc eAd WS y13 v13 ([] ++ co) := ⟨o13, below_grown AC.out.lo AC.out.sz gr13 (fun j hj => (own_lt AC.out.o j hj).1)⟩
              rw [List.nil_append] at A2
              obtain ⟨a13, c13, hv13⟩ := A2.shape
              rw [← hcn.out] at hv13
              subst hv13
              replace AG := hid (keep_acc gr13 AC.out AG.out (by decide))
              replace KZ := hid (keep_blk gr13 AC.out.o KZ.out (by decide))
              clear o13 gr13 q13 AC
              have AC := hid A2
              clear A2
              replace r13 := hid r13
              refine wp_append_run (.tmp 28) (.tmp 30) 26 26 rfl (.slice (some ⟨g10, 0, none⟩) 0 0) (.slice ca cn cc) (.slice a13 cn c13) (by go_simp) (by go_simp) r13.out ?_
              go_simp
              refine hK.out _ _ AC.out.lo (fun hS => ?_)
              clear hK K
              refine wpAnyH_take (i := 14) (v := ?v20) rfl (by kernel_rfl) (by kernel_rfl) (by kernel_rfl) (fun _ _ _ h => h) (Or.inl ⟨by rfl, ?h20⟩) hS ?_
              case h20 => (intro W hW; go_simp; try (with_reducible rfl))
              go_simp
              refine wpAnyH_ready (rs := [16]) (by kernel_rfl) (by simp) ?_
              refine AllReadyH.cons rfl (fun K hK => ?_) ?_
              · have q0 := cell_of KZ.out 0 _ rfl
                have f0 := fz_of KZ.out 0
                have q1 := cell_of KZ.out 1 _ rfl
                have f1 := fz_of KZ.out 1
                have q2 := cell_of KZ.out 2 _ rfl
                have f2 := fz_of KZ.out 2
                have q3 := cell_of KZ.out 3 _ rfl
                have f3 := fz_of KZ.out 3
                have q4 := cell_of KZ.out 4 _ rfl
                have f4 := fz_of KZ.out 4
                have KF := hid (five_put KZ.out (.int .i64 lg) (.int .i64 nx) (.int .u64 sq) (.slice a9 pn c9) (.slice a13 cn c13))
                have BF := hid (five_low hS hgz.out (.int .i64 lg) (.int .i64 nx) (.int .u64 sq) (.slice a9 pn c9) (.slice a13 cn c13))
                have OG := hid (own_blocks AG.out.o (fun j hj => five_ne y13 g15 j (.int .i64 lg) (.int .i64 nx) (.int .u64 sq) (.slice a9 pn c9) (.slice a13 cn c13) (own_ne AG.out.o KZ.out (by decide) j hj)))
                have OC := hid (own_blocks AC.out.o (fun j hj => five_ne y13 g15 j (.int .i64 lg) (.int .i64 nx) (.int .u64 sq) (.slice a9 pn c9) (.slice a13 cn c13) (own_ne AC.out.o KZ.out (by decide) j hj)))
                unfold five5 at KF BF OG OC
                go_simp
                refine hK.out _ _ BF.out (fun hS => ?_)
                clear hK K
                refine wpAnyH_done (by kernel_rfl) ?_ _
                go_wp2_with fail
                go_meet
                case rel => exact ⟨g15, a9, c9, a13, c13, rfl, KF, OG, OC, BF⟩
              exact AllReadyH.nil
            exact AllReadyH.nil
          exact AllReadyH.nil
        refine AllReadyH.cons rfl (fun K hK => ?_) ?_
        · go_simp
          have KZ := hid (new_at y6 (.cells #[.int .i64 0, .int .i64 0, .int .u64 0, .slice none 0 0, .slice none 0 0] 28))
          have hgz := hid hS.size
          have bb := box_below y6 (.cells #[.int .i64 0, .int .i64 0, .int .u64 0, .slice none 0 0, .slice none 0 0] 28)
          have hS' := hid (Below.up hS bb)
          replace AG := hid (AG.out.later bb)
          replace AC := hid (AC.out.later bb)
          clear bb
          refine hK.out _ _ hS'.out (fun hS => ?_)
          clear hK K hS'
          generalize y6.alloc (.cells #[.int .i64 0, .int .i64 0, .int .u64 0, .slice none 0 0, .slice none 0 0] 28) = y15 at *
          generalize y6.heap.size = g15 at *
          refine wpAnyH_ready (rs := [9]) (by kernel_rfl) (by simp) ?_
          refine AllReadyH.cons rfl (fun K hK => ?_) ?_
          · obtain ⟨v9, y9, r9, o9, gr9, q9⟩ := El.app ePl y15 WS.heap.size _ _ AG.out.o _ _ _ ps (HPl.out _ hS) (by show (0 + pn) * 16 ≤ _; omega) (by show 0 + pn ≤ _; omega) AG.out.sz
            have A2 : Acc ePl WS y9 v9 ([] ++ ps) := ⟨o9, below_grown AG.out.lo AG.out.sz gr9 (fun j hj => (own_lt AG.out.o j hj).1)⟩
            rw [List.nil_append] at A2
            obtain ⟨a9, c9, hv9⟩ := A2.shape
            rw [← hpn.out] at hv9
            subst hv9
            replace AC := hid (keep_acc gr9 AG.out AC.out (by decide))
            replace KZ := hid (keep_blk gr9 AG.out.o KZ.out (by decide))
            clear o9 gr9 q9 AG
            have AG := hid A2
            clear A2
            replace r9 := hid r9
            refine wp_append_run (.tmp 24) (.tmp 26) 25 25 rfl (.slice (some ⟨g6, 0, none⟩) 0 0) (.slice pa pn pc) (.slice a9 pn c9) (by go_simp) (by go_simp) r9.out ?_
            go_simp
            refine hK.out _ _ AG.out.lo (fun hS => ?_)
            clear hK K
            refine wpAnyH_ready (rs := [13]) (by kernel_rfl) (by simp) ?_
            refine AllReadyH.cons rfl (fun K hK => ?_) ?_
            · obtain ⟨v13, y13, r13, o13, gr13, q13⟩ := El.app eAd y9 WS.heap.size _ _ AC.out.o _ _ _ co (HCl.out _ hS) (by show (0 + cn) * 72 ≤ _; omega) (by show 0 + cn ≤ _; omega) AC.out.sz
              have A2 : Acc eAd WS y13 v13 ([] ++ co) := ⟨o13, below_grown AC.out.lo AC.out.sz gr13 (fun j hj => (own_lt AC.out.o j hj).1)⟩
              rw [List.nil_append] at A2
              obtain ⟨a13, c13, hv13⟩ := A2.shape
              rw [← hcn.out] at hv13
              subst hv13
              replace AG := hid (keep_acc gr13 AC.out AG.out (by decide))
              replace KZ := hid (keep_blk gr13 AC.out.o KZ.out (by decide))
              clear o13 gr13 q13 AC
              have AC := hid A2
              clear A2
              replace r13 := hid r13
              refine wp_append_run (.tmp 28) (.tmp 30) 26 26 rfl (.slice (some ⟨g10, 0, none⟩) 0 0) (.slice ca cn cc) (.slice a13 cn c13) (by go_simp) (by go_simp) r13.out ?_
              go_simp
              refine hK.out _ _ AC.out.lo (fun hS => ?_)
              clear hK K
              refine wpAnyH_take (i := 14) (v := ?v21) rfl (by kernel_rfl) (by kernel_rfl) (by kernel_rfl) (fun _ _ _ h => h) (Or.inl ⟨by rfl, ?h21⟩) hS ?_
              case h21 => (intro W hW; go_simp; try (with_reducible rfl))
              go_simp
              refine wpAnyH_ready (rs := [16]) (by kernel_rfl) (by simp) ?_
              refine AllReadyH.cons rfl (fun K hK => ?_) ?_
              · have q0 := cell_of KZ.out 0 _ rfl
                have f0 := fz_of KZ.out 0
                have q1 := cell_of KZ.out 1 _ rfl
                have f1 := fz_of KZ.out 1
                have q2 := cell_of KZ.out 2 _ rfl
                have f2 := fz_of KZ.out 2
                have q3 := cell_of KZ.out 3 _ rfl
                have f3 := fz_of KZ.out 3
                have q4 := cell_of KZ.out 4 _ rfl
                have f4 := fz_of KZ.out 4
                have KF := hid (five_put KZ.out (.int .i64 lg) (.int .i64 nx) (.int .u64 sq) (.slice a9 pn c9) (.slice a13 cn c13))
                have BF := hid (five_low hS hgz.out (.int .i64 lg) (.int .i64 nx) (.int .u64 sq) (.slice a9 pn c9) (.slice a13 cn c13))
                have OG := hid (own_blocks AG.out.o (fun j hj => five_ne y13 g15 j (.int .i64 lg) (.int .i64 nx) (.int .u64 sq) (.slice a9 pn c9) (.slice a13 cn c13) (own_ne AG.out.o KZ.out (by decide) j hj)))
                have OC := hid (own_blocks AC.out.o (fun j hj => five_ne y13 g15 j (.int .i64 lg) (.int .i64 nx) (.int .u64 sq) (.slice a9 pn c9) (.slice a13 cn c13) (own_ne AC.out.o KZ.out (by decide) j hj)))
                unfold five5 at KF BF OG OC
                go_simp
                refine hK.out _ _ BF.out (fun hS => ?_)
                clear hK K
                refine wpAnyH_done (by kernel_rfl) ?_ _
                go_wp2_with fail
                go_meet
                case rel => exact ⟨g15, a9, c9, a13, c13, rfl, KF, OG, OC, BF⟩
              exact AllReadyH.nil
            exact AllReadyH.nil
          exact AllReadyH.nil
        exact AllReadyH.nil
      refine AllReadyH.cons rfl (fun K hK => ?_) ?_
      · go_simp
        have KZ := hid (new_at y10 (.cells #[.int .i64 0, .int .i64 0, .int .u64 0, .slice none 0 0, .slice none 0 0] 28))
        have hgz := hid hS.size
        have bb := box_below y10 (.cells #[.int .i64 0, .int .i64 0, .int .u64 0, .slice none 0 0, .slice none 0 0] 28)
        have hS' := hid (Below.up hS bb)
        replace AC := hid (AC.out.later bb)
        clear bb
        refine hK.out _ _ hS'.out (fun hS => ?_)
        clear hK K hS'
        generalize y10.alloc (.cells #[.int .i64 0, .int .i64 0, .int .u64 0, .slice none 0 0, .slice none 0 0] 28) = y15 at *
        generalize y10.heap.size = g15 at *
        refine wpAnyH_ready (rs := [6]) (by kernel_rfl) (by simp) ?_
        refine AllReadyH.cons rfl (fun K hK => ?_) ?_
        · go_simp
          have AG0 := made3 ePl hS
          have bb := box_below y15 (.cells #[] 41)
          have hS' := hid (Below.up hS bb)
          replace AC := hid (AC.out.later bb)
          replace KZ := hid ((bb.block _ (blk_lt KZ.out)).trans KZ.out)
          clear bb
          refine hK.out _ _ hS'.out (fun hS => ?_)
          clear hK K hS'
          change Acc ePl WS (y15.alloc (.cells #[] 41)) _ _ at AG0
          replace AG0 := hid AG0
          generalize y15.alloc (.cells #[] 41) = y6 at *
          generalize y15.heap.size = g6 at *
          have AG := AG0
          clear AG0
          refine wpAnyH_ready (rs := [9]) (by kernel_rfl) (by simp) ?_
          refine AllReadyH.cons rfl (fun K hK => ?_) ?_
          · obtain ⟨v9, y9, r9, o9, gr9, q9⟩ := El.app ePl y6 WS.heap.size _ _ AG.out.o _ _ _ ps (HPl.out _ hS) (by show (0 + pn) * 16 ≤ _; omega) (by show 0 + pn ≤ _; omega) AG.out.sz
            have A2 : Acc ePl WS y9 v9 ([] ++ ps) := ⟨o9, below_grown AG.out.lo AG.out.sz gr9 (fun j hj => (own_lt AG.out.o j hj).1)⟩
            rw [List.nil_append] at A2
            obtain ⟨a9, c9, hv9⟩ := A2.shape
            rw [← hpn.out] at hv9
            subst hv9
            replace AC := hid (keep_acc gr9 AG.out AC.out (by decide))
            replace KZ := hid (keep_blk gr9 AG.out.o KZ.out (by decide))
            clear o9 gr9 q9 AG
            have AG := hid A2
            clear A2
            replace r9 := hid r9
            refine wp_append_run (.tmp 24) (.tmp 26) 25 25 rfl (.slice (some ⟨g6, 0, none⟩) 0 0) (.slice pa pn pc) (.slice a9 pn c9) (by go_simp) (by go_simp) r9.out ?_
            go_simp
            refine hK.out _ _ AG.out.lo (fun hS => ?_)
            clear hK K
            refine wpAnyH_ready (rs := [13]) (by kernel_rfl) (by simp) ?_
            refine AllReadyH.cons rfl (fun K hK => ?_) ?_
            · obtain ⟨v13, y13, r13, o13, gr13, q13⟩ := El.app eAd y9 WS.heap.size _ _ AC.out.o _ _ _ co (HCl.out _ hS) (by show (0 + cn) * 72 ≤ _; omega) (by show 0 + cn ≤ _; omega) AC.out.sz
              have A2 : Acc eAd WS y13 v13 ([] ++ co) := ⟨o13, below_grown AC.out.lo AC.out.sz gr13 (fun j hj => (own_lt AC.out.o j hj).1)⟩
              rw [List.nil_append] at A2
              obtain ⟨a13, c13, hv13⟩ := A2.shape
              rw [← hcn.out] at hv13
              subst hv13
              replace AG := hid (keep_acc gr13 AC.out AG.out (by decide))
              replace KZ := hid (keep_blk gr13 AC.out.o KZ.out (by decide))
              clear o13 gr13 q13 AC
              have AC := hid A2
              clear A2
              replace r13 := hid r13
              refine wp_append_run (.tmp 28) (.tmp 30) 26 26 rfl (.slice (some ⟨g10, 0, none⟩) 0 0) (.slice ca cn cc) (.slice a13 cn c13) (by go_simp) (by go_simp) r13.out ?_
              go_simp
              refine hK.out _ _ AC.out.lo (fun hS => ?_)
              clear hK K
              refine wpAnyH_take (i := 14) (v := ?v22) rfl (by kernel_rfl) (by kernel_rfl) (by kernel_rfl) (fun _ _ _ h => h) (Or.inl ⟨by rfl, ?h22⟩) hS ?_
              case h22 => (intro W hW; go_simp; try (with_reducible rfl))
              go_simp
              refine wpAnyH_ready (rs := [16]) (by kernel_rfl) (by simp) ?_
              refine AllReadyH.cons rfl (fun K hK => ?_) ?_
              · have q0 := cell_of KZ.out 0 _ rfl
                have f0 := fz_of KZ.out 0
                have q1 := cell_of KZ.out 1 _ rfl
                have f1 := fz_of KZ.out 1
                have q2 := cell_of KZ.out 2 _ rfl
                have f2 := fz_of KZ.out 2
                have q3 := cell_of KZ.out 3 _ rfl
                have f3 := fz_of KZ.out 3
                have q4 := cell_of KZ.out 4 _ rfl
                have f4 := fz_of KZ.out 4
                have KF := hid (five_put KZ.out (.int .i64 lg) (.int .i64 nx) (.int .u64 sq) (.slice a9 pn c9) (.slice a13 cn c13))
                have BF := hid (five_low hS hgz.out (.int .i64 lg) (.int .i64 nx) (.int .u64 sq) (.slice a9 pn c9) (.slice a13 cn c13))
                have OG := hid (own_blocks AG.out.o (fun j hj => five_ne y13 g15 j (.int .i64 lg) (.int .i64 nx) (.int .u64 sq) (.slice a9 pn c9) (.slice a13 cn c13) (own_ne AG.out.o KZ.out (by decide) j hj)))
                have OC := hid (own_blocks AC.out.o (fun j hj => five_ne y13 g15 j (.int .i64 lg) (.int .i64 nx) (.int .u64 sq) (.slice a9 pn c9) (.slice a13 cn c13) (own_ne AC.out.o KZ.out (by decide) j hj)))
                unfold five5 at KF BF OG OC
                go_simp
                refine hK.out _ _ BF.out (fun hS => ?_)
                clear hK K
                refine wpAnyH_done (by kernel_rfl) ?_ _
                go_wp2_with fail
                go_meet
                case rel => exact ⟨g15, a9, c9, a13, c13, rfl, KF, OG, OC, BF⟩
              exact AllReadyH.nil
            exact AllReadyH.nil
          exact AllReadyH.nil
        exact AllReadyH.nil
      exact AllReadyH.nil
    refine AllReadyH.cons rfl (fun K hK => ?_) ?_
    · go_simp
      have KZ := hid (new_at D (.cells #[.int .i64 0, .int .i64 0, .int .u64 0, .slice none 0 0, .slice none 0 0] 28))
      have hgz := hid hS.size
      have bb := box_below D (.cells #[.int .i64 0, .int .i64 0, .int .u64 0, .slice none 0 0, .slice none 0 0] 28)
      have hS' := hid (Below.up hS bb)
      clear bb
      refine hK.out _ _ hS'.out (fun hS => ?_)
      clear hK K hS'
      generalize D.alloc (.cells #[.int .i64 0, .int .i64 0, .int .u64 0, .slice none 0 0, .slice none 0 0] 28) = y15 at *
      generalize D.heap.size = g15 at *
      refine wpAnyH_ready (rs := [6, 10]) (by kernel_rfl) (by simp) ?_
      refine AllReadyH.cons rfl (fun K hK => ?_) ?_
      · go_simp
        have AG0 := made3 ePl hS
        have bb := box_below y15 (.cells #[] 41)
        have hS' := hid (Below.up hS bb)
        replace KZ := hid ((bb.block _ (blk_lt KZ.out)).trans KZ.out)
        clear bb
        refine hK.out _ _ hS'.out (fun hS => ?_)
        clear hK K hS'
        change Acc ePl WS (y15.alloc (.cells #[] 41)) _ _ at AG0
        replace AG0 := hid AG0
        generalize y15.alloc (.cells #[] 41) = y6 at *
        generalize y15.heap.size = g6 at *
        have AG := AG0
        clear AG0
        refine wpAnyH_ready (rs := [9, 10]) (by kernel_rfl) (by simp) ?_
        refine AllReadyH.cons rfl (fun K hK => ?_) ?_
        · obtain ⟨v9, y9, r9, o9, gr9, q9⟩ := El.app ePl y6 WS.heap.size _ _ AG.out.o _ _ _ ps (HPl.out _ hS) (by show (0 + pn) * 16 ≤ _; omega) (by show 0 + pn ≤ _; omega) AG.out.sz
          have A2 : Acc ePl WS y9 v9 ([] ++ ps) := ⟨o9, below_grown AG.out.lo AG.out.sz gr9 (fun j hj => (own_lt AG.out.o j hj).1)⟩
          rw [List.nil_append] at A2
          obtain ⟨a9, c9, hv9⟩ := A2.shape
          rw [← hpn.out] at hv9
          subst hv9
          replace KZ := hid (keep_blk gr9 AG.out.o KZ.out (by decide))
          clear o9 gr9 q9 AG
          have AG := hid A2
          clear A2
          replace r9 := hid r9
          refine wp_append_run (.tmp 24) (.tmp 26) 25 25 rfl (.slice (some ⟨g6, 0, none⟩) 0 0) (.slice pa pn pc) (.slice a9 pn c9) (by go_simp) (by go_simp) r9.out ?_
          go_simp
          refine hK.out _ _ AG.out.lo (fun hS => ?_)
          clear hK K
          refine wpAnyH_ready (rs := [10]) (by kernel_rfl) (by simp) ?_
          refine AllReadyH.cons rfl (fun K hK => ?_) ?_
          · go_simp
            have AC0 := made3 eAd hS
            have bb := box_below y9 (.cells #[] 45)
            have hS' := hid (Below.up hS bb)
            replace AG := hid (AG.out.later bb)
            replace KZ := hid ((bb.block _ (blk_lt KZ.out)).trans KZ.out)
            clear bb
            refine hK.out _ _ hS'.out (fun hS => ?_)
            clear hK K hS'
            change Acc eAd WS (y9.alloc (.cells #[] 45)) _ _ at AC0
            replace AC0 := hid AC0
            generalize y9.alloc (.cells #[] 45) = y10 at *
            generalize y9.heap.size = g10 at *
            have AC := AC0
            clear AC0
            refine wpAnyH_ready (rs := [13]) (by kernel_rfl) (by simp) ?_
            refine AllReadyH.cons rfl (fun K hK => ?_) ?_
            · obtain ⟨v13, y13, r13, o13, gr13, q13⟩ := El.app eAd y10 WS.heap.size _ _ AC.out.o _ _ _ co (HCl.out _ hS) (by show (0 + cn) * 72 ≤ _; omega) (by show 0 + cn ≤ _; omega) AC.out.sz
              have A2 : Acc eAd WS y13 v13 ([] ++ co) := ⟨o13, below_grown AC.out.lo AC.out.sz gr13 (fun j hj => (own_lt AC.out.o j hj).1)⟩
              rw [List.nil_append] at A2
              obtain ⟨a13, c13, hv13⟩ := A2.shape
              rw [← hcn.out] at hv13
              subst hv13
              replace AG := hid (keep_acc gr13 AC.out AG.out (by decide))
              replace KZ := hid (keep_blk gr13 AC.out.o KZ.out (by decide))
              clear o13 gr13 q13 AC
              have AC := hid A2
              clear A2
              replace r13 := hid r13
              refine wp_append_run (.tmp 28) (.tmp 30) 26 26 rfl (.slice (some ⟨g10, 0, none⟩) 0 0) (.slice ca cn cc) (.slice a13 cn c13) (by go_simp) (by go_simp) r13.out ?_
              go_simp
              refine hK.out _ _ AC.out.lo (fun hS => ?_)
              clear hK K
              refine wpAnyH_take (i := 14) (v := ?v23) rfl (by kernel_rfl) (by kernel_rfl) (by kernel_rfl) (fun _ _ _ h => h) (Or.inl ⟨by rfl, ?h23⟩) hS ?_
              case h23 => (intro W hW; go_simp; try (with_reducible rfl))
              go_simp
              refine wpAnyH_ready (rs := [16]) (by kernel_rfl) (by simp) ?_
              refine AllReadyH.cons rfl (fun K hK => ?_) ?_
              · have q0 := cell_of KZ.out 0 _ rfl
                have f0 := fz_of KZ.out 0
                have q1 := cell_of KZ.out 1 _ rfl
                have f1 := fz_of KZ.out 1
                have q2 := cell_of KZ.out 2 _ rfl
                have f2 := fz_of KZ.out 2
                have q3 := cell_of KZ.out 3 _ rfl
                have f3 := fz_of KZ.out 3
                have q4 := cell_of KZ.out 4 _ rfl
                have f4 := fz_of KZ.out 4
                have KF := hid (five_put KZ.out (.int .i64 lg) (.int .i64 nx) (.int .u64 sq) (.slice a9 pn c9) (.slice a13 cn c13))
                have BF := hid (five_low hS hgz.out (.int .i64 lg) (.int .i64 nx) (.int .u64 sq) (.slice a9 pn c9) (.slice a13 cn c13))
                have OG := hid (own_blocks AG.out.o (fun j hj => five_ne y13 g15 j (.int .i64 lg) (.int .i64 nx) (.int .u64 sq) (.slice a9 pn c9) (.slice a13 cn c13) (own_ne AG.out.o KZ.out (by decide) j hj)))
                have OC := hid (own_blocks AC.out.o (fun j hj => five_ne y13 g15 j (.int .i64 lg) (.int .i64 nx) (.int .u64 sq) (.slice a9 pn c9) (.slice a13 cn c13) (own_ne AC.out.o KZ.out (by decide) j hj)))
                unfold five5 at KF BF OG OC
                go_simp
                refine hK.out _ _ BF.out (fun hS => ?_)
                clear hK K
                refine wpAnyH_done (by kernel_rfl) ?_ _
                go_wp2_with fail
                go_meet
                case rel => exact ⟨g15, a9, c9, a13, c13, rfl, KF, OG, OC, BF⟩
              exact AllReadyH.nil
            exact AllReadyH.nil
          exact AllReadyH.nil
        refine AllReadyH.cons rfl (fun K hK => ?_) ?_
        · go_simp
          have AC0 := made3 eAd hS
          have bb := box_below y6 (.cells #[] 45)
          have hS' := hid (Below.up hS bb)
          replace AG := hid (AG.out.later bb)
          replace KZ := hid ((bb.block _ (blk_lt KZ.out)).trans KZ.out)
          clear bb
          refine hK.out _ _ hS'.out (fun hS => ?_)
          clear hK K hS'
          change Acc eAd WS (y6.alloc (.cells #[] 45)) _ _ at AC0
          replace AC0 := hid AC0
          generalize y6.alloc (.cells #[] 45) = y10 at *
          generalize y6.heap.size = g10 at *
          have AC := AC0
          clear AC0
          refine wpAnyH_ready (rs := [9]) (by kernel_rfl) (by simp) ?_
          refine AllReadyH.cons rfl (fun K hK => ?_) ?_
          · obtain ⟨v9, y9, r9, o9, gr9, q9⟩ := El.app ePl y10 WS.heap.size _ _ AG.out.o _ _ _ ps (HPl.out _ hS) (by show (0 + pn) * 16 ≤ _; omega) (by show 0 + pn ≤ _; omega) AG.out.sz
            have A2 : Acc ePl WS y9 v9 ([] ++ ps) := ⟨o9, below_grown AG.out.lo AG.out.sz gr9 (fun j hj => (own_lt AG.out.o j hj).1)⟩
            rw [List.nil_append] at A2
            obtain ⟨a9, c9, hv9⟩ := A2.shape
            rw [← hpn.out] at hv9
            subst hv9
            replace AC := hid (keep_acc gr9 AG.out AC.out (by decide))
            replace KZ := hid (keep_blk gr9 AG.out.o KZ.out (by decide))
            clear o9 gr9 q9 AG
            have AG := hid A2
            clear A2
            replace r9 := hid r9
            refine wp_append_run (.tmp 24) (.tmp 26) 25 25 rfl (.slice (some ⟨g6, 0, none⟩) 0 0) (.slice pa pn pc) (.slice a9 pn c9) (by go_simp) (by go_simp) r9.out ?_
            go_simp
            refine hK.out _ _ AG.out.lo (fun hS => ?_)
            clear hK K
            refine wpAnyH_ready (rs := [13]) (by kernel_rfl) (by simp) ?_
            refine AllReadyH.cons rfl (fun K hK => ?_) ?_
            · obtain ⟨v13, y13, r13, o13, gr13, q13⟩ := El.app eAd y9 WS.heap.size _ _ AC.out.o _ _ _ co (HCl.out _ hS) (by show (0 + cn) * 72 ≤ _; omega) (by show 0 + cn ≤ _; omega) AC.out.sz
              have A2 : Acc eAd WS y13 v13 ([] ++ co) := ⟨o13, below_grown AC.out.lo AC.out.sz gr13 (fun j hj => (own_lt AC.out.o j hj).1)⟩
              rw [List.nil_append] at A2
              obtain ⟨a13, c13, hv13⟩ := A2.shape
              rw [← hcn.out] at hv13
              subst hv13
              replace AG := hid (keep_acc gr13 AC.out AG.out (by decide))
              replace KZ := hid (keep_blk gr13 AC.out.o KZ.out (by decide))
              clear o13 gr13 q13 AC
              have AC := hid A2
              clear A2
              replace r13 := hid r13
              refine wp_append_run (.tmp 28) (.tmp 30) 26 26 rfl (.slice (some ⟨g10, 0, none⟩) 0 0) (.slice ca cn cc) (.slice a13 cn c13) (by go_simp) (by go_simp) r13.out ?_
              go_simp
              refine hK.out _ _ AC.out.lo (fun hS => ?_)
              clear hK K
              refine wpAnyH_take (i := 14) (v := ?v24) rfl (by kernel_rfl) (by kernel_rfl) (by kernel_rfl) (fun _ _ _ h => h) (Or.inl ⟨by rfl, ?h24⟩) hS ?_
              case h24 => (intro W hW; go_simp; try (with_reducible rfl))
              go_simp
              refine wpAnyH_ready (rs := [16]) (by kernel_rfl) (by simp) ?_
              refine AllReadyH.cons rfl (fun K hK => ?_) ?_
              · have q0 := cell_of KZ.out 0 _ rfl
                have f0 := fz_of KZ.out 0
                have q1 := cell_of KZ.out 1 _ rfl
                have f1 := fz_of KZ.out 1
                have q2 := cell_of KZ.out 2 _ rfl
                have f2 := fz_of KZ.out 2
                have q3 := cell_of KZ.out 3 _ rfl
                have f3 := fz_of KZ.out 3
                have q4 := cell_of KZ.out 4 _ rfl
                have f4 := fz_of KZ.out 4
                have KF := hid (five_put KZ.out (.int .i64 lg) (.int .i64 nx) (.int .u64 sq) (.slice a9 pn c9) (.slice a13 cn c13))
                have BF := hid (five_low hS hgz.out (.int .i64 lg) (.int .i64 nx) (.int .u64 sq) (.slice a9 pn c9) (.slice a13 cn c13))
                have OG := hid (own_blocks AG.out.o (fun j hj => five_ne y13 g15 j (.int .i64 lg) (.int .i64 nx) (.int .u64 sq) (.slice a9 pn c9) (.slice a13 cn c13) (own_ne AG.out.o KZ.out (by decide) j hj)))
                have OC := hid (own_blocks AC.out.o (fun j hj => five_ne y13 g15 j (.int .i64 lg) (.int .i64 nx) (.int .u64 sq) (.slice a9 pn c9) (.slice a13 cn c13) (own_ne AC.out.o KZ.out (by decide) j hj)))
                unfold five5 at KF BF OG OC
                go_simp
                refine hK.out _ _ BF.out (fun hS => ?_)
                clear hK K
                refine wpAnyH_done (by kernel_rfl) ?_ _
                go_wp2_with fail
                go_meet
                case rel => exact ⟨g15, a9, c9, a13, c13, rfl, KF, OG, OC, BF⟩
              exact AllReadyH.nil
            exact AllReadyH.nil
          exact AllReadyH.nil
        exact AllReadyH.nil
      refine AllReadyH.cons rfl (fun K hK => ?_) ?_
      · go_simp
        have AC0 := made3 eAd hS
        have bb := box_below y15 (.cells #[] 45)
        have hS' := hid (Below.up hS bb)
        replace KZ := hid ((bb.block _ (blk_lt KZ.out)).trans KZ.out)
        clear bb
        refine hK.out _ _ hS'.out (fun hS => ?_)
        clear hK K hS'
        change Acc eAd WS (y15.alloc (.cells #[] 45)) _ _ at AC0
        replace AC0 := hid AC0
        generalize y15.alloc (.cells #[] 45) = y10 at *
        generalize y15.heap.size = g10 at *
        have AC := AC0
        clear AC0
        refine wpAnyH_ready (rs := [6]) (by kernel_rfl) (by simp) ?_
        refine AllReadyH.cons rfl (fun K hK => ?_) ?_
        · go_simp
          have AG0 := made3 ePl hS
          have bb := box_below y10 (.cells #[] 41)
          have hS' := hid (Below.up hS bb)
          replace AC := hid (AC.out.later bb)
          replace KZ := hid ((bb.block _ (blk_lt KZ.out)).trans KZ.out)
          clear bb
          refine hK.out _ _ hS'.out (fun hS => ?_)
          clear hK K hS'
          change Acc ePl WS (y10.alloc (.cells #[] 41)) _ _ at AG0
          replace AG0 := hid AG0
          generalize y10.alloc (.cells #[] 41) = y6 at *
          generalize y10.heap.size = g6 at *
          have AG := AG0
          clear AG0
          refine wpAnyH_ready (rs := [9]) (by kernel_rfl) (by simp) ?_
          refine AllReadyH.cons rfl (fun K hK => ?_) ?_
          · obtain ⟨v9, y9, r9, o9, gr9, q9⟩ := El.app ePl y6 WS.heap.size _ _ AG.out.o _ _ _ ps (HPl.out _ hS) (by show (0 + pn) * 16 ≤ _; omega) (by show 0 + pn ≤ _; omega) AG.out.sz
            have A2 : Acc ePl WS y9 v9 ([] ++ ps) := ⟨o9, below_grown AG.out.lo AG.out.sz gr9 (fun j hj => (own_lt AG.out.o j hj).1)⟩
            rw [List.nil_append] at A2
            obtain ⟨a9, c9, hv9⟩ := A2.shape
            rw [← hpn.out] at hv9
            subst hv9
            replace AC := hid (keep_acc gr9 AG.out AC.out (by decide))
            replace KZ := hid (keep_blk gr9 AG.out.o KZ.out (by decide))
            clear o9 gr9 q9 AG
            have AG := hid A2
            clear A2
            replace r9 := hid r9
            refine wp_append_run (.tmp 24) (.tmp 26) 25 25 rfl (.slice (some ⟨g6, 0, none⟩) 0 0) (.slice pa pn pc) (.slice a9 pn c9) (by go_simp) (by go_simp) r9.out ?_
            go_simp
            refine hK.out _ _ AG.out.lo (fun hS => ?_)
            clear hK K
            refine wpAnyH_ready (rs := [13]) (by kernel_rfl) (by simp) ?_
            refine AllReadyH.cons rfl (fun K hK => ?_) ?_
            · obtain ⟨v13, y13, r13, o13, gr13, q13⟩ := El.app eAd y9 WS.heap.size _ _ AC.out.o _ _ _ co (HCl.out _ hS) (by show (0 + cn) * 72 ≤ _; omega) (by show 0 + cn ≤ _; omega) AC.out.sz
              have A2 : Acc eAd WS y13 v13 ([] ++ co) := ⟨o13, below_grown AC.out.lo AC.out.sz gr13 (fun j hj => (own_lt AC.out.o j hj).1)⟩
              rw [List.nil_append] at A2
              obtain ⟨a13, c13, hv13⟩ := A2.shape
              rw [← hcn.out] at hv13
              subst hv13
              replace AG := hid (keep_acc gr13 AC.out AG.out (by decide))
              replace KZ := hid (keep_blk gr13 AC.out.o KZ.out (by decide))
              clear o13 gr13 q13 AC
              have AC := hid A2
              clear A2
              replace r13 := hid r13
              refine wp_append_run (.tmp 28) (.tmp 30) 26 26 rfl (.slice (some ⟨g10, 0, none⟩) 0 0) (.slice ca cn cc) (.slice a13 cn c13) (by go_simp) (by go_simp) r13.out ?_
              go_simp
              refine hK.out _ _ AC.out.lo (fun hS => ?_)
              clear hK K
              refine wpAnyH_take (i := 14) (v := ?v25) rfl (by kernel_rfl) (by kernel_rfl) (by kernel_rfl) (fun _ _ _ h => h) (Or.inl ⟨by rfl, ?h25⟩) hS ?_
              case h25 => (intro W hW; go_simp; try (with_reducible rfl))
              go_simp
              refine wpAnyH_ready (rs := [16]) (by kernel_rfl) (by simp) ?_
              refine AllReadyH.cons rfl (fun K hK => ?_) ?_
              · have q0 := cell_of KZ.out 0 _ rfl
                have f0 := fz_of KZ.out 0
                have q1 := cell_of KZ.out 1 _ rfl
                have f1 := fz_of KZ.out 1
                have q2 := cell_of KZ.out 2 _ rfl
                have f2 := fz_of KZ.out 2
                have q3 := cell_of KZ.out 3 _ rfl
                have f3 := fz_of KZ.out 3
                have q4 := cell_of KZ.out 4 _ rfl
                have f4 := fz_of KZ.out 4
                have KF := hid (five_put KZ.out (.int .i64 lg) (.int .i64 nx) (.int .u64 sq) (.slice a9 pn c9) (.slice a13 cn c13))
                have BF := hid (five_low hS hgz.out (.int .i64 lg) (.int .i64 nx) (.int .u64 sq) (.slice a9 pn c9) (.slice a13 cn c13))
                have OG := hid (own_blocks AG.out.o (fun j hj => five_ne y13 g15 j (.int .i64 lg) (.int .i64 nx) (.int .u64 sq) (.slice a9 pn c9) (.slice a13 cn c13) (own_ne AG.out.o KZ.out (by decide) j hj)))
                have OC := hid (own_blocks AC.out.o (fun j hj => five_ne y13 g15 j (.int .i64 lg) (.int .i64 nx) (.int .u64 sq) (.slice a9 pn c9) (.slice a13 cn c13) (own_ne AC.out.o KZ.out (by decide) j hj)))
                unfold five5 at KF BF OG OC
                go_simp
                refine hK.out _ _ BF.out (fun hS => ?_)
                clear hK K
                refine wpAnyH_done (by kernel_rfl) ?_ _
                go_wp2_with fail
                go_meet
                case rel => exact ⟨g15, a9, c9, a13, c13, rfl, KF, OG, OC, BF⟩
              exact AllReadyH.nil
            exact AllReadyH.nil
          exact AllReadyH.nil
        exact AllReadyH.nil
      exact AllReadyH.nil
    exact AllReadyH.nil
  case rest =>
    obtain ⟨g6, a1, c1', a2, c2', rfl, K6, OG, OC, B6⟩ := hcut
    obtain ⟨w6, hw6⟩ : ∃ W, W = wc := ⟨_, rfl⟩
    rw [← hw6] at K6 OG OC B6 ⊢
    clear hw6 wc
    have EX : EV w6 (.agg #[.int .i64 lg, .int .i64 nx, .int .u64 sq, .slice a1 pn c1', .slice a2 cn c2']) ⟨lg, nx, sq, ps, co⟩ := by
      have h1 := OG.out
      have h2 := OC.out
      refine EO.ev (base := WS.heap.size) ⟨hok.out, hpok.out, hcok.out, a1, c1', a2, c2', ?_, ?_, ?_⟩
      · show _ = ev _ _ _ _ _
        unfold ev
        show _ = Value.agg #[.int .i64 lg, .int .i64 nx, .int .u64 sq, .slice a1 ps.length c1', .slice a2 co.length c2']
        rw [← hpn.out, ← hcn.out]
      · show ePl.Own _ _ (.slice a1 ps.length c1') ps
        rw [← hpn.out]; exact h1
      · show eAd.Own _ _ (.slice a2 co.length c2') co
        rw [← hcn.out]; exact h2
    have S1 : ePl.Sl w6 a1 pn c1' ps := by
      obtain ⟨x, y, e2, s, _⟩ := OG.out.sl hpok.out
      injection e2 with e3 _ e5
      subst e3 e5
      rw [hpn.out]; exact s
    have S2 : eAd.Sl w6 a2 cn c2' co := by
      obtain ⟨x, y, e2, s, _⟩ := OC.out.sl hcok.out
      injection e2 with e3 _ e5
      subst e3 e5
      rw [hcn.out]; exact s
    have hc1 := S1.c
    have hc2 := S2.c
    replace EX := hid EX
    replace S1 := hid S1
    replace S2 := hid S2
    have bw6 := hid (Below.up bx.out (Below.up b3.out B6.out))
    have L6 := hid (L3.out.later B6.out)
    have hk6 := hid (hk.out _ (Below.up b3.out B6.out))
    have HK6 : Hid (∀ W, Below w6.heap.size w6 W → W.heap[g6]? = some (.cells #[.int .i64 lg, .int .i64 nx, .int .u64 sq, .slice a1 pn c1', .slice a2 cn c2'] 28) ∧ W.heap[gx]? = some (.cells #[.int .i64 lg, .int .i64 nx, .int .u64 sq, .slice pa pn pc, .slice ca cn cc] 28)) := fun W b => ⟨(b.block _ (blk_lt K6.out)).trans K6.out, (b.block _ (blk_lt hk6.out)).trans hk6.out⟩
    clear K6 OG OC HPl HCl L3
    go_wp2_with (first
      | (go_at_call 11; refine (c1.out _ _ _ L6.out).mono ?_; rintro e w7 ⟨rfl, b7⟩; replace b7 := hid b7)
      | (go_at_call 12; refine (c2.out _ (Below.up bw6.out b7.out)).mono ?_; rintro e w8 ⟨rfl, b8⟩; replace b8 := hid (Below.up b7.out b8); have k8 := (HK6.out _ b8.out).1; have k8' := (HK6.out _ b8.out).2; have x0 := cell_of k8 0 _ rfl; have x1 := cell_of k8 1 _ rfl; have x2 := cell_of k8 2 _ rfl; have x3 := cell_of k8 3 _ rfl; have x4 := cell_of k8 4 _ rfl; clear k8 k8')
      | (go_at_call 13; refine (c3.out _ _ _ _ (L6.out.later b8.out) (EX.out.later b8.out)).mono ?_; rintro e w9 ⟨rfl, b9⟩; replace b9 := hid (Below.up b8.out b9); have k9 := (HK6.out _ b9.out).2; have y0 := cell_of k9 0 _ rfl; have y1 := cell_of k9 1 _ rfl; have y2 := cell_of k9 2 _ rfl; have y3 := cell_of k9 3 _ rfl; have y4 := cell_of k9 4 _ rfl; clear k9 x0 x1 x2 x3 x4)
      | (go_at_call 14; refine (c4.out _ (Below.up bw6.out b9.out)).mono ?_; rintro e w10 ⟨rfl, b10⟩; replace b10 := hid (Below.up b9.out b10); clear y0 y1 y2 y3 y4)
      | (go_at_call 15; refine (c6.out _).mono ?_; rintro e w11 ⟨rfl, b11⟩; replace b11 := hid (Below.up b10.out b11)))
    go_loopw [11] (fun ii wr => ii = .int .i64 0 ∧ wr = w11) (fun _ _ => 0)
    case atStart => exact ⟨rfl, rfl⟩
    case round =>
      obtain ⟨rfl, rfl⟩ := hrel
      obtain ⟨wt, hwt⟩ : ∃ x, x = wr := ⟨_, rfl⟩
      rw [← hwt] at b11
      have bt := b11
      rw [← hwt]
      clear hwt
      have kt := HK6.out _ bt.out
      have St1 := hid (S1.out.later bt.out)
      have St2 := hid (S2.out.later bt.out)
      have Sp1 := hid (HP0.out _ (Below.up bw6.out bt.out))
      have Sp2 := hid (HC0.out _ (Below.up bw6.out bt.out))
      have HKt : Hid (∀ W, Below wt.heap.size wt W → W.heap[g6]? = some (.cells #[.int .i64 lg, .int .i64 nx, .int .u64 sq, .slice a1 pn c1', .slice a2 cn c2'] 28) ∧ W.heap[gx]? = some (.cells #[.int .i64 lg, .int .i64 nx, .int .u64 sq, .slice pa pn pc, .slice ca cn cc] 28)) := fun W b => HK6.out _ (Below.up bt.out b)
      clear kt
      go_wp2_with fail
      go_loopw [12] (fun jj wr => ∃ j : Nat, jj = .int .i64 j ∧ j ≤ pn ∧ Hid (Below wt.heap.size wt wr)) (fun jj _ => pn - (intOf jj).toNat)
      case atStart => exact ⟨0, rfl, by omega, Below.refl _ _⟩
      case round =>
        obtain ⟨j, rfl, hj, bj⟩ := hrel
        obtain ⟨k6, kx⟩ := HKt.out _ bj.out
        have f3 := cell_of kx 3 _ rfl
        have f4 := cell_of kx 4 _ rfl
        have g3 := cell_of k6 3 _ rfl
        clear k6 kx
        by_cases hjl : j < pn
        · obtain ⟨pb, pf, rfl, hat⟩ := get1 (Sp1.out.later bj.out) j hjl
          obtain ⟨qb, qf, rfl, haq⟩ := get1 (St1.out.later bj.out) j hjl
          have e1 := pl_at (hat j hjl)
          have e2 := pl_at (haq j hjl)
          rw [show ePl.z = zp from rfl, show ePl.k = 2 from rfl] at e1 e2
          clear hat haq
          generalize ps.getD j zp = p at *
          have rp := run_pneq p
          obtain ⟨pl, pnn⟩ := p
          dsimp only at e1 e2 rp
          obtain ⟨e3, e4⟩ := e1
          obtain ⟨e5, e6⟩ := e2
          have jk0 : (j : Int) < (pn : Int) := by omega
          have jo0 : (0 : Int) ≤ (j : Int) := by omega
          go_wp2_with fail
          go_quiet (fail)
          go_wp2_with fail
          go_roundw
          case rel => exact ⟨j + 1, by go_num, by omega, hid (Below.up bj.out (drewN_below _ _))⟩
          case measure => simp [intOf]; omega
        · have hje : j = pn := by omega
          subst hje
          obtain ⟨wu, hwu⟩ : ∃ x, x = wr := ⟨_, rfl⟩
          rw [← hwu] at bj f3 f4
          rw [← hwu]
          clear hwu g3
          go_wp2_with fail
          clear f3 f4
          go_loopw [13] (fun jj wr => ∃ m : Nat, jj = .int .i64 m ∧ m ≤ cn ∧ Hid (Below wt.heap.size wt wr)) (fun jj _ => cn - (intOf jj).toNat)
          case atStart => exact ⟨0, rfl, by omega, bj⟩
          case round =>
            clear bj
            obtain ⟨m, rfl, hm, bj⟩ := hrel
            obtain ⟨k6, kx⟩ := HKt.out _ bj.out
            have f4 := cell_of kx 4 _ rfl
            have g4 := cell_of k6 4 _ rfl
            clear k6 kx
            by_cases hml : m < cn
            · obtain ⟨pb', pf', rfl, hat⟩ := get1 (Sp2.out.later bj.out) m hml
              obtain ⟨qb', qf', rfl, haq⟩ := get1 (St2.out.later bj.out) m hml
              have e1 := ad_at (hat m hml)
              have e2 := ad_at (haq m hml)
              rw [show eAd.z = za from rfl] at e1 e2
              simp only [show eAd.k = 7 from rfl] at e1 e2
              clear hat haq
              generalize co.getD m za = y at *
              have rp := run_aneq y
              obtain ⟨yl, yn, yz, yt, yu, ylo, yhi⟩ := y
              unfold adv at rp
              dsimp only at e1 e2 rp
              obtain ⟨p0, p1, p2, p3, p4, p5, p6⟩ := e1
              obtain ⟨q0, q1, q2, q3, q4, q5, q6⟩ := e2
              have mk0 : (m : Int) < (cn : Int) := by omega
              have mo0 : (0 : Int) ≤ (m : Int) := by omega
              go_wp2_with fail
              go_quiet (fail)
              go_wp2_with fail
              go_roundw
              case rel => exact ⟨m + 1, by go_num, by omega, hid (Below.up bj.out (drewN_below _ _))⟩
              case measure => simp [intOf]; omega
            · have hme : m = cn := by omega
              subst hme
              have bz := hid (Below.up bt.out bj.out)
              have c7 := hid (c5.out _ _ wr (Below.up bw6.out bz.out) (L6.out.later bz.out))
              go_wp2_with (first | (go_at_call 15; refine c7.out.mono ?_; rintro e w13 ⟨rfl, b13⟩; replace b13 := hid b13))
              go_ret
              exact ⟨rfl, Below.up (Below.up bw6.out bz.out) b13.out⟩
end Go.Proofs.Ytkpihibeohjfnaa.Lp

/- VersionApplies walked where the edit is taken. -/
import Derived.Test.YtkpihibeohjfnaaLp
import Derived.Test.YtkpihibeohjfnaaCp
import Derived.Test.YtkpihibeohjfnaaSm
import Derived.BigQuiet
import Derived.Deep.CutRange
namespace Go.Proofs.Ytkpihibeohjfnaa.Lq
open Go.ChangeShapes Go.WideShapes Go.ChangeAt Go.RowKit
open Go.Proofs.Ytkpihibeohjfnaa.Gr
open Go.Proofs.Ytkpihibeohjfnaa.Ev
open Go.Proofs.Ytkpihibeohjfnaa.Oe
open Go.Proofs.Ytkpihibeohjfnaa.Lv
open Go.Proofs.Ytkpihibeohjfnaa.Vp
open Go.Proofs.Ytkpihibeohjfnaa.Vq
open Go.Proofs.Ytkpihibeohjfnaa.Vr
open Go.Proofs.Ytkpihibeohjfnaa.Vt
open Go.Proofs.Ytkpihibeohjfnaa.Vu (cell_later)
open Go.Proofs.Ytkpihibeohjfnaa.As (wp_append_run)
open Go.Proofs.Ytkpihibeohjfnaa.Aq (own_ty)
open Go.Proofs.Ytkpihibeohjfnaa.Ou
open Go.Proofs.Ytkpihibeohjfnaa.Cp (copied_any)
open Go.Proofs.Ytkpihibeohjfnaa.Dv (rvalid_any)
open Go.Proofs.Ytkpihibeohjfnaa.Sm (rsame_any)
open Go.Proofs.Ytkpihibeohjfnaa.Sq
open Go.Proofs.Ytkpihibeohjfnaa.Ay
open Go.Proofs.Ytkpihibeohjfnaa.Rv (rapply_any)
open Go.Proofs.Ytkpihibeohjfnaa.Wi (six run_pneq)
open Go.Proofs.Ytkpihibeohjfnaa.Lp
set_option linter.unusedVariables false
set_option linter.unusedSimpArgs false

set_option maxRecDepth 100000 in
set_option maxHeartbeats 2000000 in
theorem ok_any (a : Option Addr) (len cap : Nat) (L : List (List Fi)) (v : Value) (e : Ed) (w : World) (H : Lvs w a len cap L) (HE : EV w v e) (hb : wL L + wE e ≤ 1048576) (hv : vld L = true) (hg : good L e.go e.co = true) :
    Calls Try.prog 3 #[.slice a len cap, v] w fun en w' => en = .returned (.bool true) ∧ Below w.heap.size w w' := by
  have hw : wL L ≤ 1048576 := by omega
  have hwe : e.go.length + wsum wA e.co ≤ 1048576 := by unfold wE at hb; omega
  have hg8 : e.go.length ≤ 1048576 := by omega
  have hcl := wsum_len wA (fun x => by unfold wA wF; omega) e.co
  have hc8 : e.co.length ≤ 1048576 := by omega
  have hap : wL (ap L e.go e.co) ≤ 1048576 := by have := ap_w L e.go e.co; unfold wE at hb; omega
  have hcc8 : wL L + e.co.length ≤ 1048576 := by unfold wE at hb; omega
  have c3 : Hid (∀ (b : Option Addr) (c : Nat) (vx : Value) W, Lvs W b len c L → EV W vx e → Calls Try.prog 13 #[.slice b len c, vx] W fun en w' => ∃ g xs, en = .returned (.tuple #[.slice (some ⟨g, 0, none⟩) len len, .int .i64 0]) ∧ Ou W w' g xs ∧ xs.map Lf.fs = ap L e.go e.co) := by
    intro b c vx W h1 h2
    refine (apply_any b len c L vx e W h1 h2 hw hg8 hc8 hap).mono ?_
    rintro en w' hp
    cases hp with
    | arg _ h1 b => rw [hv] at h1; cases h1
    | ver _ h1 h2 b => rw [hg] at h2; cases h2
    | ok _ g xs h1 h2 o e => exact ⟨g, xs, rfl, o, e⟩
  have c4 : Hid (∀ W, Below w.heap.size w W → Calls Try.prog 14 #[.slice a len cap, v] W fun en w' => ∃ g xs, en = .returned (.tuple #[.slice (some ⟨g, 0, none⟩) len len, .int .i64 0]) ∧ Ou W w' g xs ∧ xs.map Lf.fs = ap L e.go e.co) := by
    intro W b
    refine (rapply_any a len cap L v e W (H.later b) (HE.later b) hcc8 hg8 hap).mono ?_
    rintro en w' hp
    cases hp with
    | arg _ h1 b => rw [hv] at h1; cases h1
    | ver _ h1 h2 b => rw [hg] at h2; cases h2
    | ok _ g xs h1 h2 o e => exact ⟨g, xs, rfl, o, e⟩
  have c1 : Hid (∀ (b : Option Addr) (c : Nat) W, Lvs W b len c L → Calls Try.prog 11 #[.slice b len c] W fun e w' => e = .returned (.bool (vld L)) ∧ Below W.heap.size W w') := fun b c W h => valid_any b len c L W h hw
  have c2 : Hid (∀ W, Below w.heap.size w W → Calls Try.prog 12 #[.slice a len cap] W fun e w' => e = .returned (.bool (vld L)) ∧ Below W.heap.size W w') := fun W b => rvalid_any a len cap L W (H.later b) hw
  have c5 : Hid (∀ (b : Option Addr) (c : Nat) W, Below w.heap.size w W → Lvs W b len c L → Calls Try.prog 15 #[.slice b len c, .slice a len cap] W fun e w' => e = .returned (.bool true) ∧ Below W.heap.size W w') := by
    intro b c W bw h
    have := rsame_any b a len c len cap L L W h (H.later bw) hw hw
    rwa [decide_eq_true rfl] at this
  obtain ⟨A, hA⟩ : ∃ A, A = ap L e.go e.co := ⟨_, rfl⟩
  rw [← hA] at hap c3 c4
  have hAl : A.length = len := by rw [hA, ap_len, H.len_eq]
  have hA8 : Hid (∀ k, k < len → (A.getD k []).length ≤ 1048576) := by
    intro k hk
    have := wL_at (L := A) (i := k) (by omega)
    omega
  have c6 : Hid (∀ (g g' : Nat) W, Lvs W (some ⟨g, 0, none⟩) len len A → Lvs W (some ⟨g', 0, none⟩) len len A → Calls Try.prog 15 #[.slice (some ⟨g, 0, none⟩) len len, .slice (some ⟨g', 0, none⟩) len len] W fun e w' => e = .returned (.bool true) ∧ Below W.heap.size W w') := by
    intro g g' W h h'
    have := rsame_any (some ⟨g, 0, none⟩) (some ⟨g', 0, none⟩) len len len len A A W h h' hap hap
    rwa [decide_eq_true rfl] at this
  have hAl2 := hid hAl
  clear hAl hA
  have hll := H.len_eq
  have hl7 : len ≤ 1048576 := by have := wL_len L; omega
  have hcap := H.cap_le
  have HEv := hid (fun W (b : Below w.heap.size w W) => HE.later b)
  obtain ⟨V, hV⟩ : ∃ V, V = vld L := ⟨_, rfl⟩
  rw [← hV] at c1 c2
  have hVV : (V != V) = false := by cases V <;> rfl
  obtain ⟨lg, nx, sq, ps, co⟩ := e
  obtain ⟨hok, pa, pc, ca, cc, rfl, HP, HC⟩ := HE
  unfold ev at *
  dsimp only at *
  generalize hpn' : ps.length = pn at *
  generalize hcn' : co.length = cn at *
  have hpn := hid hpn'.symm
  have hcn := hid hcn'.symm
  clear hpn' hcn'
  obtain ⟨gx, hgx⟩ : ∃ g, g = w.heap.size := ⟨_, rfl⟩
  obtain ⟨W1, hW1⟩ : ∃ W, W = w.alloc (.cells #[.int .i64 lg, .int .i64 nx, .int .u64 sq, .slice pa pn pc, .slice ca cn cc] 28) := ⟨_, rfl⟩
  have kx : W1.heap[gx]? = some (.cells #[.int .i64 lg, .int .i64 nx, .int .u64 sq, .slice pa pn pc, .slice ca cn cc] 28) := by rw [hW1, hgx]; exact new_at _ _
  have bx : Below w.heap.size w W1 := by rw [hW1]; exact box_below _ _
  have hk : Hid (∀ W, Below W1.heap.size W1 W → W.heap[gx]? = some (.cells #[.int .i64 lg, .int .i64 nx, .int .u64 sq, .slice pa pn pc, .slice ca cn cc] 28)) := fun W b => (b.block _ (blk_lt kx)).trans kx
  have cc1 := hid (copied_any a len cap L W1 (H.later bx) hw)
  have HP0 : Hid (∀ W, Below w.heap.size w W → ePl.Sl W pa pn pc ps) := fun W b => HP.later b
  have HC0 : Hid (∀ W, Below w.heap.size w W → eAd.Sl W ca cn cc co) := fun W b => HC.later b
  have hpok := hid HP.ok
  have hcok := hid HC.ok
  have hpc := HP.c
  have hcc := HC.c
  have cn1 := hid names_any
  replace bx := hid bx
  replace hW1 := hid hW1
  replace hgx := hid hgx
  replace hok := hid hok
  replace hV := hid hV
  clear kx HP HC H hap hwe hw hb hcl hll hcc8 hv hg
  go_enter Try.func3, Try.ntmps3
  go_wp2_with (first
    | (go_at_call 9; rw [← hW1.out, ← hgx.out]; refine (cn1.out _).mono ?_; rintro e w1 ⟨rfl, hw1⟩; subst hw1)
    | (go_at_call 10; refine cc1.out.mono ?_; rintro e w3 ⟨ib, ic, rfl, L3, b3⟩; replace L3 := hid L3; replace b3 := hid b3))
  clear cc1 cn1
  obtain ⟨WS, hWS⟩ : ∃ W, W = w3 := ⟨_, rfl⟩
  rw [← hWS] at L3 b3 ⊢
  clear hWS w3
  have b1W := b3
  have HPl : Hid (∀ W, Below WS.heap.size WS W → ePl.Sl W pa pn pc ps) := fun W b => HP0.out W (Below.up bx.out (Below.up b1W.out b))
  have HCl : Hid (∀ W, Below WS.heap.size WS W → eAd.Sl W ca cn cc co) := fun W b => HC0.out W (Below.up bx.out (Below.up b1W.out b))
  go_cut [6] from 18 to 32 (fun vx wx => ∃ (g6 : Nat) (a1 : Option Addr) (c1 : Nat) (a2 : Option Addr) (c2 : Nat), vx = .pointer (some ⟨g6, 0, none⟩) ∧ Hid (wx.heap[g6]? = some (.cells #[.int .i64 lg, .int .i64 nx, .int .u64 sq, .slice a1 pn c1, .slice a2 cn c2] 28)) ∧ Hid (ePl.Own wx WS.heap.size (.slice a1 pn c1) ps) ∧ Hid (eAd.Own wx WS.heap.size (.slice a2 cn c2) co) ∧ Hid (Below WS.heap.size WS wx))
  case first =>
    refine wp_region_held_drew (S := fun V => Below WS.heap.size WS V) (by kernel_rfl) (drew_below _) (fun hS => ?_)
    generalize World.drew WS = D at *
    refine wpAnyH_take (i := 0) (v := ?v1) rfl (by kernel_rfl) (by kernel_rfl) (by kernel_rfl) (fun _ _ _ h => h) (Or.inl ⟨by rfl, ?h1⟩) hS ?_
    case h1 => (intro W hW; go_simp; try (with_reducible rfl))
    go_simp
    refine wpAnyH_take (i := 1) (v := ?v2) rfl (by kernel_rfl) (by kernel_rfl) (by kernel_rfl) (fun _ _ _ h => h) (Or.inl ⟨by rfl, ?h2⟩) hS ?_
    case h2 => (intro W hW; have cc := cell_of (hk.out _ (Below.up b1W.out hW)) 0 _ rfl; go_simp; try (with_reducible rfl))
    go_simp
    refine wpAnyH_take (i := 2) (v := ?v3) rfl (by kernel_rfl) (by kernel_rfl) (by kernel_rfl) (fun _ _ _ h => h) (Or.inl ⟨by rfl, ?h3⟩) hS ?_
    case h3 => (intro W hW; go_simp; try (with_reducible rfl))
    go_simp
    refine wpAnyH_take (i := 3) (v := ?v4) rfl (by kernel_rfl) (by kernel_rfl) (by kernel_rfl) (fun _ _ _ h => h) (Or.inl ⟨by rfl, ?h4⟩) hS ?_
    case h4 => (intro W hW; have cc := cell_of (hk.out _ (Below.up b1W.out hW)) 1 _ rfl; go_simp; try (with_reducible rfl))
    go_simp
    refine wpAnyH_take (i := 4) (v := ?v5) rfl (by kernel_rfl) (by kernel_rfl) (by kernel_rfl) (fun _ _ _ h => h) (Or.inl ⟨by rfl, ?h5⟩) hS ?_
    case h5 => (intro W hW; go_simp; try (with_reducible rfl))
    go_simp
    refine wpAnyH_take (i := 5) (v := ?v6) rfl (by kernel_rfl) (by kernel_rfl) (by kernel_rfl) (fun _ _ _ h => h) (Or.inl ⟨by rfl, ?h6⟩) hS ?_
    case h6 => (intro W hW; have cc := cell_of (hk.out _ (Below.up b1W.out hW)) 2 _ rfl; go_simp; try (with_reducible rfl))
    go_simp
    refine wpAnyH_take (i := 7) (v := ?v7) rfl (by kernel_rfl) (by kernel_rfl) (by kernel_rfl) (fun _ _ _ h => h) (Or.inl ⟨by rfl, ?h7⟩) hS ?_
    case h7 => (intro W hW; go_simp; try (with_reducible rfl))
    go_simp
    refine wpAnyH_take (i := 8) (v := ?v8) rfl (by kernel_rfl) (by kernel_rfl) (by kernel_rfl) (fun _ _ _ h => h) (Or.inl ⟨by rfl, ?h8⟩) hS ?_
    case h8 => (intro W hW; have cc := cell_of (hk.out _ (Below.up b1W.out hW)) 3 _ rfl; go_simp; try (with_reducible rfl))
    go_simp
    refine wpAnyH_take (i := 11) (v := ?v9) rfl (by kernel_rfl) (by kernel_rfl) (by kernel_rfl) (fun _ _ _ h => h) (Or.inl ⟨by rfl, ?h9⟩) hS ?_
    case h9 => (intro W hW; go_simp; try (with_reducible rfl))
    go_simp
    refine wpAnyH_take (i := 12) (v := ?v10) rfl (by kernel_rfl) (by kernel_rfl) (by kernel_rfl) (fun _ _ _ h => h) (Or.inl ⟨by rfl, ?h10⟩) hS ?_
    case h10 => (intro W hW; have cc := cell_of (hk.out _ (Below.up b1W.out hW)) 4 _ rfl; go_simp; try (with_reducible rfl))
    go_simp
    refine wpAnyH_ready (rs := [6, 10, 15]) (by kernel_rfl) (by simp) ?_
    refine AllReadyH.cons rfl (fun K hK => ?_) ?_
    · go_simp
      have AG0 := made3 ePl hS
      have bb := box_below D (.cells #[] 41)
      have hS' := hid (Below.up hS bb)
      clear bb
      refine hK.out _ _ hS'.out (fun hS => ?_)
      clear hK K hS'
      change Acc ePl WS (D.alloc (.cells #[] 41)) _ _ at AG0
      replace AG0 := hid AG0
      generalize D.alloc (.cells #[] 41) = y6 at *
      generalize D.heap.size = g6 at *
      have AG := AG0
      clear AG0
      refine wpAnyH_ready (rs := [9, 10, 15]) (by kernel_rfl) (by simp) ?_
      refine AllReadyH.cons rfl (fun K hK => ?_) ?_
      · obtain ⟨v9, y9, r9, o9, gr9, q9⟩ := El.app ePl y6 WS.heap.size _ _ AG.out.o _ _ _ ps (HPl.out _ hS) (by show (0 + pn) * 16 ≤ _; omega) (by show 0 + pn ≤ _; omega) AG.out.sz
        have A2 : Acc ePl WS y9 v9 ([] ++ ps) := ⟨o9, below_grown AG.out.lo AG.out.sz gr9 (fun j hj => (own_lt AG.out.o j hj).1)⟩
        rw [List.nil_append] at A2
        obtain ⟨a9, c9, hv9⟩ := A2.shape
        rw [← hpn.out] at hv9
        subst hv9
        clear o9 gr9 q9 AG
        have AG := hid A2
        clear A2
        replace r9 := hid r9
        refine wp_append_run (.tmp 24) (.tmp 26) 25 25 rfl (.slice (some ⟨g6, 0, none⟩) 0 0) (.slice pa pn pc) (.slice a9 pn c9) (by go_simp) (by go_simp) r9.out ?_
        go_simp
        refine hK.out _ _ AG.out.lo (fun hS => ?_)
        clear hK K
        refine wpAnyH_ready (rs := [10, 15]) (by kernel_rfl) (by simp) ?_
        refine AllReadyH.cons rfl (fun K hK => ?_) ?_
        · go_simp
          have AC0 := made3 eAd hS
          have bb := box_below y9 (.cells #[] 45)
          have hS' := hid (Below.up hS bb)
          replace AG := hid (AG.out.later bb)
          clear bb
          refine hK.out _ _ hS'.out (fun hS => ?_)
          clear hK K hS'
          change Acc eAd WS (y9.alloc (.cells #[] 45)) _ _ at AC0
          replace AC0 := hid AC0
          generalize y9.alloc (.cells #[] 45) = y10 at *
          generalize y9.heap.size = g10 at *
          have AC := AC0
          clear AC0
          refine wpAnyH_ready (rs := [13, 15]) (by kernel_rfl) (by simp) ?_
          refine AllReadyH.cons rfl (fun K hK => ?_) ?_
          · obtain ⟨v13, y13, r13, o13, gr13, q13⟩ := El.app eAd y10 WS.heap.size _ _ AC.out.o _ _ _ co (HCl.out _ hS) (by show (0 + cn) * 72 ≤ _; omega) (by show 0 + cn ≤ _; omega) AC.out.sz
            have A2 : Acc eAd WS y13 v13 ([] ++ co) := ⟨o13, below_grown AC.out.lo AC.out.sz gr13 (fun j hj => (own_lt AC.out.o j hj).1)⟩
            rw [List.nil_append] at A2
            obtain ⟨a13, c13, hv13⟩ := A2.shape
            rw [← hcn.out] at hv13
            subst hv13
            replace AG := hid (keep_acc gr13 AC.out AG.out (by decide))
            clear o13 gr13 q13 AC
            have AC := hid A2
            clear A2
            replace r13 := hid r13
            refine wp_append_run (.tmp 28) (.tmp 30) 26 26 rfl (.slice (some ⟨g10, 0, none⟩) 0 0) (.slice ca cn cc) (.slice a13 cn c13) (by go_simp) (by go_simp) r13.out ?_
            go_simp
            refine hK.out _ _ AC.out.lo (fun hS => ?_)
            clear hK K
            refine wpAnyH_take (i := 14) (v := ?v11) rfl (by kernel_rfl) (by kernel_rfl) (by kernel_rfl) (fun _ _ _ h => h) (Or.inl ⟨by rfl, ?h11⟩) hS ?_
            case h11 => (intro W hW; go_simp; try (with_reducible rfl))
            go_simp
            refine wpAnyH_ready (rs := [15]) (by kernel_rfl) (by simp) ?_
            refine AllReadyH.cons rfl (fun K hK => ?_) ?_
            · go_simp
              have KZ := hid (new_at y13 (.cells #[.int .i64 0, .int .i64 0, .int .u64 0, .slice none 0 0, .slice none 0 0] 28))
              have hgz := hid hS.size
              have bb := box_below y13 (.cells #[.int .i64 0, .int .i64 0, .int .u64 0, .slice none 0 0, .slice none 0 0] 28)
              have hS' := hid (Below.up hS bb)
              replace AG := hid (AG.out.later bb)
              replace AC := hid (AC.out.later bb)
              clear bb
              refine hK.out _ _ hS'.out (fun hS => ?_)
              clear hK K hS'
              generalize y13.alloc (.cells #[.int .i64 0, .int .i64 0, .int .u64 0, .slice none 0 0, .slice none 0 0] 28) = y15 at *
              generalize y13.heap.size = g15 at *
              refine wpAnyH_ready (rs := [16]) (by kernel_rfl) (by simp) ?_
              refine AllReadyH.cons rfl (fun K hK => ?_) ?_
              · have q0 := cell_of KZ.out 0 _ rfl
                have f0 := fz_of KZ.out 0
                have q1 := cell_of KZ.out 1 _ rfl
                have f1 := fz_of KZ.out 1
                have q2 := cell_of KZ.out 2 _ rfl
                have f2 := fz_of KZ.out 2
                have q3 := cell_of KZ.out 3 _ rfl
                have f3 := fz_of KZ.out 3
                have q4 := cell_of KZ.out 4 _ rfl
                have f4 := fz_of KZ.out 4
                have KF := hid (five_put KZ.out (.int .i64 lg) (.int .i64 nx) (.int .u64 sq) (.slice a9 pn c9) (.slice a13 cn c13))
                have BF := hid (five_low hS hgz.out (.int .i64 lg) (.int .i64 nx) (.int .u64 sq) (.slice a9 pn c9) (.slice a13 cn c13))
                have OG := hid (own_blocks AG.out.o (fun j hj => five_ne y15 g15 j (.int .i64 lg) (.int .i64 nx) (.int .u64 sq) (.slice a9 pn c9) (.slice a13 cn c13) (own_ne AG.out.o KZ.out (by decide) j hj)))
                have OC := hid (own_blocks AC.out.o (fun j hj => five_ne y15 g15 j (.int .i64 lg) (.int .i64 nx) (.int .u64 sq) (.slice a9 pn c9) (.slice a13 cn c13) (own_ne AC.out.o KZ.out (by decide) j hj)))
                unfold five5 at KF BF OG OC
                go_simp
                refine hK.out _ _ BF.out (fun hS => ?_)
                clear hK K
                refine wpAnyH_done (by kernel_rfl) ?_ _
                go_wp2_with fail
                go_meet
                case rel => exact ⟨g15, a9, c9, a13, c13, rfl, KF, OG, OC, BF⟩
              exact AllReadyH.nil
            exact AllReadyH.nil
          refine AllReadyH.cons rfl (fun K hK => ?_) ?_
          · go_simp
            have KZ := hid (new_at y10 (.cells #[.int .i64 0, .int .i64 0, .int .u64 0, .slice none 0 0, .slice none 0 0] 28))
            have hgz := hid hS.size
            have bb := box_below y10 (.cells #[.int .i64 0, .int .i64 0, .int .u64 0, .slice none 0 0, .slice none 0 0] 28)
            have hS' := hid (Below.up hS bb)
            replace AG := hid (AG.out.later bb)
            replace AC := hid (AC.out.later bb)
            clear bb
            refine hK.out _ _ hS'.out (fun hS => ?_)
            clear hK K hS'
            generalize y10.alloc (.cells #[.int .i64 0, .int .i64 0, .int .u64 0, .slice none 0 0, .slice none 0 0] 28) = y15 at *
            generalize y10.heap.size = g15 at *
            refine wpAnyH_ready (rs := [13]) (by kernel_rfl) (by simp) ?_
            refine AllReadyH.cons rfl (fun K hK => ?_) ?_
            · obtain ⟨v13, y13, r13, o13, gr13, q13⟩ := El.app eAd y15 WS.heap.size _ _ AC.out.o _ _ _ co (HCl.out _ hS) (by show (0 + cn) * 72 ≤ _; omega) (by show 0 + cn ≤ _; omega) AC.out.sz
              have A2 : Acc eAd WS y13 v13 ([] ++ co) := ⟨o13, below_grown AC.out.lo AC.out.sz gr13 (fun j hj => (own_lt AC.out.o j hj).1)⟩
              rw [List.nil_append] at A2
              obtain ⟨a13, c13, hv13⟩ := A2.shape
              rw [← hcn.out] at hv13
              subst hv13
              replace AG := hid (keep_acc gr13 AC.out AG.out (by decide))
              replace KZ := hid (keep_blk gr13 AC.out.o KZ.out (by decide))
              clear o13 gr13 q13 AC
              have AC := hid A2
              clear A2
              replace r13 := hid r13
              refine wp_append_run (.tmp 28) (.tmp 30) 26 26 rfl (.slice (some ⟨g10, 0, none⟩) 0 0) (.slice ca cn cc) (.slice a13 cn c13) (by go_simp) (by go_simp) r13.out ?_
              go_simp
              refine hK.out _ _ AC.out.lo (fun hS => ?_)
              clear hK K
              refine wpAnyH_take (i := 14) (v := ?v12) rfl (by kernel_rfl) (by kernel_rfl) (by kernel_rfl) (fun _ _ _ h => h) (Or.inl ⟨by rfl, ?h12⟩) hS ?_
              case h12 => (intro W hW; go_simp; try (with_reducible rfl))
              go_simp
              refine wpAnyH_ready (rs := [16]) (by kernel_rfl) (by simp) ?_
              refine AllReadyH.cons rfl (fun K hK => ?_) ?_
              · have q0 := cell_of KZ.out 0 _ rfl
                have f0 := fz_of KZ.out 0
                have q1 := cell_of KZ.out 1 _ rfl
                have f1 := fz_of KZ.out 1
                have q2 := cell_of KZ.out 2 _ rfl
                have f2 := fz_of KZ.out 2
                have q3 := cell_of KZ.out 3 _ rfl
                have f3 := fz_of KZ.out 3
                have q4 := cell_of KZ.out 4 _ rfl
                have f4 := fz_of KZ.out 4
                have KF := hid (five_put KZ.out (.int .i64 lg) (.int .i64 nx) (.int .u64 sq) (.slice a9 pn c9) (.slice a13 cn c13))
                have BF := hid (five_low hS hgz.out (.int .i64 lg) (.int .i64 nx) (.int .u64 sq) (.slice a9 pn c9) (.slice a13 cn c13))
                have OG := hid (own_blocks AG.out.o (fun j hj => five_ne y13 g15 j (.int .i64 lg) (.int .i64 nx) (.int .u64 sq) (.slice a9 pn c9) (.slice a13 cn c13) (own_ne AG.out.o KZ.out (by decide) j hj)))
                have OC := hid (own_blocks AC.out.o (fun j hj => five_ne y13 g15 j (.int .i64 lg) (.int .i64 nx) (.int .u64 sq) (.slice a9 pn c9) (.slice a13 cn c13) (own_ne AC.out.o KZ.out (by decide) j hj)))
                unfold five5 at KF BF OG OC
                go_simp
                refine hK.out _ _ BF.out (fun hS => ?_)
                clear hK K
                refine wpAnyH_done (by kernel_rfl) ?_ _
                go_wp2_with fail
                go_meet
                case rel => exact ⟨g15, a9, c9, a13, c13, rfl, KF, OG, OC, BF⟩
              exact AllReadyH.nil
            exact AllReadyH.nil
          exact AllReadyH.nil
        refine AllReadyH.cons rfl (fun K hK => ?_) ?_
        · go_simp
          have KZ := hid (new_at y9 (.cells #[.int .i64 0, .int .i64 0, .int .u64 0, .slice none 0 0, .slice none 0 0] 28))
          have hgz := hid hS.size
          have bb := box_below y9 (.cells #[.int .i64 0, .int .i64 0, .int .u64 0, .slice none 0 0, .slice none 0 0] 28)
          have hS' := hid (Below.up hS bb)
          replace AG := hid (AG.out.later bb)
          clear bb
          refine hK.out _ _ hS'.out (fun hS => ?_)
          clear hK K hS'
          generalize y9.alloc (.cells #[.int .i64 0, .int .i64 0, .int .u64 0, .slice none 0 0, .slice none 0 0] 28) = y15 at *
          generalize y9.heap.size = g15 at *
          refine wpAnyH_ready (rs := [10]) (by kernel_rfl) (by simp) ?_
          refine AllReadyH.cons rfl (fun K hK => ?_) ?_
          · go_simp
            have AC0 := made3 eAd hS
            have bb := box_below y15 (.cells #[] 45)
            have hS' := hid (Below.up hS bb)
            replace AG := hid (AG.out.later bb)
            replace KZ := hid ((bb.block _ (blk_lt KZ.out)).trans KZ.out)
            clear bb
            refine hK.out _ _ hS'.out (fun hS => ?_)
            clear hK K hS'
            change Acc eAd WS (y15.alloc (.cells #[] 45)) _ _ at AC0
            replace AC0 := hid AC0
            generalize y15.alloc (.cells #[] 45) = y10 at *
            generalize y15.heap.size = g10 at *
            have AC := AC0
            clear AC0
            refine wpAnyH_ready (rs := [13]) (by kernel_rfl) (by simp) ?_
            refine AllReadyH.cons rfl (fun K hK => ?_) ?_
            · obtain ⟨v13, y13, r13, o13, gr13, q13⟩ := El.app eAd y10 WS.heap.size _ _ AC.out.o _ _ _ co (HCl.out _ hS) (by show (0 + cn) * 72 ≤ _; omega) (by show 0 + cn ≤ _; omega) AC.out.sz
              have A2 : Acc eAd WS y13 v13 ([] ++ co) := ⟨o13, below_grown AC.out.lo AC.out.sz gr13 (fun j hj => (own_lt AC.out.o j hj).1)⟩
              rw [List.nil_append] at A2
              obtain ⟨a13, c13, hv13⟩ := A2.shape
              rw [← hcn.out] at hv13
              subst hv13
              replace AG := hid (keep_acc gr13 AC.out AG.out (by decide))
              replace KZ := hid (keep_blk gr13 AC.out.o KZ.out (by decide))
              clear o13 gr13 q13 AC
              have AC := hid A2
              clear A2
              replace r13 := hid r13
              refine wp_append_run (.tmp 28) (.tmp 30) 26 26 rfl (.slice (some ⟨g10, 0, none⟩) 0 0) (.slice ca cn cc) (.slice a13 cn c13) (by go_simp) (by go_simp) r13.out ?_
              go_simp
              refine hK.out _ _ AC.out.lo (fun hS => ?_)
              clear hK K
              refine wpAnyH_take (i := 14) (v := ?v13) rfl (by kernel_rfl) (by kernel_rfl) (by kernel_rfl) (fun _ _ _ h => h) (Or.inl ⟨by rfl, ?h13⟩) hS ?_
              case h13 => (intro W hW; go_simp; try (with_reducible rfl))
              go_simp
              refine wpAnyH_ready (rs := [16]) (by kernel_rfl) (by simp) ?_
              refine AllReadyH.cons rfl (fun K hK => ?_) ?_
              · have q0 := cell_of KZ.out 0 _ rfl
                have f0 := fz_of KZ.out 0
                have q1 := cell_of KZ.out 1 _ rfl
                have f1 := fz_of KZ.out 1
                have q2 := cell_of KZ.out 2 _ rfl
                have f2 := fz_of KZ.out 2
                have q3 := cell_of KZ.out 3 _ rfl
                have f3 := fz_of KZ.out 3
                have q4 := cell_of KZ.out 4 _ rfl
                have f4 := fz_of KZ.out 4
                have KF := hid (five_put KZ.out (.int .i64 lg) (.int .i64 nx) (.int .u64 sq) (.slice a9 pn c9) (.slice a13 cn c13))
                have BF := hid (five_low hS hgz.out (.int .i64 lg) (.int .i64 nx) (.int .u64 sq) (.slice a9 pn c9) (.slice a13 cn c13))
                have OG := hid (own_blocks AG.out.o (fun j hj => five_ne y13 g15 j (.int .i64 lg) (.int .i64 nx) (.int .u64 sq) (.slice a9 pn c9) (.slice a13 cn c13) (own_ne AG.out.o KZ.out (by decide) j hj)))
                have OC := hid (own_blocks AC.out.o (fun j hj => five_ne y13 g15 j (.int .i64 lg) (.int .i64 nx) (.int .u64 sq) (.slice a9 pn c9) (.slice a13 cn c13) (own_ne AC.out.o KZ.out (by decide) j hj)))
                unfold five5 at KF BF OG OC
                go_simp
                refine hK.out _ _ BF.out (fun hS => ?_)
                clear hK K
                refine wpAnyH_done (by kernel_rfl) ?_ _
                go_wp2_with fail
                go_meet
                case rel => exact ⟨g15, a9, c9, a13, c13, rfl, KF, OG, OC, BF⟩
              exact AllReadyH.nil
            exact AllReadyH.nil
          exact AllReadyH.nil
        exact AllReadyH.nil
      refine AllReadyH.cons rfl (fun K hK => ?_) ?_
      · go_simp
        have AC0 := made3 eAd hS
        have bb := box_below y6 (.cells #[] 45)
        have hS' := hid (Below.up hS bb)
        replace AG := hid (AG.out.later bb)
        clear bb
        refine hK.out _ _ hS'.out (fun hS => ?_)
        clear hK K hS'
        change Acc eAd WS (y6.alloc (.cells #[] 45)) _ _ at AC0
        replace AC0 := hid AC0
        generalize y6.alloc (.cells #[] 45) = y10 at *
        generalize y6.heap.size = g10 at *
        have AC := AC0
        clear AC0
        refine wpAnyH_ready (rs := [9, 15]) (by kernel_rfl) (by simp) ?_
        refine AllReadyH.cons rfl (fun K hK => ?_) ?_
        · obtain ⟨v9, y9, r9, o9, gr9, q9⟩ := El.app ePl y10 WS.heap.size _ _ AG.out.o _ _ _ ps (HPl.out _ hS) (by show (0 + pn) * 16 ≤ _; omega) (by show 0 + pn ≤ _; omega) AG.out.sz
          have A2 : Acc ePl WS y9 v9 ([] ++ ps) := ⟨o9, below_grown AG.out.lo AG.out.sz gr9 (fun j hj => (own_lt AG.out.o j hj).1)⟩
          rw [List.nil_append] at A2
          obtain ⟨a9, c9, hv9⟩ := A2.shape
          rw [← hpn.out] at hv9
          subst hv9
          replace AC := hid (keep_acc gr9 AG.out AC.out (by decide))
          clear o9 gr9 q9 AG
          have AG := hid A2
          clear A2
          replace r9 := hid r9
          refine wp_append_run (.tmp 24) (.tmp 26) 25 25 rfl (.slice (some ⟨g6, 0, none⟩) 0 0) (.slice pa pn pc) (.slice a9 pn c9) (by go_simp) (by go_simp) r9.out ?_
          go_simp
          refine hK.out _ _ AG.out.lo (fun hS => ?_)
          clear hK K
          refine wpAnyH_ready (rs := [13, 15]) (by kernel_rfl) (by simp) ?_
          refine AllReadyH.cons rfl (fun K hK => ?_) ?_
          · obtain ⟨v13, y13, r13, o13, gr13, q13⟩ := El.app eAd y9 WS.heap.size _ _ AC.out.o _ _ _ co (HCl.out _ hS) (by show (0 + cn) * 72 ≤ _; omega) (by show 0 + cn ≤ _; omega) AC.out.sz
            have A2 : Acc eAd WS y13 v13 ([] ++ co) := ⟨o13, below_grown AC.out.lo AC.out.sz gr13 (fun j hj => (own_lt AC.out.o j hj).1)⟩
            rw [List.nil_append] at A2
            obtain ⟨a13, c13, hv13⟩ := A2.shape
            rw [← hcn.out] at hv13
            subst hv13
            replace AG := hid (keep_acc gr13 AC.out AG.out (by decide))
            clear o13 gr13 q13 AC
            have AC := hid A2
            clear A2
            replace r13 := hid r13
            refine wp_append_run (.tmp 28) (.tmp 30) 26 26 rfl (.slice (some ⟨g10, 0, none⟩) 0 0) (.slice ca cn cc) (.slice a13 cn c13) (by go_simp) (by go_simp) r13.out ?_
            go_simp
            refine hK.out _ _ AC.out.lo (fun hS => ?_)
            clear hK K
            refine wpAnyH_take (i := 14) (v := ?v14) rfl (by kernel_rfl) (by kernel_rfl) (by kernel_rfl) (fun _ _ _ h => h) (Or.inl ⟨by rfl, ?h14⟩) hS ?_
            case h14 => (intro W hW; go_simp; try (with_reducible rfl))
            go_simp
            refine wpAnyH_ready (rs := [15]) (by kernel_rfl) (by simp) ?_
            refine AllReadyH.cons rfl (fun K hK => ?_) ?_
            · go_simp
              have KZ := hid (new_at y13 (.cells #[.int .i64 0, .int .i64 0, .int .u64 0, .slice none 0 0, .slice none 0 0] 28))
              have hgz := hid hS.size
              have bb := box_below y13 (.cells #[.int .i64 0, .int .i64 0, .int .u64 0, .slice none 0 0, .slice none 0 0] 28)
              have hS' := hid (Below.up hS bb)
              replace AG := hid (AG.out.later bb)
              replace AC := hid (AC.out.later bb)
              clear bb
              refine hK.out _ _ hS'.out (fun hS => ?_)
              clear hK K hS'
              generalize y13.alloc (.cells #[.int .i64 0, .int .i64 0, .int .u64 0, .slice none 0 0, .slice none 0 0] 28) = y15 at *
              generalize y13.heap.size = g15 at *
              refine wpAnyH_ready (rs := [16]) (by kernel_rfl) (by simp) ?_
              refine AllReadyH.cons rfl (fun K hK => ?_) ?_
              · have q0 := cell_of KZ.out 0 _ rfl
                have f0 := fz_of KZ.out 0
                have q1 := cell_of KZ.out 1 _ rfl
                have f1 := fz_of KZ.out 1
                have q2 := cell_of KZ.out 2 _ rfl
                have f2 := fz_of KZ.out 2
                have q3 := cell_of KZ.out 3 _ rfl
                have f3 := fz_of KZ.out 3
                have q4 := cell_of KZ.out 4 _ rfl
                have f4 := fz_of KZ.out 4
                have KF := hid (five_put KZ.out (.int .i64 lg) (.int .i64 nx) (.int .u64 sq) (.slice a9 pn c9) (.slice a13 cn c13))
                have BF := hid (five_low hS hgz.out (.int .i64 lg) (.int .i64 nx) (.int .u64 sq) (.slice a9 pn c9) (.slice a13 cn c13))
                have OG := hid (own_blocks AG.out.o (fun j hj => five_ne y15 g15 j (.int .i64 lg) (.int .i64 nx) (.int .u64 sq) (.slice a9 pn c9) (.slice a13 cn c13) (own_ne AG.out.o KZ.out (by decide) j hj)))
                have OC := hid (own_blocks AC.out.o (fun j hj => five_ne y15 g15 j (.int .i64 lg) (.int .i64 nx) (.int .u64 sq) (.slice a9 pn c9) (.slice a13 cn c13) (own_ne AC.out.o KZ.out (by decide) j hj)))
                unfold five5 at KF BF OG OC
                go_simp
                refine hK.out _ _ BF.out (fun hS => ?_)
                clear hK K
                refine wpAnyH_done (by kernel_rfl) ?_ _
                go_wp2_with fail
                go_meet
                case rel => exact ⟨g15, a9, c9, a13, c13, rfl, KF, OG, OC, BF⟩
              exact AllReadyH.nil
            exact AllReadyH.nil
          refine AllReadyH.cons rfl (fun K hK => ?_) ?_
          · go_simp
            have KZ := hid (new_at y9 (.cells #[.int .i64 0, .int .i64 0, .int .u64 0, .slice none 0 0, .slice none 0 0] 28))
            have hgz := hid hS.size
            have bb := box_below y9 (.cells #[.int .i64 0, .int .i64 0, .int .u64 0, .slice none 0 0, .slice none 0 0] 28)
            have hS' := hid (Below.up hS bb)
            replace AG := hid (AG.out.later bb)
            replace AC := hid (AC.out.later bb)
            clear bb
            refine hK.out _ _ hS'.out (fun hS => ?_)
            clear hK K hS'
            generalize y9.alloc (.cells #[.int .i64 0, .int .i64 0, .int .u64 0, .slice none 0 0, .slice none 0 0] 28) = y15 at *
            generalize y9.heap.size = g15 at *
            refine wpAnyH_ready (rs := [13]) (by kernel_rfl) (by simp) ?_
            refine AllReadyH.cons rfl (fun K hK => ?_) ?_
            · obtain ⟨v13, y13, r13, o13, gr13, q13⟩ := El.app eAd y15 WS.heap.size _ _ AC.out.o _ _ _ co (HCl.out _ hS) (by show (0 + cn) * 72 ≤ _; omega) (by show 0 + cn ≤ _; omega) AC.out.sz
              have A2 : Acc eAd WS y13 v13 ([] ++ co) := ⟨o13, below_grown AC.out.lo AC.out.sz gr13 (fun j hj => (own_lt AC.out.o j hj).1)⟩
              rw [List.nil_append] at A2
              obtain ⟨a13, c13, hv13⟩ := A2.shape
              rw [← hcn.out] at hv13
              subst hv13
              replace AG := hid (keep_acc gr13 AC.out AG.out (by decide))
              replace KZ := hid (keep_blk gr13 AC.out.o KZ.out (by decide))
              clear o13 gr13 q13 AC
              have AC := hid A2
              clear A2
              replace r13 := hid r13
              refine wp_append_run (.tmp 28) (.tmp 30) 26 26 rfl (.slice (some ⟨g10, 0, none⟩) 0 0) (.slice ca cn cc) (.slice a13 cn c13) (by go_simp) (by go_simp) r13.out ?_
              go_simp
              refine hK.out _ _ AC.out.lo (fun hS => ?_)
              clear hK K
              refine wpAnyH_take (i := 14) (v := ?v15) rfl (by kernel_rfl) (by kernel_rfl) (by kernel_rfl) (fun _ _ _ h => h) (Or.inl ⟨by rfl, ?h15⟩) hS ?_
              case h15 => (intro W hW; go_simp; try (with_reducible rfl))
              go_simp
              refine wpAnyH_ready (rs := [16]) (by kernel_rfl) (by simp) ?_
              refine AllReadyH.cons rfl (fun K hK => ?_) ?_
              · have q0 := cell_of KZ.out 0 _ rfl
                have f0 := fz_of KZ.out 0
                have q1 := cell_of KZ.out 1 _ rfl
                have f1 := fz_of KZ.out 1
                have q2 := cell_of KZ.out 2 _ rfl
                have f2 := fz_of KZ.out 2
                have q3 := cell_of KZ.out 3 _ rfl
                have f3 := fz_of KZ.out 3
                have q4 := cell_of KZ.out 4 _ rfl
                have f4 := fz_of KZ.out 4
                have KF := hid (five_put KZ.out (.int .i64 lg) (.int .i64 nx) (.int .u64 sq) (.slice a9 pn c9) (.slice a13 cn c13))
                have BF := hid (five_low hS hgz.out (.int .i64 lg) (.int .i64 nx) (.int .u64 sq) (.slice a9 pn c9) (.slice a13 cn c13))
                have OG := hid (own_blocks AG.out.o (fun j hj => five_ne y13 g15 j (.int .i64 lg) (.int .i64 nx) (.int .u64 sq) (.slice a9 pn c9) (.slice a13 cn c13) (own_ne AG.out.o KZ.out (by decide) j hj)))
                have OC := hid (own_blocks AC.out.o (fun j hj => five_ne y13 g15 j (.int .i64 lg) (.int .i64 nx) (.int .u64 sq) (.slice a9 pn c9) (.slice a13 cn c13) (own_ne AC.out.o KZ.out (by decide) j hj)))
                unfold five5 at KF BF OG OC
                go_simp
                refine hK.out _ _ BF.out (fun hS => ?_)
                clear hK K
                refine wpAnyH_done (by kernel_rfl) ?_ _
                go_wp2_with fail
                go_meet
                case rel => exact ⟨g15, a9, c9, a13, c13, rfl, KF, OG, OC, BF⟩
              exact AllReadyH.nil
            exact AllReadyH.nil
          exact AllReadyH.nil
        refine AllReadyH.cons rfl (fun K hK => ?_) ?_
        · go_simp
          have KZ := hid (new_at y10 (.cells #[.int .i64 0, .int .i64 0, .int .u64 0, .slice none 0 0, .slice none 0 0] 28))
          have hgz := hid hS.size
          have bb := box_below y10 (.cells #[.int .i64 0, .int .i64 0, .int .u64 0, .slice none 0 0, .slice none 0 0] 28)
          have hS' := hid (Below.up hS bb)
          replace AG := hid (AG.out.later bb)
          replace AC := hid (AC.out.later bb)
          clear bb
          refine hK.out _ _ hS'.out (fun hS => ?_)
          clear hK K hS'
          generalize y10.alloc (.cells #[.int .i64 0, .int .i64 0, .int .u64 0, .slice none 0 0, .slice none 0 0] 28) = y15 at *
          generalize y10.heap.size = g15 at *
          refine wpAnyH_ready (rs := [9]) (by kernel_rfl) (by simp) ?_
          refine AllReadyH.cons rfl (fun K hK => ?_) ?_
          · obtain ⟨v9, y9, r9, o9, gr9, q9⟩ := El.app ePl y15 WS.heap.size _ _ AG.out.o _ _ _ ps (HPl.out _ hS) (by show (0 + pn) * 16 ≤ _; omega) (by show 0 + pn ≤ _; omega) AG.out.sz
            have A2 : Acc ePl WS y9 v9 ([] ++ ps) := ⟨o9, below_grown AG.out.lo AG.out.sz gr9 (fun j hj => (own_lt AG.out.o j hj).1)⟩
            rw [List.nil_append] at A2
            obtain ⟨a9, c9, hv9⟩ := A2.shape
            rw [← hpn.out] at hv9
            subst hv9
            replace AC := hid (keep_acc gr9 AG.out AC.out (by decide))
            replace KZ := hid (keep_blk gr9 AG.out.o KZ.out (by decide))
            clear o9 gr9 q9 AG
            have AG := hid A2
            clear A2
            replace r9 := hid r9
            refine wp_append_run (.tmp 24) (.tmp 26) 25 25 rfl (.slice (some ⟨g6, 0, none⟩) 0 0) (.slice pa pn pc) (.slice a9 pn c9) (by go_simp) (by go_simp) r9.out ?_
            go_simp
            refine hK.out _ _ AG.out.lo (fun hS => ?_)
            clear hK K
            refine wpAnyH_ready (rs := [13]) (by kernel_rfl) (by simp) ?_
            refine AllReadyH.cons rfl (fun K hK => ?_) ?_
            · obtain ⟨v13, y13, r13, o13, gr13, q13⟩ := El.app eAd y9 WS.heap.size _ _ AC.out.o _ _ _ co (HCl.out _ hS) (by show (0 + cn) * 72 ≤ _; omega) (by show 0 + cn ≤ _; omega) AC.out.sz
              have A2 : Acc eAd WS y13 v13 ([] ++ co) := ⟨o13, below_grown AC.out.lo AC.out.sz gr13 (fun j hj => (own_lt AC.out.o j hj).1)⟩
              rw [List.nil_append] at A2
              obtain ⟨a13, c13, hv13⟩ := A2.shape
              rw [← hcn.out] at hv13
              subst hv13
              replace AG := hid (keep_acc gr13 AC.out AG.out (by decide))
              replace KZ := hid (keep_blk gr13 AC.out.o KZ.out (by decide))
              clear o13 gr13 q13 AC
              have AC := hid A2
              clear A2
              replace r13 := hid r13
              refine wp_append_run (.tmp 28) (.tmp 30) 26 26 rfl (.slice (some ⟨g10, 0, none⟩) 0 0) (.slice ca cn cc) (.slice a13 cn c13) (by go_simp) (by go_simp) r13.out ?_
              go_simp
              refine hK.out _ _ AC.out.lo (fun hS => ?_)
              clear hK K
              refine wpAnyH_take (i := 14) (v := ?v16) rfl (by kernel_rfl) (by kernel_rfl) (by kernel_rfl) (fun _ _ _ h => h) (Or.inl ⟨by rfl, ?h16⟩) hS ?_
              case h16 => (intro W hW; go_simp; try (with_reducible rfl))
              go_simp
              refine wpAnyH_ready (rs := [16]) (by kernel_rfl) (by simp) ?_
              refine AllReadyH.cons rfl (fun K hK => ?_) ?_
              · have q0 := cell_of KZ.out 0 _ rfl
                have f0 := fz_of KZ.out 0
                have q1 := cell_of KZ.out 1 _ rfl
                have f1 := fz_of KZ.out 1
                have q2 := cell_of KZ.out 2 _ rfl
                have f2 := fz_of KZ.out 2
                have q3 := cell_of KZ.out 3 _ rfl
                have f3 := fz_of KZ.out 3
                have q4 := cell_of KZ.out 4 _ rfl
                have f4 := fz_of KZ.out 4
                have KF := hid (five_put KZ.out (.int .i64 lg) (.int .i64 nx) (.int .u64 sq) (.slice a9 pn c9) (.slice a13 cn c13))
                have BF := hid (five_low hS hgz.out (.int .i64 lg) (.int .i64 nx) (.int .u64 sq) (.slice a9 pn c9) (.slice a13 cn c13))
                have OG := hid (own_blocks AG.out.o (fun j hj => five_ne y13 g15 j (.int .i64 lg) (.int .i64 nx) (.int .u64 sq) (.slice a9 pn c9) (.slice a13 cn c13) (own_ne AG.out.o KZ.out (by decide) j hj)))
                have OC := hid (own_blocks AC.out.o (fun j hj => five_ne y13 g15 j (.int .i64 lg) (.int .i64 nx) (.int .u64 sq) (.slice a9 pn c9) (.slice a13 cn c13) (own_ne AC.out.o KZ.out (by decide) j hj)))
                unfold five5 at KF BF OG OC
                go_simp
                refine hK.out _ _ BF.out (fun hS => ?_)
                clear hK K
                refine wpAnyH_done (by kernel_rfl) ?_ _
                go_wp2_with fail
                go_meet
                case rel => exact ⟨g15, a9, c9, a13, c13, rfl, KF, OG, OC, BF⟩
              exact AllReadyH.nil
            exact AllReadyH.nil
          exact AllReadyH.nil
        exact AllReadyH.nil
      refine AllReadyH.cons rfl (fun K hK => ?_) ?_
      · go_simp
        have KZ := hid (new_at y6 (.cells #[.int .i64 0, .int .i64 0, .int .u64 0, .slice none 0 0, .slice none 0 0] 28))
        have hgz := hid hS.size
        have bb := box_below y6 (.cells #[.int .i64 0, .int .i64 0, .int .u64 0, .slice none 0 0, .slice none 0 0] 28)
        have hS' := hid (Below.up hS bb)
        replace AG := hid (AG.out.later bb)
        clear bb
        refine hK.out _ _ hS'.out (fun hS => ?_)
        clear hK K hS'
        generalize y6.alloc (.cells #[.int .i64 0, .int .i64 0, .int .u64 0, .slice none 0 0, .slice none 0 0] 28) = y15 at *
        generalize y6.heap.size = g15 at *
        refine wpAnyH_ready (rs := [9, 10]) (by kernel_rfl) (by simp) ?_
        refine AllReadyH.cons rfl (fun K hK => ?_) ?_
        · obtain ⟨v9, y9, r9, o9, gr9, q9⟩ := El.app ePl y15 WS.heap.size _ _ AG.out.o _ _ _ ps (HPl.out _ hS) (by show (0 + pn) * 16 ≤ _; omega) (by show 0 + pn ≤ _; omega) AG.out.sz
          have A2 : Acc ePl WS y9 v9 ([] ++ ps) := ⟨o9, below_grown AG.out.lo AG.out.sz gr9 (fun j hj => (own_lt AG.out.o j hj).1)⟩
          rw [List.nil_append] at A2
          obtain ⟨a9, c9, hv9⟩ := A2.shape
          rw [← hpn.out] at hv9
          subst hv9
          replace KZ := hid (keep_blk gr9 AG.out.o KZ.out (by decide))
          clear o9 gr9 q9 AG
          have AG := hid A2
          clear A2
          replace r9 := hid r9
          refine wp_append_run (.tmp 24) (.tmp 26) 25 25 rfl (.slice (some ⟨g6, 0, none⟩) 0 0) (.slice pa pn pc) (.slice a9 pn c9) (by go_simp) (by go_simp) r9.out ?_
          go_simp
          refine hK.out _ _ AG.out.lo (fun hS => ?_)
          clear hK K
          refine wpAnyH_ready (rs := [10]) (by kernel_rfl) (by simp) ?_
          refine AllReadyH.cons rfl (fun K hK => ?_) ?_
          · go_simp
            have AC0 := made3 eAd hS
            have bb := box_below y9 (.cells #[] 45)
            have hS' := hid (Below.up hS bb)
            replace AG := hid (AG.out.later bb)
            replace KZ := hid ((bb.block _ (blk_lt KZ.out)).trans KZ.out)
            clear bb
            refine hK.out _ _ hS'.out (fun hS => ?_)
            clear hK K hS'
            change Acc eAd WS (y9.alloc (.cells #[] 45)) _ _ at AC0
            replace AC0 := hid AC0
            generalize y9.alloc (.cells #[] 45) = y10 at *
            generalize y9.heap.size = g10 at *
            have AC := AC0
            clear AC0
            refine wpAnyH_ready (rs := [13]) (by kernel_rfl) (by simp) ?_
            refine AllReadyH.cons rfl (fun K hK => ?_) ?_
            · obtain ⟨v13, y13, r13, o13, gr13, q13⟩ := El.app eAd y10 WS.heap.size _ _ AC.out.o _ _ _ co (HCl.out _ hS) (by show (0 + cn) * 72 ≤ _; omega) (by show 0 + cn ≤ _; omega) AC.out.sz
              have A2 : Acc eAd WS y13 v13 ([] ++ co) := ⟨o13, below_grown AC.out.lo AC.out.sz gr13 (fun j hj => (own_lt AC.out.o j hj).1)⟩
              rw [List.nil_append] at A2
              obtain ⟨a13, c13, hv13⟩ := A2.shape
              rw [← hcn.out] at hv13
              subst hv13
              replace AG := hid (keep_acc gr13 AC.out AG.out (by decide))
              replace KZ := hid (keep_blk gr13 AC.out.o KZ.out (by decide))
              clear o13 gr13 q13 AC
              have AC := hid A2
              clear A2
              replace r13 := hid r13
              refine wp_append_run (.tmp 28) (.tmp 30) 26 26 rfl (.slice (some ⟨g10, 0, none⟩) 0 0) (.slice ca cn cc) (.slice a13 cn c13) (by go_simp) (by go_simp) r13.out ?_
              go_simp
              refine hK.out _ _ AC.out.lo (fun hS => ?_)
              clear hK K
              refine wpAnyH_take (i := 14) (v := ?v17) rfl (by kernel_rfl) (by kernel_rfl) (by kernel_rfl) (fun _ _ _ h => h) (Or.inl ⟨by rfl, ?h17⟩) hS ?_
              case h17 => (intro W hW; go_simp; try (with_reducible rfl))
              go_simp
              refine wpAnyH_ready (rs := [16]) (by kernel_rfl) (by simp) ?_
              refine AllReadyH.cons rfl (fun K hK => ?_) ?_
              · have q0 := cell_of KZ.out 0 _ rfl
                have f0 := fz_of KZ.out 0
                have q1 := cell_of KZ.out 1 _ rfl
                have f1 := fz_of KZ.out 1
                have q2 := cell_of KZ.out 2 _ rfl
                have f2 := fz_of KZ.out 2
                have q3 := cell_of KZ.out 3 _ rfl
                have f3 := fz_of KZ.out 3
                have q4 := cell_of KZ.out 4 _ rfl
                have f4 := fz_of KZ.out 4
                have KF := hid (five_put KZ.out (.int .i64 lg) (.int .i64 nx) (.int .u64 sq) (.slice a9 pn c9) (.slice a13 cn c13))
                have BF := hid (five_low hS hgz.out (.int .i64 lg) (.int .i64 nx) (.int .u64 sq) (.slice a9 pn c9) (.slice a13 cn c13))
                have OG := hid (own_blocks AG.out.o (fun j hj => five_ne y13 g15 j (.int .i64 lg) (.int .i64 nx) (.int .u64 sq) (.slice a9 pn c9) (.slice a13 cn c13) (own_ne AG.out.o KZ.out (by decide) j hj)))
                have OC := hid (own_blocks AC.out.o (fun j hj => five_ne y13 g15 j (.int .i64 lg) (.int .i64 nx) (.int .u64 sq) (.slice a9 pn c9) (.slice a13 cn c13) (own_ne AC.out.o KZ.out (by decide) j hj)))
                unfold five5 at KF BF OG OC
                go_simp
                refine hK.out _ _ BF.out (fun hS => ?_)
                clear hK K
                refine wpAnyH_done (by kernel_rfl) ?_ _
                go_wp2_with fail
                go_meet
                case rel => exact ⟨g15, a9, c9, a13, c13, rfl, KF, OG, OC, BF⟩
              exact AllReadyH.nil
            exact AllReadyH.nil
          exact AllReadyH.nil
        refine AllReadyH.cons rfl (fun K hK => ?_) ?_
        · go_simp
          have AC0 := made3 eAd hS
          have bb := box_below y15 (.cells #[] 45)
          have hS' := hid (Below.up hS bb)
          replace AG := hid (AG.out.later bb)
          replace KZ := hid ((bb.block _ (blk_lt KZ.out)).trans KZ.out)
          clear bb
          refine hK.out _ _ hS'.out (fun hS => ?_)
          clear hK K hS'
          change Acc eAd WS (y15.alloc (.cells #[] 45)) _ _ at AC0
          replace AC0 := hid AC0
          generalize y15.alloc (.cells #[] 45) = y10 at *
          generalize y15.heap.size = g10 at *
          have AC := AC0
          clear AC0
          refine wpAnyH_ready (rs := [9]) (by kernel_rfl) (by simp) ?_
          refine AllReadyH.cons rfl (fun K hK => ?_) ?_
          · obtain ⟨v9, y9, r9, o9, gr9, q9⟩ := El.app ePl y10 WS.heap.size _ _ AG.out.o _ _ _ ps (HPl.out _ hS) (by show (0 + pn) * 16 ≤ _; omega) (by show 0 + pn ≤ _; omega) AG.out.sz
            have A2 : Acc ePl WS y9 v9 ([] ++ ps) := ⟨o9, below_grown AG.out.lo AG.out.sz gr9 (fun j hj => (own_lt AG.out.o j hj).1)⟩
            rw [List.nil_append] at A2
            obtain ⟨a9, c9, hv9⟩ := A2.shape
            rw [← hpn.out] at hv9
            subst hv9
            replace AC := hid (keep_acc gr9 AG.out AC.out (by decide))
            replace KZ := hid (keep_blk gr9 AG.out.o KZ.out (by decide))
            clear o9 gr9 q9 AG
            have AG := hid A2
            clear A2
            replace r9 := hid r9
            refine wp_append_run (.tmp 24) (.tmp 26) 25 25 rfl (.slice (some ⟨g6, 0, none⟩) 0 0) (.slice pa pn pc) (.slice a9 pn c9) (by go_simp) (by go_simp) r9.out ?_
            go_simp
            refine hK.out _ _ AG.out.lo (fun hS => ?_)
            clear hK K
            refine wpAnyH_ready (rs := [13]) (by kernel_rfl) (by simp) ?_
            refine AllReadyH.cons rfl (fun K hK => ?_) ?_
            · obtain ⟨v13, y13, r13, o13, gr13, q13⟩ := El.app eAd y9 WS.heap.size _ _ AC.out.o _ _ _ co (HCl.out _ hS) (by show (0 + cn) * 72 ≤ _; omega) (by show 0 + cn ≤ _; omega) AC.out.sz
              have A2 : Acc eAd WS y13 v13 ([] ++ co) := ⟨o13, below_grown AC.out.lo AC.out.sz gr13 (fun j hj => (own_lt AC.out.o j hj).1)⟩
              rw [List.nil_append] at A2
              obtain ⟨a13, c13, hv13⟩ := A2.shape
              rw [← hcn.out] at hv13
              subst hv13
              replace AG := hid (keep_acc gr13 AC.out AG.out (by decide))
              replace KZ := hid (keep_blk gr13 AC.out.o KZ.out (by decide))
              clear o13 gr13 q13 AC
              have AC := hid A2
              clear A2
              replace r13 := hid r13
              refine wp_append_run (.tmp 28) (.tmp 30) 26 26 rfl (.slice (some ⟨g10, 0, none⟩) 0 0) (.slice ca cn cc) (.slice a13 cn c13) (by go_simp) (by go_simp) r13.out ?_
              go_simp
              refine hK.out _ _ AC.out.lo (fun hS => ?_)
              clear hK K
              refine wpAnyH_take (i := 14) (v := ?v18) rfl (by kernel_rfl) (by kernel_rfl) (by kernel_rfl) (fun _ _ _ h => h) (Or.inl ⟨by rfl, ?h18⟩) hS ?_
              case h18 => (intro W hW; go_simp; try (with_reducible rfl))
              go_simp
              refine wpAnyH_ready (rs := [16]) (by kernel_rfl) (by simp) ?_
              refine AllReadyH.cons rfl (fun K hK => ?_) ?_
              · have q0 := cell_of KZ.out 0 _ rfl
                have f0 := fz_of KZ.out 0
                have q1 := cell_of KZ.out 1 _ rfl
                have f1 := fz_of KZ.out 1
                have q2 := cell_of KZ.out 2 _ rfl
                have f2 := fz_of KZ.out 2
                have q3 := cell_of KZ.out 3 _ rfl
                have f3 := fz_of KZ.out 3
                have q4 := cell_of KZ.out 4 _ rfl
                have f4 := fz_of KZ.out 4
                have KF := hid (five_put KZ.out (.int .i64 lg) (.int .i64 nx) (.int .u64 sq) (.slice a9 pn c9) (.slice a13 cn c13))
                have BF := hid (five_low hS hgz.out (.int .i64 lg) (.int .i64 nx) (.int .u64 sq) (.slice a9 pn c9) (.slice a13 cn c13))
                have OG := hid (own_blocks AG.out.o (fun j hj => five_ne y13 g15 j (.int .i64 lg) (.int .i64 nx) (.int .u64 sq) (.slice a9 pn c9) (.slice a13 cn c13) (own_ne AG.out.o KZ.out (by decide) j hj)))
                have OC := hid (own_blocks AC.out.o (fun j hj => five_ne y13 g15 j (.int .i64 lg) (.int .i64 nx) (.int .u64 sq) (.slice a9 pn c9) (.slice a13 cn c13) (own_ne AC.out.o KZ.out (by decide) j hj)))
                unfold five5 at KF BF OG OC
                go_simp
                refine hK.out _ _ BF.out (fun hS => ?_)
                clear hK K
                refine wpAnyH_done (by kernel_rfl) ?_ _
                go_wp2_with fail
                go_meet
                case rel => exact ⟨g15, a9, c9, a13, c13, rfl, KF, OG, OC, BF⟩
              exact AllReadyH.nil
            exact AllReadyH.nil
          exact AllReadyH.nil
        exact AllReadyH.nil
      exact AllReadyH.nil
    refine AllReadyH.cons rfl (fun K hK => ?_) ?_
    · go_simp
      have AC0 := made3 eAd hS
      have bb := box_below D (.cells #[] 45)
      have hS' := hid (Below.up hS bb)
      clear bb
      refine hK.out _ _ hS'.out (fun hS => ?_)
      clear hK K hS'
      change Acc eAd WS (D.alloc (.cells #[] 45)) _ _ at AC0
      replace AC0 := hid AC0
      generalize D.alloc (.cells #[] 45) = y10 at *
      generalize D.heap.size = g10 at *
      have AC := AC0
      clear AC0
      refine wpAnyH_ready (rs := [6, 15]) (by kernel_rfl) (by simp) ?_
      refine AllReadyH.cons rfl (fun K hK => ?_) ?_
      · go_simp
        have AG0 := made3 ePl hS
        have bb := box_below y10 (.cells #[] 41)
        have hS' := hid (Below.up hS bb)
        replace AC := hid (AC.out.later bb)
        clear bb
        refine hK.out _ _ hS'.out (fun hS => ?_)
        clear hK K hS'
        change Acc ePl WS (y10.alloc (.cells #[] 41)) _ _ at AG0
        replace AG0 := hid AG0
        generalize y10.alloc (.cells #[] 41) = y6 at *
        generalize y10.heap.size = g6 at *
        have AG := AG0
        clear AG0
        refine wpAnyH_ready (rs := [9, 15]) (by kernel_rfl) (by simp) ?_
        refine AllReadyH.cons rfl (fun K hK => ?_) ?_
        · obtain ⟨v9, y9, r9, o9, gr9, q9⟩ := El.app ePl y6 WS.heap.size _ _ AG.out.o _ _ _ ps (HPl.out _ hS) (by show (0 + pn) * 16 ≤ _; omega) (by show 0 + pn ≤ _; omega) AG.out.sz
          have A2 : Acc ePl WS y9 v9 ([] ++ ps) := ⟨o9, below_grown AG.out.lo AG.out.sz gr9 (fun j hj => (own_lt AG.out.o j hj).1)⟩
          rw [List.nil_append] at A2
          obtain ⟨a9, c9, hv9⟩ := A2.shape
          rw [← hpn.out] at hv9
          subst hv9
          replace AC := hid (keep_acc gr9 AG.out AC.out (by decide))
          clear o9 gr9 q9 AG
          have AG := hid A2
          clear A2
          replace r9 := hid r9
          refine wp_append_run (.tmp 24) (.tmp 26) 25 25 rfl (.slice (some ⟨g6, 0, none⟩) 0 0) (.slice pa pn pc) (.slice a9 pn c9) (by go_simp) (by go_simp) r9.out ?_
          go_simp
          refine hK.out _ _ AG.out.lo (fun hS => ?_)
          clear hK K
          refine wpAnyH_ready (rs := [13, 15]) (by kernel_rfl) (by simp) ?_
          refine AllReadyH.cons rfl (fun K hK => ?_) ?_
          · obtain ⟨v13, y13, r13, o13, gr13, q13⟩ := El.app eAd y9 WS.heap.size _ _ AC.out.o _ _ _ co (HCl.out _ hS) (by show (0 + cn) * 72 ≤ _; omega) (by show 0 + cn ≤ _; omega) AC.out.sz
            have A2 : Acc eAd WS y13 v13 ([] ++ co) := ⟨o13, below_grown AC.out.lo AC.out.sz gr13 (fun j hj => (own_lt AC.out.o j hj).1)⟩
            rw [List.nil_append] at A2
            obtain ⟨a13, c13, hv13⟩ := A2.shape
            rw [← hcn.out] at hv13
            subst hv13
            replace AG := hid (keep_acc gr13 AC.out AG.out (by decide))
            clear o13 gr13 q13 AC
            have AC := hid A2
            clear A2
            replace r13 := hid r13
            refine wp_append_run (.tmp 28) (.tmp 30) 26 26 rfl (.slice (some ⟨g10, 0, none⟩) 0 0) (.slice ca cn cc) (.slice a13 cn c13) (by go_simp) (by go_simp) r13.out ?_
            go_simp
            refine hK.out _ _ AC.out.lo (fun hS => ?_)
            clear hK K
            refine wpAnyH_take (i := 14) (v := ?v19) rfl (by kernel_rfl) (by kernel_rfl) (by kernel_rfl) (fun _ _ _ h => h) (Or.inl ⟨by rfl, ?h19⟩) hS ?_
            case h19 => (intro W hW; go_simp; try (with_reducible rfl))
            go_simp
            refine wpAnyH_ready (rs := [15]) (by kernel_rfl) (by simp) ?_
            refine AllReadyH.cons rfl (fun K hK => ?_) ?_
            · go_simp
              have KZ := hid (new_at y13 (.cells #[.int .i64 0, .int .i64 0, .int .u64 0, .slice none 0 0, .slice none 0 0] 28))
              have hgz := hid hS.size
              have bb := box_below y13 (.cells #[.int .i64 0, .int .i64 0, .int .u64 0, .slice none 0 0, .slice none 0 0] 28)
              have hS' := hid (Below.up hS bb)
              replace AG := hid (AG.out.later bb)
              replace AC := hid (AC.out.later bb)
              clear bb
              refine hK.out _ _ hS'.out (fun hS => ?_)
              clear hK K hS'
              generalize y13.alloc (.cells #[.int .i64 0, .int .i64 0, .int .u64 0, .slice none 0 0, .slice none 0 0] 28) = y15 at *
              generalize y13.heap.size = g15 at *
              refine wpAnyH_ready (rs := [16]) (by kernel_rfl) (by simp) ?_
              refine AllReadyH.cons rfl (fun K hK => ?_) ?_
              · have q0 := cell_of KZ.out 0 _ rfl
                have f0 := fz_of KZ.out 0
                have q1 := cell_of KZ.out 1 _ rfl
                have f1 := fz_of KZ.out 1
                have q2 := cell_of KZ.out 2 _ rfl
                have f2 := fz_of KZ.out 2
                have q3 := cell_of KZ.out 3 _ rfl
                have f3 := fz_of KZ.out 3
                have q4 := cell_of KZ.out 4 _ rfl
                have f4 := fz_of KZ.out 4
                have KF := hid (five_put KZ.out (.int .i64 lg) (.int .i64 nx) (.int .u64 sq) (.slice a9 pn c9) (.slice a13 cn c13))
                have BF := hid (five_low hS hgz.out (.int .i64 lg) (.int .i64 nx) (.int .u64 sq) (.slice a9 pn c9) (.slice a13 cn c13))
                have OG := hid (own_blocks AG.out.o (fun j hj => five_ne y15 g15 j (.int .i64 lg) (.int .i64 nx) (.int .u64 sq) (.slice a9 pn c9) (.slice a13 cn c13) (own_ne AG.out.o KZ.out (by decide) j hj)))
                have OC := hid (own_blocks AC.out.o (fun j hj => five_ne y15 g15 j (.int .i64 lg) (.int .i64 nx) (.int .u64 sq) (.slice a9 pn c9) (.slice a13 cn c13) (own_ne AC.out.o KZ.out (by decide) j hj)))
                unfold five5 at KF BF OG OC
                go_simp
                refine hK.out _ _ BF.out (fun hS => ?_)
                clear hK K
                refine wpAnyH_done (by kernel_rfl) ?_ _
                go_wp2_with fail
                go_meet
                case rel => exact ⟨g15, a9, c9, a13, c13, rfl, KF, OG, OC, BF⟩
              exact AllReadyH.nil
            exact AllReadyH.nil
          refine AllReadyH.cons rfl (fun K hK => ?_) ?_
          · go_simp
            have KZ := hid (new_at y9 (.cells #[.int .i64 0, .int .i64 0, .int .u64 0, .slice none 0 0, .slice none 0 0] 28))
            have hgz := hid hS.size
            have bb := box_below y9 (.cells #[.int .i64 0, .int .i64 0, .int .u64 0, .slice none 0 0, .slice none 0 0] 28)
            have hS' := hid (Below.up hS bb)
            replace AG := hid (AG.out.later bb)
            replace AC := hid (AC.out.later bb)
            clear bb
            refine hK.out _ _ hS'.out (fun hS => ?_)
            clear hK K hS'
            generalize y9.alloc (.cells #[.int .i64 0, .int .i64 0, .int .u64 0, .slice none 0 0, .slice none 0 0] 28) = y15 at *
            generalize y9.heap.size = g15 at *
            refine wpAnyH_ready (rs := [13]) (by kernel_rfl) (by simp) ?_
            refine AllReadyH.cons rfl (fun K hK => ?_) ?_
            · obtain ⟨v13, y13, r13, o13, gr13, q13⟩ := El.app eAd y15 WS.heap.size _ _ AC.out.o _ _ _ co (HCl.out _ hS) (by show (0 + cn) * 72 ≤ _; omega) (by show 0 + cn ≤ _; omega) AC.out.sz
              have A2 : Acc eAd WS y13 v13 ([] ++ co) := ⟨o13, below_grown AC.out.lo AC.out.sz gr13 (fun j hj => (own_lt AC.out.o j hj).1)⟩
              rw [List.nil_append] at A2
              obtain ⟨a13, c13, hv13⟩ := A2.shape
              rw [← hcn.out] at hv13
              subst hv13
              replace AG := hid (keep_acc gr13 AC.out AG.out (by decide))
              replace KZ := hid (keep_blk gr13 AC.out.o KZ.out (by decide))
              clear o13 gr13 q13 AC
              have AC := hid A2
              clear A2
              replace r13 := hid r13
              refine wp_append_run (.tmp 28) (.tmp 30) 26 26 rfl (.slice (some ⟨g10, 0, none⟩) 0 0) (.slice ca cn cc) (.slice a13 cn c13) (by go_simp) (by go_simp) r13.out ?_
              go_simp
              refine hK.out _ _ AC.out.lo (fun hS => ?_)
              clear hK K
              refine wpAnyH_take (i := 14) (v := ?v20) rfl (by kernel_rfl) (by kernel_rfl) (by kernel_rfl) (fun _ _ _ h => h) (Or.inl ⟨by rfl, ?h20⟩) hS ?_
              case h20 => (intro W hW; go_simp; try (with_reducible rfl))
              go_simp
              refine wpAnyH_ready (rs := [16]) (by kernel_rfl) (by simp) ?_
              refine AllReadyH.cons rfl (fun K hK => ?_) ?_
              · have q0 := cell_of KZ.out 0 _ rfl
                have f0 := fz_of KZ.out 0
                have q1 := cell_of KZ.out 1 _ rfl
                have f1 := fz_of KZ.out 1
                have q2 := cell_of KZ.out 2 _ rfl
                have f2 := fz_of KZ.out 2
                have q3 := cell_of KZ.out 3 _ rfl
                have f3 := fz_of KZ.out 3
                have q4 := cell_of KZ.out 4 _ rfl
                have f4 := fz_of KZ.out 4
                have KF := hid (five_put KZ.out (.int .i64 lg) (.int .i64 nx) (.int .u64 sq) (.slice a9 pn c9) (.slice a13 cn c13))
                have BF := hid (five_low hS hgz.out (.int .i64 lg) (.int .i64 nx) (.int .u64 sq) (.slice a9 pn c9) (.slice a13 cn c13))
                have OG := hid (own_blocks AG.out.o (fun j hj => five_ne y13 g15 j (.int .i64 lg) (.int .i64 nx) (.int .u64 sq) (.slice a9 pn c9) (.slice a13 cn c13) (own_ne AG.out.o KZ.out (by decide) j hj)))
                have OC := hid (own_blocks AC.out.o (fun j hj => five_ne y13 g15 j (.int .i64 lg) (.int .i64 nx) (.int .u64 sq) (.slice a9 pn c9) (.slice a13 cn c13) (own_ne AC.out.o KZ.out (by decide) j hj)))
                unfold five5 at KF BF OG OC
                go_simp
                refine hK.out _ _ BF.out (fun hS => ?_)
                clear hK K
                refine wpAnyH_done (by kernel_rfl) ?_ _
                go_wp2_with fail
                go_meet
                case rel => exact ⟨g15, a9, c9, a13, c13, rfl, KF, OG, OC, BF⟩
              exact AllReadyH.nil
            exact AllReadyH.nil
          exact AllReadyH.nil
        refine AllReadyH.cons rfl (fun K hK => ?_) ?_
        · go_simp
          have KZ := hid (new_at y6 (.cells #[.int .i64 0, .int .i64 0, .int .u64 0, .slice none 0 0, .slice none 0 0] 28))
          have hgz := hid hS.size
          have bb := box_below y6 (.cells #[.int .i64 0, .int .i64 0, .int .u64 0, .slice none 0 0, .slice none 0 0] 28)
          have hS' := hid (Below.up hS bb)
          replace AG := hid (AG.out.later bb)
          replace AC := hid (AC.out.later bb)
          clear bb
          refine hK.out _ _ hS'.out (fun hS => ?_)
          clear hK K hS'
          generalize y6.alloc (.cells #[.int .i64 0, .int .i64 0, .int .u64 0, .slice none 0 0, .slice none 0 0] 28) = y15 at *
          generalize y6.heap.size = g15 at *
          refine wpAnyH_ready (rs := [9]) (by kernel_rfl) (by simp) ?_
          refine AllReadyH.cons rfl (fun K hK => ?_) ?_
          · obtain ⟨v9, y9, r9, o9, gr9, q9⟩ := El.app ePl y15 WS.heap.size _ _ AG.out.o _ _ _ ps (HPl.out _ hS) (by show (0 + pn) * 16 ≤ _; omega) (by show 0 + pn ≤ _; omega) AG.out.sz
            have A2 : Acc ePl WS y9 v9 ([] ++ ps) := ⟨o9, below_grown AG.out.lo AG.out.sz gr9 (fun j hj => (own_lt AG.out.o j hj).1)⟩
            rw [List.nil_append] at A2
            obtain ⟨a9, c9, hv9⟩ := A2.shape
            rw [← hpn.out] at hv9
            subst hv9
            replace AC := hid (keep_acc gr9 AG.out AC.out (by decide))
            replace KZ := hid (keep_blk gr9 AG.out.o KZ.out (by decide))
            clear o9 gr9 q9 AG
            have AG := hid A2
            clear A2
            replace r9 := hid r9
            refine wp_append_run (.tmp 24) (.tmp 26) 25 25 rfl (.slice (some ⟨g6, 0, none⟩) 0 0) (.slice pa pn pc) (.slice a9 pn c9) (by go_simp) (by go_simp) r9.out ?_
            go_simp
            refine hK.out _ _ AG.out.lo (fun hS => ?_)
            clear hK K
            refine wpAnyH_ready (rs := [13]) (by kernel_rfl) (by simp) ?_
            refine AllReadyH.cons rfl (fun K hK => ?_) ?_
            · obtain ⟨v13, y13, r13, o13, gr13, q13⟩ := El.app eAd y9 WS.heap.size _ _ AC.out.o _ _ _ co (HCl.out _ hS) (by show (0 + cn) * 72 ≤ _; omega) (by show 0 + cn ≤ _; omega) AC.out.sz
              have A2 : Acc eAd WS y13 v13 ([] ++ co) := ⟨o13, below_grown AC.out.lo AC.out.sz gr13 (fun j hj => (own_lt AC.out.o j hj).1)⟩
              rw [List.nil_append] at A2
              obtain ⟨a13, c13, hv13⟩ := A2.shape
              rw [← hcn.out] at hv13
              subst hv13
              replace AG := hid (keep_acc gr13 AC.out AG.out (by decide))
              replace KZ := hid (keep_blk gr13 AC.out.o KZ.out (by decide))
              clear o13 gr13 q13 AC
              have AC := hid A2
              clear A2
              replace r13 := hid r13
              refine wp_append_run (.tmp 28) (.tmp 30) 26 26 rfl (.slice (some ⟨g10, 0, none⟩) 0 0) (.slice ca cn cc) (.slice a13 cn c13) (by go_simp) (by go_simp) r13.out ?_
              go_simp
              refine hK.out _ _ AC.out.lo (fun hS => ?_)
              clear hK K
              refine wpAnyH_take (i := 14) (v := ?v21) rfl (by kernel_rfl) (by kernel_rfl) (by kernel_rfl) (fun _ _ _ h => h) (Or.inl ⟨by rfl, ?h21⟩) hS ?_
              case h21 => (intro W hW; go_simp; try (with_reducible rfl))
              go_simp
              refine wpAnyH_ready (rs := [16]) (by kernel_rfl) (by simp) ?_
              refine AllReadyH.cons rfl (fun K hK => ?_) ?_
              · have q0 := cell_of KZ.out 0 _ rfl
                have f0 := fz_of KZ.out 0
                have q1 := cell_of KZ.out 1 _ rfl
                have f1 := fz_of KZ.out 1
                have q2 := cell_of KZ.out 2 _ rfl
                have f2 := fz_of KZ.out 2
                have q3 := cell_of KZ.out 3 _ rfl
                have f3 := fz_of KZ.out 3
                have q4 := cell_of KZ.out 4 _ rfl
                have f4 := fz_of KZ.out 4
                have KF := hid (five_put KZ.out (.int .i64 lg) (.int .i64 nx) (.int .u64 sq) (.slice a9 pn c9) (.slice a13 cn c13))
                have BF := hid (five_low hS hgz.out (.int .i64 lg) (.int .i64 nx) (.int .u64 sq) (.slice a9 pn c9) (.slice a13 cn c13))
                have OG := hid (own_blocks AG.out.o (fun j hj => five_ne y13 g15 j (.int .i64 lg) (.int .i64 nx) (.int .u64 sq) (.slice a9 pn c9) (.slice a13 cn c13) (own_ne AG.out.o KZ.out (by decide) j hj)))
                have OC := hid (own_blocks AC.out.o (fun j hj => five_ne y13 g15 j (.int .i64 lg) (.int .i64 nx) (.int .u64 sq) (.slice a9 pn c9) (.slice a13 cn c13) (own_ne AC.out.o KZ.out (by decide) j hj)))
                unfold five5 at KF BF OG OC
                go_simp
                refine hK.out _ _ BF.out (fun hS => ?_)
                clear hK K
                refine wpAnyH_done (by kernel_rfl) ?_ _
                go_wp2_with fail
                go_meet
                case rel => exact ⟨g15, a9, c9, a13, c13, rfl, KF, OG, OC, BF⟩
              exact AllReadyH.nil
            exact AllReadyH.nil
          exact AllReadyH.nil
        exact AllReadyH.nil
      refine AllReadyH.cons rfl (fun K hK => ?_) ?_
      · go_simp
        have KZ := hid (new_at y10 (.cells #[.int .i64 0, .int .i64 0, .int .u64 0, .slice none 0 0, .slice none 0 0] 28))
        have hgz := hid hS.size
        have bb := box_below y10 (.cells #[.int .i64 0, .int .i64 0, .int .u64 0, .slice none 0 0, .slice none 0 0] 28)
        have hS' := hid (Below.up hS bb)
        replace AC := hid (AC.out.later bb)
        clear bb
        refine hK.out _ _ hS'.out (fun hS => ?_)
        clear hK K hS'
        generalize y10.alloc (.cells #[.int .i64 0, .int .i64 0, .int .u64 0, .slice none 0 0, .slice none 0 0] 28) = y15 at *
        generalize y10.heap.size = g15 at *
        refine wpAnyH_ready (rs := [6]) (by kernel_rfl) (by simp) ?_
        refine AllReadyH.cons rfl (fun K hK => ?_) ?_
        · go_simp
          have AG0 := made3 ePl hS
          have bb := box_below y15 (.cells #[] 41)
          have hS' := hid (Below.up hS bb)
          replace AC := hid (AC.out.later bb)
          replace KZ := hid ((bb.block _ (blk_lt KZ.out)).trans KZ.out)
          clear bb
          refine hK.out _ _ hS'.out (fun hS => ?_)
          clear hK K hS'
          change Acc ePl WS (y15.alloc (.cells #[] 41)) _ _ at AG0
          replace AG0 := hid AG0
          generalize y15.alloc (.cells #[] 41) = y6 at *
          generalize y15.heap.size = g6 at *
          have AG := AG0
          clear AG0
          refine wpAnyH_ready (rs := [9]) (by kernel_rfl) (by simp) ?_
          refine AllReadyH.cons rfl (fun K hK => ?_) ?_
          · obtain ⟨v9, y9, r9, o9, gr9, q9⟩ := El.app ePl y6 WS.heap.size _ _ AG.out.o _ _ _ ps (HPl.out _ hS) (by show (0 + pn) * 16 ≤ _; omega) (by show 0 + pn ≤ _; omega) AG.out.sz
            have A2 : Acc ePl WS y9 v9 ([] ++ ps) := ⟨o9, below_grown AG.out.lo AG.out.sz gr9 (fun j hj => (own_lt AG.out.o j hj).1)⟩
            rw [List.nil_append] at A2
            obtain ⟨a9, c9, hv9⟩ := A2.shape
            rw [← hpn.out] at hv9
            subst hv9
            replace AC := hid (keep_acc gr9 AG.out AC.out (by decide))
            replace KZ := hid (keep_blk gr9 AG.out.o KZ.out (by decide))
            clear o9 gr9 q9 AG
            have AG := hid A2
            clear A2
            replace r9 := hid r9
            refine wp_append_run (.tmp 24) (.tmp 26) 25 25 rfl (.slice (some ⟨g6, 0, none⟩) 0 0) (.slice pa pn pc) (.slice a9 pn c9) (by go_simp) (by go_simp) r9.out ?_
            go_simp
            refine hK.out _ _ AG.out.lo (fun hS => ?_)
            clear hK K
            refine wpAnyH_ready (rs := [13]) (by kernel_rfl) (by simp) ?_
            refine AllReadyH.cons rfl (fun K hK => ?_) ?_
            · obtain ⟨v13, y13, r13, o13, gr13, q13⟩ := El.app eAd y9 WS.heap.size _ _ AC.out.o _ _ _ co (HCl.out _ hS) (by show (0 + cn) * 72 ≤ _; omega) (by show 0 + cn ≤ _; omega) AC.out.sz
              have A2 : Acc eAd WS y13 v13 ([] ++ co) := ⟨o13, below_grown AC.out.lo AC.out.sz gr13 (fun j hj => (own_lt AC.out.o j hj).1)⟩
              rw [List.nil_append] at A2
              obtain ⟨a13, c13, hv13⟩ := A2.shape
              rw [← hcn.out] at hv13
              subst hv13
              replace AG := hid (keep_acc gr13 AC.out AG.out (by decide))
              replace KZ := hid (keep_blk gr13 AC.out.o KZ.out (by decide))
              clear o13 gr13 q13 AC
              have AC := hid A2
              clear A2
              replace r13 := hid r13
              refine wp_append_run (.tmp 28) (.tmp 30) 26 26 rfl (.slice (some ⟨g10, 0, none⟩) 0 0) (.slice ca cn cc) (.slice a13 cn c13) (by go_simp) (by go_simp) r13.out ?_
              go_simp
              refine hK.out _ _ AC.out.lo (fun hS => ?_)
              clear hK K
              refine wpAnyH_take (i := 14) (v := ?v22) rfl (by kernel_rfl) (by kernel_rfl) (by kernel_rfl) (fun _ _ _ h => h) (Or.inl ⟨by rfl, ?h22⟩) hS ?_
              case h22 => (intro W hW; go_simp; try (with_reducible rfl))
              go_simp
              refine wpAnyH_ready (rs := [16]) (by kernel_rfl) (by simp) ?_
              refine AllReadyH.cons rfl (fun K hK => ?_) ?_
              · have q0 := cell_of KZ.out 0 _ rfl
                have f0 := fz_of KZ.out 0
                have q1 := cell_of KZ.out 1 _ rfl
                have f1 := fz_of KZ.out 1
                have q2 := cell_of KZ.out 2 _ rfl
                have f2 := fz_of KZ.out 2
                have q3 := cell_of KZ.out 3 _ rfl
                have f3 := fz_of KZ.out 3
                have q4 := cell_of KZ.out 4 _ rfl
                have f4 := fz_of KZ.out 4
                have KF := hid (five_put KZ.out (.int .i64 lg) (.int .i64 nx) (.int .u64 sq) (.slice a9 pn c9) (.slice a13 cn c13))
                have BF := hid (five_low hS hgz.out (.int .i64 lg) (.int .i64 nx) (.int .u64 sq) (.slice a9 pn c9) (.slice a13 cn c13))
                have OG := hid (own_blocks AG.out.o (fun j hj => five_ne y13 g15 j (.int .i64 lg) (.int .i64 nx) (.int .u64 sq) (.slice a9 pn c9) (.slice a13 cn c13) (own_ne AG.out.o KZ.out (by decide) j hj)))
                have OC := hid (own_blocks AC.out.o (fun j hj => five_ne y13 g15 j (.int .i64 lg) (.int .i64 nx) (.int .u64 sq) (.slice a9 pn c9) (.slice a13 cn c13) (own_ne AC.out.o KZ.out (by decide) j hj)))
                unfold five5 at KF BF OG OC
                go_simp
                refine hK.out _ _ BF.out (fun hS => ?_)
                clear hK K
                refine wpAnyH_done (by kernel_rfl) ?_ _
                go_wp2_with fail
                go_meet
                case rel => exact ⟨g15, a9, c9, a13, c13, rfl, KF, OG, OC, BF⟩
              exact AllReadyH.nil
            exact AllReadyH.nil
          exact AllReadyH.nil
        exact AllReadyH.nil
      exact AllReadyH.nil
    refine AllReadyH.cons rfl (fun K hK => ?_) ?_
    · go_simp
      have KZ := hid (new_at D (.cells #[.int .i64 0, .int .i64 0, .int .u64 0, .slice none 0 0, .slice none 0 0] 28))
      have hgz := hid hS.size
      have bb := box_below D (.cells #[.int .i64 0, .int .i64 0, .int .u64 0, .slice none 0 0, .slice none 0 0] 28)
      have hS' := hid (Below.up hS bb)
      clear bb
      refine hK.out _ _ hS'.out (fun hS => ?_)
      clear hK K hS'
      generalize D.alloc (.cells #[.int .i64 0, .int .i64 0, .int .u64 0, .slice none 0 0, .slice none 0 0] 28) = y15 at *
      generalize D.heap.size = g15 at *
      refine wpAnyH_ready (rs := [6, 10]) (by kernel_rfl) (by simp) ?_
      refine AllReadyH.cons rfl (fun K hK => ?_) ?_
      · go_simp
        have AG0 := made3 ePl hS
        have bb := box_below y15 (.cells #[] 41)
        have hS' := hid (Below.up hS bb)
        replace KZ := hid ((bb.block _ (blk_lt KZ.out)).trans KZ.out)
        clear bb
        refine hK.out _ _ hS'.out (fun hS => ?_)
        clear hK K hS'
        change Acc ePl WS (y15.alloc (.cells #[] 41)) _ _ at AG0
        replace AG0 := hid AG0
        generalize y15.alloc (.cells #[] 41) = y6 at *
        generalize y15.heap.size = g6 at *
        have AG := AG0
        clear AG0
        refine wpAnyH_ready (rs := [9, 10]) (by kernel_rfl) (by simp) ?_
        refine AllReadyH.cons rfl (fun K hK => ?_) ?_
        · obtain ⟨v9, y9, r9, o9, gr9, q9⟩ := El.app ePl y6 WS.heap.size _ _ AG.out.o _ _ _ ps (HPl.out _ hS) (by show (0 + pn) * 16 ≤ _; omega) (by show 0 + pn ≤ _; omega) AG.out.sz
          have A2 : Acc ePl WS y9 v9 ([] ++ ps) := ⟨o9, below_grown AG.out.lo AG.out.sz gr9 (fun j hj => (own_lt AG.out.o j hj).1)⟩
          rw [List.nil_append] at A2
          obtain ⟨a9, c9, hv9⟩ := A2.shape
          rw [← hpn.out] at hv9
          subst hv9
          replace KZ := hid (keep_blk gr9 AG.out.o KZ.out (by decide))
          clear o9 gr9 q9 AG
          have AG := hid A2
          clear A2
          replace r9 := hid r9
          refine wp_append_run (.tmp 24) (.tmp 26) 25 25 rfl (.slice (some ⟨g6, 0, none⟩) 0 0) (.slice pa pn pc) (.slice a9 pn c9) (by go_simp) (by go_simp) r9.out ?_
          go_simp
          refine hK.out _ _ AG.out.lo (fun hS => ?_)
          clear hK K
          refine wpAnyH_ready (rs := [10]) (by kernel_rfl) (by simp) ?_
          refine AllReadyH.cons rfl (fun K hK => ?_) ?_
          · go_simp
            have AC0 := made3 eAd hS
            have bb := box_below y9 (.cells #[] 45)
            have hS' := hid (Below.up hS bb)
            replace AG := hid (AG.out.later bb)
            replace KZ := hid ((bb.block _ (blk_lt KZ.out)).trans KZ.out)
            clear bb
            refine hK.out _ _ hS'.out (fun hS => ?_)
            clear hK K hS'
            change Acc eAd WS (y9.alloc (.cells #[] 45)) _ _ at AC0
            replace AC0 := hid AC0
            generalize y9.alloc (.cells #[] 45) = y10 at *
            generalize y9.heap.size = g10 at *
            have AC := AC0
            clear AC0
            refine wpAnyH_ready (rs := [13]) (by kernel_rfl) (by simp) ?_
            refine AllReadyH.cons rfl (fun K hK => ?_) ?_
            · obtain ⟨v13, y13, r13, o13, gr13, q13⟩ := El.app eAd y10 WS.heap.size _ _ AC.out.o _ _ _ co (HCl.out _ hS) (by show (0 + cn) * 72 ≤ _; omega) (by show 0 + cn ≤ _; omega) AC.out.sz
              have A2 : Acc eAd WS y13 v13 ([] ++ co) := ⟨o13, below_grown AC.out.lo AC.out.sz gr13 (fun j hj => (own_lt AC.out.o j hj).1)⟩
              rw [List.nil_append] at A2
              obtain ⟨a13, c13, hv13⟩ := A2.shape
              rw [← hcn.out] at hv13
              subst hv13
              replace AG := hid (keep_acc gr13 AC.out AG.out (by decide))
              replace KZ := hid (keep_blk gr13 AC.out.o KZ.out (by decide))
              clear o13 gr13 q13 AC
              have AC := hid A2
              clear A2
              replace r13 := hid r13
              refine wp_append_run (.tmp 28) (.tmp 30) 26 26 rfl (.slice (some ⟨g10, 0, none⟩) 0 0) (.slice ca cn cc) (.slice a13 cn c13) (by go_simp) (by go_simp) r13.out ?_
              go_simp
              refine hK.out _ _ AC.out.lo (fun hS => ?_)
              clear hK K
              refine wpAnyH_take (i := 14) (v := ?v23) rfl (by kernel_rfl) (by kernel_rfl) (by kernel_rfl) (fun _ _ _ h => h) (Or.inl ⟨by rfl, ?h23⟩) hS ?_
              case h23 => (intro W hW; go_simp; try (with_reducible rfl))
              go_simp
              refine wpAnyH_ready (rs := [16]) (by kernel_rfl) (by simp) ?_
              refine AllReadyH.cons rfl (fun K hK => ?_) ?_
              · have q0 := cell_of KZ.out 0 _ rfl
                have f0 := fz_of KZ.out 0
                have q1 := cell_of KZ.out 1 _ rfl
                have f1 := fz_of KZ.out 1
                have q2 := cell_of KZ.out 2 _ rfl
                have f2 := fz_of KZ.out 2
                have q3 := cell_of KZ.out 3 _ rfl
                have f3 := fz_of KZ.out 3
                have q4 := cell_of KZ.out 4 _ rfl
                have f4 := fz_of KZ.out 4
                have KF := hid (five_put KZ.out (.int .i64 lg) (.int .i64 nx) (.int .u64 sq) (.slice a9 pn c9) (.slice a13 cn c13))
                have BF := hid (five_low hS hgz.out (.int .i64 lg) (.int .i64 nx) (.int .u64 sq) (.slice a9 pn c9) (.slice a13 cn c13))
                have OG := hid (own_blocks AG.out.o (fun j hj => five_ne y13 g15 j (.int .i64 lg) (.int .i64 nx) (.int .u64 sq) (.slice a9 pn c9) (.slice a13 cn c13) (own_ne AG.out.o KZ.out (by decide) j hj)))
                have OC := hid (own_blocks AC.out.o (fun j hj => five_ne y13 g15 j (.int .i64 lg) (.int .i64 nx) (.int .u64 sq) (.slice a9 pn c9) (.slice a13 cn c13) (own_ne AC.out.o KZ.out (by decide) j hj)))
                unfold five5 at KF BF OG OC
                go_simp
                refine hK.out _ _ BF.out (fun hS => ?_)
                clear hK K
                refine wpAnyH_done (by kernel_rfl) ?_ _
                go_wp2_with fail
                go_meet
                case rel => exact ⟨g15, a9, c9, a13, c13, rfl, KF, OG, OC, BF⟩
              exact AllReadyH.nil
            exact AllReadyH.nil
          exact AllReadyH.nil
        refine AllReadyH.cons rfl (fun K hK => ?_) ?_
        · go_simp
          have AC0 := made3 eAd hS
          have bb := box_below y6 (.cells #[] 45)
          have hS' := hid (Below.up hS bb)
          replace AG := hid (AG.out.later bb)
          replace KZ := hid ((bb.block _ (blk_lt KZ.out)).trans KZ.out)
          clear bb
          refine hK.out _ _ hS'.out (fun hS => ?_)
          clear hK K hS'
          change Acc eAd WS (y6.alloc (.cells #[] 45)) _ _ at AC0
          replace AC0 := hid AC0
          generalize y6.alloc (.cells #[] 45) = y10 at *
          generalize y6.heap.size = g10 at *
          have AC := AC0
          clear AC0
          refine wpAnyH_ready (rs := [9]) (by kernel_rfl) (by simp) ?_
          refine AllReadyH.cons rfl (fun K hK => ?_) ?_
          · obtain ⟨v9, y9, r9, o9, gr9, q9⟩ := El.app ePl y10 WS.heap.size _ _ AG.out.o _ _ _ ps (HPl.out _ hS) (by show (0 + pn) * 16 ≤ _; omega) (by show 0 + pn ≤ _; omega) AG.out.sz
            have A2 : Acc ePl WS y9 v9 ([] ++ ps) := ⟨o9, below_grown AG.out.lo AG.out.sz gr9 (fun j hj => (own_lt AG.out.o j hj).1)⟩
            rw [List.nil_append] at A2
            obtain ⟨a9, c9, hv9⟩ := A2.shape
            rw [← hpn.out] at hv9
            subst hv9
            replace AC := hid (keep_acc gr9 AG.out AC.out (by decide))
            replace KZ := hid (keep_blk gr9 AG.out.o KZ.out (by decide))
            clear o9 gr9 q9 AG
            have AG := hid A2
            clear A2
            replace r9 := hid r9
            refine wp_append_run (.tmp 24) (.tmp 26) 25 25 rfl (.slice (some ⟨g6, 0, none⟩) 0 0) (.slice pa pn pc) (.slice a9 pn c9) (by go_simp) (by go_simp) r9.out ?_
            go_simp
            refine hK.out _ _ AG.out.lo (fun hS => ?_)
            clear hK K
            refine wpAnyH_ready (rs := [13]) (by kernel_rfl) (by simp) ?_
            refine AllReadyH.cons rfl (fun K hK => ?_) ?_
            · obtain ⟨v13, y13, r13, o13, gr13, q13⟩ := El.app eAd y9 WS.heap.size _ _ AC.out.o _ _ _ co (HCl.out _ hS) (by show (0 + cn) * 72 ≤ _; omega) (by show 0 + cn ≤ _; omega) AC.out.sz
              have A2 : Acc eAd WS y13 v13 ([] ++ co) := ⟨o13, below_grown AC.out.lo AC.out.sz gr13 (fun j hj => (own_lt AC.out.o j hj).1)⟩
              rw [List.nil_append] at A2
              obtain ⟨a13, c13, hv13⟩ := A2.shape
              rw [← hcn.out] at hv13
              subst hv13
              replace AG := hid (keep_acc gr13 AC.out AG.out (by decide))
              replace KZ := hid (keep_blk gr13 AC.out.o KZ.out (by decide))
              clear o13 gr13 q13 AC
              have AC := hid A2
              clear A2
              replace r13 := hid r13
              refine wp_append_run (.tmp 28) (.tmp 30) 26 26 rfl (.slice (some ⟨g10, 0, none⟩) 0 0) (.slice ca cn cc) (.slice a13 cn c13) (by go_simp) (by go_simp) r13.out ?_
              go_simp
              refine hK.out _ _ AC.out.lo (fun hS => ?_)
              clear hK K
              refine wpAnyH_take (i := 14) (v := ?v24) rfl (by kernel_rfl) (by kernel_rfl) (by kernel_rfl) (fun _ _ _ h => h) (Or.inl ⟨by rfl, ?h24⟩) hS ?_
              case h24 => (intro W hW; go_simp; try (with_reducible rfl))
              go_simp
              refine wpAnyH_ready (rs := [16]) (by kernel_rfl) (by simp) ?_
              refine AllReadyH.cons rfl (fun K hK => ?_) ?_
              · have q0 := cell_of KZ.out 0 _ rfl
                have f0 := fz_of KZ.out 0
                have q1 := cell_of KZ.out 1 _ rfl
                have f1 := fz_of KZ.out 1
                have q2 := cell_of KZ.out 2 _ rfl
                have f2 := fz_of KZ.out 2
                have q3 := cell_of KZ.out 3 _ rfl
                have f3 := fz_of KZ.out 3
                have q4 := cell_of KZ.out 4 _ rfl
                have f4 := fz_of KZ.out 4
                have KF := hid (five_put KZ.out (.int .i64 lg) (.int .i64 nx) (.int .u64 sq) (.slice a9 pn c9) (.slice a13 cn c13))
                have BF := hid (five_low hS hgz.out (.int .i64 lg) (.int .i64 nx) (.int .u64 sq) (.slice a9 pn c9) (.slice a13 cn c13))
                have OG := hid (own_blocks AG.out.o (fun j hj => five_ne y13 g15 j (.int .i64 lg) (.int .i64 nx) (.int .u64 sq) (.slice a9 pn c9) (.slice a13 cn c13) (own_ne AG.out.o KZ.out (by decide) j hj)))
                have OC := hid (own_blocks AC.out.o (fun j hj => five_ne y13 g15 j (.int .i64 lg) (.int .i64 nx) (.int .u64 sq) (.slice a9 pn c9) (.slice a13 cn c13) (own_ne AC.out.o KZ.out (by decide) j hj)))
                unfold five5 at KF BF OG OC
                go_simp
                refine hK.out _ _ BF.out (fun hS => ?_)
                clear hK K
                refine wpAnyH_done (by kernel_rfl) ?_ _
                go_wp2_with fail
                go_meet
                case rel => exact ⟨g15, a9, c9, a13, c13, rfl, KF, OG, OC, BF⟩
              exact AllReadyH.nil
            exact AllReadyH.nil
          exact AllReadyH.nil
        exact AllReadyH.nil
      refine AllReadyH.cons rfl (fun K hK => ?_) ?_
      · go_simp
        have AC0 := made3 eAd hS
        have bb := box_below y15 (.cells #[] 45)
        have hS' := hid (Below.up hS bb)
        replace KZ := hid ((bb.block _ (blk_lt KZ.out)).trans KZ.out)
        clear bb
        refine hK.out _ _ hS'.out (fun hS => ?_)
        clear hK K hS'
        change Acc eAd WS (y15.alloc (.cells #[] 45)) _ _ at AC0
        replace AC0 := hid AC0
        generalize y15.alloc (.cells #[] 45) = y10 at *
        generalize y15.heap.size = g10 at *
        have AC := AC0
        clear AC0
        refine wpAnyH_ready (rs := [6]) (by kernel_rfl) (by simp) ?_
        refine AllReadyH.cons rfl (fun K hK => ?_) ?_
        · go_simp
          have AG0 := made3 ePl hS
          have bb := box_below y10 (.cells #[] 41)
          have hS' := hid (Below.up hS bb)
          replace AC := hid (AC.out.later bb)
          replace KZ := hid ((bb.block _ (blk_lt KZ.out)).trans KZ.out)
          clear bb
          refine hK.out _ _ hS'.out (fun hS => ?_)
          clear hK K hS'
          change Acc ePl WS (y10.alloc (.cells #[] 41)) _ _ at AG0
          replace AG0 := hid AG0
          generalize y10.alloc (.cells #[] 41) = y6 at *
          generalize y10.heap.size = g6 at *
          have AG := AG0
          clear AG0
          refine wpAnyH_ready (rs := [9]) (by kernel_rfl) (by simp) ?_
          refine AllReadyH.cons rfl (fun K hK => ?_) ?_
          · obtain ⟨v9, y9, r9, o9, gr9, q9⟩ := El.app ePl y6 WS.heap.size _ _ AG.out.o _ _ _ ps (HPl.out _ hS) (by show (0 + pn) * 16 ≤ _; omega) (by show 0 + pn ≤ _; omega) AG.out.sz
            have A2 : Acc ePl WS y9 v9 ([] ++ ps) := ⟨o9, below_grown AG.out.lo AG.out.sz gr9 (fun j hj => (own_lt AG.out.o j hj).1)⟩
            rw [List.nil_append] at A2
            obtain ⟨a9, c9, hv9⟩ := A2.shape
            rw [← hpn.out] at hv9
            subst hv9
            replace AC := hid (keep_acc gr9 AG.out AC.out (by decide))
            replace KZ := hid (keep_blk gr9 AG.out.o KZ.out (by decide))
            clear o9 gr9 q9 AG
            have AG := hid A2
            clear A2
            replace r9 := hid r9
            refine wp_append_run (.tmp 24) (.tmp 26) 25 25 rfl (.slice (some ⟨g6, 0, none⟩) 0 0) (.slice pa pn pc) (.slice a9 pn c9) (by go_simp) (by go_simp) r9.out ?_
            go_simp
            refine hK.out _ _ AG.out.lo (fun hS => ?_)
            clear hK K
            refine wpAnyH_ready (rs := [13]) (by kernel_rfl) (by simp) ?_
            refine AllReadyH.cons rfl (fun K hK => ?_) ?_
            · obtain ⟨v13, y13, r13, o13, gr13, q13⟩ := El.app eAd y9 WS.heap.size _ _ AC.out.o _ _ _ co (HCl.out _ hS) (by show (0 + cn) * 72 ≤ _; omega) (by show 0 + cn ≤ _; omega) AC.out.sz
              have A2 : Acc eAd WS y13 v13 ([] ++ co) := ⟨o13, below_grown AC.out.lo AC.out.sz gr13 (fun j hj => (own_lt AC.out.o j hj).1)⟩
              rw [List.nil_append] at A2
              obtain ⟨a13, c13, hv13⟩ := A2.shape
              rw [← hcn.out] at hv13
              subst hv13
              replace AG := hid (keep_acc gr13 AC.out AG.out (by decide))
              replace KZ := hid (keep_blk gr13 AC.out.o KZ.out (by decide))
              clear o13 gr13 q13 AC
              have AC := hid A2
              clear A2
              replace r13 := hid r13
              refine wp_append_run (.tmp 28) (.tmp 30) 26 26 rfl (.slice (some ⟨g10, 0, none⟩) 0 0) (.slice ca cn cc) (.slice a13 cn c13) (by go_simp) (by go_simp) r13.out ?_
              go_simp
              refine hK.out _ _ AC.out.lo (fun hS => ?_)
              clear hK K
              refine wpAnyH_take (i := 14) (v := ?v25) rfl (by kernel_rfl) (by kernel_rfl) (by kernel_rfl) (fun _ _ _ h => h) (Or.inl ⟨by rfl, ?h25⟩) hS ?_
              case h25 => (intro W hW; go_simp; try (with_reducible rfl))
              go_simp
              refine wpAnyH_ready (rs := [16]) (by kernel_rfl) (by simp) ?_
              refine AllReadyH.cons rfl (fun K hK => ?_) ?_
              · have q0 := cell_of KZ.out 0 _ rfl
                have f0 := fz_of KZ.out 0
                have q1 := cell_of KZ.out 1 _ rfl
                have f1 := fz_of KZ.out 1
                have q2 := cell_of KZ.out 2 _ rfl
                have f2 := fz_of KZ.out 2
                have q3 := cell_of KZ.out 3 _ rfl
                have f3 := fz_of KZ.out 3
                have q4 := cell_of KZ.out 4 _ rfl
                have f4 := fz_of KZ.out 4
                have KF := hid (five_put KZ.out (.int .i64 lg) (.int .i64 nx) (.int .u64 sq) (.slice a9 pn c9) (.slice a13 cn c13))
                have BF := hid (five_low hS hgz.out (.int .i64 lg) (.int .i64 nx) (.int .u64 sq) (.slice a9 pn c9) (.slice a13 cn c13))
                have OG := hid (own_blocks AG.out.o (fun j hj => five_ne y13 g15 j (.int .i64 lg) (.int .i64 nx) (.int .u64 sq) (.slice a9 pn c9) (.slice a13 cn c13) (own_ne AG.out.o KZ.out (by decide) j hj)))
                have OC := hid (own_blocks AC.out.o (fun j hj => five_ne y13 g15 j (.int .i64 lg) (.int .i64 nx) (.int .u64 sq) (.slice a9 pn c9) (.slice a13 cn c13) (own_ne AC.out.o KZ.out (by decide) j hj)))
                unfold five5 at KF BF OG OC
                go_simp
                refine hK.out _ _ BF.out (fun hS => ?_)
                clear hK K
                refine wpAnyH_done (by kernel_rfl) ?_ _
                go_wp2_with fail
                go_meet
                case rel => exact ⟨g15, a9, c9, a13, c13, rfl, KF, OG, OC, BF⟩
              exact AllReadyH.nil
            exact AllReadyH.nil
          exact AllReadyH.nil
        exact AllReadyH.nil
      exact AllReadyH.nil
    exact AllReadyH.nil
  case rest =>
    obtain ⟨g6, a1, c1', a2, c2', rfl, K6, OG, OC, B6⟩ := hcut
    obtain ⟨w6, hw6⟩ : ∃ W, W = wc := ⟨_, rfl⟩
    rw [← hw6] at K6 OG OC B6 ⊢
    clear hw6 wc
    have EX : EV w6 (.agg #[.int .i64 lg, .int .i64 nx, .int .u64 sq, .slice a1 pn c1', .slice a2 cn c2']) ⟨lg, nx, sq, ps, co⟩ := by
      have h1 := OG.out
      have h2 := OC.out
      refine EO.ev (base := WS.heap.size) ⟨hok.out, hpok.out, hcok.out, a1, c1', a2, c2', ?_, ?_, ?_⟩
      · show _ = ev _ _ _ _ _
        unfold ev
        show _ = Value.agg #[.int .i64 lg, .int .i64 nx, .int .u64 sq, .slice a1 ps.length c1', .slice a2 co.length c2']
        rw [← hpn.out, ← hcn.out]
      · show ePl.Own _ _ (.slice a1 ps.length c1') ps
        rw [← hpn.out]; exact h1
      · show eAd.Own _ _ (.slice a2 co.length c2') co
        rw [← hcn.out]; exact h2
    have S1 : ePl.Sl w6 a1 pn c1' ps := by
      obtain ⟨x, y, e2, s, _⟩ := OG.out.sl hpok.out
      injection e2 with e3 _ e5
      subst e3 e5
      rw [hpn.out]; exact s
    have S2 : eAd.Sl w6 a2 cn c2' co := by
      obtain ⟨x, y, e2, s, _⟩ := OC.out.sl hcok.out
      injection e2 with e3 _ e5
      subst e3 e5
      rw [hcn.out]; exact s
    have hc1 := S1.c
    have hc2 := S2.c
    replace EX := hid EX
    replace S1 := hid S1
    replace S2 := hid S2
    have bw6 := hid (Below.up bx.out (Below.up b3.out B6.out))
    have L6 := hid (L3.out.later B6.out)
    have hk6 := hid (hk.out _ (Below.up b3.out B6.out))
    have HK6 : Hid (∀ W, Below w6.heap.size w6 W → W.heap[g6]? = some (.cells #[.int .i64 lg, .int .i64 nx, .int .u64 sq, .slice a1 pn c1', .slice a2 cn c2'] 28) ∧ W.heap[gx]? = some (.cells #[.int .i64 lg, .int .i64 nx, .int .u64 sq, .slice pa pn pc, .slice ca cn cc] 28)) := fun W b => ⟨(b.block _ (blk_lt K6.out)).trans K6.out, (b.block _ (blk_lt hk6.out)).trans hk6.out⟩
    clear K6 OG OC HPl HCl L3
    go_wp2_with (first
      | (go_at_call 11; refine (c1.out _ _ _ L6.out).mono ?_; rintro e w7 ⟨rfl, b7⟩; replace b7 := hid b7)
      | (go_at_call 12; refine (c2.out _ (Below.up bw6.out b7.out)).mono ?_; rintro e w8 ⟨rfl, b8⟩; replace b8 := hid (Below.up b7.out b8); have k8 := (HK6.out _ b8.out).1; have k8' := (HK6.out _ b8.out).2; have x0 := cell_of k8 0 _ rfl; have x1 := cell_of k8 1 _ rfl; have x2 := cell_of k8 2 _ rfl; have x3 := cell_of k8 3 _ rfl; have x4 := cell_of k8 4 _ rfl; clear k8 k8')
      | (go_at_call 13; refine (c3.out _ _ _ _ (L6.out.later b8.out) (EX.out.later b8.out)).mono ?_; rintro e w9 ⟨g9, xs9, rfl, O9, e9⟩; replace O9 := hid O9; replace e9 := hid e9; have k9 := (HK6.out _ (Below.up b8.out O9.out.lo)).2; have y0 := cell_of k9 0 _ rfl; have y1 := cell_of k9 1 _ rfl; have y2 := cell_of k9 2 _ rfl; have y3 := cell_of k9 3 _ rfl; have y4 := cell_of k9 4 _ rfl; clear k9 x0 x1 x2 x3 x4)
      | (go_at_call 14; refine (c4.out _ (Below.up bw6.out (Below.up b8.out O9.out.lo))).mono ?_; rintro e w10 ⟨g10, xs10, rfl, O10, e10⟩; replace O10 := hid O10; replace e10 := hid e10; clear y0 y1 y2 y3 y4; have hxl9 : Hid (xs9.length = len) := (by show _ = _; rw [← hAl2.out, ← e9.out, List.length_map]); have hxl10 : Hid (xs10.length = len) := (by show _ = _; rw [← hAl2.out, ← e10.out, List.length_map]))
      | (go_at_call 15; refine (c6.out _ _ _ (by have h := (O9.out.later O10.out.lo).lvs; rwa [hxl9.out, e9.out] at h) (by have h := O10.out.lvs; rwa [hxl10.out, e10.out] at h)).mono ?_; rintro e w11 ⟨rfl, b11⟩; replace b11 := hid b11))
    have O11 := hid ((O9.out.later O10.out.lo).later b11.out)
    have hKb : Hid (w11.heap[g9]? = some (.cells (xs9.map hd).toArray 39)) := O11.out.blk
    have hrows : Hid (∀ k, k < len → (xs9.getD k zl).n = (xs9.getD k zl).fs.length ∧ eFi.Own w11 w8.heap.size (hd (xs9.getD k zl)) (xs9.getD k zl).fs ∧ (xs9.getD k zl).n ≤ 1048576) := by
      intro k hk
      have h := O11.out.r k (by rw [hxl9.out]; exact hk)
      refine ⟨h.1, h.2.1, ?_⟩
      rw [h.1]
      have h2 := hA8.out k hk
      have e1 : (xs9.map Lf.fs).getD k [] = (xs9.getD k zl).fs := by
        rw [List.getD_eq_getElem?_getD, List.getD_eq_getElem?_getD, List.getElem?_map, List.getElem?_eq_getElem (by rw [hxl9.out]; exact hk)]; rfl
      rw [← e9.out, e1] at h2
      exact h2
    have hlo11 : Hid (Below w8.heap.size w8 w11) := O11.out.lo
    have hgl : Hid (w8.heap.size ≤ g9) := O11.out.hg
    have hdis := hid O11.out.dis
    go_loopw [11] (fun ii wr => ∃ i : Nat, ii = .int .i64 i ∧ i ≤ len ∧ Hid (∀ k, i ≤ k → k < len → eFi.Own wr w8.heap.size (hd (xs9.getD k zl)) (xs9.getD k zl).fs) ∧ Hid (wr.heap[g9]? = some (.cells (xs9.map hd).toArray 39)) ∧ Hid (Below w8.heap.size w8 wr)) (fun ii _ => len - (intOf ii).toNat)
    case atStart => exact ⟨0, rfl, by omega, fun k _ hk => (hrows.out k hk).2.1, hKb, hlo11⟩
    case round =>
      obtain ⟨i, rfl, hi, hO, hB, hL⟩ := hrel
      by_cases hlt : i < len
      · have hil : i < xs9.length := by rw [hxl9.out]; exact hlt
        have hc9 := cell_of hB.out i _ (map_get hil)
        obtain ⟨hrn, _, hr8⟩ := hrows.out i hlt
        have hoi := hO.out i (Nat.le_refl _) hlt
        have hhd : hd (xs9.getD i zl) = .slice (xs9.getD i zl).a (xs9.getD i zl).n (xs9.getD i zl).c := rfl
        rw [hhd] at hc9 hoi
        obtain ⟨hcap9, hpad9⟩ := pad_of hoi hrn
        have cw := hid (wiped_fp _ _ _ wr (fun j => (hd (xs9.getD i zl)).ownBlock = some j) hr8 hcap9 hpad9)
        have hst : Hid (∀ w12, Fp (fun j => (hd (xs9.getD i zl)).ownBlock = some j) wr w12 → (∀ k, i + 1 ≤ k → k < len → eFi.Own w12 w8.heap.size (hd (xs9.getD k zl)) (xs9.getD k zl).fs) ∧ w12.heap[g9]? = some (.cells (xs9.map hd).toArray 39) ∧ Below w8.heap.size w8 w12) := by
          intro w12 F
          refine ⟨fun k hk hkl => ?_, ?_, ?_⟩
          · have hy := hO.out k (by omega) hkl
            refine own_blocks hy (fun j hj => F.block j (own_lt hy j hj).2 (fun e => ?_))
            exact hdis.out i k j hil (by rw [hxl9.out]; exact hkl) (by omega) e hj
          · refine (F.block g9 (blk_lt hB.out) (fun e => ?_)).trans hB.out
            have hoi' := hO.out i (Nat.le_refl _) hlt
            exact own_ne hoi' hB.out (by decide) g9 e rfl
          · have hoi' := hO.out i (Nat.le_refl _) hlt
            exact Below.tr hL.out (F.base hL.out.size (fun j e => (own_lt hoi' j e).1)) (Nat.le_refl _)
        have ik0 : (i : Int) < (len : Int) := by omega
        have ok0 : (0 : Int) ≤ (i : Int) := by omega
        generalize (xs9.getD i zl).a = ra at *
        generalize (xs9.getD i zl).n = rn at *
        generalize (xs9.getD i zl).c = rc at *
        clear hO hB hL hoi hhd hpad9 hil hrn
        go_wp2_with (first | (go_at_call 16; refine cw.out.mono ?_; rintro e w12 ⟨rfl, F12⟩; obtain ⟨h1, h2, h3⟩ := hst.out w12 F12; replace h1 := hid h1; replace h2 := hid h2; replace h3 := hid h3; clear F12))
        go_roundw
        case rel => exact ⟨i + 1, by go_num, by omega, h1, h2, h3⟩
        case measure => simp [intOf]; omega
      · have hie : i = len := by omega
        subst hie
        obtain ⟨wt, hwt⟩ : ∃ x, x = wr := ⟨_, rfl⟩
        rw [← hwt] at hL
        have bt : Hid (Below w6.heap.size w6 wt) := Below.up b8.out hL.out
        rw [← hwt]
        clear hO hB hL hrows hdis hKb hlo11 O11 hwt
        have kt := HK6.out _ bt.out
        have St1 := hid (S1.out.later bt.out)
        have St2 := hid (S2.out.later bt.out)
        have Sp1 := hid (HP0.out _ (Below.up bw6.out bt.out))
        have Sp2 := hid (HC0.out _ (Below.up bw6.out bt.out))
        have HKt : Hid (∀ W, Below wt.heap.size wt W → W.heap[g6]? = some (.cells #[.int .i64 lg, .int .i64 nx, .int .u64 sq, .slice a1 pn c1', .slice a2 cn c2'] 28) ∧ W.heap[gx]? = some (.cells #[.int .i64 lg, .int .i64 nx, .int .u64 sq, .slice pa pn pc, .slice ca cn cc] 28)) := fun W b => HK6.out _ (Below.up bt.out b)
        clear kt
        go_wp2_with fail
        go_loopw [12] (fun jj wr => ∃ j : Nat, jj = .int .i64 j ∧ j ≤ pn ∧ Hid (Below wt.heap.size wt wr)) (fun jj _ => pn - (intOf jj).toNat)
        case atStart => exact ⟨0, rfl, by omega, Below.refl _ _⟩
        case round =>
          obtain ⟨j, rfl, hj, bj⟩ := hrel
          obtain ⟨k6, kx⟩ := HKt.out _ bj.out
          have f3 := cell_of kx 3 _ rfl
          have f4 := cell_of kx 4 _ rfl
          have g3 := cell_of k6 3 _ rfl
          clear k6 kx
          by_cases hjl : j < pn
          · obtain ⟨pb, pf, rfl, hat⟩ := get1 (Sp1.out.later bj.out) j hjl
            obtain ⟨qb, qf, rfl, haq⟩ := get1 (St1.out.later bj.out) j hjl
            have e1 := pl_at (hat j hjl)
            have e2 := pl_at (haq j hjl)
            rw [show ePl.z = zp from rfl, show ePl.k = 2 from rfl] at e1 e2
            clear hat haq
            generalize ps.getD j zp = p at *
            have rp := run_pneq p
            obtain ⟨pl, pnn⟩ := p
            dsimp only at e1 e2 rp
            obtain ⟨e3, e4⟩ := e1
            obtain ⟨e5, e6⟩ := e2
            have jk0 : (j : Int) < (pn : Int) := by omega
            have jo0 : (0 : Int) ≤ (j : Int) := by omega
            go_wp2_with fail
            go_quiet (fail)
            go_wp2_with fail
            go_roundw
            case rel => exact ⟨j + 1, by go_num, by omega, hid (Below.up bj.out (drewN_below _ _))⟩
            case measure => simp [intOf]; omega
          · have hje : j = pn := by omega
            subst hje
            obtain ⟨wu, hwu⟩ : ∃ x, x = wr := ⟨_, rfl⟩
            rw [← hwu] at bj f3 f4
            rw [← hwu]
            clear hwu g3
            go_wp2_with fail
            clear f3 f4
            go_loopw [13] (fun jj wr => ∃ m : Nat, jj = .int .i64 m ∧ m ≤ cn ∧ Hid (Below wt.heap.size wt wr)) (fun jj _ => cn - (intOf jj).toNat)
            case atStart => exact ⟨0, rfl, by omega, bj⟩
            case round =>
              clear bj
              obtain ⟨m, rfl, hm, bj⟩ := hrel
              obtain ⟨k6, kx⟩ := HKt.out _ bj.out
              have f4 := cell_of kx 4 _ rfl
              have g4 := cell_of k6 4 _ rfl
              clear k6 kx
              by_cases hml : m < cn
              · obtain ⟨pb', pf', rfl, hat⟩ := get1 (Sp2.out.later bj.out) m hml
                obtain ⟨qb', qf', rfl, haq⟩ := get1 (St2.out.later bj.out) m hml
                have e1 := ad_at (hat m hml)
                have e2 := ad_at (haq m hml)
                rw [show eAd.z = za from rfl] at e1 e2
                simp only [show eAd.k = 7 from rfl] at e1 e2
                clear hat haq
                generalize co.getD m za = y at *
                have rp := run_aneq y
                obtain ⟨yl, yn, yz, yt, yu, ylo, yhi⟩ := y
                unfold adv at rp
                dsimp only at e1 e2 rp
                obtain ⟨p0, p1, p2, p3, p4, p5, p6⟩ := e1
                obtain ⟨q0, q1, q2, q3, q4, q5, q6⟩ := e2
                have mk0 : (m : Int) < (cn : Int) := by omega
                have mo0 : (0 : Int) ≤ (m : Int) := by omega
                go_wp2_with fail
                go_quiet (fail)
                go_wp2_with fail
                go_roundw
                case rel => exact ⟨m + 1, by go_num, by omega, hid (Below.up bj.out (drewN_below _ _))⟩
                case measure => simp [intOf]; omega
              · have hme : m = cn := by omega
                subst hme
                have bz := hid (Below.up bt.out bj.out)
                have c7 := hid (c5.out _ _ wr (Below.up bw6.out bz.out) (L6.out.later bz.out))
                go_wp2_with (first | (go_at_call 15; refine c7.out.mono ?_; rintro e w13 ⟨rfl, b13⟩; replace b13 := hid b13))
                go_ret
                exact ⟨rfl, Below.up (Below.up bw6.out bz.out) b13.out⟩
theorem applies_any (a : Option Addr) (len cap : Nat) (L : List (List Fi)) (v : Value) (e : Ed) (w : World) (H : Lvs w a len cap L) (HE : EV w v e) (hb : wL L + wE e ≤ 1048576) :
    Calls Try.prog 3 #[.slice a len cap, v] w fun en w' => en = .returned (.bool true) ∧ Below w.heap.size w w' := by
  cases hv : vld L with
  | false => exact bad_any a len cap L v e w H HE hb 2 (.inl ⟨hv, rfl⟩)
  | true =>
    cases hg : good L e.go e.co with
    | false => exact bad_any a len cap L v e w H HE hb 160 (.inr ⟨hv, hg, rfl⟩)
    | true => exact ok_any a len cap L v e w H HE hb hv hg
end Go.Proofs.Ytkpihibeohjfnaa.Lq

/- EditBack walked. -/
import Derived.Test.YtnpeocoipodmfaaPd
import Derived.Test.YtnpeocoipodmfaaSs
import Derived.Test.YtnpeocoipodmfaaLe
namespace Go.Proofs.Ytnpeocoipodmfaa.Bk
open Go.ChangeShapes Go.WideShapes Go.ChangeAt Go.RowKit
open Go.Proofs.Ytnpeocoipodmfaa.Gr
open Go.Proofs.Ytnpeocoipodmfaa.Ev
open Go.Proofs.Ytnpeocoipodmfaa.Ss
open Go.Proofs.Ytnpeocoipodmfaa.Le
open Go.Proofs.Ytnpeocoipodmfaa.Dp
open Go.Proofs.Ytnpeocoipodmfaa.De
open Go.Proofs.Ytnpeocoipodmfaa.Pd
open Go.Proofs.Ytnpeocoipodmfaa.En (encode_yes)
open Go.Proofs.Ytnpeocoipodmfaa.Eo (encode_no)
open Go.Proofs.Ytnpeocoipodmfaa.Va (vE valid_any)
open Go.Proofs.Ytnpeocoipodmfaa.Be (enc)
open Go.Proofs.Ytnpeocoipodmfaa.By (Row Bytes tx str tread)
set_option linter.unusedVariables false
set_option linter.unusedSimpArgs false

theorem EO_shape {w : World} {base : Nat} {v : Value} {e : Ed} (h : EO w base v e) : ∃ a c a' c', v = ev e a c a' c' := by
  obtain ⟨_, _, _, a, c, a', c', h, _⟩ := h
  exact ⟨a, c, a', c', h⟩
theorem enc_len {e : Ed} (hV : vE e = true) (hg : e.go.length ≤ 1048576) (hc : e.co.length ≤ 1048576) : (enc e).length ≤ 4294967296 := by
  obtain ⟨lg, nx, sq, ps, co⟩ := e
  obtain ⟨h1, h2, h3, h4, h5⟩ := En.vE_of hV
  have k1 := Be.sdL_len ⟨lg, nx, sq, ps, co⟩
  have k2 := Be.goL_len ps
  have k3 := Be.coL_len co (fun x hx => by have := En.fil_of (h5 x hx).2; exact ⟨this.2.1, this.2.2.1⟩)
  dsimp only at hg hc
  show (Be.sdL ⟨lg, nx, sq, ps, co⟩ ++ Be.goL ps ++ Be.coL co).length ≤ _
  rw [List.length_append, List.length_append]
  omega
theorem len_go : ∀ ps : List Pl, ps.length ≤ (Be.goL ps).length
  | [] => Nat.le_refl _
  | x :: r => by
    have := len_go r
    show r.length + 1 ≤ (Be.goB x ++ Be.goL r).length
    rw [List.length_append]
    have : 1 ≤ (Be.goB x).length := by simp [Be.goB]
    omega
theorem len_co : ∀ ps : List Ad, ps.length ≤ (Be.coL ps).length
  | [] => Nat.le_refl _
  | x :: r => by
    have := len_co r
    show r.length + 1 ≤ (Be.coB x ++ Be.coL r).length
    rw [List.length_append]
    have : 1 ≤ (Be.coB x).length := by simp [Be.coB]
    omega
theorem len_enc (e : Ed) : e.go.length ≤ (enc e).length ∧ e.co.length ≤ (enc e).length := by
  have h1 := len_go e.go
  have h2 := len_co e.co
  have h3 : (enc e).length = (Be.sdL e).length + (Be.goL e.go).length + (Be.coL e.co).length := by unfold enc; rw [List.length_append, List.length_append]
  omega
theorem conv_later {w w' : World} {a : Option Addr} {len cap : Nat} {zs : List Int} (H : Bytes w a len cap zs) (b : Below w.heap.size w w') : Bytes w' a len cap zs :=
  ⟨H.1, H.2.1, H.2.2.1, H.2.2.2.1, fun x hx i hi => (b.cell (block_lt_of_cell (H.2.2.2.2 x hx i hi))).trans (H.2.2.2.2 x hx i hi)⟩
set_option maxRecDepth 100000 in
set_option maxHeartbeats 8000000 in
theorem back_any (v : Value) (e : Ed) (a : Option Addr) (len cap : Nat) (zs : List Int) (w : World) (HE : EV w v e) (hgo : e.go.length ≤ 1048576) (hco : e.co.length ≤ 1048576) (HB : Bytes w a len cap zs) (hlen : len ≤ 1048576) :
    Calls Try.prog 6 #[v, .slice a len cap] w fun en w' => en = .returned (.bool true) ∧ Below w.heap.size w w' := by
  have HE0 := HE
  obtain ⟨hok, xa, xc, xb, xd, rfl, A1, A2⟩ := HE
  unfold ev at HE0 ⊢
  have hsq : Hid (bu e.sq) := hok.2.2.1
  obtain ⟨gx, hgx⟩ : ∃ g, g = w.heap.size := ⟨_, rfl⟩
  obtain ⟨W1, hW1⟩ : ∃ W, W = w.alloc (.cells #[.int .i64 e.log, .int .i64 e.nx, .int .u64 e.sq, .slice xa e.go.length xc, .slice xb e.co.length xd] 26) := ⟨_, rfl⟩
  have K1 : W1.heap[gx]? = some (.cells #[.int .i64 e.log, .int .i64 e.nx, .int .u64 e.sq, .slice xa e.go.length xc, .slice xb e.co.length xd] 26) := by rw [hW1, hgx]; exact new_at _ _
  have B1 : Below w.heap.size w W1 := by rw [hW1]; exact box_below _ _
  have HX : Hid (∀ W, Below W1.heap.size W1 W → EV W (.agg #[.int .i64 e.log, .int .i64 e.nx, .int .u64 e.sq, .slice xa e.go.length xc, .slice xb e.co.length xd]) e) := fun W b => (HE0.later B1).later b
  have HC : Hid (∀ W, Below W1.heap.size W1 W → W.heap[gx]? = some (.cells #[.int .i64 e.log, .int .i64 e.nx, .int .u64 e.sq, .slice xa e.go.length xc, .slice xb e.co.length xd] 26)) := fun W b => below_blk K1 b
  have HZ : Hid (∀ W, Below W1.heap.size W1 W → Bytes W a len cap zs) := fun W b => conv_later (conv_later HB B1) b
  have q0 := cell_of K1 0 _ rfl
  have q1 := cell_of K1 1 _ rfl
  have q2 := cell_of K1 2 _ rfl
  have q3 := cell_of K1 3 _ rfl
  have q4 := cell_of K1 4 _ rfl
  rw [hW1, hgx] at q0 q1 q2 q3 q4
  replace hW1 := hid hW1
  replace hgx := hid hgx
  replace B1 := hid B1
  clear K1 HE0 hok A1 A2 HB
  go_enter Try.func6, Try.ntmps6
  go_wp2_with fail
  rw [← hW1.out, ← hgx.out]
  by_cases hV : vE e = true
  · skip
    have cE := fun W2 v1 (O1 : EO W2 W1.heap.size v1 e) => encode_yes v1 e W2 O1.ev hV (by omega) (by omega)
    replace cE := hid cE
    have cV := fun W2 v1 (base : Nat) (O1 : EO W2 base v1 e) => valid_any v1 e W2 O1.ev
    rw [hV] at cV
    replace cV := hid cV
    refine (lent_any _ e W1 (HX.out W1 (Below.refl _ _))).mono ?_
    rintro en w2 ⟨v1, rfl, O1, b2⟩
    clear q0 q1 q2 q3 q4
    replace O1 := hid O1
    replace b2 := hid b2
    go_wp2_with fail
    refine (cE.out w2 v1 O1.out).mono ?_
    rintro en w3 ⟨v2, rfl, O2, b3⟩
    obtain ⟨a2, n2, c2', hv2, HB2⟩ := bytes_own O2 (enc_ok hV hsq.out)
    subst hv2
    have s3 := hid (Below.up b2.out b3)
    replace HB2 := hid HB2
    clear b3 cE O2
    have c0 : w3.cell? ⟨gx, 0, none⟩ = some (.int .i64 e.log) := cell_of (HC.out w3 s3.out) 0 _ rfl
    have c1 : w3.cell? ⟨gx, 1, none⟩ = some (.int .i64 e.nx) := cell_of (HC.out w3 s3.out) 1 _ rfl
    have c2 : w3.cell? ⟨gx, 2, none⟩ = some (.int .u64 e.sq) := cell_of (HC.out w3 s3.out) 2 _ rfl
    have c3 : w3.cell? ⟨gx, 3, none⟩ = some (.slice xa e.go.length xc) := cell_of (HC.out w3 s3.out) 3 _ rfl
    have c4 : w3.cell? ⟨gx, 4, none⟩ = some (.slice xb e.co.length xd) := cell_of (HC.out w3 s3.out) 4 _ rfl
    go_wp2_with fail
    refine (lent_any _ e w3 (HX.out w3 s3.out)).mono ?_
    rintro en w4 ⟨v3, rfl, O3, b4⟩
    clear c0 c1 c2 c3 c4
    have s4 := hid (Below.up s3.out b4)
    replace O3 := hid O3
    go_wp2_with fail
    refine (cV.out w4 v3 _ O3.out).mono ?_
    rintro en w5 ⟨rfl, b5⟩
    have s5 := hid (Below.up s4.out b5)
    clear cV O3
    have HB5 := hid ((conv_later HB2.out (Below.up b4 b5)))
    have hn2 : n2 ≤ 4294967296 := by have h1 : (enc e).length = n2 := HB2.out.1; have h2 := enc_len hV hgo hco; omega
    clear b4 b5 HB2
    go_wp2_with fail
    rename_i K8 a8 K6 a6 K5' a5'
    replace a8 := hid a8
    replace a6 := hid a6
    refine (decode_any a2 n2 c2' (enc e) w5 HB5.out hn2).mono ?_
    rintro en U ⟨hen, bU⟩
    have sU := hid (Below.up s5.out bU)
    have hn3 : (enc e).length = n2 := HB5.out.1
    rcases hen with ⟨k, d, q, vd, hrun, hq, hVd, hed, rfl, OD⟩ | ⟨rfl, hbad⟩
    rotate_left
    · rw [← hn3] at hbad
      exact absurd hbad (enc_good hV hsq.out)
    obtain ⟨k0, hk0⟩ := enc_read hV hsq.out
    have hde : d = e := drun_one hk0 (Int.le_refl _) hrun (by rw [hn3]; exact hq)
    subst hde
    obtain ⟨da, dc, db, dd, hvd⟩ := EO_shape OD
    unfold ev at hvd
    subst hvd
    have Hd := OD.ev
    clear OD hk0 hrun hq hVd hed bU HB5 hn3
    obtain ⟨gd, hgd⟩ : ∃ g, g = U.heap.size := ⟨_, rfl⟩
    obtain ⟨X, hX⟩ : ∃ V, V = U.alloc (.cells #[.int .i64 d.log, .int .i64 d.nx, .int .u64 d.sq, .slice da d.go.length dc, .slice db d.co.length dd] 26) := ⟨_, rfl⟩
    have K5 : X.heap[gd]? = some (.cells #[.int .i64 d.log, .int .i64 d.nx, .int .u64 d.sq, .slice da d.go.length dc, .slice db d.co.length dd] 26) := by rw [hX, hgd]; exact new_at _ _
    have bx5 : Below U.heap.size U X := by rw [hX]; exact box_below _ _
    replace K5 := hid K5
    replace bx5 := hid bx5
    replace hX := hid hX
    replace hgd := hid hgd
    go_wp2_with fail
    rw [← hX.out, ← hgd.out]
    have sX := hid (Below.up sU.out bx5.out)
    have dd0 : X.cell? ⟨gd, 0, none⟩ = some (.int .i64 d.log) := cell_of K5.out 0 _ rfl
    have dd1 : X.cell? ⟨gd, 1, none⟩ = some (.int .i64 d.nx) := cell_of K5.out 1 _ rfl
    have dd2 : X.cell? ⟨gd, 2, none⟩ = some (.int .u64 d.sq) := cell_of K5.out 2 _ rfl
    have dd3 : X.cell? ⟨gd, 3, none⟩ = some (.slice da d.go.length dc) := cell_of K5.out 3 _ rfl
    have dd4 : X.cell? ⟨gd, 4, none⟩ = some (.slice db d.co.length dd) := cell_of K5.out 4 _ rfl
    have Hd2 := hid (Hd.later bx5.out)
    clear Hd bx5 K5 hX
    have c0 : X.cell? ⟨gx, 0, none⟩ = some (.int .i64 d.log) := cell_of (HC.out X sX.out) 0 _ rfl
    have c1 : X.cell? ⟨gx, 1, none⟩ = some (.int .i64 d.nx) := cell_of (HC.out X sX.out) 1 _ rfl
    have c2 : X.cell? ⟨gx, 2, none⟩ = some (.int .u64 d.sq) := cell_of (HC.out X sX.out) 2 _ rfl
    have c3 : X.cell? ⟨gx, 3, none⟩ = some (.slice xa d.go.length xc) := cell_of (HC.out X sX.out) 3 _ rfl
    have c4 : X.cell? ⟨gx, 4, none⟩ = some (.slice xb d.co.length xd) := cell_of (HC.out X sX.out) 4 _ rfl
    refine a6.out _ _ ?_
    clear a6
    go_wp2_with fail
    refine (same_any _ _ d X Hd2.out (HX.out X sX.out)).mono ?_
    rintro en Y ⟨rfl, bY⟩
    have sY := hid (Below.up sX.out bY)
    clear dd0 dd1 dd2 dd3 dd4 Hd2 bY
    clear c0 c1 c2 c3 c4
    go_wp2_with fail
    refine a8.out _ _ ?_
    clear a8
    go_wp2_with fail
    refine (decode_any a len cap zs Y (HZ.out Y sY.out) (by omega)).mono ?_
    rintro en U ⟨hen, bU⟩
    have bU1 := hid (Below.up sY.out bU)
    rcases hen with ⟨k, d, q, vd, hrun, hq, hVd, hed, rfl, OD⟩ | ⟨rfl, hbad⟩
    · obtain ⟨hokd, gd, cd, da, dc, db, dd, hvd, G1, G2⟩ := id OD
      unfold ev at hvd
      subst hvd
      have Hd : Hid (EV U (.agg #[.int .i64 d.log, .int .i64 d.nx, .int .u64 d.sq, .slice da d.go.length dc, .slice db d.co.length dd]) d) := OD.ev
      have hbs : Hid (∀ y ∈ enc d, 0 ≤ y ∧ y ≤ 255) := enc_ok hVd hokd.2.2.1
      have hlg : d.go.length ≤ 4294967296 ∧ d.co.length ≤ 4294967296 := by have h1 := len_enc d; have h2 : zs.length = len := (HZ.out _ (Below.refl _ _)).1; rw [hed] at h1; omega
      clear OD G1 G2 hokd gd cd hrun hq
      obtain ⟨gd, hgd⟩ : ∃ g, g = U.heap.size := ⟨_, rfl⟩
      obtain ⟨Y9, hY9⟩ : ∃ V, V = U.alloc (.cells #[.int .i64 d.log, .int .i64 d.nx, .int .u64 d.sq, .slice da d.go.length dc, .slice db d.co.length dd] 26) := ⟨_, rfl⟩
      have K5 : Y9.heap[gd]? = some (.cells #[.int .i64 d.log, .int .i64 d.nx, .int .u64 d.sq, .slice da d.go.length dc, .slice db d.co.length dd] 26) := by rw [hY9, hgd]; exact new_at _ _
      have bx5 : Below U.heap.size U Y9 := by rw [hY9]; exact box_below _ _
      replace K5 := hid K5
      replace bx5 := hid bx5
      replace hY9 := hid hY9
      replace hgd := hid hgd
      have Hd2 := hid (Hd.out.later bx5.out)
      have s9 := hid (Below.up bU1.out bx5.out)
      clear Hd K5 bx5 bU
      go_wp2_with fail
      rw [← hY9.out]
      refine (encode_yes _ d Y9 Hd2.out hVd (by omega) (by omega)).mono ?_
      rintro en U2 ⟨v9, rfl, O9, b9⟩
      obtain ⟨a9, n9, c9, hv9, HB9⟩ := bytes_own O9 hbs.out
      subst hv9
      have s10 := hid (Below.up s9.out b9)
      have e9 := Bytes.conv HB9
      rw [hed] at e9
      have e10 := Bytes.conv (HZ.out U2 s10.out)
      clear O9 b9 HB9 Hd2 hed
      go_wp2_with fail
      go_ret
      exact ⟨by simp, Below.up B1.out s10.out⟩
    · have hz1 : ∀ W, EV W (.agg #[.int .i64 0, .int .i64 0, .int .u64 0, .slice none 0 0, .slice none 0 0]) zed := fun W => ⟨⟨by unfold bd; decide, by unfold bd; decide, by unfold bu; decide, by decide, by decide⟩, none, 0, none, 0, rfl, El.Sl.none _ _, El.Sl.none _ _⟩
      have hz3 : ∀ W, EV W (.agg #[.int .i64 3, .int .i64 0, .int .u64 0, .slice none 0 0, .slice none 0 0]) ⟨3, 0, 0, [], []⟩ := fun W => ⟨⟨by unfold bd; decide, by unfold bd; decide, by unfold bu; decide, by decide, by decide⟩, none, 0, none, 0, rfl, El.Sl.none _ _, El.Sl.none _ _⟩
      have hv3 : vE ⟨3, 0, 0, [], []⟩ = true := by decide
      obtain ⟨gd, hgd⟩ : ∃ g, g = U.heap.size := ⟨_, rfl⟩
      obtain ⟨Y9, hY9⟩ : ∃ V, V = U.alloc (.cells #[.int .i64 0, .int .i64 0, .int .u64 0, .slice none 0 0, .slice none 0 0] 26) := ⟨_, rfl⟩
      have K5 : Y9.heap[gd]? = some (.cells #[.int .i64 0, .int .i64 0, .int .u64 0, .slice none 0 0, .slice none 0 0] 26) := by rw [hY9, hgd]; exact new_at _ _
      have bx5 : Below U.heap.size U Y9 := by rw [hY9]; exact box_below _ _
      replace K5 := hid K5
      replace bx5 := hid bx5
      replace hY9 := hid hY9
      replace hgd := hid hgd
      have s9 := hid (Below.up bU1.out bx5.out)
      replace hz1 := hid hz1
      replace hz3 := hid hz3
      clear K5 bx5 bU hbad
      go_wp2_with fail
      rw [← hY9.out]
      refine (same_any _ _ zed Y9 (hz1.out Y9) (hz1.out Y9)).mono ?_
      rintro en U2 ⟨rfl, b9⟩
      have s10 := hid (Below.up s9.out b9)
      clear b9
      go_wp2_with fail
      refine (valid_any _ _ U2 (hz3.out U2)).mono ?_
      rw [hv3]
      rintro en U3 ⟨rfl, b10⟩
      have s11 := hid (Below.up s10.out b10)
      clear b10
      go_wp2_with fail
      go_ret
      exact ⟨rfl, Below.up B1.out s11.out⟩
  · replace hV : vE e = false := by simpa using hV
    have cE := fun W2 v1 (O1 : EO W2 W1.heap.size v1 e) => encode_no v1 e W2 O1.ev hV
    replace cE := hid cE
    have cV := fun W2 v1 (base : Nat) (O1 : EO W2 base v1 e) => valid_any v1 e W2 O1.ev
    rw [hV] at cV
    replace cV := hid cV
    refine (lent_any _ e W1 (HX.out W1 (Below.refl _ _))).mono ?_
    rintro en w2 ⟨v1, rfl, O1, b2⟩
    clear q0 q1 q2 q3 q4
    replace O1 := hid O1
    replace b2 := hid b2
    go_wp2_with fail
    refine (cE.out w2 v1 O1.out).mono ?_
    rintro en w3 ⟨rfl, b3⟩
    have s3 := hid (Below.up b2.out b3)
    clear b3 cE 
    have c0 : w3.cell? ⟨gx, 0, none⟩ = some (.int .i64 e.log) := cell_of (HC.out w3 s3.out) 0 _ rfl
    have c1 : w3.cell? ⟨gx, 1, none⟩ = some (.int .i64 e.nx) := cell_of (HC.out w3 s3.out) 1 _ rfl
    have c2 : w3.cell? ⟨gx, 2, none⟩ = some (.int .u64 e.sq) := cell_of (HC.out w3 s3.out) 2 _ rfl
    have c3 : w3.cell? ⟨gx, 3, none⟩ = some (.slice xa e.go.length xc) := cell_of (HC.out w3 s3.out) 3 _ rfl
    have c4 : w3.cell? ⟨gx, 4, none⟩ = some (.slice xb e.co.length xd) := cell_of (HC.out w3 s3.out) 4 _ rfl
    go_wp2_with fail
    refine (lent_any _ e w3 (HX.out w3 s3.out)).mono ?_
    rintro en w4 ⟨v3, rfl, O3, b4⟩
    clear c0 c1 c2 c3 c4
    have s4 := hid (Below.up s3.out b4)
    replace O3 := hid O3
    go_wp2_with fail
    refine (cV.out w4 v3 _ O3.out).mono ?_
    rintro en w5 ⟨rfl, b5⟩
    have s5 := hid (Below.up s4.out b5)
    clear cV O3
    clear b4 b5
    go_wp2_with fail
    go_wp2_with fail
    refine (decode_any a len cap zs w5 (HZ.out w5 s5.out) (by omega)).mono ?_
    rintro en U ⟨hen, bU⟩
    have bU1 := hid (Below.up s5.out bU)
    rcases hen with ⟨k, d, q, vd, hrun, hq, hVd, hed, rfl, OD⟩ | ⟨rfl, hbad⟩
    · obtain ⟨hokd, gd, cd, da, dc, db, dd, hvd, G1, G2⟩ := id OD
      unfold ev at hvd
      subst hvd
      have Hd : Hid (EV U (.agg #[.int .i64 d.log, .int .i64 d.nx, .int .u64 d.sq, .slice da d.go.length dc, .slice db d.co.length dd]) d) := OD.ev
      have hbs : Hid (∀ y ∈ enc d, 0 ≤ y ∧ y ≤ 255) := enc_ok hVd hokd.2.2.1
      have hlg : d.go.length ≤ 4294967296 ∧ d.co.length ≤ 4294967296 := by have h1 := len_enc d; have h2 : zs.length = len := (HZ.out _ (Below.refl _ _)).1; rw [hed] at h1; omega
      clear OD G1 G2 hokd gd cd hrun hq
      obtain ⟨gd, hgd⟩ : ∃ g, g = U.heap.size := ⟨_, rfl⟩
      obtain ⟨Y9, hY9⟩ : ∃ V, V = U.alloc (.cells #[.int .i64 d.log, .int .i64 d.nx, .int .u64 d.sq, .slice da d.go.length dc, .slice db d.co.length dd] 26) := ⟨_, rfl⟩
      have K5 : Y9.heap[gd]? = some (.cells #[.int .i64 d.log, .int .i64 d.nx, .int .u64 d.sq, .slice da d.go.length dc, .slice db d.co.length dd] 26) := by rw [hY9, hgd]; exact new_at _ _
      have bx5 : Below U.heap.size U Y9 := by rw [hY9]; exact box_below _ _
      replace K5 := hid K5
      replace bx5 := hid bx5
      replace hY9 := hid hY9
      replace hgd := hid hgd
      have Hd2 := hid (Hd.out.later bx5.out)
      have s9 := hid (Below.up bU1.out bx5.out)
      clear Hd K5 bx5 bU
      go_wp2_with fail
      rw [← hY9.out]
      refine (encode_yes _ d Y9 Hd2.out hVd (by omega) (by omega)).mono ?_
      rintro en U2 ⟨v9, rfl, O9, b9⟩
      obtain ⟨a9, n9, c9, hv9, HB9⟩ := bytes_own O9 hbs.out
      subst hv9
      have s10 := hid (Below.up s9.out b9)
      have e9 := Bytes.conv HB9
      rw [hed] at e9
      have e10 := Bytes.conv (HZ.out U2 s10.out)
      clear O9 b9 HB9 Hd2 hed
      go_wp2_with fail
      go_ret
      exact ⟨by simp, Below.up B1.out s10.out⟩
    · have hz1 : ∀ W, EV W (.agg #[.int .i64 0, .int .i64 0, .int .u64 0, .slice none 0 0, .slice none 0 0]) zed := fun W => ⟨⟨by unfold bd; decide, by unfold bd; decide, by unfold bu; decide, by decide, by decide⟩, none, 0, none, 0, rfl, El.Sl.none _ _, El.Sl.none _ _⟩
      have hz3 : ∀ W, EV W (.agg #[.int .i64 3, .int .i64 0, .int .u64 0, .slice none 0 0, .slice none 0 0]) ⟨3, 0, 0, [], []⟩ := fun W => ⟨⟨by unfold bd; decide, by unfold bd; decide, by unfold bu; decide, by decide, by decide⟩, none, 0, none, 0, rfl, El.Sl.none _ _, El.Sl.none _ _⟩
      have hv3 : vE ⟨3, 0, 0, [], []⟩ = true := by decide
      obtain ⟨gd, hgd⟩ : ∃ g, g = U.heap.size := ⟨_, rfl⟩
      obtain ⟨Y9, hY9⟩ : ∃ V, V = U.alloc (.cells #[.int .i64 0, .int .i64 0, .int .u64 0, .slice none 0 0, .slice none 0 0] 26) := ⟨_, rfl⟩
      have K5 : Y9.heap[gd]? = some (.cells #[.int .i64 0, .int .i64 0, .int .u64 0, .slice none 0 0, .slice none 0 0] 26) := by rw [hY9, hgd]; exact new_at _ _
      have bx5 : Below U.heap.size U Y9 := by rw [hY9]; exact box_below _ _
      replace K5 := hid K5
      replace bx5 := hid bx5
      replace hY9 := hid hY9
      replace hgd := hid hgd
      have s9 := hid (Below.up bU1.out bx5.out)
      replace hz1 := hid hz1
      replace hz3 := hid hz3
      clear K5 bx5 bU hbad
      go_wp2_with fail
      rw [← hY9.out]
      refine (same_any _ _ zed Y9 (hz1.out Y9) (hz1.out Y9)).mono ?_
      rintro en U2 ⟨rfl, b9⟩
      have s10 := hid (Below.up s9.out b9)
      clear b9
      go_wp2_with fail
      refine (valid_any _ _ U2 (hz3.out U2)).mono ?_
      rw [hv3]
      rintro en U3 ⟨rfl, b10⟩
      have s11 := hid (Below.up s10.out b10)
      clear b10
      go_wp2_with fail
      go_ret
      exact ⟨rfl, Below.up B1.out s11.out⟩
end Go.Proofs.Ytnpeocoipodmfaa.Bk

/- JournalTurned walked. -/
import Derived.Test.YtgkoopciajjonabDoorRx
import Derived.Test.YtgkoopciajjonabDoorJv
namespace Go.Proofs.YtgkoopciajjonabDoor.Tn
open Go.ChangeShapes Go.WideShapes Go.ChangeAt Go.RowKit
open Go.Proofs.YtgkoopciajjonabDoor.Crc
open Go.Proofs.YtgkoopciajjonabDoor.Jm
open Go.Proofs.YtgkoopciajjonabDoor.Jn
open Go.Proofs.YtgkoopciajjonabDoor.Ck
open Go.Proofs.YtgkoopciajjonabDoor.Wt
open Go.Proofs.YtgkoopciajjonabDoor.Wc
open Go.Proofs.YtgkoopciajjonabDoor.Wa
open Go.Proofs.YtgkoopciajjonabDoor.Rc
open Go.Proofs.YtgkoopciajjonabDoor.Wn
open Go.Proofs.YtgkoopciajjonabDoor.Vd (valid_any own_conv)
open Go.Proofs.YtgkoopciajjonabDoor.Rr (pr)
open Go.Proofs.YtgkoopciajjonabDoor.Re
open Go.Proofs.YtgkoopciajjonabDoor.Rx
open Go.Proofs.YtgkoopciajjonabDoor.Rr (set_ne)
open Go.Proofs.YtgkoopciajjonabDoor.Pt (getD_bd)
open Go.Proofs.YtgkoopciajjonabDoor.Jv
set_option linter.unusedVariables false
set_option linter.unusedSimpArgs false

theorem lst_take (E : List Nat) (Z : List (List Int)) (k : Nat) (hk : k ≤ E.length) (hl : E.length = Z.length) : lst ((E.zip Z).take k) = if k = 0 then 0 else E.getD (k - 1) 0 := by
  unfold lst
  cases k with
  | zero => simp
  | succ k =>
    have hz : (E.zip Z)[k]? = some (E[k]'(by omega), Z[k]'(by omega)) := by
      rw [List.getElem?_eq_getElem (by rw [List.length_zip]; omega)]; simp
    rw [if_neg (by omega), List.take_add_one, hz]
    simp [List.getD_eq_getElem?_getD, List.getElem?_eq_getElem (show k < E.length by omega)]
theorem zip_get2 {ys : List (Nat × Sl)} {es : List Nat} {P : List Sl} {K : Nat} (h : ys.map pr = (es.zip (zss P)).take K) (k : Nat) (y : Nat × Sl) (s : Sl) (hy : ys[k]? = some y) (hs : P[k]? = some s) : y.2.zs = s.zs := by
  have h1 : (ys.map pr)[k]? = some (pr y) := by rw [List.getElem?_map, hy]; rfl
  rw [h] at h1
  have h3 : k < K := by
    by_cases hk : k < K
    · exact hk
    · rw [List.getElem?_eq_none (by rw [List.length_take]; omega)] at h1; simp at h1
  rw [List.getElem?_take_of_lt h3, List.getElem?_zip_eq_some] at h1
  have h2 := h1.2
  unfold zss at h2
  rw [List.getElem?_map, hs] at h2
  simp [pr] at h2
  exact h2.symm
theorem xor8 (x y : Int) (hx : 0 ≤ x ∧ x ≤ 255) (hy : 0 ≤ y ∧ y ≤ 255) : bits .xor .u8 x y = ((x.toNat ^^^ y.toNat : Nat) : Int) := by
  obtain ⟨x, rfl⟩ := Int.eq_ofNat_of_zero_le hx.1
  obtain ⟨y, rfl⟩ := Int.eq_ofNat_of_zero_le hy.1
  show IntKind.u8.wrap ((BitVec.ofInt 8 (x : Int) ^^^ BitVec.ofInt 8 (y : Int)).toNat : Int) = _
  have hlt : x ^^^ y < 2 ^ 8 := Nat.xor_lt_two_pow (by omega) (by omega)
  rw [BitVec.ofInt_natCast, BitVec.ofInt_natCast, BitVec.toNat_xor, BitVec.toNat_ofNat, BitVec.toNat_ofNat, Nat.mod_eq_of_lt (by omega), Nat.mod_eq_of_lt (by omega)]
  simp only [Int.toNat_natCast]
  generalize x ^^^ y = z at hlt
  simp [IntKind.wrap, IntKind.bits, IntKind.signed]
  omega
theorem xor_bd (x y : Int) (hx : 0 ≤ x ∧ x ≤ 255) (hy : 0 ≤ y ∧ y ≤ 255) (h0 : y ≠ 0) : (0 ≤ ((x.toNat ^^^ y.toNat : Nat) : Int) ∧ ((x.toNat ^^^ y.toNat : Nat) : Int) ≤ 255) ∧ ((x.toNat ^^^ y.toNat : Nat) : Int) ≠ x := by
  have hlt : x.toNat ^^^ y.toNat < 2 ^ 8 := Nat.xor_lt_two_pow (by omega) (by omega)
  refine ⟨⟨by omega, by omega⟩, fun e => ?_⟩
  have h1 : x.toNat ^^^ y.toNat = x.toNat := by omega
  have h2 : y.toNat = 0 := by
    have : x.toNat ^^^ (x.toNat ^^^ y.toNat) = x.toNat ^^^ x.toNat := by rw [h1]
    rwa [← Nat.xor_assoc, Nat.xor_self, Nat.zero_xor] at this
  omega
theorem set_below {n0 : Nat} {w W : World} (h : Below n0 w W) (g i : Nat) (v : Value) (hg : n0 ≤ g) : Below n0 w (W.setCell ⟨g, i, none⟩ v) := h.setCell (p := ⟨g, i, none⟩) hg v
theorem wk_cases {bb : Nat} {F : List Int} {c p A : Nat} (h : Wk bb F c p A) : (p + 7 ≤ F.length ∧ left bb p < 7 ∧ Wk bb F c (p + left bb p) A) ∨ (p + 7 ≤ F.length ∧ 7 ≤ left bb p ∧ c < p + 7 + cnt (F.drop p) ∧ A = p) ∨ (p + 7 ≤ F.length ∧ 7 ≤ left bb p ∧ p + 7 + cnt (F.drop p) ≤ c ∧ Wk bb F c (p + 7 + cnt (F.drop p)) A) := by
  cases h with
  | pad h1 h2 h3 => exact .inl ⟨h1, h2, h3⟩
  | brk h1 h2 h3 => exact .inr (.inl ⟨h1, h2, h3, rfl⟩)
  | nxt h1 h2 h3 h4 => exact .inr (.inr ⟨h1, h2, h3, h4⟩)
theorem cnt_drop (F : List Int) (p : Nat) : cnt (F.drop p) = (F.getD (p + 4) 0).toNat + 256 * (F.getD (p + 5) 0).toNat := by
  unfold cnt
  simp [List.getD_eq_getElem?_getD, List.getElem?_drop]
theorem own_set {w : World} {base g n c : Nat} {xs : List Int} (h : Wt.Own w base (.slice (some ⟨g, 0, none⟩) n c) xs) (i : Nat) (hi : i < xs.length) (v : Int) :
    Wt.Own (w.setCell ⟨g, i, none⟩ (.int .u8 v)) base (.slice (some ⟨g, 0, none⟩) n c) (xs.set i v) ∧ w.frozen? ⟨g, i, none⟩ = false ∧ w.cell? ⟨g, i, none⟩ = some (.int .u8 (xs.getD i 0)) := by
  have hcell : w.cell? ⟨g, i, none⟩ = some (.int .u8 (xs.getD i 0)) := by
    have hs := h.shape
    obtain ⟨a, c', he, _⟩ := hs
    simp only [Value.slice.injEq] at he
    obtain ⟨_, rfl, _⟩ := he
    have := World.ownsRow.cellAt h i (by omega)
    rw [this, List.getElem?_map, List.getD_eq_getElem?_getD, List.getElem?_eq_getElem hi]
    rfl
  rcases h.2 with ⟨e, _⟩ | ⟨g', cap, cur, e, hb, hg, hn, hm, hs, ht⟩
  · simp at e
  · simp only [Value.slice.injEq, Option.some.injEq, Addr.mk.injEq, and_true, true_and] at e
    obtain ⟨rfl, rfl, rfl⟩ := e
    refine ⟨⟨by simp, .inr ⟨g, c, cur.setIfInBounds i (.int .u8 v), by simp, hb, by simp [World.setCell, Array.getElem?_modify, hg], by simpa using hn, hm, by simpa using hs, ?_⟩⟩, by simp [World.frozen?, hg], hcell⟩
    rw [Array.toList_setIfInBounds, List.length_set, List.map_set, ← ht, List.take_set]
set_option maxHeartbeats 1000000 in
set_option maxRecDepth 100000 in
theorem turned_ok (b : Nat) (a : Option Addr) (len cap : Nat) (rs : List Sl) (pl by' : Int) (w : World) (T : Hid (Tab w)) (H : Recs w a len cap rs) (hb : 32 ≤ b ∧ b ≤ 32768) (hw : wt rs ≤ 1048576) (hpl : (Lit.int .i64 pl).wf = true) (hby : 0 ≤ by' ∧ by' ≤ 255) (hby0 : by' ≠ 0) :
    Calls Tryd.prog 3 #[.int .i64 b, .slice a len cap, .agg #[.int .i64 pl, .int .u8 by']] w fun e w' => e = .returned (.bool true) ∧ Below w.heap.size w w' := by
  have HV := fun w => valid_any (b : Int) w
  simp only [show (decide (32 ≤ (b : Int)) && decide ((b : Int) ≤ 32768)) = true by simp; omega] at HV
  replace HV := hid HV
  have HWn : Hid (∀ w2, Below w.heap.size w w2 → _) := fun w2 h2 => written_any b a len cap rs w2 (tab_later T h2) (H.later h2) hb hw
  have hwt := wt_took rs
  have HP : Hid (∀ s ∈ took rs, s.ok w ∧ s.len ≤ 2097152) := fun s hs => by
    have := List.mem_filter.1 hs
    exact ⟨H.2.2.2.2 s this.1, by simpa using this.2⟩
  obtain ⟨P, hP⟩ : ∃ P, P = took rs := ⟨_, rfl⟩
  rw [← hP] at HWn hwt HP
  have hPz : ∀ r ∈ zss P, r.length ≤ 2097152 ∧ ∀ y ∈ r, 0 ≤ y ∧ y ≤ 255 := fun r hr => by
    obtain ⟨s, hs, rfl⟩ := List.mem_map.1 hr
    have := HP.out s hs
    exact ⟨by rw [this.1.1]; exact this.2, this.1.2.2.2.1⟩
  have hzl : (zss P).length = P.length := by simp [zss]
  have hFl := lay_le b hb P 0 (fun s hs => (HP.out s hs).1.1)
  have HFb : Hid (∀ y ∈ lay b 0 (zss P), 0 ≤ y ∧ y ≤ 255) := lay_bytes b (zss P) 0 (fun r hr => (hPz r hr).2)
  have HEl : Hid ((endl b 0 (zss P)).length = P.length) := by show _ = _; rw [endl_len]; exact hzl
  have HTn : Hid (∀ (c : Nat) (v : Int), 0 ≤ v ∧ v ≤ 255 → c < (lay b 0 (zss P)).length → ∃ A, Wk b (lay b 0 (zss P)) c 0 A ∧ (c ≠ A + 4 → c ≠ A + 5 → v ≠ (lay b 0 (zss P)).getD c 0 →
      ∃ K, K < P.length ∧ Rd b ((lay b 0 (zss P)).set c v) 0 [] false (((endl b 0 (zss P)).zip (zss P)).take K) 2 ∧ (∀ i, i < K → (endl b 0 (zss P)).getD i 0 ≤ c) ∧ c < (endl b 0 (zss P)).getD K 0)) := fun c v hv hc => by
    have := rd_turn b hb c v hv (zss P) [] hPz (by simp) (by simpa using hc)
    simp only [List.nil_append, List.length_nil, hzl] at this
    exact this
  obtain ⟨E, hE⟩ : ∃ E, E = endl b 0 (zss P) := ⟨_, rfl⟩
  obtain ⟨F, hF⟩ : ∃ F, F = lay b 0 (zss P) := ⟨_, rfl⟩
  rw [← hE, ← hF] at HTn
  rw [← hE] at HEl HWn
  rw [← hF] at HFb HWn hFl
  clear hP H hPz hE hF
  go_enter Tryd.func3, Tryd.ntmps3
  go_wp2_with fail
  go_quiet (fail)
  have bA := below_drewN (box_below w (.cells #[.int .i64 pl, .int .u8 by'] 24)) nq
  generalize (w.alloc (.cells #[.int .i64 pl, .int .u8 by'] 24)).drewN nq = wA at *
  replace HWn := hid (HWn.out wA bA)
  have hby2 : (by' == 0) = false := by rw [beq_eq_false_iff_ne]; exact hby0
  replace bA := hid bA
  go_wp2_with fail
  refine (HV.out wA).mono ?_
  rintro e w0 ⟨rfl, rfl⟩
  go_wp2_with fail
  refine HWn.out.mono ?_
  rintro e w1 ⟨vf, ve, vt, rfl, OF, OE, OT, B1⟩
  obtain ⟨af, cf, hvf, haf⟩ := OF.shape
  subst hvf
  obtain ⟨ae, ce, hve, hae⟩ := row_shape OE
  subst hve
  obtain ⟨at', ct, hvt, hat⟩ := row_shape OT
  subst hvt
  have OE' : Hid (w1.ownsRow w0.heap.size 3 1 (.slice ae P.length ce) P.length (E.map fun (x : Nat) => Value.int .i64 (x : Int))) := by
    have := OE
    unfold OwnI at this
    rw [HEl.out] at this
    exact this
  have hcf : cf ≤ 9223372036854775807 ∧ F.length ≤ cf := by
    rcases OF.2 with ⟨e, e0⟩ | ⟨g, c, cur, e, _, _, hn, hm, _⟩
    · simp at e; omega
    · simp at e; unfold maxLen at hm; omega
  replace OF := hid OF
  replace OT := hid OT
  have B1w := hid (bA.out.trans (B1.mono bA.out.size))
  clear HV HWn OE B1
  rw [HEl.out]
  by_cases hF0 : F.length = 0
  · have hF1 : ((F.length : Int) == 0) = true := by rw [hF0]; rfl
    go_wp2_with fail
    go_ret
    exact ⟨rfl, B1w.out⟩
  have hF1 : ((F.length : Int) == 0) = false := by rw [beq_eq_false_iff_ne]; omega
  obtain ⟨gf, rfl⟩ : ∃ g, af = some ⟨g, 0, none⟩ := by
    rcases haf with h | h
    · subst h
      rcases OF.out.2 with ⟨_, e0⟩ | ⟨g, c, cur, e, _⟩
      · omega
      · simp at e
    · exact h
  obtain ⟨c, hc⟩ : ∃ c : Nat, pl % (F.length : Int) = (c : Int) := ⟨(pl % (F.length : Int)).toNat, by have := Int.emod_nonneg pl (show (F.length : Int) ≠ 0 by omega); omega⟩
  have hcF : c < F.length := by have := Int.emod_lt_of_pos pl (show 0 < (F.length : Int) by omega); omega
  have hx0 := getD_bd HFb.out c
  have hxv := xor_bd (F.getD c 0) by' hx0 hby hby0
  have hx8 := xor8 (F.getD c 0) by' hx0 hby
  obtain ⟨A, hWk, hAll⟩ := HTn.out c _ hxv.1 hcF
  obtain ⟨Wset, hfz, hcc⟩ := own_set OF.out c hcF (((F.getD c 0).toNat ^^^ by'.toNat : Nat) : Int)
  have hne := hxv.2
  have hvb := hxv.1
  generalize hv : (((F.getD c 0).toNat ^^^ by'.toNat : Nat) : Int) = v at *
  have hcell : Hid (∀ i, i < F.length → w1.cell? ⟨gf, i, none⟩ = some (.int .u8 (F.getD i 0))) := fun i hi => (own_set OF.out i hi 0).2.2
  have hgb : Hid (∀ i, 0 ≤ F.getD i 0 ∧ F.getD i 0 ≤ 255) := fun i => getD_bd HFb.out i
  replace hAll := hid hAll
  replace Wset := hid Wset
  have h1 : -(F.length : Int) < pl.tmod (F.length : Int) ∧ pl.tmod (F.length : Int) < (F.length : Int) := by
    have h := Int.tmod_lt_of_pos pl (show 0 < (F.length : Int) by omega)
    have h' := Int.tmod_lt_of_pos (-pl) (show 0 < (F.length : Int) by omega)
    rw [Int.neg_tmod] at h'
    omega
  obtain ⟨h1a, h1b⟩ := h1
  have EE : Hid ((pl.tmod (F.length : Int) + (F.length : Int)) % (F.length : Int) = (c : Int)) := by
    show _ = _
    rw [Int.add_emod_right, Int.tmod_def]
    have : pl - (F.length : Int) * pl.tdiv (F.length : Int) = pl + (F.length : Int) * (-pl.tdiv (F.length : Int)) := by rw [Int.mul_neg]; omega
    rw [this, Int.add_mul_emod_self_left]
    exact hc
  have hz0 : ¬ (F.length : Int) = 0 := by omega
  have hz1 : 0 < (F.length : Int) := by omega
  replace hWk := hid hWk
  generalize hx0' : F.getD c 0 = x0 at *
  clear hc hv hxv HTn hx0 hx0'
  replace hne := hid hne
  go_wp2_with fail
  rw [EE.out]
  clear EE h1a h1b
  go_loopw [13, 14] (fun p q wr => ∃ p' m : Nat, p = .int .i64 (p' : Int) ∧ p' ≤ F.length + 70000 ∧ wr = w1.drewN m ∧ Hid (Wk b F c p' A)) (fun p _ _ => F.length + 70000 - (intOf p).toNat)
  case atStart => exact ⟨0, 0, rfl, by omega, rfl, hWk⟩
  case round =>
    obtain ⟨p, m, rfl, hp, rfl, hwk⟩ := hrel
    rcases wk_cases hwk.out with ⟨q1, q2, q3⟩ | ⟨q1, q2, q3, q4⟩ | ⟨q1, q2, q3, q4⟩
    · have i1 : (p : Int) + 7 ≤ (F.length : Int) := by omega
      have hL1 : 0 < left b p := left_pos b p (by omega)
      have hm2 : (p : Int) % (b : Int) < (b : Int) := by rw [← Int.natCast_emod]; have := Nat.mod_lt p (show 0 < b by omega); omega
      have hm3 : 0 ≤ (p : Int) % (b : Int) := by rw [← Int.natCast_emod]; omega
      have EL : (b : Int) - (p : Int) % (b : Int) = (left b p : Int) := by rw [← Int.natCast_emod]; have := Nat.mod_lt p (show 0 < b by omega); unfold left; omega
      have i2 : (b : Int) - (p : Int) % (b : Int) < 7 := by omega
      have EL' := hid EL
      clear EL
      go_wp2_with fail
      refine ⟨⟨p + left b p, m, by congr 1; have := EL'.out; omega, by omega, rfl, q3⟩, ?_⟩
      have := EL'.out
      simp [intOf]; omega
    · have i1 : (p : Int) + 7 ≤ (F.length : Int) := by omega
      have hm2 : (p : Int) % (b : Int) < (b : Int) := by rw [← Int.natCast_emod]; have := Nat.mod_lt p (show 0 < b by omega); omega
      have hm3 : 0 ≤ (p : Int) % (b : Int) := by rw [← Int.natCast_emod]; omega
      have EL : (b : Int) - (p : Int) % (b : Int) = (left b p : Int) := by rw [← Int.natCast_emod]; have := Nat.mod_lt p (show 0 < b by omega); unfold left; omega
      have i2 : ¬ (b : Int) - (p : Int) % (b : Int) < 7 := by omega
      have k4 := hcell.out (p + 4) (by omega)
      have k5 := hcell.out (p + 5) (by omega)
      rw [cnt_drop] at q3
      obtain ⟨g4, g4'⟩ := hgb.out (p + 4)
      obtain ⟨g5, g5'⟩ := hgb.out (p + 5)
      generalize F.getD (p + 4) 0 = z4 at *
      generalize F.getD (p + 5) 0 = z5 at *
      have i3 : (c : Int) < (p : Int) + (7 + z4 + z5 * 256) := by omega
      have l4 : (p : Int) + 4 < (F.length : Int) := by omega
      have l5 : (p : Int) + 5 < (F.length : Int) := by omega
      have l4' : p + 4 < F.length := by omega
      have l5' : p + 5 < F.length := by omega
      subst q4
      clear EL
      by_cases hc4 : c = A + 4
      · have t1 : ((c : Int) == (A : Int) + 4) = true := by rw [beq_iff_eq]; omega
        have t1' : (c : Int) = (A : Int) + 4 := by omega
        go_wp2_with fail
        go_quiet (fail)
        go_wp2_with fail
        all_goals
          go_ret
          exact ⟨rfl, B1w.out.trans ((below_drewN (Below.refl _ _) _).mono B1w.out.size)⟩
      have t1 : ((c : Int) == (A : Int) + 4) = false := by rw [beq_eq_false_iff_ne]; omega
      by_cases hc5 : c = A + 5
      · have t2 : ((c : Int) == (A : Int) + 5) = true := by rw [beq_iff_eq]; omega
        have t2' : (c : Int) = (A : Int) + 5 := by omega
        go_wp2_with fail
        go_quiet (fail)
        go_wp2_with fail
        all_goals
          go_ret
          exact ⟨rfl, B1w.out.trans ((below_drewN (Below.refl _ _) _).mono B1w.out.size)⟩
      have t2 : ((c : Int) == (A : Int) + 5) = false := by rw [beq_eq_false_iff_ne]; omega
      obtain ⟨K, hK, hRd, hAk, hBk⟩ := hAll.out hc4 hc5 hne.out
      have t3 : (c : Int) < (F.length : Int) := by omega
      have hgf : w0.heap.size ≤ gf := (OF.out.lt gf rfl).1
      replace hRd := hid hRd
      replace hAk := hid hAk
      replace hBk := hid hBk
      have hFs : Hid (∀ y ∈ F.set c v, 0 ≤ y ∧ y ≤ 255) := fun y hy => by
        rcases List.mem_or_eq_of_mem_set hy with h | h
        · exact HFb.out y h
        · subst h; exact hvb
      clear hne hAll
      go_wp2_with fail
      go_quiet (fail)
      go_wp2_with fail
      have bd := below_drewN (Below.refl w1.heap.size w1) (m + nq)
      have b3 : Below w.heap.size w ((w1.drewN (m + nq)).setCell ⟨gf, c, none⟩ (.int .u8 v)) := set_below (B1w.out.trans (bd.mono B1w.out.size)) gf c _ (by have := bA.out.size; omega)
      have O3 := (own_set (OF.out.later bd) c hcF v).1
      have hblk := row_blk (OF.out.later bd) gf rfl
      have E3 : ((w1.drewN (m + nq)).setCell ⟨gf, c, none⟩ (.int .u8 v)).ownsRow w0.heap.size 3 1 (.slice ae P.length ce) P.length (E.map fun (x : Nat) => Value.int .i64 (x : Int)) := row_kept2 (row_later OE'.out bd) (grown_set _ gf c _) (fun k e cc f hh => by cases e; obtain ⟨c1, f1, h1⟩ := hblk; rw [h1] at hh; simp at hh)
      have T3 : OwnR ((w1.drewN (m + nq)).setCell ⟨gf, c, none⟩ (.int .u8 v)) w0.heap.size (.slice at' P.length ct) P := row_kept2 (row_later OT.out bd) (grown_set _ gf c _) (fun k e cc f hh => by cases e; obtain ⟨c1, f1, h1⟩ := hblk; rw [h1] at hh; simp at hh)
      have HRe := hid (read_any b (some ⟨gf, 0, none⟩) F.length cf (F.set c v) ((E.zip (zss P)).take K) 2 _ (tab_later T b3) (O3.bytes hFs.out) hb hcf.1 (by omega) hRd.out (by rw [List.length_take]; omega))
      generalize (w1.drewN (m + nq)).setCell ⟨gf, c, none⟩ (.int .u8 v) = w4 at *
      replace E3 := hid E3
      replace T3 := hid T3
      replace b3 := hid b3
      clear O3 hblk bd hRd hcell hcc hfz OF OT OE' Wset B1w
      generalize lst ((E.zip (zss P)).take K) = le at HRe
      refine HRe.out.mono ?_
      rintro e w5 ⟨v5, ys, rfl, OY, hys, OYs, B5⟩
      obtain ⟨ay, cy, hvy, hay⟩ := row_shape OY
      subst hvy
      have hyl2 : ys.length = K := by
        have := congrArg List.length hys
        rw [List.length_map, List.length_take, List.length_zip, HEl.out, hzl] at this
        omega
      have hyl : (ys.map Prod.snd).length = K := by simpa using hyl2
      unfold OwnR at OY
      rw [hyl] at OY ⊢
      have OT2 := hid (row_later T3.out B5)
      have OE2 := hid (row_later E3.out B5)
      have HYs := hid OYs
      have HYY := hid OY
      have B05 := hid (b3.out.trans (B5.mono b3.out.size))
      have hys5 := hid hys
      clear OY OYs B5 hys HRe E3 T3 b3 HFb hFs
      go_wp2_with fail
      go_loopw [19, 20] (fun wh i wr => ∃ k j : Nat, i = .int .i64 (k : Int) ∧ k ≤ K ∧ wr = w5.drewN j ∧ wh = .int .i64 (k : Int)) (fun _ i _ => K - (intOf i).toNat)
      case atStart => exact ⟨0, 0, rfl, Nat.zero_le _, rfl, rfl⟩
      case round =>
        obtain ⟨k, j, rfl, hk, rfl, rfl⟩ := hrel
        obtain ⟨ge, rfl⟩ : ∃ g, ae = some ⟨g, 0, none⟩ := by
          rcases hae with h | h
          · subst h
            rcases OE2.out.2 with ⟨_, e0⟩ | ⟨g, c, cur, e, _⟩
            · omega
            · simp at e
          · exact h
        have hkP : (k : Int) < (P.length : Int) := by omega
        have ce : w5.cell? ⟨ge, k, none⟩ = some (.int .i64 ((E.getD k 0 : Nat) : Int)) := by
          have := World.ownsRow.cellAt OE2.out k (by omega)
          rw [this, List.getElem?_map, List.getD_eq_getElem?_getD, List.getElem?_eq_getElem (by rw [HEl.out]; omega)]
          rfl
        by_cases hkK : k < K
        · have hle : ((E.getD k 0 : Nat) : Int) ≤ (c : Int) := by have := hAk.out k hkK; omega
          generalize E.getD k 0 = x at *
          go_wp2_with fail
          refine ⟨⟨k + 1, j, by push_cast; rfl, by omega, rfl, by push_cast; rfl⟩, ?_⟩
          simp [intOf]; omega
        · have hkl : K = k := by omega
          subst hkl
          have hle : ¬ ((E.getD K 0 : Nat) : Int) ≤ (c : Int) := by have := hBk.out; omega
          have t0 : ((K : Int) != (K : Int)) = false := bne_self_eq_false _
          generalize E.getD K 0 = x at *
          go_wp2_with fail
          go_loopw [21] (fun i wr => ∃ k m : Nat, i = .int .i64 (k : Int) ∧ k ≤ K ∧ wr = w5.drewN m) (fun i _ => K - (intOf i).toNat)
          case atStart => exact ⟨0, j, rfl, Nat.zero_le _, rfl⟩
          case round =>
            obtain ⟨k, m, rfl, hk2, rfl⟩ := hrel
            by_cases hlt2 : k < K
            · obtain ⟨s, hs⟩ : ∃ s, P[k]? = some s := ⟨P[k]'(by omega), List.getElem?_eq_getElem _⟩
              obtain ⟨y, hy⟩ : ∃ y, ys[k]? = some y := ⟨ys[k]'(by omega), List.getElem?_eq_getElem _⟩
              have hz := zip_get2 hys5.out k y s hy hs
              obtain ⟨gy, rfl⟩ : ∃ g, ay = some ⟨g, 0, none⟩ := by
                rcases hay with h | h
                · subst h
                  rcases HYY.out.2 with ⟨_, e0⟩ | ⟨g, c, cur, e, _⟩
                  · omega
                  · simp at e
                · exact h
              obtain ⟨gt, rfl⟩ : ∃ g, at' = some ⟨g, 0, none⟩ := by
                rcases hat with h | h
                · subst h
                  rcases OT2.out.2 with ⟨_, e0⟩ | ⟨g, c, cur, e, _⟩
                  · omega
                  · simp at e
                · exact h
              have cy : w5.cell? ⟨gy, k, none⟩ = some y.2.v := by
                have := World.ownsRow.cellAt HYY.out k (by omega)
                rw [this, List.getElem?_map, List.getElem?_map, hy]
                rfl
              have cs : w5.cell? ⟨gt, k, none⟩ = some s.v := by
                have := World.ownsRow.cellAt OT2.out k (by omega)
                rw [this, List.getElem?_map, hs]
                rfl
              unfold Sl.v at cy cs
              have hsb := (HP.out s (List.mem_of_getElem? hs)).1
              have q1 : ∀ n, Sem.run Tryd.prog (convert 26 9 (.slice y.2.a y.2.len y.2.cap)) (w5.drewN n) = .ok (.string (str s.zs)) (w5.drewN n) := fun n => by
                have := own_conv ((HYs.out y (List.mem_of_getElem? hy)).later (below_drewN (Below.refl _ _) n))
                rw [hz] at this
                exact this
              have q2 : ∀ n, Sem.run Tryd.prog (convert 26 9 (.slice s.a s.len s.cap)) (w5.drewN n) = .ok (.string (str s.zs)) (w5.drewN n) := fun n => Bytes.conv (bytes_kept (bytes_kept hsb B05.out) (below_drewN (Below.refl _ _) n))
              have hkP : k < P.length := by omega
              go_wp2_with fail
              go_quiet (fail)
              go_wp2_with fail
              refine ⟨⟨k + 1, m + nq, by push_cast; rfl, by omega, rfl⟩, ?_⟩
              simp [intOf]; omega
            · go_wp2_with fail
              go_ret
              exact ⟨rfl, B05.out.trans ((below_drewN (Below.refl _ _) m).mono B05.out.size)⟩
    · have i1 : (p : Int) + 7 ≤ (F.length : Int) := by omega
      have hm2 : (p : Int) % (b : Int) < (b : Int) := by rw [← Int.natCast_emod]; have := Nat.mod_lt p (show 0 < b by omega); omega
      have hm3 : 0 ≤ (p : Int) % (b : Int) := by rw [← Int.natCast_emod]; omega
      have EL : (b : Int) - (p : Int) % (b : Int) = (left b p : Int) := by rw [← Int.natCast_emod]; have := Nat.mod_lt p (show 0 < b by omega); unfold left; omega
      have i2 : ¬ (b : Int) - (p : Int) % (b : Int) < 7 := by omega
      have k4 := hcell.out (p + 4) (by omega)
      have k5 := hcell.out (p + 5) (by omega)
      replace q4 := hid q4
      rw [cnt_drop] at q3 q4
      obtain ⟨g4, g4'⟩ := hgb.out (p + 4)
      obtain ⟨g5, g5'⟩ := hgb.out (p + 5)
      generalize F.getD (p + 4) 0 = z4 at *
      generalize F.getD (p + 5) 0 = z5 at *
      have i3 : ¬ (c : Int) < (p : Int) + (7 + z4 + z5 * 256) := by omega
      have l4 : (p : Int) + 4 < (F.length : Int) := by omega
      have l5 : (p : Int) + 5 < (F.length : Int) := by omega
      have l4' : p + 4 < F.length := by omega
      have l5' : p + 5 < F.length := by omega
      clear EL
      go_wp2_with fail
      go_quiet (fail)
      go_wp2_with fail
      refine ⟨⟨p + 7 + (z4.toNat + 256 * z5.toNat), m + nq, by congr 1; omega, by omega, rfl, q4⟩, ?_⟩
      simp [intOf]; omega
set_option maxRecDepth 100000 in
theorem turned_no (a0 : Int) (v1 : Value) (pl by' : Int) (w : World) (h : (decide (32 ≤ a0) && decide (a0 ≤ 32768)) = false ∨ by' = 0) : Calls Tryd.prog 3 #[.int .i64 a0, v1, .agg #[.int .i64 pl, .int .u8 by']] w fun e w' => e = .returned (.bool true) ∧ Below w.heap.size w w' := by
  have HV := fun w => valid_any a0 w
  generalize (decide (32 ≤ a0) && decide (a0 ≤ 32768)) = q at *
  replace HV := hid HV
  cases q with
  | false =>
    clear h
    go_enter Tryd.func3, Tryd.ntmps3
    go_wp2_with fail
    go_quiet (fail)
    have bA := below_drewN (box_below w (.cells #[.int .i64 pl, .int .u8 by'] 24)) nq
    generalize (w.alloc (.cells #[.int .i64 pl, .int .u8 by'] 24)).drewN nq = wA at *
    go_wp2_with fail
    refine (HV.out wA).mono ?_
    rintro e w0 ⟨rfl, rfl⟩
    go_wp2_with fail
    go_ret
    exact ⟨rfl, bA⟩
  | true =>
    have h2 : by' = 0 := by rcases h with h | h; simp at h; exact h
    subst h2
    go_enter Tryd.func3, Tryd.ntmps3
    go_wp2_with fail
    go_quiet (fail)
    have bA := below_drewN (box_below w (.cells #[.int .i64 pl, .int .u8 0] 24)) nq
    generalize (w.alloc (.cells #[.int .i64 pl, .int .u8 0] 24)).drewN nq = wA at *
    go_wp2_with fail
    refine (HV.out wA).mono ?_
    rintro e w0 ⟨rfl, rfl⟩
    go_wp2_with fail
    go_ret
    exact ⟨rfl, bA⟩
theorem turned_any (a0 : Int) (a1 : Option Addr) (len1 cap1 : Nat) (rs1 : List Sl) (pl by' : Int) (w : World) (T : Hid (Tab w)) (w0 : (Lit.int .i64 a0).wf = true) (w1 : Recs w a1 len1 cap1 rs1) (e1 : wt rs1 ≤ 1048576) (w2 : (Lit.int .i64 pl).wf = true ∧ (Lit.int .u8 by').wf = true) :
    Calls Tryd.prog 3 #[.int .i64 a0, .slice a1 len1 cap1, .agg #[.int .i64 pl, .int .u8 by']] w fun e w' => e = .returned (.bool true) ∧ Below w.heap.size w w' := by
  by_cases h0 : by' = 0
  · exact turned_no a0 _ pl by' w (.inr h0)
  cases h : (decide (32 ≤ a0) && decide (a0 ≤ 32768)) with
  | false => exact turned_no a0 _ pl by' w (.inl h)
  | true =>
    simp at h
    obtain ⟨b, rfl⟩ := Int.eq_ofNat_of_zero_le (show 0 ≤ a0 by omega)
    exact turned_ok b a1 len1 cap1 rs1 pl by' w T w1 (by omega) e1 w2.1 (by simpa [Lit.wf, IntKind.min, IntKind.max, IntKind.signed, IntKind.bits] using w2.2) h0
end Go.Proofs.YtgkoopciajjonabDoor.Tn

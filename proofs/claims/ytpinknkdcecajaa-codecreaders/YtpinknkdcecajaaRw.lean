/- The walk of CodecReaders: for all bytes and all calls of a reader, the law returns true, and writes to nothing that was there before. -/
import Derived.Test.YtpinknkdcecajaaRs
import Derived.Test.YtpinknkdcecajaaJn
import Derived.Deep.RegionWith
namespace Go.Proofs.Ytpinknkdcecajaa.codecReaders
open Go.ChangeShapes Go.WideShapes Go.ChangeAt Go.RowKit
open Go.ChangeMaps (open_string shut_string)
open Go.Proofs.Ytpinknkdcecajaa.Rd (Bytes ret_int addr_add)
open Go.Proofs.Ytpinknkdcecajaa.Wr
open Go.Proofs.Ytpinknkdcecajaa.Rx
open Go.Proofs.Ytpinknkdcecajaa.Rt
open Go.Proofs.Ytpinknkdcecajaa.Ws
open Go.Proofs.Ytpinknkdcecajaa.Wp
open Go.Proofs.Ytpinknkdcecajaa.Rr
open Go.Proofs.Ytpinknkdcecajaa.Rk (at_any err_any left_any)
open Go.Proofs.Ytpinknkdcecajaa.Rq
open Go.Proofs.Ytpinknkdcecajaa.Rf
open Go.Proofs.Ytpinknkdcecajaa.Rs
set_option linter.unusedVariables false

/-- What stays while the calls go on: the reader and the document's reader at one place, with one error, over the same bytes; all that was there before. -/
def Inv (w : World) (r gb kq : Nat) (a : Option Addr) (len cap : Nat) (zs : List Int) (p er : Int) (W : World) : Prop :=
  At W r (.slice (some ⟨gb, 0, none⟩) len len) p er ∧ Bytes W (some ⟨gb, 0, none⟩) len len zs ∧ Qt W kq (.slice a len cap) p er ∧ Below w.heap.size w W ∧ w.heap.size ≤ r ∧ w.heap.size ≤ gb ∧ w.heap.size ≤ kq ∧ gb ≠ r ∧ kq ≠ r ∧ gb ≠ kq
theorem inv_m {w : World} {r gb kq : Nat} {a : Option Addr} {len cap : Nat} {zs : List Int} {p er p' er' : Int} {W W' : World} (I : Inv w r gb kq a len cap zs p er W) (A : At W' r (.slice (some ⟨gb, 0, none⟩) len len) p' er') (g : W.grownBy W' (some r)) :
    At W' r (.slice (some ⟨gb, 0, none⟩) len len) p' er' ∧ Bytes W' (some ⟨gb, 0, none⟩) len len zs ∧ Qt W' kq (.slice a len cap) p er ∧ Below w.heap.size w W' := by
  obtain ⟨_, h2, h3, h4, h5, h6, h7, h8, h9, h10⟩ := I
  refine ⟨A, bytes_grown h2 g (by intro x hx; simp at hx; subst hx; simpa using h8), h3.kept g (by simpa using h9), h4.grown g h4.size (by intro k hk; simp at hk; omega)⟩
theorem inv_r {w : World} {r gb kq : Nat} {a : Option Addr} {len cap : Nat} {zs : List Int} {p er p' er' : Int} {W W1 W' : World} (I : Inv w r gb kq a len cap zs p er W) (J : At W1 r (.slice (some ⟨gb, 0, none⟩) len len) p' er' ∧ Bytes W1 (some ⟨gb, 0, none⟩) len len zs ∧ Qt W1 kq (.slice a len cap) p er ∧ Below w.heap.size w W1)
    (B : Qt W' kq (.slice a len cap) p' er') (g : W1.grownBy W' (some kq)) : Inv w r gb kq a len cap zs p' er' W' := by
  obtain ⟨_, _, _, _, h5, h6, h7, h8, h9, h10⟩ := I
  obtain ⟨j1, j2, j3, j4⟩ := J
  exact ⟨j1.kept g (by simpa using (Ne.symm h9)), bytes_grown j2 g (by intro x hx; simp at hx; subst hx; simpa using h10), B, j4.grown g j4.size (by intro k hk; simp at hk; omega), h5, h6, h7, h8, h9, h10⟩
theorem inv_d {w : World} {r gb kq : Nat} {a : Option Addr} {len cap : Nat} {zs : List Int} {p er : Int} {W : World} (I : Inv w r gb kq a len cap zs p er W) (n : Nat) : Inv w r gb kq a len cap zs p er (W.drewN n) := by
  obtain ⟨h1, h2, h3, h4, h5, h6, h7, h8, h9, h10⟩ := I
  exact ⟨h1.kept (grown_drewN _ n none) (by simp), bytes_grown h2 (grown_drewN _ n none) (by simp), h3.kept (grown_drewN _ n none) (by simp), below_drewN h4 n, h5, h6, h7, h8, h9, h10⟩

theorem Row.setv {w : World} {base g n c : Nat} {xs : List Int} (h : Row w base g n c xs) (k : Nat) (v : Int) : ∃ xs', Row (w.setCell ⟨g, k, none⟩ (.int .u8 v)) base g n c xs' ∧ w.grownBy (w.setCell ⟨g, k, none⟩ (.int .u8 v)) (some g) := by
  have := World.ownsRow.stored h k (.int .u8 v)
  refine ⟨xs.set k v, ?_, this.2⟩
  unfold Row
  rw [List.map_set]
  exact this.1

set_option maxRecDepth 100000 in
set_option maxHeartbeats 40000000 in
theorem readers (a : Option Addr) (len cap : Nat) (zs : List Int) (b2 off2 n c2 : Nat) (K M : Nat → Int) (w : World) (H : Bytes w a len cap zs) (hl : len ≤ 140737488351232)
    (hn : n ≤ 140737488351232) (hk : ∀ i, i < n → w.cell? ⟨b2, off2 + i * 2, none⟩ = some (.int .i64 (K i))) (hm : ∀ i, i < n → w.cell? ⟨b2, off2 + i * 2 + 1, none⟩ = some (.int .i64 (M i))) (hM : ∀ i, i < n → -9223372036854775808 ≤ M i ∧ M i ≤ 9223372036854775807) :
    Calls Try.prog 6 #[.slice a len cap, .slice (some ⟨b2, off2, none⟩) n c2] w fun e w' => e = .returned (.bool true) ∧ Below w.heap.size w w' := by
  have HH := hid H
  have HZ := hid H.2.2.2.1
  have Hk := hid hk
  have Hm := hid hm
  have HM := hid hM
  clear H hk hm hM
  go_enter Try.func6, Try.ntmps6
  go_wp2_with fail
  refine (lent_any a len cap zs _ HH.out (by omega)).mono ?_
  rintro e w1 ⟨gi, ci, rfl, R, b1⟩
  have HR := hid R
  have HB1 := hid b1
  clear R b1
  go_wp2_with fail
  refine (new_any _ len ci zs _ (lent_bytes HR.out HZ.out) (by omega)).mono ?_
  rintro e W2 ⟨r, rfl, A2, B2, hr2, b2'⟩
  have HA2 := hid A2
  have HBy2 := hid B2
  have HB2 := hid b2'
  have HR2 := hid (row_below HR.out b2')
  clear A2 B2 b2'
  go_wp2_with fail
  refine (kept_any _ gi ci a len cap zs _ HR2.out (bytes_kept (bytes_kept HH.out HB1.out) HB2.out) (by omega)).mono ?_
  rintro e w' ⟨rfl, rfl⟩
  go_wp2_with fail
  go_loopw [7] (fun i wr => ∃ k : Nat, ∃ xs' : List Int, k ≤ len ∧ i = .int .i64 k ∧ Hid (Row wr w.heap.size gi (len + 1) ci xs') ∧ Hid (w'.grownBy wr (some gi))) (fun i _ => len - (intOf i).toNat)
  case atStart => exact ⟨0, zs ++ [90], by omega, rfl, HR2, World.grownBy.refl _ _⟩
  case round =>
    obtain ⟨k, xs', hk, rfl, hrow, hgr⟩ := hrel
    by_cases h : k < len
    · have hcell := hrow.out.cell k (by omega)
      have hfz : wr.frozen? ⟨gi, k, none⟩ = false := World.ownsRow.frozenAt hrow.out k
      have HS := hid (fun v => Row.setv hrow.out k v)
      generalize xs'.getD k 0 = y at hcell
      clear hrow
      go_wp2
      go_roundw
      case rel =>
        obtain ⟨xs2, R2, g2⟩ := HS.out _
        exact ⟨k + 1, xs2, by omega, by go_num, R2, grown_trans hgr.out g2⟩
      case measure => simp [intOf]; omega
    · have hgi := HR.out.lt.2
      have hA3 := HA2.out.kept hgr.out (by simp; omega)
      have hB3 := bytes_grown HBy2.out hgr.out (by intro x hx; simp at hx; subst hx; simp; omega)
      have hL3 : Below w.heap.size w wr := (HB1.out.trans (HB2.out.mono HB1.out.size)).grown hgr.out (by have := HB1.out.size; have := HB2.out.size; omega) (by intro j hj; simp at hj; have := HR.out.lt.1; omega)
      have hH3 := bytes_kept HH.out hL3
      have hr3 := hA3.lt
      have hb1 := HB1.out.size
      have J3 := hid (⟨hA3, hB3, hL3⟩ : At wr r (.slice (some ⟨w1.heap.size, 0, none⟩) len len) 0 0 ∧ Bytes wr (some ⟨w1.heap.size, 0, none⟩) len len zs ∧ Below w.heap.size w wr)
      clear hrow hgr HR2 HA2 HBy2 HB2 HR HB1 hA3 hB3 hL3 hH3
      go_wp2_with fail
      have I0 : Inv w r w1.heap.size wr.heap.size a len cap zs 0 0 (wr.alloc (.cells #[.slice a len cap, .int .i64 0, .int .i64 0] 58)) := by
        obtain ⟨j1, j2, j3⟩ := J3.out
        refine ⟨j1.kept (World.grownBy_alloc _ _ none) (by simp), bytes_grown j2 (World.grownBy_alloc _ _ none) (by simp), ?_, j3.alloc j3.size _, by omega, by omega, j3.size, by omega, by omega, by omega⟩
        show (wr.heap.push _)[wr.heap.size]? = _
        simp
      obtain ⟨W0, hW0⟩ : ∃ W0, W0 = (wr.alloc (.cells #[.slice a len cap, .int .i64 0, .int .i64 0] 58)) := ⟨_, rfl⟩
      rw [← hW0] at I0 ⊢
      have HI0 := hid I0
      clear I0 hW0 J3 hr3
      generalize wr.heap.size = kq at HI0 ⊢
      generalize w1.heap.size = gb at HI0 hb1 hr2 hgi
      clear hb1 hr2 hgi h
      go_loopw [9] (fun i wx => ∃ k : Nat, ∃ p er : Int, k ≤ n ∧ i = .int .i64 k ∧ 0 ≤ p ∧ p ≤ len ∧ Hid (Inv w r gb kq a len cap zs p er wx)) (fun i _ => n - (intOf i).toNat)
      case atStart => exact ⟨0, 0, 0, by omega, rfl, by omega, by omega, HI0⟩
      case round =>
        clear HI0
        obtain ⟨k, p, er, hkn, rfl, hp0, hp1, HI⟩ := hrel
        have F33 := hid (fun m => at_any r _ p er _ (inv_d HI.out m).1)
        have F34 := hid (fun m => left_any r gb len len p er _ (inv_d HI.out m).1 (by omega) (by omega))
        have F35 := hid (fun m => err_any r _ p er _ (inv_d HI.out m).1)
        have q1 := HI.out.2.2.1.c1
        have q2 := HI.out.2.2.1.c2
        by_cases hk : k = n
        · subst hk
          go_wp2_with fail
          go_quiet (first | (go_at_call 33; exact Calls.quiet_of_same (F33.out _)) | (go_at_call 34; exact Calls.quiet_of (F34.out _)) | (go_at_call 35; exact Calls.quiet_of_same (F35.out _)))
          go_wp2_with fail
          refine (names_any _).mono ?_
          rintro e wz ⟨rfl, rfl⟩
          go_wp2_with fail
          go_ret
          exact ⟨rfl, (inv_d HI.out nq).2.2.2.1⟩
        · have hk1 := cell_later HI.out.2.2.2.1 (Hk.out k (by omega))
          have hk2 := cell_later HI.out.2.2.2.1 (Hm.out k (by omega))
          have hne : ((k : Int) == (n : Int)) = false := by simp; omega
          have hkn' : (k : Int) < (n : Int) := by omega
          have hMk := HM.out k (by omega)
          have hb2 : b2 < w.heap.size := World.block_lt_of_cell? _ _ (Hm.out k (by omega))
          generalize K k = kind at hk1
          generalize M k = most at hk2 hMk
          have HMk := hid hMk
          clear hMk
          go_wp2_with fail
          go_quiet (first | (go_at_call 33; exact Calls.quiet_of_same (F33.out _)) | (go_at_call 34; exact Calls.quiet_of (F34.out _)) | (go_at_call 35; exact Calls.quiet_of_same (F35.out _)))
          clear F33 F34 F35 q1 q2
          obtain ⟨W1, hW1⟩ : ∃ W1, W1 = wr.drewN nq := ⟨_, rfl⟩
          rw [← hW1]
          have HI1 := hid (inv_d HI.out nq)
          rw [← hW1] at HI1
          have e1 : W1.cell? ⟨b2, off2 + k * 2, none⟩ = some (.int .i64 kind) := by rw [hW1]; exact hk1
          have e2 : W1.cell? ⟨b2, off2 + k * 2 + 1, none⟩ = some (.int .i64 most) := by rw [hW1]; exact hk2
          clear hW1 HI hk1 hk2
          by_cases hK : kind = 0
          · subst hK
            go_wp2_with fail
            refine (m_V r gb len zs p er _ HI1.out.1 HI1.out.2.1 (by omega) HI1.out.2.2.2.2.2.2.2.1).mono ?_
            rintro e W2 ⟨rfl, A2, g2⟩
            have J2 := hid (inv_m HI1.out A2 g2)
            clear A2 g2
            go_wp2_with fail
            refine (r_V kq a len cap zs p er _ J2.out.2.2.1 (bytes_kept HH.out J2.out.2.2.2) (by omega)).mono ?_
            rintro e W3 ⟨rfl, B3, g3⟩
            have I3 := hid (inv_r HI1.out J2.out B3 g3)
            have hbd := sV_bd zs HZ.out p er ⟨hp0, by have := HH.out.1; omega⟩
            clear B3 g3 J2
            go_wp2_with fail
            go_roundw
            case rel => exact ⟨k + 1, (sV zs p er).2.1, (sV zs p er).2.2, by omega, by go_num, hbd.1, by have := hbd.2; have := HH.out.1; omega, I3⟩
            case measure => simp [intOf]; omega
          by_cases hK1 : kind = 1
          · subst hK1
            have I1d : Hid (Inv w r gb kq a len cap zs p er W1.drew) := inv_d HI1.out 1
            have hwr : w.heap.size ≤ r := HI1.out.2.2.2.2.1
            have hbd := hid (sN_bd most zs HZ.out p er ⟨hp0, by have := HH.out.1; omega⟩)
            clear HI1
            go_wp2_with fail
            refine wp_region_any (by kernel_rfl) ?_
            change wpAny _ _ _ _ _ _ _ (World.drew _)
            refine wpAny_take (i := 0) (v := ?v1) rfl (by kernel_rfl) (by kernel_rfl) (by kernel_rfl) (fun _ _ _ h => h) (Or.inl ⟨by rfl, ?h1⟩) ?_
            case h1 => (intro w; go_simp; try (with_reducible rfl))
            go_simp
            refine wpAny_take (i := 1) (v := ?v2) rfl (by kernel_rfl) (by kernel_rfl) (by kernel_rfl) (fun _ _ _ h => h) (Or.inl ⟨by rfl, ?h2⟩) ?_
            case h2 => (intro w; go_simp; try (with_reducible rfl))
            go_simp
            refine wpAny_take (i := 2) (v := ?v3) rfl (by kernel_rfl) (by kernel_rfl) (by kernel_rfl) (fun _ _ _ h => h) (Or.inl ⟨by rfl, ?h3⟩) ?_
            case h3 => (intro w; go_simp; try (with_reducible rfl))
            go_simp
            refine wpAny_take (i := 3) (v := ?v4) rfl (by kernel_rfl) (by kernel_rfl) (by kernel_rfl) (fun _ _ _ h => h) (Or.inl ⟨by rfl, ?h4⟩) ?_
            case h4 => (intro w; go_simp; try (with_reducible rfl))
            go_simp
            refine wpAny_take (i := 4) (v := ?v5) rfl (by kernel_rfl) (by kernel_rfl) (by kernel_rfl) (fun _ _ _ h => h) (Or.inl ⟨by rfl, ?h5⟩) ?_
            case h5 => (intro w; go_simp; try (with_reducible rfl))
            go_simp
            refine wpAny_take (i := 7) (v := ?v6) rfl (by kernel_rfl) (by kernel_rfl) (by kernel_rfl) (fun _ _ _ h => h) (Or.inl ⟨by rfl, ?h6⟩) ?_
            case h6 => (intro w; go_simp; try (with_reducible rfl))
            go_simp
            refine wpAny_take (i := 8) (v := ?v7) rfl (by kernel_rfl) (by kernel_rfl) (by kernel_rfl) (fun _ _ _ h => h) (Or.inl ⟨by rfl, ?h7⟩) ?_
            case h7 => (intro w; go_simp; try (with_reducible rfl))
            go_simp
            refine wpAny_take (i := 9) (v := ?v8) rfl (by kernel_rfl) (by kernel_rfl) (by kernel_rfl) (fun _ _ _ h => h) (Or.inl ⟨by rfl, ?h8⟩) ?_
            case h8 => (intro w; go_simp; try (with_reducible rfl))
            go_simp
            refine wpAny_take (i := 10) (v := ?v9) rfl (by kernel_rfl) (by kernel_rfl) (by kernel_rfl) (fun _ _ _ h => h) (Or.inl ⟨by rfl, ?h9⟩) ?_
            case h9 => (intro w; go_simp; try (with_reducible rfl))
            go_simp
            refine wpAny_take (i := 11) (v := ?v10) rfl (by kernel_rfl) (by kernel_rfl) (by kernel_rfl) (fun _ _ _ h => h) (Or.inl ⟨by rfl, ?h10⟩) ?_
            case h10 => (intro w; go_simp; try (with_reducible rfl))
            go_simp
            refine wpAny_ready (rs := [5, 12]) (by kernel_rfl) (by simp) ?_
            refine AllReady.cons rfl (fun K hK => ?_) ?_
            · go_simp
              refine hK _ _ ?_
              clear hK K
              refine wpAny_ready (rs := [6, 12]) (by kernel_rfl) (by simp) ?_
              refine AllReady.cons rfl (fun K hK => ?_) ?_
              · go_simp
                go_wp2_with fail
                refine (m_N r gb len zs most HMk.out p er _ I1d.out.1 I1d.out.2.1 (by omega) I1d.out.2.2.2.2.2.2.2.1).mono ?_
                rintro e W2 ⟨rfl, A2, g2⟩
                have J2 := hid (inv_m I1d.out A2 g2)
                have e3 : W2.cell? ⟨b2, off2 + k * 2 + 1, none⟩ = some (.int .i64 most) := g2.cell (w := W1.drew) e2 (by simp; omega)
                clear A2 g2
                go_wp2_with fail
                refine wpAny_ready (rs := [12]) (by kernel_rfl) (by simp) ?_
                refine AllReady.cons rfl (fun K hK => ?_) ?_
                · go_simp
                  refine hK _ _ ?_
                  clear hK K
                  refine wpAny_ready (rs := [13]) (by kernel_rfl) (by simp) ?_
                  refine AllReady.cons rfl (fun K hK => ?_) ?_
                  · go_simp
                    go_wp2_with fail
                    refine (r_N kq a len cap zs most HMk.out p er _ J2.out.2.2.1 (bytes_kept HH.out J2.out.2.2.2) (by omega)).mono ?_
                    rintro e W3 ⟨rfl, B3, g3⟩
                    have I3 := hid (inv_r I1d.out J2.out B3 g3)
                    clear B3 g3 J2
                    go_wp2_with fail
                    refine wpAny_take (i := 14) (v := ?v11) rfl (by kernel_rfl) (by kernel_rfl) (by kernel_rfl) (fun _ _ _ h => h) (Or.inl ⟨by rfl, ?h11⟩) ?_
                    case h11 => (intro w; go_simp; try (with_reducible rfl))
                    go_simp
                    refine wpAny_take (i := 15) (v := ?v12) rfl (by kernel_rfl) (by kernel_rfl) (by kernel_rfl) (fun _ _ _ h => h) (Or.inl ⟨by rfl, ?h12⟩) ?_
                    case h12 => (intro w; go_simp; try (with_reducible rfl))
                    go_simp
                    refine wpAny_done (by kernel_rfl) ?_ _
                    go_wp2_with fail
                    go_roundw
                    case rel => exact ⟨k + 1, (sN most zs p er).2.1, (sN most zs p er).2.2, by omega, by go_num, hbd.out.1, by have := hbd.out.2; have := HH.out.1; omega, I3⟩
                    case measure => simp [intOf]; omega
                  exact AllReady.nil
                exact AllReady.nil
              refine AllReady.cons rfl (fun K hK => ?_) ?_
              · go_simp
                refine hK _ _ ?_
                clear hK K
                refine wpAny_ready (rs := [6]) (by kernel_rfl) (by simp) ?_
                refine AllReady.cons rfl (fun K hK => ?_) ?_
                · go_simp
                  go_wp2_with fail
                  refine (m_N r gb len zs most HMk.out p er _ I1d.out.1 I1d.out.2.1 (by omega) I1d.out.2.2.2.2.2.2.2.1).mono ?_
                  rintro e W2 ⟨rfl, A2, g2⟩
                  have J2 := hid (inv_m I1d.out A2 g2)
                  have e3 : W2.cell? ⟨b2, off2 + k * 2 + 1, none⟩ = some (.int .i64 most) := g2.cell (w := W1.drew) e2 (by simp; omega)
                  clear A2 g2
                  go_wp2_with fail
                  refine wpAny_ready (rs := [13]) (by kernel_rfl) (by simp) ?_
                  refine AllReady.cons rfl (fun K hK => ?_) ?_
                  · go_simp
                    go_wp2_with fail
                    refine (r_N kq a len cap zs most HMk.out p er _ J2.out.2.2.1 (bytes_kept HH.out J2.out.2.2.2) (by omega)).mono ?_
                    rintro e W3 ⟨rfl, B3, g3⟩
                    have I3 := hid (inv_r I1d.out J2.out B3 g3)
                    clear B3 g3 J2
                    go_wp2_with fail
                    refine wpAny_take (i := 14) (v := ?v13) rfl (by kernel_rfl) (by kernel_rfl) (by kernel_rfl) (fun _ _ _ h => h) (Or.inl ⟨by rfl, ?h13⟩) ?_
                    case h13 => (intro w; go_simp; try (with_reducible rfl))
                    go_simp
                    refine wpAny_take (i := 15) (v := ?v14) rfl (by kernel_rfl) (by kernel_rfl) (by kernel_rfl) (fun _ _ _ h => h) (Or.inl ⟨by rfl, ?h14⟩) ?_
                    case h14 => (intro w; go_simp; try (with_reducible rfl))
                    go_simp
                    refine wpAny_done (by kernel_rfl) ?_ _
                    go_wp2_with fail
                    go_roundw
                    case rel => exact ⟨k + 1, (sN most zs p er).2.1, (sN most zs p er).2.2, by omega, by go_num, hbd.out.1, by have := hbd.out.2; have := HH.out.1; omega, I3⟩
                    case measure => simp [intOf]; omega
                  exact AllReady.nil
                exact AllReady.nil
              exact AllReady.nil
            refine AllReady.cons rfl (fun K hK => ?_) ?_
            · go_simp
              refine hK _ _ ?_
              clear hK K
              refine wpAny_ready (rs := [5]) (by kernel_rfl) (by simp) ?_
              refine AllReady.cons rfl (fun K hK => ?_) ?_
              · go_simp
                refine hK _ _ ?_
                clear hK K
                refine wpAny_ready (rs := [6]) (by kernel_rfl) (by simp) ?_
                refine AllReady.cons rfl (fun K hK => ?_) ?_
                · go_simp
                  go_wp2_with fail
                  refine (m_N r gb len zs most HMk.out p er _ I1d.out.1 I1d.out.2.1 (by omega) I1d.out.2.2.2.2.2.2.2.1).mono ?_
                  rintro e W2 ⟨rfl, A2, g2⟩
                  have J2 := hid (inv_m I1d.out A2 g2)
                  have e3 : W2.cell? ⟨b2, off2 + k * 2 + 1, none⟩ = some (.int .i64 most) := g2.cell (w := W1.drew) e2 (by simp; omega)
                  clear A2 g2
                  go_wp2_with fail
                  refine wpAny_ready (rs := [13]) (by kernel_rfl) (by simp) ?_
                  refine AllReady.cons rfl (fun K hK => ?_) ?_
                  · go_simp
                    go_wp2_with fail
                    refine (r_N kq a len cap zs most HMk.out p er _ J2.out.2.2.1 (bytes_kept HH.out J2.out.2.2.2) (by omega)).mono ?_
                    rintro e W3 ⟨rfl, B3, g3⟩
                    have I3 := hid (inv_r I1d.out J2.out B3 g3)
                    clear B3 g3 J2
                    go_wp2_with fail
                    refine wpAny_take (i := 14) (v := ?v15) rfl (by kernel_rfl) (by kernel_rfl) (by kernel_rfl) (fun _ _ _ h => h) (Or.inl ⟨by rfl, ?h15⟩) ?_
                    case h15 => (intro w; go_simp; try (with_reducible rfl))
                    go_simp
                    refine wpAny_take (i := 15) (v := ?v16) rfl (by kernel_rfl) (by kernel_rfl) (by kernel_rfl) (fun _ _ _ h => h) (Or.inl ⟨by rfl, ?h16⟩) ?_
                    case h16 => (intro w; go_simp; try (with_reducible rfl))
                    go_simp
                    refine wpAny_done (by kernel_rfl) ?_ _
                    go_wp2_with fail
                    go_roundw
                    case rel => exact ⟨k + 1, (sN most zs p er).2.1, (sN most zs p er).2.2, by omega, by go_num, hbd.out.1, by have := hbd.out.2; have := HH.out.1; omega, I3⟩
                    case measure => simp [intOf]; omega
                  exact AllReady.nil
                exact AllReady.nil
              exact AllReady.nil
            exact AllReady.nil
          by_cases hK2 : kind = 2
          · subst hK2
            have hx := sF_lt4 zs HZ.out p er
            obtain ⟨hx0, hx1⟩ := hx
            go_wp2_with fail
            refine (m_F32 r gb len zs p er _ HI1.out.1 HI1.out.2.1 (by omega) HI1.out.2.2.2.2.2.2.2.1).mono ?_
            rintro e W2 ⟨rfl, A2, g2⟩
            have J2 := hid (inv_m HI1.out A2 g2)
            clear A2 g2
            go_wp2_with fail
            refine (r_F32 kq a len cap zs p er _ J2.out.2.2.1 (bytes_kept HH.out J2.out.2.2.2) (by omega)).mono ?_
            rintro e W3 ⟨rfl, B3, g3⟩
            have I3 := hid (inv_r HI1.out J2.out B3 g3)
            have hbd := sF_bd 4 zs p er ⟨hp0, by have := HH.out.1; omega⟩
            clear B3 g3 J2
            go_wp2_with fail
            go_roundw
            case rel => exact ⟨k + 1, (sF 4 zs p er).2.1, (sF 4 zs p er).2.2, by omega, by go_num, hbd.1, by have := hbd.2; have := HH.out.1; omega, I3⟩
            case measure => simp [intOf]; omega
          by_cases hK3 : kind = 3
          · subst hK3
            go_wp2_with fail
            refine (m_F64 r gb len zs p er _ HI1.out.1 HI1.out.2.1 (by omega) HI1.out.2.2.2.2.2.2.2.1).mono ?_
            rintro e W2 ⟨rfl, A2, g2⟩
            have J2 := hid (inv_m HI1.out A2 g2)
            clear A2 g2
            go_wp2_with fail
            refine (r_F64 kq a len cap zs p er _ J2.out.2.2.1 (bytes_kept HH.out J2.out.2.2.2) (by omega)).mono ?_
            rintro e W3 ⟨rfl, B3, g3⟩
            have I3 := hid (inv_r HI1.out J2.out B3 g3)
            have hbd := sF_bd 8 zs p er ⟨hp0, by have := HH.out.1; omega⟩
            clear B3 g3 J2
            go_wp2_with fail
            go_roundw
            case rel => exact ⟨k + 1, (sF 8 zs p er).2.1, (sF 8 zs p er).2.2, by omega, by go_num, hbd.1, by have := hbd.2; have := HH.out.1; omega, I3⟩
            case measure => simp [intOf]; omega
          by_cases hK4 : kind = 4
          · subst hK4
            have I1d : Hid (Inv w r gb kq a len cap zs p er W1.drew) := inv_d HI1.out 1
            have hwr : w.heap.size ≤ r := HI1.out.2.2.2.2.1
            have hbd := hid (sT_bd most zs HZ.out p er ⟨hp0, by have := HH.out.1; omega⟩)
            clear HI1
            go_wp2_with fail
            refine wp_region_any (by kernel_rfl) ?_
            change wpAny _ _ _ _ _ _ _ (World.drew _)
            refine wpAny_take (i := 0) (v := ?v17) rfl (by kernel_rfl) (by kernel_rfl) (by kernel_rfl) (fun _ _ _ h => h) (Or.inl ⟨by rfl, ?h17⟩) ?_
            case h17 => (intro w; go_simp; try (with_reducible rfl))
            go_simp
            refine wpAny_take (i := 1) (v := ?v18) rfl (by kernel_rfl) (by kernel_rfl) (by kernel_rfl) (fun _ _ _ h => h) (Or.inl ⟨by rfl, ?h18⟩) ?_
            case h18 => (intro w; go_simp; try (with_reducible rfl))
            go_simp
            refine wpAny_take (i := 2) (v := ?v19) rfl (by kernel_rfl) (by kernel_rfl) (by kernel_rfl) (fun _ _ _ h => h) (Or.inl ⟨by rfl, ?h19⟩) ?_
            case h19 => (intro w; go_simp; try (with_reducible rfl))
            go_simp
            refine wpAny_take (i := 3) (v := ?v20) rfl (by kernel_rfl) (by kernel_rfl) (by kernel_rfl) (fun _ _ _ h => h) (Or.inl ⟨by rfl, ?h20⟩) ?_
            case h20 => (intro w; go_simp; try (with_reducible rfl))
            go_simp
            refine wpAny_take (i := 4) (v := ?v21) rfl (by kernel_rfl) (by kernel_rfl) (by kernel_rfl) (fun _ _ _ h => h) (Or.inl ⟨by rfl, ?h21⟩) ?_
            case h21 => (intro w; go_simp; try (with_reducible rfl))
            go_simp
            refine wpAny_take (i := 7) (v := ?v22) rfl (by kernel_rfl) (by kernel_rfl) (by kernel_rfl) (fun _ _ _ h => h) (Or.inl ⟨by rfl, ?h22⟩) ?_
            case h22 => (intro w; go_simp; try (with_reducible rfl))
            go_simp
            refine wpAny_take (i := 8) (v := ?v23) rfl (by kernel_rfl) (by kernel_rfl) (by kernel_rfl) (fun _ _ _ h => h) (Or.inl ⟨by rfl, ?h23⟩) ?_
            case h23 => (intro w; go_simp; try (with_reducible rfl))
            go_simp
            refine wpAny_take (i := 9) (v := ?v24) rfl (by kernel_rfl) (by kernel_rfl) (by kernel_rfl) (fun _ _ _ h => h) (Or.inl ⟨by rfl, ?h24⟩) ?_
            case h24 => (intro w; go_simp; try (with_reducible rfl))
            go_simp
            refine wpAny_take (i := 10) (v := ?v25) rfl (by kernel_rfl) (by kernel_rfl) (by kernel_rfl) (fun _ _ _ h => h) (Or.inl ⟨by rfl, ?h25⟩) ?_
            case h25 => (intro w; go_simp; try (with_reducible rfl))
            go_simp
            refine wpAny_take (i := 11) (v := ?v26) rfl (by kernel_rfl) (by kernel_rfl) (by kernel_rfl) (fun _ _ _ h => h) (Or.inl ⟨by rfl, ?h26⟩) ?_
            case h26 => (intro w; go_simp; try (with_reducible rfl))
            go_simp
            refine wpAny_ready (rs := [5, 12]) (by kernel_rfl) (by simp) ?_
            refine AllReady.cons rfl (fun K hK => ?_) ?_
            · go_simp
              refine hK _ _ ?_
              clear hK K
              refine wpAny_ready (rs := [6, 12]) (by kernel_rfl) (by simp) ?_
              refine AllReady.cons rfl (fun K hK => ?_) ?_
              · go_simp
                go_wp2_with fail
                refine (m_T r gb len zs most HMk.out p er _ I1d.out.1 I1d.out.2.1 (by omega) I1d.out.2.2.2.2.2.2.2.1).mono ?_
                rintro e W2 ⟨rfl, A2, g2⟩
                have J2 := hid (inv_m I1d.out A2 g2)
                have e3 : W2.cell? ⟨b2, off2 + k * 2 + 1, none⟩ = some (.int .i64 most) := g2.cell (w := W1.drew) e2 (by simp; omega)
                clear A2 g2
                go_wp2_with fail
                refine wpAny_ready (rs := [12]) (by kernel_rfl) (by simp) ?_
                refine AllReady.cons rfl (fun K hK => ?_) ?_
                · go_simp
                  refine hK _ _ ?_
                  clear hK K
                  refine wpAny_ready (rs := [13]) (by kernel_rfl) (by simp) ?_
                  refine AllReady.cons rfl (fun K hK => ?_) ?_
                  · go_simp
                    go_wp2_with fail
                    refine (r_T kq a len cap zs most HMk.out p er _ J2.out.2.2.1 (bytes_kept HH.out J2.out.2.2.2) (by omega)).mono ?_
                    rintro e W3 ⟨rfl, B3, g3⟩
                    have I3 := hid (inv_r I1d.out J2.out B3 g3)
                    clear B3 g3 J2
                    go_wp2_with fail
                    refine wpAny_take (i := 14) (v := ?v27) rfl (by kernel_rfl) (by kernel_rfl) (by kernel_rfl) (fun _ _ _ h => h) (Or.inl ⟨by rfl, ?h27⟩) ?_
                    case h27 => (intro w; go_simp; try (with_reducible rfl))
                    go_simp
                    refine wpAny_take (i := 15) (v := ?v28) rfl (by kernel_rfl) (by kernel_rfl) (by kernel_rfl) (fun _ _ _ h => h) (Or.inl ⟨by rfl, ?h28⟩) ?_
                    case h28 => (intro w; go_simp; try (with_reducible rfl))
                    go_simp
                    refine wpAny_done (by kernel_rfl) ?_ _
                    go_wp2_with fail
                    go_roundw
                    case rel => exact ⟨k + 1, (sT most zs p er).2.1, (sT most zs p er).2.2, by omega, by go_num, hbd.out.1, by have := hbd.out.2; have := HH.out.1; omega, I3⟩
                    case measure => simp [intOf]; omega
                  exact AllReady.nil
                exact AllReady.nil
              refine AllReady.cons rfl (fun K hK => ?_) ?_
              · go_simp
                refine hK _ _ ?_
                clear hK K
                refine wpAny_ready (rs := [6]) (by kernel_rfl) (by simp) ?_
                refine AllReady.cons rfl (fun K hK => ?_) ?_
                · go_simp
                  go_wp2_with fail
                  refine (m_T r gb len zs most HMk.out p er _ I1d.out.1 I1d.out.2.1 (by omega) I1d.out.2.2.2.2.2.2.2.1).mono ?_
                  rintro e W2 ⟨rfl, A2, g2⟩
                  have J2 := hid (inv_m I1d.out A2 g2)
                  have e3 : W2.cell? ⟨b2, off2 + k * 2 + 1, none⟩ = some (.int .i64 most) := g2.cell (w := W1.drew) e2 (by simp; omega)
                  clear A2 g2
                  go_wp2_with fail
                  refine wpAny_ready (rs := [13]) (by kernel_rfl) (by simp) ?_
                  refine AllReady.cons rfl (fun K hK => ?_) ?_
                  · go_simp
                    go_wp2_with fail
                    refine (r_T kq a len cap zs most HMk.out p er _ J2.out.2.2.1 (bytes_kept HH.out J2.out.2.2.2) (by omega)).mono ?_
                    rintro e W3 ⟨rfl, B3, g3⟩
                    have I3 := hid (inv_r I1d.out J2.out B3 g3)
                    clear B3 g3 J2
                    go_wp2_with fail
                    refine wpAny_take (i := 14) (v := ?v29) rfl (by kernel_rfl) (by kernel_rfl) (by kernel_rfl) (fun _ _ _ h => h) (Or.inl ⟨by rfl, ?h29⟩) ?_
                    case h29 => (intro w; go_simp; try (with_reducible rfl))
                    go_simp
                    refine wpAny_take (i := 15) (v := ?v30) rfl (by kernel_rfl) (by kernel_rfl) (by kernel_rfl) (fun _ _ _ h => h) (Or.inl ⟨by rfl, ?h30⟩) ?_
                    case h30 => (intro w; go_simp; try (with_reducible rfl))
                    go_simp
                    refine wpAny_done (by kernel_rfl) ?_ _
                    go_wp2_with fail
                    go_roundw
                    case rel => exact ⟨k + 1, (sT most zs p er).2.1, (sT most zs p er).2.2, by omega, by go_num, hbd.out.1, by have := hbd.out.2; have := HH.out.1; omega, I3⟩
                    case measure => simp [intOf]; omega
                  exact AllReady.nil
                exact AllReady.nil
              exact AllReady.nil
            refine AllReady.cons rfl (fun K hK => ?_) ?_
            · go_simp
              refine hK _ _ ?_
              clear hK K
              refine wpAny_ready (rs := [5]) (by kernel_rfl) (by simp) ?_
              refine AllReady.cons rfl (fun K hK => ?_) ?_
              · go_simp
                refine hK _ _ ?_
                clear hK K
                refine wpAny_ready (rs := [6]) (by kernel_rfl) (by simp) ?_
                refine AllReady.cons rfl (fun K hK => ?_) ?_
                · go_simp
                  go_wp2_with fail
                  refine (m_T r gb len zs most HMk.out p er _ I1d.out.1 I1d.out.2.1 (by omega) I1d.out.2.2.2.2.2.2.2.1).mono ?_
                  rintro e W2 ⟨rfl, A2, g2⟩
                  have J2 := hid (inv_m I1d.out A2 g2)
                  have e3 : W2.cell? ⟨b2, off2 + k * 2 + 1, none⟩ = some (.int .i64 most) := g2.cell (w := W1.drew) e2 (by simp; omega)
                  clear A2 g2
                  go_wp2_with fail
                  refine wpAny_ready (rs := [13]) (by kernel_rfl) (by simp) ?_
                  refine AllReady.cons rfl (fun K hK => ?_) ?_
                  · go_simp
                    go_wp2_with fail
                    refine (r_T kq a len cap zs most HMk.out p er _ J2.out.2.2.1 (bytes_kept HH.out J2.out.2.2.2) (by omega)).mono ?_
                    rintro e W3 ⟨rfl, B3, g3⟩
                    have I3 := hid (inv_r I1d.out J2.out B3 g3)
                    clear B3 g3 J2
                    go_wp2_with fail
                    refine wpAny_take (i := 14) (v := ?v31) rfl (by kernel_rfl) (by kernel_rfl) (by kernel_rfl) (fun _ _ _ h => h) (Or.inl ⟨by rfl, ?h31⟩) ?_
                    case h31 => (intro w; go_simp; try (with_reducible rfl))
                    go_simp
                    refine wpAny_take (i := 15) (v := ?v32) rfl (by kernel_rfl) (by kernel_rfl) (by kernel_rfl) (fun _ _ _ h => h) (Or.inl ⟨by rfl, ?h32⟩) ?_
                    case h32 => (intro w; go_simp; try (with_reducible rfl))
                    go_simp
                    refine wpAny_done (by kernel_rfl) ?_ _
                    go_wp2_with fail
                    go_roundw
                    case rel => exact ⟨k + 1, (sT most zs p er).2.1, (sT most zs p er).2.2, by omega, by go_num, hbd.out.1, by have := hbd.out.2; have := HH.out.1; omega, I3⟩
                    case measure => simp [intOf]; omega
                  exact AllReady.nil
                exact AllReady.nil
              exact AllReady.nil
            exact AllReady.nil
          have t0 : (kind == 0) = false := by simp [hK]
          have t1 : (kind == 1) = false := by simp [hK1]
          have t2 : (kind == 2) = false := by simp [hK2]
          have t3 : (kind == 3) = false := by simp [hK3]
          have t4 : (kind == 4) = false := by simp [hK4]
          clear hK hK1 hK2 hK3 hK4
          go_wp2_with fail
          go_roundw
          case rel => exact ⟨k + 1, p, er, by omega, by go_num, hp0, hp1, HI1⟩
          case measure => simp [intOf]; omega
set_option maxRecDepth 100000 in
set_option maxHeartbeats 40000000 in
theorem readers0 (a : Option Addr) (len cap : Nat) (zs : List Int) (a2 : Option Addr) (c2 : Nat) (w : World) (H : Bytes w a len cap zs) (hl : len ≤ 140737488351232) :
    Calls Try.prog 6 #[.slice a len cap, .slice a2 0 c2] w fun e w' => e = .returned (.bool true) ∧ Below w.heap.size w w' := by
  have HH := hid H
  have HZ := hid H.2.2.2.1
  clear H
  go_enter Try.func6, Try.ntmps6
  go_wp2_with fail
  refine (lent_any a len cap zs _ HH.out (by omega)).mono ?_
  rintro e w1 ⟨gi, ci, rfl, R, b1⟩
  have HR := hid R
  have HB1 := hid b1
  clear R b1
  go_wp2_with fail
  refine (new_any _ len ci zs _ (lent_bytes HR.out HZ.out) (by omega)).mono ?_
  rintro e W2 ⟨r, rfl, A2, B2, hr2, b2'⟩
  have HA2 := hid A2
  have HBy2 := hid B2
  have HB2 := hid b2'
  have HR2 := hid (row_below HR.out b2')
  clear A2 B2 b2'
  go_wp2_with fail
  refine (kept_any _ gi ci a len cap zs _ HR2.out (bytes_kept (bytes_kept HH.out HB1.out) HB2.out) (by omega)).mono ?_
  rintro e w' ⟨rfl, rfl⟩
  go_wp2_with fail
  go_loopw [7] (fun i wr => ∃ k : Nat, ∃ xs' : List Int, k ≤ len ∧ i = .int .i64 k ∧ Hid (Row wr w.heap.size gi (len + 1) ci xs') ∧ Hid (w'.grownBy wr (some gi))) (fun i _ => len - (intOf i).toNat)
  case atStart => exact ⟨0, zs ++ [90], by omega, rfl, HR2, World.grownBy.refl _ _⟩
  case round =>
    obtain ⟨k, xs', hk, rfl, hrow, hgr⟩ := hrel
    by_cases h : k < len
    · have hcell := hrow.out.cell k (by omega)
      have hfz : wr.frozen? ⟨gi, k, none⟩ = false := World.ownsRow.frozenAt hrow.out k
      have HS := hid (fun v => Row.setv hrow.out k v)
      generalize xs'.getD k 0 = y at hcell
      clear hrow
      go_wp2
      go_roundw
      case rel =>
        obtain ⟨xs2, R2, g2⟩ := HS.out _
        exact ⟨k + 1, xs2, by omega, by go_num, R2, grown_trans hgr.out g2⟩
      case measure => simp [intOf]; omega
    · have hgi := HR.out.lt.2
      have hA3 := HA2.out.kept hgr.out (by simp; omega)
      have hB3 := bytes_grown HBy2.out hgr.out (by intro x hx; simp at hx; subst hx; simp; omega)
      have hL3 : Below w.heap.size w wr := (HB1.out.trans (HB2.out.mono HB1.out.size)).grown hgr.out (by have := HB1.out.size; have := HB2.out.size; omega) (by intro j hj; simp at hj; have := HR.out.lt.1; omega)
      have hH3 := bytes_kept HH.out hL3
      have hr3 := hA3.lt
      have hb1 := HB1.out.size
      have J3 := hid (⟨hA3, hB3, hL3⟩ : At wr r (.slice (some ⟨w1.heap.size, 0, none⟩) len len) 0 0 ∧ Bytes wr (some ⟨w1.heap.size, 0, none⟩) len len zs ∧ Below w.heap.size w wr)
      clear hrow hgr HR2 HA2 HBy2 HB2 HR HB1 hA3 hB3 hL3 hH3
      go_wp2_with fail
      have I0 : Inv w r w1.heap.size wr.heap.size a len cap zs 0 0 (wr.alloc (.cells #[.slice a len cap, .int .i64 0, .int .i64 0] 58)) := by
        obtain ⟨j1, j2, j3⟩ := J3.out
        refine ⟨j1.kept (World.grownBy_alloc _ _ none) (by simp), bytes_grown j2 (World.grownBy_alloc _ _ none) (by simp), ?_, j3.alloc j3.size _, by omega, by omega, j3.size, by omega, by omega, by omega⟩
        show (wr.heap.push _)[wr.heap.size]? = _
        simp
      obtain ⟨W0, hW0⟩ : ∃ W0, W0 = (wr.alloc (.cells #[.slice a len cap, .int .i64 0, .int .i64 0] 58)) := ⟨_, rfl⟩
      rw [← hW0] at I0 ⊢
      have HI0 := hid I0
      clear I0 hW0 J3 hr3
      generalize wr.heap.size = kq at HI0 ⊢
      generalize w1.heap.size = gb at HI0 hb1 hr2 hgi
      clear hb1 hr2 hgi h
      go_loopw [9] (fun i wx => ∃ k : Nat, ∃ p er : Int, k ≤ 0 ∧ i = .int .i64 k ∧ 0 ≤ p ∧ p ≤ len ∧ Hid (Inv w r gb kq a len cap zs p er wx)) (fun i _ => 0 - (intOf i).toNat)
      case atStart => exact ⟨0, 0, 0, by omega, rfl, by omega, by omega, HI0⟩
      case round =>
        clear HI0
        obtain ⟨k, p, er, hkn, rfl, hp0, hp1, HI⟩ := hrel
        have F33 := hid (fun m => at_any r _ p er _ (inv_d HI.out m).1)
        have F34 := hid (fun m => left_any r gb len len p er _ (inv_d HI.out m).1 (by omega) (by omega))
        have F35 := hid (fun m => err_any r _ p er _ (inv_d HI.out m).1)
        have q1 := HI.out.2.2.1.c1
        have q2 := HI.out.2.2.1.c2
        have hk : k = 0 := by omega
        subst hk
        go_wp2_with fail
        go_quiet (first | (go_at_call 33; exact Calls.quiet_of_same (F33.out _)) | (go_at_call 34; exact Calls.quiet_of (F34.out _)) | (go_at_call 35; exact Calls.quiet_of_same (F35.out _)))
        go_wp2_with fail
        refine (names_any _).mono ?_
        rintro e wz ⟨rfl, rfl⟩
        go_wp2_with fail
        go_ret
        exact ⟨rfl, (inv_d HI.out nq).2.2.2.1⟩
end Go.Proofs.Ytpinknkdcecajaa.codecReaders

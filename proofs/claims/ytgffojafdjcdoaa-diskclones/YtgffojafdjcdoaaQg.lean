/- The document's disk: Append, Sync. -/
import Derived.Test.YtgffojafdjcdoaaQe
namespace Go.Proofs.Ytgffojafdjcdoaa.Qg
open Go.ChangeShapes Go.WideShapes Go.ChangeAt Go.RowKit Go.Maps
open Go.Sort (grow)
open Go.Proofs.Ytgffojafdjcdoaa.By
open Go.Proofs.Ytgffojafdjcdoaa.Dk
open Go.Proofs.Ytgffojafdjcdoaa.Df (isN isQ isN_size)
open Go.Proofs.Ytgffojafdjcdoaa.Pd
open Go.Proofs.Ytgffojafdjcdoaa.Qa
open Go.Proofs.Ytgffojafdjcdoaa.Qb
open Go.Proofs.Ytgffojafdjcdoaa.Qc
open Go.Proofs.Ytgffojafdjcdoaa.Qd
open Go.Proofs.Ytgffojafdjcdoaa.Qe
set_option linter.unusedVariables false
set_option linter.unusedSimpArgs false
theorem rc_setb (rs : List RF) : ∀ (i : Nat) (x : RF) (b : ByteArray), rs[i]? = some x → rc (rs.set i ⟨x.n, b, x.k⟩) = (rc rs).set (i * 3 + 1) (.string b) := by
  induction rs with
  | nil => intro i x b h; simp at h
  | cons r rs ih =>
    intro i x b h
    cases i with
    | zero => simp at h; subst h; rfl
    | succ i =>
      rw [List.set_cons_succ, rc_cons, rc_cons, ih i x b (by simpa using h), show (i + 1) * 3 = i * 3 + 1 + 1 + 1 by omega]
      rfl
theorem rc_setk (rs : List RF) : ∀ (i : Nat) (x : RF) (k : Nat), rs[i]? = some x → rc (rs.set i ⟨x.n, x.b, k⟩) = (rc rs).set (i * 3 + 2) (.int .i64 (k : Int)) := by
  induction rs with
  | nil => intro i x k h; simp at h
  | cons r rs ih =>
    intro i x k h
    cases i with
    | zero => simp at h; subst h; rfl
    | succ i =>
      rw [List.set_cons_succ, rc_cons, rc_cons, ih i x k (by simpa using h), show (i + 1) * 3 = i * 3 + 1 + 1 + 1 by omega]
      rfl
/-- One file of the row changes. -/
theorem tk_file {w : World} {base g gv n c : Nat} {P : Nat → Prop} {R : RS} {rs' : List RF} {j : Nat} {u : Value} (H : RDk w base g (.slice (some ⟨gv, 0, none⟩) n c) P R) (hr : rc rs' = (rc R.rs).set j u) (hl : rs'.length = R.rs.length) :
    RDk (w.setCell ⟨gv, j, none⟩ u) base g (.slice (some ⟨gv, 0, none⟩) n c) P { R with rs := rs' } ∧ Fr P w (w.setCell ⟨gv, j, none⟩ u) := by
  have hne : g ≠ gv := fun e => H.ne (by rw [e]; rfl)
  have hn : n = R.rs.length := by
    obtain ⟨a, c', he, _⟩ := H.own.shape
    simp only [Value.slice.injEq] at he
    exact he.2.1
  refine ⟨⟨(set_ne _ _ _ _ _ hne).trans H.cells, ?_, H.pg, H.pv, fun j hj => ⟨(H.low j hj).1, by simpa using (H.low j hj).2⟩⟩, (Fr.refl P w).set (.inl (H.pv gv rfl)) j u⟩
  have ho := H.own
  unfold OwnF at ho ⊢
  rw [hl, hr, ← hn]
  rw [← hn] at ho
  exact (World.ownsRow.stored ho j u).1
set_option maxHeartbeats 4000000 in
set_option maxRecDepth 100000 in
theorem append_bad {base g : Nat} {v : Value} {P : Nat → Prop} {R : RS} (s : ByteArray) (b : ByteArray) (hbz : b.size ≤ 140737488351232) (hs : s.size ≤ 9223372036854775807) (w : World) (H : RDk w base g v P R) (hok : RS.ok R) (hb : base ≤ w.heap.size) (hi : isN s = false) : Calls Try.prog 36 #[.pointer (some ⟨g, 0, none⟩), .string s, .string b] w fun e w' => e = .returned (.int .i64 2) ∧ Tk w w' base g P R := by
  have HN := rname_any s hs w
  rw [hi] at HN
  replace HN := hid HN
  have HT := hid (tk_same H (Below.refl _ _))
  clear H hok
  go_enter Try.func36, Try.ntmps36
  go_wp2_with fail
  refine HN.out.mono ?_
  rintro e w1 ⟨rfl, rfl⟩
  go_wp2_with fail
  go_ret
  exact ⟨rfl, HT.out⟩
set_option maxHeartbeats 4000000 in
set_option maxRecDepth 100000 in
theorem append_none {base g : Nat} {v : Value} {P : Nat → Prop} {R : RS} (s : ByteArray) (b : ByteArray) (hbz : b.size ≤ 140737488351232) (hs : s.size ≤ 9223372036854775807) (w : World) (H : RDk w base g v P R) (hok : RS.ok R) (hb : base ≤ w.heap.size) (hi : isN s = true) (hl : lkp R.rs s = none) : Calls Try.prog 36 #[.pointer (some ⟨g, 0, none⟩), .string s, .string b] w fun e w' => e = .returned (.int .i64 51) ∧ Tk w w' base g P R := by
  have HN := rname_any s hs w
  rw [hi] at HN
  replace HN := hid HN
  have HF := hid (rfind_no s hl w H hok)
  have HT : Hid (∀ w', Below w.heap.size w w' → Tk w w' base g P R) := fun w' b => tk_same H b
  clear H hok hl
  go_enter Try.func36, Try.ntmps36
  go_wp2_with fail
  refine HN.out.mono ?_
  rintro e w1 ⟨rfl, rfl⟩
  go_wp2_with fail
  refine HF.out.mono ?_
  rintro e w2 ⟨rfl, b2⟩
  replace b2 := hid b2
  go_wp2_with fail
  go_ret
  exact ⟨rfl, HT.out _ b2.out⟩
set_option maxHeartbeats 4000000 in
set_option maxRecDepth 100000 in
theorem append_full {base g : Nat} {v : Value} {P : Nat → Prop} {R : RS} (s : ByteArray) (b : ByteArray) (hbz : b.size ≤ 140737488351232) (hs : s.size ≤ 9223372036854775807) (w : World) (H : RDk w base g v P R) (hok : RS.ok R) (hb : base ≤ w.heap.size) (hrf : R.rf < 4611686018427387904) (hi : isN s = true) (r : RF) (hl : lkp R.rs s = some r) (ht : (rtr R (rbig R b.size)).2 = true) : Calls Try.prog 36 #[.pointer (some ⟨g, 0, none⟩), .string s, .string b] w fun e w' => e = .returned (.int .i64 52) ∧ Tk w w' base g P (rtr R (rbig R b.size)).1 := by
  have HN := rname_any s hs w
  rw [hi] at HN
  replace HN := hid HN
  have HF := hid (rfind_yes s r hl w H hok)
  have HP : Hid (∀ w1, Below w.heap.size w w1 → RDk w1 base g v P R) := fun w1 b => H.later b
  have hok' := hid hok
  have hlt : (lo s R.rs).length < R.rs.length := (List.getElem?_eq_some_iff.1 (at_place hok.srt s hl)).1
  have hlen := hok.len
  have htot := hok.tot
  have hq := hok.q
  have hrb : r.b.size ≤ 268435456 := Nat.le_trans (sum_mem (look_mem hl).1) hok.tot
  obtain ⟨a, c, rfl, hnc, hsome, _⟩ := H.own.shape
  obtain ⟨gv, rfl⟩ := hsome (by omega)
  have hpl := hid (at_place hok.srt s hl)
  have hrn : r.n = s := (look_mem hl).2
  have hup : Hid (∀ x, R.rs.set (lo s R.rs).length x = up s x R.rs) := fun x => set_up hok.srt s hl x
  have hrs := hid (rtr_rs R (rbig R b.size))
  obtain ⟨rn, rb, rk⟩ := r
  dsimp only at hrn hrb ⊢
  subst hrn
  obtain ⟨L, hL⟩ : ∃ L, L = (lo rn R.rs).length := ⟨_, rfl⟩
  obtain ⟨N, hN⟩ : ∃ N, N = R.rs.length := ⟨_, rfl⟩
  obtain ⟨T, hT⟩ : ∃ T, T = tot R.rs := ⟨_, rfl⟩
  obtain ⟨Q, hQ⟩ : ∃ Q, Q = R.q := ⟨_, rfl⟩
  obtain ⟨bg, hbg⟩ : ∃ x, x = rbig R b.size := ⟨_, rfl⟩
  have hgt : decide (Q < (T : Int) + (b.size : Int)) = bg := by rw [hbg, hQ, hT]; rfl
  have hw1 : IntKind.i64.wrap ((T : Int) + (b.size : Int)) = (T : Int) + (b.size : Int) := by rw [IntKind.wrap_i64]; rw [hT]; omega
  rw [← hbg] at ht hrs ⊢
  rw [← hL] at HF hlt hpl hup
  rw [← hN] at hlt hlen
  obtain ⟨R2, hR2⟩ : ∃ x, x = (rtr R bg).1 := ⟨_, rfl⟩
  rw [← hR2] at hrs ⊢
  have i1 : (L : Int) < (N : Int) := by omega
  have hcat : ¬ 9223372036854775807 < rb.size + b.size := by omega
  have HX : Hid (∀ w1, Below w.heap.size w w1 → Calls Try.prog 44 #[.pointer (some ⟨g, 0, none⟩)] w1 (fun e w' => e = .returned (.int .i64 (T : Int)) ∧ w' = w1) ∧ Calls Try.prog 58 #[.pointer (some ⟨g, 0, none⟩), .bool bg] w1 (fun e w' => e = .returned (.bool true) ∧ RDk w' base g (.slice (some ⟨gv, 0, none⟩) N c) P R2 ∧ Fr P w1 w') ∧ w1.cell? ⟨g, 1, none⟩ = some (.int .i64 Q)) := fun w1 b1 => by
    have h := HP.out w1 b1
    refine ⟨?_, ?_, ?_⟩
    · have := rused_any w1 h hok'.out
      rwa [← hT] at this
    · have := try_any bg w1 h hok'.out hrf
      rw [ht, ← hR2, ← hN] at this
      exact this
    · rw [hQ]; exact h.cell 1 _ rfl
  replace hL := hid hL; replace hN := hid hN; replace hT := hid hT; replace hQ := hid hQ; replace hbg := hid hbg; replace hR2 := hid hR2
  clear H hok hl ht hsome htot HP hok'
  go_enter Try.func36, Try.ntmps36
  go_wp2_with fail
  refine HN.out.mono ?_
  rintro e w1 ⟨rfl, hwx⟩
  replace hwx := hwx.symm
  subst hwx
  go_wp2_with fail
  refine HF.out.mono ?_
  rintro e w2 ⟨rfl, b2⟩
  go_wp2_with fail
  obtain ⟨D, hD⟩ : ∃ D, D = w2.drew := ⟨_, rfl⟩
  have bD : Hid (Below w.heap.size w D) := by rw [hD]; exact b2.drew
  obtain ⟨HU, HT, cq⟩ := HX.out D bD.out
  replace HU := hid HU
  replace HT := hid HT
  replace hD := hid hD
  clear b2 HX
  refine wp_region_any (by kernel_rfl) ?_
  change wpAny _ _ _ _ _ _ _ (World.drew _)
  rw [← hD.out]
  refine wpAny_take (i := 0) (v := ?v1) rfl (by kernel_rfl) (by kernel_rfl) (by kernel_rfl) (fun _ _ _ h => h) (Or.inl ⟨by rfl, ?h1⟩) ?_
  case h1 => (intro w; go_simp; try (with_reducible rfl))
  go_simp
  refine wpAny_take (i := 1) (v := ?v2) rfl (by kernel_rfl) (by kernel_rfl) (by kernel_rfl) (fun _ _ _ h => h) (Or.inl ⟨by rfl, ?h2⟩) ?_
  case h2 => (intro w; go_simp; try (with_reducible rfl))
  go_simp
  refine wpAny_take (i := 3) (v := ?v3) rfl (by kernel_rfl) (by kernel_rfl) (by kernel_rfl) (fun _ _ _ h => h) (Or.inl ⟨by rfl, ?h3⟩) ?_
  case h3 => (intro w; go_simp; try (with_reducible rfl))
  go_simp
  refine wpAny_take (i := 4) (v := ?v4) rfl (by kernel_rfl) (by kernel_rfl) (by kernel_rfl) (fun _ _ _ h => h) (Or.inl ⟨by rfl, ?h4⟩) ?_
  case h4 => (intro w; go_simp; try (with_reducible rfl))
  go_simp
  refine wpAny_take (i := 6) (v := ?v5) rfl (by kernel_rfl) (by kernel_rfl) (by kernel_rfl) (fun _ _ _ h => h) (Or.inl ⟨by rfl, ?h5⟩) ?_
  case h5 => (intro w; go_simp; try (with_reducible rfl))
  go_simp
  refine wpAny_take (i := 7) (v := ?v6) rfl (by kernel_rfl) (by kernel_rfl) (by kernel_rfl) (fun _ _ _ h => h) (Or.inl ⟨by rfl, ?h6⟩) ?_
  case h6 => (intro w; go_simp; try (with_reducible rfl))
  go_simp
  refine wpAny_take (i := 8) (v := ?v7) rfl (by kernel_rfl) (by kernel_rfl) (by kernel_rfl) (fun _ _ _ h => h) (Or.inl ⟨by rfl, ?h7⟩) ?_
  case h7 => (intro w; go_simp; try (with_reducible rfl))
  go_simp
  refine wpAny_ready (rs := [2, 9]) (by kernel_rfl) (by simp) ?_
  refine AllReady.cons rfl (fun K hK => ?_) ?_
  · go_simp
    go_wp2_with fail
    refine HU.out.mono ?_
    rintro e wu ⟨rfl, hwu⟩
    replace hwu := hwu.symm
    subst hwu
    go_simp
    refine hK _ _ ?_
    clear hK K
    refine wpAny_take (i := 5) (v := ?v8) rfl (by kernel_rfl) (by kernel_rfl) (by kernel_rfl) (fun _ _ _ h => h) (Or.inl ⟨by rfl, ?h8⟩) ?_
    case h8 => (intro w; go_simp; try (with_reducible rfl))
    go_simp
    refine wpAny_ready (rs := [9]) (by kernel_rfl) (by simp) ?_
    refine AllReady.cons rfl (fun K hK => ?_) ?_
    · go_simp
      refine hK _ _ ?_
      clear hK K
      refine wpAny_take (i := 10) (v := ?v9) rfl (by kernel_rfl) (by kernel_rfl) (by kernel_rfl) (fun _ _ _ h => h) (Or.inl ⟨by rfl, ?h9⟩) ?_
      case h9 => (intro w; go_simp; try (with_reducible rfl))
      go_simp
      refine wpAny_ready (rs := [11]) (by kernel_rfl) (by simp) ?_
      refine AllReady.cons rfl (fun K hK => ?_) ?_
      · go_simp
        go_wp2_with fail
        refine HT.out.mono ?_
        rintro e w3 ⟨rfl, D3, F3⟩
        replace D3 := hid D3
        replace F3 := hid F3
        go_simp
        refine hK _ _ ?_
        clear hK K
        refine wpAny_done (by kernel_rfl) ?_ _
        go_wp2_with fail
        go_ret
        exact ⟨rfl, _, P, D3.out, fr_before bD.out F3.out, fun j h => .inl h⟩
      exact AllReady.nil
    exact AllReady.nil
  refine AllReady.cons rfl (fun K hK => ?_) ?_
  · go_simp
    refine hK _ _ ?_
    clear hK K
    refine wpAny_ready (rs := [2]) (by kernel_rfl) (by simp) ?_
    refine AllReady.cons rfl (fun K hK => ?_) ?_
    · go_simp
      go_wp2_with fail
      refine HU.out.mono ?_
      rintro e wu ⟨rfl, hwu⟩
      replace hwu := hwu.symm
      subst hwu
      go_simp
      refine hK _ _ ?_
      clear hK K
      refine wpAny_take (i := 5) (v := ?v10) rfl (by kernel_rfl) (by kernel_rfl) (by kernel_rfl) (fun _ _ _ h => h) (Or.inl ⟨by rfl, ?h10⟩) ?_
      case h10 => (intro w; go_simp; try (with_reducible rfl))
      go_simp
      refine wpAny_take (i := 10) (v := ?v11) rfl (by kernel_rfl) (by kernel_rfl) (by kernel_rfl) (fun _ _ _ h => h) (Or.inl ⟨by rfl, ?h11⟩) ?_
      case h11 => (intro w; go_simp; try (with_reducible rfl))
      go_simp
      refine wpAny_ready (rs := [11]) (by kernel_rfl) (by simp) ?_
      refine AllReady.cons rfl (fun K hK => ?_) ?_
      · go_simp
        go_wp2_with fail
        refine HT.out.mono ?_
        rintro e w3 ⟨rfl, D3, F3⟩
        replace D3 := hid D3
        replace F3 := hid F3
        go_simp
        refine hK _ _ ?_
        clear hK K
        refine wpAny_done (by kernel_rfl) ?_ _
        go_wp2_with fail
        go_ret
        exact ⟨rfl, _, P, D3.out, fr_before bD.out F3.out, fun j h => .inl h⟩
      exact AllReady.nil
    exact AllReady.nil
  exact AllReady.nil
set_option maxHeartbeats 4000000 in
set_option maxRecDepth 100000 in
theorem append_ok {base g : Nat} {v : Value} {P : Nat → Prop} {R : RS} (s : ByteArray) (b : ByteArray) (hbz : b.size ≤ 140737488351232) (hs : s.size ≤ 9223372036854775807) (w : World) (H : RDk w base g v P R) (hok : RS.ok R) (hb : base ≤ w.heap.size) (hrf : R.rf < 4611686018427387904) (hi : isN s = true) (r : RF) (hl : lkp R.rs s = some r) (ht : (rtr R (rbig R b.size)).2 = false) : Calls Try.prog 36 #[.pointer (some ⟨g, 0, none⟩), .string s, .string b] w fun e w' => e = .returned (.int .i64 0) ∧ Tk w w' base g P { (rtr R (rbig R b.size)).1 with rs := up s ⟨s, r.b ++ b, r.k⟩ R.rs } := by
  have HN := rname_any s hs w
  rw [hi] at HN
  replace HN := hid HN
  have HF := hid (rfind_yes s r hl w H hok)
  have HP : Hid (∀ w1, Below w.heap.size w w1 → RDk w1 base g v P R) := fun w1 b => H.later b
  have hok' := hid hok
  have hlt : (lo s R.rs).length < R.rs.length := (List.getElem?_eq_some_iff.1 (at_place hok.srt s hl)).1
  have hlen := hok.len
  have htot := hok.tot
  have hq := hok.q
  have hrb : r.b.size ≤ 268435456 := Nat.le_trans (sum_mem (look_mem hl).1) hok.tot
  obtain ⟨a, c, rfl, hnc, hsome, _⟩ := H.own.shape
  obtain ⟨gv, rfl⟩ := hsome (by omega)
  have hpl := hid (at_place hok.srt s hl)
  have hrn : r.n = s := (look_mem hl).2
  have hup : Hid (∀ x, R.rs.set (lo s R.rs).length x = up s x R.rs) := fun x => set_up hok.srt s hl x
  have hrs := hid (rtr_rs R (rbig R b.size))
  obtain ⟨rn, rb, rk⟩ := r
  dsimp only at hrn hrb ⊢
  subst hrn
  obtain ⟨L, hL⟩ : ∃ L, L = (lo rn R.rs).length := ⟨_, rfl⟩
  obtain ⟨N, hN⟩ : ∃ N, N = R.rs.length := ⟨_, rfl⟩
  obtain ⟨T, hT⟩ : ∃ T, T = tot R.rs := ⟨_, rfl⟩
  obtain ⟨Q, hQ⟩ : ∃ Q, Q = R.q := ⟨_, rfl⟩
  obtain ⟨bg, hbg⟩ : ∃ x, x = rbig R b.size := ⟨_, rfl⟩
  have hgt : decide (Q < (T : Int) + (b.size : Int)) = bg := by rw [hbg, hQ, hT]; rfl
  have hw1 : IntKind.i64.wrap ((T : Int) + (b.size : Int)) = (T : Int) + (b.size : Int) := by rw [IntKind.wrap_i64]; rw [hT]; omega
  rw [← hbg] at ht hrs ⊢
  rw [← hL] at HF hlt hpl hup
  rw [← hN] at hlt hlen
  obtain ⟨R2, hR2⟩ : ∃ x, x = (rtr R bg).1 := ⟨_, rfl⟩
  rw [← hR2] at hrs ⊢
  have i1 : (L : Int) < (N : Int) := by omega
  have hcat : ¬ 9223372036854775807 < rb.size + b.size := by omega
  have HX : Hid (∀ w1, Below w.heap.size w w1 → Calls Try.prog 44 #[.pointer (some ⟨g, 0, none⟩)] w1 (fun e w' => e = .returned (.int .i64 (T : Int)) ∧ w' = w1) ∧ Calls Try.prog 58 #[.pointer (some ⟨g, 0, none⟩), .bool bg] w1 (fun e w' => e = .returned (.bool false) ∧ RDk w' base g (.slice (some ⟨gv, 0, none⟩) N c) P R2 ∧ Fr P w1 w') ∧ w1.cell? ⟨g, 1, none⟩ = some (.int .i64 Q)) := fun w1 b1 => by
    have h := HP.out w1 b1
    refine ⟨?_, ?_, ?_⟩
    · have := rused_any w1 h hok'.out
      rwa [← hT] at this
    · have := try_any bg w1 h hok'.out hrf
      rw [ht, ← hR2, ← hN] at this
      exact this
    · rw [hQ]; exact h.cell 1 _ rfl
  replace hL := hid hL; replace hN := hid hN; replace hT := hid hT; replace hQ := hid hQ; replace hbg := hid hbg; replace hR2 := hid hR2
  clear H hok hl ht hsome htot HP hok'
  go_enter Try.func36, Try.ntmps36
  go_wp2_with fail
  refine HN.out.mono ?_
  rintro e w1 ⟨rfl, hwx⟩
  replace hwx := hwx.symm
  subst hwx
  go_wp2_with fail
  refine HF.out.mono ?_
  rintro e w2 ⟨rfl, b2⟩
  go_wp2_with fail
  obtain ⟨D, hD⟩ : ∃ D, D = w2.drew := ⟨_, rfl⟩
  have bD : Hid (Below w.heap.size w D) := by rw [hD]; exact b2.drew
  obtain ⟨HU, HT, cq⟩ := HX.out D bD.out
  replace HU := hid HU
  replace HT := hid HT
  replace hD := hid hD
  clear b2 HX
  refine wp_region_any (by kernel_rfl) ?_
  change wpAny _ _ _ _ _ _ _ (World.drew _)
  rw [← hD.out]
  refine wpAny_take (i := 0) (v := ?v12) rfl (by kernel_rfl) (by kernel_rfl) (by kernel_rfl) (fun _ _ _ h => h) (Or.inl ⟨by rfl, ?h12⟩) ?_
  case h12 => (intro w; go_simp; try (with_reducible rfl))
  go_simp
  refine wpAny_take (i := 1) (v := ?v13) rfl (by kernel_rfl) (by kernel_rfl) (by kernel_rfl) (fun _ _ _ h => h) (Or.inl ⟨by rfl, ?h13⟩) ?_
  case h13 => (intro w; go_simp; try (with_reducible rfl))
  go_simp
  refine wpAny_take (i := 3) (v := ?v14) rfl (by kernel_rfl) (by kernel_rfl) (by kernel_rfl) (fun _ _ _ h => h) (Or.inl ⟨by rfl, ?h14⟩) ?_
  case h14 => (intro w; go_simp; try (with_reducible rfl))
  go_simp
  refine wpAny_take (i := 4) (v := ?v15) rfl (by kernel_rfl) (by kernel_rfl) (by kernel_rfl) (fun _ _ _ h => h) (Or.inl ⟨by rfl, ?h15⟩) ?_
  case h15 => (intro w; go_simp; try (with_reducible rfl))
  go_simp
  refine wpAny_take (i := 6) (v := ?v16) rfl (by kernel_rfl) (by kernel_rfl) (by kernel_rfl) (fun _ _ _ h => h) (Or.inl ⟨by rfl, ?h16⟩) ?_
  case h16 => (intro w; go_simp; try (with_reducible rfl))
  go_simp
  refine wpAny_take (i := 7) (v := ?v17) rfl (by kernel_rfl) (by kernel_rfl) (by kernel_rfl) (fun _ _ _ h => h) (Or.inl ⟨by rfl, ?h17⟩) ?_
  case h17 => (intro w; go_simp; try (with_reducible rfl))
  go_simp
  refine wpAny_take (i := 8) (v := ?v18) rfl (by kernel_rfl) (by kernel_rfl) (by kernel_rfl) (fun _ _ _ h => h) (Or.inl ⟨by rfl, ?h18⟩) ?_
  case h18 => (intro w; go_simp; try (with_reducible rfl))
  go_simp
  refine wpAny_ready (rs := [2, 9]) (by kernel_rfl) (by simp) ?_
  refine AllReady.cons rfl (fun K hK => ?_) ?_
  · go_simp
    go_wp2_with fail
    refine HU.out.mono ?_
    rintro e wu ⟨rfl, hwu⟩
    replace hwu := hwu.symm
    subst hwu
    go_simp
    refine hK _ _ ?_
    clear hK K
    refine wpAny_take (i := 5) (v := ?v19) rfl (by kernel_rfl) (by kernel_rfl) (by kernel_rfl) (fun _ _ _ h => h) (Or.inl ⟨by rfl, ?h19⟩) ?_
    case h19 => (intro w; go_simp; try (with_reducible rfl))
    go_simp
    refine wpAny_ready (rs := [9]) (by kernel_rfl) (by simp) ?_
    refine AllReady.cons rfl (fun K hK => ?_) ?_
    · go_simp
      refine hK _ _ ?_
      clear hK K
      refine wpAny_take (i := 10) (v := ?v20) rfl (by kernel_rfl) (by kernel_rfl) (by kernel_rfl) (fun _ _ _ h => h) (Or.inl ⟨by rfl, ?h20⟩) ?_
      case h20 => (intro w; go_simp; try (with_reducible rfl))
      go_simp
      refine wpAny_ready (rs := [11]) (by kernel_rfl) (by simp) ?_
      refine AllReady.cons rfl (fun K hK => ?_) ?_
      · go_simp
        go_wp2_with fail
        refine HT.out.mono ?_
        rintro e w3 ⟨rfl, D3, F3⟩
        replace D3 := hid D3
        replace F3 := hid F3
        go_simp
        refine hK _ _ ?_
        clear hK K
        refine wpAny_done (by kernel_rfl) ?_ _
        go_wp2_with fail
        obtain ⟨E, hE⟩ : ∃ E, E = w3.drew := ⟨_, rfl⟩
        have bE : Below w3.heap.size w3 E := by rw [hE]; exact (Below.refl _ _).drew
        have DE := D3.out.later bE
        have cE := DE.cell 0 _ rfl
        have hoE := DE.own
        rw [hrs.out] at hoE
        obtain ⟨e0, e1, e2⟩ := hoE.cells L ⟨rn, rb, rk⟩ hpl.out
        have fE := World.ownsRow.frozenAt (g := gv) (n := N) (cap := c) (by have := hoE; unfold OwnF at this; rwa [← hN.out] at this) (L * 3 + 1)
        obtain ⟨L1, L2⟩ := tk_file (j := L * 3 + 1) (u := .string (rb ++ b)) (rs' := R.rs.set L ⟨rn, rb ++ b, rk⟩) DE (by rw [hrs.out]; exact rc_setb R.rs L ⟨rn, rb, rk⟩ (rb ++ b) hpl.out) (by rw [hrs.out]; simp)
        have TL : Hid (Tk w (E.setCell ⟨gv, L * 3 + 1, none⟩ (.string (rb ++ b))) base g P { R2 with rs := up rn ⟨rn, rb ++ b, rk⟩ R.rs }) := by
          rw [hup.out] at L1
          exact ⟨_, P, L1, fr_before bD.out (Dh.Fr.join F3.out (fr_before bE L2)), fun j h => .inl h⟩
        replace hE := hid hE
        clear bE DE hoE L1 L2
        refine wp_region_any (by kernel_rfl) ?_
        change wpAny _ _ _ _ _ _ _ (World.drew _)
        rw [← hE.out]
        refine wpAny_take (i := 0) (v := ?v21) rfl (by kernel_rfl) (by kernel_rfl) (by kernel_rfl) (fun _ _ _ h => h) (Or.inl ⟨by rfl, ?h21⟩) ?_
        case h21 => (intro w; go_simp; try (with_reducible rfl))
        go_simp
        refine wpAny_take (i := 1) (v := ?v22) rfl (by kernel_rfl) (by kernel_rfl) (by kernel_rfl) (fun _ _ _ h => h) (Or.inl ⟨by rfl, ?h22⟩) ?_
        case h22 => (intro w; go_simp; try (with_reducible rfl))
        go_simp
        refine wpAny_take (i := 2) (v := ?v23) rfl (by kernel_rfl) (by kernel_rfl) (by kernel_rfl) (fun _ _ _ h => h) (Or.inl ⟨by rfl, ?h23⟩) ?_
        case h23 => (intro w; go_simp; try (with_reducible rfl))
        go_simp
        refine wpAny_take (i := 4) (v := ?v24) rfl (by kernel_rfl) (by kernel_rfl) (by kernel_rfl) (fun _ _ _ h => h) (Or.inl ⟨by rfl, ?h24⟩) ?_
        case h24 => (intro w; go_simp; try (with_reducible rfl))
        go_simp
        refine wpAny_take (i := 5) (v := ?v25) rfl (by kernel_rfl) (by kernel_rfl) (by kernel_rfl) (fun _ _ _ h => h) (Or.inl ⟨by rfl, ?h25⟩) ?_
        case h25 => (intro w; go_simp; try (with_reducible rfl))
        go_simp
        refine wpAny_take (i := 6) (v := ?v26) rfl (by kernel_rfl) (by kernel_rfl) (by kernel_rfl) (fun _ _ _ h => h) (Or.inl ⟨by rfl, ?h26⟩) ?_
        case h26 => (intro w; go_simp; try (with_reducible rfl))
        go_simp
        refine wpAny_take (i := 7) (v := ?v27) rfl (by kernel_rfl) (by kernel_rfl) (by kernel_rfl) (fun _ _ _ h => h) (Or.inl ⟨by rfl, ?h27⟩) ?_
        case h27 => (intro w; go_simp; try (with_reducible rfl))
        go_simp
        refine wpAny_take (i := 9) (v := ?v28) rfl (by kernel_rfl) (by kernel_rfl) (by kernel_rfl) (fun _ _ _ h => h) (Or.inl ⟨by rfl, ?h28⟩) ?_
        case h28 => (intro w; go_simp; try (with_reducible rfl))
        go_simp
        refine wpAny_take (i := 13) (v := ?v29) rfl (by kernel_rfl) (by kernel_rfl) (by kernel_rfl) (fun _ _ _ h => h) (Or.inl ⟨by rfl, ?h29⟩) ?_
        case h29 => (intro w; go_simp; try (with_reducible rfl))
        go_simp
        refine wpAny_ready (rs := [3, 8]) (by kernel_rfl) (by simp) ?_
        refine AllReady.cons rfl (fun K hK => ?_) ?_
        · go_simp
          refine hK _ _ ?_
          clear hK K
          refine wpAny_ready (rs := [8]) (by kernel_rfl) (by simp) ?_
          refine AllReady.cons rfl (fun K hK => ?_) ?_
          · go_simp
            refine hK _ _ ?_
            clear hK K
            refine wpAny_take (i := 10) (v := ?v30) rfl (by kernel_rfl) (by kernel_rfl) (by kernel_rfl) (fun _ _ _ h => h) (Or.inl ⟨by rfl, ?h30⟩) ?_
            case h30 => (intro w; go_simp; try (with_reducible rfl))
            go_simp
            refine wpAny_take (i := 11) (v := ?v31) rfl (by kernel_rfl) (by kernel_rfl) (by kernel_rfl) (fun _ _ _ h => h) (Or.inl ⟨by rfl, ?h31⟩) ?_
            case h31 => (intro w; go_simp; try (with_reducible rfl))
            go_simp
            refine wpAny_ready (rs := [12]) (by kernel_rfl) (by simp) ?_
            refine AllReady.cons rfl (fun K hK => ?_) ?_
            · go_simp
              refine hK _ _ ?_
              clear hK K
              refine wpAny_take (i := 14) (v := ?v32) rfl (by kernel_rfl) (by kernel_rfl) (by kernel_rfl) (fun _ _ _ h => h) (Or.inl ⟨by rfl, ?h32⟩) ?_
              case h32 => (intro w; go_simp; try (with_reducible rfl))
              go_simp
              refine wpAny_take (i := 15) (v := ?v33) rfl (by kernel_rfl) (by kernel_rfl) (by kernel_rfl) (fun _ _ _ h => h) (Or.inl ⟨by rfl, ?h33⟩) ?_
              case h33 => (intro w; go_simp; try (with_reducible rfl))
              go_simp
              refine wpAny_take (i := 16) (v := ?v34) rfl (by kernel_rfl) (by kernel_rfl) (by kernel_rfl) (fun _ _ _ h => h) (Or.inl ⟨by rfl, ?h34⟩) ?_
              case h34 => (intro w; go_simp; try (with_reducible rfl))
              go_simp
              refine wpAny_ready (rs := [17]) (by kernel_rfl) (by simp) ?_
              refine AllReady.cons rfl (fun K hK => ?_) ?_
              · go_simp
                refine hK _ _ ?_
                clear hK K
                refine wpAny_done (by kernel_rfl) ?_ _
                go_wp2_with fail
                go_ret
                exact ⟨rfl, TL.out⟩
              exact AllReady.nil
            exact AllReady.nil
          exact AllReady.nil
        refine AllReady.cons rfl (fun K hK => ?_) ?_
        · go_simp
          refine hK _ _ ?_
          clear hK K
          refine wpAny_take (i := 10) (v := ?v35) rfl (by kernel_rfl) (by kernel_rfl) (by kernel_rfl) (fun _ _ _ h => h) (Or.inl ⟨by rfl, ?h35⟩) ?_
          case h35 => (intro w; go_simp; try (with_reducible rfl))
          go_simp
          refine wpAny_take (i := 11) (v := ?v36) rfl (by kernel_rfl) (by kernel_rfl) (by kernel_rfl) (fun _ _ _ h => h) (Or.inl ⟨by rfl, ?h36⟩) ?_
          case h36 => (intro w; go_simp; try (with_reducible rfl))
          go_simp
          refine wpAny_ready (rs := [3, 12]) (by kernel_rfl) (by simp) ?_
          refine AllReady.cons rfl (fun K hK => ?_) ?_
          · go_simp
            refine hK _ _ ?_
            clear hK K
            refine wpAny_ready (rs := [12]) (by kernel_rfl) (by simp) ?_
            refine AllReady.cons rfl (fun K hK => ?_) ?_
            · go_simp
              refine hK _ _ ?_
              clear hK K
              refine wpAny_take (i := 14) (v := ?v37) rfl (by kernel_rfl) (by kernel_rfl) (by kernel_rfl) (fun _ _ _ h => h) (Or.inl ⟨by rfl, ?h37⟩) ?_
              case h37 => (intro w; go_simp; try (with_reducible rfl))
              go_simp
              refine wpAny_take (i := 15) (v := ?v38) rfl (by kernel_rfl) (by kernel_rfl) (by kernel_rfl) (fun _ _ _ h => h) (Or.inl ⟨by rfl, ?h38⟩) ?_
              case h38 => (intro w; go_simp; try (with_reducible rfl))
              go_simp
              refine wpAny_take (i := 16) (v := ?v39) rfl (by kernel_rfl) (by kernel_rfl) (by kernel_rfl) (fun _ _ _ h => h) (Or.inl ⟨by rfl, ?h39⟩) ?_
              case h39 => (intro w; go_simp; try (with_reducible rfl))
              go_simp
              refine wpAny_ready (rs := [17]) (by kernel_rfl) (by simp) ?_
              refine AllReady.cons rfl (fun K hK => ?_) ?_
              · go_simp
                refine hK _ _ ?_
                clear hK K
                refine wpAny_done (by kernel_rfl) ?_ _
                go_wp2_with fail
                go_ret
                exact ⟨rfl, TL.out⟩
              exact AllReady.nil
            exact AllReady.nil
          refine AllReady.cons rfl (fun K hK => ?_) ?_
          · go_simp
            refine hK _ _ ?_
            clear hK K
            refine wpAny_take (i := 14) (v := ?v40) rfl (by kernel_rfl) (by kernel_rfl) (by kernel_rfl) (fun _ _ _ h => h) (Or.inl ⟨by rfl, ?h40⟩) ?_
            case h40 => (intro w; go_simp; try (with_reducible rfl))
            go_simp
            refine wpAny_ready (rs := [3]) (by kernel_rfl) (by simp) ?_
            refine AllReady.cons rfl (fun K hK => ?_) ?_
            · go_simp
              refine hK _ _ ?_
              clear hK K
              refine wpAny_take (i := 15) (v := ?v41) rfl (by kernel_rfl) (by kernel_rfl) (by kernel_rfl) (fun _ _ _ h => h) (Or.inl ⟨by rfl, ?h41⟩) ?_
              case h41 => (intro w; go_simp; try (with_reducible rfl))
              go_simp
              refine wpAny_take (i := 16) (v := ?v42) rfl (by kernel_rfl) (by kernel_rfl) (by kernel_rfl) (fun _ _ _ h => h) (Or.inl ⟨by rfl, ?h42⟩) ?_
              case h42 => (intro w; go_simp; try (with_reducible rfl))
              go_simp
              refine wpAny_ready (rs := [17]) (by kernel_rfl) (by simp) ?_
              refine AllReady.cons rfl (fun K hK => ?_) ?_
              · go_simp
                refine hK _ _ ?_
                clear hK K
                refine wpAny_done (by kernel_rfl) ?_ _
                go_wp2_with fail
                go_ret
                exact ⟨rfl, TL.out⟩
              exact AllReady.nil
            exact AllReady.nil
          exact AllReady.nil
        exact AllReady.nil
      exact AllReady.nil
    exact AllReady.nil
  refine AllReady.cons rfl (fun K hK => ?_) ?_
  · go_simp
    refine hK _ _ ?_
    clear hK K
    refine wpAny_ready (rs := [2]) (by kernel_rfl) (by simp) ?_
    refine AllReady.cons rfl (fun K hK => ?_) ?_
    · go_simp
      go_wp2_with fail
      refine HU.out.mono ?_
      rintro e wu ⟨rfl, hwu⟩
      replace hwu := hwu.symm
      subst hwu
      go_simp
      refine hK _ _ ?_
      clear hK K
      refine wpAny_take (i := 5) (v := ?v43) rfl (by kernel_rfl) (by kernel_rfl) (by kernel_rfl) (fun _ _ _ h => h) (Or.inl ⟨by rfl, ?h43⟩) ?_
      case h43 => (intro w; go_simp; try (with_reducible rfl))
      go_simp
      refine wpAny_take (i := 10) (v := ?v44) rfl (by kernel_rfl) (by kernel_rfl) (by kernel_rfl) (fun _ _ _ h => h) (Or.inl ⟨by rfl, ?h44⟩) ?_
      case h44 => (intro w; go_simp; try (with_reducible rfl))
      go_simp
      refine wpAny_ready (rs := [11]) (by kernel_rfl) (by simp) ?_
      refine AllReady.cons rfl (fun K hK => ?_) ?_
      · go_simp
        go_wp2_with fail
        refine HT.out.mono ?_
        rintro e w3 ⟨rfl, D3, F3⟩
        replace D3 := hid D3
        replace F3 := hid F3
        go_simp
        refine hK _ _ ?_
        clear hK K
        refine wpAny_done (by kernel_rfl) ?_ _
        go_wp2_with fail
        obtain ⟨E, hE⟩ : ∃ E, E = w3.drew := ⟨_, rfl⟩
        have bE : Below w3.heap.size w3 E := by rw [hE]; exact (Below.refl _ _).drew
        have DE := D3.out.later bE
        have cE := DE.cell 0 _ rfl
        have hoE := DE.own
        rw [hrs.out] at hoE
        obtain ⟨e0, e1, e2⟩ := hoE.cells L ⟨rn, rb, rk⟩ hpl.out
        have fE := World.ownsRow.frozenAt (g := gv) (n := N) (cap := c) (by have := hoE; unfold OwnF at this; rwa [← hN.out] at this) (L * 3 + 1)
        obtain ⟨L1, L2⟩ := tk_file (j := L * 3 + 1) (u := .string (rb ++ b)) (rs' := R.rs.set L ⟨rn, rb ++ b, rk⟩) DE (by rw [hrs.out]; exact rc_setb R.rs L ⟨rn, rb, rk⟩ (rb ++ b) hpl.out) (by rw [hrs.out]; simp)
        have TL : Hid (Tk w (E.setCell ⟨gv, L * 3 + 1, none⟩ (.string (rb ++ b))) base g P { R2 with rs := up rn ⟨rn, rb ++ b, rk⟩ R.rs }) := by
          rw [hup.out] at L1
          exact ⟨_, P, L1, fr_before bD.out (Dh.Fr.join F3.out (fr_before bE L2)), fun j h => .inl h⟩
        replace hE := hid hE
        clear bE DE hoE L1 L2
        refine wp_region_any (by kernel_rfl) ?_
        change wpAny _ _ _ _ _ _ _ (World.drew _)
        rw [← hE.out]
        refine wpAny_take (i := 0) (v := ?v45) rfl (by kernel_rfl) (by kernel_rfl) (by kernel_rfl) (fun _ _ _ h => h) (Or.inl ⟨by rfl, ?h45⟩) ?_
        case h45 => (intro w; go_simp; try (with_reducible rfl))
        go_simp
        refine wpAny_take (i := 1) (v := ?v46) rfl (by kernel_rfl) (by kernel_rfl) (by kernel_rfl) (fun _ _ _ h => h) (Or.inl ⟨by rfl, ?h46⟩) ?_
        case h46 => (intro w; go_simp; try (with_reducible rfl))
        go_simp
        refine wpAny_take (i := 2) (v := ?v47) rfl (by kernel_rfl) (by kernel_rfl) (by kernel_rfl) (fun _ _ _ h => h) (Or.inl ⟨by rfl, ?h47⟩) ?_
        case h47 => (intro w; go_simp; try (with_reducible rfl))
        go_simp
        refine wpAny_take (i := 4) (v := ?v48) rfl (by kernel_rfl) (by kernel_rfl) (by kernel_rfl) (fun _ _ _ h => h) (Or.inl ⟨by rfl, ?h48⟩) ?_
        case h48 => (intro w; go_simp; try (with_reducible rfl))
        go_simp
        refine wpAny_take (i := 5) (v := ?v49) rfl (by kernel_rfl) (by kernel_rfl) (by kernel_rfl) (fun _ _ _ h => h) (Or.inl ⟨by rfl, ?h49⟩) ?_
        case h49 => (intro w; go_simp; try (with_reducible rfl))
        go_simp
        refine wpAny_take (i := 6) (v := ?v50) rfl (by kernel_rfl) (by kernel_rfl) (by kernel_rfl) (fun _ _ _ h => h) (Or.inl ⟨by rfl, ?h50⟩) ?_
        case h50 => (intro w; go_simp; try (with_reducible rfl))
        go_simp
        refine wpAny_take (i := 7) (v := ?v51) rfl (by kernel_rfl) (by kernel_rfl) (by kernel_rfl) (fun _ _ _ h => h) (Or.inl ⟨by rfl, ?h51⟩) ?_
        case h51 => (intro w; go_simp; try (with_reducible rfl))
        go_simp
        refine wpAny_take (i := 9) (v := ?v52) rfl (by kernel_rfl) (by kernel_rfl) (by kernel_rfl) (fun _ _ _ h => h) (Or.inl ⟨by rfl, ?h52⟩) ?_
        case h52 => (intro w; go_simp; try (with_reducible rfl))
        go_simp
        refine wpAny_take (i := 13) (v := ?v53) rfl (by kernel_rfl) (by kernel_rfl) (by kernel_rfl) (fun _ _ _ h => h) (Or.inl ⟨by rfl, ?h53⟩) ?_
        case h53 => (intro w; go_simp; try (with_reducible rfl))
        go_simp
        refine wpAny_ready (rs := [3, 8]) (by kernel_rfl) (by simp) ?_
        refine AllReady.cons rfl (fun K hK => ?_) ?_
        · go_simp
          refine hK _ _ ?_
          clear hK K
          refine wpAny_ready (rs := [8]) (by kernel_rfl) (by simp) ?_
          refine AllReady.cons rfl (fun K hK => ?_) ?_
          · go_simp
            refine hK _ _ ?_
            clear hK K
            refine wpAny_take (i := 10) (v := ?v54) rfl (by kernel_rfl) (by kernel_rfl) (by kernel_rfl) (fun _ _ _ h => h) (Or.inl ⟨by rfl, ?h54⟩) ?_
            case h54 => (intro w; go_simp; try (with_reducible rfl))
            go_simp
            refine wpAny_take (i := 11) (v := ?v55) rfl (by kernel_rfl) (by kernel_rfl) (by kernel_rfl) (fun _ _ _ h => h) (Or.inl ⟨by rfl, ?h55⟩) ?_
            case h55 => (intro w; go_simp; try (with_reducible rfl))
            go_simp
            refine wpAny_ready (rs := [12]) (by kernel_rfl) (by simp) ?_
            refine AllReady.cons rfl (fun K hK => ?_) ?_
            · go_simp
              refine hK _ _ ?_
              clear hK K
              refine wpAny_take (i := 14) (v := ?v56) rfl (by kernel_rfl) (by kernel_rfl) (by kernel_rfl) (fun _ _ _ h => h) (Or.inl ⟨by rfl, ?h56⟩) ?_
              case h56 => (intro w; go_simp; try (with_reducible rfl))
              go_simp
              refine wpAny_take (i := 15) (v := ?v57) rfl (by kernel_rfl) (by kernel_rfl) (by kernel_rfl) (fun _ _ _ h => h) (Or.inl ⟨by rfl, ?h57⟩) ?_
              case h57 => (intro w; go_simp; try (with_reducible rfl))
              go_simp
              refine wpAny_take (i := 16) (v := ?v58) rfl (by kernel_rfl) (by kernel_rfl) (by kernel_rfl) (fun _ _ _ h => h) (Or.inl ⟨by rfl, ?h58⟩) ?_
              case h58 => (intro w; go_simp; try (with_reducible rfl))
              go_simp
              refine wpAny_ready (rs := [17]) (by kernel_rfl) (by simp) ?_
              refine AllReady.cons rfl (fun K hK => ?_) ?_
              · go_simp
                refine hK _ _ ?_
                clear hK K
                refine wpAny_done (by kernel_rfl) ?_ _
                go_wp2_with fail
                go_ret
                exact ⟨rfl, TL.out⟩
              exact AllReady.nil
            exact AllReady.nil
          exact AllReady.nil
        refine AllReady.cons rfl (fun K hK => ?_) ?_
        · go_simp
          refine hK _ _ ?_
          clear hK K
          refine wpAny_take (i := 10) (v := ?v59) rfl (by kernel_rfl) (by kernel_rfl) (by kernel_rfl) (fun _ _ _ h => h) (Or.inl ⟨by rfl, ?h59⟩) ?_
          case h59 => (intro w; go_simp; try (with_reducible rfl))
          go_simp
          refine wpAny_take (i := 11) (v := ?v60) rfl (by kernel_rfl) (by kernel_rfl) (by kernel_rfl) (fun _ _ _ h => h) (Or.inl ⟨by rfl, ?h60⟩) ?_
          case h60 => (intro w; go_simp; try (with_reducible rfl))
          go_simp
          refine wpAny_ready (rs := [3, 12]) (by kernel_rfl) (by simp) ?_
          refine AllReady.cons rfl (fun K hK => ?_) ?_
          · go_simp
            refine hK _ _ ?_
            clear hK K
            refine wpAny_ready (rs := [12]) (by kernel_rfl) (by simp) ?_
            refine AllReady.cons rfl (fun K hK => ?_) ?_
            · go_simp
              refine hK _ _ ?_
              clear hK K
              refine wpAny_take (i := 14) (v := ?v61) rfl (by kernel_rfl) (by kernel_rfl) (by kernel_rfl) (fun _ _ _ h => h) (Or.inl ⟨by rfl, ?h61⟩) ?_
              case h61 => (intro w; go_simp; try (with_reducible rfl))
              go_simp
              refine wpAny_take (i := 15) (v := ?v62) rfl (by kernel_rfl) (by kernel_rfl) (by kernel_rfl) (fun _ _ _ h => h) (Or.inl ⟨by rfl, ?h62⟩) ?_
              case h62 => (intro w; go_simp; try (with_reducible rfl))
              go_simp
              refine wpAny_take (i := 16) (v := ?v63) rfl (by kernel_rfl) (by kernel_rfl) (by kernel_rfl) (fun _ _ _ h => h) (Or.inl ⟨by rfl, ?h63⟩) ?_
              case h63 => (intro w; go_simp; try (with_reducible rfl))
              go_simp
              refine wpAny_ready (rs := [17]) (by kernel_rfl) (by simp) ?_
              refine AllReady.cons rfl (fun K hK => ?_) ?_
              · go_simp
                refine hK _ _ ?_
                clear hK K
                refine wpAny_done (by kernel_rfl) ?_ _
                go_wp2_with fail
                go_ret
                exact ⟨rfl, TL.out⟩
              exact AllReady.nil
            exact AllReady.nil
          refine AllReady.cons rfl (fun K hK => ?_) ?_
          · go_simp
            refine hK _ _ ?_
            clear hK K
            refine wpAny_take (i := 14) (v := ?v64) rfl (by kernel_rfl) (by kernel_rfl) (by kernel_rfl) (fun _ _ _ h => h) (Or.inl ⟨by rfl, ?h64⟩) ?_
            case h64 => (intro w; go_simp; try (with_reducible rfl))
            go_simp
            refine wpAny_ready (rs := [3]) (by kernel_rfl) (by simp) ?_
            refine AllReady.cons rfl (fun K hK => ?_) ?_
            · go_simp
              refine hK _ _ ?_
              clear hK K
              refine wpAny_take (i := 15) (v := ?v65) rfl (by kernel_rfl) (by kernel_rfl) (by kernel_rfl) (fun _ _ _ h => h) (Or.inl ⟨by rfl, ?h65⟩) ?_
              case h65 => (intro w; go_simp; try (with_reducible rfl))
              go_simp
              refine wpAny_take (i := 16) (v := ?v66) rfl (by kernel_rfl) (by kernel_rfl) (by kernel_rfl) (fun _ _ _ h => h) (Or.inl ⟨by rfl, ?h66⟩) ?_
              case h66 => (intro w; go_simp; try (with_reducible rfl))
              go_simp
              refine wpAny_ready (rs := [17]) (by kernel_rfl) (by simp) ?_
              refine AllReady.cons rfl (fun K hK => ?_) ?_
              · go_simp
                refine hK _ _ ?_
                clear hK K
                refine wpAny_done (by kernel_rfl) ?_ _
                go_wp2_with fail
                go_ret
                exact ⟨rfl, TL.out⟩
              exact AllReady.nil
            exact AllReady.nil
          exact AllReady.nil
        exact AllReady.nil
      exact AllReady.nil
    exact AllReady.nil
  exact AllReady.nil
theorem append_any {base g : Nat} {v : Value} {P : Nat → Prop} {R : RS} (s : ByteArray) (hs : s.size ≤ 9223372036854775807) (b : ByteArray) (hbz : b.size ≤ 140737488351232) (w : World) (H : RDk w base g v P R) (hok : RS.ok R) (hb : base ≤ w.heap.size) (hrf : R.rf < 4611686018427387904) : Calls Try.prog 36 #[.pointer (some ⟨g, 0, none⟩), .string s, .string b] w fun e w' => e = .returned (.int .i64 (rapd R s b).2) ∧ Tk w w' base g P (rapd R s b).1 := by
  unfold rapd
  by_cases hi : isN s = false
  · rw [if_pos hi]; exact append_bad s b hbz hs w H hok hb hi
  · rw [if_neg hi]
    replace hi : isN s = true := by simpa using hi
    cases hl : lkp R.rs s with
    | none => exact append_none s b hbz hs w H hok hb hi hl
    | some r =>
      cases ht : (rtr R (rbig R b.size)).2 with
      | true => simp only [ht, if_pos]; exact append_full s b hbz hs w H hok hb hrf hi r hl ht
      | false => simp only [ht, Bool.false_eq_true, if_false]; exact append_ok s b hbz hs w H hok hb hrf hi r hl ht
set_option maxHeartbeats 4000000 in
set_option maxRecDepth 100000 in
theorem sync_bad {base g : Nat} {v : Value} {P : Nat → Prop} {R : RS} (s : ByteArray) (hs : s.size ≤ 9223372036854775807) (w : World) (H : RDk w base g v P R) (hok : RS.ok R) (hb : base ≤ w.heap.size) (hi : isN s = false) : Calls Try.prog 37 #[.pointer (some ⟨g, 0, none⟩), .string s] w fun e w' => e = .returned (.int .i64 2) ∧ Tk w w' base g P R := by
  have HN := rname_any s hs w
  rw [hi] at HN
  replace HN := hid HN
  have HT := hid (tk_same H (Below.refl _ _))
  clear H hok
  go_enter Try.func37, Try.ntmps37
  go_wp2_with fail
  refine HN.out.mono ?_
  rintro e w1 ⟨rfl, rfl⟩
  go_wp2_with fail
  go_ret
  exact ⟨rfl, HT.out⟩
set_option maxHeartbeats 4000000 in
set_option maxRecDepth 100000 in
theorem sync_none {base g : Nat} {v : Value} {P : Nat → Prop} {R : RS} (s : ByteArray) (hs : s.size ≤ 9223372036854775807) (w : World) (H : RDk w base g v P R) (hok : RS.ok R) (hb : base ≤ w.heap.size) (hi : isN s = true) (hl : lkp R.rs s = none) : Calls Try.prog 37 #[.pointer (some ⟨g, 0, none⟩), .string s] w fun e w' => e = .returned (.int .i64 51) ∧ Tk w w' base g P R := by
  have HN := rname_any s hs w
  rw [hi] at HN
  replace HN := hid HN
  have HF := hid (rfind_no s hl w H hok)
  have HT : Hid (∀ w', Below w.heap.size w w' → Tk w w' base g P R) := fun w' b => tk_same H b
  clear H hok hl
  go_enter Try.func37, Try.ntmps37
  go_wp2_with fail
  refine HN.out.mono ?_
  rintro e w1 ⟨rfl, rfl⟩
  go_wp2_with fail
  refine HF.out.mono ?_
  rintro e w2 ⟨rfl, b2⟩
  replace b2 := hid b2
  go_wp2_with fail
  go_ret
  exact ⟨rfl, HT.out _ b2.out⟩
set_option maxHeartbeats 4000000 in
set_option maxRecDepth 100000 in
theorem sync_ok {base g : Nat} {v : Value} {P : Nat → Prop} {R : RS} (s : ByteArray) (hs : s.size ≤ 9223372036854775807) (w : World) (H : RDk w base g v P R) (hok : RS.ok R) (hb : base ≤ w.heap.size) (hi : isN s = true) (r : RF) (hl : lkp R.rs s = some r) : Calls Try.prog 37 #[.pointer (some ⟨g, 0, none⟩), .string s] w fun e w' => e = .returned (.int .i64 0) ∧ Tk w w' base g P { R with rs := up s ⟨s, r.b, r.b.size⟩ R.rs } := by
  have HN := rname_any s hs w
  rw [hi] at HN
  replace HN := hid HN
  have HF := hid (rfind_yes s r hl w H hok)
  have HP : Hid (∀ w1, Below w.heap.size w w1 → RDk w1 base g v P R) := fun w1 b => H.later b
  have hlt : (lo s R.rs).length < R.rs.length := (List.getElem?_eq_some_iff.1 (at_place hok.srt s hl)).1
  have hlen := hok.len
  have hrb : r.b.size ≤ 268435456 := Nat.le_trans (sum_mem (look_mem hl).1) hok.tot
  obtain ⟨a, c, rfl, hnc, hsome, _⟩ := H.own.shape
  obtain ⟨gv, rfl⟩ := hsome (by omega)
  have hpl := hid (at_place hok.srt s hl)
  have hrn : r.n = s := (look_mem hl).2
  have hup : Hid (∀ x, R.rs.set (lo s R.rs).length x = up s x R.rs) := fun x => set_up hok.srt s hl x
  obtain ⟨rn, rb, rk⟩ := r
  dsimp only at hrn hrb ⊢
  subst hrn
  obtain ⟨L, hL⟩ : ∃ L, L = (lo rn R.rs).length := ⟨_, rfl⟩
  obtain ⟨N, hN⟩ : ∃ N, N = R.rs.length := ⟨_, rfl⟩
  rw [← hL] at HF hlt hpl hup
  rw [← hN] at hlt hlen HP
  have i1 : (L : Int) < (N : Int) := by omega
  replace hL := hid hL; replace hN := hid hN
  clear H hok hl hsome
  go_enter Try.func37, Try.ntmps37
  go_wp2_with fail
  refine HN.out.mono ?_
  rintro e w1 ⟨rfl, hwx⟩
  replace hwx := hwx.symm
  subst hwx
  go_wp2_with fail
  refine HF.out.mono ?_
  rintro e w2 ⟨rfl, b2⟩
  go_wp2_with fail
  obtain ⟨E, hE⟩ : ∃ E, E = w2.drew := ⟨_, rfl⟩
  have bE : Below w.heap.size w E := by rw [hE]; exact b2.drew
  have DE := HP.out E bE
  have cE := DE.cell 0 _ rfl
  obtain ⟨e0, e1, e2⟩ := DE.own.cells L ⟨rn, rb, rk⟩ hpl.out
  have fE := World.ownsRow.frozenAt (g := gv) (n := N) (cap := c) (by have := DE.own; unfold OwnF at this; rwa [← hN.out] at this) (L * 3 + 2)
  obtain ⟨L1, L2⟩ := tk_file (j := L * 3 + 2) (u := .int .i64 (rb.size : Int)) (rs' := R.rs.set L ⟨rn, rb, rb.size⟩) DE (rc_setk R.rs L ⟨rn, rb, rk⟩ rb.size hpl.out) (by simp)
  have TL : Hid (Tk w (E.setCell ⟨gv, L * 3 + 2, none⟩ (.int .i64 (rb.size : Int))) base g P { R with rs := up rn ⟨rn, rb, rb.size⟩ R.rs }) := by
    rw [hup.out] at L1
    exact ⟨_, P, L1, fr_before bE L2, fun j h => .inl h⟩
  replace hE := hid hE
  clear bE b2 DE L1 L2
  refine wp_region_any (by kernel_rfl) ?_
  change wpAny _ _ _ _ _ _ _ (World.drew _)
  rw [← hE.out]
  refine wpAny_take (i := 0) (v := ?v67) rfl (by kernel_rfl) (by kernel_rfl) (by kernel_rfl) (fun _ _ _ h => h) (Or.inl ⟨by rfl, ?h67⟩) ?_
  case h67 => (intro w; go_simp; try (with_reducible rfl))
  go_simp
  refine wpAny_take (i := 1) (v := ?v68) rfl (by kernel_rfl) (by kernel_rfl) (by kernel_rfl) (fun _ _ _ h => h) (Or.inl ⟨by rfl, ?h68⟩) ?_
  case h68 => (intro w; go_simp; try (with_reducible rfl))
  go_simp
  refine wpAny_take (i := 2) (v := ?v69) rfl (by kernel_rfl) (by kernel_rfl) (by kernel_rfl) (fun _ _ _ h => h) (Or.inl ⟨by rfl, ?h69⟩) ?_
  case h69 => (intro w; go_simp; try (with_reducible rfl))
  go_simp
  refine wpAny_take (i := 4) (v := ?v70) rfl (by kernel_rfl) (by kernel_rfl) (by kernel_rfl) (fun _ _ _ h => h) (Or.inl ⟨by rfl, ?h70⟩) ?_
  case h70 => (intro w; go_simp; try (with_reducible rfl))
  go_simp
  refine wpAny_take (i := 5) (v := ?v71) rfl (by kernel_rfl) (by kernel_rfl) (by kernel_rfl) (fun _ _ _ h => h) (Or.inl ⟨by rfl, ?h71⟩) ?_
  case h71 => (intro w; go_simp; try (with_reducible rfl))
  go_simp
  refine wpAny_take (i := 6) (v := ?v72) rfl (by kernel_rfl) (by kernel_rfl) (by kernel_rfl) (fun _ _ _ h => h) (Or.inl ⟨by rfl, ?h72⟩) ?_
  case h72 => (intro w; go_simp; try (with_reducible rfl))
  go_simp
  refine wpAny_take (i := 7) (v := ?v73) rfl (by kernel_rfl) (by kernel_rfl) (by kernel_rfl) (fun _ _ _ h => h) (Or.inl ⟨by rfl, ?h73⟩) ?_
  case h73 => (intro w; go_simp; try (with_reducible rfl))
  go_simp
  refine wpAny_take (i := 9) (v := ?v74) rfl (by kernel_rfl) (by kernel_rfl) (by kernel_rfl) (fun _ _ _ h => h) (Or.inl ⟨by rfl, ?h74⟩) ?_
  case h74 => (intro w; go_simp; try (with_reducible rfl))
  go_simp
  refine wpAny_ready (rs := [3, 8]) (by kernel_rfl) (by simp) ?_
  refine AllReady.cons rfl (fun K hK => ?_) ?_
  · go_simp
    refine hK _ _ ?_
    clear hK K
    refine wpAny_ready (rs := [8]) (by kernel_rfl) (by simp) ?_
    refine AllReady.cons rfl (fun K hK => ?_) ?_
    · go_simp
      refine hK _ _ ?_
      clear hK K
      refine wpAny_take (i := 10) (v := ?v75) rfl (by kernel_rfl) (by kernel_rfl) (by kernel_rfl) (fun _ _ _ h => h) (Or.inl ⟨by rfl, ?h75⟩) ?_
      case h75 => (intro w; go_simp; try (with_reducible rfl))
      go_simp
      refine wpAny_take (i := 11) (v := ?v76) rfl (by kernel_rfl) (by kernel_rfl) (by kernel_rfl) (fun _ _ _ h => h) (Or.inl ⟨by rfl, ?h76⟩) ?_
      case h76 => (intro w; go_simp; try (with_reducible rfl))
      go_simp
      refine wpAny_ready (rs := [12]) (by kernel_rfl) (by simp) ?_
      refine AllReady.cons rfl (fun K hK => ?_) ?_
      · go_simp
        refine hK _ _ ?_
        clear hK K
        refine wpAny_take (i := 13) (v := ?v77) rfl (by kernel_rfl) (by kernel_rfl) (by kernel_rfl) (fun _ _ _ h => h) (Or.inl ⟨by rfl, ?h77⟩) ?_
        case h77 => (intro w; go_simp; try (with_reducible rfl))
        go_simp
        refine wpAny_take (i := 14) (v := ?v78) rfl (by kernel_rfl) (by kernel_rfl) (by kernel_rfl) (fun _ _ _ h => h) (Or.inl ⟨by rfl, ?h78⟩) ?_
        case h78 => (intro w; go_simp; try (with_reducible rfl))
        go_simp
        refine wpAny_take (i := 15) (v := ?v79) rfl (by kernel_rfl) (by kernel_rfl) (by kernel_rfl) (fun _ _ _ h => h) (Or.inl ⟨by rfl, ?h79⟩) ?_
        case h79 => (intro w; go_simp; try (with_reducible rfl))
        go_simp
        refine wpAny_ready (rs := [16]) (by kernel_rfl) (by simp) ?_
        refine AllReady.cons rfl (fun K hK => ?_) ?_
        · go_simp
          refine hK _ _ ?_
          clear hK K
          refine wpAny_done (by kernel_rfl) ?_ _
          go_wp2_with fail
          go_ret
          exact ⟨rfl, TL.out⟩
        exact AllReady.nil
      exact AllReady.nil
    exact AllReady.nil
  refine AllReady.cons rfl (fun K hK => ?_) ?_
  · go_simp
    refine hK _ _ ?_
    clear hK K
    refine wpAny_take (i := 10) (v := ?v80) rfl (by kernel_rfl) (by kernel_rfl) (by kernel_rfl) (fun _ _ _ h => h) (Or.inl ⟨by rfl, ?h80⟩) ?_
    case h80 => (intro w; go_simp; try (with_reducible rfl))
    go_simp
    refine wpAny_take (i := 11) (v := ?v81) rfl (by kernel_rfl) (by kernel_rfl) (by kernel_rfl) (fun _ _ _ h => h) (Or.inl ⟨by rfl, ?h81⟩) ?_
    case h81 => (intro w; go_simp; try (with_reducible rfl))
    go_simp
    refine wpAny_ready (rs := [3, 12]) (by kernel_rfl) (by simp) ?_
    refine AllReady.cons rfl (fun K hK => ?_) ?_
    · go_simp
      refine hK _ _ ?_
      clear hK K
      refine wpAny_ready (rs := [12]) (by kernel_rfl) (by simp) ?_
      refine AllReady.cons rfl (fun K hK => ?_) ?_
      · go_simp
        refine hK _ _ ?_
        clear hK K
        refine wpAny_take (i := 13) (v := ?v82) rfl (by kernel_rfl) (by kernel_rfl) (by kernel_rfl) (fun _ _ _ h => h) (Or.inl ⟨by rfl, ?h82⟩) ?_
        case h82 => (intro w; go_simp; try (with_reducible rfl))
        go_simp
        refine wpAny_take (i := 14) (v := ?v83) rfl (by kernel_rfl) (by kernel_rfl) (by kernel_rfl) (fun _ _ _ h => h) (Or.inl ⟨by rfl, ?h83⟩) ?_
        case h83 => (intro w; go_simp; try (with_reducible rfl))
        go_simp
        refine wpAny_take (i := 15) (v := ?v84) rfl (by kernel_rfl) (by kernel_rfl) (by kernel_rfl) (fun _ _ _ h => h) (Or.inl ⟨by rfl, ?h84⟩) ?_
        case h84 => (intro w; go_simp; try (with_reducible rfl))
        go_simp
        refine wpAny_ready (rs := [16]) (by kernel_rfl) (by simp) ?_
        refine AllReady.cons rfl (fun K hK => ?_) ?_
        · go_simp
          refine hK _ _ ?_
          clear hK K
          refine wpAny_done (by kernel_rfl) ?_ _
          go_wp2_with fail
          go_ret
          exact ⟨rfl, TL.out⟩
        exact AllReady.nil
      exact AllReady.nil
    refine AllReady.cons rfl (fun K hK => ?_) ?_
    · go_simp
      refine hK _ _ ?_
      clear hK K
      refine wpAny_take (i := 13) (v := ?v85) rfl (by kernel_rfl) (by kernel_rfl) (by kernel_rfl) (fun _ _ _ h => h) (Or.inl ⟨by rfl, ?h85⟩) ?_
      case h85 => (intro w; go_simp; try (with_reducible rfl))
      go_simp
      refine wpAny_ready (rs := [3]) (by kernel_rfl) (by simp) ?_
      refine AllReady.cons rfl (fun K hK => ?_) ?_
      · go_simp
        refine hK _ _ ?_
        clear hK K
        refine wpAny_take (i := 14) (v := ?v86) rfl (by kernel_rfl) (by kernel_rfl) (by kernel_rfl) (fun _ _ _ h => h) (Or.inl ⟨by rfl, ?h86⟩) ?_
        case h86 => (intro w; go_simp; try (with_reducible rfl))
        go_simp
        refine wpAny_take (i := 15) (v := ?v87) rfl (by kernel_rfl) (by kernel_rfl) (by kernel_rfl) (fun _ _ _ h => h) (Or.inl ⟨by rfl, ?h87⟩) ?_
        case h87 => (intro w; go_simp; try (with_reducible rfl))
        go_simp
        refine wpAny_ready (rs := [16]) (by kernel_rfl) (by simp) ?_
        refine AllReady.cons rfl (fun K hK => ?_) ?_
        · go_simp
          refine hK _ _ ?_
          clear hK K
          refine wpAny_done (by kernel_rfl) ?_ _
          go_wp2_with fail
          go_ret
          exact ⟨rfl, TL.out⟩
        exact AllReady.nil
      exact AllReady.nil
    exact AllReady.nil
  exact AllReady.nil
theorem sync_any {base g : Nat} {v : Value} {P : Nat → Prop} {R : RS} (s : ByteArray) (hs : s.size ≤ 9223372036854775807) (w : World) (H : RDk w base g v P R) (hok : RS.ok R) (hb : base ≤ w.heap.size) : Calls Try.prog 37 #[.pointer (some ⟨g, 0, none⟩), .string s] w fun e w' => e = .returned (.int .i64 (rsyn R s).2) ∧ Tk w w' base g P (rsyn R s).1 := by
  unfold rsyn
  by_cases hi : isN s = false
  · rw [if_pos hi]; exact sync_bad s hs w H hok hb hi
  · rw [if_neg hi]
    replace hi : isN s = true := by simpa using hi
    cases hl : lkp R.rs s with
    | none => exact sync_none s hs w H hok hb hi hl
    | some r => exact sync_ok s hs w H hok hb hi r hl
end Go.Proofs.Ytgffojafdjcdoaa.Qg

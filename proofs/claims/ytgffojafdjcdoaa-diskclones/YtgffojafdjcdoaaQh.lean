/- The document's disk: Crash. -/
import Derived.Test.YtgffojafdjcdoaaQg
namespace Go.Proofs.Ytgffojafdjcdoaa.Qh
open Go.ChangeShapes Go.WideShapes Go.ChangeAt Go.RowKit Go.Maps
open Go.Sort (grow)
open Go.Proofs.Ytgffojafdjcdoaa.By
open Go.Proofs.Ytgffojafdjcdoaa.Ac
open Go.Proofs.Ytgffojafdjcdoaa.Dk
open Go.Proofs.Ytgffojafdjcdoaa.Cr (sty sty_le)
open Go.Proofs.Ytgffojafdjcdoaa.Cs (kpt ints_fr)
open Go.Proofs.Ytgffojafdjcdoaa.Pd
open Go.Proofs.Ytgffojafdjcdoaa.Qa
open Go.Proofs.Ytgffojafdjcdoaa.Qb
open Go.Proofs.Ytgffojafdjcdoaa.Qc
open Go.Proofs.Ytgffojafdjcdoaa.Qd
open Go.Proofs.Ytgffojafdjcdoaa.Qe
open Go.Proofs.Ytgffojafdjcdoaa.Qg
set_option linter.unusedVariables false
set_option linter.unusedSimpArgs false
/-- The files behind i rounds of a crash. -/
def cri (rs : List RF) (ks : List Int) (i : Nat) : List RF := rs.mapIdx fun j r => if j < i then cutr r (kpt ks j) else r
theorem cri_len (rs : List RF) (ks : List Int) (i : Nat) : (cri rs ks i).length = rs.length := by unfold cri; simp
theorem cri_zero (rs : List RF) (ks : List Int) : cri rs ks 0 = rs := by
  unfold cri
  refine List.ext_getElem (by simp) fun i h1 h2 => ?_
  simp
theorem cri_end (rs : List RF) (ks : List Int) : cri rs ks rs.length = crR rs ks := by
  unfold cri crR
  refine List.ext_getElem (by simp) fun i h1 h2 => ?_
  simp only [List.length_mapIdx] at h1
  simp [h1]
theorem cri_at {rs : List RF} {ks : List Int} {i : Nat} {x : RF} (h : rs[i]? = some x) : (cri rs ks i)[i]? = some x := by
  unfold cri
  rw [List.getElem?_mapIdx, h]
  simp
theorem cri_step {rs : List RF} {ks : List Int} {i : Nat} {x : RF} (h : rs[i]? = some x) : (cri rs ks i).set i (cutr x (kpt ks i)) = cri rs ks (i + 1) := by
  unfold cri
  refine List.ext_getElem (by simp) fun j h1 h2 => ?_
  simp only [List.length_set, List.length_mapIdx] at h1
  obtain ⟨hi, he⟩ := List.getElem?_eq_some_iff.1 h
  rw [List.getElem_set]
  by_cases e : i = j
  · subst e
    simp [he]
  · rw [if_neg e]
    simp only [List.getElem_mapIdx]
    by_cases hj : j < i
    · rw [if_pos hj, if_pos (by omega)]
    · rw [if_neg hj, if_neg (by omega)]
theorem rc_set3 (rs : List RF) : ∀ (i : Nat) (y : RF), i < rs.length → rc (rs.set i y) = (((rc rs).set (i * 3) (.string y.n)).set (i * 3 + 1) (.string y.b)).set (i * 3 + 2) (.int .i64 (y.k : Int)) := by
  induction rs with
  | nil => intro i y h; simp at h
  | cons r rs ih =>
    intro i y h
    cases i with
    | zero => rfl
    | succ i =>
      rw [List.set_cons_succ, rc_cons, rc_cons, ih i y (by simpa using h), show (i + 1) * 3 = i * 3 + 1 + 1 + 1 by omega]
      rfl
theorem tk_file3 {w : World} {base g gv n c : Nat} {P : Nat → Prop} {R : RS} {rs' : List RF} {i : Nat} {y : RF} (H : RDk w base g (.slice (some ⟨gv, 0, none⟩) n c) P R) (hi : i < R.rs.length) (hr : rs' = R.rs.set i y) :
    RDk (((w.setCell ⟨gv, i * 3, none⟩ (.string y.n)).setCell ⟨gv, i * 3 + 1, none⟩ (.string y.b)).setCell ⟨gv, i * 3 + 2, none⟩ (.int .i64 (y.k : Int))) base g (.slice (some ⟨gv, 0, none⟩) n c) P { R with rs := rs' } ∧ Fr P w (((w.setCell ⟨gv, i * 3, none⟩ (.string y.n)).setCell ⟨gv, i * 3 + 1, none⟩ (.string y.b)).setCell ⟨gv, i * 3 + 2, none⟩ (.int .i64 (y.k : Int))) := by
  have hne : g ≠ gv := fun e => H.ne (by rw [e]; rfl)
  have hn : n = R.rs.length := by
    obtain ⟨a, c', he, _⟩ := H.own.shape
    simp only [Value.slice.injEq] at he
    exact he.2.1
  have hp := H.pv gv rfl
  refine ⟨⟨?_, ?_, H.pg, H.pv, fun j hj => ⟨(H.low j hj).1, by simpa using (H.low j hj).2⟩⟩, ((((Fr.refl P w).set (.inl hp) _ _).set (.inl hp) _ _).set (.inl hp) _ _)⟩
  · rw [set_ne _ _ _ _ _ hne, set_ne _ _ _ _ _ hne, set_ne _ _ _ _ _ hne]; exact H.cells
  · have ho := H.own
    unfold OwnF at ho ⊢
    rw [hr, List.length_set, rc_set3 _ _ _ hi, ← hn]
    rw [← hn] at ho
    exact (World.ownsRow.stored (World.ownsRow.stored (World.ownsRow.stored ho _ _).1 _ _).1 _ _).1
/-- One round of a crash's loop, told ahead. -/
structure Rnd (w wr : World) (base g gv N c i m : Nat) (P : Nat → Prop) (R : RS) (ks : List Int) (xn xb : ByteArray) (xk : Nat) : Prop where
  D : RDk wr base g (.slice (some ⟨gv, 0, none⟩) N c) P { R with rs := cri R.rs ks i }
  F : Fr P w wr
  x : R.rs[i]? = some ⟨xn, xb, xk⟩
  m : cutr ⟨xn, xb, xk⟩ (kpt ks i) = ⟨xn, xb.extract 0 m, m⟩
/-- What stands behind the round. -/
theorem Rnd.step {w wr : World} {base g gv N c i m : Nat} {P : Nat → Prop} {R : RS} {ks : List Int} {xn xb : ByteArray} {xk : Nat} (h : Rnd w wr base g gv N c i m P R ks xn xb xk) {E : World} (bE : Below wr.heap.size wr E) :
    RDk (((E.setCell ⟨gv, i * 3, none⟩ (.string xn)).setCell ⟨gv, i * 3 + 1, none⟩ (.string (xb.extract 0 m))).setCell ⟨gv, i * 3 + 2, none⟩ (.int .i64 (m : Int))) base g (.slice (some ⟨gv, 0, none⟩) N c) P { R with rs := cri R.rs ks (i + 1) } ∧ Fr P w (((E.setCell ⟨gv, i * 3, none⟩ (.string xn)).setCell ⟨gv, i * 3 + 1, none⟩ (.string (xb.extract 0 m))).setCell ⟨gv, i * 3 + 2, none⟩ (.int .i64 (m : Int))) := by
  have DE := h.D.later bE
  have hi : i < (cri R.rs ks i).length := by rw [cri_len]; exact (List.getElem?_eq_some_iff.1 h.x).1
  obtain ⟨h1, h2⟩ := tk_file3 (i := i) (y := ⟨xn, xb.extract 0 m, m⟩) (rs' := cri R.rs ks (i + 1)) DE hi (by rw [← cri_step h.x, h.m])
  exact ⟨h1, Dh.Fr.join h.F (fr_before bE h2)⟩
set_option maxHeartbeats 8000000 in
set_option maxRecDepth 100000 in
theorem crash_any {base g : Nat} {v : Value} {P : Nat → Prop} {R : RS} (ka : Option Addr) (kl kc : Nat) (ks : List Int) (w : World) (H : RDk w base g v P R) (hok : RS.ok R) (HK : Ints w ka kl kc ks) (hkl : kl ≤ 140737488351232) (hkp : ∀ x, ka = some x → 0 < kl → ¬ P x.block) :
    Calls Try.prog 42 #[.pointer (some ⟨g, 0, none⟩), .slice ka kl kc] w fun e w' => e = .returned (.int .i64 0) ∧ Tk w w' base g P (rcrs R ks).1 := by
  have hlen := hok.len
  have htot := hid hok.tot
  have hks := hid hok.k
  obtain ⟨a, c, rfl, hnc, hsome, _⟩ := H.own.shape
  obtain ⟨N, hN⟩ : ∃ N, N = R.rs.length := ⟨_, rfl⟩
  have HP0 : Hid (RDk w base g (.slice a N c) P { R with rs := cri R.rs ks 0 }) := by rw [cri_zero, hN]; exact H
  rw [← hN] at hlen hsome
  replace hN := hid hN
  replace hsome := hid hsome
  replace HK := hid HK
  replace hkp := hid hkp
  have i64 : (N : Int) ≤ 4096 := by omega
  have hkl2 : (kl : Int) ≤ 140737488351232 := by omega
  clear H hok
  go_enter Try.func42, Try.ntmps42
  go_wp2_with fail
  go_loopw [5] (fun iv wr => ∃ i : Nat, i ≤ N ∧ iv = .int .i64 (i : Int) ∧ Hid (RDk wr base g (.slice a N c) P { R with rs := cri R.rs ks i }) ∧ Hid (Fr P w wr)) (fun iv _ => N - (intOf iv).toNat)
  case atStart => exact ⟨0, Nat.zero_le _, rfl, HP0, Fr.refl _ _⟩
  case round =>
    obtain ⟨i, hi, rfl, HD, HF⟩ := hrel
    have c0 := HD.out.cell 0 _ rfl
    by_cases hiN : i < N
    · obtain ⟨⟨xn, xb, xk⟩, hx⟩ : ∃ x, R.rs[i]? = some x := ⟨_, List.getElem?_eq_getElem (by have := hN.out; omega)⟩
      obtain ⟨gv, rfl⟩ := hsome.out (by omega)
      obtain ⟨k0, k1, k2⟩ := HD.out.own.cells i _ (cri_at (ks := ks) hx)
      have i1 : (i : Int) < (N : Int) := by omega
      have hxk : xk ≤ xb.size := hks.out _ (List.mem_of_getElem? hx)
      have hxb : xb.size ≤ 268435456 := Nat.le_trans (sum_mem (List.mem_of_getElem? hx)) htot.out
      have hIr := hid (ints_fr HF.out HK.out hkp.out)
      have hlk : ks.length = kl := HK.out.1
      by_cases hpos : kl = 0
      · have hx0 : kpt ks i = 0 := by unfold kpt; rw [if_pos (by omega)]
        obtain ⟨m, hme⟩ : ∃ m, m = xk := ⟨_, rfl⟩
        have hm : sty xb.size xk (kpt ks i) = m := by rw [hx0, hme]; unfold sty; rw [if_pos (by omega)]
        have hmz : m ≤ xb.size := by omega
        have j0 : ¬ (0 : Int) < (kl : Int) := by omega
        have j1 : ¬ (xb.size : Int) - (xk : Int) < 0 := by omega
        have wm : IntKind.i64.wrap (xk : Int) = (m : Int) := by rw [IntKind.wrap_i64]; omega
        replace hlk := hid hlk
        replace hme := hid hme
        replace hpos := hid hpos
        clear hIr
        have RN : Rnd w wr base g gv N c i m P R ks xn xb xk := ⟨HD.out, HF.out, hx, by unfold cutr; dsimp only; rw [hm]⟩
        obtain ⟨WA, eWA⟩ : ∃ W, wr.alloc (.cells #[.string xn, .string xb, .int .i64 (xk : Int)] 88) = W := ⟨_, rfl⟩
        obtain ⟨gf, egf⟩ : ∃ n, wr.heap.size = n := ⟨_, rfl⟩
        have kA : WA.heap[gf]? = some (.cells #[.string xn, .string xb, .int .i64 (xk : Int)] 88) := by rw [← eWA, ← egf]; exact new_at _ _
        have bA : Below wr.heap.size wr WA := by rw [← eWA]; exact box_below _ _
        have a1 := cell_of kA 1 (.string xb) rfl
        have a2 := cell_of kA 2 (.int .i64 (xk : Int)) rfl
        have fA := fz_of kA
        obtain ⟨WB, eWB⟩ : ∃ W, WA.setCell ⟨gf, 1, none⟩ (.string (xb.extract 0 m)) = W := ⟨_, rfl⟩
        have kB : WB.heap[gf]? = some (.cells #[.string xn, .string (xb.extract 0 m), .int .i64 (xk : Int)] 88) := by rw [← eWB]; exact set_of kA 1 _
        have bB : Below wr.heap.size wr WB := by rw [← eWB]; exact bA.setCell (Nat.le_of_eq egf) _
        have b1 := cell_of kB 1 (.string (xb.extract 0 m)) rfl
        have b2 := cell_of kB 2 (.int .i64 (xk : Int)) rfl
        have fB := fz_of kB
        obtain ⟨WC, eWC⟩ : ∃ W, WB.setCell ⟨gf, 2, none⟩ (.int .i64 (m : Int)) = W := ⟨_, rfl⟩
        have kC : WC.heap[gf]? = some (.cells #[.string xn, .string (xb.extract 0 m), .int .i64 (m : Int)] 88) := by rw [← eWC]; exact set_of kB 2 _
        have bC : Below wr.heap.size wr WC := by rw [← eWC]; exact bB.setCell (Nat.le_of_eq egf) _
        obtain ⟨E, hE⟩ : ∃ E, E = WC.drew := ⟨_, rfl⟩
        have bE : Below wr.heap.size wr E := by rw [hE]; exact bC.drew
        have kE : E.heap[gf]? = some (.cells #[.string xn, .string (xb.extract 0 m), .int .i64 (m : Int)] 88) := by rw [hE]; exact kC
        have g0 := cell_of kE 0 (.string xn) rfl
        have g1 := cell_of kE 1 (.string (xb.extract 0 m)) rfl
        have g2 := cell_of kE 2 (.int .i64 (m : Int)) rfl
        have DE := RN.D.later bE
        have cE := DE.cell 0 _ rfl
        have o0 : E.ownsRow base 88 3 (.slice (some ⟨gv, 0, none⟩) N c) N (rc (cri R.rs ks i)) := by
          have := DE.own
          unfold OwnF at this
          rw [cri_len] at this
          rw [hN.out]
          rw [hN.out] at this
          exact this
        have o1 := (World.ownsRow.stored o0 (i * 3) (.string xn)).1
        have o2 := (World.ownsRow.stored o1 (i * 3 + 1) (.string (xb.extract 0 m))).1
        obtain ⟨r0, r1, r2⟩ := rc_get _ i _ (cri_at (ks := ks) hx)
        have d0 : E.cell? ⟨gv, i * 3, none⟩ = some (.string xn) := by rw [World.ownsRow.cellAt o0 _ (by omega)]; exact r0
        have d1 : (E.setCell ⟨gv, i * 3, none⟩ (.string xn)).cell? ⟨gv, i * 3 + 1, none⟩ = some (.string xb) := by rw [World.ownsRow.cellAt o1 _ (by omega), List.getElem?_set_ne (by omega)]; exact r1
        have d2 : ((E.setCell ⟨gv, i * 3, none⟩ (.string xn)).setCell ⟨gv, i * 3 + 1, none⟩ (.string (xb.extract 0 m))).cell? ⟨gv, i * 3 + 2, none⟩ = some (.int .i64 (xk : Int)) := by rw [World.ownsRow.cellAt o2 _ (by omega), List.getElem?_set_ne (by omega), List.getElem?_set_ne (by omega)]; exact r2
        have f0 := World.ownsRow.frozenAt o0 (i * 3)
        have f1 := World.ownsRow.frozenAt o1 (i * 3 + 1)
        have f2 := World.ownsRow.frozenAt o2 (i * 3 + 2)
        have ST := hid (RN.step bE)
        have hse : (xb.extract 0 m).size = m := by rw [ByteArray.size_extract]; omega
        have hm1 : (m : Int) ≤ (xb.size : Int) := by omega
        have hm2 : (m : Int) ≤ 268435456 := by omega
        have hwr : IntKind.i64.wrap ((i : Int) + 1) = ((i + 1 : Nat) : Int) := by rw [IntKind.wrap_i64]; omega
        replace hE := hid hE
        replace hm := hid hm
        clear RN kA bA kB bB kC bC bE kE DE o0 o1 o2 r0 r1 r2 hx HD HF
        have w1 : IntKind.i64.wrap ((xb.size : Int) - (xk : Int)) = (xb.size : Int) - (xk : Int) := by rw [IntKind.wrap_i64]; omega
        go_wp2_with fail
        refine wp_region_any (by kernel_rfl) ?_
        change wpAny _ _ _ _ _ _ _ (World.drew _)
        rw [← hE.out]
        refine wpAny_take (i := 0) (v := ?v1) rfl (by kernel_rfl) (by kernel_rfl) (by kernel_rfl) (fun _ _ _ h => h) (Or.inl ⟨by rfl, ?h1⟩) ?_
        case h1 => (intro w; go_simp; try (with_reducible rfl))
        go_simp
        refine wpAny_take (i := 1) (v := ?v2) rfl (by kernel_rfl) (by kernel_rfl) (by kernel_rfl) (fun _ _ _ h => h) (Or.inl ⟨by rfl, ?h2⟩) ?_
        case h2 => (intro w; go_simp; try (with_reducible rfl))
        go_simp
        refine wpAny_take (i := 2) (v := ?v3) rfl (by kernel_rfl) (by kernel_rfl) (by kernel_rfl) (fun _ _ _ h => h) (Or.inl ⟨by rfl, ?h3⟩) ?_
        case h3 => (intro w; go_simp; try (with_reducible rfl))
        go_simp
        refine wpAny_take (i := 4) (v := ?v4) rfl (by kernel_rfl) (by kernel_rfl) (by kernel_rfl) (fun _ _ _ h => h) (Or.inl ⟨by rfl, ?h4⟩) ?_
        case h4 => (intro w; go_simp; try (with_reducible rfl))
        go_simp
        refine wpAny_ready (rs := [3, 5]) (by kernel_rfl) (by simp) ?_
        refine AllReady.cons rfl (fun K hK => ?_) ?_
        · go_simp
          refine hK _ _ ?_
          clear hK K
          refine wpAny_ready (rs := [5]) (by kernel_rfl) (by simp) ?_
          refine AllReady.cons rfl (fun K hK => ?_) ?_
          · go_simp
            refine hK _ _ ?_
            clear hK K
            refine wpAny_take (i := 6) (v := ?v5) rfl (by kernel_rfl) (by kernel_rfl) (by kernel_rfl) (fun _ _ _ h => h) (Or.inl ⟨by rfl, ?h5⟩) ?_
            case h5 => (intro w; go_simp; try (with_reducible rfl))
            go_simp
            refine wpAny_ready (rs := [7]) (by kernel_rfl) (by simp) ?_
            refine AllReady.cons rfl (fun K hK => ?_) ?_
            · go_simp
              refine hK _ _ ?_
              clear hK K
              refine wpAny_done (by kernel_rfl) ?_ _
              go_wp2_with fail
              refine ⟨⟨i + 1, by omega, by first | rfl | go_num, ST.out.1, ST.out.2⟩, ?_⟩
              simp only [intOf]; omega
            exact AllReady.nil
          exact AllReady.nil
        refine AllReady.cons rfl (fun K hK => ?_) ?_
        · go_simp
          refine hK _ _ ?_
          clear hK K
          refine wpAny_ready (rs := [3]) (by kernel_rfl) (by simp) ?_
          refine AllReady.cons rfl (fun K hK => ?_) ?_
          · go_simp
            refine hK _ _ ?_
            clear hK K
            refine wpAny_take (i := 6) (v := ?v6) rfl (by kernel_rfl) (by kernel_rfl) (by kernel_rfl) (fun _ _ _ h => h) (Or.inl ⟨by rfl, ?h6⟩) ?_
            case h6 => (intro w; go_simp; try (with_reducible rfl))
            go_simp
            refine wpAny_ready (rs := [7]) (by kernel_rfl) (by simp) ?_
            refine AllReady.cons rfl (fun K hK => ?_) ?_
            · go_simp
              refine hK _ _ ?_
              clear hK K
              refine wpAny_done (by kernel_rfl) ?_ _
              go_wp2_with fail
              refine ⟨⟨i + 1, by omega, by first | rfl | go_num, ST.out.1, ST.out.2⟩, ?_⟩
              simp only [intOf]; omega
            exact AllReady.nil
          exact AllReady.nil
        exact AllReady.nil
      · have hpos : 0 < kl := by omega
        obtain ⟨x, hxx⟩ : ∃ x, x = kpt ks i := ⟨_, rfl⟩
        have hjm : i % kl < kl := Nat.mod_lt _ hpos
        have hxe : x = ks.getD (i % kl) 0 := by rw [hxx]; unfold kpt; rw [hlk, if_neg (by omega)]
        have hxr : -9223372036854775808 ≤ x ∧ x ≤ 9223372036854775807 := by
          rw [hxe, List.getD_eq_getElem?_getD]
          have hl : i % kl < ks.length := by omega
          rw [List.getElem?_eq_getElem hl]
          exact HK.out.2.2.2.1 _ (List.getElem_mem hl)
        have hmod : ((i % kl : Nat) : Int) = (i : Int) % (kl : Int) := by omega
        cases ka with
        | none => exact absurd (hIr.out.2.2.1 rfl).1 (by omega)
        | some ad =>
          obtain ⟨kb, ko, kp⟩ := ad
          have hcx : wr.cell? ((⟨kb, ko, kp⟩ : Addr).add (i % kl)) = some (.int .i64 x) := by rw [hxe]; exact hIr.out.2.2.2.2 _ rfl _ hjm
          have hkp0 : kp = none := by simpa [Addr.add] using World.cell?_spot (hIr.out.2.2.2.2 _ rfl 0 hpos)
          subst hkp0
          rw [show (⟨kb, ko, none⟩ : Addr).add (i % kl) = ⟨kb, ko + i % kl, none⟩ by unfold Addr.add; split <;> simp_all] at hcx
          have hcy : (wr.alloc (.cells #[.string xn, .string xb, .int .i64 (xk : Int)] 88)).cell? ⟨kb, ko + i % kl, none⟩ = some (.int .i64 x) := ((box_below wr _).cell (block_lt_of_cell hcx)).trans hcx
          have j0 : (0 : Int) < (kl : Int) := by omega
          have j1 : ((i : Int) % (kl : Int)).toNat = i % kl := by rw [← hmod]; exact Int.toNat_natCast _
          have j2 : (i : Int) % (kl : Int) < (kl : Int) := by rw [← hmod]; omega
          have j3 : 0 ≤ (i : Int) % (kl : Int) := by rw [← hmod]; omega
          replace hlk := hid hlk
          replace hxe := hid hxe
          replace hmod := hid hmod
          clear hIr
          by_cases hneg : x < 0
          · obtain ⟨m, hme⟩ : ∃ m, m = xk := ⟨_, rfl⟩
            have hm : sty xb.size xk (kpt ks i) = m := by rw [← hxx, hme]; unfold sty; rw [if_pos (by omega)]
            have hmz : m ≤ xb.size := by omega
            have j4 : ¬ (xb.size : Int) - (xk : Int) < 0 := by omega
            have wm : IntKind.i64.wrap (xk : Int) = (m : Int) := by rw [IntKind.wrap_i64]; omega
            replace hme := hid hme
            replace hxx := hid hxx
            have RN : Rnd w wr base g gv N c i m P R ks xn xb xk := ⟨HD.out, HF.out, hx, by unfold cutr; dsimp only; rw [hm]⟩
            obtain ⟨WA, eWA⟩ : ∃ W, wr.alloc (.cells #[.string xn, .string xb, .int .i64 (xk : Int)] 88) = W := ⟨_, rfl⟩
            obtain ⟨gf, egf⟩ : ∃ n, wr.heap.size = n := ⟨_, rfl⟩
            have kA : WA.heap[gf]? = some (.cells #[.string xn, .string xb, .int .i64 (xk : Int)] 88) := by rw [← eWA, ← egf]; exact new_at _ _
            have bA : Below wr.heap.size wr WA := by rw [← eWA]; exact box_below _ _
            have a1 := cell_of kA 1 (.string xb) rfl
            have a2 := cell_of kA 2 (.int .i64 (xk : Int)) rfl
            have fA := fz_of kA
            obtain ⟨WB, eWB⟩ : ∃ W, WA.setCell ⟨gf, 1, none⟩ (.string (xb.extract 0 m)) = W := ⟨_, rfl⟩
            have kB : WB.heap[gf]? = some (.cells #[.string xn, .string (xb.extract 0 m), .int .i64 (xk : Int)] 88) := by rw [← eWB]; exact set_of kA 1 _
            have bB : Below wr.heap.size wr WB := by rw [← eWB]; exact bA.setCell (Nat.le_of_eq egf) _
            have b1 := cell_of kB 1 (.string (xb.extract 0 m)) rfl
            have b2 := cell_of kB 2 (.int .i64 (xk : Int)) rfl
            have fB := fz_of kB
            obtain ⟨WC, eWC⟩ : ∃ W, WB.setCell ⟨gf, 2, none⟩ (.int .i64 (m : Int)) = W := ⟨_, rfl⟩
            have kC : WC.heap[gf]? = some (.cells #[.string xn, .string (xb.extract 0 m), .int .i64 (m : Int)] 88) := by rw [← eWC]; exact set_of kB 2 _
            have bC : Below wr.heap.size wr WC := by rw [← eWC]; exact bB.setCell (Nat.le_of_eq egf) _
            obtain ⟨E, hE⟩ : ∃ E, E = WC.drew := ⟨_, rfl⟩
            have bE : Below wr.heap.size wr E := by rw [hE]; exact bC.drew
            have kE : E.heap[gf]? = some (.cells #[.string xn, .string (xb.extract 0 m), .int .i64 (m : Int)] 88) := by rw [hE]; exact kC
            have g0 := cell_of kE 0 (.string xn) rfl
            have g1 := cell_of kE 1 (.string (xb.extract 0 m)) rfl
            have g2 := cell_of kE 2 (.int .i64 (m : Int)) rfl
            have DE := RN.D.later bE
            have cE := DE.cell 0 _ rfl
            have o0 : E.ownsRow base 88 3 (.slice (some ⟨gv, 0, none⟩) N c) N (rc (cri R.rs ks i)) := by
              have := DE.own
              unfold OwnF at this
              rw [cri_len] at this
              rw [hN.out]
              rw [hN.out] at this
              exact this
            have o1 := (World.ownsRow.stored o0 (i * 3) (.string xn)).1
            have o2 := (World.ownsRow.stored o1 (i * 3 + 1) (.string (xb.extract 0 m))).1
            obtain ⟨r0, r1, r2⟩ := rc_get _ i _ (cri_at (ks := ks) hx)
            have d0 : E.cell? ⟨gv, i * 3, none⟩ = some (.string xn) := by rw [World.ownsRow.cellAt o0 _ (by omega)]; exact r0
            have d1 : (E.setCell ⟨gv, i * 3, none⟩ (.string xn)).cell? ⟨gv, i * 3 + 1, none⟩ = some (.string xb) := by rw [World.ownsRow.cellAt o1 _ (by omega), List.getElem?_set_ne (by omega)]; exact r1
            have d2 : ((E.setCell ⟨gv, i * 3, none⟩ (.string xn)).setCell ⟨gv, i * 3 + 1, none⟩ (.string (xb.extract 0 m))).cell? ⟨gv, i * 3 + 2, none⟩ = some (.int .i64 (xk : Int)) := by rw [World.ownsRow.cellAt o2 _ (by omega), List.getElem?_set_ne (by omega), List.getElem?_set_ne (by omega)]; exact r2
            have f0 := World.ownsRow.frozenAt o0 (i * 3)
            have f1 := World.ownsRow.frozenAt o1 (i * 3 + 1)
            have f2 := World.ownsRow.frozenAt o2 (i * 3 + 2)
            have ST := hid (RN.step bE)
            have hse : (xb.extract 0 m).size = m := by rw [ByteArray.size_extract]; omega
            have hm1 : (m : Int) ≤ (xb.size : Int) := by omega
            have hm2 : (m : Int) ≤ 268435456 := by omega
            have hwr : IntKind.i64.wrap ((i : Int) + 1) = ((i + 1 : Nat) : Int) := by rw [IntKind.wrap_i64]; omega
            replace hE := hid hE
            replace hm := hid hm
            clear RN kA bA kB bB kC bC bE kE DE o0 o1 o2 r0 r1 r2 hx HD HF
            have w1 : IntKind.i64.wrap ((xb.size : Int) - (xk : Int)) = (xb.size : Int) - (xk : Int) := by rw [IntKind.wrap_i64]; omega
            rw [eWA] at hcy
            go_wp2_with fail
            refine wp_region_any (by kernel_rfl) ?_
            change wpAny _ _ _ _ _ _ _ (World.drew _)
            rw [← hE.out]
            refine wpAny_take (i := 0) (v := ?v7) rfl (by kernel_rfl) (by kernel_rfl) (by kernel_rfl) (fun _ _ _ h => h) (Or.inl ⟨by rfl, ?h7⟩) ?_
            case h7 => (intro w; go_simp; try (with_reducible rfl))
            go_simp
            refine wpAny_take (i := 1) (v := ?v8) rfl (by kernel_rfl) (by kernel_rfl) (by kernel_rfl) (fun _ _ _ h => h) (Or.inl ⟨by rfl, ?h8⟩) ?_
            case h8 => (intro w; go_simp; try (with_reducible rfl))
            go_simp
            refine wpAny_take (i := 2) (v := ?v9) rfl (by kernel_rfl) (by kernel_rfl) (by kernel_rfl) (fun _ _ _ h => h) (Or.inl ⟨by rfl, ?h9⟩) ?_
            case h9 => (intro w; go_simp; try (with_reducible rfl))
            go_simp
            refine wpAny_take (i := 4) (v := ?v10) rfl (by kernel_rfl) (by kernel_rfl) (by kernel_rfl) (fun _ _ _ h => h) (Or.inl ⟨by rfl, ?h10⟩) ?_
            case h10 => (intro w; go_simp; try (with_reducible rfl))
            go_simp
            refine wpAny_ready (rs := [3, 5]) (by kernel_rfl) (by simp) ?_
            refine AllReady.cons rfl (fun K hK => ?_) ?_
            · go_simp
              refine hK _ _ ?_
              clear hK K
              refine wpAny_ready (rs := [5]) (by kernel_rfl) (by simp) ?_
              refine AllReady.cons rfl (fun K hK => ?_) ?_
              · go_simp
                refine hK _ _ ?_
                clear hK K
                refine wpAny_take (i := 6) (v := ?v11) rfl (by kernel_rfl) (by kernel_rfl) (by kernel_rfl) (fun _ _ _ h => h) (Or.inl ⟨by rfl, ?h11⟩) ?_
                case h11 => (intro w; go_simp; try (with_reducible rfl))
                go_simp
                refine wpAny_ready (rs := [7]) (by kernel_rfl) (by simp) ?_
                refine AllReady.cons rfl (fun K hK => ?_) ?_
                · go_simp
                  refine hK _ _ ?_
                  clear hK K
                  refine wpAny_done (by kernel_rfl) ?_ _
                  go_wp2_with fail
                  refine ⟨⟨i + 1, by omega, by first | rfl | go_num, ST.out.1, ST.out.2⟩, ?_⟩
                  simp only [intOf]; omega
                exact AllReady.nil
              exact AllReady.nil
            refine AllReady.cons rfl (fun K hK => ?_) ?_
            · go_simp
              refine hK _ _ ?_
              clear hK K
              refine wpAny_ready (rs := [3]) (by kernel_rfl) (by simp) ?_
              refine AllReady.cons rfl (fun K hK => ?_) ?_
              · go_simp
                refine hK _ _ ?_
                clear hK K
                refine wpAny_take (i := 6) (v := ?v12) rfl (by kernel_rfl) (by kernel_rfl) (by kernel_rfl) (fun _ _ _ h => h) (Or.inl ⟨by rfl, ?h12⟩) ?_
                case h12 => (intro w; go_simp; try (with_reducible rfl))
                go_simp
                refine wpAny_ready (rs := [7]) (by kernel_rfl) (by simp) ?_
                refine AllReady.cons rfl (fun K hK => ?_) ?_
                · go_simp
                  refine hK _ _ ?_
                  clear hK K
                  refine wpAny_done (by kernel_rfl) ?_ _
                  go_wp2_with fail
                  refine ⟨⟨i + 1, by omega, by first | rfl | go_num, ST.out.1, ST.out.2⟩, ?_⟩
                  simp only [intOf]; omega
                exact AllReady.nil
              exact AllReady.nil
            exact AllReady.nil
          · by_cases hbig : (xb.size : Int) - (xk : Int) < x
            · obtain ⟨m, hme⟩ : ∃ m, m = xb.size := ⟨_, rfl⟩
              have hm : sty xb.size xk (kpt ks i) = m := by rw [← hxx, hme]; unfold sty; rw [if_neg (by omega), if_neg (by omega)]
              have hmz : m ≤ xb.size := by omega
              have wm : IntKind.i64.wrap ((xk : Int) + ((xb.size : Int) - (xk : Int))) = (m : Int) := by rw [IntKind.wrap_i64]; omega
              replace hme := hid hme
              replace hxx := hid hxx
              have RN : Rnd w wr base g gv N c i m P R ks xn xb xk := ⟨HD.out, HF.out, hx, by unfold cutr; dsimp only; rw [hm]⟩
              obtain ⟨WA, eWA⟩ : ∃ W, wr.alloc (.cells #[.string xn, .string xb, .int .i64 (xk : Int)] 88) = W := ⟨_, rfl⟩
              obtain ⟨gf, egf⟩ : ∃ n, wr.heap.size = n := ⟨_, rfl⟩
              have kA : WA.heap[gf]? = some (.cells #[.string xn, .string xb, .int .i64 (xk : Int)] 88) := by rw [← eWA, ← egf]; exact new_at _ _
              have bA : Below wr.heap.size wr WA := by rw [← eWA]; exact box_below _ _
              have a1 := cell_of kA 1 (.string xb) rfl
              have a2 := cell_of kA 2 (.int .i64 (xk : Int)) rfl
              have fA := fz_of kA
              obtain ⟨WB, eWB⟩ : ∃ W, WA.setCell ⟨gf, 1, none⟩ (.string (xb.extract 0 m)) = W := ⟨_, rfl⟩
              have kB : WB.heap[gf]? = some (.cells #[.string xn, .string (xb.extract 0 m), .int .i64 (xk : Int)] 88) := by rw [← eWB]; exact set_of kA 1 _
              have bB : Below wr.heap.size wr WB := by rw [← eWB]; exact bA.setCell (Nat.le_of_eq egf) _
              have b1 := cell_of kB 1 (.string (xb.extract 0 m)) rfl
              have b2 := cell_of kB 2 (.int .i64 (xk : Int)) rfl
              have fB := fz_of kB
              obtain ⟨WC, eWC⟩ : ∃ W, WB.setCell ⟨gf, 2, none⟩ (.int .i64 (m : Int)) = W := ⟨_, rfl⟩
              have kC : WC.heap[gf]? = some (.cells #[.string xn, .string (xb.extract 0 m), .int .i64 (m : Int)] 88) := by rw [← eWC]; exact set_of kB 2 _
              have bC : Below wr.heap.size wr WC := by rw [← eWC]; exact bB.setCell (Nat.le_of_eq egf) _
              obtain ⟨E, hE⟩ : ∃ E, E = WC.drew := ⟨_, rfl⟩
              have bE : Below wr.heap.size wr E := by rw [hE]; exact bC.drew
              have kE : E.heap[gf]? = some (.cells #[.string xn, .string (xb.extract 0 m), .int .i64 (m : Int)] 88) := by rw [hE]; exact kC
              have g0 := cell_of kE 0 (.string xn) rfl
              have g1 := cell_of kE 1 (.string (xb.extract 0 m)) rfl
              have g2 := cell_of kE 2 (.int .i64 (m : Int)) rfl
              have DE := RN.D.later bE
              have cE := DE.cell 0 _ rfl
              have o0 : E.ownsRow base 88 3 (.slice (some ⟨gv, 0, none⟩) N c) N (rc (cri R.rs ks i)) := by
                have := DE.own
                unfold OwnF at this
                rw [cri_len] at this
                rw [hN.out]
                rw [hN.out] at this
                exact this
              have o1 := (World.ownsRow.stored o0 (i * 3) (.string xn)).1
              have o2 := (World.ownsRow.stored o1 (i * 3 + 1) (.string (xb.extract 0 m))).1
              obtain ⟨r0, r1, r2⟩ := rc_get _ i _ (cri_at (ks := ks) hx)
              have d0 : E.cell? ⟨gv, i * 3, none⟩ = some (.string xn) := by rw [World.ownsRow.cellAt o0 _ (by omega)]; exact r0
              have d1 : (E.setCell ⟨gv, i * 3, none⟩ (.string xn)).cell? ⟨gv, i * 3 + 1, none⟩ = some (.string xb) := by rw [World.ownsRow.cellAt o1 _ (by omega), List.getElem?_set_ne (by omega)]; exact r1
              have d2 : ((E.setCell ⟨gv, i * 3, none⟩ (.string xn)).setCell ⟨gv, i * 3 + 1, none⟩ (.string (xb.extract 0 m))).cell? ⟨gv, i * 3 + 2, none⟩ = some (.int .i64 (xk : Int)) := by rw [World.ownsRow.cellAt o2 _ (by omega), List.getElem?_set_ne (by omega), List.getElem?_set_ne (by omega)]; exact r2
              have f0 := World.ownsRow.frozenAt o0 (i * 3)
              have f1 := World.ownsRow.frozenAt o1 (i * 3 + 1)
              have f2 := World.ownsRow.frozenAt o2 (i * 3 + 2)
              have ST := hid (RN.step bE)
              have hse : (xb.extract 0 m).size = m := by rw [ByteArray.size_extract]; omega
              have hm1 : (m : Int) ≤ (xb.size : Int) := by omega
              have hm2 : (m : Int) ≤ 268435456 := by omega
              have hwr : IntKind.i64.wrap ((i : Int) + 1) = ((i + 1 : Nat) : Int) := by rw [IntKind.wrap_i64]; omega
              replace hE := hid hE
              replace hm := hid hm
              clear RN kA bA kB bB kC bC bE kE DE o0 o1 o2 r0 r1 r2 hx HD HF
              have w1 : IntKind.i64.wrap ((xb.size : Int) - (xk : Int)) = (xb.size : Int) - (xk : Int) := by rw [IntKind.wrap_i64]; omega
              rw [eWA] at hcy
              go_wp2_with fail
              refine wp_region_any (by kernel_rfl) ?_
              change wpAny _ _ _ _ _ _ _ (World.drew _)
              rw [← hE.out]
              refine wpAny_take (i := 0) (v := ?v13) rfl (by kernel_rfl) (by kernel_rfl) (by kernel_rfl) (fun _ _ _ h => h) (Or.inl ⟨by rfl, ?h13⟩) ?_
              case h13 => (intro w; go_simp; try (with_reducible rfl))
              go_simp
              refine wpAny_take (i := 1) (v := ?v14) rfl (by kernel_rfl) (by kernel_rfl) (by kernel_rfl) (fun _ _ _ h => h) (Or.inl ⟨by rfl, ?h14⟩) ?_
              case h14 => (intro w; go_simp; try (with_reducible rfl))
              go_simp
              refine wpAny_take (i := 2) (v := ?v15) rfl (by kernel_rfl) (by kernel_rfl) (by kernel_rfl) (fun _ _ _ h => h) (Or.inl ⟨by rfl, ?h15⟩) ?_
              case h15 => (intro w; go_simp; try (with_reducible rfl))
              go_simp
              refine wpAny_take (i := 4) (v := ?v16) rfl (by kernel_rfl) (by kernel_rfl) (by kernel_rfl) (fun _ _ _ h => h) (Or.inl ⟨by rfl, ?h16⟩) ?_
              case h16 => (intro w; go_simp; try (with_reducible rfl))
              go_simp
              refine wpAny_ready (rs := [3, 5]) (by kernel_rfl) (by simp) ?_
              refine AllReady.cons rfl (fun K hK => ?_) ?_
              · go_simp
                refine hK _ _ ?_
                clear hK K
                refine wpAny_ready (rs := [5]) (by kernel_rfl) (by simp) ?_
                refine AllReady.cons rfl (fun K hK => ?_) ?_
                · go_simp
                  refine hK _ _ ?_
                  clear hK K
                  refine wpAny_take (i := 6) (v := ?v17) rfl (by kernel_rfl) (by kernel_rfl) (by kernel_rfl) (fun _ _ _ h => h) (Or.inl ⟨by rfl, ?h17⟩) ?_
                  case h17 => (intro w; go_simp; try (with_reducible rfl))
                  go_simp
                  refine wpAny_ready (rs := [7]) (by kernel_rfl) (by simp) ?_
                  refine AllReady.cons rfl (fun K hK => ?_) ?_
                  · go_simp
                    refine hK _ _ ?_
                    clear hK K
                    refine wpAny_done (by kernel_rfl) ?_ _
                    go_wp2_with fail
                    refine ⟨⟨i + 1, by omega, by first | rfl | go_num, ST.out.1, ST.out.2⟩, ?_⟩
                    simp only [intOf]; omega
                  exact AllReady.nil
                exact AllReady.nil
              refine AllReady.cons rfl (fun K hK => ?_) ?_
              · go_simp
                refine hK _ _ ?_
                clear hK K
                refine wpAny_ready (rs := [3]) (by kernel_rfl) (by simp) ?_
                refine AllReady.cons rfl (fun K hK => ?_) ?_
                · go_simp
                  refine hK _ _ ?_
                  clear hK K
                  refine wpAny_take (i := 6) (v := ?v18) rfl (by kernel_rfl) (by kernel_rfl) (by kernel_rfl) (fun _ _ _ h => h) (Or.inl ⟨by rfl, ?h18⟩) ?_
                  case h18 => (intro w; go_simp; try (with_reducible rfl))
                  go_simp
                  refine wpAny_ready (rs := [7]) (by kernel_rfl) (by simp) ?_
                  refine AllReady.cons rfl (fun K hK => ?_) ?_
                  · go_simp
                    refine hK _ _ ?_
                    clear hK K
                    refine wpAny_done (by kernel_rfl) ?_ _
                    go_wp2_with fail
                    refine ⟨⟨i + 1, by omega, by first | rfl | go_num, ST.out.1, ST.out.2⟩, ?_⟩
                    simp only [intOf]; omega
                  exact AllReady.nil
                exact AllReady.nil
              exact AllReady.nil
            · obtain ⟨m, hme⟩ : ∃ m, m = xk + x.toNat := ⟨_, rfl⟩
              have hm : sty xb.size xk (kpt ks i) = m := by
                rw [← hxx, hme]; unfold sty
                by_cases h0 : x ≤ 0
                · rw [if_pos h0]; omega
                · rw [if_neg h0, if_pos (by omega)]
              have hmz : m ≤ xb.size := by omega
              have wm : IntKind.i64.wrap ((xk : Int) + x) = (m : Int) := by rw [IntKind.wrap_i64]; omega
              replace hme := hid hme
              replace hxx := hid hxx
              have RN : Rnd w wr base g gv N c i m P R ks xn xb xk := ⟨HD.out, HF.out, hx, by unfold cutr; dsimp only; rw [hm]⟩
              obtain ⟨WA, eWA⟩ : ∃ W, wr.alloc (.cells #[.string xn, .string xb, .int .i64 (xk : Int)] 88) = W := ⟨_, rfl⟩
              obtain ⟨gf, egf⟩ : ∃ n, wr.heap.size = n := ⟨_, rfl⟩
              have kA : WA.heap[gf]? = some (.cells #[.string xn, .string xb, .int .i64 (xk : Int)] 88) := by rw [← eWA, ← egf]; exact new_at _ _
              have bA : Below wr.heap.size wr WA := by rw [← eWA]; exact box_below _ _
              have a1 := cell_of kA 1 (.string xb) rfl
              have a2 := cell_of kA 2 (.int .i64 (xk : Int)) rfl
              have fA := fz_of kA
              obtain ⟨WB, eWB⟩ : ∃ W, WA.setCell ⟨gf, 1, none⟩ (.string (xb.extract 0 m)) = W := ⟨_, rfl⟩
              have kB : WB.heap[gf]? = some (.cells #[.string xn, .string (xb.extract 0 m), .int .i64 (xk : Int)] 88) := by rw [← eWB]; exact set_of kA 1 _
              have bB : Below wr.heap.size wr WB := by rw [← eWB]; exact bA.setCell (Nat.le_of_eq egf) _
              have b1 := cell_of kB 1 (.string (xb.extract 0 m)) rfl
              have b2 := cell_of kB 2 (.int .i64 (xk : Int)) rfl
              have fB := fz_of kB
              obtain ⟨WC, eWC⟩ : ∃ W, WB.setCell ⟨gf, 2, none⟩ (.int .i64 (m : Int)) = W := ⟨_, rfl⟩
              have kC : WC.heap[gf]? = some (.cells #[.string xn, .string (xb.extract 0 m), .int .i64 (m : Int)] 88) := by rw [← eWC]; exact set_of kB 2 _
              have bC : Below wr.heap.size wr WC := by rw [← eWC]; exact bB.setCell (Nat.le_of_eq egf) _
              obtain ⟨E, hE⟩ : ∃ E, E = WC.drew := ⟨_, rfl⟩
              have bE : Below wr.heap.size wr E := by rw [hE]; exact bC.drew
              have kE : E.heap[gf]? = some (.cells #[.string xn, .string (xb.extract 0 m), .int .i64 (m : Int)] 88) := by rw [hE]; exact kC
              have g0 := cell_of kE 0 (.string xn) rfl
              have g1 := cell_of kE 1 (.string (xb.extract 0 m)) rfl
              have g2 := cell_of kE 2 (.int .i64 (m : Int)) rfl
              have DE := RN.D.later bE
              have cE := DE.cell 0 _ rfl
              have o0 : E.ownsRow base 88 3 (.slice (some ⟨gv, 0, none⟩) N c) N (rc (cri R.rs ks i)) := by
                have := DE.own
                unfold OwnF at this
                rw [cri_len] at this
                rw [hN.out]
                rw [hN.out] at this
                exact this
              have o1 := (World.ownsRow.stored o0 (i * 3) (.string xn)).1
              have o2 := (World.ownsRow.stored o1 (i * 3 + 1) (.string (xb.extract 0 m))).1
              obtain ⟨r0, r1, r2⟩ := rc_get _ i _ (cri_at (ks := ks) hx)
              have d0 : E.cell? ⟨gv, i * 3, none⟩ = some (.string xn) := by rw [World.ownsRow.cellAt o0 _ (by omega)]; exact r0
              have d1 : (E.setCell ⟨gv, i * 3, none⟩ (.string xn)).cell? ⟨gv, i * 3 + 1, none⟩ = some (.string xb) := by rw [World.ownsRow.cellAt o1 _ (by omega), List.getElem?_set_ne (by omega)]; exact r1
              have d2 : ((E.setCell ⟨gv, i * 3, none⟩ (.string xn)).setCell ⟨gv, i * 3 + 1, none⟩ (.string (xb.extract 0 m))).cell? ⟨gv, i * 3 + 2, none⟩ = some (.int .i64 (xk : Int)) := by rw [World.ownsRow.cellAt o2 _ (by omega), List.getElem?_set_ne (by omega), List.getElem?_set_ne (by omega)]; exact r2
              have f0 := World.ownsRow.frozenAt o0 (i * 3)
              have f1 := World.ownsRow.frozenAt o1 (i * 3 + 1)
              have f2 := World.ownsRow.frozenAt o2 (i * 3 + 2)
              have ST := hid (RN.step bE)
              have hse : (xb.extract 0 m).size = m := by rw [ByteArray.size_extract]; omega
              have hm1 : (m : Int) ≤ (xb.size : Int) := by omega
              have hm2 : (m : Int) ≤ 268435456 := by omega
              have hwr : IntKind.i64.wrap ((i : Int) + 1) = ((i + 1 : Nat) : Int) := by rw [IntKind.wrap_i64]; omega
              replace hE := hid hE
              replace hm := hid hm
              clear RN kA bA kB bB kC bC bE kE DE o0 o1 o2 r0 r1 r2 hx HD HF
              have w1 : IntKind.i64.wrap ((xb.size : Int) - (xk : Int)) = (xb.size : Int) - (xk : Int) := by rw [IntKind.wrap_i64]; omega
              rw [eWA] at hcy
              go_wp2_with fail
              refine wp_region_any (by kernel_rfl) ?_
              change wpAny _ _ _ _ _ _ _ (World.drew _)
              rw [← hE.out]
              refine wpAny_take (i := 0) (v := ?v19) rfl (by kernel_rfl) (by kernel_rfl) (by kernel_rfl) (fun _ _ _ h => h) (Or.inl ⟨by rfl, ?h19⟩) ?_
              case h19 => (intro w; go_simp; try (with_reducible rfl))
              go_simp
              refine wpAny_take (i := 1) (v := ?v20) rfl (by kernel_rfl) (by kernel_rfl) (by kernel_rfl) (fun _ _ _ h => h) (Or.inl ⟨by rfl, ?h20⟩) ?_
              case h20 => (intro w; go_simp; try (with_reducible rfl))
              go_simp
              refine wpAny_take (i := 2) (v := ?v21) rfl (by kernel_rfl) (by kernel_rfl) (by kernel_rfl) (fun _ _ _ h => h) (Or.inl ⟨by rfl, ?h21⟩) ?_
              case h21 => (intro w; go_simp; try (with_reducible rfl))
              go_simp
              refine wpAny_take (i := 4) (v := ?v22) rfl (by kernel_rfl) (by kernel_rfl) (by kernel_rfl) (fun _ _ _ h => h) (Or.inl ⟨by rfl, ?h22⟩) ?_
              case h22 => (intro w; go_simp; try (with_reducible rfl))
              go_simp
              refine wpAny_ready (rs := [3, 5]) (by kernel_rfl) (by simp) ?_
              refine AllReady.cons rfl (fun K hK => ?_) ?_
              · go_simp
                refine hK _ _ ?_
                clear hK K
                refine wpAny_ready (rs := [5]) (by kernel_rfl) (by simp) ?_
                refine AllReady.cons rfl (fun K hK => ?_) ?_
                · go_simp
                  refine hK _ _ ?_
                  clear hK K
                  refine wpAny_take (i := 6) (v := ?v23) rfl (by kernel_rfl) (by kernel_rfl) (by kernel_rfl) (fun _ _ _ h => h) (Or.inl ⟨by rfl, ?h23⟩) ?_
                  case h23 => (intro w; go_simp; try (with_reducible rfl))
                  go_simp
                  refine wpAny_ready (rs := [7]) (by kernel_rfl) (by simp) ?_
                  refine AllReady.cons rfl (fun K hK => ?_) ?_
                  · go_simp
                    refine hK _ _ ?_
                    clear hK K
                    refine wpAny_done (by kernel_rfl) ?_ _
                    go_wp2_with fail
                    refine ⟨⟨i + 1, by omega, by first | rfl | go_num, ST.out.1, ST.out.2⟩, ?_⟩
                    simp only [intOf]; omega
                  exact AllReady.nil
                exact AllReady.nil
              refine AllReady.cons rfl (fun K hK => ?_) ?_
              · go_simp
                refine hK _ _ ?_
                clear hK K
                refine wpAny_ready (rs := [3]) (by kernel_rfl) (by simp) ?_
                refine AllReady.cons rfl (fun K hK => ?_) ?_
                · go_simp
                  refine hK _ _ ?_
                  clear hK K
                  refine wpAny_take (i := 6) (v := ?v24) rfl (by kernel_rfl) (by kernel_rfl) (by kernel_rfl) (fun _ _ _ h => h) (Or.inl ⟨by rfl, ?h24⟩) ?_
                  case h24 => (intro w; go_simp; try (with_reducible rfl))
                  go_simp
                  refine wpAny_ready (rs := [7]) (by kernel_rfl) (by simp) ?_
                  refine AllReady.cons rfl (fun K hK => ?_) ?_
                  · go_simp
                    refine hK _ _ ?_
                    clear hK K
                    refine wpAny_done (by kernel_rfl) ?_ _
                    go_wp2_with fail
                    refine ⟨⟨i + 1, by omega, by first | rfl | go_num, ST.out.1, ST.out.2⟩, ?_⟩
                    simp only [intOf]; omega
                  exact AllReady.nil
                exact AllReady.nil
              exact AllReady.nil
    · have i1 : ¬ (i : Int) < (N : Int) := by omega
      have hiN2 : i = R.rs.length := by have := hN.out; omega
      have e1 : cri R.rs ks i = crR R.rs ks := by rw [hiN2]; exact cri_end _ _
      rw [e1] at HD
      have q1 := set_of HD.out.cells 2 (.int .i64 0)
      have q3 := cell_of q1 3 (.int .i64 R.ct) rfl
      have q4 := fz_of q1
      have q2 := set_of q1 3 (.int .i64 0)
      have HR : RDk ((wr.setCell ⟨g, 2, none⟩ (.int .i64 0)).setCell ⟨g, 3, none⟩ (.int .i64 0)) base g (.slice a N c) P (rcrs R ks).1 := RDk.nums HD.out R.q 0 0 R.rf q2 (fun j hj => by rw [set_ne _ _ _ _ _ hj, set_ne _ _ _ _ _ hj]) (by simp)
      have TL : Hid (Tk w ((wr.setCell ⟨g, 2, none⟩ (.int .i64 0)).setCell ⟨g, 3, none⟩ (.int .i64 0)) base g P (rcrs R ks).1) := ⟨_, P, HR, fr_set (fr_set HF.out HD.out.pg 2 _) HD.out.pg 3 _, fun j h => .inl h⟩
      have c2 := HD.out.cell 2 _ rfl
      have f0 := fz_of HD.out.cells
      clear HD HF q1 q2 HR
      go_wp2_with fail
      go_ret
      exact ⟨rfl, TL.out⟩
end Go.Proofs.Ytgffojafdjcdoaa.Qh

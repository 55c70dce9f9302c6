/- A heap's sink, by contract. -/
import Derived.Test.YtgjodfaliajlgaaHm
import Derived.Outline
import Derived.BigRegion
import Derived.Deep.RegionHeld
namespace Go.Proofs.Ytgjodfaliajlgaa.Hs
open Go.ChangeShapes Go.WideShapes Go.ChangeAt Go.RowKit
open Go.Sort (grow)
open Go.Proofs.Ytgjodfaliajlgaa.Gr hiding hid addr_add
open Go.Proofs.Ytgjodfaliajlgaa.Ik
open Go.Proofs.Ytgjodfaliajlgaa.Ee
open Go.Proofs.Ytgjodfaliajlgaa.Hp
open Go.Proofs.Ytgjodfaliajlgaa.Hm
set_option linter.unusedVariables false
set_option linter.unusedSimpArgs false

/-- What the search among a place's children has found. -/
structure Tp (b : Bool) (H : List Hd) (i t q : Nat) : Prop where
  at_ : t = i ∨ (Ch i t ∧ t < H.length)
  up : nb b (H.getD t zh) (H.getD i zh)
  c1 : 1 ≤ q → 2 * i + 1 < H.length → nb b (H.getD t zh) (H.getD (2 * i + 1) zh)
  c2 : 2 ≤ q → 2 * i + 2 < H.length → nb b (H.getD t zh) (H.getD (2 * i + 2) zh)
theorem Tp.start (b : Bool) (H : List Hd) (i : Nat) : Tp b H i i 0 := ⟨.inl rfl, nb_refl _ _, fun h => by omega, fun h => by omega⟩
theorem Tp.skip {b : Bool} {H : List Hd} {i t q : Nat} (h : Tp b H i t q) (hq : q < 2) (hc : H.length ≤ 2 * i + 1 + q ∨ ab b (H.getD (2 * i + 1 + q) zh) (H.getD t zh) = false) : Tp b H i t (q + 1) := by
  refine ⟨h.at_, h.up, fun h1 hl => ?_, fun h2 hl => ?_⟩
  · by_cases e : q = 0
    · subst e
      rcases hc with hc | hc
      · omega
      · exact hc
    · exact h.c1 (by omega) hl
  · have e : q = 1 := by omega
    subst e
    rcases hc with hc | hc
    · omega
    · exact hc
theorem Tp.take {b : Bool} {H : List Hd} {i t q : Nat} (h : Tp b H i t q) (hq : q < 2) (hl : 2 * i + 1 + q < H.length) (hc : ab b (H.getD (2 * i + 1 + q) zh) (H.getD t zh) = true) : Tp b H i (2 * i + 1 + q) (q + 1) := by
  have k := nb_of_ab hc
  refine ⟨.inr ⟨by unfold Ch; omega, hl⟩, nb_trans k h.up, fun h1 hl1 => ?_, fun h2 hl2 => ?_⟩
  · by_cases e : q = 0
    · subst e; exact nb_refl _ _
    · exact nb_trans k (h.c1 (by omega) hl1)
  · have e : q = 1 := by omega
    subst e; exact nb_refl _ _
theorem Tp.all {b : Bool} {H : List Hd} {i t : Nat} (h : Tp b H i t 2) : ∀ c, Ch i c → c < H.length → nb b (H.getD t zh) (H.getD c zh) := by
  intro c hc hl
  rcases hc with rfl | rfl
  · exact h.c1 (by omega) hl
  · exact h.c2 (by omega) hl
theorem HM.swap {w : World} {gm gl : Nat} {sv : Value} {n cap : Nat} {b : Bool} {H : List Hd} (h : HM w gm gl sv n cap b H) (i t : Nat) (hi : i < n) (ht : t < n) :
    HM (st5 (st5 w gl (i * 5) (H.getD t zh)) gl (t * 5) (H.getD i zh)) gm gl sv n cap b (swp H i t) := by
  have r1 := h.r.set i (H.getD t zh) (by rw [h.n]; exact hi)
  have r2 := r1.set t (H.getD i zh) (by rw [List.length_set, h.n]; exact ht)
  have f := st5_fp (t * 5) (H.getD i zh) (st5_fp (i * 5) (H.getD t zh) (Fp.refl (· = gl) w))
  exact ⟨(f.block gm (blk_lt h.m) h.ne.symm).trans h.m, r2, by rw [swp_len]; exact h.n, h.ne⟩
theorem index0 (a b : Int) (w : World) : (Instr.index 108 (.agg #[.int .i64 a, .int .i64 b]) (.int .i64 0)).run Try.prog w = .ok (.int .i64 a) w := by kernel_rfl
theorem index1 (a b : Int) (w : World) : (Instr.index 108 (.agg #[.int .i64 a, .int .i64 b]) (.int .i64 1)).run Try.prog w = .ok (.int .i64 b) w := by kernel_rfl
set_option maxHeartbeats 2000000 in
set_option maxRecDepth 20000 in
theorem sink_any (gm gl n cap s i0 : Nat) (sv : Value) (b : Bool) (H : List Hd) (w : World) (h : HM w gm gl sv n cap b H) (hx : HX b s i0 H) (hi : i0 < n ∨ n = 0 ∧ i0 = 0) (hn8 : n ≤ 1048576) :
    Calls Try.prog 80 #[.pointer (some ⟨gm, 1, none⟩), .int .i64 i0] w fun e w' => e = .returned (.tuple #[]) ∧ ∃ H', HM w' gm gl sv n cap b H' ∧ HP b s H' ∧ H'.Perm H ∧ Fp (· = gl) w w' := by
  have h0 := hid h
  have hx0 := hid hx
  have hix0 := index0
  have hix1 := index1
  clear h hx
  go_enter Try.func80, Try.ntmps80
  go_wp2_with fail
  go_loopw [1] (fun iv wr => ∃ (i : Nat) (Hc : List Hd), iv = .int .i64 (i : Int) ∧ Hid (HM wr gm gl sv n cap b Hc) ∧ Hid (HX b s i Hc) ∧ Hid (Hc.Perm H) ∧ Hid (Fp (· = gl) w wr) ∧ (i < n ∨ n = 0 ∧ i = 0)) (fun iv _ => n - (intOf iv).toNat)
  case atStart => exact ⟨i0, H, rfl, h0, hx0, List.Perm.refl _, Fp.refl _ _, hi⟩
  case round =>
    obtain ⟨i, Hc, rfl, HA, HXc, HPc, HF, hii⟩ := hrel
    have hi8 : i ≤ 1048576 := by omega
    have w1 : IntKind.i64.wrap (2 * (i : Int)) = 2 * (i : Int) := by rw [IntKind.wrap_i64]; omega
    have w2 : IntKind.i64.wrap (2 * (i : Int) + 1) = 2 * (i : Int) + 1 := by rw [IntKind.wrap_i64]; omega
    have w3 : IntKind.i64.wrap (2 * (i : Int) + 2) = 2 * (i : Int) + 2 := by rw [IntKind.wrap_i64]; omega
    have hln : Hid (Hc.length = n) := HA.out.n
    obtain ⟨c1v, hc1⟩ : ∃ c : Int, c = 2 * (i : Int) + 1 := ⟨_, rfl⟩
    obtain ⟨c2v, hc2⟩ : ∃ c : Int, c = 2 * (i : Int) + 2 := ⟨_, rfl⟩
    rw [← hc1] at w2
    rw [← hc2] at w3
    replace hc1 := hid hc1
    replace hc2 := hid hc2
    go_wp2_with fail
    try rw [← hc1.out]
    try rw [← hc2.out]
    go_loopw [4, 15] (fun tv qv w2 => ∃ (t q : Nat), tv = .int .i64 (t : Int) ∧ qv = .int .i64 (q : Int) ∧ q ≤ 2 ∧ Hid (Tp b Hc i t q) ∧ Hid (Below wr.heap.size wr w2)) (fun _ qv _ => 2 - (intOf qv).toNat)
    case atStart => exact ⟨i, 0, rfl, rfl, by omega, Tp.start _ _ _, Below.refl _ _⟩
    case round =>
      obtain ⟨t, q, rfl, rfl, hq, HT, HB⟩ := hrel
      have HM2 := hid (HA.out.later HB.out)
      have hq3 : q = 0 ∨ q = 1 ∨ q = 2 := by omega
      rcases hq3 with rfl | rfl | rfl
      · obtain ⟨c, hc⟩ : ∃ c, c = 2 * i + 1 + 0 := ⟨_, rfl⟩
        have e : c1v = (c : Int) := by rw [hc1.out, hc]; omega
        subst e
        replace hc := hid hc
        by_cases hcn : c < n
        · have hm0 : (c : Int) < (n : Int) := by omega
          have htn : t < n := by
            rcases HT.out.at_ with e | e
            · rw [e]; have := hc.out; omega
            · have := hln.out; have := e.2; omega
          have HI := isabove_any gm gl c t sv n cap b Hc wr HM2.out hcn htn
          obtain ⟨r, hr⟩ : ∃ r, r = ab b (Hc.getD c zh) (Hc.getD t zh) := ⟨_, rfl⟩
          rw [← hr] at HI
          replace HI := hid HI
          have hs1 := HM2.out.s1
          cases r with
          | true =>
            have T2 : Hid (Tp b Hc i c (0 + 1)) := by
              have := HT.out.take (by omega) (by rw [hln.out, ← hc.out]; exact hcn) (by rw [← hc.out]; exact hr.symm)
              rw [← hc.out] at this
              exact this
            replace hr := hid hr
            clear HT htn
            go_wp2_with fail
            refine HI.out.mono ?_
            rintro e w4 ⟨rfl, b4⟩
            have B5 : Hid (Below _ _ w4) := Below.up HB.out b4
            clear HI b4 hs1
            go_wp2_with fail
            go_roundw
            case rel => exact ⟨c, 1, rfl, by first | rfl | go_num, by omega, T2, B5⟩
            case measure => simp [intOf]
          | false =>
            have T2 : Hid (Tp b Hc i t (0 + 1)) := HT.out.skip (by omega) (.inr (by rw [← hc.out]; exact hr.symm))
            replace hr := hid hr
            clear HT htn
            go_wp2_with fail
            refine HI.out.mono ?_
            rintro e w4 ⟨rfl, b4⟩
            have B5 : Hid (Below _ _ w4) := Below.up HB.out b4
            clear HI b4 hs1
            go_wp2_with fail
            go_roundw
            case rel => exact ⟨t, 1, rfl, by first | rfl | go_num, by omega, T2, B5⟩
            case measure => simp [intOf]
        · have hm0 : ¬ (c : Int) < (n : Int) := by omega
          have hs1 := HM2.out.s1
          have T2 : Hid (Tp b Hc i t (0 + 1)) := HT.out.skip (by omega) (.inl (by rw [hln.out]; have := hc.out; omega))
          clear HT
          go_wp2_with fail
          go_roundw
          case rel => exact ⟨t, 1, rfl, by first | rfl | go_num, by omega, T2, HB⟩
          case measure => simp [intOf]
      · obtain ⟨c, hc⟩ : ∃ c, c = 2 * i + 1 + 1 := ⟨_, rfl⟩
        have e : c2v = (c : Int) := by rw [hc2.out, hc]; omega
        subst e
        replace hc := hid hc
        by_cases hcn : c < n
        · have hm0 : (c : Int) < (n : Int) := by omega
          have htn : t < n := by
            rcases HT.out.at_ with e | e
            · rw [e]; have := hc.out; omega
            · have := hln.out; have := e.2; omega
          have HI := isabove_any gm gl c t sv n cap b Hc wr HM2.out hcn htn
          obtain ⟨r, hr⟩ : ∃ r, r = ab b (Hc.getD c zh) (Hc.getD t zh) := ⟨_, rfl⟩
          rw [← hr] at HI
          replace HI := hid HI
          have hs1 := HM2.out.s1
          cases r with
          | true =>
            have T2 : Hid (Tp b Hc i c (1 + 1)) := by
              have := HT.out.take (by omega) (by rw [hln.out, ← hc.out]; exact hcn) (by rw [← hc.out]; exact hr.symm)
              rw [← hc.out] at this
              exact this
            replace hr := hid hr
            clear HT htn
            go_wp2_with fail
            refine HI.out.mono ?_
            rintro e w4 ⟨rfl, b4⟩
            have B5 : Hid (Below _ _ w4) := Below.up HB.out b4
            clear HI b4 hs1
            go_wp2_with fail
            go_roundw
            case rel => exact ⟨c, 2, rfl, by first | rfl | go_num, by omega, T2, B5⟩
            case measure => simp [intOf]
          | false =>
            have T2 : Hid (Tp b Hc i t (1 + 1)) := HT.out.skip (by omega) (.inr (by rw [← hc.out]; exact hr.symm))
            replace hr := hid hr
            clear HT htn
            go_wp2_with fail
            refine HI.out.mono ?_
            rintro e w4 ⟨rfl, b4⟩
            have B5 : Hid (Below _ _ w4) := Below.up HB.out b4
            clear HI b4 hs1
            go_wp2_with fail
            go_roundw
            case rel => exact ⟨t, 2, rfl, by first | rfl | go_num, by omega, T2, B5⟩
            case measure => simp [intOf]
        · have hm0 : ¬ (c : Int) < (n : Int) := by omega
          have hs1 := HM2.out.s1
          have T2 : Hid (Tp b Hc i t (1 + 1)) := HT.out.skip (by omega) (.inl (by rw [hln.out]; have := hc.out; omega))
          clear HT
          go_wp2_with fail
          go_roundw
          case rel => exact ⟨t, 2, rfl, by first | rfl | go_num, by omega, T2, HB⟩
          case measure => simp [intOf]
      · by_cases hti : t = i
        · subst hti
          have hP : Hid (HP b s Hc) := HXc.out.done HT.out.all
          have hF : Hid (Fp (· = gl) w wr) := HF.out.below HB.out
          clear HT
          go_wp2_with fail
          exact bodyPost_ret (results_none rfl _ _ _) rfl ⟨rfl, Hc, HM2.out, hP.out, HPc.out, hF.out⟩
        · have htc : Ch i t ∧ t < Hc.length := by
            rcases HT.out.at_ with e | e
            · exact absurd e hti
            · exact e
          have ht1 : Hid (t < n) := by show _ < _; rw [← hln.out]; exact htc.2
          have hlt : Hid (i < t) := by have := htc.1; unfold Ch at this; show _ < _; omega
          have XF : Hid (HX b s t (swp Hc i t)) := HXc.out.step htc.1 htc.2 HT.out.up HT.out.all
          have PF : Hid ((swp Hc i t).Perm H) := (swp_perm hlt.out htc.2).trans HPc.out
          have hne : ((t : Int) == (i : Int)) = false := by rw [beq_eq_false_iff_ne]; omega
          have i1 : (i : Int) < (n : Int) := by have := ht1.out; have := hlt.out; omega
          have i2 : (0 : Int) ≤ (i : Int) := by omega
          have t1 : (t : Int) < (n : Int) := by have := ht1.out; omega
          have t2 : (0 : Int) ≤ (t : Int) := by omega
          have hF0 : Hid (Fp (· = gl) w wr) := HF.out.below HB.out
          obtain ⟨D, hD⟩ : ∃ D, D = World.drew wr := ⟨_, rfl⟩
          have AD : HM D gm gl sv n cap b Hc := by rw [hD]; exact HM2.out.later (drew_below wr)
          have FD : Fp (· = gl) w D := by rw [hD]; exact hF0.out.below (drew_below wr)
          have hi_ : i < n := by have := ht1.out; have := hlt.out; omega
          obtain ⟨z1, hz1⟩ : ∃ z, z = Hc.getD i zh := ⟨_, rfl⟩
          obtain ⟨z2, hz2⟩ : ∃ z, z = Hc.getD t zh := ⟨_, rfl⟩
          have AF := HM.swap AD i t hi_ ht1.out
          have r1 := AD.r.set i (Hc.getD t zh) (by rw [hln.out]; exact hi_)
          have fe1 := st5_fp (i * 5) (Hc.getD t zh) (Fp.refl (· = gl) D)
          have q1 := AD.r.cell i (by rw [hln.out]; exact hi_)
          have q2 := AD.r.cell t (by rw [hln.out]; exact ht1.out)
          have s1 := r1.cell t (by rw [List.length_set, hln.out]; exact ht1.out)
          have FF := st5_fp (t * 5) (Hc.getD i zh) (st5_fp (i * 5) (Hc.getD t zh) FD)
          have HSD := hid AD.s1
          have m1 := (fe1.block gm (blk_lt AD.m) AD.ne.symm).trans AD.m
          have HS1 : (st5 D gl (i * 5) (Hc.getD t zh)).cell? ⟨gm, 1, none⟩ = some (.slice (some ⟨gl, 0, none⟩) n cap) := cell_of m1 1 _ rfl
          have HS2 := AF.s1
          rw [← hz1, ← hz2] at AF FF HS2
          rw [← hz2] at r1 HS1
          rw [← hz1] at q1
          rw [← hz2] at q2
          obtain ⟨W1, hW1⟩ : ∃ W, W = st5 D gl (i * 5) z2 := ⟨_, rfl⟩
          obtain ⟨W2, hW2⟩ : ∃ W, W = st5 W1 gl (t * 5) z1 := ⟨_, rfl⟩
          have s1' : At5 W1 gl (t * 5) ((Hc.set i z2).getD t zh) := by rw [hW1, hz2]; exact s1
          have e : Hid (∀ o, W1.frozen? ⟨gl, t * 5 + o, none⟩ = false) := fun o => by rw [hW1]; exact r1.fz _
          have f0 := AD.r.fz (i * 5)
          have f1 := AD.r.fz (i * 5 + 1)
          have f2 := AD.r.fz (i * 5 + 2)
          have f3 := AD.r.fz (i * 5 + 3)
          have f4 := AD.r.fz (i * 5 + 4)
          rw [← hW1] at AF FF HS1 HS2
          rw [← hW2] at AF FF HS2
          obtain ⟨q10, q11, q12, q13, q14⟩ := q1
          obtain ⟨q20, q21, q22, q23, q24⟩ := q2
          clear s1
          have s1 := hid s1'
          obtain ⟨z1f, ⟨z1k, z1s, z1c, z1v⟩⟩ := z1
          obtain ⟨z2f, ⟨z2k, z2s, z2c, z2v⟩⟩ := z2
          dsimp only at q10 q11 q12 q13 q14 q20 q21 q22 q23 q24
          unfold st5 at hW1 hW2
          dsimp only at hW1 hW2
          replace hz1 := hid hz1
          replace hz2 := hid hz2
          replace AF := hid AF
          replace FF := hid FF
          rw [hW1] at HS1
          rw [hW2] at HS2
          replace HS1 := hid HS1
          replace HS2 := hid HS2
          replace hW1 := hid hW1
          replace hW2 := hid hW2
          replace hD := hid hD
          clear AD FD r1 fe1 m1 s1' HT htc HA HF HB HM2 HXc HPc hF0 hti
          go_wp2_with fail
          refine wp_region_held_drew (S := fun W => W.cell? ⟨gm, 1, none⟩ = some (.slice (some ⟨gl, 0, none⟩) n cap)) (by kernel_rfl) (by rw [← hD.out]; exact HSD.out) (fun hS => ?_)
          rw [← hD.out] at hS ⊢
          refine wpAnyH_take (i := 0) (v := ?v1) rfl (by kernel_rfl) (by kernel_rfl) (by kernel_rfl) (fun _ _ _ h => h) (Or.inl ⟨by rfl, ?h1⟩) hS ?_
          case h1 => (intro W hW; go_simp; try (with_reducible rfl))
          go_simp
          refine wpAnyH_take (i := 1) (v := ?v2) rfl (by kernel_rfl) (by kernel_rfl) (by kernel_rfl) (fun _ _ _ h => h) (Or.inl ⟨by rfl, ?h2⟩) hS ?_
          case h2 => (intro W hW; go_simp; try (with_reducible rfl))
          go_simp
          refine wpAnyH_take (i := 2) (v := ?v3) rfl (by kernel_rfl) (by kernel_rfl) (by kernel_rfl) (fun _ _ _ h => h) (Or.inl ⟨by rfl, ?h3⟩) hS ?_
          case h3 => (intro W hW; go_simp; try (with_reducible rfl))
          go_simp
          refine wpAnyH_take (i := 3) (v := ?v4) rfl (by kernel_rfl) (by kernel_rfl) (by kernel_rfl) (fun _ _ _ h => h) (Or.inl ⟨by rfl, ?h4⟩) hS ?_
          case h4 => (intro W hW; have hd1 := hW; go_simp; try (with_reducible rfl))
          go_simp
          refine wpAnyH_take (i := 4) (v := ?v5) rfl (by kernel_rfl) (by kernel_rfl) (by kernel_rfl) (fun _ _ _ h => h) (Or.inl ⟨by rfl, ?h5⟩) hS ?_
          case h5 => (intro W hW; go_simp; try (with_reducible rfl))
          go_simp
          refine wpAnyH_take (i := 5) (v := ?v6) rfl (by kernel_rfl) (by kernel_rfl) (by kernel_rfl) (fun _ _ _ h => h) (Or.inl ⟨by rfl, ?h6⟩) hS ?_
          case h6 => (intro W hW; go_simp; try (with_reducible rfl))
          go_simp
          refine wpAnyH_take (i := 6) (v := ?v7) rfl (by kernel_rfl) (by kernel_rfl) (by kernel_rfl) (fun _ _ _ h => h) (Or.inl ⟨by rfl, ?h7⟩) hS ?_
          case h7 => (intro W hW; go_simp; try (with_reducible rfl))
          go_simp
          refine wpAnyH_take (i := 7) (v := ?v8) rfl (by kernel_rfl) (by kernel_rfl) (by kernel_rfl) (fun _ _ _ h => h) (Or.inl ⟨by rfl, ?h8⟩) hS ?_
          case h8 => (intro W hW; go_simp; try (with_reducible rfl))
          go_simp
          refine wpAnyH_take (i := 8) (v := ?v9) rfl (by kernel_rfl) (by kernel_rfl) (by kernel_rfl) (fun _ _ _ h => h) (Or.inl ⟨by rfl, ?h9⟩) hS ?_
          case h9 => (intro W hW; have hd1 := hW; go_simp; try (with_reducible rfl))
          go_simp
          refine wpAnyH_take (i := 9) (v := ?v10) rfl (by kernel_rfl) (by kernel_rfl) (by kernel_rfl) (fun _ _ _ h => h) (Or.inl ⟨by rfl, ?h10⟩) hS ?_
          case h10 => (intro W hW; go_simp; try (with_reducible rfl))
          go_simp
          refine wpAnyH_take (i := 10) (v := ?v11) rfl (by kernel_rfl) (by kernel_rfl) (by kernel_rfl) (fun _ _ _ h => h) (Or.inl ⟨by rfl, ?h11⟩) hS ?_
          case h11 => (intro W hW; go_simp; try (with_reducible rfl))
          go_simp
          refine wpAnyH_take (i := 11) (v := ?v12) rfl (by kernel_rfl) (by kernel_rfl) (by kernel_rfl) (fun _ _ _ h => h) (Or.inl ⟨by rfl, ?h12⟩) hS ?_
          case h12 => (intro W hW; go_simp; try (with_reducible rfl))
          go_simp
          refine wpAnyH_take (i := 12) (v := ?v13) rfl (by kernel_rfl) (by kernel_rfl) (by kernel_rfl) (fun _ _ _ h => h) (Or.inl ⟨by rfl, ?h13⟩) hS ?_
          case h13 => (intro W hW; go_simp; try (with_reducible rfl))
          go_simp
          refine wpAnyH_take (i := 13) (v := ?v14) rfl (by kernel_rfl) (by kernel_rfl) (by kernel_rfl) (fun _ _ _ h => h) (Or.inl ⟨by rfl, ?h14⟩) hS ?_
          case h14 => (intro W hW; have hd1 := hW; go_simp; try (with_reducible rfl))
          go_simp
          refine wpAnyH_take (i := 14) (v := ?v15) rfl (by kernel_rfl) (by kernel_rfl) (by kernel_rfl) (fun _ _ _ h => h) (Or.inl ⟨by rfl, ?h15⟩) hS ?_
          case h15 => (intro W hW; go_simp; try (with_reducible rfl))
          go_simp
          refine wpAnyH_take (i := 15) (v := ?v16) rfl (by kernel_rfl) (by kernel_rfl) (by kernel_rfl) (fun _ _ _ h => h) (Or.inl ⟨by rfl, ?h16⟩) hS ?_
          case h16 => (intro W hW; go_simp; try (with_reducible rfl))
          go_simp
          refine wpAnyH_take (i := 17) (v := ?v17) rfl (by kernel_rfl) (by kernel_rfl) (by kernel_rfl) (fun _ _ _ h => h) (Or.inl ⟨by rfl, ?h17⟩) hS ?_
          case h17 => (intro W hW; go_simp; try (with_reducible rfl))
          go_simp
          refine wpAnyH_take (i := 18) (v := ?v18) rfl (by kernel_rfl) (by kernel_rfl) (by kernel_rfl) (fun _ _ _ h => h) (Or.inl ⟨by rfl, ?h18⟩) hS ?_
          case h18 => (intro W hW; go_simp; try (with_reducible rfl))
          go_simp
          refine wpAnyH_take (i := 19) (v := ?v19) rfl (by kernel_rfl) (by kernel_rfl) (by kernel_rfl) (fun _ _ _ h => h) (Or.inl ⟨by rfl, ?h19⟩) hS ?_
          case h19 => (intro W hW; go_simp; try (with_reducible rfl))
          go_simp
          refine wpAnyH_take (i := 20) (v := ?v20) rfl (by kernel_rfl) (by kernel_rfl) (by kernel_rfl) (fun _ _ _ h => h) (Or.inl ⟨by rfl, ?h20⟩) hS ?_
          case h20 => (intro W hW; have hd1 := hW; go_simp; try (with_reducible rfl))
          go_simp
          refine wpAnyH_take (i := 21) (v := ?v21) rfl (by kernel_rfl) (by kernel_rfl) (by kernel_rfl) (fun _ _ _ h => h) (Or.inl ⟨by rfl, ?h21⟩) hS ?_
          case h21 => (intro W hW; go_simp; try (with_reducible rfl))
          go_simp
          refine wpAnyH_take (i := 22) (v := ?v22) rfl (by kernel_rfl) (by kernel_rfl) (by kernel_rfl) (fun _ _ _ h => h) (Or.inl ⟨by rfl, ?h22⟩) hS ?_
          case h22 => (intro W hW; go_simp; try (with_reducible rfl))
          go_simp
          refine wpAnyH_ready (rs := [16, 23]) (by kernel_rfl) (by simp) ?_
          refine AllReadyH.cons rfl (fun K hK => ?_) ?_
          · go_simp
            refine hK.out _ _ hS (fun hS => ?_)
            clear hK K
            refine wpAnyH_ready (rs := [23]) (by kernel_rfl) (by simp) ?_
            refine AllReadyH.cons rfl (fun K hK => ?_) ?_
            · go_simp
              refine hK.out _ _ hS (fun hS => ?_)
              clear hK K
              refine wpAnyH_take (i := 24) (v := ?v23) rfl (by kernel_rfl) (by kernel_rfl) (by kernel_rfl) (fun _ _ _ h => h) (Or.inl ⟨by rfl, ?h23⟩) hS ?_
              case h23 => (intro W hW; go_simp; try (with_reducible rfl))
              go_simp
              refine wpAnyH_ready (rs := [25]) (by kernel_rfl) (by simp) ?_
              refine AllReadyH.cons rfl (fun K hK => ?_) ?_
              · go_simp
                refine hK.out _ _ HS1.out (fun hS => ?_)
                clear hK K
                rw [← hW1.out] at hS ⊢
                obtain ⟨s10, s11, s12, s13, s14⟩ := s1.out
                clear q10 q11 q12 q13 q14 q20 q21 q22 q23 q24 f0 f1 f2 f3 f4
                have e0 := e.out 0
                have e1 := e.out 1
                have e2 := e.out 2
                have e3 := e.out 3
                have e4 := e.out 4
                rw [Nat.add_zero] at e0
                refine wpAnyH_take (i := 26) (v := ?v24) rfl (by kernel_rfl) (by kernel_rfl) (by kernel_rfl) (fun _ _ _ h => h) (Or.inl ⟨by rfl, ?h24⟩) hS ?_
                case h24 => (intro W hW; go_simp; try (with_reducible rfl))
                go_simp
                refine wpAnyH_ready (rs := [27]) (by kernel_rfl) (by simp) ?_
                refine AllReadyH.cons rfl (fun K hK => ?_) ?_
                · go_simp
                  refine hK.out _ _ HS2.out (fun hS => ?_)
                  clear hK K
                  rw [← hW2.out]
                  clear s10 s11 s12 s13 s14 e0 e1 e2 e3 e4
                  refine wpAnyH_done (by kernel_rfl) ?_ _
                  go_wp2_with fail
                  go_roundw
                  case rel => exact ⟨t, _, by first | rfl | go_num, AF.out, XF.out, PF.out, FF.out, .inl ht1.out⟩
                  case measure => simp only [intOf]; have := hlt.out; have := ht1.out; omega
                exact AllReadyH.nil
              exact AllReadyH.nil
            exact AllReadyH.nil
          refine AllReadyH.cons rfl (fun K hK => ?_) ?_
          · go_simp
            refine hK.out _ _ hS (fun hS => ?_)
            clear hK K
            refine wpAnyH_ready (rs := [16]) (by kernel_rfl) (by simp) ?_
            refine AllReadyH.cons rfl (fun K hK => ?_) ?_
            · go_simp
              refine hK.out _ _ hS (fun hS => ?_)
              clear hK K
              refine wpAnyH_take (i := 24) (v := ?v25) rfl (by kernel_rfl) (by kernel_rfl) (by kernel_rfl) (fun _ _ _ h => h) (Or.inl ⟨by rfl, ?h25⟩) hS ?_
              case h25 => (intro W hW; go_simp; try (with_reducible rfl))
              go_simp
              refine wpAnyH_ready (rs := [25]) (by kernel_rfl) (by simp) ?_
              refine AllReadyH.cons rfl (fun K hK => ?_) ?_
              · go_simp
                refine hK.out _ _ HS1.out (fun hS => ?_)
                clear hK K
                rw [← hW1.out] at hS ⊢
                obtain ⟨s10, s11, s12, s13, s14⟩ := s1.out
                clear q10 q11 q12 q13 q14 q20 q21 q22 q23 q24 f0 f1 f2 f3 f4
                have e0 := e.out 0
                have e1 := e.out 1
                have e2 := e.out 2
                have e3 := e.out 3
                have e4 := e.out 4
                rw [Nat.add_zero] at e0
                refine wpAnyH_take (i := 26) (v := ?v26) rfl (by kernel_rfl) (by kernel_rfl) (by kernel_rfl) (fun _ _ _ h => h) (Or.inl ⟨by rfl, ?h26⟩) hS ?_
                case h26 => (intro W hW; go_simp; try (with_reducible rfl))
                go_simp
                refine wpAnyH_ready (rs := [27]) (by kernel_rfl) (by simp) ?_
                refine AllReadyH.cons rfl (fun K hK => ?_) ?_
                · go_simp
                  refine hK.out _ _ HS2.out (fun hS => ?_)
                  clear hK K
                  rw [← hW2.out]
                  clear s10 s11 s12 s13 s14 e0 e1 e2 e3 e4
                  refine wpAnyH_done (by kernel_rfl) ?_ _
                  go_wp2_with fail
                  go_roundw
                  case rel => exact ⟨t, _, by first | rfl | go_num, AF.out, XF.out, PF.out, FF.out, .inl ht1.out⟩
                  case measure => simp only [intOf]; have := hlt.out; have := ht1.out; omega
                exact AllReadyH.nil
              exact AllReadyH.nil
            exact AllReadyH.nil
          exact AllReadyH.nil
end Go.Proofs.Ytgjodfaliajlgaa.Hs

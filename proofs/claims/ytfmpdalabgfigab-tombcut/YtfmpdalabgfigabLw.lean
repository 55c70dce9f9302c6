/- TombCut, walked. -/
import Derived.Test.YtfmpdalabgfigabPc
import Derived.Laws.StructEq
namespace Go.Proofs.Ytfmpdalabgfigab.Lw
open Go.ChangeShapes Go.WideShapes Go.ChangeAt Go.RowKit Go.Shelf
open Go.Proofs.Ytfmpdalabgfigab.Lx
open Go.Proofs.Ytfmpdalabgfigab.Tm
open Go.Proofs.Ytfmpdalabgfigab.Mm
open Go.Proofs.Ytfmpdalabgfigab.Rw
open Go.Proofs.Ytfmpdalabgfigab.Cv
open Go.Proofs.Ytfmpdalabgfigab.Cu
open Go.Proofs.Ytfmpdalabgfigab.Pc
set_option linter.unusedVariables false
set_option linter.unusedSimpArgs false
attribute [local go_sem] leq_s gtr_s geq_s

theorem belowN {B : Nat} {a w : World} (h : Below B a w) (n : Nat) : Below B a (w.drewN n) := ⟨h.os, h.tape, h.output, h.size, h.block⟩
theorem empty_yes {v : ByteArray} (h : v = ⟨#[]⟩) : v.toList.isEmpty = true := by rw [h, ByteArray.toList_eq]; rfl
def tA : T := ⟨⟨#[97]⟩, ⟨#[100]⟩, 5⟩
def tB : T := ⟨⟨#[98]⟩, ⟨#[99]⟩, 5⟩
theorem probe0 : (cut [tA] ⟨#[98]⟩ ⟨#[99]⟩).map (fun x => (x.b, x.e, x.s)) = [(⟨#[98]⟩, ⟨#[99]⟩, 5)] := by decide +kernel
theorem probe : cut [tA] ⟨#[98]⟩ ⟨#[99]⟩ = [tB] := by
  have h := probe0
  revert h
  generalize cut [tA] ⟨#[98]⟩ ⟨#[99]⟩ = l
  intro h
  match l, h with
  | [⟨b, e, s⟩], h =>
    simp at h
    obtain ⟨rfl, rfl, rfl⟩ := h
    rfl
theorem tbs_one {w : World} {g c : Nat} {x : T} (h : Bt w g x) (hok : x.ok) (hc : 1 ≤ c) : Tbs w (some ⟨g, 0, none⟩) 1 c [x] := by
  refine ⟨rfl, hc, fun e => (by cases e), fun y hy => (by simp at hy; subst hy; exact hok), fun b o p e _ => ?_⟩
  cases e
  refine ⟨rfl, fun i hi => ?_⟩
  obtain rfl : i = 0 := by omega
  exact ⟨h.c0, h.c1, h.c2⟩
theorem tA_ok : tA.ok := ⟨⟨by decide, by decide⟩, by decide, by decide⟩
theorem neq_self (w : World) : Sem.run Try.prog (binOp .neq 25 (.agg #[.string ⟨#[98]⟩, .string ⟨#[99]⟩, .int .u64 5]) (.agg #[.string ⟨#[98]⟩, .string ⟨#[99]⟩, .int .u64 5])) w = .ok (.bool false) w := by
  have hS : Try.prog.underlying 25 = some (.struct (Try.prog.fieldsOf 25)) := by kernel_rfl
  have hp : Try.prog.stoodInHeld 25 = false := by kernel_rfl
  rw [run_neq_struct, show (10000 : Nat) = 9999 + 1 from rfl, run_equalIn_agg w 9999 25 _ _ hS hp]
  simp only [Program.fieldsOf, Try.underlying25]
  go_simp
set_option maxRecDepth 100000 in
set_option maxHeartbeats 4000000 in
theorem cut_law (a : Option Addr) (len cap : Nat) (xs : List T) (k : ByteArray) (q : Int) (l m : ByteArray) (st : Int) (w : World) (H : Tbs w a len cap xs) (hlen : len * 40 ≤ 140737488355328) (hl : l.size ≤ maxLen) (hm : m.size ≤ maxLen) :
    Calls Try.prog 4 #[.slice a len cap, .agg #[.string k, .int .u64 q, .string l, .string m, .int .i64 st]] w fun e w' => e = .returned (.bool true) ∧ Below w.heap.size w w' := by
  have HC := hid (cov_cut xs l m k q)
  have HM : Hid (∀ i, i < (cut xs l m).length → lt ((cut xs l m).getD i zt).b l = false ∧ (m = ⟨#[]⟩ ∨ lt m ((cut xs l m).getD i zt).e = false) ∧ (vd ((cut xs l m).getD i zt) = false → ¬ (((cut xs l m).getD i zt).b.size ≤ 1024 ∧ ((cut xs l m).getD i zt).e.size ≤ 1025))) := fun i hi => cut_mem (get_mem hi)
  have HCut : Hid (∀ W, Below w.heap.size w W → Calls Try.prog 10 #[.slice a len cap, .string l, .string m] W fun e w' => ∃ ac cc, e = .returned (.slice ac (cut xs l m).length cc) ∧ Tbs w' ac (cut xs l m).length cc (cut xs l m) ∧ OwnT w' W.heap.size (.slice ac (cut xs l m).length cc) (cut xs l m) ∧ Below W.heap.size W w') := fun W hb => cut_tbs a len cap xs l m W (H.later hb) hlen hl hm
  have HCov : Hid (∀ W, Below w.heap.size w W → Calls Try.prog 5 #[.slice a len cap, .string k, .int .u64 q] W fun e w' => e = .returned (.tuple #[.int .u64 (cov xs k q).1, .bool (cov xs k q).2]) ∧ Below W.heap.size W w') := fun W hb => cover_any a len cap xs k q W (H.later hb) (by omega)
  have hcl := cut_len xs l m
  rw [H.1] at hcl
  obtain ⟨C, hC⟩ : ∃ C, C = cut xs l m := ⟨_, rfl⟩
  rw [← hC] at HC HM HCut hcl
  obtain ⟨G, Fd, hR⟩ : ∃ G Fd, cov xs k q = (G, Fd) := ⟨_, _, rfl⟩
  obtain ⟨G1, F1, hR1⟩ : ∃ G Fd, cov C k q = (G, Fd) := ⟨_, _, rfl⟩
  rw [hR] at HC HCov
  rw [hR1] at HC
  dsimp only at HCov
  have HCv1 : Hid (∀ W ac cc, Tbs W ac C.length cc C → Calls Try.prog 5 #[.slice ac C.length cc, .string k, .int .u64 q] W fun e w' => e = .returned (.tuple #[.int .u64 G1, .bool F1]) ∧ Below W.heap.size W w') := fun W ac cc h => by
    have := cover_any ac C.length cc C k q W h (by omega)
    rw [hR1] at this
    exact this
  clear hR hR1 hC H
  generalize hN : C.length = N at *
  clear hN
  have B0 := hid (box_below w (.cells #[.string k, .int .u64 q, .string l, .string m, .int .i64 st] 36))
  go_enter Try.func4, Try.ntmps4
  go_wp2_with fail
  go_quiet (fail)
  go_wp2_with fail
  refine (HCut.out _ (belowN B0.out nq)).mono ?_
  rintro e w1 ⟨ac, cc, rfl, hT1, _, b1⟩
  have Bw1 := hid ((belowN B0.out nq).trans (b1.mono (by have := (belowN B0.out nq).size; exact this)))
  replace hT1 := hid hT1
  replace b1 := hid b1
  go_wp2_with fail
  refine (HCv1.out _ ac cc hT1.out).mono ?_
  rintro e w2 ⟨rfl, b2⟩
  have Bw2 := hid (Bw1.out.trans (b2.mono Bw1.out.size))
  replace b2 := hid b2
  go_wp2_with fail
  refine (HCov.out _ Bw2.out).mono ?_
  rintro e w3 ⟨rfl, b3⟩
  have Bw3 := hid (Bw2.out.trans (b3.mono Bw2.out.size))
  have hT3 : Hid (∀ W', Below w3.heap.size w3 W' → Tbs W' ac N cc C) := fun W' h' => ((hT1.out.later b2.out).later b3).later h'
  replace b3 := hid b3
  by_cases c1 : Op.bytesLess k.toList l.toList = true
  · have hin : Hid (inr l m k = false) := by show _ = _; unfold inr lt; rw [c1]; rfl
    go_wp2_with fail
    go_loopw [14] (fun i wr => ∃ n : Nat, i = .int .i64 n ∧ n ≤ N ∧ Hid (Below w3.heap.size w3 wr)) (fun i _ => N - (intOf i).toNat)
    case atStart => exact ⟨0, rfl, by omega, Below.refl _ _⟩
    case round =>
      obtain ⟨n, rfl, hk, HB⟩ := hrel
      by_cases hlt : n < N
      · have HT := hT3.out wr HB.out
        obtain ⟨b, o, rfl, hc⟩ : ∃ b o, ac = some ⟨b, o, none⟩ ∧ At3 wr b (o + n * 3) (C.getD n zt) := by
          cases ac with
          | none => have := HT.2.2.1 rfl; omega
          | some ad =>
            obtain ⟨b, o, p⟩ := ad
            obtain ⟨rfl, h⟩ := HT.2.2.2.2 b o p rfl (by omega)
            exact ⟨b, o, rfl, h n hlt⟩
        obtain ⟨m1, m2, m3⟩ := HM.out n hlt
        revert hc m1 m2 m3
        generalize C.getD n zt = c
        obtain ⟨cb, ce, cs⟩ := c
        rintro ⟨q0, q1, q2⟩ m1 m2 m3
        dsimp only at q0 q1 q2 m1 m2 m3
        unfold lt at m1
        have ik : (n : Int) < (N : Int) := by omega
        have hlc := HT.2.1
        have HV := hid (valid_any cb ce cs)
        have hb1 := hid (HB.out.trans ((box_below wr (.cells #[.string cb, .string ce, .int .u64 cs] 25)).mono HB.out.size))
        replace m3 := hid m3
        have hat := At3.later (x := ⟨cb, ce, cs⟩) ⟨q0, q1, q2⟩ (box_below wr (.cells #[.string cb, .string ce, .int .u64 cs] 25))
        obtain ⟨r0, r1, r2⟩ := hat
        dsimp only at r0 r1 r2
        by_cases hm0 : m = ⟨#[]⟩
        · have hm1 := empty_yes hm0
          clear m2 hm0
          cases hv : vd ⟨cb, ce, cs⟩ with
          | true =>
            rw [hv] at HV
            go_wp2_with fail
            refine (HV.out _).mono ?_
            rintro e w4 ⟨rfl, rfl⟩
            go_wp2_with fail
            go_roundw
            case rel => exact ⟨n + 1, by go_num, by omega, hb1⟩
            case measure => simp [intOf]; omega
          | false =>
            rw [hv] at HV
            have h3 := hid (m3.out hv)
            clear hv
            by_cases s1 : (cb.size : Int) ≤ 1024
            · have s2 : ¬ (ce.size : Int) ≤ 1025 := fun h => h3.out ⟨by omega, by omega⟩
              go_wp2_with fail
              refine (HV.out _).mono ?_
              rintro e w4 ⟨rfl, rfl⟩
              go_wp2_with fail
              go_roundw
              case rel => exact ⟨n + 1, by go_num, by omega, hb1⟩
              case measure => simp [intOf]; omega
            · go_wp2_with fail
              refine (HV.out _).mono ?_
              rintro e w4 ⟨rfl, rfl⟩
              go_wp2_with fail
              go_roundw
              case rel => exact ⟨n + 1, by go_num, by omega, hb1⟩
              case measure => simp [intOf]; omega
        · have m4 : Op.bytesLess m.toList ce.toList = false := by
            rcases m2 with h | h
            · exact absurd h hm0
            · exact h
          have hm1 := empty_no hm0
          clear m2 hm0
          cases hv : vd ⟨cb, ce, cs⟩ with
          | true =>
            rw [hv] at HV
            go_wp2_with fail
            refine (HV.out _).mono ?_
            rintro e w4 ⟨rfl, rfl⟩
            go_wp2_with fail
            go_roundw
            case rel => exact ⟨n + 1, by go_num, by omega, hb1⟩
            case measure => simp [intOf]; omega
          | false =>
            rw [hv] at HV
            have h3 := hid (m3.out hv)
            clear hv
            by_cases s1 : (cb.size : Int) ≤ 1024
            · have s2 : ¬ (ce.size : Int) ≤ 1025 := fun h => h3.out ⟨by omega, by omega⟩
              go_wp2_with fail
              refine (HV.out _).mono ?_
              rintro e w4 ⟨rfl, rfl⟩
              go_wp2_with fail
              go_roundw
              case rel => exact ⟨n + 1, by go_num, by omega, hb1⟩
              case measure => simp [intOf]; omega
            · go_wp2_with fail
              refine (HV.out _).mono ?_
              rintro e w4 ⟨rfl, rfl⟩
              go_wp2_with fail
              go_roundw
              case rel => exact ⟨n + 1, by go_num, by omega, hb1⟩
              case measure => simp [intOf]; omega
      · have ik : ¬ (n : Int) < (N : Int) := by omega
        have B4 := hid (Bw3.out.trans (HB.out.mono Bw3.out.size))
        have HP : Hid (Calls Try.prog 10 #[.slice (some ⟨wr.heap.size, 0, none⟩) 1 1, .string ⟨#[98]⟩, .string ⟨#[99]⟩] (wr.alloc (.cells #[.string ⟨#[97]⟩, .string ⟨#[100]⟩, .int .u64 5] 25)) fun e w' => ∃ ac cc, e = .returned (.slice ac 1 cc) ∧ Tbs w' ac 1 cc [tB] ∧ Below (wr.alloc (.cells #[.string ⟨#[97]⟩, .string ⟨#[100]⟩, .int .u64 5] 25)).heap.size (wr.alloc (.cells #[.string ⟨#[97]⟩, .string ⟨#[100]⟩, .int .u64 5] 25)) w') := by
          have := cut_tbs (some ⟨wr.heap.size, 0, none⟩) 1 1 [tA] ⟨#[98]⟩ ⟨#[99]⟩ (wr.alloc (.cells #[.string ⟨#[97]⟩, .string ⟨#[100]⟩, .int .u64 5] 25)) (tbs_one (new_at _ _ : Bt _ _ tA) tA_ok (Nat.le_refl _)) (by decide) (by decide) (by decide)
          rw [probe] at this
          exact this.mono (fun e w' ⟨ac, cc, h1, h2, _, h4⟩ => ⟨ac, cc, h1, h2, h4⟩)
        go_wp2_with fail
        refine HP.out.mono ?_
        rintro e w5 ⟨ap, cp, rfl, tp, b5⟩
        obtain ⟨gb, go', rfl, hp⟩ : ∃ b o, ap = some ⟨b, o, none⟩ ∧ At3 w5 b (o + 0 * 3) tB := by
          cases ap with
          | none => have := tp.2.2.1 rfl; omega
          | some ad =>
            obtain ⟨b, o, p⟩ := ad
            obtain ⟨rfl, h⟩ := tp.2.2.2.2 b o p rfl (by omega)
            exact ⟨b, o, rfl, h 0 (by omega)⟩
        obtain ⟨p0, p1, p2⟩ := hp
        simp only [Nat.zero_mul, Nat.add_zero, tB] at p0 p1 p2
        have hne := neq_self
        have hcp := tp.2.1
        have B5 : Hid (Below w.heap.size w w5) := ((B4.out.alloc B4.out.size _).trans (b5.mono (by have := B4.out.size; simp; omega)))
        replace tp := hid tp
        replace b5 := hid b5
        have iN : (N : Int) ≤ (len : Int) := by omega
        by_cases L1 : (1024 : Int) < (l.size : Int)
        · go_wp2_with fail
          go_ret
          exact ⟨rfl, B5.out⟩
        · by_cases L2 : (1025 : Int) < (m.size : Int)
          · go_wp2_with fail
            go_ret
            exact ⟨rfl, B5.out⟩
          · have HE := HC.out (by omega) (by omega)
            rw [hin.out] at HE
            rw [if_neg (by simp)] at HE
            obtain ⟨rfl, rfl⟩ := Prod.mk.inj HE
            clear HE
            go_wp2_with fail
            go_ret
            exact ⟨rfl, B5.out⟩
  · rw [Bool.not_eq_true] at c1
    by_cases hme : m = ⟨#[]⟩
    · have hm2 := empty_yes hme
      have hin : Hid (inr l m k = true) := by show _ = _; unfold inr lt; rw [c1]; simp [hme]
      clear hme
      go_wp2_with fail
      go_loopw [14] (fun i wr => ∃ n : Nat, i = .int .i64 n ∧ n ≤ N ∧ Hid (Below w3.heap.size w3 wr)) (fun i _ => N - (intOf i).toNat)
      case atStart => exact ⟨0, rfl, by omega, Below.refl _ _⟩
      case round =>
        obtain ⟨n, rfl, hk, HB⟩ := hrel
        by_cases hlt : n < N
        · have HT := hT3.out wr HB.out
          obtain ⟨b, o, rfl, hc⟩ : ∃ b o, ac = some ⟨b, o, none⟩ ∧ At3 wr b (o + n * 3) (C.getD n zt) := by
            cases ac with
            | none => have := HT.2.2.1 rfl; omega
            | some ad =>
              obtain ⟨b, o, p⟩ := ad
              obtain ⟨rfl, h⟩ := HT.2.2.2.2 b o p rfl (by omega)
              exact ⟨b, o, rfl, h n hlt⟩
          obtain ⟨m1, m2, m3⟩ := HM.out n hlt
          revert hc m1 m2 m3
          generalize C.getD n zt = c
          obtain ⟨cb, ce, cs⟩ := c
          rintro ⟨q0, q1, q2⟩ m1 m2 m3
          dsimp only at q0 q1 q2 m1 m2 m3
          unfold lt at m1
          have ik : (n : Int) < (N : Int) := by omega
          have hlc := HT.2.1
          have HV := hid (valid_any cb ce cs)
          have hb1 := hid (HB.out.trans ((box_below wr (.cells #[.string cb, .string ce, .int .u64 cs] 25)).mono HB.out.size))
          replace m3 := hid m3
          have hat := At3.later (x := ⟨cb, ce, cs⟩) ⟨q0, q1, q2⟩ (box_below wr (.cells #[.string cb, .string ce, .int .u64 cs] 25))
          obtain ⟨r0, r1, r2⟩ := hat
          dsimp only at r0 r1 r2
          replace m2 := hid m2
          cases hv : vd ⟨cb, ce, cs⟩ with
          | true =>
            rw [hv] at HV
            go_wp2_with fail
            refine (HV.out _).mono ?_
            rintro e w4 ⟨rfl, rfl⟩
            go_wp2_with fail
            go_roundw
            case rel => exact ⟨n + 1, by go_num, by omega, hb1⟩
            case measure => simp [intOf]; omega
          | false =>
            rw [hv] at HV
            have h3 := hid (m3.out hv)
            clear hv
            by_cases s1 : (cb.size : Int) ≤ 1024
            · have s2 : ¬ (ce.size : Int) ≤ 1025 := fun h => h3.out ⟨by omega, by omega⟩
              go_wp2_with fail
              refine (HV.out _).mono ?_
              rintro e w4 ⟨rfl, rfl⟩
              go_wp2_with fail
              go_roundw
              case rel => exact ⟨n + 1, by go_num, by omega, hb1⟩
              case measure => simp [intOf]; omega
            · go_wp2_with fail
              refine (HV.out _).mono ?_
              rintro e w4 ⟨rfl, rfl⟩
              go_wp2_with fail
              go_roundw
              case rel => exact ⟨n + 1, by go_num, by omega, hb1⟩
              case measure => simp [intOf]; omega
        · have ik : ¬ (n : Int) < (N : Int) := by omega
          have B4 := hid (Bw3.out.trans (HB.out.mono Bw3.out.size))
          have HP : Hid (Calls Try.prog 10 #[.slice (some ⟨wr.heap.size, 0, none⟩) 1 1, .string ⟨#[98]⟩, .string ⟨#[99]⟩] (wr.alloc (.cells #[.string ⟨#[97]⟩, .string ⟨#[100]⟩, .int .u64 5] 25)) fun e w' => ∃ ac cc, e = .returned (.slice ac 1 cc) ∧ Tbs w' ac 1 cc [tB] ∧ Below (wr.alloc (.cells #[.string ⟨#[97]⟩, .string ⟨#[100]⟩, .int .u64 5] 25)).heap.size (wr.alloc (.cells #[.string ⟨#[97]⟩, .string ⟨#[100]⟩, .int .u64 5] 25)) w') := by
            have := cut_tbs (some ⟨wr.heap.size, 0, none⟩) 1 1 [tA] ⟨#[98]⟩ ⟨#[99]⟩ (wr.alloc (.cells #[.string ⟨#[97]⟩, .string ⟨#[100]⟩, .int .u64 5] 25)) (tbs_one (new_at _ _ : Bt _ _ tA) tA_ok (Nat.le_refl _)) (by decide) (by decide) (by decide)
            rw [probe] at this
            exact this.mono (fun e w' ⟨ac, cc, h1, h2, _, h4⟩ => ⟨ac, cc, h1, h2, h4⟩)
          go_wp2_with fail
          refine HP.out.mono ?_
          rintro e w5 ⟨ap, cp, rfl, tp, b5⟩
          obtain ⟨gb, go', rfl, hp⟩ : ∃ b o, ap = some ⟨b, o, none⟩ ∧ At3 w5 b (o + 0 * 3) tB := by
            cases ap with
            | none => have := tp.2.2.1 rfl; omega
            | some ad =>
              obtain ⟨b, o, p⟩ := ad
              obtain ⟨rfl, h⟩ := tp.2.2.2.2 b o p rfl (by omega)
              exact ⟨b, o, rfl, h 0 (by omega)⟩
          obtain ⟨p0, p1, p2⟩ := hp
          simp only [Nat.zero_mul, Nat.add_zero, tB] at p0 p1 p2
          have hne := neq_self
          have hcp := tp.2.1
          have B5 : Hid (Below w.heap.size w w5) := ((B4.out.alloc B4.out.size _).trans (b5.mono (by have := B4.out.size; simp; omega)))
          replace tp := hid tp
          replace b5 := hid b5
          have iN : (N : Int) ≤ (len : Int) := by omega
          by_cases L1 : (1024 : Int) < (l.size : Int)
          · go_wp2_with fail
            go_ret
            exact ⟨rfl, B5.out⟩
          · by_cases L2 : (1025 : Int) < (m.size : Int)
            · go_wp2_with fail
              go_ret
              exact ⟨rfl, B5.out⟩
            · have HE := HC.out (by omega) (by omega)
              rw [hin.out] at HE
              rw [if_pos rfl] at HE
              obtain ⟨rfl, rfl⟩ := Prod.mk.inj HE
              clear HE
              have t0 : (G1 == G1) = true := beq_self_eq_true _
              have t1 : (F1 == F1) = true := beq_self_eq_true _
              go_wp2_with fail
              go_ret
              exact ⟨rfl, B5.out⟩
    · have hm2 := empty_no hme
      replace hme := hid hme
      cases c2 : Op.bytesLess k.toList m.toList with
      | false =>
        have hin : Hid (inr l m k = false) := by show _ = _; unfold inr lt; rw [c1, c2]; simp [hme.out]
        go_wp2_with fail
        go_loopw [14] (fun i wr => ∃ n : Nat, i = .int .i64 n ∧ n ≤ N ∧ Hid (Below w3.heap.size w3 wr)) (fun i _ => N - (intOf i).toNat)
        case atStart => exact ⟨0, rfl, by omega, Below.refl _ _⟩
        case round =>
          obtain ⟨n, rfl, hk, HB⟩ := hrel
          by_cases hlt : n < N
          · have HT := hT3.out wr HB.out
            obtain ⟨b, o, rfl, hc⟩ : ∃ b o, ac = some ⟨b, o, none⟩ ∧ At3 wr b (o + n * 3) (C.getD n zt) := by
              cases ac with
              | none => have := HT.2.2.1 rfl; omega
              | some ad =>
                obtain ⟨b, o, p⟩ := ad
                obtain ⟨rfl, h⟩ := HT.2.2.2.2 b o p rfl (by omega)
                exact ⟨b, o, rfl, h n hlt⟩
            obtain ⟨m1, m2, m3⟩ := HM.out n hlt
            revert hc m1 m2 m3
            generalize C.getD n zt = c
            obtain ⟨cb, ce, cs⟩ := c
            rintro ⟨q0, q1, q2⟩ m1 m2 m3
            dsimp only at q0 q1 q2 m1 m2 m3
            unfold lt at m1
            have ik : (n : Int) < (N : Int) := by omega
            have hlc := HT.2.1
            have HV := hid (valid_any cb ce cs)
            have hb1 := hid (HB.out.trans ((box_below wr (.cells #[.string cb, .string ce, .int .u64 cs] 25)).mono HB.out.size))
            replace m3 := hid m3
            have hat := At3.later (x := ⟨cb, ce, cs⟩) ⟨q0, q1, q2⟩ (box_below wr (.cells #[.string cb, .string ce, .int .u64 cs] 25))
            obtain ⟨r0, r1, r2⟩ := hat
            dsimp only at r0 r1 r2
            have m4 : Op.bytesLess m.toList ce.toList = false := by
              rcases m2 with h | h
              · exact absurd h hme.out
              · exact h
            clear m2
            cases hv : vd ⟨cb, ce, cs⟩ with
            | true =>
              rw [hv] at HV
              go_wp2_with fail
              refine (HV.out _).mono ?_
              rintro e w4 ⟨rfl, rfl⟩
              go_wp2_with fail
              go_roundw
              case rel => exact ⟨n + 1, by go_num, by omega, hb1⟩
              case measure => simp [intOf]; omega
            | false =>
              rw [hv] at HV
              have h3 := hid (m3.out hv)
              clear hv
              by_cases s1 : (cb.size : Int) ≤ 1024
              · have s2 : ¬ (ce.size : Int) ≤ 1025 := fun h => h3.out ⟨by omega, by omega⟩
                go_wp2_with fail
                refine (HV.out _).mono ?_
                rintro e w4 ⟨rfl, rfl⟩
                go_wp2_with fail
                go_roundw
                case rel => exact ⟨n + 1, by go_num, by omega, hb1⟩
                case measure => simp [intOf]; omega
              · go_wp2_with fail
                refine (HV.out _).mono ?_
                rintro e w4 ⟨rfl, rfl⟩
                go_wp2_with fail
                go_roundw
                case rel => exact ⟨n + 1, by go_num, by omega, hb1⟩
                case measure => simp [intOf]; omega
          · have ik : ¬ (n : Int) < (N : Int) := by omega
            have B4 := hid (Bw3.out.trans (HB.out.mono Bw3.out.size))
            have HP : Hid (Calls Try.prog 10 #[.slice (some ⟨wr.heap.size, 0, none⟩) 1 1, .string ⟨#[98]⟩, .string ⟨#[99]⟩] (wr.alloc (.cells #[.string ⟨#[97]⟩, .string ⟨#[100]⟩, .int .u64 5] 25)) fun e w' => ∃ ac cc, e = .returned (.slice ac 1 cc) ∧ Tbs w' ac 1 cc [tB] ∧ Below (wr.alloc (.cells #[.string ⟨#[97]⟩, .string ⟨#[100]⟩, .int .u64 5] 25)).heap.size (wr.alloc (.cells #[.string ⟨#[97]⟩, .string ⟨#[100]⟩, .int .u64 5] 25)) w') := by
              have := cut_tbs (some ⟨wr.heap.size, 0, none⟩) 1 1 [tA] ⟨#[98]⟩ ⟨#[99]⟩ (wr.alloc (.cells #[.string ⟨#[97]⟩, .string ⟨#[100]⟩, .int .u64 5] 25)) (tbs_one (new_at _ _ : Bt _ _ tA) tA_ok (Nat.le_refl _)) (by decide) (by decide) (by decide)
              rw [probe] at this
              exact this.mono (fun e w' ⟨ac, cc, h1, h2, _, h4⟩ => ⟨ac, cc, h1, h2, h4⟩)
            go_wp2_with fail
            refine HP.out.mono ?_
            rintro e w5 ⟨ap, cp, rfl, tp, b5⟩
            obtain ⟨gb, go', rfl, hp⟩ : ∃ b o, ap = some ⟨b, o, none⟩ ∧ At3 w5 b (o + 0 * 3) tB := by
              cases ap with
              | none => have := tp.2.2.1 rfl; omega
              | some ad =>
                obtain ⟨b, o, p⟩ := ad
                obtain ⟨rfl, h⟩ := tp.2.2.2.2 b o p rfl (by omega)
                exact ⟨b, o, rfl, h 0 (by omega)⟩
            obtain ⟨p0, p1, p2⟩ := hp
            simp only [Nat.zero_mul, Nat.add_zero, tB] at p0 p1 p2
            have hne := neq_self
            have hcp := tp.2.1
            have B5 : Hid (Below w.heap.size w w5) := ((B4.out.alloc B4.out.size _).trans (b5.mono (by have := B4.out.size; simp; omega)))
            replace tp := hid tp
            replace b5 := hid b5
            have iN : (N : Int) ≤ (len : Int) := by omega
            by_cases L1 : (1024 : Int) < (l.size : Int)
            · go_wp2_with fail
              go_ret
              exact ⟨rfl, B5.out⟩
            · by_cases L2 : (1025 : Int) < (m.size : Int)
              · go_wp2_with fail
                go_ret
                exact ⟨rfl, B5.out⟩
              · have HE := HC.out (by omega) (by omega)
                rw [hin.out] at HE
                rw [if_neg (by simp)] at HE
                obtain ⟨rfl, rfl⟩ := Prod.mk.inj HE
                clear HE
                go_wp2_with fail
                go_ret
                exact ⟨rfl, B5.out⟩
      | true =>
        have hin : Hid (inr l m k = true) := by show _ = _; unfold inr lt; rw [c1, c2]; simp
        go_wp2_with fail
        go_loopw [14] (fun i wr => ∃ n : Nat, i = .int .i64 n ∧ n ≤ N ∧ Hid (Below w3.heap.size w3 wr)) (fun i _ => N - (intOf i).toNat)
        case atStart => exact ⟨0, rfl, by omega, Below.refl _ _⟩
        case round =>
          obtain ⟨n, rfl, hk, HB⟩ := hrel
          by_cases hlt : n < N
          · have HT := hT3.out wr HB.out
            obtain ⟨b, o, rfl, hc⟩ : ∃ b o, ac = some ⟨b, o, none⟩ ∧ At3 wr b (o + n * 3) (C.getD n zt) := by
              cases ac with
              | none => have := HT.2.2.1 rfl; omega
              | some ad =>
                obtain ⟨b, o, p⟩ := ad
                obtain ⟨rfl, h⟩ := HT.2.2.2.2 b o p rfl (by omega)
                exact ⟨b, o, rfl, h n hlt⟩
            obtain ⟨m1, m2, m3⟩ := HM.out n hlt
            revert hc m1 m2 m3
            generalize C.getD n zt = c
            obtain ⟨cb, ce, cs⟩ := c
            rintro ⟨q0, q1, q2⟩ m1 m2 m3
            dsimp only at q0 q1 q2 m1 m2 m3
            unfold lt at m1
            have ik : (n : Int) < (N : Int) := by omega
            have hlc := HT.2.1
            have HV := hid (valid_any cb ce cs)
            have hb1 := hid (HB.out.trans ((box_below wr (.cells #[.string cb, .string ce, .int .u64 cs] 25)).mono HB.out.size))
            replace m3 := hid m3
            have hat := At3.later (x := ⟨cb, ce, cs⟩) ⟨q0, q1, q2⟩ (box_below wr (.cells #[.string cb, .string ce, .int .u64 cs] 25))
            obtain ⟨r0, r1, r2⟩ := hat
            dsimp only at r0 r1 r2
            have m4 : Op.bytesLess m.toList ce.toList = false := by
              rcases m2 with h | h
              · exact absurd h hme.out
              · exact h
            clear m2
            cases hv : vd ⟨cb, ce, cs⟩ with
            | true =>
              rw [hv] at HV
              go_wp2_with fail
              refine (HV.out _).mono ?_
              rintro e w4 ⟨rfl, rfl⟩
              go_wp2_with fail
              go_roundw
              case rel => exact ⟨n + 1, by go_num, by omega, hb1⟩
              case measure => simp [intOf]; omega
            | false =>
              rw [hv] at HV
              have h3 := hid (m3.out hv)
              clear hv
              by_cases s1 : (cb.size : Int) ≤ 1024
              · have s2 : ¬ (ce.size : Int) ≤ 1025 := fun h => h3.out ⟨by omega, by omega⟩
                go_wp2_with fail
                refine (HV.out _).mono ?_
                rintro e w4 ⟨rfl, rfl⟩
                go_wp2_with fail
                go_roundw
                case rel => exact ⟨n + 1, by go_num, by omega, hb1⟩
                case measure => simp [intOf]; omega
              · go_wp2_with fail
                refine (HV.out _).mono ?_
                rintro e w4 ⟨rfl, rfl⟩
                go_wp2_with fail
                go_roundw
                case rel => exact ⟨n + 1, by go_num, by omega, hb1⟩
                case measure => simp [intOf]; omega
          · have ik : ¬ (n : Int) < (N : Int) := by omega
            have B4 := hid (Bw3.out.trans (HB.out.mono Bw3.out.size))
            have HP : Hid (Calls Try.prog 10 #[.slice (some ⟨wr.heap.size, 0, none⟩) 1 1, .string ⟨#[98]⟩, .string ⟨#[99]⟩] (wr.alloc (.cells #[.string ⟨#[97]⟩, .string ⟨#[100]⟩, .int .u64 5] 25)) fun e w' => ∃ ac cc, e = .returned (.slice ac 1 cc) ∧ Tbs w' ac 1 cc [tB] ∧ Below (wr.alloc (.cells #[.string ⟨#[97]⟩, .string ⟨#[100]⟩, .int .u64 5] 25)).heap.size (wr.alloc (.cells #[.string ⟨#[97]⟩, .string ⟨#[100]⟩, .int .u64 5] 25)) w') := by
              have := cut_tbs (some ⟨wr.heap.size, 0, none⟩) 1 1 [tA] ⟨#[98]⟩ ⟨#[99]⟩ (wr.alloc (.cells #[.string ⟨#[97]⟩, .string ⟨#[100]⟩, .int .u64 5] 25)) (tbs_one (new_at _ _ : Bt _ _ tA) tA_ok (Nat.le_refl _)) (by decide) (by decide) (by decide)
              rw [probe] at this
              exact this.mono (fun e w' ⟨ac, cc, h1, h2, _, h4⟩ => ⟨ac, cc, h1, h2, h4⟩)
            go_wp2_with fail
            refine HP.out.mono ?_
            rintro e w5 ⟨ap, cp, rfl, tp, b5⟩
            obtain ⟨gb, go', rfl, hp⟩ : ∃ b o, ap = some ⟨b, o, none⟩ ∧ At3 w5 b (o + 0 * 3) tB := by
              cases ap with
              | none => have := tp.2.2.1 rfl; omega
              | some ad =>
                obtain ⟨b, o, p⟩ := ad
                obtain ⟨rfl, h⟩ := tp.2.2.2.2 b o p rfl (by omega)
                exact ⟨b, o, rfl, h 0 (by omega)⟩
            obtain ⟨p0, p1, p2⟩ := hp
            simp only [Nat.zero_mul, Nat.add_zero, tB] at p0 p1 p2
            have hne := neq_self
            have hcp := tp.2.1
            have B5 : Hid (Below w.heap.size w w5) := ((B4.out.alloc B4.out.size _).trans (b5.mono (by have := B4.out.size; simp; omega)))
            replace tp := hid tp
            replace b5 := hid b5
            have iN : (N : Int) ≤ (len : Int) := by omega
            by_cases L1 : (1024 : Int) < (l.size : Int)
            · go_wp2_with fail
              go_ret
              exact ⟨rfl, B5.out⟩
            · by_cases L2 : (1025 : Int) < (m.size : Int)
              · go_wp2_with fail
                go_ret
                exact ⟨rfl, B5.out⟩
              · have HE := HC.out (by omega) (by omega)
                rw [hin.out] at HE
                rw [if_pos rfl] at HE
                obtain ⟨rfl, rfl⟩ := Prod.mk.inj HE
                clear HE
                have t0 : (G1 == G1) = true := beq_self_eq_true _
                have t1 : (F1 == F1) = true := beq_self_eq_true _
                go_wp2_with fail
                go_ret
                exact ⟨rfl, B5.out⟩
end Go.Proofs.Ytfmpdalabgfigab.Lw

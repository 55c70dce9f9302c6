/- The document's Span. -/
import Derived.Test.YtfmpdalabgfigaaDoorRg
import Derived.Test.YtfmpdalabgfigaaDoorSp
namespace Go.Proofs.YtfmpdalabgfigaaDoor.Ri
open Go.ChangeShapes Go.WideShapes Go.ChangeAt Go.RowKit Go.Shelf
open Go.Proofs.YtfmpdalabgfigaaDoor.Lx
open Go.Proofs.YtfmpdalabgfigaaDoor.Tm
open Go.Proofs.YtfmpdalabgfigaaDoor.Mm
open Go.Proofs.YtfmpdalabgfigaaDoor.Rw
open Go.Proofs.YtfmpdalabgfigaaDoor.Rf
open Go.Proofs.YtfmpdalabgfigaaDoor.Rg
open Go.Proofs.YtfmpdalabgfigaaDoor.Sp
set_option linter.unusedVariables false
set_option linter.unusedSimpArgs false
attribute [local go_sem] leq_s gtr_s geq_s

theorem mx_empty (e : ByteArray) : mx ⟨#[]⟩ e = e := by
  unfold mx
  cases h : lt ⟨#[]⟩ e with
  | true => rw [if_pos rfl]
  | false => rw [if_neg (by simp)]; exact eq_of h (empty_le e)
theorem spl_one (x : T) : spl [x] = (x.b, x.e, true) := by
  unfold spl sst lo
  simp [mx_empty]
theorem spl_go {zs : List T} {n : Nat} (h1 : 1 ≤ n) (h : n < zs.length) {L M : ByteArray} (he : spl (zs.take n) = (L, M, true)) : spl (zs.take (n + 1)) = (if lt (zs.getD n zt).b L = true then (zs.getD n zt).b else L, mx M (zs.getD n zt).e, true) := by
  rw [take_snoc h, spl_snoc, he]
  unfold sst lo
  simp
set_option maxRecDepth 100000 in
set_option maxHeartbeats 4000000 in
theorem rspan_any (a : Option Addr) (len cap : Nat) (xs : List T) (w : World) (H : Tbs w a len cap xs) (hlen : len * 40 ≤ 140737488355328) :
    Calls Tryd.prog 17 #[.slice a len cap] w fun e w' => e = .returned (.tuple #[.string (spn xs).1, .string (spn xs).2.1, .bool (spn xs).2.2]) ∧ Below w.heap.size w w' := by
  have HA := hid (rall_any a len cap xs w H hlen)
  have hok : ∀ x ∈ xs.filter vd, x.ok := fun x hx => H.2.2.2.1 x (List.mem_filter.1 hx).1
  have hzl : (xs.filter vd).length ≤ len := by rw [← H.1]; exact List.length_filter_le _ _
  unfold spn
  obtain ⟨zs, hzs⟩ : ∃ zs, zs = xs.filter vd := ⟨_, rfl⟩
  rw [← hzs] at HA hok hzl ⊢
  clear hzs H
  replace hok := hid hok
  cases zs with
  | nil =>
    go_enter Tryd.func17, Tryd.ntmps17
    go_wp2_with fail
    refine HA.out.mono ?_
    rintro e w1 ⟨v, rfl, o1, b1⟩
    obtain ⟨a1, c1, rfl, _⟩ := row_shape o1
    replace o1 := hid o1
    replace b1 := hid b1
    rw [show ([] : List T).length = 0 from rfl] at *
    go_wp2_with fail
    go_ret3
    exact ⟨rfl, b1.out⟩
  | cons x0 zs =>
    obtain ⟨ys, hys⟩ : ∃ ys, ys = x0 :: zs := ⟨_, rfl⟩
    have h0 : Hid (spl (ys.take 1) = (x0.b, x0.e, true)) := by show _ = _; rw [hys]; exact spl_one x0
    have hg0 : ys.getD 0 zt = x0 := by rw [hys]; rfl
    have hpos : 1 ≤ ys.length := by rw [hys]; simp
    rw [← hys] at HA hok hzl ⊢
    clear hys
    obtain ⟨L, M, F, hR⟩ : ∃ L M F, spl ys = (L, M, F) := ⟨_, _, _, rfl⟩
    rw [hR]
    replace hR := hid hR
    obtain ⟨N, hN⟩ : ∃ N, N = ys.length := ⟨_, rfl⟩
    have hne : ((N : Int) == 0) = false := by rw [beq_eq_false_iff_ne]; omega
    go_enter Tryd.func17, Tryd.ntmps17
    go_wp2_with fail
    refine HA.out.mono ?_
    rintro e w1 ⟨v, rfl, o1, b1⟩
    obtain ⟨a1, c1, rfl, HT, _⟩ := o1.tbs hok.out
    rw [← hN] at HT
    rw [← hN]
    obtain ⟨b, o, rfl, hat⟩ := here HT (k := 0) (by omega)
    rw [hg0, Nat.zero_mul, Nat.add_zero] at hat
    obtain ⟨xb, xe, x3⟩ := x0
    obtain ⟨r0, r1, r2⟩ := hat
    dsimp only at r0 r1 r2 h0
    have hcap := HT.2.1
    replace HT := hid HT
    replace o1 := hid o1
    replace b1 := hid b1
    have hN1 : (0 : Int) < (N : Int) := by omega
    have hNl : N ≤ 3518437208883 := by omega
    replace hN := hid hN
    clear hg0
    go_wp2_with fail
    go_loopw [5, 6, 7] (fun lv mv iv wr => ∃ (n : Nat) (L M : ByteArray), iv = .int .i64 (n : Int) ∧ lv = .string L ∧ mv = .string M ∧ 1 ≤ n ∧ n ≤ N ∧ Hid (spl (ys.take n) = (L, M, true)) ∧ wr = w1) (fun _ _ iv _ => N - (intOf iv).toNat)
    case atStart => exact ⟨1, xb, xe, rfl, rfl, rfl, by omega, by omega, h0, rfl⟩
    case round =>
      obtain ⟨n, L', M', rfl, rfl, rfl, h1, hn, HE, rfl⟩ := hrel
      by_cases hlt : n < N
      · have ik : (n : Int) < (N : Int) := by omega
        obtain ⟨b', o', hbo, hat⟩ := here HT.out hlt
        simp only [Option.some.injEq, Addr.mk.injEq] at hbo
        obtain ⟨rfl, rfl, _⟩ := hbo
        have HS := spl_go h1 (by have := hN.out; omega) HE.out
        revert hat HS
        generalize ys.getD n zt = x
        obtain ⟨zb, ze, z3⟩ := x
        intro hat HS
        obtain ⟨s0, s1, s2⟩ := hat
        dsimp only at s0 s1 s2 HS
        cases c1' : Op.bytesLess zb.toList L'.toList with
        | true =>
          rw [if_pos (show lt zb L' = true from c1')] at HS
          cases c2' : Op.bytesLess M'.toList ze.toList with
          | true =>
            rw [show mx M' ze = ze from if_pos c2'] at HS
            replace HS := hid HS
            go_wp2_with fail
            go_roundw
            case rel => exact ⟨n + 1, zb, ze, by go_num, rfl, rfl, by omega, by omega, HS, trivial⟩
            case measure => simp [intOf]; omega
          | false =>
            rw [show mx M' ze = M' from if_neg (by rw [show lt M' ze = false from c2']; simp)] at HS
            replace HS := hid HS
            go_wp2_with fail
            go_roundw
            case rel => exact ⟨n + 1, zb, M', by go_num, rfl, rfl, by omega, by omega, HS, trivial⟩
            case measure => simp [intOf]; omega
        | false =>
          rw [if_neg (by rw [show lt zb L' = false from c1']; simp)] at HS
          cases c2' : Op.bytesLess M'.toList ze.toList with
          | true =>
            rw [show mx M' ze = ze from if_pos c2'] at HS
            replace HS := hid HS
            go_wp2_with fail
            go_roundw
            case rel => exact ⟨n + 1, L', ze, by go_num, rfl, rfl, by omega, by omega, HS, trivial⟩
            case measure => simp [intOf]; omega
          | false =>
            rw [show mx M' ze = M' from if_neg (by rw [show lt M' ze = false from c2']; simp)] at HS
            replace HS := hid HS
            go_wp2_with fail
            go_roundw
            case rel => exact ⟨n + 1, L', M', by go_num, rfl, rfl, by omega, by omega, HS, trivial⟩
            case measure => simp [intOf]; omega
      · have ik : ¬ (n : Int) < (N : Int) := by omega
        have HE' := HE.out
        rw [List.take_of_length_le (by have := hN.out; omega), hR.out] at HE'
        obtain ⟨rfl, h2⟩ := Prod.mk.inj HE'
        obtain ⟨rfl, rfl⟩ := Prod.mk.inj h2
        clear HE' h2
        go_wp2_with fail
        go_ret3
        exact ⟨rfl, b1.out⟩
end Go.Proofs.YtfmpdalabgfigaaDoor.Ri

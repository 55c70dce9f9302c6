/- VersionTells. -/
import Derived.Test.YtkpihibeohjfnaaDh
import Derived.Test.YtkpihibeohjfnaaLs
import Derived.Test.YtkpihibeohjfnaaWi
import Derived.Test.YtkpihibeohjfnaaOn
namespace Go.Proofs.Ytkpihibeohjfnaa.Lt
open Go.ChangeShapes Go.WideShapes Go.ChangeAt Go.RowKit
open Go.Proofs.Ytkpihibeohjfnaa.Gr
open Go.Proofs.Ytkpihibeohjfnaa.Ev
open Go.Proofs.Ytkpihibeohjfnaa.Oe
open Go.Proofs.Ytkpihibeohjfnaa.Lv
open Go.Proofs.Ytkpihibeohjfnaa.Vp
open Go.Proofs.Ytkpihibeohjfnaa.Vq
open Go.Proofs.Ytkpihibeohjfnaa.Vr
open Go.Proofs.Ytkpihibeohjfnaa.Vt
open Go.Proofs.Ytkpihibeohjfnaa.Vu (cell_later)
open Go.Proofs.Ytkpihibeohjfnaa.On
open Go.Proofs.Ytkpihibeohjfnaa.Fq
open Go.Proofs.Ytkpihibeohjfnaa.Fd
open Go.Proofs.Ytkpihibeohjfnaa.Cp
open Go.Proofs.Ytkpihibeohjfnaa.Sm
open Go.Proofs.Ytkpihibeohjfnaa.Ls
open Go.Proofs.Ytkpihibeohjfnaa.De
open Go.Proofs.Ytkpihibeohjfnaa.Dg
open Go.Proofs.Ytkpihibeohjfnaa.Dh
open Go.Proofs.Ytkpihibeohjfnaa.Wi
set_option linter.unusedVariables false
set_option linter.unusedSimpArgs false

theorem find_any (a : Option Addr) (len cap : Nat) (L : List (List Fi)) (num : Int) (w : World) (H : Lvs w a len cap L) (hw : wL L ≤ 1048576) :
    Calls Try.prog 17 #[.slice a len cap, .int .i64 num] w fun e w' => e = .returned (fa (fnd L num)) ∧ Below w.heap.size w w' := by
  unfold fnd
  cases hv : vld L with
  | true => rw [if_pos rfl]; exact find_good a len cap L num w H hw hv
  | false => rw [if_neg (by simp)]; exact find_bad a len cap L num w H hw hv
theorem fa_shape (o : Option (Nat × Fi)) : ∃ (x : Int) (f : Fi) (b : Bool), fa o = .tuple #[.int .i64 x, fv f, .bool b] := by
  match o with
  | some (k, f) => exact ⟨k, f, true, rfl⟩
  | none => exact ⟨0, zf, false, rfl⟩
theorem bl_ok {w : World} {a : Option Addr} {len cap : Nat} {L : List (List Fi)} (H : Lvs w a len cap L) (lv : Int) (i : Nat) : ∀ f ∈ bl L lv i, f.ok := by
  intro f hf
  unfold bl at hf
  rw [List.mem_flatMap] at hf
  obtain ⟨k, _, hk⟩ := hf
  split at hk
  · unfold lvl at hk
    split at hk
    · rename_i h
      obtain ⟨lb, lof, la, ln, lc, rfl, cl0, FS, hln⟩ := H.at ((k : Int).toNat) (by have := H.len_eq; omega)
      exact FS.ok f hk
    · cases hk
  · cases hk
set_option maxRecDepth 100000 in
set_option maxHeartbeats 4000000 in
theorem tells_any (a : Option Addr) (len cap : Nat) (L : List (List Fi)) (lv num : Int) (w : World) (HA : Lvs w a len cap L) (hw : wL L ≤ 1048576) (_ : bd lv) (_ : bd num) :
    Calls Try.prog 4 #[.slice a len cap, .int .i64 lv, .int .i64 num] w fun e w' => e = .returned (.bool true) ∧ Below w.heap.size w w' := by
  obtain ⟨x, f, b, hfa⟩ := fa_shape (fnd L num)
  have hX8 : (bl L lv len).length ≤ 1048576 := bl_len8 lv hw (by rw [HA.len_eq]; exact Nat.le_refl _)
  have hok := bl_ok HA lv len
  obtain ⟨N, hN⟩ : ∃ N, N = (if vld L = true then srt (nums L) else []) := ⟨_, rfl⟩
  have hfl : (if vld L = true then ((nums L).length : Int) else 0) = (N.length : Int) := by rw [hN]; split <;> simp [srt_len]
  have hN8 : N.length ≤ 1048576 := by
    have := nums_len L
    rw [hN]; split
    · rw [srt_len]; omega
    · exact Nat.zero_le _
  have c1 := hid (copied_any a len cap L w HA hw)
  have c2 : Hid (∀ W k c, Lvs W k len c L → Calls Try.prog 17 #[.slice k len c, .int .i64 num] W fun e w' => e = .returned (.tuple #[.int .i64 x, fv f, .bool b]) ∧ Below W.heap.size W w') := fun W k c h => by rw [← hfa]; exact find_any k len c L num W h hw
  have c3 : Hid (∀ W, Below w.heap.size w W → Calls Try.prog 18 #[.slice a len cap, .int .i64 num] W fun e w' => e = .returned (.tuple #[.int .i64 x, fv f, .bool b]) ∧ Below W.heap.size W w') := fun W bb => by rw [← hfa]; exact rfind_any a len cap L num W (HA.later bb) hw
  have c4 : Hid (∀ W, Below w.heap.size w W → Calls Try.prog 19 #[.slice a len cap] W fun e w' => ∃ v, e = .returned v ∧ Acc eInt W w' v N) := fun W bb => by rw [hN]; exact rnumbers_any a len cap L W (HA.later bb) hw
  have c5 : Hid (∀ W k c, Lvs W k len c L → Calls Try.prog 20 #[.slice k len c] W fun e w' => ∃ v, e = .returned v ∧ Acc eInt W w' v N) := fun W k c h => by rw [hN]; exact numbers_any k len c L W h hw
  have c6 : Hid (∀ W k c, Lvs W k len c L → Calls Try.prog 21 #[.slice k len c, .int .i64 lv] W fun e w' => ∃ v, e = .returned v ∧ Acc eFi W w' v (bl L lv len)) := fun W k c h => below_any k len c L lv W h hw
  have c7 := hid (fun W => names_any W)
  have c8 := hid (fun W => one_any W)
  have c9 : Hid (∀ W k c, Lvs W k len c L → Calls Try.prog 23 #[.slice k len c, .int .i64 lv] W fun e w' => e = .returned (.int .i64 (sz (lvl L lv))) ∧ Below W.heap.size W w') := fun W k c h => size_any k len c L lv W h hw
  have c10 : Hid (∀ W, Below w.heap.size w W → Calls Try.prog 24 #[.slice a len cap, .int .i64 lv] W fun e w' => e = .returned (.int .i64 (sz (lvl L lv))) ∧ Below W.heap.size W w') := fun W bb => rsize_any a len cap L lv W (HA.later bb) hw
  have c11 : Hid (∀ W k c, Lvs W k len c L → Calls Try.prog 25 #[.slice k len c] W fun e w' => e = .returned (.int .i64 (N.length : Int)) ∧ Below W.heap.size W w') := fun W k c h => by rw [← hfl]; exact files_any k len c L W h hw
  have c12 : Hid (∀ W ra rc sa sc, eInt.Sl W ra N.length rc N → eInt.Sl W sa N.length sc N → Calls Try.prog 26 #[.slice ra N.length rc, .slice sa N.length sc] W fun e w' => e = .returned (.bool true) ∧ Below W.heap.size W w') := fun W ra rc sa sc h1 h2 => ints_same ra sa N.length rc sc N W h1 h2 hN8
  have c13 : Hid (∀ W, Below w.heap.size w W → Calls Try.prog 28 #[.slice a len cap, .int .i64 lv] W fun e w' => ∃ v, e = .returned v ∧ Acc eFi W w' v (bl L lv len)) := fun W bb => rbelow_any a len cap L lv W (HA.later bb) hw
  have c14 : Hid (∀ W ra rc sa sc, eFi.Sl W ra (bl L lv len).length rc (bl L lv len) → eFi.Sl W sa (bl L lv len).length sc (bl L lv len) → Calls Try.prog 27 #[.slice ra (bl L lv len).length rc, .slice sa (bl L lv len).length sc] W fun e w' => e = .returned (.bool true) ∧ Below W.heap.size W w') := fun W ra rc sa sc h1 h2 => lfiles_same ra sa _ rc sc _ W h1 h2 hX8
  have c15 : Hid (∀ W k c, Below w.heap.size w W → Lvs W k len c L → Calls Try.prog 15 #[.slice k len c, .slice a len cap] W fun e w' => e = .returned (.bool true) ∧ Below W.heap.size W w') := fun W k c bb h => by
    have := rsame_any k a len c len cap L L W h (HA.later bb) hw hw
    rwa [decide_eq_true rfl] at this
  have hre := run_neq f f
  rw [(feq_iff _ _).2 rfl] at hre
  generalize hX : bl L lv len = X at *
  generalize hNX : X.length = NX at *
  generalize hNN : N.length = NN at *
  generalize sz (lvl L lv) = S at *
  obtain ⟨fn, fz, ft, fu, flo, fhi⟩ := f
  unfold fv at c2 c3 hre
  dsimp only at c2 c3 hre
  have hxx : (x != x) = false := bne_self_eq_false _
  have hbb : (b != b) = false := by cases b <;> rfl
  have hSS : (S != S) = false := bne_self_eq_false _
  have hnn : ((NN : Int) != (NN : Int)) = false := bne_self_eq_false _
  replace hok := hid hok
  replace hX := hid hX
  replace hNX := hid hNX
  replace hNN := hid hNN
  replace hN := hid hN
  clear HA hw hfa hfl
  go_enter Try.func4, Try.ntmps4
  go_wp2_with (first
    | (go_at_call 10; refine c1.out.mono ?_; rintro e w1 ⟨kb, kc, rfl, K1, b1⟩; replace K1 := hid K1; replace b1 := hid b1)
    | (go_at_call 17; refine (c2.out _ _ _ K1.out).mono ?_; rintro e w2 ⟨rfl, b2⟩
       obtain ⟨gA, hgA⟩ : ∃ g, g = w2.heap.size := ⟨_, rfl⟩
       obtain ⟨V2, hV2⟩ : ∃ V, V = w2.alloc (.cells #[.int .i64 fn, .int .i64 fz, .string ft, .string fu, .int .u64 flo, .int .u64 fhi] 43) := ⟨_, rfl⟩
       have kA : V2.heap[gA]? = some (.cells #[.int .i64 fn, .int .i64 fz, .string ft, .string fu, .int .u64 flo, .int .u64 fhi] 43) := (by rw [hV2, hgA]; exact new_at _ _)
       have d2 : Below w1.heap.size w1 V2 := (by rw [hV2]; exact Below.up b2 (box_below _ _))
       replace d2 := hid d2; replace kA := hid kA; replace hV2 := hid hV2; replace hgA := hid hgA; clear b2)
    | (go_at_call 18; rw [← hV2.out, ← hgA.out]; refine (c3.out _ (Below.up b1.out d2.out)).mono ?_; rintro e w3 ⟨rfl, b3⟩
       obtain ⟨gB, hgB⟩ : ∃ g, g = w3.heap.size := ⟨_, rfl⟩
       obtain ⟨V3, hV3⟩ : ∃ V, V = w3.alloc (.cells #[.int .i64 fn, .int .i64 fz, .string ft, .string fu, .int .u64 flo, .int .u64 fhi] 43) := ⟨_, rfl⟩
       have kB : V3.heap[gB]? = some (.cells #[.int .i64 fn, .int .i64 fz, .string ft, .string fu, .int .u64 flo, .int .u64 fhi] 43) := (by rw [hV3, hgB]; exact new_at _ _)
       have b3' : Below V2.heap.size V2 V3 := (by rw [hV3]; exact Below.up b3 (box_below _ _))
       have kA' : V3.heap[gA]? = some (.cells #[.int .i64 fn, .int .i64 fz, .string ft, .string fu, .int .u64 flo, .int .u64 fhi] 43) := (b3'.block _ (blk_lt kA.out)).trans kA.out
       have d3 := hid (Below.up d2.out b3')
       replace kA := hid kA'; replace kB := hid kB; replace hV3 := hid hV3; replace hgB := hid hgB; clear b3 b3' kA' d2 hV2)
    | (go_at_call 19; rw [← hV3.out, ← hgB.out]; refine (c4.out _ (Below.up b1.out d3.out)).mono ?_; rintro e w4 ⟨v4, rfl, A4⟩; obtain ⟨na, nc, rfl⟩ := A4.shape; rw [hNN.out] at A4; rw [hNN.out]; have d4 := hid (Below.up d3.out A4.lo); have t4 := hid A4.lo; replace A4 := hid A4)
    | (go_at_call 20; refine (c5.out _ _ _ (K1.out.later d4.out)).mono ?_; rintro e w5 ⟨v5, rfl, A5⟩; obtain ⟨ma, mc, rfl⟩ := A5.shape; rw [hNN.out] at A5; rw [hNN.out]; replace A4 := hid (A4.out.later A5.lo); have d5 := hid (Below.up d4.out A5.lo); have t5 := hid (Below.up t4.out A5.lo); replace A5 := hid A5; clear t4)
    | (go_at_call 21; refine (c6.out _ _ _ (K1.out.later d5.out)).mono ?_; rintro e w6 ⟨v6, rfl, A6⟩; obtain ⟨xa, xc, rfl⟩ := A6.shape; rw [hNX.out] at A6; rw [hNX.out]; replace A4 := hid (A4.out.later A6.lo); have d6 := hid (Below.up d5.out A6.lo); have t6 := hid (Below.up t5.out A6.lo); have s6 := hid A6.lo; replace A6 := hid A6; clear t5)
    | (go_at_call 9; refine (c7.out _).mono ?_; rintro e w7 ⟨rfl, hw7⟩; subst hw7)
    | (go_at_call 22; refine (c8.out _).mono ?_; rintro e w8 ⟨rfl, B⟩; have d8 := hid (Below.up d6.out B); have t8 := hid (Below.up t6.out B); have s8 := hid (Below.up s6.out B); replace A4 := hid (A4.out.later B); clear d6 t6 s6; replace A6 := hid (A6.out.later B); clear B)
    | (go_at_call 23; refine (c9.out _ _ _ (K1.out.later d8.out)).mono ?_; rintro e w9 ⟨rfl, B⟩; have d9 := hid (Below.up d8.out B); have t9 := hid (Below.up t8.out B); have s9 := hid (Below.up s8.out B); replace A4 := hid (A4.out.later B); clear d8 t8 s8; replace A6 := hid (A6.out.later B); clear B)
    | (go_at_call 24; refine (c10.out _ (Below.up b1.out d9.out)).mono ?_; rintro e w10 ⟨rfl, B⟩; have d10 := hid (Below.up d9.out B); have t10 := hid (Below.up t9.out B); have s10 := hid (Below.up s9.out B); replace A4 := hid (A4.out.later B); clear d9 t9 s9; replace A6 := hid (A6.out.later B); clear B)
    | (go_at_call 25; refine (c11.out _ _ _ (K1.out.later d10.out)).mono ?_; rintro e w11 ⟨rfl, B⟩; have d11 := hid (Below.up d10.out B); have t11 := hid (Below.up t10.out B); have s11 := hid (Below.up s10.out B); replace A4 := hid (A4.out.later B); clear d10 t10 s10; replace A6 := hid (A6.out.later B); clear B)
    | (go_at_call 26; refine (c12.out _ _ _ _ _ (Acc.sl (A5.out.later s11.out) (fun _ _ => trivial)).2 (Acc.sl A4.out (fun _ _ => trivial)).2).mono ?_; rintro e w12 ⟨rfl, B⟩; have d12 := hid (Below.up d11.out B); have t12 := hid (Below.up t11.out B); have s12 := hid (Below.up s11.out B); replace A4 := hid (A4.out.later B); clear d11 t11 s11; replace A6 := hid (A6.out.later B); clear B; have kA2 := (t12.out.block _ (blk_lt kA.out)).trans kA.out; have qA0 := cell_of kA2 0 _ rfl; have qA1 := cell_of kA2 1 _ rfl; have qA2 := cell_of kA2 2 _ rfl; have qA3 := cell_of kA2 3 _ rfl; have qA4 := cell_of kA2 4 _ rfl; have qA5 := cell_of kA2 5 _ rfl; clear kA2; have kB2 := (t12.out.block _ (blk_lt kB.out)).trans kB.out; have qB0 := cell_of kB2 0 _ rfl; have qB1 := cell_of kB2 1 _ rfl; have qB2 := cell_of kB2 2 _ rfl; have qB3 := cell_of kB2 3 _ rfl; have qB4 := cell_of kB2 4 _ rfl; have qB5 := cell_of kB2 5 _ rfl; clear kB2)
    | (go_at_call 28; refine (c13.out _ (Below.up b1.out d12.out)).mono ?_; clear qA0 qA1 qA2 qA3 qA4 qA5 qB0 qB1 qB2 qB3 qB4 qB5; rintro e w13 ⟨v13, rfl, A13⟩; obtain ⟨ya, yc, rfl⟩ := A13.shape; rw [hNX.out] at A13; rw [hNX.out]; have B := A13.lo; have d13 := hid (Below.up d12.out B); have t13 := hid (Below.up t12.out B); have s13 := hid (Below.up s12.out B); replace A4 := hid (A4.out.later B); clear d12 t12 s12; replace A6 := hid (A6.out.later B); clear B; replace A13 := hid A13)
    | (go_at_call 27; refine (c14.out _ _ _ _ _ (Acc.sl A6.out hok.out).2 (Acc.sl A13.out hok.out).2).mono ?_; rintro e w14 ⟨rfl, B⟩; have d14 := hid (Below.up d13.out B); have t14 := hid (Below.up t13.out B); have s14 := hid (Below.up s13.out B); replace A4 := hid (A4.out.later B); clear d13 t13 s13; replace A6 := hid (A6.out.later B); clear B)
    | (go_at_call 16; refine (wiped_any xa NX xc w5 w14 hX8 (by have := (Do.Acc.cap A6.out).2; rw [hNX.out] at this; exact this) (Acc.pad A6.out) A6.out.lo).mono ?_; rintro e w15 ⟨rfl, b15⟩; have A7 := hid (A5.out.later b15); clear A6 A4 d14 t14 s14 A5 b15))
  have hmc := (Do.Acc.cap A7.out).2
  rw [hNN.out] at hmc
  clear c2 c3 c4 c5 c6 c7 c8 c9 c10 c11 c12 c13 c14 c1 A13 kA kB hre hok
  go_loopw [17] (fun ii wr => ∃ (i : Nat) (ys : List Int), ii = .int .i64 i ∧ i ≤ NN ∧ ys.length = NN ∧ Acc eInt w4 wr (.slice ma NN mc) ys) (fun ii _ => NN - (intOf ii).toNat)
  case atStart => exact ⟨0, N, rfl, by omega, hNN.out, A7.out⟩
  case round =>
    clear A7
    obtain ⟨i, ys, rfl, hi, hys, A⟩ := hrel
    by_cases hil : i < NN
    · obtain ⟨g, c', he⟩ := A.nn (by intro e; rw [e] at hys; simp at hys; omega)
      obtain rfl : ma = some ⟨g, 0, none⟩ := by injection he
      clear he
      have q1 := Dn.Acc.get A i (by omega)
      have z1 := Dn.Acc.fz A i
      have A2 := hid (Dn.Acc.set A i (-7))
      have hy2 : Hid ((ys.set i (-7)).length = NN) := by show _ = _; rw [List.length_set]; exact hys
      have ik0 : (i : Int) < (NN : Int) := by omega
      have io0 : (0 : Int) ≤ (i : Int) := by omega
      generalize ys.getD i 0 = y at *
      replace hys := hid hys
      clear A
      go_wp2_with fail
      go_roundw
      case rel => exact ⟨i + 1, _, by go_num, by omega, hy2.out, A2.out⟩
      case measure => simp [intOf]; omega
    · have hie : i = NN := by omega
      subst hie
      have bw := hid (Below.up d4.out A.lo)
      clear A hys
      go_wp2_with (first
        | (go_at_call 15; refine (c15.out _ _ _ (Below.up b1.out bw.out) (K1.out.later bw.out)).mono ?_; rintro e w9 ⟨rfl, b9⟩; replace b9 := hid b9))
      go_ret
      exact ⟨rfl, Below.up (Below.up b1.out bw.out) b9.out⟩
end Go.Proofs.Ytkpihibeohjfnaa.Lt

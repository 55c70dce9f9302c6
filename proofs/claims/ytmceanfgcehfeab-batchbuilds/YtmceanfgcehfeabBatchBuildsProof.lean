/- Proved: for all steps BatchBuilds returns true: a Builder under any calls, up to its limits, answers what the document asks and holds what it holds; a nil one and a plain one answer ErrNil. -/
import Derived.Test.YtmceanfgcehfeabDp
import Derived.Test.YtmceanfgcehfeabAc
import Derived.ShutString
import Derived.ChangeOld
import Derived.Below
import Derived.SizedLaws
import Derived.Deep.RegionWith
import Derived.Lib.SmallJoins
namespace Go.Proofs.Ytmceanfgcehfeab.batchBuilds
open Go.Proofs.Ytmceanfgcehfeab
open Go.Proofs.Ytmceanfgcehfeab.Ob
open Go.Proofs.Ytmceanfgcehfeab.By
open Go.Proofs.Ytmceanfgcehfeab.En
open Go.Proofs.Ytmceanfgcehfeab.Bu
open Go.Proofs.Ytmceanfgcehfeab.Bv
open Go.Proofs.Ytmceanfgcehfeab.Bp
open Go.Proofs.Ytmceanfgcehfeab.Do
open Go.Proofs.Ytmceanfgcehfeab.Dp
open Go.Proofs.Ytmceanfgcehfeab.Ac
open Go.Proofs.Ytmceanfgcehfeab.Jo (Res encR)
open Go.ChangeShapes Go.WideShapes Go.ChangeAt Go.RowKit Go.Joins
open Go.ChangeMaps (open_string shut_string)
set_option linter.unusedVariables false

/-- What the last loop knows of the world. -/
structure Ev (B : Nat) (w0 w : World) (g1 g2 n5 n6 : Nat) (v5 v6 : Value) (Z : List Int) : Prop where
  non : Non w (some ⟨g1, 0, none⟩)
  c0 : w.cell? ⟨g2, 0, none⟩ = some (.pointer none)
  c1 : w.cell? ⟨g2, 1, none⟩ = some (.pointer (some ⟨g1, 0, none⟩))
  below : Below B w0 w
  base : B ≤ w0.heap.size
  r5 : Res w n5 v5 Z
  r6 : Res w n6 v6 Z
theorem Ev.later {B : Nat} {w0 w w' : World} {g1 g2 n5 n6 : Nat} {v5 v6 : Value} {Z : List Int} (h : Ev B w0 w g1 g2 n5 n6 v5 v6 Z) (b : Below w.heap.size w w') : Ev B w0 w' g1 g2 n5 n6 v5 v6 Z :=
  ⟨h.non.later b, cell_later b h.c0, cell_later b h.c1, h.below.trans (b.mono (Nat.le_trans h.base h.below.size)), h.base, h.r5.later b, h.r6.later b⟩
set_option maxRecDepth 100000 in
set_option maxHeartbeats 4000000 in
theorem law (a : Option Addr) (len cap : Nat) (acts : List A) (w : World) (H : Acts w a len cap acts) (hl : len ≤ 140737488351232) :
    Calls Try.prog 3 #[.slice a len cap] w fun e w' => e = .returned (.bool true) ∧ Below w.heap.size w w' := by
  have HH := hid H
  have hlc := H.2.1
  clear H
  go_enter Try.func3, Try.ntmps3
  go_wp2_with fail
  refine (new_any w (fun _ => False)).mono ?_
  rintro e w1 ⟨rfl, B1, b1⟩
  have T1 := hid (Two.new B1 b1.size)
  have BS := hid B1
  have BW1 := hid b1
  clear B1 b1
  go_wp2_with fail
  refine (names_any w1).mono ?_
  rintro e w2 ⟨rfl, rfl⟩
  have HLen := hid (len_any w.heap.size [] w.heap.size _ w2 BS.out)
  have HSiz := hid (size_any w.heap.size [] w.heap.size _ w2 BS.out)
  go_wp2_with fail
  refine HLen.out.mono ?_
  rintro e w3 ⟨rfl, rfl⟩
  simp only [List.length_nil]
  go_wp2_with fail
  refine HSiz.out.mono ?_
  rintro e w3 ⟨rfl, rfl⟩
  rw [show bsz [] = 12 from rfl]
  go_wp2_with fail
  clear HLen HSiz BS
  go_loopw [4, 5, 6, 7] (fun v ok lf i wr => ∃ (k l : Nat) (xs : List O), i = .int .i64 k ∧ k ≤ len ∧ lf = .int .i64 l ∧ l ≤ 4200 ∧ ok = .bool true ∧ Hid (Two wr w.heap.size w.heap.size v xs) ∧ Hid (Below w.heap.size w wr)) (fun _ _ _ i _ => len - (intOf i).toNat)
  case atStart => exact ⟨0, 4200, [], rfl, by omega, rfl, by omega, rfl, T1, BW1⟩
  case round =>
    obtain ⟨k, l, xs, rfl, hk, rfl, hl4, rfl, T, BW⟩ := hrel
    by_cases hlt : k < len
    · cases a with
      | none => have := (HH.out.2.2.1 rfl).1; omega
      | some ad =>
        obtain ⟨b, off, sp⟩ := ad
        obtain ⟨hsp, hat0⟩ := HH.out.2.2.2.2 b off sp rfl (by omega)
        subst hsp
        have ilt : (k : Int) < (len : Int) := by omega
        have HBL : Hid (b < w.heap.size) := block_lt_of_cell (hat0 k hlt).1
        have OKK : Hid ((acts.getD k za).ok) := by
          have hm : acts.getD k za ∈ acts := by
            rw [List.getD_eq_getElem?_getD, List.getElem?_eq_getElem (by rw [HH.out.1]; exact hlt)]
            exact List.getElem_mem _
          exact HH.out.2.2.2.1 _ hm
        have HAT0 : Hid (∀ W, Below w.heap.size w W → At5 W b (off + k * 5) (acts.getD k za)) := fun W bW => (hat0 k hlt).keep bW HBL.out
        clear hat0
        obtain ⟨⟨ax, m, ak, av, as0⟩, hA⟩ : ∃ A0, A0 = acts.getD k za := ⟨_, rfl⟩
        rw [← hA] at HAT0 OKK
        have HAT : Hid (∀ W, Below w.heap.size w W → At5 W b (off + k * 5) ⟨ax, m, ak, av, as0⟩) := HAT0
        have OX : Hid (-9223372036854775808 ≤ ax ∧ ax ≤ 9223372036854775807) := OKK.out.1
        have OS : Hid (0 ≤ as0 ∧ as0 ≤ 18446744073709551615) := OKK.out.2.2
        have hmb : -9223372036854775808 ≤ m ∧ m ≤ 9223372036854775807 := OKK.out.2.1
        have m2 : wr.cell? ⟨b, off + k * 5 + 1, none⟩ = some (.int .i64 m) := (HAT.out wr BW.out).2.1
        clear hA HAT0 OKK
        by_cases hpos : 0 < m
        · by_cases hml : m ≤ l
          · obtain ⟨M, hM⟩ : ∃ M : Nat, (M : Int) = 1 + m := ⟨(1 + m).toNat, by omega⟩
            obtain ⟨L, hL⟩ : ∃ L : Nat, ((l : Int) - (1 + m - 1)) = L := ⟨(l - m).toNat, by omega⟩
            go_wp2_with fail
            go_loopw [4, 5, 9] (fun v ok kk wr2 => ∃ (j : Nat) (ys : List O), kk = .int .i64 j ∧ j ≤ M ∧ ok = .bool true ∧ Hid (Two wr2 w.heap.size w.heap.size v ys) ∧ Hid (Below w.heap.size w wr2)) (fun _ _ kk _ => M - (intOf kk).toNat)
            case atStart => exact ⟨0, xs, rfl, by omega, rfl, T, BW⟩
            case round =>
              obtain ⟨j, ys, hu9, hj, hu5, T2, BW2⟩ := hrel
              subst hu9 hu5
              by_cases hjm : j < M
              · have ijm : (j : Int) < 1 + m := by omega
                have hat := HAT.out _ BW2.out
                obtain ⟨a1, a2, a3, a4, a5⟩ := hat
                have HD := hid (does_any w.heap.size w.heap.size _ ys ax m ak av as0 _ T2.out OX.out OS.out)
                go_wp2_with fail
                refine HD.out.mono ?_
                rintro e w3 ⟨u, ys', rfl, T3, b3⟩
                have T3 := hid T3
                have B3 : Hid (Below w.heap.size w w3) := BW2.out.trans b3
                clear b3 a1 a2 a3 a4 a5
                go_wp2_with fail
                go_roundw
                case rel => exact ⟨j + 1, ys', by go_num, by omega, rfl, T3, B3⟩
                case measure => simp [intOf]; omega
              · have ijm : ¬ (j : Int) < 1 + m := by omega
                go_wp2_with fail
                go_roundw
                case rel => exact ⟨k + 1, L, ys, by go_num, by omega, by first | rfl | rw [hL], by omega, rfl, T2, BW2⟩
                case measure => simp [intOf]; omega
          · obtain ⟨M, hM⟩ : ∃ M : Nat, (M : Int) = 1 + (l : Int) := ⟨1 + l, by omega⟩
            obtain ⟨L, hL⟩ : ∃ L : Nat, ((l : Int) - (1 + (l : Int) - 1)) = L := ⟨0, by omega⟩
            go_wp2_with fail
            go_loopw [4, 5, 9] (fun v ok kk wr2 => ∃ (j : Nat) (ys : List O), kk = .int .i64 j ∧ j ≤ M ∧ ok = .bool true ∧ Hid (Two wr2 w.heap.size w.heap.size v ys) ∧ Hid (Below w.heap.size w wr2)) (fun _ _ kk _ => M - (intOf kk).toNat)
            case atStart => exact ⟨0, xs, rfl, by omega, rfl, T, BW⟩
            case round =>
              obtain ⟨j, ys, hu9, hj, hu5, T2, BW2⟩ := hrel
              subst hu9 hu5
              by_cases hjm : j < M
              · have ijm : (j : Int) < 1 + (l : Int) := by omega
                have hat := HAT.out _ BW2.out
                obtain ⟨a1, a2, a3, a4, a5⟩ := hat
                have HD := hid (does_any w.heap.size w.heap.size _ ys ax m ak av as0 _ T2.out OX.out OS.out)
                go_wp2_with fail
                refine HD.out.mono ?_
                rintro e w3 ⟨u, ys', rfl, T3, b3⟩
                have T3 := hid T3
                have B3 : Hid (Below w.heap.size w w3) := BW2.out.trans b3
                clear b3 a1 a2 a3 a4 a5
                go_wp2_with fail
                go_roundw
                case rel => exact ⟨j + 1, ys', by go_num, by omega, rfl, T3, B3⟩
                case measure => simp [intOf]; omega
              · have ijm : ¬ (j : Int) < 1 + (l : Int) := by omega
                go_wp2_with fail
                go_roundw
                case rel => exact ⟨k + 1, L, ys, by go_num, by omega, by first | rfl | rw [hL], by omega, rfl, T2, BW2⟩
                case measure => simp [intOf]; omega
        · obtain ⟨M, hM⟩ : ∃ M : Nat, (M : Int) = 1 := ⟨1, rfl⟩
          obtain ⟨L, hL⟩ : ∃ L : Nat, (l : Int) = L := ⟨l, rfl⟩
          go_wp2_with fail
          go_loopw [4, 5, 9] (fun v ok kk wr2 => ∃ (j : Nat) (ys : List O), kk = .int .i64 j ∧ j ≤ M ∧ ok = .bool true ∧ Hid (Two wr2 w.heap.size w.heap.size v ys) ∧ Hid (Below w.heap.size w wr2)) (fun _ _ kk _ => M - (intOf kk).toNat)
          case atStart => exact ⟨0, xs, rfl, by omega, rfl, T, BW⟩
          case round =>
            obtain ⟨j, ys, hu9, hj, hu5, T2, BW2⟩ := hrel
            subst hu9 hu5
            by_cases hjm : j < M
            · have ijm : (j : Int) < 1 := by omega
              have hat := HAT.out _ BW2.out
              obtain ⟨a1, a2, a3, a4, a5⟩ := hat
              have HD := hid (does_any w.heap.size w.heap.size _ ys ax m ak av as0 _ T2.out OX.out OS.out)
              go_wp2_with fail
              refine HD.out.mono ?_
              rintro e w3 ⟨u, ys', rfl, T3, b3⟩
              have T3 := hid T3
              have B3 : Hid (Below w.heap.size w w3) := BW2.out.trans b3
              clear b3 a1 a2 a3 a4 a5
              go_wp2_with fail
              go_roundw
              case rel => exact ⟨j + 1, ys', by go_num, by omega, rfl, T3, B3⟩
              case measure => simp [intOf]; omega
            · have ijm : ¬ (j : Int) < 1 := by omega
              go_wp2_with fail
              go_roundw
              case rel => exact ⟨k + 1, L, ys, by go_num, by omega, by first | rfl | rw [hL], by omega, rfl, T2, BW2⟩
              case measure => simp [intOf]; omega
    · have ilt : ¬ (k : Int) < (len : Int) := by omega
      obtain ⟨a4, c4, hv4, O4⟩ := T.out.ops
      subst hv4
      have hf := T.out.2.2.1
      have hlx : xs.length ≤ 4096 := hf.2.1
      have HB := hid (bytes_any w.heap.size 1 xs w.heap.size _ wr T.out.1 hf (by omega))
      have HR0 : Hid (∀ W, Below wr.heap.size wr W → Calls Try.prog 14 #[.int .u64 1, .slice a4 xs.length c4] W fun e w' => ∃ v, e = .returned (.tuple #[v, .int .i64 (encR 1 xs).1]) ∧ Res w' W.heap.size v (encR 1 xs).2 ∧ Below W.heap.size W w') := fun W bW => by
        obtain ⟨a4', c4', hv4', O4'⟩ := (T.out.later bW).ops
        cases hv4'
        exact rencode_res 1 a4 xs.length c4 xs W O4' (by omega) (by omega)
      have HBy := hid (Jo.encR_bytes 1 xs)
      clear T O4 hf hlx HH
      generalize encR 1 xs = r at *
      obtain ⟨E, Z⟩ := r
      go_wp2_with fail
      refine HB.out.mono ?_
      rintro e w5 ⟨v5, rfl, R5, b5⟩
      have HR := hid (HR0.out w5 b5)
      have BW5 : Hid (Below w.heap.size w w5) := BW.out.trans (b5.mono BW.out.size)
      have R5 := hid R5
      clear HR0 b5 HB
      go_wp2_with fail
      refine HR.out.mono ?_
      rintro e w6 ⟨v6, rfl, R6, b6⟩
      have BW6 : Hid (Below w.heap.size w w6) := BW5.out.trans (b6.mono BW5.out.size)
      obtain ⟨n5, hn5⟩ : ∃ n5, n5 = wr.heap.size := ⟨_, rfl⟩
      obtain ⟨n6, hn6⟩ : ∃ n6, n6 = w5.heap.size := ⟨_, rfl⟩
      rw [← hn6] at R6
      rw [← hn5] at R5
      have R56 := hid (R5.out.later b6)
      have R6 := hid R6
      clear b6 HR BW5 BW R5 hn5 hn6
      obtain ⟨W0, hW0⟩ : ∃ W0, W0 = (w6.alloc (.cells #[.bool false, .slice none 0 0, .int .i64 0] 40)).alloc (.cells #[.pointer none, .pointer (some ⟨w6.heap.size, 0, none⟩)] 23) := ⟨_, rfl⟩
      have E0 : Hid (Ev w.heap.size w W0 w6.heap.size (w6.heap.size + 1) n5 n6 v5 v6 Z) := by
        have b1 := box_below w6 (.cells #[.bool false, .slice none 0 0, .int .i64 0] 40)
        have b2 := box_below (w6.alloc (.cells #[.bool false, .slice none 0 0, .int .i64 0] 40)) (.cells #[.pointer none, .pointer (some ⟨w6.heap.size, 0, none⟩)] 23)
        have b12 := b1.trans (b2.mono b1.size)
        have s1 : (w6.alloc (.cells #[.bool false, .slice none 0 0, .int .i64 0] 40)).heap.size = w6.heap.size + 1 := by show (w6.heap.push _).size = _; simp
        have h1 : (w6.alloc (.cells #[.bool false, .slice none 0 0, .int .i64 0] 40)).heap[w6.heap.size]? = some (.cells #[.bool false, .slice none 0 0, .int .i64 0] 40 (0, 0)) := heap_alloc_new _ _
        have h2 : W0.heap[w6.heap.size + 1]? = some (.cells #[.pointer none, .pointer (some ⟨w6.heap.size, 0, none⟩)] 23 (0, 0)) := by rw [hW0, ← s1]; exact heap_alloc_new _ _
        rw [← hW0] at b12 b2
        refine ⟨?_, cell_of_row W0 _ 0 _ 23 (0, 0) h2, cell_of_row W0 _ 1 _ 23 (0, 0) h2, BW6.out.trans (b12.mono BW6.out.size), Nat.le_refl _, R56.out.later b12, R6.out.later b12⟩
        intro g hg
        simp at hg
        subst hg
        exact ⟨by have := b2.size; rw [s1] at this; show w6.heap.size < _; omega, rfl, (b2.block _ (by rw [s1]; show w6.heap.size < _; omega)).trans h1⟩
      have HW := hid hW0
      obtain ⟨g1, hg1⟩ : ∃ g1, g1 = w6.heap.size := ⟨_, rfl⟩
      obtain ⟨g2, hg2⟩ : ∃ g2, g2 = w6.heap.size + 1 := ⟨_, rfl⟩
      rw [← hg2, ← hg1] at E0
      have H2 := hid hg2
      clear hW0 BW6 R56 R6 hg1 hg2
      go_wp2_with fail
      rw [← HW.out, ← H2.out]
      clear HW H2
      go_loopw [92] (fun i wr => ∃ k : Nat, i = .int .i64 k ∧ k ≤ 2 ∧ Hid (Ev w.heap.size w wr g1 g2 n5 n6 v5 v6 Z)) (fun i _ => 2 - (intOf i).toNat)
      case atStart => exact ⟨0, rfl, by omega, E0⟩
      case round =>
        obtain ⟨q, hu, hq, EE⟩ := hrel
        subst hu
        by_cases hlt2 : q < 2
        · have iq : (q : Int) < 2 := by omega
          obtain ⟨p, hp, hN⟩ : ∃ p, wr.cell? ⟨g2, q, none⟩ = some (.pointer p) ∧ Hid (Non wr p) := by
            have : q = 0 ∨ q = 1 := by omega
            rcases this with rfl | rfl
            · exact ⟨none, EE.out.c0, fun g h => nomatch h⟩
            · exact ⟨_, EE.out.c1, EE.out.non⟩
          go_wp2_with fail
          refine (clear_non p _ hN.out).mono ?_
          rintro e w7 ⟨rfl, rfl⟩
          go_wp2_with fail
          refine (bytes_non p 1 _ hN.out).mono ?_
          rintro e w7 ⟨rfl, rfl⟩
          go_wp2_with fail
          refine (put_non p _ _ _ hN.out).mono ?_
          rintro e w8 ⟨rfl, b8⟩
          have E8 := hid (EE.out.later b8)
          have N8 := hid (hN.out.later b8)
          clear b8 hN EE hp
          go_wp2_with fail
          refine (delete_non p _ _ N8.out).mono ?_
          rintro e w9 ⟨rfl, b9⟩
          have E9 := hid (E8.out.later b9)
          have N9 := hid (N8.out.later b9)
          clear b9 N8 E8
          go_wp2_with fail
          refine (range_non p _ _ _ N9.out).mono ?_
          rintro e w10 ⟨rfl, b10⟩
          have E10 := hid (E9.out.later b10)
          have N10 := hid (N9.out.later b10)
          clear b10 N9 E9
          go_wp2_with fail
          refine (len_non p _ N10.out).mono ?_
          rintro e w11 ⟨rfl, rfl⟩
          go_wp2_with fail
          refine (size_non p _ N10.out).mono ?_
          rintro e w11 ⟨rfl, rfl⟩
          go_wp2_with fail
          go_roundw
          case rel => exact ⟨q + 1, by go_num, by omega, E10⟩
          case measure => simp [intOf]; omega
        · have hq2 : q = 2 := by omega
          subst hq2
          have BE := hid EE.out.below
          obtain ⟨a5, c5, hv5, C5, _, _⟩ := res_open EE.out.r5 HBy.out
          obtain ⟨a6, c6, hv6, C6, _, _⟩ := res_open EE.out.r6 HBy.out
          subst hv5 hv6
          clear EE E0
          generalize Z.length = NN at *
          generalize str Z = SZ at *
          go_wp2_with fail
          go_ret
          exact ⟨rfl, BE.out⟩
theorem own : ownKnob Try.prog.godebug = none := by kernel_rfl
theorem laidOut : laidOutB Try.prog = true := by kernel_rfl
theorem u64_bd {v : Int} (h : (Lit.int .u64 v).wf = true) : 0 ≤ v ∧ v ≤ 18446744073709551615 := by
  simpa [Lit.wf, IntKind.min, IntKind.max, IntKind.signed, IntKind.bits] using h
theorem i64_bd {v : Int} (h : (Lit.int .i64 v).wf = true) : -9223372036854775808 ≤ v ∧ v ≤ 9223372036854775807 := by
  simpa [Lit.wf, IntKind.min, IntKind.max, IntKind.signed, IntKind.bits] using h

/-! ### The row's step -/
set_option maxRecDepth 100000 in
theorem lifted (os : Os) (started : os.Started) (H : Type) (enc : TypeId × Value → H) :
    ReturnsInHanded {} Try.checked os 3 .any (Rows.batchBuildsSpec.pre6 enc Try.prog Try.f3 Rows.batchBuildsRow.domain false) (Rows.batchBuildsSpec.post enc Try.prog Try.f3 false true false false) := by
  refine returnsInHanded_of_change_sized (C := Try.checked) own started (by kernel_rfl) Try.func3
    (ChangeSpec.witness6 (enc := enc) (C := Try.checked) false ⟨#[], #[.slice none 0 0], []⟩ 8 (by kernel_rfl) (by kernel_rfl) (by kernel_rfl) (by kernel_rfl)) ?_
  intro W base args ds gs before hval0 hW hcnd hsz0 _
  have hval : ∀ (j : Nat) t v, Try.f3.params[j]? = some t → args[j]? = some v → Value.okWide Try.prog W .any base t v := hval0
  have hsz : (DataW.weightsEach Try.prog (Try.f3.params.toList ++ Rows.batchBuildsSpec.plain.varTypes Try.prog) (ds ++ gs)).all (· ≤ reachBytes) = true := hsz0
  have hW' := hW
  obtain ⟨p, q, hA0, hV, rfl, hfz, hnd⟩ := hW
  have hA : DataW.TrodAll enc Try.prog W 0 (fun _ => true) true Try.f3.params.toList args.toList ds p := hA0
  rw [Try.params3] at hA hval hsz
  obtain ⟨v0, vs0, d0, ds0, p0, q0, hargs, rfl, rfl, h0, r0⟩ := trodAll_cons hA
  obtain ⟨rfl, rfl, rfl⟩ := trodAll_nil r0
  obtain rfl : args = #[v0] := by cases args; simp_all
  obtain ⟨rfl, rfl⟩ := trodVars_none hV
  obtain ⟨a0, len0, cap0, rfl⟩ := okWide_slice Try.underlying22 (hval 0 22 v0 rfl rfl)
  have k0 := h0
  have lt0 : ∀ x ∈ p0, x.block < W.heap.size := by obtain ⟨m, hm⟩ := k0; exact DataW.trod_lt m _ _ _ hm
  obtain ⟨z0, w0, c0⟩ : ∃ zs, Ac.Acts W a0 len0 cap0 zs ∧ len0 ≤ 140737488351232 := by
    obtain ⟨fuel, hf⟩ := h0
    obtain ⟨⟨zs, hz⟩, hd⟩ := Ac.open_acts (by simpa [Value.cells] using hf)
    refine ⟨zs, hz, ?_⟩
    rcases hd with ⟨rfl, rfl⟩ | ⟨l, r, hd, hll⟩
    · omega
    · have sz := sized_slice hsz (j := 0) (t := 22) (e := 30) rfl (by first | (rw [show d0 = _ from hd]; rfl) | (simp only [List.cons_append, List.getElem?_cons_succ, List.getElem?_cons_zero]; rw [show d0 = _ from hd])) Try.underlying22
      rw [show Try.prog.bytesOf 30 = 56 from by kernel_rfl] at sz
      simp only [reachBytes] at sz
      omega
  clear hA0 hval0
  refine (law a0 len0 cap0 z0 W w0 c0).mono fun e W' ⟨he, bel⟩ => ?_
  subst he
  exact ⟨_, rfl, _, _, _, [], _, [], hW', trodAll_mk1 (shut_bool Try.underlying4 _), (trodAll_cons_mk (Below.trod laidOut (by kernel_rfl) (of_decide_eq_true (by kernel_rfl)) k0 bel lt0) trodAll_mk0), rfl, bel.frame _, fun h => by cases h⟩

theorem over : Rows.batchBuildsRow.holds Try.pinned (OpenSpec.ofChange Rows.batchBuildsSpec) :=
  OpenClaim.holds_of_wide 3 Try.f3 rfl rfl rfl rfl rfl rfl rfl ⟨rfl, rfl, rfl, rfl, rfl⟩ rfl rfl rfl rfl rfl (by kernel_rfl) Try.func3 (by kernel_rfl)
    (of_decide_eq_true (by kernel_rfl)) (by unfold Func.isWrapper; first | (rw [if_pos (by decide +kernel)]; kernel_rfl) | (rw [if_neg (by decide +kernel)]; exact ⟨rfl, rfl⟩))
    (fun os started H enc _ => lifted os started H enc)
end Go.Proofs.Ytmceanfgcehfeab.batchBuilds
namespace Go.Proofs.Ytmceanfgcehfeab
theorem batchBuilds_holds : Rows.BatchBuildsSaid := batchBuilds.over
#print axioms batchBuilds_holds
end Go.Proofs.Ytmceanfgcehfeab

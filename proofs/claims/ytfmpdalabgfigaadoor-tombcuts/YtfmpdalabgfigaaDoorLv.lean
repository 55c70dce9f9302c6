/- TombCovers, walked. -/
import Derived.Test.YtfmpdalabgfigaaDoorLn
import Derived.Test.YtfmpdalabgfigaaDoorRi
import Derived.Test.YtfmpdalabgfigaaDoorCv
namespace Go.Proofs.YtfmpdalabgfigaaDoor.Lv
open Go.ChangeShapes Go.WideShapes Go.ChangeAt Go.RowKit Go.Shelf
open Go.Proofs.YtfmpdalabgfigaaDoor.Lx
open Go.Proofs.YtfmpdalabgfigaaDoor.Tm
open Go.Proofs.YtfmpdalabgfigaaDoor.Mm
open Go.Proofs.YtfmpdalabgfigaaDoor.Rw
open Go.Proofs.YtfmpdalabgfigaaDoor.Cv
open Go.Proofs.YtfmpdalabgfigaaDoor.Rf
open Go.Proofs.YtfmpdalabgfigaaDoor.Sp
open Go.Proofs.YtfmpdalabgfigaaDoor.Ri
open Go.Proofs.YtfmpdalabgfigaaDoor.Ln
set_option linter.unusedVariables false
set_option linter.unusedSimpArgs false

theorem Mk.later {w w' : World} (h : Mk w) (b : Below w.heap.size w w') : Mk w' := At3.later h b
theorem belowN {B : Nat} {a w : World} (h : Below B a w) (n : Nat) : Below B a (w.drewN n) := ⟨h.os, h.tape, h.output, h.size, h.block⟩
set_option maxRecDepth 100000 in
set_option maxHeartbeats 4000000 in
theorem covers_law (a : Option Addr) (len cap : Nat) (xs : List T) (k : ByteArray) (q : Int) (w : World) (M : Mk w) (H : Tbs w a len cap xs) (hlen : (len + 1) * 40 ≤ 140737488355328) :
    Calls Tryd.prog 4 #[.slice a len cap, .string k, .int .u64 q] w fun e w' => e = .returned (.bool true) ∧ Below w.heap.size w w' := by
  have HLn := hid (lent_any a len cap xs w M H hlen)
  obtain ⟨G, F, hR⟩ : ∃ G F, cov xs k q = (G, F) := ⟨_, _, rfl⟩
  obtain ⟨L, N, F2, hR2⟩ : ∃ L N F, spn xs = (L, N, F) := ⟨_, _, _, rfl⟩
  have HCv : Hid (∀ W a c, Tbs W a len c xs → Calls Tryd.prog 14 #[.slice a len c, .string k, .int .u64 q] W fun e w' => e = .returned (.tuple #[.int .u64 G, .bool F]) ∧ Below W.heap.size W w') := fun W a c h => by
    have := cover_any a len c xs k q W h (by omega)
    rw [hR] at this; exact this
  have HRC : Hid (∀ W a c, Tbs W a len c xs → Calls Tryd.prog 15 #[.slice a len c, .string k, .int .u64 q] W fun e w' => e = .returned (.tuple #[.int .u64 G, .bool F]) ∧ Below W.heap.size W w') := fun W a c h => by
    have := rcover_any a len c xs k q W h (by omega)
    rw [hR] at this; exact this
  have HSp : Hid (∀ W a c, Tbs W a len c xs → Calls Tryd.prog 16 #[.slice a len c] W fun e w' => e = .returned (.tuple #[.string L, .string N, .bool F2]) ∧ Below W.heap.size W w') := fun W a c h => by
    have := span_any a len c xs W h (by omega)
    rw [hR2] at this; exact this
  have HRS : Hid (∀ W a c, Tbs W a len c xs → Calls Tryd.prog 17 #[.slice a len c] W fun e w' => e = .returned (.tuple #[.string L, .string N, .bool F2]) ∧ Below W.heap.size W w') := fun W a c h => by
    have := rspan_any a len c xs W h (by omega)
    rw [hR2] at this; exact this
  clear hR hR2
  have t1 : (G != G) = false := bne_self_eq_false _
  have t2 : (F != F) = false := bne_self_eq_false _
  have t3 : (F2 == F2) = true := beq_self_eq_true _
  replace M := hid M
  replace H := hid H
  go_enter Tryd.func4, Tryd.ntmps4
  go_wp2_with fail
  refine HLn.out.mono ?_
  rintro e w1 ⟨g, c, rfl, R1, b1⟩
  have T1 := marked_tbs R1 H.out.1 H.out.2.2.2.1
  have H1 := H.out.later b1
  have M1 := M.out.later b1
  replace R1 := hid R1
  replace b1 := hid b1
  replace T1 := hid T1
  replace H1 := hid H1
  replace M1 := hid M1
  go_wp2_with fail
  refine (HCv.out _ _ _ T1.out).mono ?_
  rintro e w2 ⟨rfl, b2⟩
  have T2 := hid (T1.out.later b2)
  have H2 := hid (H1.out.later b2)
  replace b2 := hid b2
  go_wp2_with fail
  refine (HRC.out _ _ _ H2.out).mono ?_
  rintro e w3 ⟨rfl, b3⟩
  have T3 := hid (T2.out.later b3)
  have H3 := hid (H2.out.later b3)
  replace b3 := hid b3
  go_wp2_with fail
  refine (HSp.out _ _ _ T3.out).mono ?_
  rintro e w4 ⟨rfl, b4⟩
  have H4 := hid (H3.out.later b4)
  replace b4 := hid b4
  go_wp2_with fail
  refine (HRS.out _ _ _ H4.out).mono ?_
  rintro e w5 ⟨rfl, b5⟩
  have H5 := hid (H4.out.later b5)
  have b15 : Hid (Below w1.heap.size w1 w5) := ((b2.out.trans (b3.out.mono b2.out.size)).trans (b4.out.mono (b2.out.trans (b3.out.mono b2.out.size)).size)).trans (b5.mono ((b2.out.trans (b3.out.mono b2.out.size)).trans (b4.out.mono (b2.out.trans (b3.out.mono b2.out.size)).size)).size)
  have R5 := hid (R1.out.later b15.out)
  have M5 := hid (M1.out.later b15.out)
  have B5 := hid (b1.out.trans (b15.out.mono b1.out.size))
  replace b5 := hid b5
  go_wp2_with fail
  refine (kept_any _ _ _ _ _ _ _ _ M5 R5.out H5.out (by omega)).mono ?_
  rintro e w6 ⟨rfl, n6, rfl⟩
  go_wp2_with fail
  refine (names_any _).mono ?_
  rintro e w7 ⟨rfl, rfl⟩
  go_wp2_with fail
  go_ret
  exact ⟨rfl, belowN B5.out n6⟩
end Go.Proofs.YtfmpdalabgfigaaDoor.Lv

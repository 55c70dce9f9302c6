/- The document's Entries by its contract. -/
import Derived.Test.YtgjodfaliajlgaaMr9
namespace Go.Proofs.Ytgjodfaliajlgaa.Me
open Go.ChangeShapes Go.WideShapes Go.ChangeAt Go.RowKit
open Go.Proofs.Ytgjodfaliajlgaa.Gr hiding hid addr_add
open Go.Proofs.Ytgjodfaliajlgaa.Ac
open Go.Proofs.Ytgjodfaliajlgaa.Ik
open Go.Proofs.Ytgjodfaliajlgaa.Ee
open Go.Proofs.Ytgjodfaliajlgaa.Sd hiding below_grown
open Go.Proofs.Ytgjodfaliajlgaa.Rsd
open Go.Proofs.Ytgjodfaliajlgaa.Ml
open Go.Proofs.Ytgjodfaliajlgaa.Mi
open Go.Proofs.Ytgjodfaliajlgaa.Mr9
set_option linter.unusedVariables false
set_option linter.unusedSimpArgs false

set_option maxHeartbeats 1000000 in
theorem entries_any' (a : Option Addr) (n c : Nat) (xs : List It) (w : World) (H : eI.Sl w a n c xs) (hn8 : n ≤ 1048576) :
    Calls Try.prog 24 #[.slice a n c] w fun e w' => ∃ v, e = .returned v ∧ Acc eE w w' v (xs.map It.e) := by
  have hlen : Hid (xs.length = n) := H.n
  have hnc := H.c
  have HL : Hid (∀ W, Below w.heap.size w W → eI.Sl W a n c xs) := fun W b => H.later b
  clear H
  go_enter Try.func24, Try.ntmps24
  go_wp2_with fail
  go_loopw [3, 4] (fun vo iv wr => ∃ (i : Nat) (oa : Option Addr) (co : Nat), iv = .int .i64 (i : Int) ∧ i ≤ n ∧ vo = .slice oa i co ∧ Hid (Acc eE w wr (.slice oa i co) ((xs.take i).map It.e))) (fun _ iv _ => n - (intOf iv).toNat)
  case atStart => exact ⟨0, none, 0, rfl, Nat.zero_le _, rfl, Acc.nil eE w⟩
  case round =>
    obtain ⟨i, oa, co, rfl, hi, rfl, AO⟩ := hrel
    have hlo : Hid (((xs.take i).map It.e).length = i) := acc_len AO.out
    by_cases hlt : i < n
    · obtain ⟨b, o, ha, hx⟩ := sl_at (HL.out wr AO.out.lo) i hlt
      subst ha
      have hx := it_at hx
      rw [show eI.k = 5 from rfl, show eI.z = zi from rfl] at hx
      have hsn : Hid ((xs.take i).map It.e ++ [(xs.getD i zi).e] = (xs.take (i + 1)).map It.e) := by
        show _ = _
        rw [show xs.take (i + 1) = xs.take i ++ [xs.getD i zi] from eI.take_snoc (xs := xs) (by rw [hlen.out]; exact hlt)]
        simp
      obtain ⟨⟨⟨xk, xs_, xc, xv⟩, xf⟩, hxe⟩ : ∃ x, x = xs.getD i zi := ⟨_, rfl⟩
      rw [← hxe] at hx hsn
      replace hxe := hid hxe
      obtain ⟨x0, x1, x2, x3, x4⟩ := hx
      dsimp only at x0 x1 x2 x3 x4 hsn
      have m0 : (i : Int) < (n : Int) := by omega
      have m1 : (0 : Int) ≤ (i : Int) := by omega
      obtain ⟨v', W', r1, A'⟩ := AO.out.app1 (⟨xk, xs_, xc, xv⟩ : E) #[.string xk, .int .u64 xs_, .int .i64 xc, .string xv] rfl (by rw [hlo.out]; show (_ + 1) * 48 ≤ _; omega) (by rw [hlo.out]; omega)
      rw [hsn.out] at A'
      obtain ⟨a3, c3, hv3⟩ := A'.shape
      have hl3 : ((xs.take (i + 1)).map It.e).length = i + 1 := by rw [← hsn.out, List.length_append, hlo.out]; rfl
      rw [hl3] at hv3
      subst hv3
      change (Builtin.append_ #[39, 39] 39 #[_, _]).run Try.prog (wr.alloc (.cells #[.string xk, .int .u64 xs_, .int .i64 xc, .string xv] 43)) = _ at r1
      replace r1 := hid r1
      replace A' := hid A'
      replace hl3 := hid hl3
      clear AO hsn
      go_wp2_with (first | (at_builtin; refine wpList_append_run rfl (.tmp 11) (.tmp 17) 39 39 rfl (.slice oa i co) (.slice (some ⟨wr.heap.size, 0, none⟩) 1 1) (.slice a3 (i + 1) c3) rfl rfl r1.out ?_))
      go_roundw
      case rel => exact ⟨i + 1, a3, c3, by first | rfl | go_num, by omega, rfl, A'⟩
      case measure => simp [intOf]; omega
    · have hie : i = n := by omega
      subst hie
      have hfin : Hid (Acc eE w wr (.slice oa i co) (xs.map It.e)) := by
        have := AO.out
        rw [← hlen.out, List.take_length] at this
        rw [← hlen.out]
        exact this
      go_wp2_with fail
      go_ret
      exact ⟨.slice oa i co, rfl, hfin.out⟩
end Go.Proofs.Ytgjodfaliajlgaa.Me

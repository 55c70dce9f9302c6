/- Any bytes, asked for any key; how full they are: the law walked. -/
import Derived.Test.YtempagacpfejdaaRa
import Derived.Test.YtempagacpfejdaaLn
namespace Go.Proofs.Ytempagacpfejdaa.La
open Go.ChangeShapes Go.WideShapes Go.ChangeAt Go.RowKit Go.Shelf
open Go.Proofs.Ytempagacpfejdaa.Wd
open Go.Proofs.Ytempagacpfejdaa.Pr
open Go.Proofs.Ytempagacpfejdaa.Rq
open Go.Proofs.Ytempagacpfejdaa.Fl
open Go.Proofs.Ytempagacpfejdaa.By
open Go.Proofs.Ytempagacpfejdaa.My
open Go.Proofs.Ytempagacpfejdaa.Fu
open Go.Proofs.Ytempagacpfejdaa.Ra
open Go.Proofs.Ytempagacpfejdaa.Ln
set_option linter.unusedVariables false
set_option linter.unusedSimpArgs false

/-- How full bytes are: both tell the same. -/
theorem fulls (f : List B8) (len : Nat) (hl : f.length = len) (hlen : len ≤ 140737488355328) : ∃ A B C : Int,
    (∀ a cap w, Bts w a len cap f → Calls Try.prog 17 #[.slice a len cap] w fun e w' => e = .returned (.tuple #[.int .i64 A, .int .i64 B, .int .i64 C]) ∧ w' = w) ∧
    (∀ a cap w, Bts w a len cap f → Calls Try.prog 18 #[.slice a len cap] w fun e w' => e = .returned (.tuple #[.int .i64 A, .int .i64 B, .int .i64 C]) ∧ w' = w) := by
  by_cases hF : isF f
  · exact ⟨_, _, _, fun a cap w H => full_yes a len cap f w H hF hlen, fun a cap w H => rfull_yes a len cap f w H hF hlen⟩
  · exact ⟨_, _, _, fun a cap w H => full_no a len cap f w H hF hlen, fun a cap w H => rfull_no a len cap f w H hF hlen⟩
set_option maxRecDepth 100000 in
set_option maxHeartbeats 400000 in
theorem asks_any (a : Option Addr) (len cap : Nat) (zs : List Int) (s : ByteArray) (w : World) (H : Bytes w a len cap zs) (hcap : cap ≤ 140737488351232) (hs0 : s.size ≤ 9223372036854775807) :
    Calls Try.prog 6 #[.slice a len cap, .string s] w fun e w' => e = .returned (.bool true) ∧ Below w.heap.size w w' := by
  have hlc := H.2.1
  have hzb := H.2.2.2.1
  have hzf := map_bi zs hzb
  obtain ⟨f, hf⟩ : ∃ f, f = zs.map (BitVec.ofInt 8) := ⟨_, rfl⟩
  rw [← hf] at hzf
  have hfl : f.length = len := by rw [hf, List.length_map]; exact H.1
  have hlen : len ≤ 140737488355328 := by omega
  obtain ⟨A, B, C, HF, HG⟩ := fulls f len hfl hlen
  have hS := hid (fun W h => by have := bytes_kept H h; rw [hzf] at this; exact this : ∀ W, Below w.heap.size w W → Bts W a len cap f)
  have hSz := hid (fun W h => bytes_kept H h : ∀ W, Below w.heap.size w W → Bytes W a len cap zs)
  have HL := hid (lent_any a len cap zs w H (by omega))
  replace hzf := hid hzf
  replace hf := hid hf
  replace HF := hid HF
  replace HG := hid HG
  replace hzb := hid hzb
  clear H
  go_enter Try.func6, Try.ntmps6
  go_wp2_with fail
  refine HL.out.mono ?_
  rintro e w1 ⟨g, c, rfl, hR, hb1⟩
  have hIn := hid (by have := lent_bytes hR hzb.out; rw [hzf.out] at this; exact this : Bts w1 (some ⟨g, 0, none⟩) len c f)
  replace hR := hid hR
  replace hb1 := hid hb1
  go_wp2_with fail
  refine (HF.out _ _ _ hIn.out).mono ?_
  rintro e w2 ⟨rfl, rfl⟩
  go_wp2_with fail
  refine (HG.out _ _ _ (hS.out _ hb1.out)).mono ?_
  rintro e w3 ⟨rfl, rfl⟩
  go_wp2_with fail
  refine (names_any _).mono ?_
  rintro e w4 ⟨rfl, rfl⟩
  go_wp2_with fail
  refine (may_any _ _ _ f s w4 hIn.out hlen hs0).mono ?_
  rintro e w5 ⟨rfl, hb5⟩
  have b5 := hid (hb1.out.trans (hb5.mono hb1.out.size))
  replace hb5 := hid hb5
  go_wp2_with fail
  refine (rmay_any _ _ _ f s w5 (hS.out _ b5.out) hlen hs0).mono ?_
  rintro e w6 ⟨rfl, hb6⟩
  have b6 := hid (b5.out.trans (hb6.mono b5.out.size))
  have b46 := hid (hb5.out.trans (hb6.mono hb5.out.size))
  have HK := hid (kept_any w.heap.size g c a len cap zs w6 (row_later hR.out b46.out) (hSz.out w6 b6.out) (by omega))
  replace hb6 := hid hb6
  generalize mayf f s = m
  go_wp2_with fail
  refine HK.out.mono ?_
  rintro e w7 ⟨rfl, rfl⟩
  go_wp2_with fail
  go_ret
  exact ⟨by first | rfl | simp, b6.out⟩
end Go.Proofs.Ytempagacpfejdaa.La

/- The plain part of BatchWays: what a Builder answers for a beginning of operations that Encode takes; what going through the bytes tells. -/
import Derived.Test.YtmceanfgcehfeabIv
import Derived.Test.YtmceanfgcehfeabQi
import Derived.Test.YtmceanfgcehfeabPu
import Derived.Test.YtmceanfgcehfeabBv
namespace Go.Proofs.Ytmceanfgcehfeab.Wz
open Go.Proofs.Ytmceanfgcehfeab
open Go.Proofs.Ytmceanfgcehfeab.Ob
open Go.Proofs.Ytmceanfgcehfeab.Hd
open Go.Proofs.Ytmceanfgcehfeab.It
open Go.Proofs.Ytmceanfgcehfeab.Pu
open Go.Proofs.Ytmceanfgcehfeab.Bu
open Go.Proofs.Ytmceanfgcehfeab.En
open Go.Proofs.Ytmceanfgcehfeab.By
open Go.Proofs.Ytmceanfgcehfeab.Rp
open Go.Proofs.Ytmceanfgcehfeab.De (wlk_may wlk_len)
theorem osum_le (xs : List O) (k : Nat) : osum (xs.take k) ≤ osum xs := by
  have h := osum_append (xs.take k) (xs.drop k)
  rw [List.take_append_drop] at h
  omega
/-- All that Encode takes fits, and so does every beginning. -/
theorem fits_of {s : Int} {xs : List O} (h : encE s xs = 0) (k : Nat) : Fits (xs.take k) := by
  obtain ⟨hc, _⟩ := encE_ok h
  obtain ⟨p1, p2, p3, _⟩ := chk_parts hc
  have h1 := osum_le xs k
  refine ⟨fun x hx => all_may xs p2 x (List.mem_of_mem_take hx), by rw [List.length_take]; omega, ?_⟩
  unfold bsz at p3 ⊢
  omega
theorem fits_all {s : Int} {xs : List O} (h : encE s xs = 0) : Fits xs := by
  have := fits_of h xs.length
  rwa [List.take_length] at this
/-- The next one is taken. -/
theorem bput_next {s : Int} {xs : List O} (h : encE s xs = 0) (k : Nat) (hk : k < xs.length) : bput (xs.take k) (xs.getD k zo) = (0, xs.take (k + 1)) := by
  obtain ⟨hc, _⟩ := encE_ok h
  obtain ⟨p1, p2, p3, _⟩ := chk_parts hc
  have e := osum_take xs k hk
  have h1 := osum_le xs (k + 1)
  have hm : may (xs.getD k zo) = true := by
    rw [List.getD_eq_getElem?_getD, List.getElem?_eq_getElem hk]
    exact all_may xs p2 _ (List.getElem_mem hk)
  unfold bput
  rw [if_pos hm, if_neg (by rw [List.length_take]; unfold bsz at p3 ⊢; omega)]
  rw [List.take_succ_eq_append_getElem hk, List.getD_eq_getElem?_getD, List.getElem?_eq_getElem hk]
  rfl
/-- What going through the bytes tells. -/
theorem items_enc {s : Int} {xs : List O} (hs : 0 ≤ s ∧ s ≤ 18446744073709551615) (h : encE s xs = 0) : items (enc s xs) = num s xs ∧ hseq (enc s xs) = s ∧ hcnt (enc s xs) = xs.length ∧ (enc s xs).length = bsz xs := by
  obtain ⟨hc, hf⟩ := encE_ok h
  obtain ⟨p1, p2, p3, p4⟩ := chk_parts hc
  obtain ⟨e1, e2⟩ := enc_head s xs hs p1
  have hl := enc_len s xs
  have hw : wlk (enc s xs) xs.length 12 = (xs, 12 + osum xs) := by
    have := wlk_back xs (lb 8 s ++ lb 4 xs.length) [] (all_may xs p2)
    have e : (lb 8 s ++ lb 4 (xs.length : Int)) ++ (obs xs ++ []) = enc s xs := by unfold enc; simp
    have el : (lb 8 s ++ lb 4 (xs.length : Int)).length = 12 := by simp [lb_len]
    rw [e, el] at this
    exact this
  refine ⟨?_, e1, e2, hl⟩
  unfold items
  rw [if_neg (by rw [hl]; unfold bsz; omega), e1, e2, hw]
/-- Every operation is of one of the three kinds. -/
theorem kind_of {s : Int} {xs : List O} (h : encE s xs = 0) (k : Nat) (hk : k < xs.length) : may (xs.getD k zo) = true := by
  obtain ⟨hc, _⟩ := encE_ok h
  obtain ⟨_, p2, _, _⟩ := chk_parts hc
  rw [List.getD_eq_getElem?_getD, List.getElem?_eq_getElem hk]
  exact all_may xs p2 _ (List.getElem_mem hk)
end Go.Proofs.Ytmceanfgcehfeab.Wz

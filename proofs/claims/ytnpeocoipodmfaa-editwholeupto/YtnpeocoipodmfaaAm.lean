/- The document's among and named. -/
import Derived.Test.YtnpeocoipodmfaaMg
namespace Go.Proofs.Ytnpeocoipodmfaa.Am
open Go.ChangeShapes Go.WideShapes Go.ChangeAt Go.RowKit
open Go.Proofs.Ytnpeocoipodmfaa.Gr
open Go.Proofs.Ytnpeocoipodmfaa.Ev
open Go.Proofs.Ytnpeocoipodmfaa.Ss
open Go.Proofs.Ytnpeocoipodmfaa.Le
set_option linter.unusedVariables false
set_option linter.unusedSimpArgs false

theorem mem_snoc {α : Type} {xs : List α} {E : El α} {k : Nat} (h : k < xs.length) (f : α → Pl) (p : Pl) (hn : p ∉ (xs.take k).map f) (hx : f (xs.getD k E.z) ≠ p) : p ∉ (xs.take (k + 1)).map f := by
  rw [El.take_snoc (E := E) h, List.map_append, List.mem_append]
  rintro (h1 | h1)
  · exact hn h1
  · simp at h1; exact hx h1.symm
set_option maxHeartbeats 2000000 in
theorem among_any (a : Option Addr) (n c : Nat) (xs : List Ad) (pl pn : Int) (w : World) (H : eAd.Sl w a n c xs) (hn : n ≤ 1099511627776) :
    Calls Try.prog 45 #[.slice a n c, .agg #[.int .i64 pl, .int .i64 pn]] w fun e w' => e = .returned (.bool (decide ((⟨pl, pn⟩ : Pl) ∈ xs.map Ad.pl))) ∧ Below w.heap.size w w' := by
  obtain ⟨B, hB⟩ : ∃ B, B = decide ((⟨pl, pn⟩ : Pl) ∈ xs.map Ad.pl) := ⟨_, rfl⟩
  rw [← hB]
  obtain ⟨g1, hg1⟩ : ∃ g, g = w.heap.size := ⟨_, rfl⟩
  obtain ⟨W, hW⟩ : ∃ W, W = w.alloc (.cells #[.int .i64 pl, .int .i64 pn] 57) := ⟨_, rfl⟩
  have kb : W.heap[g1]? = some (.cells #[.int .i64 pl, .int .i64 pn] 57) := by rw [hW, hg1]; exact new_at _ _
  have bW : Below w.heap.size w W := by rw [hW]; exact box_below _ _
  have q0 := cell_of kb 0 _ rfl
  have q1 := cell_of kb 1 _ rfl
  have HH := hid (H.later bW)
  replace hB := hid hB
  replace hW := hid hW
  replace hg1 := hid hg1
  replace bW := hid bW
  clear H kb
  go_enter Try.func45, Try.ntmps45
  go_wp2_with fail
  rw [← hW.out, ← hg1.out]
  go_loopw [5] (fun i wr => ∃ k : Nat, i = .int .i64 k ∧ k ≤ n ∧ (⟨pl, pn⟩ : Pl) ∉ (xs.take k).map Ad.pl ∧ ∃ q, wr = W.drewN q) (fun i _ => n - (intOf i).toNat)
  case atStart => exact ⟨0, rfl, by omega, by simp, 0, rfl⟩
  case round =>
    obtain ⟨k, rfl, hk, hm, q, rfl⟩ := hrel
    replace hm := hid hm
    by_cases hlt : k < n
    · cases a with
      | none => have := (HH.out.nil rfl).1; omega
      | some ad =>
        obtain ⟨p, off, sp⟩ := ad
        obtain ⟨rfl, hat⟩ := HH.out.cells p off sp rfl (by omega)
        have hat := ad_at (hat k hlt)
        have hlc := HH.out.c
        obtain ⟨y, hy⟩ : ∃ y, y = xs.getD k eAd.z := ⟨_, rfl⟩
        rw [← hy] at hat
        have hmem : y ∈ xs := by rw [hy]; exact El.get_mem (by rw [HH.out.n]; exact hlt)
        obtain ⟨el, en, ez, ea, eb, elo, ehi⟩ := y
        obtain ⟨e1, e2, -, -, -, -, -⟩ := hat
        simp only [show eAd.k = 7 from rfl] at e1 e2
        have ik0 : (k : Int) < (n : Int) := by omega
        have ok0 : (0 : Int) ≤ (k : Int) := by omega
        by_cases h1 : el = pl
        · by_cases h2 : en = pn
          · have t1 : (el == pl) = true := by simp [h1]
            have t2 : (en == pn) = true := by simp [h2]
            have hBt : true = B := by
              rw [hB.out]; symm; apply decide_eq_true
              exact List.mem_map.2 ⟨_, hmem, by show (⟨el, en⟩ : Pl) = _; rw [h1, h2]⟩
            replace hBt := hid hBt
            clear h1 h2 hmem
            go_wp2_with fail
            go_quiet (fail)
            go_wp2_with fail
            go_ret
            exact ⟨ret_bool hBt.out, Below.up (Below.up bW.out (drewN_below _ _)) (drewN_below _ _)⟩
          · have t1 : (el == pl) = true := by simp [h1]
            have t2 : (en == pn) = false := by simp [h2]
            have hm' : Hid ((⟨pl, pn⟩ : Pl) ∉ (xs.take (k + 1)).map Ad.pl) := mem_snoc (E := eAd) (by rw [HH.out.n]; exact hlt) Ad.pl _ hm.out (by rw [← hy]; intro e; injection e with _ e2; exact h2 e2)
            replace h2 := hid h2
            replace hy := hid hy
            clear h1 hmem
            go_wp2_with fail
            go_quiet (fail)
            go_wp2_with fail
            go_roundw
            case rel => exact ⟨k + 1, by go_num, by omega, hm'.out, q + nq, rfl⟩
            case measure => simp [intOf]; omega
        · have t1 : (el == pl) = false := by simp [h1]
          have hm' : Hid ((⟨pl, pn⟩ : Pl) ∉ (xs.take (k + 1)).map Ad.pl) := mem_snoc (E := eAd) (by rw [HH.out.n]; exact hlt) Ad.pl _ hm.out (by rw [← hy]; intro e; injection e with e1 _; exact h1 e1)
          replace h1 := hid h1
          replace hy := hid hy
          clear hmem
          go_wp2_with fail
          go_quiet (fail)
          go_wp2_with fail
          go_roundw
          case rel => exact ⟨k + 1, by go_num, by omega, hm'.out, q + nq, rfl⟩
          case measure => simp [intOf]; omega
    · have hke : k = n := by omega
      subst hke
      have hBf : Hid (false = B) := by
        show _ = _
        rw [hB.out]; symm; apply decide_eq_false
        have := hm.out
        rwa [← HH.out.n, List.take_length] at this
      go_wp2_with fail
      go_ret
      exact ⟨ret_bool hBf.out, Below.up bW.out (drewN_below _ _)⟩
set_option maxHeartbeats 2000000 in
theorem named_any (a : Option Addr) (n c : Nat) (xs : List Pl) (pl pn pz : Int) (pa pb : ByteArray) (plo phi : Int) (w : World) (H : ePl.Sl w a n c xs) (hn : n ≤ 1099511627776) :
    Calls Try.prog 46 #[.slice a n c, .agg #[.int .i64 pl, .int .i64 pn, .int .i64 pz, .string pa, .string pb, .int .u64 plo, .int .u64 phi]] w fun e w' => e = .returned (.bool (decide ((⟨pl, pn⟩ : Pl) ∈ xs))) ∧ Below w.heap.size w w' := by
  obtain ⟨B, hB⟩ : ∃ B, B = decide ((⟨pl, pn⟩ : Pl) ∈ xs) := ⟨_, rfl⟩
  rw [← hB]
  obtain ⟨g1, hg1⟩ : ∃ g, g = w.heap.size := ⟨_, rfl⟩
  obtain ⟨W, hW⟩ : ∃ W, W = w.alloc (.cells #[.int .i64 pl, .int .i64 pn, .int .i64 pz, .string pa, .string pb, .int .u64 plo, .int .u64 phi] 60) := ⟨_, rfl⟩
  have kb : W.heap[g1]? = some (.cells #[.int .i64 pl, .int .i64 pn, .int .i64 pz, .string pa, .string pb, .int .u64 plo, .int .u64 phi] 60) := by rw [hW, hg1]; exact new_at _ _
  have bW : Below w.heap.size w W := by rw [hW]; exact box_below _ _
  have q0 := cell_of kb 0 _ rfl
  have q1 := cell_of kb 1 _ rfl
  have HH := hid (H.later bW)
  replace hB := hid hB
  replace hW := hid hW
  replace hg1 := hid hg1
  replace bW := hid bW
  clear H kb
  go_enter Try.func46, Try.ntmps46
  go_wp2_with fail
  rw [← hW.out, ← hg1.out]
  go_loopw [5] (fun i wr => ∃ k : Nat, i = .int .i64 k ∧ k ≤ n ∧ (⟨pl, pn⟩ : Pl) ∉ (xs.take k).map id ∧ ∃ q, wr = W.drewN q) (fun i _ => n - (intOf i).toNat)
  case atStart => exact ⟨0, rfl, by omega, by simp, 0, rfl⟩
  case round =>
    obtain ⟨k, rfl, hk, hm, q, rfl⟩ := hrel
    replace hm := hid hm
    by_cases hlt : k < n
    · cases a with
      | none => have := (HH.out.nil rfl).1; omega
      | some ad =>
        obtain ⟨p, off, sp⟩ := ad
        obtain ⟨rfl, hat⟩ := HH.out.cells p off sp rfl (by omega)
        have hat := pl_at (hat k hlt)
        have hlc := HH.out.c
        obtain ⟨y, hy⟩ : ∃ y, y = xs.getD k ePl.z := ⟨_, rfl⟩
        rw [← hy] at hat
        have hmem : y ∈ xs := by rw [hy]; exact El.get_mem (by rw [HH.out.n]; exact hlt)
        obtain ⟨el, en⟩ := y
        obtain ⟨e1, e2⟩ := hat
        simp only [show ePl.k = 2 from rfl] at e1 e2
        have ik0 : (k : Int) < (n : Int) := by omega
        have ok0 : (0 : Int) ≤ (k : Int) := by omega
        by_cases h1 : el = pl
        · by_cases h2 : en = pn
          · have t1 : (el == pl) = true := by simp [h1]
            have t2 : (en == pn) = true := by simp [h2]
            have hBt : true = B := by
              rw [hB.out]; symm; apply decide_eq_true
              rw [← h1, ← h2]; exact hmem
            replace hBt := hid hBt
            clear h1 h2 hmem
            go_wp2_with fail
            go_quiet (fail)
            go_wp2_with fail
            go_ret
            exact ⟨ret_bool hBt.out, Below.up (Below.up bW.out (drewN_below _ _)) (drewN_below _ _)⟩
          · have t1 : (el == pl) = true := by simp [h1]
            have t2 : (en == pn) = false := by simp [h2]
            have hm' : Hid ((⟨pl, pn⟩ : Pl) ∉ (xs.take (k + 1)).map id) := mem_snoc (E := ePl) (by rw [HH.out.n]; exact hlt) id _ hm.out (by rw [← hy]; intro e; injection e with _ e2; exact h2 e2)
            replace h2 := hid h2
            replace hy := hid hy
            clear h1 hmem
            go_wp2_with fail
            go_quiet (fail)
            go_wp2_with fail
            go_roundw
            case rel => exact ⟨k + 1, by go_num, by omega, hm'.out, q + nq, rfl⟩
            case measure => simp [intOf]; omega
        · have t1 : (el == pl) = false := by simp [h1]
          have hm' : Hid ((⟨pl, pn⟩ : Pl) ∉ (xs.take (k + 1)).map id) := mem_snoc (E := ePl) (by rw [HH.out.n]; exact hlt) id _ hm.out (by rw [← hy]; intro e; injection e with e1 _; exact h1 e1)
          replace h1 := hid h1
          replace hy := hid hy
          clear hmem
          go_wp2_with fail
          go_quiet (fail)
          go_wp2_with fail
          go_roundw
          case rel => exact ⟨k + 1, by go_num, by omega, hm'.out, q + nq, rfl⟩
          case measure => simp [intOf]; omega
    · have hke : k = n := by omega
      subst hke
      have hBf : Hid (false = B) := by
        show _ = _
        rw [hB.out]; symm; apply decide_eq_false
        have := hm.out
        rwa [← HH.out.n, List.take_length, List.map_id] at this
      go_wp2_with fail
      go_ret
      exact ⟨ret_bool hBf.out, Below.up bW.out (drewN_below _ _)⟩
end Go.Proofs.Ytnpeocoipodmfaa.Am

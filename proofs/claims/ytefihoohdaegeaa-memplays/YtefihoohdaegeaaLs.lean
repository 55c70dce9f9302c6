/- Last; Get; what is asked of no number; New of no size. -/
import Derived.Test.YtefihoohdaegeaaGs
namespace Go.Proofs.Ytefihoohdaegeaa.Ls
open Go.ChangeShapes Go.WideShapes Go.ChangeAt Go.RowKit
open Go.Sort (grow)
open Go.Proofs.Ytefihoohdaegeaa.Ik
open Go.Proofs.Ytefihoohdaegeaa.Sg
open Go.Proofs.Ytefihoohdaegeaa.Cm (ik)
open Go.Proofs.Ytefihoohdaegeaa.Vl
open Go.Proofs.Ytefihoohdaegeaa.Mm
open Go.Proofs.Ytefihoohdaegeaa.Tr
open Go.Proofs.Ytefihoohdaegeaa.Li
open Go.Proofs.Ytefihoohdaegeaa.In
open Go.Proofs.Ytefihoohdaegeaa.Ob
open Go.Proofs.Ytefihoohdaegeaa.Fi
open Go.Proofs.Ytefihoohdaegeaa.Gs
set_option linter.unusedVariables false
set_option linter.unusedSimpArgs false

theorem last_split {ns : List N} {ord : List Nat} (l a : Nat) (ha : a = (chain ns ord (l + 1)).getLastD 0) : ∃ p q, chain ns ord l = p ++ q ∧ p.getLastD 0 = a := by
  by_cases h0 : chain ns ord (l + 1) = []
  · exact ⟨[], _, rfl, by rw [ha, h0]⟩
  · have hm : a ∈ chain ns ord (l + 1) := by
      rw [ha, List.getLastD_eq_getLast?, List.getLast?_eq_some_getLast h0]
      exact List.getLast_mem h0
    obtain ⟨s, t, e⟩ := List.append_of_mem (chain_sub hm)
    exact ⟨s ++ [a], t, by rw [e]; simp, by simp⟩
set_option maxHeartbeats 4000000 in
set_option maxRecDepth 100000 in
theorem lastof_any (base g b most : Nat) (ns : List N) (ord : List Nat) (w : World) (H : SL w base g b most ns ord) :
    Calls Try.prog 73 #[.pointer (some ⟨g, 0, none⟩)] w fun e w' => e = .returned (.int .i64 ((ord.getLastD 0 : Nat) : Int)) ∧ w' = w := by
  obtain ⟨cap, tw, HL, G, L⟩ := H
  have HH := hid (height_any g most (top ns) b _ cap w HL.hd HL.m1)
  have ht := G.top12
  have hN : Hid (∀ a l : Nat, a ≤ ns.length → l < 12 → Calls Try.prog 93 #[.pointer (some ⟨g, 0, none⟩), .int .i64 (a : Int), .int .i64 (l : Int)] w fun e w' => e = .returned (.int .i64 (tw a l : Int)) ∧ w' = w) := fun a l ha hl => next_any base g b cap most ns tw a l w HL ha hl
  have hln := HL.ln
  have hm2 := HL.m2
  have h00 : Hid ((chain ns ord 0).getLastD 0 = ord.getLastD 0) := by show _ = _; rw [G.chain0]
  have hov : Hid ((chain ns ord (top ns)).getLastD 0 = 0) := by show _ = _; rw [G.over _ (Nat.le_refl _)]; rfl
  replace G := hid G
  replace L := hid L
  obtain ⟨t, hto⟩ : ∃ t, t = top ns := ⟨_, rfl⟩
  rw [← hto] at ht HH hov
  replace hto := hid hto
  clear HL
  go_enter Try.func73, Try.ntmps73
  go_wp2_with fail
  refine HH.out.mono ?_
  rintro e w' ⟨rfl, rfl⟩
  clear HH
  go_wp2_with fail
  go_loopw [3, 4] (fun av lv wr => ∃ a m : Nat, av = .int .i64 (a : Int) ∧ lv = .int .i64 ((m : Int) - 1) ∧ m ≤ t ∧ Hid (a = (chain ns ord m).getLastD 0) ∧ wr = w') (fun _ lv _ => (intOf lv + 1).toNat)
  case atStart => exact ⟨0, t, rfl, by first | rfl | go_num | simp, Nat.le_refl _, hov.out.symm, rfl⟩
  case round =>
    obtain ⟨a, m, rfl, rfl, hm, HA, rfl⟩ := hrel
    cases m with
    | zero =>
      have hA : Hid (a = ord.getLastD 0) := HA.out.trans h00.out
      go_wp2_with fail
      go_ret
      exact ⟨by rw [← hA.out]; rfl, rfl⟩
    | succ l =>
      obtain ⟨p0, q0, e0, ea⟩ := last_split l a HA.out
      have hl12 : l < 12 := by omega
      have HC := hid (L.out l hl12)
      have hle : ∀ p q : List Nat, chain ns ord l = p ++ q → p.getLastD 0 ≤ ns.length := fun p q e => by
        by_cases hp : p = []
        · subst hp; exact Nat.zero_le _
        · have h1 : p.getLastD 0 ∈ chain ns ord l := by
            rw [e, List.getLastD_eq_getLast?, List.getLast?_eq_some_getLast hp]
            exact List.mem_append_left _ (List.getLast_mem hp)
          exact ((G.out.mem _).1 (mem_chain.1 h1).1).2
      have hnx : ∀ p q : List Nat, chain ns ord l = p ++ q → tw (p.getLastD 0) l = hz q := fun p q e => by
        have := HC.out
        rw [e] at this
        exact head_next this
      have HN := hN.out a l (by rw [← ea]; exact hle _ _ e0) hl12
      rw [← ea, hnx _ _ e0] at HN
      rw [← ea]
      have i1 : ((l + 1 : Nat) : Int) - 1 = (l : Int) := by omega
      rw [i1]
      have i2 : (0 : Int) ≤ (l : Int) := by omega
      replace HN := hid HN
      replace hle := hid hle
      replace hnx := hid hnx
      replace e0 := hid e0
      obtain ⟨A0, hA0⟩ : ∃ A0, A0 = p0.getLastD 0 := ⟨_, rfl⟩
      rw [← hA0] at HN
      rw [← hA0]
      obtain ⟨Z0, hZ0⟩ : ∃ Z0, Z0 = hz q0 := ⟨_, rfl⟩
      rw [← hZ0] at HN
      replace hA0 := hid hA0
      replace hZ0 := hid hZ0
      replace i1 := hid i1
      clear ea
      go_wp2_with fail
      refine HN.out.mono ?_
      rintro e w2 ⟨rfl, rfl⟩
      clear HN
      go_wp2_with fail
      go_loopw [3, 5] (fun av nv wq => ∃ p q : List Nat, av = .int .i64 ((p.getLastD 0 : Nat) : Int) ∧ nv = .int .i64 ((hz q : Nat) : Int) ∧ Hid (chain ns ord l = p ++ q) ∧ wq = w2) (fun _ nv _ => rem (chain ns ord l) (intOf nv).toNat)
      case atStart => exact ⟨p0, q0, by rw [hA0.out], by rw [hZ0.out], e0, by first | rfl | trivial⟩
      case round =>
        obtain ⟨p, q, rfl, rfl, e1, rfl⟩ := hrel
        cases q with
        | nil =>
          have e2 : Hid (p.getLastD 0 = (chain ns ord l).getLastD 0) := by show _ = _; rw [e1.out]; simp
          rw [show hz [] = 0 from rfl]
          obtain ⟨A1, hA1⟩ : ∃ A1, A1 = p.getLastD 0 := ⟨_, rfl⟩
          rw [← hA1] at e2 ⊢
          replace hA1 := hid hA1
          go_wp2_with fail
          refine ⟨⟨A1, l, rfl, by first | rfl | go_num | simp, by omega, e2, by first | rfl | trivial⟩, ?_⟩
          simp only [intOf]; omega
        | cons y q =>
          rw [show hz (y :: q) = y from rfl]
          obtain ⟨hy0, hyl⟩ := mem_split G.out e1.out
          have i0 : ((y : Int) != 0) = true := by simp; omega
          have hrem : Hid (rem (chain ns ord l) y = q.length + 1 ∧ rem (chain ns ord l) (hz q) = q.length) := by
            obtain ⟨n1, n2⟩ := chain_nodup G.out l
            rw [e1.out] at n1 n2 ⊢
            refine ⟨rem_eq (q := y :: q) n1 n2, ?_⟩
            have := rem_eq (p := p ++ [y]) (q := q) (by simpa using n1) (by simpa using n2)
            simpa using this
          have e2 : Hid (chain ns ord l = (p ++ [y]) ++ q) := by show _ = _; rw [e1.out]; simp
          have HN := hN.out y l hyl hl12
          have h4 := hnx.out (p ++ [y]) q e2.out
          rw [show (p ++ [y]).getLastD 0 = y by simp] at h4
          rw [h4] at HN
          replace HN := hid HN
          clear h4
          go_wp2_with fail
          refine HN.out.mono ?_
          rintro e w2 ⟨rfl, rfl⟩
          go_wp2_with fail
          refine ⟨⟨p ++ [y], q, by simp, rfl, e2, by first | rfl | trivial⟩, ?_⟩
          simp only [intOf, Int.toNat_natCast]
          rw [hrem.out.1, hrem.out.2]; omega

theorem has_no (base g b most : Nat) (ns : List N) (ord : List Nat) (n : Int) (w : World) (H : SL w base g b most ns ord) (hn : n < 1 ∨ (ns.length : Int) < n) :
    Calls Try.prog 96 #[.pointer (some ⟨g, 0, none⟩), .int .i64 n] w fun e w' => e = .returned (.bool false) ∧ w' = w := by
  have := has_any base g b most ns ord n w H
  rwa [show decide (1 ≤ n ∧ n ≤ (ns.length : Int)) = false by simp; omega] at this
set_option maxHeartbeats 1000000 in
theorem next_out (base g b most : Nat) (ns : List N) (ord : List Nat) (n : Int) (w : World) (H : SL w base g b most ns ord) (hn : n < 1 ∨ (ns.length : Int) < n) :
    Calls Try.prog 76 #[.pointer (some ⟨g, 0, none⟩), .int .i64 n] w fun e w' => e = .returned (.int .i64 0) ∧ w' = w := by
  have HN := hid (has_no base g b most ns ord n w H hn)
  clear hn
  go_enter Try.func76, Try.ntmps76
  go_wp2_with fail
  refine HN.out.mono ?_
  rintro e w' ⟨rfl, rfl⟩
  go_wp2_with fail
  go_ret
  exact ⟨rfl, rfl⟩
set_option maxHeartbeats 1000000 in
theorem prev_out (base g b most : Nat) (ns : List N) (ord : List Nat) (n : Int) (w : World) (H : SL w base g b most ns ord) (hn : n < 1 ∨ (ns.length : Int) < n) :
    Calls Try.prog 77 #[.pointer (some ⟨g, 0, none⟩), .int .i64 n] w fun e w' => e = .returned (.int .i64 0) ∧ w' = w := by
  have HN := hid (has_no base g b most ns ord n w H hn)
  clear hn
  go_enter Try.func77, Try.ntmps77
  go_wp2_with fail
  refine HN.out.mono ?_
  rintro e w' ⟨rfl, rfl⟩
  go_wp2_with fail
  go_ret
  exact ⟨rfl, rfl⟩
set_option maxHeartbeats 1000000 in
theorem node_out (base g b most : Nat) (ns : List N) (ord : List Nat) (n : Int) (w : World) (H : SL w base g b most ns ord) (hn : n < 1 ∨ (ns.length : Int) < n) :
    Calls Try.prog 85 #[.pointer (some ⟨g, 0, none⟩), .int .i64 n] w fun e w' => e = .returned (.tuple #[.agg #[.string ⟨#[]⟩, .int .u64 0, .int .i64 0], .string ⟨#[]⟩, .bool false]) ∧ Below w.heap.size w w' := by
  obtain ⟨gr, hgr⟩ : ∃ gr, gr = w.heap.size := ⟨_, rfl⟩
  obtain ⟨W0, hW0⟩ : ∃ W0, W0 = w.alloc (.cells #[.string ⟨#[]⟩, .int .u64 0, .int .i64 0] 48) := ⟨_, rfl⟩
  have B0 : Below w.heap.size w W0 := by rw [hW0]; exact box_below _ _
  have K0 : Bx W0 gr ⟨#[]⟩ 0 0 := by rw [hW0, hgr]; exact new_at _ _
  have HN := hid (has_no base g b most ns ord n W0 (H.later B0) hn)
  have k0 := K0.c0
  have k1 := K0.c1
  have k2 := K0.c2
  have f0 := fz_of K0 0
  have f1 := fz_of K0 1
  have f2 := fz_of K0 2
  have HB : Hid (∀ W, Below w.heap.size w W → ∀ i v, Below w.heap.size w (W.setCell ⟨gr, i, none⟩ v)) := fun W hW i v => hW.setCell (by show w.heap.size ≤ gr; omega) v
  replace hW0 := hid hW0
  replace hgr := hid hgr
  replace B0 := hid B0
  replace K0 := hid K0
  clear H hn
  go_enter Try.func85, Try.ntmps85
  go_wp2_with fail
  rw [← hW0.out, ← hgr.out]
  refine HN.out.mono ?_
  rintro e w' ⟨rfl, rfl⟩
  clear hW0
  go_wp2_with fail
  have KF : Bx (((w'.setCell ⟨gr, 0, none⟩ (.string ⟨#[]⟩)).setCell ⟨gr, 1, none⟩ (.int .u64 0)).setCell ⟨gr, 2, none⟩ (.int .i64 0)) gr ⟨#[]⟩ 0 0 := by
    have h0 := K0.out
    unfold Bx at h0 ⊢
    rw [set_of (set_of (set_of h0 _ _) _ _)]
    rfl
  have x0 := KF.c0
  have x1 := KF.c1
  have x2 := KF.c2
  generalize hWF : ((w'.setCell ⟨gr, 0, none⟩ (.string ⟨#[]⟩)).setCell ⟨gr, 1, none⟩ (.int .u64 0)).setCell ⟨gr, 2, none⟩ (.int .i64 0) = WF at *
  have BF : Hid (Below w.heap.size w WF) := by rw [← hWF]; exact HB.out _ (HB.out _ (HB.out _ B0.out _ _) _ _) _ _
  refine bodyPost_ret (v := .tuple #[.agg #[.string ⟨#[]⟩, .int .u64 0, .int .i64 0], .string ⟨#[]⟩, .bool false]) (by simp [results, Try.results85, go_sem, x0, x1, x2]) rfl ⟨rfl, ?_⟩
  first | exact BF.out | exact BF.out.drew
end Go.Proofs.Ytefihoohdaegeaa.Ls

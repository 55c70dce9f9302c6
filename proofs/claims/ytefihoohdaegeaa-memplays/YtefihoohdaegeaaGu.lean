/- Get of a memtable. -/
import Derived.Test.YtefihoohdaegeaaGt
namespace Go.Proofs.Ytefihoohdaegeaa.Gu
open Go.ChangeShapes Go.WideShapes Go.ChangeAt Go.RowKit Go.Shelf
open Go.Sort (grow)
open Go.Proofs.Ytefihoohdaegeaa.Lx (hid)
open Go.Proofs.Ytefihoohdaegeaa.Ee (E ze)
open Go.Proofs.Ytefihoohdaegeaa.Nw (c4)
open Go.Proofs.Ytefihoohdaegeaa.Fm
open Go.Proofs.Ytefihoohdaegeaa.Tb
open Go.Proofs.Ytefihoohdaegeaa.Gt
open Go.Proofs.Ytefihoohdaegeaa.Mm (box_below)
open Go.Proofs.Ytefihoohdaegeaa.Tr (new_at cell_of size_alloc blk_lt)
set_option linter.unusedVariables false
set_option linter.unusedSimpArgs false

set_option maxHeartbeats 1000000 in
theorem get_any (base g : Nat) (P : Nat → Prop) (S : St) (k : ByteArray) (q : Int) (w : World) (H : Tb.Tb w base g P S) (hts : S.ts.length ≤ 140737488355328) (hk : k.size ≤ maxLen) :
    Calls Try.prog 25 #[.pointer (some ⟨g, 0, none⟩), .string k, .int .u64 q] w fun e w' => e = .returned (.tuple #[.agg (c4 (fnd [(g, S)] k q).1), .bool (fnd [(g, S)] k q).2]) ∧ Below w.heap.size w w' := by
  obtain ⟨W0, hW0⟩ : ∃ W, W = w.alloc (.cells #[.string ⟨#[]⟩, .int .u64 0, .int .i64 0, .string ⟨#[]⟩] 56) := ⟨_, rfl⟩
  have B0 : Below w.heap.size w W0 := by rw [hW0]; exact box_below _ _
  obtain ⟨gr, hgr⟩ : ∃ n, n = w.heap.size := ⟨_, rfl⟩
  have hn0 : W0.heap.size = gr + 1 := by rw [hW0, hgr]; simp
  have kR : W0.heap[gr]? = some (.cells #[.string ⟨#[]⟩, .int .u64 0, .int .i64 0, .string ⟨#[]⟩] 56) := by rw [hW0, hgr]; exact new_at _ _
  obtain ⟨W1, hW1⟩ : ∃ W, W = W0.alloc (.cells #[.pointer (some ⟨g, 0, none⟩)] 23) := ⟨_, rfl⟩
  have b1 : Below W0.heap.size W0 W1 := by rw [hW1]; exact box_below _ _
  have k1 : W1.heap[gr + 1]? = some (.cells #[.pointer (some ⟨g, 0, none⟩)] 23) := by rw [hW1, ← hn0]; exact new_at _ _
  have kR1 := (b1.block gr (by omega)).trans kR
  have B1 : Below w.heap.size w W1 := B0.trans (b1.mono B0.size)
  have HF := find_any (some ⟨gr + 1, 0, none⟩) 1 1 [(g, S)] k q W1 ⟨rfl, Nat.le_refl _, fun h => (by cases h), fun b o p hp hl => by
      cases hp
      refine ⟨rfl, fun i hi => ?_⟩
      have : i = 0 := by omega
      subst this
      exact cell_of k1 0 _ rfl⟩ (fun x hx => by rw [List.mem_singleton.1 hx]; exact ⟨base, P, H.later B1⟩) (by omega) (fun x hx => by rw [List.mem_singleton.1 hx]; exact hts) hk
  obtain ⟨⟨y1, y2, y3, y4⟩, hy⟩ : ∃ x : E, x = (fnd [(g, S)] k q).1 := ⟨_, rfl⟩
  rw [← hy] at HF ⊢
  unfold c4 at HF ⊢
  dsimp only at HF ⊢
  generalize (fnd [(g, S)] k q).2 = ok at *
  replace HF := hid HF
  replace hW0 := hid hW0
  replace hW1 := hid hW1
  replace hgr := hid hgr
  replace B1 := hid B1
  replace kR1 := hid kR1
  clear B0 kR b1 k1 hn0 H hts hy
  go_enter Try.func25, Try.ntmps25
  go_wp2_with fail
  rw [← hW0.out, ← hgr.out, ← hW1.out]
  refine HF.out.mono ?_
  rintro e w2 ⟨rfl, b2⟩
  have B2 := hid (B1.out.trans (b2.mono B1.out.size))
  have k2 := (b2.block gr (blk_lt kR1.out)).trans kR1.out
  have z0 := cell_of k2 0 (.string ⟨#[]⟩) rfl
  have z1 := cell_of k2 1 (.int .u64 0) rfl
  have z2 := cell_of k2 2 (.int .i64 0) rfl
  have z3 := cell_of k2 3 (.string ⟨#[]⟩) rfl
  have f0 := Tr.fz_of k2 0
  have f1 := Tr.fz_of k2 1
  have f2 := Tr.fz_of k2 2
  have f3 := Tr.fz_of k2 3
  have hBs : Hid (∀ W, Below w.heap.size w W → ∀ i v, Below w.heap.size w (W.setCell ⟨gr, i, none⟩ v)) := fun W hW i v => hW.setCell (by show w.heap.size ≤ gr; rw [hgr.out]; exact Nat.le_refl _) v
  have k4 := hid (Tr.set_of (Tr.set_of (Tr.set_of (Tr.set_of k2 0 (.string y1)) 1 (.int .u64 y2)) 2 (.int .i64 y3)) 3 (.string y4))
  clear b2 k2 HF
  go_wp2_with fail
  generalize hWF : (((w2.setCell ⟨gr, 0, none⟩ (.string y1)).setCell ⟨gr, 1, none⟩ (.int .u64 y2)).setCell ⟨gr, 2, none⟩ (.int .i64 y3)).setCell ⟨gr, 3, none⟩ (.string y4) = WF at *
  have q0 := cell_of k4.out 0 (.string y1) rfl
  have q1 := cell_of k4.out 1 (.int .u64 y2) rfl
  have q2 := cell_of k4.out 2 (.int .i64 y3) rfl
  have q3 := cell_of k4.out 3 (.string y4) rfl
  have BF : Hid (Below w.heap.size w WF) := by rw [← hWF]; exact hBs.out _ (hBs.out _ (hBs.out _ (hBs.out _ B2.out _ _) _ _) _ _) _ _
  refine bodyPost_ret (v := .tuple #[.agg #[.string y1, .int .u64 y2, .int .i64 y3, .string y4], .bool ok]) (by simp [results, Try.results25, go_sem, q0, q1, q2, q3]) rfl ⟨rfl, BF.out⟩
end Go.Proofs.Ytefihoohdaegeaa.Gu

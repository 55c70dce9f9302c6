/- What is asked of a list. -/
import Derived.Test.YtefihoohdaegeaaFi
namespace Go.Proofs.Ytefihoohdaegeaa.Gs
open Go.ChangeShapes Go.WideShapes Go.ChangeAt Go.RowKit
open Go.Sort (grow)
open Go.Proofs.Ytefihoohdaegeaa.Ik
open Go.Proofs.Ytefihoohdaegeaa.Sg
open Go.Proofs.Ytefihoohdaegeaa.Cm (ik)
open Go.Proofs.Ytefihoohdaegeaa.Vl
open Go.Proofs.Ytefihoohdaegeaa.Mm
open Go.Proofs.Ytefihoohdaegeaa.Tr
open Go.Proofs.Ytefihoohdaegeaa.Li
open Go.Proofs.Ytefihoohdaegeaa.In
open Go.Proofs.Ytefihoohdaegeaa.Ob
open Go.Proofs.Ytefihoohdaegeaa.Fi
set_option linter.unusedVariables false
set_option linter.unusedSimpArgs false
theorem insert_no (base g b most : Nat) (ns : List N) (ord : List Nat) (k : ByteArray) (s c : Int) (x : ByteArray) (h : Int) (w : World) (H : SL w base g b most ns ord) (hbase : base ≤ w.heap.size) (hk : k.size ≤ maxLen) (hE : insE most ns ord k s c h ≠ 0) :
    Calls Try.prog 81 #[.pointer (some ⟨g, 0, none⟩), .agg #[.string k, .int .u64 s, .int .i64 c], .string x, .int .i64 h] w fun e w' => e = .returned (.int .i64 (insE most ns ord k s c h)) ∧ Below w.heap.size w w' := by
  unfold insE at *
  by_cases h1 : vld k s c = false
  · rw [if_pos h1]; exact insert_key base g b most ns ord k s c x h w H hbase hk h1
  · have h1' : vld k s c = true := by simpa using h1
    rw [if_neg h1] at hE ⊢
    by_cases h2 : h < 1 ∨ 12 < h
    · rw [if_pos h2]; exact insert_arg base g b most ns ord k s c x h w H hbase hk h1' h2
    · rw [if_neg h2] at hE ⊢
      obtain ⟨m, rfl⟩ : ∃ m : Nat, h = m := ⟨h.toNat, by omega⟩
      by_cases h3 : thr ns ord (ik k s c) = true
      · rw [if_pos h3]; exact insert_there base g b most ns ord k s c x m w H hbase hk h1' (by omega) h3
      · have h3' : thr ns ord (ik k s c) = false := by simpa using h3
        rw [if_neg h3] at hE ⊢
        by_cases h4 : ns.length = most
        · rw [if_pos h4]; exact insert_full base g b most ns ord k s c x m w H hbase hk h1' (by omega) h3' h4
        · rw [if_neg h4] at hE; exact absurd rfl hE
theorem insE_zero {most : Nat} {ns : List N} {ord : List Nat} {k : ByteArray} {s c h : Int} (hE : insE most ns ord k s c h = 0) : vld k s c = true ∧ (1 ≤ h ∧ h ≤ 12) ∧ thr ns ord (ik k s c) = false ∧ ns.length ≠ most := by
  unfold insE at hE
  by_cases h1 : vld k s c = false
  · rw [if_pos h1] at hE; cases hE
  · rw [if_neg h1] at hE
    by_cases h2 : h < 1 ∨ 12 < h
    · rw [if_pos h2] at hE; cases hE
    · rw [if_neg h2] at hE
      by_cases h3 : thr ns ord (ik k s c) = true
      · rw [if_pos h3] at hE; cases hE
      · rw [if_neg h3] at hE
        by_cases h4 : ns.length = most
        · rw [if_pos h4] at hE; cases hE
        · exact ⟨by simpa using h1, by omega, by simpa using h3, h4⟩
theorem insert_yes (base g b most : Nat) (ns : List N) (ord : List Nat) (k : ByteArray) (s c : Int) (x : ByteArray) (h : Int) (w : World) (H : SL w base g b most ns ord) (hbase : base ≤ w.heap.size) (hk : k.size ≤ maxLen) (hE : insE most ns ord k s c h = 0) :
    Calls Try.prog 81 #[.pointer (some ⟨g, 0, none⟩), .agg #[.string k, .int .u64 s, .int .i64 c], .string x, .int .i64 h] w fun e w' => e = .returned (.int .i64 0) ∧ Fr g b w w' ∧ ∃ b', (b' = b ∨ w.heap.size ≤ b') ∧ SL w' base g b' most (ns ++ [⟨k, s, c, .string x, h.toNat⟩]) (ordI ns ord (ik k s c) (ns.length + 1)) := by
  obtain ⟨h1, h2, h3, h4⟩ := insE_zero hE
  obtain ⟨m, rfl⟩ : ∃ m : Nat, h = m := ⟨h.toNat, by omega⟩
  rw [Int.toNat_natCast]
  exact insert_ok base g b most ns ord k s c x m w H hbase hk h1 (by omega) h3 h4
theorem chain_at {ns : List N} {ord : List Nat} (G : Gd ns ord) {tw : Nat → Nat → Nat} (L : Lk ns ord tw) {p q : List Nat} {n : Nat} (e : ord = p ++ n :: q) : tw n 0 = hz q ∧ 1 ≤ n ∧ n ≤ ns.length := by
  have h := L 0 (by omega)
  rw [G.chain0, e, show p ++ n :: q = (p ++ [n]) ++ q by simp] at h
  have h1 := head_next h
  have hm := (G.mem n).1 (by rw [e]; simp)
  exact ⟨by simpa using h1, hm.1, hm.2⟩
theorem first_links {ns : List N} {ord : List Nat} (G : Gd ns ord) {tw : Nat → Nat → Nat} (L : Lk ns ord tw) : tw 0 0 = hz ord := by
  have h := L 0 (by omega)
  rw [G.chain0] at h
  exact head_next (f := fun n => tw n 0) (p := []) h
/-- The last one below a node's own key is the one ahead of it. -/
theorem before_at {ns : List N} {ord : List Nat} (G : Gd ns ord) {p q : List Nat} {n : Nat} (e : ord = p ++ n :: q) : lastB ns ord (key ns n) 0 = p.getLastD 0 := by
  have hr := G.rise
  rw [e] at hr
  obtain ⟨r1, r2, r3⟩ := List.pairwise_append.1 hr
  refine leave G (key ns n) 0 (p := p) (q := n :: q) (by rw [G.chain0]; exact e) ?_ ?_
  · intro x hx
    unfold below
    simpa using r3 x hx n (by simp)
  · intro y hy
    simp at hy
    subst hy
    unfold below
    simp [cmp_self]
theorem has_any (base g b most : Nat) (ns : List N) (ord : List Nat) (n : Int) (w : World) (H : SL w base g b most ns ord) :
    Calls Try.prog 96 #[.pointer (some ⟨g, 0, none⟩), .int .i64 n] w fun e w' => e = .returned (.bool (decide (1 ≤ n ∧ n ≤ (ns.length : Int)))) ∧ w' = w := by
  obtain ⟨cap, tw, HL, G, L⟩ := H
  have HLen := hid (len_any g most (top ns) b ns.length cap w HL.hd HL.m1 (by have := HL.ln; have := HL.m2; omega))
  by_cases h1 : 1 ≤ n
  · by_cases h2 : n ≤ (ns.length : Int)
    · have E : Hid (decide (1 ≤ n ∧ n ≤ (ns.length : Int)) = true) := by simp [Hid, h1, h2]
      go_enter Try.func96, Try.ntmps96
      go_wp2_with fail
      refine HLen.out.mono ?_
      rintro e w' ⟨rfl, rfl⟩
      go_wp2_with fail
      go_ret
      refine ⟨?_, rfl⟩
      rw [E.out]
      simp [h2]
    · have E : Hid (decide (1 ≤ n ∧ n ≤ (ns.length : Int)) = false) := by simp [Hid, h1, h2]
      go_enter Try.func96, Try.ntmps96
      go_wp2_with fail
      refine HLen.out.mono ?_
      rintro e w' ⟨rfl, rfl⟩
      go_wp2_with fail
      go_ret
      refine ⟨?_, rfl⟩
      rw [E.out]
      simp [h2]
  · have E : Hid (decide (1 ≤ n ∧ n ≤ (ns.length : Int)) = false) := by simp [Hid, h1]
    go_enter Try.func96, Try.ntmps96
    go_wp2_with fail
    go_ret
    exact ⟨by rw [show decide (1 ≤ n) = false by simpa using h1]; rfl, rfl⟩
theorem has_yes (base g b most : Nat) (ns : List N) (ord : List Nat) (n : Nat) (w : World) (H : SL w base g b most ns ord) (hn : 1 ≤ n ∧ n ≤ ns.length) :
    Calls Try.prog 96 #[.pointer (some ⟨g, 0, none⟩), .int .i64 (n : Int)] w fun e w' => e = .returned (.bool true) ∧ w' = w := by
  have := has_any base g b most ns ord n w H
  rwa [show decide (1 ≤ (n : Int) ∧ (n : Int) ≤ (ns.length : Int)) = true by simp; omega] at this
theorem firstof_any (base g b most : Nat) (ns : List N) (ord : List Nat) (w : World) (H : SL w base g b most ns ord) :
    Calls Try.prog 72 #[.pointer (some ⟨g, 0, none⟩)] w fun e w' => e = .returned (.int .i64 (hz ord : Int)) ∧ w' = w := by
  obtain ⟨cap, tw, HL, G, L⟩ := H
  have HN := hid (isnone_any g most _ b _ cap w HL.hd HL.m1)
  have HX := next_any base g b cap most ns tw 0 0 w HL (by omega) (by omega)
  rw [first_links G L] at HX
  replace HX := hid HX
  go_enter Try.func72, Try.ntmps72
  go_wp2_with fail
  refine HN.out.mono ?_
  rintro e w' ⟨rfl, rfl⟩
  go_wp2_with fail
  refine HX.out.mono ?_
  rintro e w' ⟨rfl, rfl⟩
  go_wp2_with fail
  go_ret
  exact ⟨rfl, rfl⟩
theorem nextof_any (base g b most : Nat) (ns : List N) (ord p q : List Nat) (n : Nat) (w : World) (H : SL w base g b most ns ord) (e : ord = p ++ n :: q) :
    Calls Try.prog 76 #[.pointer (some ⟨g, 0, none⟩), .int .i64 (n : Int)] w fun e w' => e = .returned (.int .i64 (hz q : Int)) ∧ w' = w := by
  have HS := H
  obtain ⟨cap, tw, HL, G, L⟩ := H
  obtain ⟨h1, h2, h3⟩ := chain_at G L e
  have HN := hid (has_yes base g b most ns ord n w HS ⟨h2, h3⟩)
  have HX := next_any base g b cap most ns tw n 0 w HL h3 (by omega)
  rw [h1] at HX
  replace HX := hid HX
  clear h1
  go_enter Try.func76, Try.ntmps76
  go_wp2_with fail
  refine HN.out.mono ?_
  rintro e w' ⟨rfl, rfl⟩
  go_wp2_with fail
  refine HX.out.mono ?_
  rintro e w' ⟨rfl, rfl⟩
  go_wp2_with fail
  go_ret
  exact ⟨rfl, rfl⟩
theorem idx0 (f : Nat → Nat) (w : World) : (Instr.index 156 (.agg (tow f)) (.int .i64 0)).run Try.prog w = .ok (.int .i32 (f 0 : Int)) w := by
  unfold Instr.index tow
  simp [Try.underlying156, go_sem]
  done
set_option maxHeartbeats 1000000 in
set_option maxRecDepth 100000 in
theorem before_any (base g b most : Nat) (ns : List N) (ord : List Nat) (k : ByteArray) (s c : Int) (w : World) (H : SL w base g b most ns ord) :
    Calls Try.prog 97 #[.pointer (some ⟨g, 0, none⟩), .agg #[.string k, .int .u64 s, .int .i64 c]] w fun e w' => e = .returned (.int .i64 (lastB ns ord (ik k s c) 0 : Int)) ∧ Below w.heap.size w w' := by
  obtain ⟨cap, tw, HL, G, L⟩ := H
  have B0 := box_below w (.cells #[.string k, .int .u64 s, .int .i64 c] 48)
  have HT := hid (trail_any base g b cap most ns ord tw k s c _ (HL.later B0) G L)
  have hle := lastB_le G (ik k s c) 0
  have hln := HL.ln
  have hm2 := HL.m2
  replace B0 := hid B0
  clear HL G L
  go_enter Try.func97, Try.ntmps97
  go_wp2_with fail
  refine HT.out.mono ?_
  rintro e w' ⟨rfl, b1⟩
  have B1 := hid (B0.out.trans (b1.mono B0.out.size))
  clear b1 HT
  generalize hf : lastB ns ord (ik k s c) = f at *
  have hid0 := idx0 f
  generalize tow f = A at *
  replace hf := hid hf
  go_wp2_with fail
  go_ret
  exact ⟨by rw [hf.out]; first | rfl | go_num, B1.out⟩
set_option maxHeartbeats 1000000 in
set_option maxRecDepth 100000 in
theorem prevof_any (base g b most : Nat) (ns : List N) (ord p q : List Nat) (n : Nat) (w : World) (H : SL w base g b most ns ord) (e : ord = p ++ n :: q) :
    Calls Try.prog 77 #[.pointer (some ⟨g, 0, none⟩), .int .i64 (n : Int)] w fun e w' => e = .returned (.int .i64 ((p.getLastD 0 : Nat) : Int)) ∧ Below w.heap.size w w' := by
  have HS := H
  obtain ⟨cap, tw, HL, G, L⟩ := H
  obtain ⟨h1, h2, h3⟩ := chain_at G L e
  have HN := hid (has_yes base g b most ns ord n w HS ⟨h2, h3⟩)
  have HB := before_any base g b most ns ord (nd ns n).k (nd ns n).s (nd ns n).c w HS
  rw [show ik (nd ns n).k (nd ns n).s (nd ns n).c = key ns n from rfl, before_at G e] at HB
  replace HB := hid HB
  have c2 := HL.hd.c2
  have q0 := HL.rw.cell n 0 h3 (by omega)
  have q1 := HL.rw.cell n 1 h3 (by omega)
  have q2 := HL.rw.cell n 2 h3 (by omega)
  simp only [cv, Nat.add_zero] at q0 q1 q2
  have i1 : (n : Int) < ((ns.length + 1 : Nat) : Int) := by omega
  generalize (nd ns n).k = yk at *
  generalize (nd ns n).s = ys at *
  generalize (nd ns n).c = yc at *
  generalize p.getLastD 0 = F at *
  clear h1 e HS
  go_enter Try.func77, Try.ntmps77
  go_wp2_with fail
  refine HN.out.mono ?_
  rintro e w' ⟨rfl, rfl⟩
  go_wp2_with fail
  refine HB.out.mono ?_
  rintro e w' ⟨rfl, b1⟩
  go_wp2_with fail
  go_ret
  exact ⟨rfl, b1⟩
set_option maxHeartbeats 2000000 in
set_option maxRecDepth 100000 in
theorem node_any (base g b most : Nat) (ns : List N) (ord : List Nat) (n : Nat) (x : ByteArray) (w : World) (H : SL w base g b most ns ord) (hn : 1 ≤ n ∧ n ≤ ns.length) (hv : (nd ns n).v = .string x) :
    Calls Try.prog 85 #[.pointer (some ⟨g, 0, none⟩), .int .i64 (n : Int)] w fun e w' => e = .returned (.tuple #[.agg #[.string (nd ns n).k, .int .u64 (nd ns n).s, .int .i64 (nd ns n).c], .string x, .bool true]) ∧ Below w.heap.size w w' := by
  have HS := H
  obtain ⟨cap, tw, HL, G, L⟩ := H
  obtain ⟨gr, hgr⟩ : ∃ gr, gr = w.heap.size := ⟨_, rfl⟩
  obtain ⟨W0, hW0⟩ : ∃ W0, W0 = w.alloc (.cells #[.string ⟨#[]⟩, .int .u64 0, .int .i64 0] 48) := ⟨_, rfl⟩
  have B0 : Below w.heap.size w W0 := by rw [hW0]; exact box_below _ _
  have K0 : Bx W0 gr ⟨#[]⟩ 0 0 := by rw [hW0, hgr]; exact new_at _ _
  have HN := hid (has_yes base g b most ns ord n W0 (HS.later B0) hn)
  have HL0 := HL.later B0
  have c2 := HL0.hd.c2
  have q0 := HL0.rw.cell n 0 hn.2 (by omega)
  have q1 := HL0.rw.cell n 1 hn.2 (by omega)
  have q2 := HL0.rw.cell n 2 hn.2 (by omega)
  have q3 := HL0.rw.cell n 3 hn.2 (by omega)
  simp only [cv, Nat.add_zero] at q0 q1 q2 q3
  rw [if_neg (by omega), hv] at q3
  have k0 := K0.c0
  have k1 := K0.c1
  have k2 := K0.c2
  have f0 := fz_of K0 0
  have f1 := fz_of K0 1
  have f2 := fz_of K0 2
  have i1 : (n : Int) < ((ns.length + 1 : Nat) : Int) := by omega
  generalize (nd ns n).k = yk at *
  generalize (nd ns n).s = ys at *
  generalize (nd ns n).c = yc at *
  have hgb : gr ≠ b := by have := HL.rw.lt; omega
  have hgg : gr ≠ g := by have := HL.hd.lt; omega
  have HB : Hid (∀ W, Below w.heap.size w W → ∀ i v, Below w.heap.size w (W.setCell ⟨gr, i, none⟩ v)) := fun W hW i v => hW.setCell (by show w.heap.size ≤ gr; omega) v
  replace hW0 := hid hW0
  replace hgr := hid hgr
  replace B0 := hid B0
  replace K0 := hid K0
  clear HS HL G L HL0 hv
  go_enter Try.func85, Try.ntmps85
  go_wp2_with fail
  rw [← hW0.out, ← hgr.out]
  refine HN.out.mono ?_
  rintro e w' ⟨rfl, rfl⟩
  clear hW0
  go_wp2_with fail
  go_region
  all_goals go_wp2_with fail
  have KF : Bx (((w'.setCell ⟨gr, 0, none⟩ (.string yk)).setCell ⟨gr, 1, none⟩ (.int .u64 ys)).setCell ⟨gr, 2, none⟩ (.int .i64 yc)) gr yk ys yc := by
    have h0 := K0.out
    unfold Bx at h0 ⊢
    rw [set_of (set_of (set_of h0 _ _) _ _)]
    rfl
  have x0 := KF.c0
  have x1 := KF.c1
  have x2 := KF.c2
  generalize hWF : ((w'.setCell ⟨gr, 0, none⟩ (.string yk)).setCell ⟨gr, 1, none⟩ (.int .u64 ys)).setCell ⟨gr, 2, none⟩ (.int .i64 yc) = WF at *
  have BF : Hid (Below w.heap.size w WF) := by rw [← hWF]; exact HB.out _ (HB.out _ (HB.out _ B0.out _ _) _ _) _ _
  refine bodyPost_ret (v := .tuple #[.agg #[.string yk, .int .u64 ys, .int .i64 yc], .string x, .bool true]) (by simp [results, Try.results85, go_sem, x0, x1, x2]) rfl ⟨rfl, ?_⟩
  exact BF.out.drew
end Go.Proofs.Ytefihoohdaegeaa.Gs

/- Insert. -/
import Derived.Test.YtefihoohdaegeaaLi
namespace Go.Proofs.Ytefihoohdaegeaa.In
open Go.ChangeShapes Go.WideShapes Go.ChangeAt Go.RowKit
open Go.Sort (grow)
open Go.Proofs.Ytefihoohdaegeaa.Ik
open Go.Proofs.Ytefihoohdaegeaa.Sg
open Go.Proofs.Ytefihoohdaegeaa.Cm (ik)
open Go.Proofs.Ytefihoohdaegeaa.Vl
open Go.Proofs.Ytefihoohdaegeaa.Mm
open Go.Proofs.Ytefihoohdaegeaa.Tr
open Go.Proofs.Ytefihoohdaegeaa.Li
set_option linter.unusedVariables false
set_option linter.unusedSimpArgs false

theorem behind {ns : List N} {ord : List Nat} {tw : Nat → Nat → Nat} (G : Gd ns ord) (L : Lk ns ord tw) (k : IK) : tw (lastB ns ord k 0) 0 = firstN ns ord k := by
  have h := L 0 (by omega)
  rw [G.chain0] at h
  have e := ord_split G k
  rw [e] at h
  have := head_next h
  unfold lastB firstN
  rw [G.chain0]
  exact this
def thr (ns : List N) (ord : List Nat) (k : IK) : Bool := decide (firstN ns ord k ≠ 0 ∧ cmp (key ns (firstN ns ord k)) k = 0)
theorem first_mem {ns : List N} {ord : List Nat} (G : Gd ns ord) (k : IK) (h : firstN ns ord k ≠ 0) : firstN ns ord k ∈ ord ∧ below ns k (firstN ns ord k) = false := by
  unfold firstN at *
  cases hq : ord.filter (fun n => !below ns k n) with
  | nil => rw [hq] at h; exact absurd rfl h
  | cons y q =>
    have : y ∈ ord.filter (fun n => !below ns k n) := by rw [hq]; simp
    have := List.mem_filter.1 this
    show y ∈ ord ∧ below ns k y = false
    exact ⟨this.1, by simpa using this.2⟩
theorem first_le {ns : List N} {ord : List Nat} (G : Gd ns ord) (k : IK) : firstN ns ord k ≤ ns.length := by
  by_cases h : firstN ns ord k = 0
  · omega
  · exact ((G.mem _).1 (first_mem G k h).1).2
theorem no_there {ns : List N} {ord : List Nat} (G : Gd ns ord) (k : IK) (h : thr ns ord k = false) : ∀ n ∈ ord, cmp (key ns n) k ≠ 0 := by
  intro n hn h0
  have hb : below ns k n = false := by unfold below; simp; omega
  have hm : n ∈ ord.filter (fun n => !below ns k n) := List.mem_filter.2 ⟨hn, by simp [hb]⟩
  have hr : (ord.filter (fun n => !below ns k n)).Pairwise fun a b => cmp (key ns a) (key ns b) < 0 := G.rise.filter _
  unfold thr firstN at h
  cases hq : ord.filter (fun n => !below ns k n) with
  | nil => rw [hq] at hm; cases hm
  | cons y q =>
    rw [hq] at hm hr h
    have hy : y ∈ ord := (List.mem_filter.1 (show y ∈ ord.filter (fun n => !below ns k n) by rw [hq]; simp)).1
    have hby : below ns k y = false := by
      have := (List.mem_filter.1 (show y ∈ ord.filter (fun n => !below ns k n) by rw [hq]; simp)).2
      simpa using this
    rcases List.mem_cons.1 hm with rfl | hm
    · have := of_decide_eq_false h
      exact this ⟨G.ne0 hy, h0⟩
    · have h1 := (List.pairwise_cons.1 hr).1 n hm
      have hk : key ns n = k := (cmp_zero _ _).1 h0
      rw [hk] at h1
      unfold below at hby
      simp at hby
      omega
/-- What Insert answers. -/
def insE (most : Nat) (ns : List N) (ord : List Nat) (k : ByteArray) (s c h : Int) : Int :=
  if vld k s c = false then 30 else if h < 1 ∨ 12 < h then 2 else if thr ns ord (ik k s c) = true then 81 else if ns.length = most then 82 else 0
/-- A list that holds nodes in their order. -/
def SL (w : World) (base g b most : Nat) (ns : List N) (ord : List Nat) : Prop := ∃ cap tw, Lst w base g b cap most ns tw ∧ Gd ns ord ∧ Lk ns ord tw
theorem SL.later {w w' : World} {base g b most : Nat} {ns : List N} {ord : List Nat} (H : SL w base g b most ns ord) (k : Below w.heap.size w w') : SL w' base g b most ns ord := by
  obtain ⟨cap, tw, h1, h2, h3⟩ := H
  exact ⟨cap, tw, h1.later k, h2, h3⟩
theorem boxZ (w : World) : Blk (w.alloc (.cells #[.int .i32 0, .int .i32 0, .int .i32 0, .int .i32 0, .int .i32 0, .int .i32 0, .int .i32 0, .int .i32 0, .int .i32 0, .int .i32 0, .int .i32 0, .int .i32 0] 156)) w.heap.size 156 #[.int .i32 0, .int .i32 0, .int .i32 0, .int .i32 0, .int .i32 0, .int .i32 0, .int .i32 0, .int .i32 0, .int .i32 0, .int .i32 0, .int .i32 0, .int .i32 0] := new_at _ _
theorem Fr.trans {g b : Nat} {w W W' : World} (h : Fr g b w W) (k : Fr g b W W') : Fr g b w W' :=
  ⟨k.os.trans h.os, k.tape.trans h.tape, k.output.trans h.output, Nat.le_trans h.size k.size, fun j hj h1 h2 => (k.block j (Nat.lt_of_lt_of_le hj h.size) h1 h2).trans (h.block j hj h1 h2)⟩
theorem lk_ins {ns : List N} {ord : List Nat} {tw : Nat → Nat → Nat} (G : Gd ns ord) (L : Lk ns ord tw) (x : N) (T : Nat → Nat) (hT : T = lastB ns ord x.ik) : Lk (ns ++ [x]) (ordI ns ord x.ik (ns.length + 1)) (fun n lv => if n = ns.length + 1 then tox tw T x.h lv else upd tw T (ns.length + 1) x.h n lv) := by
  intro lv hlv
  have hle : T lv ≤ ns.length := by rw [hT]; exact lastB_le G _ lv
  refine links_ins G x lv (fun n => tw n lv) _ (L lv hlv) ?_ ?_
  · intro h
    rw [← hT]
    refine ⟨?_, ?_, ?_⟩
    · show (if T lv = ns.length + 1 then _ else upd tw T (ns.length + 1) x.h (T lv) lv) = _
      rw [if_neg (by omega)]; unfold upd; rw [if_pos ⟨h, rfl⟩]
    · show (if ns.length + 1 = ns.length + 1 then tox tw T x.h lv else _) = _
      rw [if_pos rfl]; unfold tox; rw [if_pos h]
    · intro y h1 h2
      show (if y = ns.length + 1 then _ else upd tw T (ns.length + 1) x.h y lv) = _
      rw [if_neg h1]; unfold upd; rw [if_neg (fun h' => h2 h'.2)]
  · intro h y h1
    show (if y = ns.length + 1 then _ else upd tw T (ns.length + 1) x.h y lv) = _
    rw [if_neg h1]; unfold upd; rw [if_neg (fun h' => h h'.1)]
set_option maxHeartbeats 4000000 in
set_option maxRecDepth 100000 in
theorem insert_key (base g b most : Nat) (ns : List N) (ord : List Nat) (k : ByteArray) (s c : Int) (x : ByteArray) (h : Int) (w : World) (H : SL w base g b most ns ord) (hbase : base ≤ w.heap.size) (hk : k.size ≤ maxLen) (hval : vld k s c = false) :
    Calls Try.prog 81 #[.pointer (some ⟨g, 0, none⟩), .agg #[.string k, .int .u64 s, .int .i64 c], .string x, .int .i64 h] w fun e w' => e = .returned (.int .i64 30) ∧ Below w.heap.size w w' := by
  obtain ⟨cap, tw, HLs, G, L⟩ := H
  obtain ⟨gk, hgk⟩ : ∃ gk, gk = w.heap.size := ⟨_, rfl⟩
  obtain ⟨W0, hW0⟩ : ∃ W0, W0 = w.alloc (.cells #[.string k, .int .u64 s, .int .i64 c] 48) := ⟨_, rfl⟩
  have B0 : Below w.heap.size w W0 := by rw [hW0]; exact box_below _ _
  have K0 : Bx W0 gk k s c := by rw [hW0, hgk]; exact new_at _ _
  have hm1 := HLs.m1
  have hm2 := HLs.m2
  have hln := HLs.ln
  have L0 := HLs.later B0
  have HN := hid (isnone_any g most _ b _ cap W0 L0.hd hm1)
  have HVl : Hid (∀ W, Calls Try.prog 102 #[.agg #[.string k, .int .u64 s, .int .i64 c]] W fun e w' => e = .returned (.bool false) ∧ Below W.heap.size W w') := fun W => by
    have := valid_any k s c W hk
    rw [hval] at this; exact this
  have HTr : Hid (∀ W, Lst W base g b cap most ns tw → Calls Try.prog 103 #[.pointer (some ⟨g, 0, none⟩), .agg #[.string k, .int .u64 s, .int .i64 c]] W fun e w' => e = .returned (.agg (tow (lastB ns ord (ik k s c)))) ∧ Below W.heap.size W w') := fun W hW => trail_any base g b cap most ns ord tw k s c W hW G L
  have hbh := behind G L (ik k s c)
  have hle := lastB_le G (ik k s c) 0
  have hfl := first_le G (ik k s c)
  obtain ⟨T, hT⟩ : ∃ T, T = lastB ns ord (ik k s c) := ⟨_, rfl⟩
  have HTl : Hid (∀ l, T l ≤ ns.length) := fun l => by rw [hT]; exact lastB_le G _ l
  rw [← hT] at hbh hle HTr
  have hHH := hid HLs
  have HW0 := hid hW0
  have hgk2 := hid hgk
  have HTe := hid hT
  have HBh := hid hbh
  replace B0 := hid B0
  replace K0 := hid K0
  replace G := hid G
  replace L := hid L
  clear hW0 hgk HLs L0 hT hbh hval hk
  go_enter Try.func81, Try.ntmps81
  go_wp2_with fail
  rw [← HW0.out, ← hgk2.out]
  refine HN.out.mono ?_
  rintro e w1 ⟨rfl, rfl⟩
  clear HN HW0
  have k0 := K0.out.c0
  have k1 := K0.out.c1
  have k2 := K0.out.c2
  go_wp2_with fail
  refine (HVl.out _).mono ?_
  rintro e w2 ⟨rfl, b2⟩
  have B2 := hid (B0.out.trans (b2.mono B0.out.size))
  have K2 := hid (K0.out.later b2)
  clear k0 k1 k2 K0 b2
  go_wp2_with fail
  go_ret
  exact ⟨rfl, B2.out⟩
set_option maxHeartbeats 4000000 in
set_option maxRecDepth 100000 in
theorem insert_arg (base g b most : Nat) (ns : List N) (ord : List Nat) (k : ByteArray) (s c : Int) (x : ByteArray) (h : Int) (w : World) (H : SL w base g b most ns ord) (hbase : base ≤ w.heap.size) (hk : k.size ≤ maxLen) (hval : vld k s c = true) (hh : h < 1 ∨ 12 < h) :
    Calls Try.prog 81 #[.pointer (some ⟨g, 0, none⟩), .agg #[.string k, .int .u64 s, .int .i64 c], .string x, .int .i64 h] w fun e w' => e = .returned (.int .i64 2) ∧ Below w.heap.size w w' := by
  obtain ⟨cap, tw, HLs, G, L⟩ := H
  obtain ⟨gk, hgk⟩ : ∃ gk, gk = w.heap.size := ⟨_, rfl⟩
  obtain ⟨W0, hW0⟩ : ∃ W0, W0 = w.alloc (.cells #[.string k, .int .u64 s, .int .i64 c] 48) := ⟨_, rfl⟩
  have B0 : Below w.heap.size w W0 := by rw [hW0]; exact box_below _ _
  have K0 : Bx W0 gk k s c := by rw [hW0, hgk]; exact new_at _ _
  have hm1 := HLs.m1
  have hm2 := HLs.m2
  have hln := HLs.ln
  have L0 := HLs.later B0
  have HN := hid (isnone_any g most _ b _ cap W0 L0.hd hm1)
  have HVl : Hid (∀ W, Calls Try.prog 102 #[.agg #[.string k, .int .u64 s, .int .i64 c]] W fun e w' => e = .returned (.bool true) ∧ Below W.heap.size W w') := fun W => by
    have := valid_any k s c W hk
    rw [hval] at this; exact this
  have HTr : Hid (∀ W, Lst W base g b cap most ns tw → Calls Try.prog 103 #[.pointer (some ⟨g, 0, none⟩), .agg #[.string k, .int .u64 s, .int .i64 c]] W fun e w' => e = .returned (.agg (tow (lastB ns ord (ik k s c)))) ∧ Below W.heap.size W w') := fun W hW => trail_any base g b cap most ns ord tw k s c W hW G L
  have hbh := behind G L (ik k s c)
  have hle := lastB_le G (ik k s c) 0
  have hfl := first_le G (ik k s c)
  obtain ⟨T, hT⟩ : ∃ T, T = lastB ns ord (ik k s c) := ⟨_, rfl⟩
  have HTl : Hid (∀ l, T l ≤ ns.length) := fun l => by rw [hT]; exact lastB_le G _ l
  rw [← hT] at hbh hle HTr
  have hHH := hid HLs
  have HW0 := hid hW0
  have hgk2 := hid hgk
  have HTe := hid hT
  have HBh := hid hbh
  replace B0 := hid B0
  replace K0 := hid K0
  replace G := hid G
  replace L := hid L
  clear hW0 hgk HLs L0 hT hbh hval hk
  go_enter Try.func81, Try.ntmps81
  go_wp2_with fail
  rw [← HW0.out, ← hgk2.out]
  refine HN.out.mono ?_
  rintro e w1 ⟨rfl, rfl⟩
  clear HN HW0
  have k0 := K0.out.c0
  have k1 := K0.out.c1
  have k2 := K0.out.c2
  go_wp2_with fail
  refine (HVl.out _).mono ?_
  rintro e w2 ⟨rfl, b2⟩
  have B2 := hid (B0.out.trans (b2.mono B0.out.size))
  have K2 := hid (K0.out.later b2)
  clear k0 k1 k2 K0 b2
  rcases hh with h1 | h1
  · go_wp2_with fail
    go_ret
    exact ⟨rfl, B2.out⟩
  · have h2 : ¬ h < 1 := by omega
    go_wp2_with fail
    go_ret
    exact ⟨rfl, B2.out⟩
set_option maxHeartbeats 4000000 in
set_option maxRecDepth 100000 in
theorem insert_there (base g b most : Nat) (ns : List N) (ord : List Nat) (k : ByteArray) (s c : Int) (x : ByteArray) (h : Nat) (w : World) (H : SL w base g b most ns ord) (hbase : base ≤ w.heap.size) (hk : k.size ≤ maxLen) (hval : vld k s c = true) (hh : 1 ≤ h ∧ h ≤ 12) (hth : thr ns ord (ik k s c) = true) :
    Calls Try.prog 81 #[.pointer (some ⟨g, 0, none⟩), .agg #[.string k, .int .u64 s, .int .i64 c], .string x, .int .i64 (h : Int)] w fun e w' => e = .returned (.int .i64 81) ∧ Below w.heap.size w w' := by
  obtain ⟨cap, tw, HLs, G, L⟩ := H
  obtain ⟨gk, hgk⟩ : ∃ gk, gk = w.heap.size := ⟨_, rfl⟩
  obtain ⟨W0, hW0⟩ : ∃ W0, W0 = w.alloc (.cells #[.string k, .int .u64 s, .int .i64 c] 48) := ⟨_, rfl⟩
  have B0 : Below w.heap.size w W0 := by rw [hW0]; exact box_below _ _
  have K0 : Bx W0 gk k s c := by rw [hW0, hgk]; exact new_at _ _
  have hm1 := HLs.m1
  have hm2 := HLs.m2
  have hln := HLs.ln
  have L0 := HLs.later B0
  have HN := hid (isnone_any g most _ b _ cap W0 L0.hd hm1)
  have HVl : Hid (∀ W, Calls Try.prog 102 #[.agg #[.string k, .int .u64 s, .int .i64 c]] W fun e w' => e = .returned (.bool true) ∧ Below W.heap.size W w') := fun W => by
    have := valid_any k s c W hk
    rw [hval] at this; exact this
  have HTr : Hid (∀ W, Lst W base g b cap most ns tw → Calls Try.prog 103 #[.pointer (some ⟨g, 0, none⟩), .agg #[.string k, .int .u64 s, .int .i64 c]] W fun e w' => e = .returned (.agg (tow (lastB ns ord (ik k s c)))) ∧ Below W.heap.size W w') := fun W hW => trail_any base g b cap most ns ord tw k s c W hW G L
  have hbh := behind G L (ik k s c)
  have hle := lastB_le G (ik k s c) 0
  have hfl := first_le G (ik k s c)
  obtain ⟨T, hT⟩ : ∃ T, T = lastB ns ord (ik k s c) := ⟨_, rfl⟩
  have HTl : Hid (∀ l, T l ≤ ns.length) := fun l => by rw [hT]; exact lastB_le G _ l
  rw [← hT] at hbh hle HTr
  have hHH := hid HLs
  have HW0 := hid hW0
  have hgk2 := hid hgk
  have HTe := hid hT
  have HBh := hid hbh
  replace B0 := hid B0
  replace K0 := hid K0
  replace G := hid G
  replace L := hid L
  have hhi : (h : Int) ≤ 12 := by omega
  have hlo : 1 ≤ (h : Int) := by omega
  clear hW0 hgk HLs L0 hT hbh hval hk
  go_enter Try.func81, Try.ntmps81
  go_wp2_with fail
  rw [← HW0.out, ← hgk2.out]
  refine HN.out.mono ?_
  rintro e w1 ⟨rfl, rfl⟩
  clear HN HW0
  have k0 := K0.out.c0
  have k1 := K0.out.c1
  have k2 := K0.out.c2
  go_wp2_with fail
  refine (HVl.out _).mono ?_
  rintro e w2 ⟨rfl, b2⟩
  have B2 := hid (B0.out.trans (b2.mono B0.out.size))
  have K2 := hid (K0.out.later b2)
  clear k0 k1 k2 K0 b2
  have k0 := K2.out.c0
  have k1 := K2.out.c1
  have k2 := K2.out.c2
  have HT2 := hid (HTr.out w2 (hHH.out.later B2.out))
  go_wp2_with fail
  refine HT2.out.mono ?_
  rintro e w3 ⟨rfl, b3⟩
  have B3 := hid (B2.out.trans (b3.mono B2.out.size))
  have K3 := hid (K2.out.later b3)
  clear k0 k1 k2 b3 HT2 K2 B2 B0
  have hZ3 := hid (boxZ w3)
  have hA3 := hid (box_below w3 (.cells #[.int .i32 0, .int .i32 0, .int .i32 0, .int .i32 0, .int .i32 0, .int .i32 0, .int .i32 0, .int .i32 0, .int .i32 0, .int .i32 0, .int .i32 0, .int .i32 0] 156))
  have zF : Hid ((tow T).size = 12) := rfl
  have oF : Hid ((tow T).all (·.oneCell') = true) := tow_one _
  go_wp2_with (first | (refine store_arr rfl _ _ 156 rfl w3.heap.size 156 #[.int .i32 0, .int .i32 0, .int .i32 0, .int .i32 0, .int .i32 0, .int .i32 0, .int .i32 0, .int .i32 0, .int .i32 0, .int .i32 0, .int .i32 0, .int .i32 0] (tow T) rfl rfl info12 hZ3.out rfl zF.out oF.out ?_))
  intro w4 K4 g4
  obtain ⟨gt, hgt⟩ : ∃ gt, gt = w3.heap.size := ⟨_, rfl⟩
  have b4 : Below w3.heap.size w3 w4 := (hA3.out).grown g4 (by rw [size_alloc]; omega) (by intro j hj; simp at hj; omega)
  rw [← hgt] at K4
  have B4 := hid (B3.out.trans (b4.mono B3.out.size))
  have KK4 := hid (K3.out.later b4)
  have T4 := hid K4
  have hgt2 := hid hgt
  rw [← hgt]
  clear K4 g4 b4 hA3 hZ3 K3 hgt
  have t0 := cell_of T4.out 0 _ (tow_get T 0 (by omega))
  have L4 := hid (hHH.out.later B4.out)
  have HN4 := hid (next_any base g b cap most ns tw (T 0) 0 w4 L4.out hle (by omega))
  rw [HBh.out] at HN4
  obtain ⟨F, hF⟩ : ∃ F, F = firstN ns ord (ik k s c) := ⟨_, rfl⟩
  have hthr : thr ns ord (ik k s c) = decide (F ≠ 0 ∧ cmp (key ns F) (ik k s c) = 0) := by rw [hF]; rfl
  rw [hth] at hthr
  replace hthr := hid hthr
  rw [← hF] at HN4 hfl
  clear hth HBh HTr HVl
  replace hF := hid hF
  go_wp2_with fail
  refine HN4.out.mono ?_
  rintro e w5 ⟨rfl, rfl⟩
  clear HN4 t0
  have c2 := L4.out.hd.c2
  have c0 := L4.out.hd.c0
  have k0 := KK4.out.c0
  have k1 := KK4.out.c1
  have k2 := KK4.out.c2
  have d1 := fun d os => cell_regrown c2 d os
  have d2 := fun d os => cell_regrown k0 d os
  have d3 := fun d os => cell_regrown k1 d os
  have d4 := fun d os => cell_regrown k2 d os
  clear c2 k0 k1 k2 c0
  have hF0 : F ≠ 0 := by intro e; have := hthr.out; subst e; simp at this
  · skip
    have hy0 : F ≠ 0 := hF0
    have q0 := cell_regrown (L4.out.rw.cell F 0 hfl (by omega))
    have q1 := cell_regrown (L4.out.rw.cell F 1 hfl (by omega))
    have q2 := cell_regrown (L4.out.rw.cell F 2 hfl (by omega))
    have HCm : Hid (∀ W, Calls Try.prog 104 #[.agg #[.string (nd ns F).k, .int .u64 (nd ns F).s, .int .i64 (nd ns F).c], .agg #[.string k, .int .u64 s, .int .i64 c]] W fun e w' => e = .returned (.int .i64 (cmp (key ns F) (ik k s c))) ∧ Below W.heap.size W w') := fun W => compare_below _ _ _ _ _ _ W
    simp only [cv, Nat.add_zero] at q0 q1 q2
    have i1 : (F : Int) < ((ns.length + 1 : Nat) : Int) := by omega
    have i0 : ((F : Int) != 0) = true := by simp; omega
    have hcz : (cmp (key ns F) (ik k s c) == 0) = true := by
      have := hthr.out
      simp [hy0] at this
      simpa using this
    obtain ⟨C, hC⟩ : ∃ C, C = cmp (key ns F) (ik k s c) := ⟨_, rfl⟩
    rw [← hC] at hcz HCm
    generalize (nd ns F).k = yk at *
    generalize (nd ns F).s = ys at *
    generalize (nd ns F).c = yc at *
    clear hC
    clear hthr
    go_wp2_with fail
    refine wp_region_quiet_below (by kernel_rfl) (by kernel_rfl) ?_
    repeat (first | go_big_quiet_step (first | (go_at_call 104; exact Calls.regrown_of (HCm.out _))) | quiet_step (first | (go_at_call 104; exact Calls.regrown_of (HCm.out _))))
    refine wpQuiet_nil ?_
    intro w6 hw6
    have b6 : Below w5.heap.size w5 w6 := by
      obtain ⟨⟨dq, osq⟩, hw''⟩ := hw6
      rw [hw'']
      exact below_regrown _ dq osq
    have B6 := hid (B4.out.trans (b6.mono B4.out.size))
    go_wp2_with fail
    go_ret
    exact ⟨rfl, B6.out⟩
set_option maxHeartbeats 4000000 in
set_option maxRecDepth 100000 in
theorem insert_full (base g b most : Nat) (ns : List N) (ord : List Nat) (k : ByteArray) (s c : Int) (x : ByteArray) (h : Nat) (w : World) (H : SL w base g b most ns ord) (hbase : base ≤ w.heap.size) (hk : k.size ≤ maxLen) (hval : vld k s c = true) (hh : 1 ≤ h ∧ h ≤ 12) (hth : thr ns ord (ik k s c) = false) (hfull : ns.length = most) :
    Calls Try.prog 81 #[.pointer (some ⟨g, 0, none⟩), .agg #[.string k, .int .u64 s, .int .i64 c], .string x, .int .i64 (h : Int)] w fun e w' => e = .returned (.int .i64 82) ∧ Below w.heap.size w w' := by
  obtain ⟨cap, tw, HLs, G, L⟩ := H
  obtain ⟨gk, hgk⟩ : ∃ gk, gk = w.heap.size := ⟨_, rfl⟩
  obtain ⟨W0, hW0⟩ : ∃ W0, W0 = w.alloc (.cells #[.string k, .int .u64 s, .int .i64 c] 48) := ⟨_, rfl⟩
  have B0 : Below w.heap.size w W0 := by rw [hW0]; exact box_below _ _
  have K0 : Bx W0 gk k s c := by rw [hW0, hgk]; exact new_at _ _
  have hm1 := HLs.m1
  have hm2 := HLs.m2
  have hln := HLs.ln
  have L0 := HLs.later B0
  have HN := hid (isnone_any g most _ b _ cap W0 L0.hd hm1)
  have HVl : Hid (∀ W, Calls Try.prog 102 #[.agg #[.string k, .int .u64 s, .int .i64 c]] W fun e w' => e = .returned (.bool true) ∧ Below W.heap.size W w') := fun W => by
    have := valid_any k s c W hk
    rw [hval] at this; exact this
  have HTr : Hid (∀ W, Lst W base g b cap most ns tw → Calls Try.prog 103 #[.pointer (some ⟨g, 0, none⟩), .agg #[.string k, .int .u64 s, .int .i64 c]] W fun e w' => e = .returned (.agg (tow (lastB ns ord (ik k s c)))) ∧ Below W.heap.size W w') := fun W hW => trail_any base g b cap most ns ord tw k s c W hW G L
  have hbh := behind G L (ik k s c)
  have hle := lastB_le G (ik k s c) 0
  have hfl := first_le G (ik k s c)
  obtain ⟨T, hT⟩ : ∃ T, T = lastB ns ord (ik k s c) := ⟨_, rfl⟩
  have HTl : Hid (∀ l, T l ≤ ns.length) := fun l => by rw [hT]; exact lastB_le G _ l
  rw [← hT] at hbh hle HTr
  have hHH := hid HLs
  have HW0 := hid hW0
  have hgk2 := hid hgk
  have HTe := hid hT
  have HBh := hid hbh
  replace B0 := hid B0
  replace K0 := hid K0
  replace G := hid G
  replace L := hid L
  have hhi : (h : Int) ≤ 12 := by omega
  have hlo : 1 ≤ (h : Int) := by omega
  clear hW0 hgk HLs L0 hT hbh hval hk
  go_enter Try.func81, Try.ntmps81
  go_wp2_with fail
  rw [← HW0.out, ← hgk2.out]
  refine HN.out.mono ?_
  rintro e w1 ⟨rfl, rfl⟩
  clear HN HW0
  have k0 := K0.out.c0
  have k1 := K0.out.c1
  have k2 := K0.out.c2
  go_wp2_with fail
  refine (HVl.out _).mono ?_
  rintro e w2 ⟨rfl, b2⟩
  have B2 := hid (B0.out.trans (b2.mono B0.out.size))
  have K2 := hid (K0.out.later b2)
  clear k0 k1 k2 K0 b2
  have k0 := K2.out.c0
  have k1 := K2.out.c1
  have k2 := K2.out.c2
  have HT2 := hid (HTr.out w2 (hHH.out.later B2.out))
  go_wp2_with fail
  refine HT2.out.mono ?_
  rintro e w3 ⟨rfl, b3⟩
  have B3 := hid (B2.out.trans (b3.mono B2.out.size))
  have K3 := hid (K2.out.later b3)
  clear k0 k1 k2 b3 HT2 K2 B2 B0
  have hZ3 := hid (boxZ w3)
  have hA3 := hid (box_below w3 (.cells #[.int .i32 0, .int .i32 0, .int .i32 0, .int .i32 0, .int .i32 0, .int .i32 0, .int .i32 0, .int .i32 0, .int .i32 0, .int .i32 0, .int .i32 0, .int .i32 0] 156))
  have zF : Hid ((tow T).size = 12) := rfl
  have oF : Hid ((tow T).all (·.oneCell') = true) := tow_one _
  go_wp2_with (first | (refine store_arr rfl _ _ 156 rfl w3.heap.size 156 #[.int .i32 0, .int .i32 0, .int .i32 0, .int .i32 0, .int .i32 0, .int .i32 0, .int .i32 0, .int .i32 0, .int .i32 0, .int .i32 0, .int .i32 0, .int .i32 0] (tow T) rfl rfl info12 hZ3.out rfl zF.out oF.out ?_))
  intro w4 K4 g4
  obtain ⟨gt, hgt⟩ : ∃ gt, gt = w3.heap.size := ⟨_, rfl⟩
  have b4 : Below w3.heap.size w3 w4 := (hA3.out).grown g4 (by rw [size_alloc]; omega) (by intro j hj; simp at hj; omega)
  rw [← hgt] at K4
  have B4 := hid (B3.out.trans (b4.mono B3.out.size))
  have KK4 := hid (K3.out.later b4)
  have T4 := hid K4
  have hgt2 := hid hgt
  rw [← hgt]
  clear K4 g4 b4 hA3 hZ3 K3 hgt
  have t0 := cell_of T4.out 0 _ (tow_get T 0 (by omega))
  have L4 := hid (hHH.out.later B4.out)
  have HN4 := hid (next_any base g b cap most ns tw (T 0) 0 w4 L4.out hle (by omega))
  rw [HBh.out] at HN4
  obtain ⟨F, hF⟩ : ∃ F, F = firstN ns ord (ik k s c) := ⟨_, rfl⟩
  have hthr : thr ns ord (ik k s c) = decide (F ≠ 0 ∧ cmp (key ns F) (ik k s c) = 0) := by rw [hF]; rfl
  rw [hth] at hthr
  replace hthr := hid hthr
  rw [← hF] at HN4 hfl
  clear hth HBh HTr HVl
  replace hF := hid hF
  go_wp2_with fail
  refine HN4.out.mono ?_
  rintro e w5 ⟨rfl, rfl⟩
  clear HN4 t0
  have c2 := L4.out.hd.c2
  have c0 := L4.out.hd.c0
  have k0 := KK4.out.c0
  have k1 := KK4.out.c1
  have k2 := KK4.out.c2
  have d1 := fun d os => cell_regrown c2 d os
  have d2 := fun d os => cell_regrown k0 d os
  have d3 := fun d os => cell_regrown k1 d os
  have d4 := fun d os => cell_regrown k2 d os
  clear c2 k0 k1 k2 c0
  by_cases hF0 : F = 0
  · subst hF0
    go_wp2_with fail
    refine wp_region_quiet_below (by kernel_rfl) (by kernel_rfl) ?_
    repeat (first | go_big_quiet_step (fail) | quiet_step (fail))
    refine wpQuiet_nil ?_
    intro w6 hw6
    have b6 : Below w5.heap.size w5 w6 := by
      obtain ⟨⟨dq, osq⟩, hw''⟩ := hw6
      rw [hw'']
      exact below_regrown _ dq osq
    have B6 := hid (B4.out.trans (b6.mono B4.out.size))
    have K6 := hid (KK4.out.later b6)
    have T6 : Hid (Blk w6 gt 156 (tow T)) := (b6.block gt (blk_lt T4.out)).trans T4.out
    have L6 := hid (L4.out.later b6)
    clear d1 d2 d3 d4 hw6 b6
    have e0 := fun d os => cell_regrown L6.out.hd.c0 d os
    have HLen : Hid (∀ d os, Calls Try.prog 67 #[.pointer (some ⟨g, 0, none⟩)] (grow (redrawn w6 d) os) fun e w' => e = .returned (.int .i64 (ns.length : Int)) ∧ Below (grow (redrawn w6 d) os).heap.size (grow (redrawn w6 d) os) w') := fun d os => (len_any g most (top ns) b ns.length cap _ (L6.out.hd.later (below_regrown w6 d os)) hm1 (by omega)).mono (by rintro e w' ⟨rfl, rfl⟩; exact ⟨rfl, Below.refl _ _⟩)
    have hfe : ((ns.length : Int) == (most : Int)) = true := by simp; omega
    go_wp2_with fail
    refine wp_region_quiet_below (by kernel_rfl) (by kernel_rfl) ?_
    repeat (first | go_big_quiet_step (first | (go_at_call 67; exact Calls.regrown_of (HLen.out _ _))) | quiet_step (first | (go_at_call 67; exact Calls.regrown_of (HLen.out _ _))))
    refine wpQuiet_nil ?_
    intro w7 hw7
    have b7 : Below w6.heap.size w6 w7 := by
      obtain ⟨⟨dq, osq⟩, hw''⟩ := hw7
      rw [hw'']
      exact below_regrown _ dq osq
    have B7 := hid (B6.out.trans (b7.mono B6.out.size))
    go_wp2_with fail
    go_ret
    exact ⟨rfl, B7.out⟩
  · skip
    have hy0 : F ≠ 0 := hF0
    have q0 := cell_regrown (L4.out.rw.cell F 0 hfl (by omega))
    have q1 := cell_regrown (L4.out.rw.cell F 1 hfl (by omega))
    have q2 := cell_regrown (L4.out.rw.cell F 2 hfl (by omega))
    have HCm : Hid (∀ W, Calls Try.prog 104 #[.agg #[.string (nd ns F).k, .int .u64 (nd ns F).s, .int .i64 (nd ns F).c], .agg #[.string k, .int .u64 s, .int .i64 c]] W fun e w' => e = .returned (.int .i64 (cmp (key ns F) (ik k s c))) ∧ Below W.heap.size W w') := fun W => compare_below _ _ _ _ _ _ W
    simp only [cv, Nat.add_zero] at q0 q1 q2
    have i1 : (F : Int) < ((ns.length + 1 : Nat) : Int) := by omega
    have i0 : ((F : Int) != 0) = true := by simp; omega
    have hcz : (cmp (key ns F) (ik k s c) == 0) = false := by
      have := hthr.out
      simp [hy0] at this
      simpa using this
    obtain ⟨C, hC⟩ : ∃ C, C = cmp (key ns F) (ik k s c) := ⟨_, rfl⟩
    rw [← hC] at hcz HCm
    generalize (nd ns F).k = yk at *
    generalize (nd ns F).s = ys at *
    generalize (nd ns F).c = yc at *
    clear hC
    go_wp2_with fail
    refine wp_region_quiet_below (by kernel_rfl) (by kernel_rfl) ?_
    repeat (first | go_big_quiet_step (first | (go_at_call 104; exact Calls.regrown_of (HCm.out _))) | quiet_step (first | (go_at_call 104; exact Calls.regrown_of (HCm.out _))))
    refine wpQuiet_nil ?_
    intro w6 hw6
    have b6 : Below w5.heap.size w5 w6 := by
      obtain ⟨⟨dq, osq⟩, hw''⟩ := hw6
      rw [hw'']
      exact below_regrown _ dq osq
    have B6 := hid (B4.out.trans (b6.mono B4.out.size))
    have K6 := hid (KK4.out.later b6)
    have T6 : Hid (Blk w6 gt 156 (tow T)) := (b6.block gt (blk_lt T4.out)).trans T4.out
    have L6 := hid (L4.out.later b6)
    clear d1 d2 d3 d4 hw6 b6 q0 q1 q2 HCm
    have e0 := fun d os => cell_regrown L6.out.hd.c0 d os
    have HLen : Hid (∀ d os, Calls Try.prog 67 #[.pointer (some ⟨g, 0, none⟩)] (grow (redrawn w6 d) os) fun e w' => e = .returned (.int .i64 (ns.length : Int)) ∧ Below (grow (redrawn w6 d) os).heap.size (grow (redrawn w6 d) os) w') := fun d os => (len_any g most (top ns) b ns.length cap _ (L6.out.hd.later (below_regrown w6 d os)) hm1 (by omega)).mono (by rintro e w' ⟨rfl, rfl⟩; exact ⟨rfl, Below.refl _ _⟩)
    have hfe : ((ns.length : Int) == (most : Int)) = true := by simp; omega
    go_wp2_with fail
    refine wp_region_quiet_below (by kernel_rfl) (by kernel_rfl) ?_
    repeat (first | go_big_quiet_step (first | (go_at_call 67; exact Calls.regrown_of (HLen.out _ _))) | quiet_step (first | (go_at_call 67; exact Calls.regrown_of (HLen.out _ _))))
    refine wpQuiet_nil ?_
    intro w7 hw7
    have b7 : Below w6.heap.size w6 w7 := by
      obtain ⟨⟨dq, osq⟩, hw''⟩ := hw7
      rw [hw'']
      exact below_regrown _ dq osq
    have B7 := hid (B6.out.trans (b7.mono B6.out.size))
    go_wp2_with fail
    go_ret
    exact ⟨rfl, B7.out⟩
set_option maxHeartbeats 4000000 in
set_option maxRecDepth 100000 in
theorem insert_ok (base g b most : Nat) (ns : List N) (ord : List Nat) (k : ByteArray) (s c : Int) (x : ByteArray) (h : Nat) (w : World) (H : SL w base g b most ns ord) (hbase : base ≤ w.heap.size) (hk : k.size ≤ maxLen) (hval : vld k s c = true) (hh : 1 ≤ h ∧ h ≤ 12) (hth : thr ns ord (ik k s c) = false) (hfull : ns.length ≠ most) :
    Calls Try.prog 81 #[.pointer (some ⟨g, 0, none⟩), .agg #[.string k, .int .u64 s, .int .i64 c], .string x, .int .i64 (h : Int)] w fun e w' => e = .returned (.int .i64 0) ∧ Fr g b w w' ∧ ∃ b', (b' = b ∨ w.heap.size ≤ b') ∧ SL w' base g b' most (ns ++ [⟨k, s, c, .string x, h⟩]) (ordI ns ord (ik k s c) (ns.length + 1)) := by
  obtain ⟨cap, tw, HLs, G, L⟩ := H
  obtain ⟨gk, hgk⟩ : ∃ gk, gk = w.heap.size := ⟨_, rfl⟩
  obtain ⟨W0, hW0⟩ : ∃ W0, W0 = w.alloc (.cells #[.string k, .int .u64 s, .int .i64 c] 48) := ⟨_, rfl⟩
  have B0 : Below w.heap.size w W0 := by rw [hW0]; exact box_below _ _
  have K0 : Bx W0 gk k s c := by rw [hW0, hgk]; exact new_at _ _
  have hm1 := HLs.m1
  have hm2 := HLs.m2
  have hln := HLs.ln
  have L0 := HLs.later B0
  have HN := hid (isnone_any g most _ b _ cap W0 L0.hd hm1)
  have HVl : Hid (∀ W, Calls Try.prog 102 #[.agg #[.string k, .int .u64 s, .int .i64 c]] W fun e w' => e = .returned (.bool true) ∧ Below W.heap.size W w') := fun W => by
    have := valid_any k s c W hk
    rw [hval] at this; exact this
  have HTr : Hid (∀ W, Lst W base g b cap most ns tw → Calls Try.prog 103 #[.pointer (some ⟨g, 0, none⟩), .agg #[.string k, .int .u64 s, .int .i64 c]] W fun e w' => e = .returned (.agg (tow (lastB ns ord (ik k s c)))) ∧ Below W.heap.size W w') := fun W hW => trail_any base g b cap most ns ord tw k s c W hW G L
  have hbh := behind G L (ik k s c)
  have hle := lastB_le G (ik k s c) 0
  have hfl := first_le G (ik k s c)
  obtain ⟨T, hT⟩ : ∃ T, T = lastB ns ord (ik k s c) := ⟨_, rfl⟩
  have HTl : Hid (∀ l, T l ≤ ns.length) := fun l => by rw [hT]; exact lastB_le G _ l
  rw [← hT] at hbh hle HTr
  have hHH := hid HLs
  have HW0 := hid hW0
  have hgk2 := hid hgk
  have HTe := hid hT
  have HBh := hid hbh
  replace B0 := hid B0
  replace K0 := hid K0
  replace G := hid G
  replace L := hid L
  have hhi : (h : Int) ≤ 12 := by omega
  have hlo : 1 ≤ (h : Int) := by omega
  clear hW0 hgk HLs L0 hT hbh hval hk
  go_enter Try.func81, Try.ntmps81
  go_wp2_with fail
  rw [← HW0.out, ← hgk2.out]
  refine HN.out.mono ?_
  rintro e w1 ⟨rfl, rfl⟩
  clear HN HW0
  have k0 := K0.out.c0
  have k1 := K0.out.c1
  have k2 := K0.out.c2
  go_wp2_with fail
  refine (HVl.out _).mono ?_
  rintro e w2 ⟨rfl, b2⟩
  have B2 := hid (B0.out.trans (b2.mono B0.out.size))
  have K2 := hid (K0.out.later b2)
  clear k0 k1 k2 K0 b2
  have k0 := K2.out.c0
  have k1 := K2.out.c1
  have k2 := K2.out.c2
  have HT2 := hid (HTr.out w2 (hHH.out.later B2.out))
  go_wp2_with fail
  refine HT2.out.mono ?_
  rintro e w3 ⟨rfl, b3⟩
  have B3 := hid (B2.out.trans (b3.mono B2.out.size))
  have K3 := hid (K2.out.later b3)
  clear k0 k1 k2 b3 HT2 K2 B2 B0
  have hZ3 := hid (boxZ w3)
  have hA3 := hid (box_below w3 (.cells #[.int .i32 0, .int .i32 0, .int .i32 0, .int .i32 0, .int .i32 0, .int .i32 0, .int .i32 0, .int .i32 0, .int .i32 0, .int .i32 0, .int .i32 0, .int .i32 0] 156))
  have zF : Hid ((tow T).size = 12) := rfl
  have oF : Hid ((tow T).all (·.oneCell') = true) := tow_one _
  go_wp2_with (first | (refine store_arr rfl _ _ 156 rfl w3.heap.size 156 #[.int .i32 0, .int .i32 0, .int .i32 0, .int .i32 0, .int .i32 0, .int .i32 0, .int .i32 0, .int .i32 0, .int .i32 0, .int .i32 0, .int .i32 0, .int .i32 0] (tow T) rfl rfl info12 hZ3.out rfl zF.out oF.out ?_))
  intro w4 K4 g4
  obtain ⟨gt, hgt⟩ : ∃ gt, gt = w3.heap.size := ⟨_, rfl⟩
  have b4 : Below w3.heap.size w3 w4 := (hA3.out).grown g4 (by rw [size_alloc]; omega) (by intro j hj; simp at hj; omega)
  rw [← hgt] at K4
  have B4 := hid (B3.out.trans (b4.mono B3.out.size))
  have KK4 := hid (K3.out.later b4)
  have T4 := hid K4
  have hgt2 := hid hgt
  rw [← hgt]
  clear K4 g4 b4 hA3 hZ3 K3 hgt
  have t0 := cell_of T4.out 0 _ (tow_get T 0 (by omega))
  have L4 := hid (hHH.out.later B4.out)
  have HN4 := hid (next_any base g b cap most ns tw (T 0) 0 w4 L4.out hle (by omega))
  rw [HBh.out] at HN4
  obtain ⟨F, hF⟩ : ∃ F, F = firstN ns ord (ik k s c) := ⟨_, rfl⟩
  have hthr : thr ns ord (ik k s c) = decide (F ≠ 0 ∧ cmp (key ns F) (ik k s c) = 0) := by rw [hF]; rfl
  rw [hth] at hthr
  replace hthr := hid hthr
  rw [← hF] at HN4 hfl
  clear hth HBh HTr HVl
  replace hF := hid hF
  go_wp2_with fail
  refine HN4.out.mono ?_
  rintro e w5 ⟨rfl, rfl⟩
  clear HN4 t0
  have c2 := L4.out.hd.c2
  have c0 := L4.out.hd.c0
  have k0 := KK4.out.c0
  have k1 := KK4.out.c1
  have k2 := KK4.out.c2
  have d1 := fun d os => cell_regrown c2 d os
  have d2 := fun d os => cell_regrown k0 d os
  have d3 := fun d os => cell_regrown k1 d os
  have d4 := fun d os => cell_regrown k2 d os
  clear c2 k0 k1 k2 c0
  by_cases hF0 : F = 0
  · subst hF0
    go_wp2_with fail
    refine wp_region_quiet_below (by kernel_rfl) (by kernel_rfl) ?_
    repeat (first | go_big_quiet_step (fail) | quiet_step (fail))
    refine wpQuiet_nil ?_
    intro w6 hw6
    have b6 : Below w5.heap.size w5 w6 := by
      obtain ⟨⟨dq, osq⟩, hw''⟩ := hw6
      rw [hw'']
      exact below_regrown _ dq osq
    have B6 := hid (B4.out.trans (b6.mono B4.out.size))
    have K6 := hid (KK4.out.later b6)
    have T6 : Hid (Blk w6 gt 156 (tow T)) := (b6.block gt (blk_lt T4.out)).trans T4.out
    have L6 := hid (L4.out.later b6)
    clear d1 d2 d3 d4 hw6 b6
    have e0 := fun d os => cell_regrown L6.out.hd.c0 d os
    have HLen : Hid (∀ d os, Calls Try.prog 67 #[.pointer (some ⟨g, 0, none⟩)] (grow (redrawn w6 d) os) fun e w' => e = .returned (.int .i64 (ns.length : Int)) ∧ Below (grow (redrawn w6 d) os).heap.size (grow (redrawn w6 d) os) w') := fun d os => (len_any g most (top ns) b ns.length cap _ (L6.out.hd.later (below_regrown w6 d os)) hm1 (by omega)).mono (by rintro e w' ⟨rfl, rfl⟩; exact ⟨rfl, Below.refl _ _⟩)
    have hfe : ((ns.length : Int) == (most : Int)) = false := by simp; omega
    go_wp2_with fail
    refine wp_region_quiet_below (by kernel_rfl) (by kernel_rfl) ?_
    repeat (first | go_big_quiet_step (first | (go_at_call 67; exact Calls.regrown_of (HLen.out _ _))) | quiet_step (first | (go_at_call 67; exact Calls.regrown_of (HLen.out _ _))))
    refine wpQuiet_nil ?_
    intro w7 hw7
    have b7 : Below w6.heap.size w6 w7 := by
      obtain ⟨⟨dq, osq⟩, hw''⟩ := hw7
      rw [hw'']
      exact below_regrown _ dq osq
    have B7 := hid (B6.out.trans (b7.mono B6.out.size))
    have K7 := hid (K6.out.later b7)
    have T7 : Hid (Blk w7 gt 156 (tow T)) := (b7.block gt (blk_lt T6.out)).trans T6.out
    have L7 := hid (L6.out.later b7)
    clear e0 HLen hw7 b7
    have k0 := K7.out.c0
    have k1 := K7.out.c1
    have k2 := K7.out.c2
    have HLk : Hid (Calls Try.prog 105 #[.pointer (some ⟨g, 0, none⟩), .agg #[.string k, .int .u64 s, .int .i64 c, .string x, .int .i32 0, .int .i32 0, .int .i32 0, .int .i32 0, .int .i32 0, .int .i32 0, .int .i32 0, .int .i32 0, .int .i32 0, .int .i32 0, .int .i32 0, .int .i32 0], .int .i64 (h : Int), .agg (tow T)] w7 fun e w' => (∃ u, e = .returned u) ∧ Fr g b w7 w' ∧ ∃ b' cap', (b' = b ∨ w7.heap.size ≤ b') ∧ Lst w' base g b' cap' most (ns ++ [⟨k, s, c, .string x, h⟩]) (fun n lv => if n = ns.length + 1 then tox tw T h lv else upd tw T (ns.length + 1) h n lv)) := link_any base g b cap most ns tw T k s c (.string x) h w7 L7.out (Nat.le_trans hbase B7.out.size) rfl hh HTl.out (by omega)
    go_wp2_with (first | (refine load_arr rfl _ 156 rfl 21 gt 156 (tow T) rfl Try.underlying156 info12 T7.out zF.out ?_) | fail)
    refine HLk.out.mono ?_
    rintro e w8 ⟨⟨u, rfl⟩, F8, b', cap', hb', L8⟩
    have FIN : Hid (Fr g b w w8 ∧ ∃ b', (b' = b ∨ w.heap.size ≤ b') ∧ SL w8 base g b' most (ns ++ [⟨k, s, c, .string x, h⟩]) (ordI ns ord (ik k s c) (ns.length + 1))) := by
      have hno := no_there G.out (ik k s c) (by rw [show thr ns ord (ik k s c) = decide (firstN ns ord (ik k s c) ≠ 0 ∧ cmp (key ns (firstN ns ord (ik k s c))) (ik k s c) = 0) from rfl, ← hF.out]; exact hthr.out.symm)
      have z7 := B7.out.size
      exact ⟨Fr.trans (Fr.of B7.out) F8, b', by omega, cap', _, L8, G.out.ins ⟨k, s, c, .string x, h⟩ hh hno, lk_ins G.out L.out ⟨k, s, c, .string x, h⟩ T HTe.out⟩
    clear F8 L8 hb' HLk
    go_wp2_with fail
    go_ret
    exact ⟨rfl, FIN.out⟩
  · skip
    have hy0 : F ≠ 0 := hF0
    have q0 := cell_regrown (L4.out.rw.cell F 0 hfl (by omega))
    have q1 := cell_regrown (L4.out.rw.cell F 1 hfl (by omega))
    have q2 := cell_regrown (L4.out.rw.cell F 2 hfl (by omega))
    have HCm : Hid (∀ W, Calls Try.prog 104 #[.agg #[.string (nd ns F).k, .int .u64 (nd ns F).s, .int .i64 (nd ns F).c], .agg #[.string k, .int .u64 s, .int .i64 c]] W fun e w' => e = .returned (.int .i64 (cmp (key ns F) (ik k s c))) ∧ Below W.heap.size W w') := fun W => compare_below _ _ _ _ _ _ W
    simp only [cv, Nat.add_zero] at q0 q1 q2
    have i1 : (F : Int) < ((ns.length + 1 : Nat) : Int) := by omega
    have i0 : ((F : Int) != 0) = true := by simp; omega
    have hcz : (cmp (key ns F) (ik k s c) == 0) = false := by
      have := hthr.out
      simp [hy0] at this
      simpa using this
    obtain ⟨C, hC⟩ : ∃ C, C = cmp (key ns F) (ik k s c) := ⟨_, rfl⟩
    rw [← hC] at hcz HCm
    generalize (nd ns F).k = yk at *
    generalize (nd ns F).s = ys at *
    generalize (nd ns F).c = yc at *
    clear hC
    go_wp2_with fail
    refine wp_region_quiet_below (by kernel_rfl) (by kernel_rfl) ?_
    repeat (first | go_big_quiet_step (first | (go_at_call 104; exact Calls.regrown_of (HCm.out _))) | quiet_step (first | (go_at_call 104; exact Calls.regrown_of (HCm.out _))))
    refine wpQuiet_nil ?_
    intro w6 hw6
    have b6 : Below w5.heap.size w5 w6 := by
      obtain ⟨⟨dq, osq⟩, hw''⟩ := hw6
      rw [hw'']
      exact below_regrown _ dq osq
    have B6 := hid (B4.out.trans (b6.mono B4.out.size))
    have K6 := hid (KK4.out.later b6)
    have T6 : Hid (Blk w6 gt 156 (tow T)) := (b6.block gt (blk_lt T4.out)).trans T4.out
    have L6 := hid (L4.out.later b6)
    clear d1 d2 d3 d4 hw6 b6 q0 q1 q2 HCm
    have e0 := fun d os => cell_regrown L6.out.hd.c0 d os
    have HLen : Hid (∀ d os, Calls Try.prog 67 #[.pointer (some ⟨g, 0, none⟩)] (grow (redrawn w6 d) os) fun e w' => e = .returned (.int .i64 (ns.length : Int)) ∧ Below (grow (redrawn w6 d) os).heap.size (grow (redrawn w6 d) os) w') := fun d os => (len_any g most (top ns) b ns.length cap _ (L6.out.hd.later (below_regrown w6 d os)) hm1 (by omega)).mono (by rintro e w' ⟨rfl, rfl⟩; exact ⟨rfl, Below.refl _ _⟩)
    have hfe : ((ns.length : Int) == (most : Int)) = false := by simp; omega
    go_wp2_with fail
    refine wp_region_quiet_below (by kernel_rfl) (by kernel_rfl) ?_
    repeat (first | go_big_quiet_step (first | (go_at_call 67; exact Calls.regrown_of (HLen.out _ _))) | quiet_step (first | (go_at_call 67; exact Calls.regrown_of (HLen.out _ _))))
    refine wpQuiet_nil ?_
    intro w7 hw7
    have b7 : Below w6.heap.size w6 w7 := by
      obtain ⟨⟨dq, osq⟩, hw''⟩ := hw7
      rw [hw'']
      exact below_regrown _ dq osq
    have B7 := hid (B6.out.trans (b7.mono B6.out.size))
    have K7 := hid (K6.out.later b7)
    have T7 : Hid (Blk w7 gt 156 (tow T)) := (b7.block gt (blk_lt T6.out)).trans T6.out
    have L7 := hid (L6.out.later b7)
    clear e0 HLen hw7 b7
    have k0 := K7.out.c0
    have k1 := K7.out.c1
    have k2 := K7.out.c2
    have HLk : Hid (Calls Try.prog 105 #[.pointer (some ⟨g, 0, none⟩), .agg #[.string k, .int .u64 s, .int .i64 c, .string x, .int .i32 0, .int .i32 0, .int .i32 0, .int .i32 0, .int .i32 0, .int .i32 0, .int .i32 0, .int .i32 0, .int .i32 0, .int .i32 0, .int .i32 0, .int .i32 0], .int .i64 (h : Int), .agg (tow T)] w7 fun e w' => (∃ u, e = .returned u) ∧ Fr g b w7 w' ∧ ∃ b' cap', (b' = b ∨ w7.heap.size ≤ b') ∧ Lst w' base g b' cap' most (ns ++ [⟨k, s, c, .string x, h⟩]) (fun n lv => if n = ns.length + 1 then tox tw T h lv else upd tw T (ns.length + 1) h n lv)) := link_any base g b cap most ns tw T k s c (.string x) h w7 L7.out (Nat.le_trans hbase B7.out.size) rfl hh HTl.out (by omega)
    go_wp2_with (first | (refine load_arr rfl _ 156 rfl 21 gt 156 (tow T) rfl Try.underlying156 info12 T7.out zF.out ?_) | fail)
    refine HLk.out.mono ?_
    rintro e w8 ⟨⟨u, rfl⟩, F8, b', cap', hb', L8⟩
    have FIN : Hid (Fr g b w w8 ∧ ∃ b', (b' = b ∨ w.heap.size ≤ b') ∧ SL w8 base g b' most (ns ++ [⟨k, s, c, .string x, h⟩]) (ordI ns ord (ik k s c) (ns.length + 1))) := by
      have hno := no_there G.out (ik k s c) (by rw [show thr ns ord (ik k s c) = decide (firstN ns ord (ik k s c) ≠ 0 ∧ cmp (key ns (firstN ns ord (ik k s c))) (ik k s c) = 0) from rfl, ← hF.out]; exact hthr.out.symm)
      have z7 := B7.out.size
      exact ⟨Fr.trans (Fr.of B7.out) F8, b', by omega, cap', _, L8, G.out.ins ⟨k, s, c, .string x, h⟩ hh hno, lk_ins G.out L.out ⟨k, s, c, .string x, h⟩ T HTe.out⟩
    clear F8 L8 hb' HLk
    go_wp2_with fail
    go_ret
    exact ⟨rfl, FIN.out⟩
end Go.Proofs.Ytefihoohdaegeaa.In

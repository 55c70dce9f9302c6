/- find, Seek; New; the law's key and among. -/
import Derived.Test.YtefihoohdaegeaaOb
namespace Go.Proofs.Ytefihoohdaegeaa.Fi
open Go.ChangeShapes Go.WideShapes Go.ChangeAt Go.RowKit
open Go.Sort (grow)
open Go.Proofs.Ytefihoohdaegeaa.Ik
open Go.Proofs.Ytefihoohdaegeaa.Sg
open Go.Proofs.Ytefihoohdaegeaa.Cm (ik)
open Go.Proofs.Ytefihoohdaegeaa.Vl
open Go.Proofs.Ytefihoohdaegeaa.Mm
open Go.Proofs.Ytefihoohdaegeaa.Tr
open Go.Proofs.Ytefihoohdaegeaa.Li
open Go.Proofs.Ytefihoohdaegeaa.In
open Go.Proofs.Ytefihoohdaegeaa.Ob
set_option linter.unusedVariables false
set_option linter.unusedSimpArgs false

theorem ret2 {k : IntKind} {a c : Int} {p q : Bool} (h : a = c) (h' : p = q) : Ending.returned (.tuple #[.int k a, .bool p]) = .returned (.tuple #[.int k c, .bool q]) := by rw [h, h']
/-- One that is there with the key is the first not below it. -/
theorem first_eq {ns : List N} {ord : List Nat} (G : Gd ns ord) (k : IK) (y : Nat) (hy : y ∈ ord) (h0 : cmp (key ns y) k = 0) : firstN ns ord k = y ∧ thr ns ord k = true := by
  cases ht : thr ns ord k with
  | false => exact absurd h0 (no_there G k ht y hy)
  | true =>
    have h1 := of_decide_eq_true ht
    refine ⟨?_, rfl⟩
    obtain ⟨hm, _⟩ := first_mem G k h1.1
    have e1 : key ns (firstN ns ord k) = key ns y := ((cmp_zero _ _).1 h1.2).trans ((cmp_zero _ _).1 h0).symm
    by_cases hne : firstN ns ord k = y
    · exact hne
    · exfalso
      have hp : ∀ a ∈ ord, ∀ b ∈ ord, a ≠ b → key ns a ≠ key ns b := by
        have hr := G.rise
        intro a ha b hb hab he
        have hcase : ∀ l : List Nat, (l.Pairwise fun a b => cmp (key ns a) (key ns b) < 0) → a ∈ l → b ∈ l → False := by
          intro l
          induction l with
          | nil => intro _ h; cases h
          | cons x l ih =>
            intro hr ha hb
            have hr' := List.pairwise_cons.1 hr
            rcases List.mem_cons.1 ha with e1 | h1
            · rcases List.mem_cons.1 hb with e2 | h2
              · exact hab (e1.trans e2.symm)
              · have := hr'.1 b h2; rw [← e1, he] at this; exact cmp_lt_irrefl _ this
            · rcases List.mem_cons.1 hb with e2 | h2
              · have := hr'.1 a h1; rw [← e2, he] at this; exact cmp_lt_irrefl _ this
              · exact ih hr'.2 h1 h2
        exact hcase ord hr ha hb
      exact hp _ hm _ hy hne e1
set_option maxHeartbeats 4000000 in
set_option maxRecDepth 100000 in
theorem find_any (base g b most : Nat) (ns : List N) (ord : List Nat) (k : ByteArray) (s c : Int) (w : World) (H : SL w base g b most ns ord) :
    Calls Try.prog 95 #[.pointer (some ⟨g, 0, none⟩), .agg #[.string k, .int .u64 s, .int .i64 c]] w fun e w' => e = .returned (.tuple #[.int .i64 (firstN ns ord (ik k s c) : Int), .bool (thr ns ord (ik k s c))]) ∧ Below w.heap.size w w' := by
  obtain ⟨cap, tw, HLs, G, L⟩ := H
  obtain ⟨gk, hgk⟩ : ∃ gk, gk = w.heap.size := ⟨_, rfl⟩
  obtain ⟨W0, hW0⟩ : ∃ W0, W0 = w.alloc (.cells #[.string k, .int .u64 s, .int .i64 c] 48) := ⟨_, rfl⟩
  have B0 : Below w.heap.size w W0 := by rw [hW0]; exact box_below _ _
  have K0 : Bx W0 gk k s c := by rw [hW0, hgk]; exact new_at _ _
  have L0 := HLs.later B0
  have HH := hid (height_any g most (top ns) b _ cap W0 L0.hd HLs.m1)
  have ht := G.top12
  have hm1 := HLs.m1
  have hm2 := HLs.m2
  have hln := HLs.ln
  have hHH := hid HLs
  have HW0 := hid hW0
  have hgk2 := hid hgk
  replace B0 := hid B0
  replace K0 := hid K0
  have htop0 : Hid (top ns = 0 → firstN ns ord (ik k s c) = 0 ∧ thr ns ord (ik k s c) = false) := by
    intro h0
    have : ord = [] := by
      have := G.over 0 (by omega)
      rw [G.chain0] at this; exact this
    subst this
    refine ⟨rfl, ?_⟩
    unfold thr
    simp [firstN, hz]
  replace G := hid G
  replace L := hid L
  obtain ⟨t, hto⟩ : ∃ t, t = top ns := ⟨_, rfl⟩
  rw [← hto] at ht HH
  replace hto := hid hto
  clear hW0 hgk HLs L0
  go_enter Try.func95, Try.ntmps95
  go_wp2_with fail
  rw [← HW0.out, ← hgk2.out]
  refine wp_scope_straight ?_
  go_wp2_with fail
  refine wp_label ?_
  go_wp2_with fail
  refine HH.out.mono ?_
  rintro e w' ⟨rfl, rfl⟩
  clear HH HW0
  go_wp2_with fail
  go_loopw [4, 5, 6, 7] (fun nv sv av lv wr => ∃ a m : Nat, sv = .bool false ∧ av = .int .i64 (a : Int) ∧ lv = .int .i64 ((m : Int) - 1) ∧ m ≤ t ∧ a ≤ ns.length ∧ Hid (m = 0 → nv = .int .i64 (firstN ns ord (ik k s c) : Int) ∧ thr ns ord (ik k s c) = false) ∧ Hid (∀ l, l + 1 = m → ∃ p q, chain ns ord l = p ++ q ∧ p.getLastD 0 = a ∧ ∀ x ∈ p, below ns (ik k s c) x = true) ∧ Hid (Below w.heap.size w wr) ∧ Hid (Bx wr gk k s c))
    (fun _ _ _ lv _ => (intOf lv + 1).toNat)
  case atStart => exact ⟨0, t, rfl, rfl, by go_num, Nat.le_refl _, by omega, fun h0 => by have := htop0.out (by rw [← hto.out]; exact h0); exact ⟨by rw [this.1]; rfl, this.2⟩, fun l _ => enter_top _ l, B0, K0⟩
  case round =>
    obtain ⟨a, m, rfl, rfl, rfl, hm, ha, HZ, HE, HB, HK⟩ := hrel
    cases m with
    | zero =>
      obtain ⟨hz1, hz2⟩ := HZ.out rfl
      subst hz1
      have hz2 := hid hz2
      go_wp2_with fail
      go_ret2
      exact ⟨ret2 rfl hz2.out.symm, HB.out⟩
    | succ l =>
      obtain ⟨p0, q0, e0, ea, hp0⟩ := HE.out l rfl
      have hl12 : l < 12 := by omega
      have HC := hid (L.out l hl12)
      have HN1 := next_any base g b cap most ns tw a l wr (hHH.out.later HB.out) ha hl12
      have hn0 : tw a l = hz q0 := by
        have := HC.out
        rw [e0] at this
        rw [← ea]; exact head_next this
      rw [hn0] at HN1
      replace HN1 := hid HN1
      replace e0 := hid e0
      replace ea := hid ea
      replace hp0 := hid hp0
      have hil : ((l + 1 : Nat) : Int) - 1 = (l : Int) := by omega
      rw [hil]
      clear hil hn0 HE HZ
      go_wp2_with fail
      refine HN1.out.mono ?_
      rintro e w2 ⟨rfl, rfl⟩
      clear HN1
      go_wp2_with fail
      go_loopw [4, 5, 6] (fun nv sv av wq => ∃ (a : Nat) (p q : List Nat), sv = .bool false ∧ av = .int .i64 (a : Int) ∧ nv = .int .i64 ((hz q : Nat) : Int) ∧ a ≤ ns.length ∧ Hid (chain ns ord l = p ++ q) ∧ Hid (p.getLastD 0 = a) ∧ Hid (∀ x ∈ p, below ns (ik k s c) x = true) ∧ Hid (Below w.heap.size w wq) ∧ Hid (Bx wq gk k s c))
        (fun nv _ _ _ => rem (chain ns ord l) (intOf nv).toNat)
      case atStart => exact ⟨a, p0, q0, rfl, rfl, rfl, ha, e0, ea, hp0, HB, HK⟩
      case round =>
        obtain ⟨a1, p, q, rfl, rfl, rfl, ha1, e1, ea1, hp1, HB1, HK1⟩ := hrel
        cases q with
        | nil =>
          have ela : Hid (lastB ns ord (ik k s c) l = a1) := by
            show _ = _
            rw [leave G.out (ik k s c) l e1.out hp1.out (by simp), ea1.out]
          have hdone : Hid (l = 0 → Value.int .i64 0 = .int .i64 (firstN ns ord (ik k s c) : Int) ∧ thr ns ord (ik k s c) = false) := by
            intro h0
            subst h0
            have := leave0 G.out (ik k s c) e1.out hp1.out (by simp)
            rw [show hz [] = 0 from rfl] at this
            refine ⟨by rw [this]; rfl, ?_⟩
            unfold thr
            simp [this]
          rw [show hz [] = 0 from rfl]
          go_wp2_with fail
          refine ⟨⟨a1, l, rfl, rfl, rfl, by omega, ha1, hdone, fun l' hl' => enter G.out (ik k s c) l' a1 (by rw [hl']; exact ela.out.symm), HB1, HK1⟩, ?_⟩
          simp [intOf]
        | cons y q =>
          have c2 := (hHH.out.later HB1.out).hd.c2
          have k0 := HK1.out.c0
          have k1 := HK1.out.c1
          have k2 := HK1.out.c2
          have d1 := fun d os => cell_regrown c2 d os
          have d2 := fun d os => cell_regrown k0 d os
          have d3 := fun d os => cell_regrown k1 d os
          have d4 := fun d os => cell_regrown k2 d os
          clear c2 k0 k1 k2
          have hz0' : hz (y :: q) = y := rfl
          rw [hz0']
          obtain ⟨hy0, hyl⟩ := mem_split G.out e1.out
          have q0 := cell_regrown ((hHH.out.later HB1.out).rw.cell y 0 hyl (by omega))
          have q1 := cell_regrown ((hHH.out.later HB1.out).rw.cell y 1 hyl (by omega))
          have q2 := cell_regrown ((hHH.out.later HB1.out).rw.cell y 2 hyl (by omega))
          have HCm : Hid (∀ W, Calls Try.prog 104 #[.agg #[.string (nd ns y).k, .int .u64 (nd ns y).s, .int .i64 (nd ns y).c], .agg #[.string k, .int .u64 s, .int .i64 c]] W fun e w' => e = .returned (.int .i64 (cmp (key ns y) (ik k s c))) ∧ Below W.heap.size W w') := fun W => compare_below _ _ _ _ _ _ W
          simp only [cv, Nat.add_zero] at q0 q1 q2
          have i1 : (y : Int) < ((ns.length + 1 : Nat) : Int) := by omega
          have i0 : ((y : Int) != 0) = true := by simp; omega
          have hbl : below ns (ik k s c) y = decide (cmp (key ns y) (ik k s c) < 0) := rfl
          obtain ⟨C, hC⟩ : ∃ C, C = cmp (key ns y) (ik k s c) := ⟨_, rfl⟩
          rw [← hC] at hbl HCm
          generalize hyk : (nd ns y).k = yk at *
          generalize hys : (nd ns y).s = ys at *
          generalize hyc : (nd ns y).c = yc at *
          clear hyk hys hyc
          have hym : Hid (y ∈ ord) := (mem_chain.1 (show y ∈ chain ns ord l by rw [e1.out]; simp)).1
          have hrem : Hid (rem (chain ns ord l) y = q.length + 1 ∧ rem (chain ns ord l) (hz q) = q.length) := by
            obtain ⟨n1, n2⟩ := chain_nodup G.out l
            rw [e1.out] at n1 n2 ⊢
            refine ⟨rem_eq (q := y :: q) n1 n2, ?_⟩
            have := rem_eq (p := p ++ [y]) (q := q) (by simpa using n1) (by simpa using n2)
            simpa using this
          rcases Int.lt_trichotomy C 0 with hlt | heq | hgt
          · have hby : Hid (below ns (ik k s c) y = true) := by show _ = _; rw [hbl]; simpa using hlt
            have hne : (C == 0) = false := by simp; omega
            clear hbl hC
            go_wp2_with fail
            refine wp_region_quiet_below (by kernel_rfl) (by kernel_rfl) ?_
            repeat (first | go_big_quiet_step (first | (go_at_call 104; exact Calls.regrown_of (HCm.out _))) | quiet_step (first | (go_at_call 104; exact Calls.regrown_of (HCm.out _))))
            refine wpQuiet_nil ?_
            intro w3 hw3
            have b3 : Below wr.heap.size wr w3 := by
              obtain ⟨⟨dq, osq⟩, hw''⟩ := hw3
              rw [hw'']
              exact below_regrown _ dq osq
            have HB3 := hid (HB1.out.trans (b3.mono HB1.out.size))
            have HK3 := hid (HK1.out.later b3)
            have HN3 := next_any base g b cap most ns tw y l w3 (hHH.out.later HB3.out) hyl hl12
            have hnx : tw y l = hz q := by
              have := HC.out
              rw [e1.out, show p ++ y :: q = (p ++ [y]) ++ q by simp] at this
              have := head_next this
              simpa using this
            rw [hnx] at HN3
            replace HN3 := hid HN3
            clear d1 d2 d3 d4 hw3 b3 q0 q1 q2 hnx HCm
            go_wp2_with fail
            refine HN3.out.mono ?_
            rintro e w4 ⟨rfl, rfl⟩
            clear HN3
            go_wp2_with fail
            refine ⟨⟨y, p ++ [y], q, rfl, rfl, rfl, hyl, by simpa [Hid] using e1.out, by simp [Hid], ?_, HB3, HK3⟩, ?_⟩
            · intro x hx
              rcases List.mem_append.1 hx with h | h
              · exact hp1.out x h
              · rw [List.mem_singleton.1 h]; exact hby.out
            · simp only [intOf, Int.toNat_natCast]
              rw [hrem.out.1, hrem.out.2]; omega
          · have hres := first_eq G.out (ik k s c) y hym.out (by rw [← hC]; exact heq)
            replace hres := hid hres
            have hne : (C == 0) = true := by simp; omega
            clear hbl hC heq
            go_wp2_with fail
            refine wp_region_quiet_below (by kernel_rfl) (by kernel_rfl) ?_
            repeat (first | go_big_quiet_step (first | (go_at_call 104; exact Calls.regrown_of (HCm.out _))) | quiet_step (first | (go_at_call 104; exact Calls.regrown_of (HCm.out _))))
            refine wpQuiet_nil ?_
            intro w3 hw3
            have b3 : Below wr.heap.size wr w3 := by
              obtain ⟨⟨dq, osq⟩, hw''⟩ := hw3
              rw [hw'']
              exact below_regrown _ dq osq
            have HB3 := hid (HB1.out.trans (b3.mono HB1.out.size))
            have HK3 := hid (HK1.out.later b3)
            clear d1 d2 d3 d4 hw3 b3 q0 q1 q2 HCm
            go_wp2_with fail
            unfold Exit.noGoto
            go_ret2
            exact ⟨ret2 (by rw [hres.out.1]) hres.out.2.symm, HB3.out⟩
          · have hnb : below ns (ik k s c) y = false := by rw [hbl]; simp; omega
            have ela : Hid (lastB ns ord (ik k s c) l = a1) := by
              show _ = _
              rw [leave G.out (ik k s c) l e1.out hp1.out (by intro z hz'; simp at hz'; subst hz'; exact hnb), ea1.out]
            have hdone : Hid (l = 0 → Value.int .i64 (y : Int) = .int .i64 (firstN ns ord (ik k s c) : Int) ∧ thr ns ord (ik k s c) = false) := by
              intro h0
              subst h0
              have := leave0 G.out (ik k s c) e1.out hp1.out (by intro z hz'; simp at hz'; subst hz'; exact hnb)
              rw [show hz (y :: q) = y from rfl] at this
              refine ⟨by rw [this], ?_⟩
              unfold thr
              rw [this, ← hC]
              simp; omega
            have hne : (C == 0) = false := by simp; omega
            clear hbl hC hnb
            go_wp2_with fail
            refine wp_region_quiet_below (by kernel_rfl) (by kernel_rfl) ?_
            repeat (first | go_big_quiet_step (first | (go_at_call 104; exact Calls.regrown_of (HCm.out _))) | quiet_step (first | (go_at_call 104; exact Calls.regrown_of (HCm.out _))))
            refine wpQuiet_nil ?_
            intro w3 hw3
            have b3 : Below wr.heap.size wr w3 := by
              obtain ⟨⟨dq, osq⟩, hw''⟩ := hw3
              rw [hw'']
              exact below_regrown _ dq osq
            have HB3 := hid (HB1.out.trans (b3.mono HB1.out.size))
            have HK3 := hid (HK1.out.later b3)
            clear d1 d2 d3 d4 hw3 b3 q0 q1 q2 HCm
            go_wp2_with fail
            refine ⟨⟨a1, l, rfl, rfl, rfl, by omega, ha1, hdone, fun l' hl' => enter G.out (ik k s c) l' a1 (by rw [hl']; exact ela.out.symm), HB3, HK3⟩, ?_⟩
            simp [intOf]
set_option maxHeartbeats 1000000 in
theorem seek_any (base g b most : Nat) (ns : List N) (ord : List Nat) (k : ByteArray) (s c : Int) (w : World) (H : SL w base g b most ns ord) :
    Calls Try.prog 74 #[.pointer (some ⟨g, 0, none⟩), .agg #[.string k, .int .u64 s, .int .i64 c]] w fun e w' => e = .returned (.int .i64 (firstN ns ord (ik k s c) : Int)) ∧ Below w.heap.size w w' := by
  have B0 := box_below w (.cells #[.string k, .int .u64 s, .int .i64 c] 48)
  have HF := hid (find_any base g b most ns ord k s c _ (H.later B0))
  have B0 := hid B0
  go_enter Try.func74, Try.ntmps74
  go_wp2_with fail
  refine HF.out.mono ?_
  rintro e w' ⟨rfl, b1⟩
  have B1 := hid (B0.out.trans (b1.mono B0.out.size))
  go_wp2_with fail
  go_ret
  exact ⟨rfl, B1.out⟩
def oneZ : Array Value := #[.string ⟨#[]⟩, .int .u64 0, .int .i64 0, .string ⟨#[]⟩, .int .i32 0, .int .i32 0, .int .i32 0, .int .i32 0, .int .i32 0, .int .i32 0, .int .i32 0, .int .i32 0, .int .i32 0, .int .i32 0, .int .i32 0, .int .i32 0]
theorem make_one (w : World) : (Instr.makeSlice 133 (.int .i64 1) (.int .i64 1)).run Try.prog w = .ok (.slice (some ⟨w.heap.size, 0, none⟩) 1 1) (w.alloc (.cells oneZ 158)) := by
  obtain ⟨i0, hi, hz0, hz1, hz2⟩ := info_parts infoN
  have hr := run_make (P := Try.prog) w 133 158 i0 _ Try.underlying133 hi hz0 .i64 .i64 1 1 (by omega) (by omega) (by rw [hz2]; omega) (by omega)
  rw [hz1] at hr
  have he : madeCells (Value.agg oneZ).cells 16 = oneZ := by kernel_rfl
  exact hr.trans (by rw [show (Int.toNat 1 * 16) = 16 from rfl]; exact congrArg (fun c => Result.ok _ (w.alloc (.cells c 158))) he)
theorem oneZ_get (j : Nat) (h : j < 16) : oneZ[j]? = some (cv [] (fun _ _ => 0) 0 j) := by
  match j, h with
  | 0, _ => rfl
  | 1, _ => rfl
  | 2, _ => rfl
  | 3, _ => rfl
  | 4, _ => rfl
  | 5, _ => rfl
  | 6, _ => rfl
  | 7, _ => rfl
  | 8, _ => rfl
  | 9, _ => rfl
  | 10, _ => rfl
  | 11, _ => rfl
  | 12, _ => rfl
  | 13, _ => rfl
  | 14, _ => rfl
  | 15, _ => rfl
  | n + 16, h => exact absurd h (by omega)
set_option maxHeartbeats 1000000 in
theorem new_ok (most : Nat) (w : World) (h1 : 1 ≤ most) (h2 : most ≤ 1048576) :
    Calls Try.prog 46 #[.int .i64 (most : Int)] w fun e w' => e = .returned (.tuple #[.pointer (some ⟨w.heap.size + 1, 0, none⟩), .int .i64 0]) ∧ SL w' w.heap.size (w.heap.size + 1) w.heap.size most [] [] ∧ Below w.heap.size w w' := by
  have i1 : ¬ (most : Int) < 1 := by omega
  have i2 : ¬ (1048576 : Int) < (most : Int) := by omega
  have hmk := make_one
  have FIN : Hid (SL ((w.alloc (.cells oneZ 158)).alloc (.cells #[.int .i64 (most : Int), .int .i64 0, .slice (some ⟨w.heap.size, 0, none⟩) 1 1] 135)) w.heap.size (w.heap.size + 1) w.heap.size most [] []) := by
    have s1 := size_alloc w (.cells oneZ 158)
    refine ⟨1, fun _ _ => 0, ⟨?_, ?_, by omega, Nat.le_refl _, by omega, h1, h2, by simp, fun _ _ _ => by simp⟩, Gd.empty, fun lv _ => rfl⟩
    · have := new_at (w.alloc (.cells oneZ 158)) (.cells #[.int .i64 (most : Int), .int .i64 0, .slice (some ⟨w.heap.size, 0, none⟩) 1 1] 135)
      rw [s1] at this
      exact this
    · refine Rw.later (w := w.alloc (.cells oneZ 158)) ⟨oneZ, new_at _ _, rfl, by simp, by unfold maxLen; omega, ?_⟩ (box_below _ _)
      intro i hi j hj
      have : i = 0 := by simpa using hi
      subst this
      rw [Nat.zero_mul, Nat.zero_add]
      exact oneZ_get j hj
  generalize oneZ = Z at *
  go_enter Try.func46, Try.ntmps46
  go_wp2_with fail
  go_ret2
  exact ⟨rfl, FIN.out, (box_below w _).alloc (by rw [size_alloc]; omega) _⟩
theorem tmod_bd (x : Int) (n : Nat) (hn : 1 ≤ n) : -(n : Int) < x.tmod n ∧ x.tmod n < n ∧ (x.tmod n + n) % n = x % n := by
  by_cases h : 0 ≤ x
  · rw [Int.tmod_eq_emod_of_nonneg h]
    have h1 := Int.emod_lt_of_pos x (show (0 : Int) < n by omega)
    have h2 := Int.emod_nonneg x (show (n : Int) ≠ 0 by omega)
    refine ⟨by omega, h1, ?_⟩
    rw [Int.add_emod_right, Int.emod_emod]
  · have e : x = -(-x) := by omega
    have h1 := Int.emod_lt_of_pos (-x) (show (0 : Int) < n by omega)
    have h2 := Int.emod_nonneg (-x) (show (n : Int) ≠ 0 by omega)
    have h3 : x.tmod n = -((-x) % n) := by
      conv => lhs; rw [e]
      rw [Int.neg_tmod, Int.tmod_eq_emod_of_nonneg (by omega)]
    rw [h3]
    refine ⟨by omega, by omega, ?_⟩
    rw [Int.add_emod_right]
    have h4 : -((-x) % n) = x + n * ((-x) / n) := by have := Int.emod_add_mul_ediv (-x) n; omega
    rw [h4, Int.add_mul_emod_self_left]
end Go.Proofs.Ytefihoohdaegeaa.Fi

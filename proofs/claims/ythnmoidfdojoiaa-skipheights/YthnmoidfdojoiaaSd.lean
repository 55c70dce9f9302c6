/- SkipDown walked. -/
import Derived.Test.YthnmoidfdojoiaaWk
import Derived.Test.YthnmoidfdojoiaaGe
namespace Go.Proofs.Ythnmoidfdojoiaa.Sd
open Go.ChangeShapes Go.WideShapes Go.ChangeAt Go.RowKit
open Go.Sort (grow)
open Go.Proofs.Ythnmoidfdojoiaa.Ik
open Go.Proofs.Ythnmoidfdojoiaa.Sg
open Go.Proofs.Ythnmoidfdojoiaa.Cm (ik)
open Go.Proofs.Ythnmoidfdojoiaa.Vl
open Go.Proofs.Ythnmoidfdojoiaa.Mm
open Go.Proofs.Ythnmoidfdojoiaa.Tr
open Go.Proofs.Ythnmoidfdojoiaa.Li
open Go.Proofs.Ythnmoidfdojoiaa.In
open Go.Proofs.Ythnmoidfdojoiaa.Oi
set_option linter.unusedVariables false
set_option linter.unusedSimpArgs false

open Go.Proofs.Ythnmoidfdojoiaa.Tl
open Go.Proofs.Ythnmoidfdojoiaa.Fi

open Go.Proofs.Ythnmoidfdojoiaa.Pu

open Go.Proofs.Ythnmoidfdojoiaa.Wk (key_any works_any)
open Go.Proofs.Ythnmoidfdojoiaa.Ge

/-- What belongs to the nodes is which put they are of. -/
theorem stp_vs {more : Int} {t : S3} {i : Nat} {p : P4} (h : t.ns.map N.v = t.tk.map fun (i : Nat) => Value.int .i64 (i : Int)) : (stp more t i p).ns.map N.v = (stp more t i p).tk.map fun (i : Nat) => Value.int .i64 (i : Int) := by
  unfold stp
  split
  · simp only [List.map_append, h]
    rfl
  · exact h
theorem mk_vs (more : Int) (ps : List P4) : ∀ n, (mk more ps n).ns.map N.v = (mk more ps n).tk.map fun (i : Nat) => Value.int .i64 (i : Int)
  | 0 => rfl
  | n + 1 => stp_vs (mk_vs more ps n)
theorem mk_v (more : Int) (ps : List P4) (len n : Nat) (h1 : 1 ≤ n) (h2 : n ≤ (mk more ps len).ns.length) : (nd (mk more ps len).ns n).v = .int .i64 (((mk more ps len).tk.getD (n - 1) 0 : Nat) : Int) := by
  rw [nd_pos h1]
  have h := mk_vs more ps len
  have hl := (mk_len more ps len).1
  have h3 : ((mk more ps len).ns.map N.v)[n - 1]? = some ((mk more ps len).ns[n - 1]'(by omega)).v := by simp [show n - 1 < (mk more ps len).ns.length by omega]
  rw [h, List.getElem?_map, List.getElem?_eq_getElem (by omega)] at h3
  simp only [Option.map_some, Option.some.injEq] at h3
  rw [List.getD_eq_getElem?_getD, List.getElem?_eq_getElem (by omega), List.getD_eq_getElem?_getD, List.getElem?_eq_getElem (by omega)]
  exact h3.symm
theorem take_succ_last {ns : List N} {k : IK} {l : List Nat} {j n : Nat} (h : l[j]? = some n) : ((l.take (j + 1)).filter (below ns k)).getLastD 0 = if below ns k n = true then n else ((l.take j).filter (below ns k)).getLastD 0 := by
  rw [List.take_add_one, h]
  simp only [Option.toList_some, List.filter_append]
  by_cases hb : below ns k n = true
  · simp [hb]
  · simp [hb]
theorem trl_get (ns : List N) (ord : List Nat) (k : IK) (m i : Nat) (h : i < m) : (zi (trl ns ord k m)).getD i 0 = (lastB ns ord k (top ns - 1 - i) : Int) := by
  unfold zi trl
  rw [List.getD_eq_getElem?_getD, List.getElem?_map, List.getElem?_map, List.getElem?_range h]
  rfl
theorem zi_get {l : List Nat} {j n : Nat} (h : l[j]? = some n) : (zi l).getD j 0 = (n : Int) := by
  unfold zi
  rw [List.getD_eq_getElem?_getD, List.getElem?_map, h]
  rfl
set_option maxHeartbeats 8000000 in
set_option maxRecDepth 100000 in
theorem down_any (a : Option Addr) (len cap : Nat) (ps : List P4) (k : ByteArray) (s c : Int) (w : World) (H : Puts w a len cap ps) (hlen : len ≤ 140737488355328) :
    Calls Try.prog 8 #[.slice a len cap, .agg #[.string k, .int .u64 s, .int .i64 c]] w fun e w' => e = .returned (.bool true) ∧ Below w.heap.size w w' := by
  obtain ⟨gk, hgk⟩ : ∃ gk, gk = w.heap.size := ⟨_, rfl⟩
  obtain ⟨W0, hW0⟩ : ∃ W0, W0 = w.alloc (.cells #[.string k, .int .u64 s, .int .i64 c] 36) := ⟨_, rfl⟩
  have B0 : Below w.heap.size w W0 := by rw [hW0]; exact box_below _ _
  have K0 : Bx W0 gk k s c := by rw [hW0, hgk]; exact new_at _ _
  have HWk := hid (works_any W0)
  have HP := hid (H.later B0)
  replace hW0 := hid hW0
  replace hgk := hid hgk
  replace B0 := hid B0
  replace K0 := hid K0
  obtain ⟨ns, hns⟩ : ∃ ns, ns = (mk 0 ps len).ns := ⟨_, rfl⟩
  obtain ⟨ord, hord⟩ : ∃ ord, ord = (mk 0 ps len).ord := ⟨_, rfl⟩
  obtain ⟨tk, htk⟩ : ∃ tk, tk = (mk 0 ps len).tk := ⟨_, rfl⟩
  have hml : tk.length = ns.length ∧ ns.length ≤ 1048576 := by rw [htk, hns]; exact mk_len 0 ps len
  obtain ⟨hml, hml2⟩ := hml
  have HV : Hid (∀ n, 1 ≤ n → n ≤ ns.length → (nd ns n).v = .int .i64 ((tk.getD (n - 1) 0 : Nat) : Int)) := fun n h1 h2 => by rw [hns, htk]; exact mk_v 0 ps len n h1 (by rw [← hns]; exact h2)
  have HM : Hid (∀ W, Puts W a len cap ps → Calls Try.prog 34 #[.slice a len cap, .int .i64 0] W fun e w' => ∃ v, e = .returned (.tuple #[.pointer (some ⟨W.heap.size + 1, 0, none⟩), v]) ∧ (∃ b, SL w' W.heap.size (W.heap.size + 1) b 1048576 ns ord) ∧ OwnZ w' W.heap.size v (zi tk) ∧ Below W.heap.size W w') := fun W hW => by rw [hns, hord, htk]; exact made_any a len cap ps 0 W hW (by omega) hlen
  clear H hns hord htk hml
  go_enter Try.func8, Try.ntmps8
  go_wp2_with fail
  rw [← hW0.out, ← hgk.out]
  refine HWk.out.mono ?_
  rintro e v1 ⟨rfl, c1⟩
  have K1 := hid (K0.out.later c1)
  have B1 := hid (B0.out.trans (c1.mono B0.out.size))
  have HM1 := HM.out v1 (HP.out.later c1)
  clear c1 HWk hW0 K0 B0 HM
  replace HM1 := hid HM1
  obtain ⟨g, hg⟩ : ∃ g, g = v1.heap.size + 1 := ⟨_, rfl⟩
  rw [← hg] at HM1
  replace hg := hid hg
  go_wp2_with fail
  refine HM1.out.mono ?_
  rintro e v2 ⟨vt, rfl, ⟨b, S2⟩, OT, c2⟩
  obtain ⟨base, hbs⟩ : ∃ base, base = v1.heap.size := ⟨_, rfl⟩
  rw [← hbs] at S2
  have K2 := hid (K1.out.later c2)
  have B2 := hid (B1.out.trans (c2.mono B1.out.size))
  have HT2 := trailing_any base g b 1048576 ns ord k s c v2 S2
  have G : Gd ns ord := by obtain ⟨_, _, _, G, _⟩ := S2; exact G
  have ht12 := G.top12
  replace G := hid G
  replace S2 := hid S2
  replace HT2 := hid HT2
  have k0 := K2.out.c0
  have k1 := K2.out.c1
  have k2 := K2.out.c2
  clear c2 OT HM1 K1 B1 hbs
  go_wp2_with fail
  refine HT2.out.mono ?_
  rintro e V ⟨vr, rfl, OR, c3⟩
  obtain ⟨ar, cr, hvr, har⟩ := OR.shape
  subst hvr
  rw [zi_len, trl_len]
  have OR2 : OwnZ V v2.heap.size (.slice ar (top ns) cr) (zi (trl ns ord (ik k s c) (top ns))) := by
    have := OR
    rwa [zi_len, trl_len] at this
  clear OR
  rename OwnZ V v2.heap.size (.slice ar (top ns) cr) (zi (trl ns ord (ik k s c) (top ns))) => OR
  have K3 := hid (K2.out.later c3)
  have B3 := hid (B2.out.trans (c3.mono B2.out.size))
  have S3 := hid (S2.out.later c3)
  have HHei : Hid (∀ W, Below V.heap.size V W → Calls Try.prog 24 #[.pointer (some ⟨g, 0, none⟩)] W fun e w' => e = .returned (.int .i64 (top ns : Int)) ∧ w' = W) := fun W hW => by
    obtain ⟨cap', tw', h1, _⟩ := S3.out.later hW
    exact height_any g 1048576 (top ns) b _ cap' W h1.hd (by omega)
  have HLk : Hid (∀ W, Below V.heap.size V W → ∀ l : Nat, l < top ns → Calls Try.prog 31 #[.pointer (some ⟨g, 0, none⟩), .int .i64 (l : Int)] W fun e w' => ∃ v, e = .returned v ∧ OwnZ w' W.heap.size v (zi (chain ns ord l)) ∧ Below W.heap.size W w') := fun W hW l hl => links_in base g b 1048576 ns ord l W (S3.out.later hW) hl
  replace OR := hid OR
  have HTG : Hid (∀ i, i < top ns → (zi (trl ns ord (ik k s c) (top ns))).getD i 0 = (lastB ns ord (ik k s c) (top ns - 1 - i) : Int)) := fun i hi => trl_get ns ord _ _ i hi
  have HZL : Hid ((zi (trl ns ord (ik k s c) (top ns))).length = top ns) := by show _ = _; rw [zi_len, trl_len]
  generalize zi (trl ns ord (ik k s c) (top ns)) = Z at *
  clear c3 k0 k1 k2 HT2 K2 B2 S2
  obtain ⟨m, hm⟩ : ∃ m, m = top ns := ⟨_, rfl⟩
  rw [← hm] at OR HHei HLk HTG HZL ht12 ⊢
  replace hm := hid hm
  have HH0 := hid (HHei.out V (Below.refl _ _))
  go_wp2_with fail
  refine HH0.out.mono ?_
  rintro e V' ⟨rfl, rfl⟩
  have hmm : ((m : Int) != (m : Int)) = false := bne_self_eq_false _
  clear HH0
  go_wp2_with fail
  go_loopw [8] (fun iv wr => ∃ i : Nat, iv = .int .i64 (i : Int) ∧ i ≤ m ∧ Hid (Below V'.heap.size V' wr)) (fun iv _ => m - (intOf iv).toNat)
  case atStart => exact ⟨0, rfl, Nat.zero_le _, Below.refl _ _⟩
  case round =>
    obtain ⟨i, rfl, hi, HB⟩ := hrel
    by_cases hlt : i < m
    · have i1 : (i : Int) < (m : Int) := by omega
      obtain ⟨l, hl⟩ : ∃ l, l = m - 1 - i := ⟨_, rfl⟩
      have hil : (m : Int) - 1 - (i : Int) = (l : Int) := by omega
      have hlm : l < m := by omega
      have HH1 := hid (HHei.out wr HB.out)
      have HL1 := hid (HLk.out wr HB.out l hlm)
      have HTi := HTG.out i hlt
      rw [← hl] at HTi
      replace HTi := hid HTi
      replace hl := hid hl
      replace hil := hid hil
      go_wp2_with fail
      refine HH1.out.mono ?_
      rintro e w1 ⟨rfl, rfl⟩
      go_wp2_with fail
      rw [hil.out]
      refine HL1.out.mono ?_
      rintro e w2 ⟨vl, rfl, OL, c2⟩
      obtain ⟨al, cl, hvl, hal⟩ := OL.shape
      subst hvl
      have HCl : Hid ((zi (chain ns ord l)).length = (chain ns ord l).length) := zi_len _
      have B2 := hid (HB.out.trans (c2.mono HB.out.size))
      have hcl : (chain ns ord l).length ≤ 1048576 := by
        have h1 : (chain ns ord l).length ≤ ord.length := List.length_filter_le _ _
        have := G.out.len
        omega
      obtain ⟨n5, hn5⟩ : ∃ n, n = (chain ns ord l).length := ⟨_, rfl⟩
      rw [HCl.out, ← hn5] at OL ⊢
      rw [← hn5] at hcl
      replace OL := hid OL
      replace hn5 := hid hn5
      clear c2 HH1 HL1
      obtain ⟨B, hBs⟩ : ∃ B, B = w1.heap.size := ⟨_, rfl⟩
      rw [← hBs] at OL
      clear hBs
      go_wp2_with fail
      go_loopw [10, 11] (fun lv jv wq => ∃ j : Nat, jv = .int .i64 (j : Int) ∧ j ≤ n5 ∧ lv = .int .i64 (((((chain ns ord l).take j).filter (below ns (ik k s c))).getLastD 0 : Nat) : Int) ∧ Hid (Below w2.heap.size w2 wq)) (fun _ jv _ => n5 - (intOf jv).toNat)
      case atStart => exact ⟨0, rfl, Nat.zero_le _, rfl, Below.refl _ _⟩
      case round =>
        obtain ⟨j, rfl, hj, hlv, HQ⟩ := hrel
        by_cases hjl : j < n5
        · obtain ⟨gl, rfl⟩ : ∃ gl, al = some ⟨gl, 0, none⟩ := by
            rcases hal with rfl | h
            · rcases OL.out.2 with ⟨_, h0⟩ | ⟨_, _, _, e, _⟩
              · rw [HCl.out, ← hn5.out] at h0; omega
              · simp at e
            · exact h
          obtain ⟨n, hn⟩ : ∃ n, (chain ns ord l)[j]? = some n := ⟨_, List.getElem?_eq_getElem (by rw [← hn5.out]; exact hjl)⟩
          have cl1 := (OL.out.later HQ.out).cell j (by rw [HCl.out, ← hn5.out]; exact hjl)
          rw [zi_get hn] at cl1
          have hmem := (G.out.mem n).1 (mem_chain.1 (List.mem_of_getElem? hn)).1
          have hsucc := take_succ_last (ns := ns) (k := ik k s c) hn
          have Bq : Below V'.heap.size V' wr := B2.out.trans (HQ.out.mono B2.out.size)
          have HNd := node_any base g b 1048576 ns ord n _ wr (S3.out.later Bq) hmem (HV.out n hmem.1 hmem.2)
          have hbl : below ns (ik k s c) n = decide (cmp (key ns n) (ik k s c) < 0) := rfl
          have HCm : ∀ W, Calls Try.prog 36 #[.agg #[.string (nd ns n).k, .int .u64 (nd ns n).s, .int .i64 (nd ns n).c], .agg #[.string k, .int .u64 s, .int .i64 c]] W fun e w' => e = .returned (.int .i64 (cmp (key ns n) (ik k s c))) ∧ Below W.heap.size W w' := fun W => compare_below _ _ _ _ _ _ W
          replace HCm := hid HCm
          obtain ⟨C, hC⟩ : ∃ C, C = cmp (key ns n) (ik k s c) := ⟨_, rfl⟩
          rw [← hC] at hbl HCm
          clear hC
          replace HNd := hid HNd
          generalize (nd ns n).k = yk at *
          generalize (nd ns n).s = ys at *
          generalize (nd ns n).c = yc at *
          generalize tk.getD (n - 1) 0 = tv at *
          generalize hLV : (((chain ns ord l).take j).filter (below ns (ik k s c))).getLastD 0 = LV at *
          subst hlv
          replace hn := hid hn
          have i2 : (j : Int) < (n5 : Int) := by omega
          have K4 := hid (K3.out.later Bq)
          clear Bq hLV
          by_cases hc : C < 0
          · rw [if_pos (by rw [hbl]; simpa using hc)] at hsucc
            replace hsucc := hid hsucc
            clear hbl
            go_wp2_with fail
            refine HNd.out.mono ?_
            rintro e w5 ⟨rfl, c5⟩
            have HQ5 := hid (HQ.out.trans (c5.mono HQ.out.size))
            have K5 := hid (K4.out.later c5)
            have cl5 := cell_keep c5 (block_lt_of_cell cl1) cl1
            obtain ⟨W6, hW6⟩ : ∃ W, W = w5.alloc (.cells #[.string yk, .int .u64 ys, .int .i64 yc] 36) := ⟨_, rfl⟩
            have b6 : Below w5.heap.size w5 W6 := by rw [hW6]; exact box_below _ _
            have K6 := K5.out.later b6
            have k0 := K6.c0
            have k1 := K6.c1
            have k2 := K6.c2
            have cl6 := cell_keep b6 (block_lt_of_cell cl5) cl5
            have HQ6 := hid (HQ5.out.trans (b6.mono HQ5.out.size))
            rw [hW6] at k0 k1 k2
            replace hW6 := hid hW6
            clear c5 b6 K6 HNd cl1 K4
            go_wp2_with fail
            rw [← hW6.out]
            refine (HCm.out W6).mono ?_
            rintro e w7 ⟨rfl, c7⟩
            have cl7 := cell_keep c7 (block_lt_of_cell cl6) cl6
            have HQ7 := hid (HQ6.out.trans (c7.mono HQ6.out.size))
            clear c7 k0 k1 k2 cl5 cl6 HCm
            go_wp2_with fail
            refine ⟨⟨j + 1, by simp, by omega, by rw [hsucc.out], HQ7⟩, ?_⟩
            simp only [intOf]; omega
          · rw [if_neg (by rw [hbl]; simpa using hc)] at hsucc
            replace hsucc := hid hsucc
            clear hbl
            go_wp2_with fail
            refine HNd.out.mono ?_
            rintro e w5 ⟨rfl, c5⟩
            have HQ5 := hid (HQ.out.trans (c5.mono HQ.out.size))
            have K5 := hid (K4.out.later c5)
            have cl5 := cell_keep c5 (block_lt_of_cell cl1) cl1
            obtain ⟨W6, hW6⟩ : ∃ W, W = w5.alloc (.cells #[.string yk, .int .u64 ys, .int .i64 yc] 36) := ⟨_, rfl⟩
            have b6 : Below w5.heap.size w5 W6 := by rw [hW6]; exact box_below _ _
            have K6 := K5.out.later b6
            have k0 := K6.c0
            have k1 := K6.c1
            have k2 := K6.c2
            have cl6 := cell_keep b6 (block_lt_of_cell cl5) cl5
            have HQ6 := hid (HQ5.out.trans (b6.mono HQ5.out.size))
            rw [hW6] at k0 k1 k2
            replace hW6 := hid hW6
            clear c5 b6 K6 HNd cl1 K4
            go_wp2_with fail
            rw [← hW6.out]
            refine (HCm.out W6).mono ?_
            rintro e w7 ⟨rfl, c7⟩
            have cl7 := cell_keep c7 (block_lt_of_cell cl6) cl6
            have HQ7 := hid (HQ6.out.trans (c7.mono HQ6.out.size))
            clear c7 k0 k1 k2 cl5 cl6 HCm
            go_wp2_with fail
            refine ⟨⟨j + 1, by simp, by omega, by rw [hsucc.out], HQ7⟩, ?_⟩
            simp only [intOf]; omega
        · have ej : j = n5 := by omega
          subst ej
          have hall : (chain ns ord l).take j = chain ns ord l := List.take_of_length_le (by rw [hn5.out]; exact Nat.le_refl _)
          have hlast : (((chain ns ord l).take j).filter (below ns (ik k s c))).getLastD 0 = lastB ns ord (ik k s c) l := by rw [hall]; rfl
          rw [hlast] at hlv
          subst hlv
          obtain ⟨gt, rfl⟩ : ∃ gt, ar = some ⟨gt, 0, none⟩ := by
            rcases har with rfl | h
            · rcases OR.out.2 with ⟨_, h0⟩ | ⟨_, _, _, e, _⟩
              · rw [HZL.out] at h0; omega
              · simp at e
            · exact h
          have Bq := hid (B2.out.trans (HQ.out.mono B2.out.size))
          have ct := (OR.out.later Bq.out).cell i (by rw [HZL.out]; exact hlt)
          rw [HTi.out] at ct
          generalize lastB ns ord (ik k s c) l = LB at *
          have hne : ((LB : Int) != (LB : Int)) = false := bne_self_eq_false _
          have i2 : ¬ (j : Int) < (j : Int) := by omega
          clear hall hlast HTi
          go_wp2_with fail
          refine ⟨⟨i + 1, by simp, by omega, Bq⟩, ?_⟩
          simp only [intOf]; omega
    · have ei : i = m := by omega
      have i1 : ¬ (i : Int) < (m : Int) := by omega
      subst ei
      have K4 := hid (K3.out.later HB.out)
      have S4 := hid (S3.out.later HB.out)
      have d2 := fun d os => cell_regrown K4.out.c0 d os
      have d3 := fun d os => cell_regrown K4.out.c1 d os
      have d4 := fun d os => cell_regrown K4.out.c2 d os
      have HBf : Hid (∀ d os, Calls Try.prog 26 #[.pointer (some ⟨g, 0, none⟩), .agg #[.string k, .int .u64 s, .int .i64 c]] (Go.Sort.grow (redrawn wr d) os) fun e w' => e = .returned (.int .i64 (lastB ns ord (ik k s c) 0 : Int)) ∧ Below (Go.Sort.grow (redrawn wr d) os).heap.size (Go.Sort.grow (redrawn wr d) os) w') := fun d os => before_any base g b 1048576 ns ord k s c _ (S4.out.later (below_regrown wr d os))
      have HSk : Hid (∀ d os, Calls Try.prog 25 #[.pointer (some ⟨g, 0, none⟩), .agg #[.string k, .int .u64 s, .int .i64 c]] (Go.Sort.grow (redrawn wr d) os) fun e w' => e = .returned (.int .i64 (firstN ns ord (ik k s c) : Int)) ∧ Below (Go.Sort.grow (redrawn wr d) os).heap.size (Go.Sort.grow (redrawn wr d) os) w') := fun d os => seek_any base g b 1048576 ns ord k s c _ (S4.out.later (below_regrown wr d os))
      have HP2 : Hid (∃ P Q, ord = P ++ Q ∧ lastB ns ord (ik k s c) 0 = P.getLastD 0 ∧ firstN ns ord (ik k s c) = hz Q) := by
        refine ⟨_, _, ord_split G.out (ik k s c), ?_, rfl⟩
        unfold lastB; rw [G.out.chain0]
      have hBl : lastB ns ord (ik k s c) 0 ≤ ns.length := lastB_le G.out _ 0
      have hLast : Hid (0 < i → Z.getD (i - 1) 0 = (lastB ns ord (ik k s c) 0 : Int)) := fun h0 => by
        have := HTG.out (i - 1) (by omega)
        rw [this, show i - 1 - (i - 1) = 0 by omega]
      obtain ⟨BF, hBF⟩ : ∃ BF, BF = lastB ns ord (ik k s c) 0 := ⟨_, rfl⟩
      obtain ⟨HR, hHR⟩ : ∃ HR, HR = firstN ns ord (ik k s c) := ⟨_, rfl⟩
      rw [← hBF] at HBf HP2 hLast hBl
      rw [← hHR] at HSk HP2
      clear hBF hHR HTG HLk
      go_wp2_with fail
      refine wp_region_quiet_below (by kernel_rfl) (by kernel_rfl) ?_
      repeat (first | go_big_quiet_step (first | (go_at_call 26; exact Calls.regrown_of (HBf.out _ _)) | (go_at_call 25; exact Calls.regrown_of (HSk.out _ _))) | quiet_step (first | (go_at_call 26; exact Calls.regrown_of (HBf.out _ _)) | (go_at_call 25; exact Calls.regrown_of (HSk.out _ _))))
      refine wpQuiet_nil ?_
      intro w8 hw8
      have b8 : Below wr.heap.size wr w8 := by
        obtain ⟨⟨dq, osq⟩, hw''⟩ := hw8
        rw [hw'']
        exact below_regrown _ dq osq
      have S8 := S4.out.later b8
      have B8 : Hid (Below w.heap.size w w8) := (B3.out.trans (HB.out.mono B3.out.size)).trans (b8.mono (Nat.le_trans B3.out.size HB.out.size))
      have O8 := OR.out.later (HB.out.trans (b8.mono HB.out.size))
      obtain ⟨P, Q, eo, hP, hQ⟩ := HP2.out
      have HFi := firstof_any base g b 1048576 ns ord w8 S8
      have HNx : P ≠ [] → Calls Try.prog 29 #[.pointer (some ⟨g, 0, none⟩), .int .i64 (BF : Int)] w8 fun e w' => e = .returned (.int .i64 (HR : Int)) ∧ w' = w8 := fun hne => by
        obtain ⟨p', n', hpp⟩ : ∃ p' n', P = p' ++ [n'] := ⟨P.dropLast, P.getLast hne, (List.dropLast_concat_getLast hne).symm⟩
        have e1 : BF = n' := by rw [hP, hpp]; simp
        rw [hQ, e1]
        exact nextof_any base g b 1048576 ns ord p' Q n' w8 S8 (by rw [eo, hpp]; simp)
      have HPv : HR ≠ 0 → Calls Try.prog 30 #[.pointer (some ⟨g, 0, none⟩), .int .i64 (HR : Int)] w8 fun e w' => e = .returned (.int .i64 (BF : Int)) ∧ Below w8.heap.size w8 w' := fun hne => by
        cases hq : Q with
        | nil => rw [hq] at hQ; exact absurd hQ hne
        | cons y q =>
          have e1 : HR = y := by rw [hQ, hq]; rfl
          rw [hP, e1]
          exact prevof_any base g b 1048576 ns ord P q y w8 S8 (by rw [eo, hq])
      have hP0 : BF = 0 ↔ P = [] := by
        constructor
        · intro h0
          by_cases hne : P = []
          · exact hne
          · exfalso
            have hm : P.getLast hne ∈ ord := by rw [eo]; exact List.mem_append_left _ (List.getLast_mem hne)
            have := (G.out.mem _).1 hm
            have e1 : BF = P.getLast hne := by rw [hP, List.getLastD_eq_getLast?, List.getLast?_eq_some_getLast hne]; rfl
            omega
        · intro h; rw [hP, h]; rfl
      have hFH : P = [] → hz ord = HR := fun h => by rw [eo, h, hQ]; rfl
      replace HFi := hid HFi
      replace HNx := hid HNx
      replace HPv := hid HPv
      replace hP0 := hid hP0
      replace hFH := hid hFH
      replace O8 := hid O8
      clear d2 d3 d4 HBf HSk hw8 b8 S8 eo hP hQ HP2 S4 K4
      have hbb : ((BF : Int) != (BF : Int)) = false := bne_self_eq_false _
      have TAIL : True := trivial
      by_cases h0 : 0 < i
      · obtain ⟨gt, rfl⟩ : ∃ gt, ar = some ⟨gt, 0, none⟩ := by
          rcases har with rfl | h
          · rcases OR.out.2 with ⟨_, h0'⟩ | ⟨_, _, _, e, _⟩
            · rw [HZL.out] at h0'; omega
            · simp at e
          · exact h
        have ct := O8.out.cell (i - 1) (by rw [HZL.out]; omega)
        rw [hLast.out h0] at ct
        have hi1 : (i : Int) - 1 = ((i - 1 : Nat) : Int) := by omega
        have hi2 : ((i : Int) - 1).toNat = i - 1 := by omega
        by_cases hb0 : BF = 0
        · have HFi2 := HFi.out
          rw [hFH.out (hP0.out.1 hb0)] at HFi2
          replace HFi2 := hid HFi2
          subst hb0
          have hrr : ((HR : Int) == (HR : Int)) = true := by simp
          go_wp2_with fail
          refine HFi2.out.mono ?_
          rintro e w9 ⟨rfl, rfl⟩
          go_wp2_with fail
          go_ret
          exact ⟨rfl, B8.out⟩
        · have HNx2 := hid (HNx.out (fun h => hb0 (hP0.out.2 h)))
          have hbn : ((BF : Int) == 0) = false := by simp; omega
          have hrr : ((HR : Int) == (HR : Int)) = true := by simp
          have hbb2 : ((BF : Int) == (BF : Int)) = true := by simp
          by_cases hr0 : HR = 0
          · subst hr0
            go_wp2_with fail
            refine HNx2.out.mono ?_
            rintro e w9 ⟨rfl, rfl⟩
            go_wp2_with fail
            go_ret
            exact ⟨rfl, B8.out⟩
          · have HPv2 := hid (HPv.out hr0)
            have hrn : ((HR : Int) == 0) = false := by simp; omega
            go_wp2_with fail
            refine HNx2.out.mono ?_
            rintro e w9 ⟨rfl, rfl⟩
            go_wp2_with fail
            refine HPv2.out.mono ?_
            rintro e w10 ⟨rfl, c10⟩
            have B10 := hid (B8.out.trans (c10.mono B8.out.size))
            go_wp2_with fail
            go_ret
            exact ⟨rfl, B10.out⟩
      · have ei0 : i = 0 := by omega
        have hb0 : BF = 0 := by
          have ht := hm.out
          have hov := G.out.over 0 (by omega)
          rw [G.out.chain0] at hov
          have := G.out.len
          rw [hov] at this
          simp at this
          omega
        have HFi2 := HFi.out
        rw [hFH.out (hP0.out.1 hb0)] at HFi2
        replace HFi2 := hid HFi2
        subst hb0
        subst ei0
        have hrr : ((HR : Int) == (HR : Int)) = true := by simp
        go_wp2_with fail
        refine HFi2.out.mono ?_
        rintro e w9 ⟨rfl, rfl⟩
        go_wp2_with fail
        go_ret
        exact ⟨rfl, B8.out⟩
end Go.Proofs.Ythnmoidfdojoiaa.Sd

/- SkipHeights walked. -/
import Derived.Test.YthnmoidfdojoiaaSr
import Derived.Test.YthnmoidfdojoiaaSd
namespace Go.Proofs.Ythnmoidfdojoiaa.Sh
open Go.ChangeShapes Go.WideShapes Go.ChangeAt Go.RowKit
open Go.Sort (grow)
open Go.Proofs.Ythnmoidfdojoiaa.Ik
open Go.Proofs.Ythnmoidfdojoiaa.Sg
open Go.Proofs.Ythnmoidfdojoiaa.Cm (ik)
open Go.Proofs.Ythnmoidfdojoiaa.Vl
open Go.Proofs.Ythnmoidfdojoiaa.Mm
open Go.Proofs.Ythnmoidfdojoiaa.Tr
open Go.Proofs.Ythnmoidfdojoiaa.Li
open Go.Proofs.Ythnmoidfdojoiaa.In
open Go.Proofs.Ythnmoidfdojoiaa.Oi
set_option linter.unusedVariables false
set_option linter.unusedSimpArgs false

open Go.Proofs.Ythnmoidfdojoiaa.Tl
open Go.Proofs.Ythnmoidfdojoiaa.Fi

open Go.Proofs.Ythnmoidfdojoiaa.Pu

open Go.Proofs.Ythnmoidfdojoiaa.Wk (key_any works_any)
open Go.Proofs.Ythnmoidfdojoiaa.Ge
open Go.Proofs.Ythnmoidfdojoiaa.Gn
open Go.Proofs.Ythnmoidfdojoiaa.Sr
open Go.Proofs.Ythnmoidfdojoiaa.Sd (mk_v)

/-! ### Heights change nothing -/
theorem key_map (ns : List N) (n : Nat) : key ns n = ((zn :: ns).map N.ik).getD n zn.ik := by
  unfold key nd
  rw [List.getD_eq_getElem?_getD, List.getD_eq_getElem?_getD, List.getElem?_map]
  cases (zn :: ns)[n]? <;> rfl
def Alike (ns ms : List N) : Prop := ns.map N.ik = ms.map N.ik
theorem Alike.key {ns ms : List N} (h : Alike ns ms) (n : Nat) : key ns n = key ms n := by
  rw [key_map, key_map, List.map_cons, List.map_cons, show ns.map N.ik = ms.map N.ik from h]
theorem Alike.len {ns ms : List N} (h : Alike ns ms) : ns.length = ms.length := by
  have := congrArg List.length (show ns.map N.ik = ms.map N.ik from h)
  simpa using this
theorem Alike.below {ns ms : List N} (h : Alike ns ms) (k : IK) : below ns k = below ms k := by
  funext n
  unfold Sg.below
  rw [h.key n]
theorem Alike.first {ns ms : List N} (h : Alike ns ms) (ord : List Nat) (k : IK) : firstN ns ord k = firstN ms ord k := by
  unfold firstN
  rw [h.below k]
theorem Alike.thr {ns ms : List N} (h : Alike ns ms) (ord : List Nat) (k : IK) : thr ns ord k = thr ms ord k := by
  unfold In.thr
  rw [h.first ord k, h.key]
theorem Alike.ord {ns ms : List N} (h : Alike ns ms) (ord : List Nat) (k : IK) (m : Nat) : ordI ns ord k m = ordI ms ord k m := by
  unfold ordI
  rw [h.below k]
theorem Alike.last {ns ms : List N} {ord : List Nat} (h : Alike ns ms) (G : Gd ns ord) (G' : Gd ms ord) (k : IK) : lastB ns ord k 0 = lastB ms ord k 0 := by
  unfold lastB
  rw [G.chain0, G'.chain0, h.below k]
theorem hgt_in (more h : Int) : 1 ≤ hgt more h ∧ hgt more h ≤ 12 := by unfold hgt; omega
theorem Alike.insE {ns ms : List N} (h : Alike ns ms) (ord : List Nat) (k : ByteArray) (s c : Int) (x y : Int) (hx : 1 ≤ x ∧ x ≤ 12) (hy : 1 ≤ y ∧ y ≤ 12) : insE 1048576 ns ord k s c x = insE 1048576 ms ord k s c y := by
  unfold In.insE
  rw [h.thr, h.len, if_neg (show ¬ (x < 1 ∨ 12 < x) by omega), if_neg (show ¬ (y < 1 ∨ 12 < y) by omega)]
theorem mk_alike (m m' : Int) (ps : List P4) : ∀ n, Alike (mk m ps n).ns (mk m' ps n).ns ∧ (mk m ps n).ord = (mk m' ps n).ord ∧ (mk m ps n).tk = (mk m' ps n).tk
  | 0 => ⟨rfl, rfl, rfl⟩
  | n + 1 => by
    obtain ⟨h1, h2, h3⟩ := mk_alike m m' ps n
    show Alike (stp m (mk m ps n) n (ps.getD n zp)).ns (stp m' (mk m' ps n) n (ps.getD n zp)).ns ∧ (stp m (mk m ps n) n (ps.getD n zp)).ord = (stp m' (mk m' ps n) n (ps.getD n zp)).ord ∧ (stp m (mk m ps n) n (ps.getD n zp)).tk = (stp m' (mk m' ps n) n (ps.getD n zp)).tk
    generalize ps.getD n zp = p
    have hE := h1.insE (mk m ps n).ord p.k p.s p.c _ _ (hgt_in m p.h) (hgt_in m' p.h)
    rw [h2] at hE
    unfold stp
    rw [h2, hE]
    split
    · refine ⟨?_, ?_, ?_⟩
      · show List.map _ _ = List.map _ _
        rw [List.map_append, List.map_append, show (mk m ps n).ns.map N.ik = _ from h1]
        rfl
      · show ordI _ _ _ _ = ordI _ _ _ _
        rw [h1.len, h1.ord]
      · show _ ++ _ = _ ++ _
        rw [h3]
    · exact ⟨h1, h2, h3⟩
set_option maxHeartbeats 1000000 in
/-- Get of a key that is there. -/
theorem get_there (base g b most : Nat) (ns : List N) (ord : List Nat) (k : ByteArray) (s c : Int) (n : Nat) (x : Int) (w : World) (H : SL w base g b most ns ord) (hn : n ∈ ord) (hk : key ns n = ik k s c) (hv : (nd ns n).v = .int .i64 x) :
    Calls Try.prog 20 #[.pointer (some ⟨g, 0, none⟩), .agg #[.string k, .int .u64 s, .int .i64 c]] w fun e w' => e = .returned (.tuple #[.int .i64 x, .bool true]) ∧ Below w.heap.size w w' := by
  have B0 := box_below w (.cells #[.string k, .int .u64 s, .int .i64 c] 36)
  have HF := find_any base g b most ns ord k s c _ (H.later B0)
  have G : Gd ns ord := by obtain ⟨_, _, _, G, _⟩ := H; exact G
  obtain ⟨h1, h2⟩ := first_eq G (ik k s c) n hn ((cmp_zero _ _).2 hk)
  rw [h1, h2] at HF
  have hmem := (G.mem n).1 hn
  replace B0 := hid B0
  replace H := hid H
  replace HF := hid HF
  clear h1 h2 G hk
  go_enter Try.func20, Try.ntmps20
  go_wp2_with fail
  refine HF.out.mono ?_
  rintro e w' ⟨rfl, b1⟩
  have B1 := hid (B0.out.trans (b1.mono B0.out.size))
  obtain ⟨cap, tw, HL, _, _⟩ := H.out.later B1.out
  have c2 := HL.hd.c2
  have q3 := HL.rw.cell n 3 hmem.2 (by omega)
  simp only [cv] at q3
  rw [if_neg (by omega), hv] at q3
  have i1 : (n : Int) < ((ns.length + 1 : Nat) : Int) := by omega
  clear b1 HF HL hv
  go_wp2_with fail
  go_ret2
  exact ⟨rfl, B1.out⟩
set_option maxHeartbeats 8000000 in
set_option maxRecDepth 100000 in
theorem heights_any (a : Option Addr) (len cap : Nat) (ps : List P4) (more : Int) (k : ByteArray) (s c : Int) (w : World) (H : Puts w a len cap ps) (hlen : len ≤ 140737488355328) (hmr : -9223372036854775808 ≤ more ∧ more ≤ 9223372036854775807) :
    Calls Try.prog 7 #[.slice a len cap, .int .i64 more, .agg #[.string k, .int .u64 s, .int .i64 c]] w fun e w' => e = .returned (.bool true) ∧ Below w.heap.size w w' := by
  obtain ⟨gk, hgk⟩ : ∃ gk, gk = w.heap.size := ⟨_, rfl⟩
  obtain ⟨W0, hW0⟩ : ∃ W0, W0 = w.alloc (.cells #[.string k, .int .u64 s, .int .i64 c] 36) := ⟨_, rfl⟩
  have B0 : Below w.heap.size w W0 := by rw [hW0]; exact box_below _ _
  have K0 : Bx W0 gk k s c := by rw [hW0, hgk]; exact new_at _ _
  have HWk := hid (works_any W0)
  have HP := hid (H.later B0)
  replace hW0 := hid hW0
  replace hgk := hid hgk
  replace B0 := hid B0
  replace K0 := hid K0
  have HAm : Hid (∀ W, Calls Try.prog 12 #[.int .i64 more, .int .i64 1000] W fun e w' => e = .returned (.int .i64 (more % 1000)) ∧ w' = W) := fun W => among_any more 1000 W (by omega)
  have hmm : 0 ≤ more % 1000 ∧ more % 1000 ≤ 1000 := by omega
  obtain ⟨al, ao, atk⟩ := mk_alike 0 (more % 1000) ps len
  obtain ⟨ns, hns⟩ : ∃ ns, ns = (mk 0 ps len).ns := ⟨_, rfl⟩
  obtain ⟨ms, hms⟩ : ∃ ms, ms = (mk (more % 1000) ps len).ns := ⟨_, rfl⟩
  obtain ⟨ord, hord⟩ : ∃ ord, ord = (mk 0 ps len).ord := ⟨_, rfl⟩
  obtain ⟨tk, htk⟩ : ∃ tk, tk = (mk 0 ps len).tk := ⟨_, rfl⟩
  have hml : tk.length = ns.length ∧ ns.length ≤ 1048576 := by rw [htk, hns]; exact mk_len 0 ps len
  obtain ⟨hml, hml2⟩ := hml
  have HV : Hid (∀ n, 1 ≤ n → n ≤ ns.length → (nd ns n).v = .int .i64 ((tk.getD (n - 1) 0 : Nat) : Int)) := fun n h1 h2 => by rw [hns, htk]; exact mk_v 0 ps len n h1 (by rw [← hns]; exact h2)
  have HV2 : Hid (∀ n, 1 ≤ n → n ≤ ms.length → (nd ms n).v = .int .i64 ((tk.getD (n - 1) 0 : Nat) : Int)) := fun n h1 h2 => by rw [hms, htk, atk]; exact mk_v (more % 1000) ps len n h1 (by rw [← hms]; exact h2)
  have HM : Hid (∀ W, Puts W a len cap ps → Calls Try.prog 34 #[.slice a len cap, .int .i64 0] W fun e w' => ∃ v, e = .returned (.tuple #[.pointer (some ⟨W.heap.size + 1, 0, none⟩), v]) ∧ (∃ b, SL w' W.heap.size (W.heap.size + 1) b 1048576 ns ord) ∧ OwnZ w' W.heap.size v (zi tk) ∧ Below W.heap.size W w') := fun W hW => by rw [hns, hord, htk]; exact made_any a len cap ps 0 W hW (by omega) hlen
  have HM2 : Hid (∀ W, Puts W a len cap ps → Calls Try.prog 34 #[.slice a len cap, .int .i64 (more % 1000)] W fun e w' => ∃ v, e = .returned (.tuple #[.pointer (some ⟨W.heap.size + 1, 0, none⟩), v]) ∧ (∃ b, SL w' W.heap.size (W.heap.size + 1) b 1048576 ms ord) ∧ OwnZ w' W.heap.size v (zi tk) ∧ Below W.heap.size W w') := fun W hW => by rw [hms, hord, ao, htk, atk]; exact made_any a len cap ps (more % 1000) W hW hmm hlen
  rw [← hns, ← hms] at al
  replace al := hid al
  generalize more % 1000 = mr at *
  clear H hns hord htk hms ao atk hmm
  replace hml := hid hml
  go_enter Try.func7, Try.ntmps7
  go_wp2_with fail
  rw [← hW0.out, ← hgk.out]
  refine HWk.out.mono ?_
  rintro e v1 ⟨rfl, c1⟩
  have K1 := hid (K0.out.later c1)
  have B1 := hid (B0.out.trans (c1.mono B0.out.size))
  have P1 := hid (HP.out.later c1)
  have HM1 := HM.out v1 P1.out
  clear c1 HWk hW0 K0 B0 HM HP
  replace HM1 := hid HM1
  obtain ⟨g, hg⟩ : ∃ g, g = v1.heap.size + 1 := ⟨_, rfl⟩
  rw [← hg] at HM1
  replace hg := hid hg
  go_wp2_with fail
  refine (HAm.out _).mono ?_
  rintro e v1' ⟨rfl, rfl⟩
  go_wp2_with fail
  refine HM1.out.mono ?_
  rintro e v2 ⟨vt, rfl, ⟨b, S2⟩, OT, c2⟩
  obtain ⟨at', ct, hvt, hat⟩ := OT.shape
  subst hvt
  obtain ⟨base, hbs⟩ : ∃ base, base = v1'.heap.size := ⟨_, rfl⟩
  rw [← hbs] at S2 OT
  have K2 := hid (K1.out.later c2)
  have B2 := hid (B1.out.trans (c2.mono B1.out.size))
  have HM2' := HM2.out v2 (P1.out.later c2)
  obtain ⟨g2, hg2⟩ : ∃ g, g = v2.heap.size + 1 := ⟨_, rfl⟩
  rw [← hg2] at HM2'
  replace hg2 := hid hg2
  replace HM2' := hid HM2'
  replace S2 := hid S2
  replace OT := hid OT
  clear c2 HM1 HM2 K1 B1 P1 hbs HAm
  go_wp2_with fail
  refine HM2'.out.mono ?_
  rintro e v3 ⟨vt2, rfl, ⟨b2, T3⟩, OT3, c3⟩
  obtain ⟨base2, hbs2⟩ : ∃ base, base = v2.heap.size := ⟨_, rfl⟩
  rw [← hbs2] at T3 OT3
  have K3 := hid (K2.out.later c3)
  have B3 := hid (B2.out.trans (c3.mono B2.out.size))
  have S3 := S2.out.later c3
  have O3 := OT.out.later c3
  have G : Gd ns ord := by obtain ⟨_, _, _, G, _⟩ := S3; exact G
  have G2 : Gd ms ord := by obtain ⟨_, _, _, G, _⟩ := T3; exact G
  have hol := G.len
  have HI3 := ints_eq _ _ _ _ _ v3 O3 OT3 (by rw [zi_len, hml.out]; omega)
  replace hol := hid hol
  replace HI3 := hid HI3
  replace S3 := hid S3
  replace T3 := hid T3
  replace O3 := hid O3
  replace G := hid G
  replace G2 := hid G2
  clear c3 HM2' S2 OT K2 B2 OT3 hbs2
  go_wp2_with fail
  refine HI3.out.mono ?_
  rintro e v4 ⟨rfl, c4⟩
  have K4 := hid (K3.out.later c4)
  have B4 := hid (B3.out.trans (c4.mono B3.out.size))
  have S4 := hid (S3.out.later c4)
  have T4 := hid (T3.out.later c4)
  have O4 := hid (O3.out.later c4)
  have HG4 := hid (gone_any base g b 1048576 ns ord v4 S4.out)
  clear c4 HI3 S3 T3 O3 K3 B3
  go_wp2_with fail
  refine HG4.out.mono ?_
  rintro e v5 ⟨vn, vk, rfl, ON, OK, c5⟩
  obtain ⟨an, cn, hvn, han⟩ := ON.shape
  obtain ⟨ak, ck, hvk, hak⟩ := row_shape OK
  subst hvn hvk
  have K5 := hid (K4.out.later c5)
  have B5 := hid (B4.out.trans (c5.mono B4.out.size))
  have S5 := hid (S4.out.later c5)
  have T5 := hid (T4.out.later c5)
  have O5 := hid (O4.out.later c5)
  have HG5 := hid (gone_any base2 g2 b2 1048576 ms ord v5 T5.out)
  replace ON := hid ON
  replace OK := hid OK
  clear c5 HG4 S4 T4 O4 K4 B4
  go_wp2_with fail
  refine HG5.out.mono ?_
  rintro e V ⟨vn2, vk2, rfl, ON2, OK2, c6⟩
  have K6 := hid (K5.out.later c6)
  have B6 := hid (B5.out.trans (c6.mono B5.out.size))
  have S6 := hid (S5.out.later c6)
  have T6 := hid (T5.out.later c6)
  have O6 := hid (O5.out.later c6)
  have ON6 := hid (ON.out.later c6)
  have OK6 : Hid (OwnK V v4.heap.size (.slice ak ord.length ck) ns ord) := row_later OK.out c6
  obtain ⟨m4, hm4⟩ : ∃ m, m = v4.heap.size := ⟨_, rfl⟩
  rw [← hm4] at ON6 OK6
  have hzl : (zi ord).length = ns.length := by rw [zi_len]; exact hol.out
  have HIq : Hid (∀ d os, Calls Try.prog 35 #[.slice an (zi ord).length cn, vn2] (grow (redrawn V d) os) fun e w' => e = .returned (.bool true) ∧ Below (grow (redrawn V d) os).heap.size (grow (redrawn V d) os) w') := fun d os => ints_eq _ _ _ _ _ _ (ON6.out.later (below_regrown V d os)) (ON2.later (below_regrown V d os)) (by rw [hzl]; omega)
  have hsk : firstN ms ord (ik k s c) = firstN ns ord (ik k s c) := (al.out.first ord _).symm
  have hbf : lastB ms ord (ik k s c) 0 = lastB ns ord (ik k s c) 0 := (al.out.last G.out G2.out _).symm
  have HSa : Hid (∀ d os, Calls Try.prog 25 #[.pointer (some ⟨g, 0, none⟩), .agg #[.string k, .int .u64 s, .int .i64 c]] (grow (redrawn V d) os) fun e w' => e = .returned (.int .i64 (firstN ns ord (ik k s c) : Int)) ∧ Below (grow (redrawn V d) os).heap.size (grow (redrawn V d) os) w') := fun d os => seek_any base g b 1048576 ns ord k s c _ (S6.out.later (below_regrown V d os))
  have HSb : Hid (∀ d os, Calls Try.prog 25 #[.pointer (some ⟨g2, 0, none⟩), .agg #[.string k, .int .u64 s, .int .i64 c]] (grow (redrawn V d) os) fun e w' => e = .returned (.int .i64 (firstN ns ord (ik k s c) : Int)) ∧ Below (grow (redrawn V d) os).heap.size (grow (redrawn V d) os) w') := fun d os => by rw [← hsk]; exact seek_any base2 g2 b2 1048576 ms ord k s c _ (T6.out.later (below_regrown V d os))
  have HBa : Hid (∀ d os, Calls Try.prog 26 #[.pointer (some ⟨g, 0, none⟩), .agg #[.string k, .int .u64 s, .int .i64 c]] (grow (redrawn V d) os) fun e w' => e = .returned (.int .i64 (lastB ns ord (ik k s c) 0 : Int)) ∧ Below (grow (redrawn V d) os).heap.size (grow (redrawn V d) os) w') := fun d os => before_any base g b 1048576 ns ord k s c _ (S6.out.later (below_regrown V d os))
  have HBb : Hid (∀ d os, Calls Try.prog 26 #[.pointer (some ⟨g2, 0, none⟩), .agg #[.string k, .int .u64 s, .int .i64 c]] (grow (redrawn V d) os) fun e w' => e = .returned (.int .i64 (lastB ns ord (ik k s c) 0 : Int)) ∧ Below (grow (redrawn V d) os).heap.size (grow (redrawn V d) os) w') := fun d os => by rw [← hbf]; exact before_any base2 g2 b2 1048576 ms ord k s c _ (T6.out.later (below_regrown V d os))
  have d2 := fun d os => cell_regrown K6.out.c0 d os
  have d3 := fun d os => cell_regrown K6.out.c1 d os
  have d4 := fun d os => cell_regrown K6.out.c2 d os
  rw [hzl] at HIq
  rw [hzl, hol.out]
  have ON7 : Hid (OwnZ V m4 (.slice an ns.length cn) (zi ord)) := by rw [← hzl]; exact ON6
  have OK7 : Hid (OwnK V m4 (.slice ak ns.length ck) ns ord) := by rw [← hol.out]; exact OK6
  have hzt : (zi tk).length = ns.length := by rw [zi_len]; exact hml.out
  rw [hzt]
  have OT7 : Hid (OwnZ V base (.slice at' ns.length ct) (zi tk)) := by rw [← hzt]; exact O6
  replace hzl := hid hzl
  replace hzt := hid hzt
  clear c6 HG5 S5 T5 O5 K5 B5 ON2 OK2 ON OK ON6 OK6 O6 hsk hbf hm4
  generalize firstN ns ord (ik k s c) = FN at *
  generalize lastB ns ord (ik k s c) 0 = LB at *
  have n1 : ((FN : Int) != (FN : Int)) = false := bne_self_eq_false _
  have n2 : ((LB : Int) != (LB : Int)) = false := bne_self_eq_false _
  have n3 : ((ns.length : Int) != (ns.length : Int)) = false := bne_self_eq_false _
  go_wp2_with fail
  refine wp_region_quiet_below (by kernel_rfl) (by kernel_rfl) ?_
  repeat (first | go_big_quiet_step (first | (go_at_call 35; exact Calls.regrown_of (HIq.out _ _)) | (go_at_call 25; first | with_reducible exact Calls.regrown_of (HSa.out _ _) | with_reducible exact Calls.regrown_of (HSb.out _ _)) | (go_at_call 26; first | with_reducible exact Calls.regrown_of (HBa.out _ _) | with_reducible exact Calls.regrown_of (HBb.out _ _))) | quiet_step (first | (go_at_call 35; exact Calls.regrown_of (HIq.out _ _)) | (go_at_call 25; first | with_reducible exact Calls.regrown_of (HSa.out _ _) | with_reducible exact Calls.regrown_of (HSb.out _ _)) | (go_at_call 26; first | with_reducible exact Calls.regrown_of (HBa.out _ _) | with_reducible exact Calls.regrown_of (HBb.out _ _))))
  refine wpQuiet_nil ?_
  intro w8 hw8
  have b8 : Below V.heap.size V w8 := by
    obtain ⟨⟨dq, osq⟩, hw''⟩ := hw8
    rw [hw'']
    exact below_regrown _ dq osq
  replace b8 := hid b8
  clear d2 d3 d4 HIq HSa HSb HBa HBb hw8
  go_wp2_with fail
  go_loopw [15] (fun iv wr => ∃ i : Nat, iv = .int .i64 (i : Int) ∧ i ≤ ns.length ∧ Hid (Below V.heap.size V wr)) (fun iv _ => ns.length - (intOf iv).toNat)
  case atStart => exact ⟨0, rfl, Nat.zero_le _, b8⟩
  case round =>
    obtain ⟨i, rfl, hi, HB⟩ := hrel
    by_cases hlt : i < ns.length
    · obtain ⟨ga, rfl⟩ : ∃ ga, ak = some ⟨ga, 0, none⟩ := by
        rcases hak with rfl | h
        · rcases OK7.out.2 with ⟨_, h0⟩ | ⟨_, _, _, e, _⟩
          · rw [hol.out] at h0; omega
          · simp at e
        · exact h
      obtain ⟨gn, rfl⟩ : ∃ gn, an = some ⟨gn, 0, none⟩ := by
        rcases han with rfl | h
        · rcases ON7.out.2 with ⟨_, h0⟩ | ⟨_, _, _, e, _⟩
          · rw [hzl.out] at h0; omega
          · simp at e
        · exact h
      obtain ⟨gt, rfl⟩ : ∃ gt, at' = some ⟨gt, 0, none⟩ := by
        rcases hat with rfl | h
        · rcases OT7.out.2 with ⟨_, h0⟩ | ⟨_, _, _, e, _⟩
          · rw [hzt.out] at h0; omega
          · simp at e
        · exact h
      obtain ⟨x, hx⟩ : ∃ x, ord[i]? = some x := ⟨_, List.getElem?_eq_getElem (by rw [hol.out]; omega)⟩
      have hxm := List.mem_of_getElem? hx
      have hmem := (G.out.mem x).1 hxm
      obtain ⟨q0, q1, q2⟩ := OwnK.cells (row_later OK7.out HB.out) i x hx
      have HGa := get_there base g b 1048576 ns ord (nd ns x).k (nd ns x).s (nd ns x).c x _ wr (S6.out.later HB.out) hxm rfl (HV.out x hmem.1 hmem.2)
      have HGb : ∀ W, Below V.heap.size V W → Calls Try.prog 20 #[.pointer (some ⟨g2, 0, none⟩), .agg #[.string (nd ns x).k, .int .u64 (nd ns x).s, .int .i64 (nd ns x).c]] W fun e w' => e = .returned (.tuple #[.int .i64 ((tk.getD (x - 1) 0 : Nat) : Int), .bool true]) ∧ Below W.heap.size W w' := fun W hW => get_there base2 g2 b2 1048576 ms ord (nd ns x).k (nd ns x).s (nd ns x).c x _ W (T6.out.later hW) hxm (al.out.key x).symm (HV2.out x hmem.1 (by rw [← al.out.len]; exact hmem.2))
      have htc : ∀ W, Below V.heap.size V W → W.cell? ⟨gt, x - 1, none⟩ = some (.int .i64 ((tk.getD (x - 1) 0 : Nat) : Int)) := fun W hW => by
        have := (OT7.out.later hW).cell (x - 1) (by rw [hzt.out]; omega)
        rw [this]
        congr 2
        unfold zi
        rw [List.getD_eq_getElem?_getD, List.getElem?_map, List.getD_eq_getElem?_getD]
        cases tk[x - 1]? <;> rfl
      have hnc : ∀ W, Below V.heap.size V W → W.cell? ⟨gn, i, none⟩ = some (.int .i64 (x : Int)) := fun W hW => by
        have := (ON7.out.later hW).cell i (by rw [hzl.out]; omega)
        rw [this, Sd.zi_get hx]
      replace HGa := hid HGa
      replace HGb := hid HGb
      replace htc := hid htc
      replace hnc := hid hnc
      generalize tk.getD (x - 1) 0 = tv at *
      generalize (nd ns x).k = yk at *
      generalize (nd ns x).s = ys at *
      generalize (nd ns x).c = yc at *
      have i1 : (i : Int) < (ns.length : Int) := by omega
      clear hx hxm
      go_wp2_with fail
      refine HGa.out.mono ?_
      rintro e w9 ⟨rfl, c9⟩
      have HB9 := hid (HB.out.trans (c9.mono HB.out.size))
      have p0 := cell_keep c9 (block_lt_of_cell q0) q0
      have p1 := cell_keep c9 (block_lt_of_cell q1) q1
      have p2 := cell_keep c9 (block_lt_of_cell q2) q2
      have HGb9 := hid (HGb.out w9 HB9.out)
      clear c9 q0 q1 q2 HGa HGb
      go_wp2_with fail
      refine HGb9.out.mono ?_
      rintro e w10 ⟨rfl, c10⟩
      have HB10 := hid (HB9.out.trans (c10.mono HB9.out.size))
      have t1 := htc.out w10 HB10.out
      have t2 := hnc.out w10 HB10.out
      have j1 : ¬ (x : Int) < 1 := by omega
      have j2 : ¬ (ns.length : Int) < (x : Int) := by omega
      have j3 : ((x : Int) - 1).toNat = x - 1 := by omega
      have j4 : 0 ≤ (x : Int) - 1 := by omega
      have j5 : (x : Int) - 1 < (ns.length : Int) := by omega
      have j6 : ((tv : Int) != (tv : Int)) = false := bne_self_eq_false _
      clear c10 HGb9 htc hnc p0 p1 p2
      go_wp2_with fail
      refine ⟨⟨i + 1, by simp, by omega, HB10⟩, ?_⟩
      simp only [intOf]; omega
    · have i1 : ¬ (i : Int) < (ns.length : Int) := by omega
      have BF : Hid (Below w.heap.size w wr) := B6.out.trans (HB.out.mono B6.out.size)
      go_wp2_with fail
      go_ret
      exact ⟨rfl, BF.out⟩
end Go.Proofs.Ythnmoidfdojoiaa.Sh

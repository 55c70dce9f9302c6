/- Asks by its contract. -/
import Derived.Test.YtkpihibeohjfnaaAq
import Derived.Sort.LoopGhostIn
namespace Go.Proofs.Ytkpihibeohjfnaa.As
open Go.ChangeShapes Go.WideShapes Go.ChangeAt Go.RowKit Go.Shelf
open Go.Proofs.Ytkpihibeohjfnaa.Gr
open Go.Proofs.Ytkpihibeohjfnaa.Ev
open Go.Proofs.Ytkpihibeohjfnaa.Oe
open Go.Proofs.Ytkpihibeohjfnaa.Lv
open Go.Proofs.Ytkpihibeohjfnaa.Vp
open Go.Proofs.Ytkpihibeohjfnaa.Vq
open Go.Proofs.Ytkpihibeohjfnaa.Vr
open Go.Proofs.Ytkpihibeohjfnaa.Vt
open Go.Proofs.Ytkpihibeohjfnaa.Vu
open Go.Proofs.Ytkpihibeohjfnaa.Vv
open Go.Proofs.Ytkpihibeohjfnaa.Vw
open Go.Proofs.Ytkpihibeohjfnaa.Vx
open Go.Proofs.Ytkpihibeohjfnaa.Ba
open Go.Proofs.Ytkpihibeohjfnaa.Aq
open Go.Proofs.Ytkpihibeohjfnaa.Rq (range_q wpListIn_append_run keeps_grown keeps_set belowK_b' put_grown not_cells)
open Go.Proofs.Ytkpihibeohjfnaa.Lx (lt)
set_option linter.unusedVariables false
set_option linter.unusedSimpArgs false
attribute [local go_sem] Oper.semAt_some

def onlyN (Q : Exit → Act → World → Prop) : Exit → Act → World → Prop
  | .normal, a, w => Q .normal a w
  | _, _, _ => False
theorem onlyN_of {Q : Exit → Act → World → Prop} {e : Exit} {a : Act} {w : World} (h : onlyN Q e a w) : Q e a w := by
  cases e <;> first | exact h | exact h.elim
theorem onlyN_mk {Q : Exit → Act → World → Prop} {a : Act} {w : World} (h : Q .normal a w) : onlyN Q .normal a w := h
theorem wpIn_onlyN {F : Fence} {n : Nat} {P : Program} {c : Code} {Q : Exit → Act → World → Prop} {a : Act} {w : World} (h : c.wpIn F n P (onlyN Q) a w) : c.wpIn F n P Q a w := wpIn_mono h (fun e a w h => onlyN_of h)
theorem wp_onlyN {P : Program} {c : Code} {Q : Exit → Act → World → Prop} {a : Act} {w : World} (h : c.wp P (onlyN Q) a w) : c.wp P Q a w := wpIn_wide.1 (wpIn_onlyN (wpIn_wide.2 h) : c.wpIn Fence.wide 1 P Q a w)
theorem wp_append_run {P : Program} {w w' : World} {o : Oper} {a : Act} {K : Act → World → Prop} {Q : Exit → Act → World → Prop} (s x : Operand) (t tx : TypeId) (hop : o.op = Op.call { callee := Callee.builtin Builtin.append, args := #[s, x], argTypes := #[t, tx] })
    (u v v' : Value) (hs : a.eval s = u) (hx : a.eval x = v) (hrun : (Builtin.append_ #[t, tx] o.type #[u, v]).run P w = .ok v' w') (hK : K (a.put o.dst v') w') : o.wp P a w K Q := by
  unfold Oper.wp
  simp [execOp, hop, resolve, invoke, builtin, hs, hx, hrun, Result.andThen]
  exact hK
theorem below_mid {n : Nat} {w A B : World} (h1 : Below n w A) (h2 : Below n w B) (hs : A.heap.size ≤ B.heap.size) : Below n A B := ⟨h2.os.trans h1.os.symm, h2.tape.trans h1.tape.symm, h2.output.trans h1.output.symm, hs, fun j hj => (h2.block j hj).trans (h1.block j hj).symm⟩
def mark (D : Nat) : Deferred := { target := .collected D, args := #[] }
/-- Marks of which none was left a call are taken, one behind the other. -/
theorem leaves_all {m : Nat} {fn : Func} {tmps : Array Value} {R : Ending → World → Prop} (G : World → Prop) : ∀ (Ds : List Nat) (W : World), Ds.Nodup → (∀ D ∈ Ds, W.heap[D]? = some (.deferred (some []))) → G W →
    (∀ V D o, D ∈ Ds → G V → G (V.putObj D o)) → (∀ V, G V → LeavesIn Fence.wide m Try.prog fn tmps R [] .returning V) → LeavesInM Fence.wide m Try.prog fn tmps R (Ds.map mark) .returning W
  | [], W, _, _, hG, _, hE => hE W hG
  | D :: Ds, W, hn, hm, hG, hP, hE => by
    refine ⟨by simp, .inl ⟨D, _, rfl, run_takeDeferred (hm D (by simp)), ?_⟩⟩
    refine leaves_all G Ds _ (List.nodup_cons.1 hn).2 (fun E hE => ?_) (hP _ _ _ (by simp) hG) (fun V E o hE hV => hP V E o (by simp [hE]) hV) hE
    exact (World.putObj_heap_other (by rintro rfl; exact (List.nodup_cons.1 hn).1 hE)).trans (hm E (by simp [hE]))
theorem asks_no (a : Option Addr) (len cap : Nat) (L : List (List Fi)) (key : ByteArray) (w : World) (H : Lvs w a len cap L) (hw : wL L ≤ 1048576) (hv : vld L = false) :
    Calls Try.prog 30 #[.slice a len cap, .string key] w fun e w' => ∃ v, e = .returned v ∧ Acc ePl w w' v [] := by
  have b0 := box_below w (.cells #[.string key] 9)
  have HV := valid_any a len cap L _ (H.later b0) hw
  rw [hv] at HV
  replace HV := hid HV
  replace b0 := hid b0
  clear hv H
  go_enter Try.func30, Try.ntmps30
  go_wp2_with fail
  refine wp_scope_straight ?_
  go_wp2_with (first | (go_at_call 11; refine HV.out.mono ?_; rintro e w1 ⟨rfl, b1⟩; replace b1 := hid b1))
  simp only [Exit.noGoto]
  go_ret
  exact ⟨_, rfl, (Acc.nil ePl w).later (Below.up b0.out b1.out)⟩
set_option maxRecDepth 100000 in
set_option maxHeartbeats 1000000 in
theorem asks_in (a : Option Addr) (len cap : Nat) (L : List (List Fi)) (key : ByteArray) (w : World) (H : Lvs w a len cap L) (hw : wL L ≤ 1048576) (hv : vld L = true) :
    CallsIn Fence.wide 8 Try.prog 30 #[.slice a len cap, .string key] w fun e w' => ∃ v, e = .returned v ∧ Acc ePl w w' v (askTo L key L.length) := by
  have hll := wL_len L
  have hlen := H.len_eq
  have hcap := H.cap_le
  have hn8 : len ≤ 1048576 := by omega
  obtain ⟨gk, hgk⟩ : ∃ g, g = w.heap.size := ⟨_, rfl⟩
  obtain ⟨W0, hW0⟩ : ∃ W, W = w.alloc (.cells #[.string key] 9) := ⟨_, rfl⟩
  have k0 : W0.heap[gk]? = some (.cells #[.string key] 9) := by rw [hW0, hgk]; exact new_at _ _
  have b0 : Below w.heap.size w W0 := by rw [hW0]; exact box_below _ _
  have HV := valid_any a len cap L W0 (H.later b0) hw
  rw [hv] at HV
  have hord : inOrd L := by
    have h := hv
    unfold vld at h
    simp only [Bool.and_eq_true, decide_eq_true_eq] at h
    exact h.2.1
  replace HV := hid HV
  replace hW0 := hid hW0
  replace hgk := hid hgk
  replace hord := hid hord
  replace hlen := hid hlen
  replace hw := hid hw
  have HL : Hid (∀ W', Below w.heap.size w W' → Lvs W' a len cap L) := fun W' b => H.later b
  clear H hll hv
  refine callsIn_of_wp_marks Try.func30 rfl trivial ?_ rfl
  simp only [Try.ntmps30, List.size_toArray, List.length_cons, List.length_nil, Nat.reduceAdd, Nat.reduceSub, Array.replicate_succ, Array.replicate_zero, List.push_toArray, List.append_toArray, List.nil_append, List.cons_append]
  gi_wp2_with fail
  refine wpIn_wide.2 (wp_scope_straight ((wpIn_wide (n := 8)).1 ?_))
  gi_wp2_with fail
  rw [← hW0.out, ← hgk.out]
  refine ⟨trivial, (callsIn_wide.2 HV.out).mono ?_⟩
  rintro e w1 ⟨rfl, b1⟩
  gi_wp2_with fail
  refine wpIn_label ?_
  gi_wp2_with fail
  obtain ⟨gb, hgb⟩ : ∃ g, g = w1.heap.size := ⟨_, rfl⟩
  have M0 : Ak w gk gb key [] (askTo L key 0) (w1.alloc (.cells #[.slice none 0 0] 25)) := by
    have b2 := box_below w1 (.cells #[.slice none 0 0] 25)
    refine ⟨blk_later (blk_later k0 b1) b2, ⟨none, 0, 0, by rw [hgb]; exact new_at _ _, El.Own.nil _ _ _⟩, by simp, by simp, Below.up (Below.up b0 b1) b2, ?_⟩
    have := hgk.out
    have h2 := blk_lt (blk_later k0 b1)
    omega
  rw [← hgb]
  generalize w1.alloc (.cells #[.slice none 0 0] 25) = Wb at M0
  replace M0 := hid M0
  clear HV hW0 k0 b0 b1 hgb
  refine wpIn_loop_ghost_k (fun m A W => ∃ (i : Nat) (Ds : List Nat) (u6 u7 u8 u9 u10 u17 u18 u19 u20 u21 u22 u23 u24 u25 u26 u27 u28 u29 u30 u31 u32 u33 u34 u35 u36 u37 u38 u39 u40 u41 u42 u43 u44 u45 u46 u47 u48 u49 u50 u51 u52 u53 u54 u55 u56 u57 u58 u59 u60 u61 u62 u63 u64 u65 u66 u67 u68 u69 u70 : Value), i + m = len ∧ A = { tmps := #[.slice a len cap, .string key, undef, .pointer (some ⟨gk, 0, none⟩), .slice none 0 0, .pointer (some ⟨gb, 0, none⟩), u6, u7, u8, u9, u10, .slice a len cap, .bool true, .bool false, .slice a len cap, .int .i64 (len : Int), .int .i64 (i : Int), u17, u18, u19, u20, u21, u22, u23, u24, u25, u26, u27, u28, u29, u30, u31, u32, u33, u34, u35, u36, u37, u38, u39, u40, u41, u42, u43, u44, u45, u46, u47, u48, u49, u50, u51, u52, u53, u54, u55, u56, u57, u58, u59, u60, u61, u62, u63, u64, u65, u66, u67, u68, u69, u70], defers := Ds.map mark } ∧ Hid (Ak w gk gb key Ds (askTo L key i) W)) len ⟨0, [], _, _, _, _, _, _, _, _, _, _, _, _, _, _, _, _, _, _, _, _, _, _, _, _, _, _, _, _, _, _, _, _, _, _, _, _, _, _, _, _, _, _, _, _, _, _, _, _, _, _, _, _, _, _, _, _, _, _, _, by omega, rfl, M0⟩ ?_
  rintro m A W ⟨i, Ds, u6, u7, u8, u9, u10, u17, u18, u19, u20, u21, u22, u23, u24, u25, u26, u27, u28, u29, u30, u31, u32, u33, u34, u35, u36, u37, u38, u39, u40, u41, u42, u43, u44, u45, u46, u47, u48, u49, u50, u51, u52, u53, u54, u55, u56, u57, u58, u59, u60, u61, u62, u63, u64, u65, u66, u67, u68, u69, u70, him, rfl, hM⟩ J K hJ hK
  clear M0
  by_cases hlt : i < len
  · obtain ⟨lb, lof, la, ln, lc, rfl, cl0, FS, hln⟩ := (HL.out w (Below.refl _ _)).at i hlt
    have cl := cell_later cl0 hM.out.lo
    have hlvok := hord.out i (by rw [hlen.out]; exact hlt)
    have hsum := wL_at (L := L) (i := i) (by rw [hlen.out]; exact hlt)
    have hln8 : ln ≤ 1048576 := by have := hw.out; omega
    have hst := hid (askTo_succ L key i)
    have hcnt : Hid ((askTo L key i).length + ln ≤ 1048576) := by
      show _ ≤ _
      have h1 := askTo_len L key i (by rw [hlen.out]; omega)
      have h2 := nums_len (L.take i)
      have := hw.out
      omega
    have hat : Hid (askAt L key i = if i = 0 then ask0 key (L.getD 0 []) (dn (L.getD 0 []).length) else askL key i (L.getD i [])) := rfl
    obtain ⟨fs, hfs⟩ : ∃ fs, fs = L.getD i [] := ⟨_, rfl⟩
    rw [← hfs] at FS hln hlvok
    have hlc := FS.c
    have HF : Hid (∀ W', Below w.heap.size w W' → eFi.Sl W' la ln lc fs) := fun W' b => FS.later b
    have ik0 : (i : Int) < (len : Int) := by omega
    have ok0 : (0 : Int) ≤ (i : Int) := by omega
    have hDs := hid (fun D (hD : D ∈ Ds) => blk_lt (hM.out.m D hD).1 : ∀ D ∈ Ds, D < W.heap.size)
    replace hJ := hid hJ
    replace hK := hid hK
    replace hlvok := hid hlvok
    replace hln := hid hln
    clear FS hsum cl0
    by_cases hi0 : i = 0
    · subst hi0
      rw [Nat.add_zero] at cl
      rw [if_pos rfl] at hat
      rw [← hfs, ← hln.out] at hat
      clear hlvok
      gi_wp2_with fail
      refine ⟨trivial, (callsIn_wide.2 (backward_any la ln lc W)).mono ?_⟩
      rintro e w2 ⟨rfl, hw2⟩
      have b2 : Below W.heap.size W w2 := by rw [hw2]; exact box_below _ _
      have x1 : Boxed w2 W.heap.size 39 (.slice la ln lc) := by rw [hw2]; exact Boxed.new _ _ _
      have s2 : w2.heap.size = W.heap.size + 1 := by rw [hw2]; exact size_alloc _ _
      have hM2 := hid (hM.out.later b2)
      have hgb : gb < W.heap.size := by obtain ⟨_, _, _, h, _⟩ := hM.out.o; exact blk_lt h
      have hd := hM.out.d
      replace hw2 := hid hw2
      replace x1 := hid x1
      replace b2 := hid b2
      gi_wp2_with fail
      refine range_q (F := Fence.wide) (n := 8) (encs fs) rfl (by omega) (gf := 65) (lb := #[.pointer (some ⟨W.heap.size, 0, none⟩)]) rfl trivial (enters_of Try.func65 (by kernel_rfl) rfl) (fun _ => rfl)
        (fun ys V => Ak w gk gb key Ds (ask0 key fs ys) V ∧ Boxed V W.heap.size 39 (.slice la ln lc)) (fun _ _ _ => False) (fun pre x => pre ++ [x] <+: dn ln) (Kb W.heap.size w.heap.size) (fun ys _ _ => ys = dn ln) (fun _ => True)
        (fun ys V o h => ⟨h.1.later (box_below V o), blk_later h.2 (box_below V o)⟩) (fun ys V V' j h g hj hc => ⟨h.1.kept g (by have := hM.out.lo.size; omega) hc (fun D hD e => by have := hDs.out D hD; omega), (g.block _ (blk_lt h.2) (fun e => by cases e; exact hc _ _ _ h.2)).trans h.2⟩) (fun _ _ _ _ _ h => h.elim)
        (fun A B hA hb => ⟨hb.block _ (by omega), hb.mono (by have := hM.out.lo.size; omega)⟩) (fun h k => ⟨k.1.trans h.1, h.2.trans k.2⟩)
        (fun V l o o' hl ho hc => ⟨World.putObj_heap_other (by omega), belowK_b' (w := w2) (by have := hM.out.lo.size; omega) V l o o' hl ho⟩)
        ⟨by simpa [ask0, askTo] using hM2.out, x1.out⟩ ?seq
        (fun Y x a' V => V.heap[Y.heap.size]? = some (.cells (fcs (fs.getD x zf)).toArray 43) ∧ a' = { tmps := #[.slice (some ⟨lb, lof, none⟩) len cap, .string key, undef, .pointer (some ⟨gk, 0, none⟩), .slice none 0 0, .pointer (some ⟨gb, 0, none⟩), .int .i64 0, .slice la ln lc, u8, .pointer (some ⟨Y.heap.size, 0, none⟩), u10, .slice (some ⟨lb, lof, none⟩) len cap, .bool true, .bool false, .slice (some ⟨lb, lof, none⟩) len cap, .int .i64 (len : Int), .int .i64 0, .bool true, .int .i64 0, .pointer (some ⟨lb, lof, none⟩), .slice la ln lc, .int .i64 0, .bool true, .slice la ln lc, .func (.func 65) #[] #[.pointer (some ⟨W.heap.size, 0, none⟩)], .int .i64 (x : Int), Vp.fv (fs.getD x zf), u27, u28, u29, u30, u31, u32, u33, u34, u35, u36, u37, u38, u39, u40, u41, u42, u43, u44, u45, u46, u47, u48, u49, u50, u51, u52, u53, u54, u55, u56, u57, u58, u59, u60, u61, u62, u63, u64, u65, u66, u67, u68, u69, u70], defers := [] })
        ?hAx ?assign ?body ?done ?stop
      case seq =>
        intro l J1 Jx W1 hB1 hY h0
        refine (back_in 7 (by omega) l W.heap.size w.heap.size la ln lc fs J1 Jx hln8 hY W1 (by have := hM.out.lo.size; have := hB1.size; omega) ((hB1.block _ x1.out.lt).trans x1.out) (fun W' b' => HF.out W' ?_) h0).mono ?_
        · exact ((Below.up hM.out.lo b2.out).trans (hB1.mono (by have := hM.out.lo.size; omega))).trans b'
        rintro e W' ⟨hv, (⟨W0, h1, h2⟩ | ⟨pre, h1, h2⟩)⟩
        · exact ⟨hv, .inl ⟨_, W0, h1, h2, rfl⟩⟩
        · exact ⟨hv, .inr ⟨pre, trivial, h2⟩⟩
      case hAx =>
        rintro Y x a' V V' j ⟨h1, rfl⟩ hg hc
        exact ⟨(hg.block _ (blk_lt h1) (fun e => by cases e; exact hc _ _ _ h1)).trans h1, rfl⟩
      case assign =>
        intro l x V K1 hK1
        simp only [encs]
        unfold Vp.fv
        replace hK1 := hid hK1
        have hnew := hid (new_at V (.cells (fcs (fs.getD x zf)).toArray 43))
        unfold fcs at hnew
        generalize fs.getD x zf = f at *
        obtain ⟨fn, fz, ft, fu, flo, fhi⟩ := f
        dsimp only at *
        gi_wp2
        exact hK1.out _ _ (box_below _ _) ⟨hnew.out, rfl⟩
      case body =>
        rintro lp pre x a' W0 WY W1 W2 hI h0Y h01 hfr h12 hl hlo hnc ⟨hfb, rfl⟩
        have hI2 : Ak w gk gb key Ds (ask0 key fs pre) W2 := (hI.1.later h01).kept h12 (by have := hM.out.lo.size; omega) hnc (fun D hD e => by have := hDs.out D hD; omega)
        have hB2 : W2.heap[W.heap.size]? = some (.cells #[.slice la ln lc] 39) := by
          have h := blk_later hI.2 h01
          exact (h12.block _ (blk_lt h) (fun e => by cases e; exact hnc _ _ _ h)).trans h
        have hpl : pre.length + 1 ≤ ln := by
          have := hfr.length_le
          rw [List.length_append, dn_len] at this
          simpa using this
        have hcl : (ask0 key fs pre).length + 1 ≤ 1048576 := by
          have : (ask0 key fs pre).length ≤ pre.length := by unfold ask0; rw [List.length_map]; exact List.length_filter_le _ _
          omega
        have hsn := ask0_snoc key fs pre x
        unfold bears at hsn
        unfold Vp.fv
        unfold fcs at hfb
        generalize fs.getD x zf = f at *
        obtain ⟨fn, fz, ft, fu, flo, fhi⟩ := f
        dsimp only at *
        have q0 := cell_of hfb 0 _ rfl
        have q2 := cell_of hfb 2 _ rfl
        have q3 := cell_of hfb 3 _ rfl
        have ck := cell_of hI2.k 0 _ rfl
        have ls := Lx.leq_s 9 ft key
        change binOp .leq 9 (.string ft) (.string key) = pure (.bool (!(lt key ft))) at ls
        have lss : binOp .lss 9 (.string key) (.string fu) = pure (.bool (lt key fu)) := by simp [binOp, Op.stringOp]
        obtain ⟨a0, m0, c0, va, vm, vc, W3, p1, r3, p2, p3, A3, K3, N3⟩ := hI2.put 0 fn hcl
        have hB3 := hid (N3 _ _ hB2 (by omega) (fun c e => by cases e))
        replace hI2 := hid hI2
        replace hB2 := hid hB2
        replace r3 := hid r3
        replace A3 := hid A3
        replace K3 := hid K3
        have sl : Hid (∀ {X}, Ak w gk gb key Ds X W2 → True) := fun _ => trivial
        clear hI h0Y h01 h12 hnc hlo N3 hfb hfr sl
        generalize lt key ft = b1 at *
        generalize lt key fu = b2 at *
        cases b1 with
        | true =>
          replace hsn := hid hsn
          gi_wp2_with fail
          show KeepsFrom _ _ _ ∧ Kb _ _ _ _ ∧ Ak _ _ _ _ _ _ _ ∧ _
          exact ⟨(KeepsOthers.refl _).from _, ⟨rfl, Below.refl _ _⟩, by rw [hsn.out]; simpa using hI2.out, hB2.out⟩
        | false =>
          cases b2 with
          | false =>
            replace hsn := hid hsn
            gi_wp2_with fail
            show KeepsFrom _ _ _ ∧ Kb _ _ _ _ ∧ Ak _ _ _ _ _ _ _ ∧ _
            exact ⟨(KeepsOthers.refl _).from _, ⟨rfl, Below.refl _ _⟩, by rw [hsn.out]; simpa using hI2.out, hB2.out⟩
          | true =>
            replace hsn := hid hsn
            gi_wp2_with (first | (gi_at_builtin; refine wpListIn_append_run rfl (.tmp 37) (.tmp 41) 25 25 rfl (.slice a0 m0 c0) (.slice (some ⟨W2.heap.size, 0, none⟩) 1 1) (.slice va vm vc) rfl rfl r3.out ?_))
            show KeepsFrom _ _ _ ∧ Kb _ _ _ _ ∧ Ak _ _ _ _ _ _ _ ∧ _
            exact ⟨K3.out.from _, ⟨hB3.out.trans hB2.out.symm, below_mid hI2.out.lo A3.out.lo K3.out.1⟩, by rw [hsn.out]; exact A3.out, hB3.out⟩
      case done =>
        rintro D l ys W0 V V' hD hI h0V rfl hVV hl hnc hDd
        have hV : Ak w gk gb key (D :: Ds) (askTo L key (0 + 1)) V' := by
          have h1 := (hI.1.later h0V).kept hVV (by have := hM.out.lo.size; omega) hnc (fun D hD e => by have := hDs.out D hD; omega)
          rw [hst.out, show askTo L key 0 = [] from rfl, List.nil_append, hat.out]
          exact ⟨h1.k, h1.o, fun E hE => by
            rcases List.mem_cons.1 hE with rfl | hE
            · exact ⟨hDd, by have := hM.out.lo.size; omega⟩
            · exact h1.m E hE, List.nodup_cons.2 ⟨fun h => by have := hDs.out D h; omega, h1.nd⟩, h1.lo, h1.d⟩
        replace hV := hid hV
        clear hI h0V hVV hnc hDd
        gi_wp2_with fail
        refine hK.out _ _ ⟨m - 1, by omega, hJ.out _ _ _ ⟨0 + 1, D :: Ds, _, _, _, _, _, _, _, _, _, _, _, _, _, _, _, _, _, _, _, _, _, _, _, _, _, _, _, _, _, _, _, _, _, _, _, _, _, _, _, _, _, _, _, _, _, _, _, _, _, _, _, _, _, _, _, _, _, _, _, by omega, rfl, hV⟩⟩
      case stop =>
        rintro D c pre V hD _ hx hDd
        exact hx.elim
    · rw [if_neg hi0, ← hfs] at hat
      have hlf : ln = fs.length := hln.out
      have hip : 0 < i := by omega
      have hib : ((i : Int) == 0) = false := by rw [beq_eq_false_iff_ne]; omega
      have HA := hid (first_any la ln lc fs key W (HF.out W hM.out.lo) hln8 (by rw [hlf]; exact mono_above hip hlvok.out key))
      have hAR := hid (fun r (hr : Vu.Found (above key fs) fs.length r) => ask_range hip hlvok.out hr)
      rw [← hlf] at hAR
      have ckW := cell_of hM.out.k 0 _ rfl
      have hKK := hK
      replace hfs := hid hfs
      clear hi0 hip hK hlf
      gi_wp2_with fail
      refine ⟨trivial, (callsIn_wide.2 HA.out).mono ?_⟩
      rintro e w2 ⟨⟨r, rfl, hF⟩, b2⟩
      have hAr := hAR.out r hF
      have hrl := hF.le
      have ck := cell_later ckW b2
      have hM2 := hid (hM.out.later b2)
      have F2 := hid (HF.out w2 hM2.out.lo)
      replace b2 := hid b2
      replace hF := hid hF
      clear ckW HA hAR hfs
      by_cases hr : r = ln
      · have hrb : ((r : Int) == (ln : Int)) = true := by rw [hr]; exact beq_self_eq_true _
        rw [if_neg (by omega)] at hAr
        have hV0 : Hid (∀ V, Below w2.heap.size w2 V → Ak w gk gb key Ds (askTo L key (i + 1)) V) := by
          intro V b
          rw [hst.out, hat.out, hAr, List.append_nil]
          exact hM2.out.later b
        replace hAr := hid hAr
        clear hr
        gi_wp2_with fail
        refine wpIn_wide.2 ?_
        go_quiet (fail)
        have hV := hid (hV0.out _ (drewN_below w2 nq))
        gi_wp2_with fail
        refine hKK.out _ _ ⟨m - 1, by omega, hJ.out _ _ _ ⟨i + 1, Ds, _, _, _, _, _, _, _, _, _, _, _, _, _, _, _, _, _, _, _, _, _, _, _, _, _, _, _, _, _, _, _, _, _, _, _, _, _, _, _, _, _, _, _, _, _, _, _, _, _, _, _, _, _, _, _, _, _, _, _, by omega, rfl, hV⟩⟩
      · have hrb : ((r : Int) == (ln : Int)) = false := by rw [beq_eq_false_iff_ne]; omega
        obtain ⟨fb, fo, rfl, hfat⟩ := get1 F2.out r (by omega)
        have hA := fi_at (hfat r (by omega))
        rw [show eFi.z = zf from rfl, show eFi.k = 6 from rfl] at hA
        have e1 := hA.1
        have e3 := hA.2.2.1
        have ir : (r : Int) < (ln : Int) := by omega
        have ir0 : (0 : Int) ≤ (r : Int) := by omega
        clear hfat hA
        generalize fs.getD r zf = f at *
        obtain ⟨fn, fz, ft, fu, flo, fhi⟩ := f
        dsimp only at *
        have gs := Lx.gtr_s 9 ft key
        change binOp .gtr 9 (.string ft) (.string key) = pure (.bool (lt key ft)) at gs
        generalize lt key ft = b1 at *
        cases b1 with
        | true =>
          rw [if_neg (by rintro ⟨_, h⟩; cases h)] at hAr
          have hV0 : Hid (∀ V, Below w2.heap.size w2 V → Ak w gk gb key Ds (askTo L key (i + 1)) V) := by
            intro V b
            rw [hst.out, hat.out, hAr, List.append_nil]
            exact hM2.out.later b
          replace hAr := hid hAr
          clear hr
          gi_wp2_with fail
          refine wpIn_wide.2 ?_
          go_quiet (fail)
          have hV := hid (hV0.out _ (drewN_below w2 nq))
          gi_wp2_with fail
          refine hKK.out _ _ ⟨m - 1, by omega, hJ.out _ _ _ ⟨i + 1, Ds, _, _, _, _, _, _, _, _, _, _, _, _, _, _, _, _, _, _, _, _, _, _, _, _, _, _, _, _, _, _, _, _, _, _, _, _, _, _, _, _, _, _, _, _, _, _, _, _, _, _, _, _, _, _, _, _, _, _, _, by omega, rfl, hV⟩⟩
        | false =>
          rw [if_pos ⟨by omega, rfl⟩] at hAr
          have hcl : (askTo L key i).length + 1 ≤ 1048576 := by have := hcnt.out; omega
          replace hAr := hid hAr
          clear hr
          gi_wp2_with fail
          refine wpIn_wide.2 ?_
          go_quiet (fail)
          obtain ⟨D, hD⟩ : ∃ D, D = (w2.drewN nq).drew := ⟨_, rfl⟩
          have bD : Below w2.heap.size w2 D := by rw [hD]; exact Below.up (drewN_below w2 nq) (drew_below _)
          obtain ⟨a0, m0, c0, va, vm, vc, W3, p1, r3, p2, p3, A3, K3, N3⟩ := (hM2.out.later bD).put (i : Int) fn hcl
          have hV : Hid (Ak w gk gb key Ds (askTo L key (i + 1)) (W3.setCell ⟨gb, 0, none⟩ (.slice va vm vc))) := by
            show Ak _ _ _ _ _ _ _
            rw [hst.out, hat.out, hAr.out]
            exact A3
          have pb := cell_later p1 (box_below D (.cells #[.int .i64 (i : Int), .int .i64 fn] 41))
          have en := cell_later e1 bD
          replace r3 := hid r3
          replace hD := hid hD
          clear A3 K3 N3 bD e1 e3
          gi_wp2_with fail
          refine wpIn_onlyN (wpIn_wide.2 ?_)
          refine wp_region_any (by kernel_rfl) ?_
          change wpAny _ _ _ _ _ _ _ (World.drew _)
          rw [← hD.out]
          refine wpAny_take (i := 1) (v := ?v1) rfl (by kernel_rfl) (by kernel_rfl) (by kernel_rfl) (fun _ _ _ h => h) (Or.inl ⟨by rfl, ?h1⟩) ?_
          case h1 => (intro w; go_simp; try (with_reducible rfl))
          go_simp
          refine wpAny_take (i := 2) (v := ?v2) rfl (by kernel_rfl) (by kernel_rfl) (by kernel_rfl) (fun _ _ _ h => h) (Or.inl ⟨by rfl, ?h2⟩) ?_
          case h2 => (intro w; go_simp; try (with_reducible rfl))
          go_simp
          refine wpAny_take (i := 3) (v := ?v3) rfl (by kernel_rfl) (by kernel_rfl) (by kernel_rfl) (fun _ _ _ h => h) (Or.inl ⟨by rfl, ?h3⟩) ?_
          case h3 => (intro w; go_simp; try (with_reducible rfl))
          go_simp
          refine wpAny_take (i := 4) (v := ?v4) rfl (by kernel_rfl) (by kernel_rfl) (by kernel_rfl) (fun _ _ _ h => h) (Or.inl ⟨by rfl, ?h4⟩) ?_
          case h4 => (intro w; go_simp; try (with_reducible rfl))
          go_simp
          refine wpAny_take (i := 5) (v := ?v5) rfl (by kernel_rfl) (by kernel_rfl) (by kernel_rfl) (fun _ _ _ h => h) (Or.inl ⟨by rfl, ?h5⟩) ?_
          case h5 => (intro w; go_simp; try (with_reducible rfl))
          go_simp
          refine wpAny_ready (rs := [0, 6]) (by kernel_rfl) (by simp) ?_
          refine AllReady.cons rfl (fun K hK => ?_) ?_
          · go_simp
            refine hK _ _ ?_
            clear hK K
            refine wpAny_ready (rs := [6]) (by kernel_rfl) (by simp) ?_
            refine AllReady.cons rfl (fun K hK => ?_) ?_
            · go_simp
              refine hK _ _ ?_
              clear hK K
              refine wpAny_take (i := 7) (v := ?v6) rfl (by kernel_rfl) (by kernel_rfl) (by kernel_rfl) (fun _ _ _ h => h) (Or.inl ⟨by rfl, ?h6⟩) ?_
              case h6 => (intro w; go_simp; try (with_reducible rfl))
              go_simp
              refine wpAny_ready (rs := [8]) (by kernel_rfl) (by simp) ?_
              refine AllReady.cons rfl (fun K hK => ?_) ?_
              · go_simp
                refine hK _ _ ?_
                clear hK K
                refine wpAny_ready (rs := [9]) (by kernel_rfl) (by simp) ?_
                refine AllReady.cons rfl (fun K hK => ?_) ?_
                · refine wp_append_run (.tmp 59) (.tmp 67) 25 25 rfl (.slice a0 m0 c0) (.slice (some ⟨D.heap.size, 0, none⟩) 1 1) (.slice va vm vc) (by go_simp) (by go_simp) r3.out ?_
                  go_simp
                  refine hK _ _ ?_
                  clear hK K
                  refine wpAny_ready (rs := [10]) (by kernel_rfl) (by simp) ?_
                  refine AllReady.cons rfl (fun K hK => ?_) ?_
                  · go_simp
                    refine hK _ _ ?_
                    clear hK K
                    refine wpAny_done (by kernel_rfl) (onlyN_mk ?_) _
                    gi_wp2_with fail
                    refine hKK.out _ _ ⟨m - 1, by omega, hJ.out _ _ _ ⟨i + 1, Ds, _, _, _, _, _, _, _, _, _, _, _, _, _, _, _, _, _, _, _, _, _, _, _, _, _, _, _, _, _, _, _, _, _, _, _, _, _, _, _, _, _, _, _, _, _, _, _, _, _, _, _, _, _, _, _, _, _, _, _, by omega, rfl, hV⟩⟩
                  exact AllReady.nil
                exact AllReady.nil
              exact AllReady.nil
            exact AllReady.nil
          refine AllReady.cons rfl (fun K hK => ?_) ?_
          · go_simp
            refine hK _ _ ?_
            clear hK K
            refine wpAny_take (i := 7) (v := ?v7) rfl (by kernel_rfl) (by kernel_rfl) (by kernel_rfl) (fun _ _ _ h => h) (Or.inl ⟨by rfl, ?h7⟩) ?_
            case h7 => (intro w; go_simp; try (with_reducible rfl))
            go_simp
            refine wpAny_ready (rs := [0, 8]) (by kernel_rfl) (by simp) ?_
            refine AllReady.cons rfl (fun K hK => ?_) ?_
            · go_simp
              refine hK _ _ ?_
              clear hK K
              refine wpAny_ready (rs := [8]) (by kernel_rfl) (by simp) ?_
              refine AllReady.cons rfl (fun K hK => ?_) ?_
              · go_simp
                refine hK _ _ ?_
                clear hK K
                refine wpAny_ready (rs := [9]) (by kernel_rfl) (by simp) ?_
                refine AllReady.cons rfl (fun K hK => ?_) ?_
                · refine wp_append_run (.tmp 59) (.tmp 67) 25 25 rfl (.slice a0 m0 c0) (.slice (some ⟨D.heap.size, 0, none⟩) 1 1) (.slice va vm vc) (by go_simp) (by go_simp) r3.out ?_
                  go_simp
                  refine hK _ _ ?_
                  clear hK K
                  refine wpAny_ready (rs := [10]) (by kernel_rfl) (by simp) ?_
                  refine AllReady.cons rfl (fun K hK => ?_) ?_
                  · go_simp
                    refine hK _ _ ?_
                    clear hK K
                    refine wpAny_done (by kernel_rfl) (onlyN_mk ?_) _
                    gi_wp2_with fail
                    refine hKK.out _ _ ⟨m - 1, by omega, hJ.out _ _ _ ⟨i + 1, Ds, _, _, _, _, _, _, _, _, _, _, _, _, _, _, _, _, _, _, _, _, _, _, _, _, _, _, _, _, _, _, _, _, _, _, _, _, _, _, _, _, _, _, _, _, _, _, _, _, _, _, _, _, _, _, _, _, _, _, _, by omega, rfl, hV⟩⟩
                  exact AllReady.nil
                exact AllReady.nil
              exact AllReady.nil
            refine AllReady.cons rfl (fun K hK => ?_) ?_
            · go_simp
              refine hK _ _ ?_
              clear hK K
              refine wpAny_ready (rs := [0]) (by kernel_rfl) (by simp) ?_
              refine AllReady.cons rfl (fun K hK => ?_) ?_
              · go_simp
                refine hK _ _ ?_
                clear hK K
                refine wpAny_ready (rs := [9]) (by kernel_rfl) (by simp) ?_
                refine AllReady.cons rfl (fun K hK => ?_) ?_
                · refine wp_append_run (.tmp 59) (.tmp 67) 25 25 rfl (.slice a0 m0 c0) (.slice (some ⟨D.heap.size, 0, none⟩) 1 1) (.slice va vm vc) (by go_simp) (by go_simp) r3.out ?_
                  go_simp
                  refine hK _ _ ?_
                  clear hK K
                  refine wpAny_ready (rs := [10]) (by kernel_rfl) (by simp) ?_
                  refine AllReady.cons rfl (fun K hK => ?_) ?_
                  · go_simp
                    refine hK _ _ ?_
                    clear hK K
                    refine wpAny_done (by kernel_rfl) (onlyN_mk ?_) _
                    gi_wp2_with fail
                    refine hKK.out _ _ ⟨m - 1, by omega, hJ.out _ _ _ ⟨i + 1, Ds, _, _, _, _, _, _, _, _, _, _, _, _, _, _, _, _, _, _, _, _, _, _, _, _, _, _, _, _, _, _, _, _, _, _, _, _, _, _, _, _, _, _, _, _, _, _, _, _, _, _, _, _, _, _, _, _, _, _, _, by omega, rfl, hV⟩⟩
                  exact AllReady.nil
                exact AllReady.nil
              exact AllReady.nil
            exact AllReady.nil
          exact AllReady.nil
  · have e1 : i = len := by omega
    subst e1
    obtain ⟨oa, on, oc, ob, oo⟩ := hM.out.o
    have c5 := cell_of ob 0 _ rfl
    replace hJ := hid hJ
    replace hK := hid hK
    replace oo := hid oo
    clear ob
    gi_wp2_with fail
    refine leaves_all (fun V => ePl.Own V w.heap.size (.slice oa on oc) (askTo L key i) ∧ Below w.heap.size w V) Ds W hM.out.nd (fun D hD => (hM.out.m D hD).1) ⟨oo.out, hM.out.lo⟩ (fun V D o hD hV => ?_) (fun V hV => ?_)
    · have h2 := hM.out.m D hD
      have hne : ∀ j, (Value.slice oa on oc).ownBlock = some j → j ≠ D := by
        rintro j hj rfl
        obtain ⟨cc, hcc⟩ := own_ty oo.out j hj
        rw [h2.1] at hcc
        cases hcc
      exact ⟨own_blocks hV.1 (fun j hj => World.putObj_heap_other (hne j hj)), hV.2.grown (grownBy_putObj' V D o) hV.2.size (fun q e => by cases e; exact h2.2)⟩
    · refine ⟨.slice oa on oc, ?_, _, rfl, ?_⟩
      · simp [results, Try.results30, go_sem]
      · rw [hlen.out]; exact ⟨hV.1, hV.2⟩
end Go.Proofs.Ytkpihibeohjfnaa.As

/- Make by its contract: it answers the filter of the keys, in new memory. -/
import Derived.Test.YtempagacpfejdaaFl
import Derived.Test.YtempagacpfejdaaOp
import Derived.Test.YtempagacpfejdaaQi
import Derived.Sort.LoopGhostIn
namespace Go.Proofs.Ytempagacpfejdaa.Mk
open Go.ChangeShapes Go.WideShapes Go.ChangeAt Go.RowKit Go.Shelf
open Go.Proofs.Ytempagacpfejdaa.Wd
open Go.Proofs.Ytempagacpfejdaa.Hs
open Go.Proofs.Ytempagacpfejdaa.Pr
open Go.Proofs.Ytempagacpfejdaa.Rq
open Go.Proofs.Ytempagacpfejdaa.Bi
open Go.Proofs.Ytempagacpfejdaa.Fl
open Go.Proofs.Ytempagacpfejdaa.Op
set_option linter.unusedVariables false
set_option linter.unusedSimpArgs false
attribute [local go_sem] Oper.semAt_some

theorem info5 : (Try.prog.info? 5).map (fun i => (i.zero, i.size, i.bytes)) = some (some (.int .u8 0), 1, 1) := by kernel_rfl
theorem mk_run (w : World) (n : Nat) (hn : n ≤ 140737488355328) :
    (Instr.makeSlice 33 (.int .i64 (n : Int)) (.int .i64 (n : Int))).run Try.prog w = .ok (.slice (some ⟨w.heap.size, 0, none⟩) n n) (w.alloc (.cells ((List.replicate n 0#8).map bv).toArray 5)) := by
  obtain ⟨i0, hi, hz0, hz1, hz2⟩ := info_parts info5
  have hr := run_make (P := Try.prog) w 33 5 i0 (.int .u8 0) Try.underlying33 hi hz0 .i64 .i64 (n : Int) (n : Int) (by omega) (by omega) (by rw [hz2]; omega) (by omega)
  simp only [Int.toNat_natCast] at hr
  rw [hr, hz1, Nat.mul_one]
  congr 2
  apply congrArg (fun c => Obj.cells c 5)
  apply Array.ext'
  rw [show (Value.int IntKind.u8 0).cells = #[.int .u8 0] from rfl, toList_madeCells_one]
  simp [bv, bi]
/-- The block that holds a filter. -/
def Fb (w : World) (g : Nat) (f : List B8) : Prop := w.heap[g]? = some (.cells (f.map bv).toArray 5)
theorem Fb.cell {w : World} {g : Nat} {f : List B8} (h : Fb w g f) (i : Nat) (hi : i < f.length) : w.cell? ⟨g, i, none⟩ = some (.int .u8 (bi (f.getD i 0#8))) := by
  refine cell_of h i _ ?_
  simp [List.getD_eq_getElem?_getD, hi, bv]
theorem Fb.set {w : World} {g : Nat} {f : List B8} (h : Fb w g f) (i : Nat) (x : B8) : Fb (w.setCell ⟨g, i, none⟩ (.int .u8 (bi x))) g (f.set i x) := by
  unfold Fb
  rw [set_of h]
  congr 2
  apply Array.ext'
  simp [bv, List.map_set]
theorem Fb.later {w w' : World} {g : Nat} {f : List B8} (h : Fb w g f) (b : Below w.heap.size w w') : Fb w' g f := (b.block g (blk_lt h)).trans h
theorem Fb.kept {w w' : World} {g : Nat} {f : List B8} {row : Option Nat} (h : Fb w g f) (k : w.grownBy w' row) (hne : some g ≠ row) : Fb w' g f := (k.block g (blk_lt h) hne).trans h
theorem wrapi (x : Int) (h : 0 ≤ x) (h2 : x ≤ 9223372036854775807) : IntKind.i64.wrap x = x := by
  simp [IntKind.wrap, IntKind.bits, IntKind.signed]; omega
def mark (D : Nat) : Deferred := { target := .collected D, args := #[] }
theorem k8_i (k : Nat) (h : k ≤ 255) : bi (BitVec.ofNat 8 k) = (k : Int) := by unfold bi; rw [BitVec.toNat_ofNat]; omega
theorem rep_set (r : Nat) (x : B8) : (List.replicate (r + 1) 0#8).set r x = List.replicate r 0#8 ++ [x] := by
  rw [List.replicate_succ', List.set_append_right _ _ (by simp)]
  simp
/-- What stands while Make goes through the keys: the filter's block at n0, its box behind it, the marks. -/
structure Mi (w : World) (n0 r k : Nat) (Ds : List Nat) (L : List Nat) (W : World) : Prop where
  f : Fb W n0 (fill (List.replicate r 0#8 ++ [BitVec.ofNat 8 k]) L)
  b : Boxed W (n0 + 1) 33 (.slice (some ⟨n0, 0, none⟩) (r + 1) (r + 1))
  m : ∀ D ∈ Ds, W.heap[D]? = some (.deferred (some [])) ∧ n0 + 2 ≤ D
  nd : Ds.Nodup
  lo : Below n0 w W
theorem Mi.later {w : World} {n0 r k : Nat} {Ds L : List Nat} {W W' : World} (h : Mi w n0 r k Ds L W) (b : Below W.heap.size W W') : Mi w n0 r k Ds L W' :=
  ⟨h.f.later b, (b.block _ h.b.lt).trans h.b, fun D hD => ⟨(b.block _ (blk_lt (h.m D hD).1)).trans (h.m D hD).1, (h.m D hD).2⟩, h.nd, h.lo.trans (b.mono (by have := blk_lt h.f; omega))⟩
theorem Mi.kept {w : World} {n0 r k : Nat} {Ds L : List Nat} {W W' : World} {row : Option Nat} (h : Mi w n0 r k Ds L W) (g : W.grownBy W' row) (hj : ∀ j, row = some j → n0 ≤ j) (hD : ∀ D ∈ Ds, row ≠ some D) (hc : ∀ j, row = some j → ∀ c t f, W.heap[j]? ≠ some (.cells c t f)) : Mi w n0 r k Ds L W' := by
  have e1 : some n0 ≠ row := fun e => hc n0 e.symm _ _ _ h.f
  have e2 : some (n0 + 1) ≠ row := fun e => hc (n0 + 1) e.symm _ _ _ h.b
  exact ⟨h.f.kept g e1, (g.block _ h.b.lt e2).trans h.b, fun D d => ⟨(g.block _ (blk_lt (h.m D d).1) (fun e => hD D d e.symm)).trans (h.m D d).1, (h.m D d).2⟩, h.nd, h.lo.grown g (by have := blk_lt h.f; omega) (fun j e => hj j e)⟩
theorem Mi.put {w : World} {n0 r k : Nat} {Ds L : List Nat} {W : World} (h : Mi w n0 r k Ds L W) (x : Nat) :
    Mi w n0 r k Ds (L ++ [x]) (W.setCell ⟨n0, x / 8, none⟩ (.int .u8 (bi ((fill (List.replicate r 0#8 ++ [BitVec.ofNat 8 k]) L).getD (x / 8) 0#8 ||| 1#8 <<< (x % 8))))) := by
  refine ⟨?_, ?_, fun D hD => ⟨?_, (h.m D hD).2⟩, h.nd, h.lo.setCell (p := ⟨n0, x / 8, none⟩) (Nat.le_refl _) _⟩
  · rw [fill_append]
    exact h.f.set _ _
  · exact (set_ne _ _ _ _ _ (by omega)).trans h.b
  · exact (set_ne _ _ _ _ _ (by have := (h.m D hD).2; omega)).trans (h.m D hD).1
/-- Marks of which none was left a call are taken, one behind the other. -/
theorem leaves_all {m : Nat} {fn : Func} {tmps : Array Value} {R : Ending → World → Prop} (G : World → Prop) : ∀ (Ds : List Nat) (W : World), Ds.Nodup → (∀ D ∈ Ds, W.heap[D]? = some (.deferred (some []))) → G W →
    (∀ V D o, D ∈ Ds → G V → G (V.putObj D o)) → (∀ V, G V → LeavesIn Fence.wide m Try.prog fn tmps R [] .returning V) → LeavesInM Fence.wide m Try.prog fn tmps R (Ds.map mark) .returning W
  | [], W, _, _, hG, _, hE => hE W hG
  | D :: Ds, W, hn, hm, hG, hP, hE => by
    refine ⟨by simp, .inl ⟨D, _, rfl, run_takeDeferred (hm D (by simp)), ?_⟩⟩
    refine leaves_all G Ds _ (List.nodup_cons.1 hn).2 (fun E hE => ?_) (hP _ _ _ (by simp) hG) (fun V E o hE hV => hP V E o (by simp [hE]) hV) hE
    exact (World.putObj_heap_other (by rintro rfl; exact (List.nodup_cons.1 hn).1 hE)).trans (hm E (by simp [hE]))
theorem kbs_succ (ks : List ByteArray) (r k i : Nat) (h : i < ks.length) : kbs (ks.take (i + 1)) r k = kbs (ks.take i) r k ++ kb (ks.getD i ByteArray.empty) (8 * r) k := by
  rw [List.take_add_one, kbs_append, List.getElem?_eq_getElem h, List.getD_eq_getElem?_getD, List.getElem?_eq_getElem h]
  simp [kbs]
set_option maxRecDepth 100000 in
set_option maxHeartbeats 400000 in
theorem make_in (a : Option Addr) (len cap : Nat) (ks : List ByteArray) (b : Nat) (w : World) (H : Strs w a len cap ks) (hb1 : 1 ≤ b) (hb2 : b ≤ 64) (hlen : len ≤ 8796093022208) :
    CallsIn Fence.wide 8 Try.prog 14 #[.slice a len cap, .int .i64 (b : Int)] w fun e w' => e = .returned (.tuple #[.slice (some ⟨w.heap.size, 0, none⟩) (room len b + 1) (room len b + 1), .int .i64 0]) ∧ Fb w' w.heap.size (mkf ks b) ∧ Below w.heap.size w w' := by
  have HP := hid (probes_ok b hb1 hb2 w)
  have hpb := pb_bd b
  have hlb : len * b ≤ 562949953421312 := by have := Nat.mul_le_mul hlen hb2; omega
  have hr8 := room_ge len b
  have hrl := room_le len b hb2
  have hro : Hid ((max ((len : Int) * (b : Int)) 64 + 7) / 8 = (room len b : Int)) := by
    show _ = _
    unfold room
    rw [← Int.natCast_mul]
    generalize len * b = q
    omega
  have hm1 : (len : Int) * (b : Int) ≤ 562949953421312 := by rw [← Int.natCast_mul]; omega
  have hm0 : 0 ≤ (len : Int) * (b : Int) := by rw [← Int.natCast_mul]; omega
  obtain ⟨r, hr⟩ : ∃ r, r = room len b := ⟨_, rfl⟩
  rw [← hr] at hro hr8 hrl
  have hmk := mk_run w (r + 1) (by omega)
  rw [show ((r + 1 : Nat) : Int) = (r : Int) + 1 from by omega] at hmk
  obtain ⟨k, hkb⟩ : ∃ k, k = pb b := ⟨_, rfl⟩
  rw [← hkb] at HP hpb
  replace hkb := hid hkb
  replace hmk := hid hmk
  clear hlb
  refine callsIn_of_wp_marks Try.func14 rfl trivial ?_ rfl
  simp only [Try.ntmps14, List.size_toArray, List.length_cons, List.length_nil, Nat.reduceAdd, Nat.reduceSub, Array.replicate_succ, Array.replicate_zero, List.push_toArray, List.append_toArray, List.nil_append, List.cons_append]
  gi_wp2_with fail
  refine ⟨trivial, (callsIn_wide.2 HP.out).mono ?_⟩
  rintro e w' ⟨rfl, rfl⟩
  gi_wp2_with fail
  rw [hro.out, hmk.out]
  have k255 : (k : Int) ≤ 255 := by omega
  have hkw : IntKind.u8.wrap (k : Int) = (k : Int) := by rw [wrap_u8]; omega
  have hri : (r : Int) < ((r + 1 : Nat) : Int) := by omega
  have zf : Fb (w'.alloc (.cells ((List.replicate (r + 1) 0#8).map bv).toArray 5)) w'.heap.size (List.replicate (r + 1) 0#8) := new_at _ _
  obtain ⟨Wa, hWa⟩ : ∃ Wa, Wa = w'.alloc (.cells ((List.replicate (r + 1) 0#8).map bv).toArray 5) := ⟨_, rfl⟩
  rw [← hWa] at zf ⊢
  have sa : Wa.heap.size = w'.heap.size + 1 := by rw [hWa]; simp
  have Ba : Hid (Below w'.heap.size w' Wa) := by rw [hWa]; exact box_below _ _
  obtain ⟨n0, hn0⟩ : ∃ n0, n0 = w'.heap.size := ⟨_, rfl⟩
  rw [← hn0] at zf sa Ba ⊢
  replace hWa := hid hWa
  generalize max ((len : Int) * (b : Int)) 64 = q1
  generalize (len : Int) * (b : Int) = q0 at *
  clear hmk hro hm1 hm0
  replace hn0 := hid hn0
  replace sa := hid sa
  replace hr := hid hr
  have zf2 : Fb (Wa.alloc (.cells #[.slice (some ⟨n0, 0, none⟩) (r + 1) (r + 1)] 33)) n0 (List.replicate (r + 1) 0#8) := zf.later (box_below _ _)
  have zc := zf2.cell r (by simp)
  have zz := fz_of zf2 r
  replace zf := hid zf
  replace zf2 := hid zf2
  gi_wp2_with fail
  have M0 : Mi w' n0 r k [] (kbs (ks.take 0) r k) ((Wa.alloc (.cells #[.slice (some ⟨n0, 0, none⟩) (r + 1) (r + 1)] 33)).setCell ⟨n0, r, none⟩ (.int .u8 (k : Int))) := by
    have hz := hn0.out
    have sz := sa.out
    refine ⟨?_, ?_, by simp, by simp, ?_⟩
    · have := zf2.out.set r (BitVec.ofNat 8 k)
      rw [k8_i k (by omega)] at this
      unfold Fb at this ⊢
      rw [this]
      simp only [List.take_zero, kbs, List.flatMap_nil, fill, List.foldl_nil]
      rw [rep_set]
    · rw [← sz]
      unfold Boxed
      rw [set_ne _ _ _ _ _ (by omega)]
      exact new_at _ _
    · exact (Ba.out.alloc (by omega) _).setCell (p := ⟨n0, r, none⟩) (by simp) _
  have hS : Hid (∀ W, Below n0 w' W → Strs W a len cap ks) := fun W h => H.later (by rw [← hn0.out]; exact h)
  have hks := H.1
  rw [sa.out]
  generalize ((Wa.alloc (.cells #[.slice (some ⟨n0, 0, none⟩) (r + 1) (r + 1)] 33)).setCell ⟨n0, r, none⟩ (.int .u8 (k : Int))) = Wb at M0
  replace M0 := hid M0
  clear zf zf2 zc zz Ba hWa sa
  replace H := hid H
  refine wpIn_loop_ghost_k (fun m A W => ∃ (i : Nat) (Ds : List Nat) (u0 u1 u2 u3 u4 u5 u7 u10 u11 u12 u13 u14 u15 u16 u17 u18 u19 u20 u21 u22 u23 u24 u25 u26 u27 u28 u29 u30 u31 u32 u33 u34 u35 u39 u40 u41 u42 u43 u44 u45 u46 u47 u48 u49 u50 u51 u52 u53 u54 u55 u56 u57 u58 u59 : Value), i + m = len ∧ A = { tmps := #[u0, u1, u2, u3, u4, u5, .int .i64 (k : Int), u7, .int .i64 (r : Int), .pointer (some ⟨n0 + 1, 0, none⟩), u10, u11, u12, u13, u14, u15, u16, u17, u18, u19, u20, u21, u22, u23, u24, u25, u26, u27, u28, u29, u30, u31, u32, u33, u34, u35, .slice a len cap, .int .i64 (len : Int), .int .i64 (i : Int), u39, u40, u41, u42, u43, u44, u45, u46, u47, u48, u49, u50, u51, u52, u53, u54, u55, u56, u57, u58, u59], defers := Ds.map mark } ∧ Hid (Mi w' n0 r k Ds (kbs (ks.take i) r k) W)) len ⟨0, [], _, _, _, _, _, _, _, _, _, _, _, _, _, _, _, _, _, _, _, _, _, _, _, _, _, _, _, _, _, _, _, _, _, _, _, _, _, _, _, _, _, _, _, _, _, _, _, _, _, _, _, _, _, _, by omega, rfl, M0⟩ ?_
  rintro m A W ⟨i, Ds, u0, u1, u2, u3, u4, u5, u7, u10, u11, u12, u13, u14, u15, u16, u17, u18, u19, u20, u21, u22, u23, u24, u25, u26, u27, u28, u29, u30, u31, u32, u33, u34, u35, u39, u40, u41, u42, u43, u44, u45, u46, u47, u48, u49, u50, u51, u52, u53, u54, u55, u56, u57, u58, u59, him, rfl, hM⟩ J K hJ hK
  by_cases hlt : i < len
  · obtain ⟨bk, off, rfl, ck⟩ := (hS.out W hM.out.lo).2.2.2.2 i hlt
    have hsz : (ks.getD i ByteArray.empty).size ≤ 9223372036854775807 := by
      rw [List.getD_eq_getElem?_getD, List.getElem?_eq_getElem (by omega)]
      exact (hS.out W hM.out.lo).2.2.1 _ (List.getElem_mem _)
    have hkk : Hid (kbs (ks.take (i + 1)) r k = kbs (ks.take i) r k ++ kb (ks.getD i ByteArray.empty) (8 * r) k) := kbs_succ ks r k i (by omega)
    generalize ks.getD i ByteArray.empty = s at ck hsz hkk
    have ik : (i : Int) < (len : Int) := by omega
    have hDs := hid (fun D (hD : D ∈ Ds) => blk_lt (hM.out.m D hD).1 : ∀ D ∈ Ds, D < W.heap.size)
    replace hJ := hid hJ
    replace hK := hid hK
    gi_wp2_with fail
    refine ⟨trivial, (callsIn_wide.2 (bitsof_any s _ _ W)).mono ?_⟩
    rintro e w2 ⟨rfl, hw2⟩
    have s2 : w2.heap.size = W.heap.size + 3 := by rw [hw2]; simp
    have B2 : Below W.heap.size W w2 := by rw [hw2]; exact ((box_below W _).alloc (by simp) _).alloc (by simp; omega) _
    have x1 : Boxed w2 W.heap.size 9 (.string s) := by rw [hw2]; exact ((new_box rfl _ _).alloc _).alloc _
    have x3 : Boxed w2 (W.heap.size + 1) 3 (.int .i64 (8 * (r : Int))) := by rw [hw2]; exact (new_box (by simp) _ _).alloc _
    have x2 : Boxed w2 (W.heap.size + 2) 3 (.int .i64 (k : Int)) := by rw [hw2]; exact new_box (by simp) _ _
    have hM2 := hM.out.later B2
    have hgl : n0 + 1 < W.heap.size := blk_lt hM.out.b
    replace hw2 := hid hw2
    replace x1 := hid x1
    replace x2 := hid x2
    replace x3 := hid x3
    replace hM2 := hid hM2
    replace B2 := hid B2
    gi_wp2_with fail
    refine range_q (F := Fence.wide) (n := 8) encs rfl (by omega) (gf := 30) (lb := #[.pointer (some ⟨W.heap.size, 0, none⟩), .pointer (some ⟨W.heap.size + 2, 0, none⟩), .pointer (some ⟨W.heap.size + 1, 0, none⟩)]) rfl trivial (enters_of Try.func30 (by kernel_rfl) rfl) (fun _ => rfl)
      (fun ys V => Mi w' n0 r k Ds (kbs (ks.take i) r k ++ ys) V) (fun _ _ _ => False) (fun pre x => pre ++ [x] <+: kb s (8 * r) k) (Kx W.heap.size (W.heap.size + 2) (W.heap.size + 1)) (fun ys _ _ => ys = kb s (8 * r) k) (fun _ => True)
      (fun ys V o h => h.later (box_below V o)) (fun ys V V' j h g hj hc => h.kept g (fun q e => by cases e; omega) (fun D hD e => by have := hDs.out D hD; cases e; omega) (fun c e => by cases e; exact hc)) (fun _ _ _ _ _ h => h.elim)
      (fun A B hA hb => ⟨hb.block _ (by omega), hb.block _ (by omega), hb.block _ (by omega)⟩) (fun h k => h.trans k)
      (fun V l o o' hl ho hc => ⟨World.putObj_heap_other (by omega), World.putObj_heap_other (by omega), World.putObj_heap_other (by omega)⟩)
      (by simpa using hM2.out) ?seq
      (fun Y x a' V => a' = { tmps := #[u0, u1, u2, u3, u4, u5, .int .i64 (k : Int), u7, .int .i64 (r : Int), .pointer (some ⟨n0 + 1, 0, none⟩), u10, .string s, .int .i64 (x : Int), u13, u14, u15, u16, u17, u18, u19, u20, u21, u22, u23, u24, u25, u26, u27, u28, u29, u30, u31, u32, u33, u34, u35, .slice (some ⟨bk, off, none⟩) len cap, .int .i64 (len : Int), .int .i64 (i : Int), .bool true, .pointer (some ⟨bk, off + i, none⟩), .string s, .string s, .int .i64 (r : Int), .int .i64 (8 * (r : Int)), .int .i64 (k : Int), .func (.func 30) #[] #[.pointer (some ⟨W.heap.size, 0, none⟩), .pointer (some ⟨W.heap.size + 2, 0, none⟩), .pointer (some ⟨W.heap.size + 1, 0, none⟩)], .int .i64 (x : Int), u48, u49, u50, u51, u52, u53, u54, u55, u56, u57, u58, u59], defers := [] })
      ?hAx ?assign ?body ?done ?stop
    case seq =>
      intro l J1 Jx W1 hB1 hY h0
      refine (bits_in 7 (by omega) l W.heap.size (W.heap.size + 2) (W.heap.size + 1) s (8 * r) k J1 Jx hsz (by omega) (by omega) (by omega) hY W1 ((hB1.block _ x1.out.lt).trans x1.out) ((hB1.block _ x2.out.lt).trans x2.out) ((hB1.block _ x3.out.lt).trans (by rw [show ((8 * r : Nat) : Int) = 8 * (r : Int) by omega]; exact x3.out)) h0).mono ?_
      rintro e W' ⟨hv, (⟨W0, h1, h2⟩ | ⟨pre, h1, h2⟩)⟩
      · exact ⟨hv, .inl ⟨_, W0, h1, h2, rfl⟩⟩
      · exact ⟨hv, .inr ⟨pre, trivial, h2⟩⟩
    case hAx =>
      rintro Y x a' V V' j rfl hg hc
      rfl
    case assign =>
      intro l x V K1 hK1
      simp only [encs]
      gi_wp2
      exact hK1 _ _ (Below.refl _ _) rfl
    case body =>
      rintro lp pre x a' W0 WY W1 W2 hI h0Y h01 hfr h12 hl hlo hnc rfl
      have hI2 : Mi w' n0 r k Ds (kbs (ks.take i) r k ++ pre) W2 := (hI.later h01).kept h12 (fun q e => by cases e; omega) (fun D hD e => by have := hDs.out D hD; cases e; omega) (fun c e => by cases e; exact hnc)
      have hxl : x < 8 * r := kb_lt s (8 * r) k (by omega) x (hfr.subset (by simp))
      obtain ⟨y, hy⟩ : ∃ y, y = x / 8 := ⟨_, rfl⟩
      obtain ⟨z, hz⟩ : ∃ z, z = x % 8 := ⟨_, rfl⟩
      have e8 : (x : Int) / 8 = (y : Int) := by omega
      have e9 : Op.shift .shl .u8 1 .i64 ((x : Int).tmod 8) = pure (.int .u8 (bi (1#8 <<< z))) := by rw [Int.tmod_eq_emod_of_nonneg (by omega), show (x : Int) % 8 = (z : Int) by omega]; exact shl1 z (by omega)
      have hyr : y < r + 1 := by omega
      have wy : IntKind.i64.wrap (y : Int) = (y : Int) := wrapi _ (by omega) (by omega)
      have wz : IntKind.i64.wrap (z : Int) = (z : Int) := wrapi _ (by omega) (by omega)
      have hyi : (y : Int) < (r : Int) + 1 := by omega
      have hz8 : z < 8 := by omega
      have hI3 : Mi w' n0 r k Ds (kbs (ks.take i) r k ++ pre) W2.drew := hI2.later ⟨rfl, rfl, rfl, Nat.le_refl _, fun _ _ => rfl⟩
      have c9 := hI3.b.cell
      have cy := hI3.f.cell y (by rw [fill_len]; simp; omega)
      have fy := fz_of hI3.f y
      generalize hfo : fill (List.replicate r 0#8 ++ [BitVec.ofNat 8 k]) (kbs (ks.take i) r k ++ pre) = fo at cy
      generalize hvo : fo.getD y 0#8 = v at cy
      replace hvo := hid hvo
      have vb := bi_bd v
      have oo := or_b v (1#8 <<< z)
      replace hI3 := hid hI3
      replace hI2 := hid hI2
      replace hI := hid hI
      replace hfo := hid hfo
      replace hy := hid hy
      replace hz := hid hz
      gi_wp2_with fail
      refine Qi.tail_round 10 (by kernel_rfl) (by kernel_rfl) (by kernel_rfl) ?_
      simp only [List.take_succ_cons, List.take_zero, List.drop_succ_cons, List.drop_zero]
      repeat still_step
      refine wpStill_nil ?_
      go_wp2
      have hP := hI3.out.put x
      have hs8 : W2.drew.heap.size = W2.heap.size := rfl
      have hw : (W2.setCell ⟨n0, y, none⟩ (.int .u8 (bi (v ||| 1#8 <<< z)))).drew = W2.drew.setCell ⟨n0, x / 8, none⟩ (.int .u8 (bi ((fill (List.replicate r 0#8 ++ [BitVec.ofNat 8 k]) (kbs (ks.take i) r k ++ pre)).getD (x / 8) 0#8 ||| 1#8 <<< (x % 8)))) := by
        rw [hfo.out, ← hy.out, hvo.out, ← hz.out]
        rfl
      show KeepsFrom _ _ _ ∧ Kx _ _ _ _ _ ∧ Mi _ _ _ _ _ _ _
      rw [hw, ← List.append_assoc]
      refine ⟨(KeepsOthers.trans (A := W2) (B := W2.drew) ⟨Nat.le_refl _, fun _ _ h _ => h⟩ (keeps_set hI3.out.f)).from _, ⟨?_, ?_, ?_⟩, hP⟩
      · exact set_ne _ _ _ _ _ (by omega)
      · exact set_ne _ _ _ _ _ (by omega)
      · exact set_ne _ _ _ _ _ (by omega)
    case done =>
      rintro D l ys W0 V V' hD hI h0V rfl hVV hl hnc hDd
      have hV : Mi w' n0 r k (D :: Ds) (kbs (ks.take (i + 1)) r k) V' := by
        have h1 := (hI.later h0V).kept hVV (fun q e => by cases e; omega) (fun D hD e => by have := hDs.out D hD; cases e; omega) (fun c e => by cases e; exact hnc)
        rw [hkk.out]
        exact ⟨h1.f, h1.b, fun E hE => by
          rcases List.mem_cons.1 hE with rfl | hE
          · exact ⟨hDd, by omega⟩
          · exact h1.m E hE, List.nodup_cons.2 ⟨fun h => by have := hDs.out D h; omega, h1.nd⟩, h1.lo⟩
      replace hV := hid hV
      clear hI h0V hVV hnc hDd
      gi_wp2_with fail
      refine hK.out _ _ ⟨m - 1, by omega, hJ.out _ _ _ ⟨i + 1, D :: Ds, _, _, _, _, _, _, _, _, _, _, _, _, _, _, _, _, _, _, _, _, _, _, _, _, _, _, _, _, _, _, _, _, _, _, _, _, _, _, _, _, _, _, _, _, _, _, _, _, _, _, _, _, _, _, by omega, rfl, hV⟩⟩
    case stop =>
      rintro D c pre V hD _ hx hDd
      exact hx.elim
  · have e1 : i = len := by omega
    subst e1
    have hT : ks.take i = ks := List.take_of_length_le (by omega)
    rw [hT] at hM
    have c9 := hM.out.b.cell
    replace hJ := hid hJ
    replace hK := hid hK
    gi_wp2_with fail
    refine leaves_all (fun V => Mi w' n0 r k [] (kbs ks r k) V) Ds W hM.out.nd (fun D hD => (hM.out.m D hD).1) ⟨hM.out.f, hM.out.b, by simp, by simp, hM.out.lo⟩ (fun V D o hD hV => ?_) (fun V hV => ?_)
    · have h2 := (hM.out.m D hD).2
      exact ⟨(World.putObj_heap_other (by omega)).trans hV.f, (World.putObj_heap_other (by omega)).trans hV.b, by simp, by simp, hV.lo.grown (grownBy_putObj' V D o) (by have := blk_lt hV.f; omega) (fun q e => by cases e; omega)⟩
    · refine ⟨.tuple #[.slice (some ⟨n0, 0, none⟩) (r + 1) (r + 1), .int .i64 0], ?_, ?_, ?_, by rw [← hn0.out]; exact hV.lo⟩
      · simp [results, Try.results14, go_sem]
      · rw [← hr.out, hn0.out]
      · have := hV.f
        rw [fill_last _ _ _ (fun b hb => by rw [List.length_replicate]; have := kbs_lt ks r k (by omega) b hb; omega)] at this
        rw [← hn0.out]
        unfold mkf flt
        rw [hks, ← hr.out, ← hkb.out]
        exact this
/-- Make of bits that may be. -/
theorem make_ok (a : Option Addr) (len cap : Nat) (ks : List ByteArray) (b : Nat) (w : World) (H : Strs w a len cap ks) (hb1 : 1 ≤ b) (hb2 : b ≤ 64) (hlen : len ≤ 8796093022208) :
    Calls Try.prog 14 #[.slice a len cap, .int .i64 (b : Int)] w fun e w' => e = .returned (.tuple #[.slice (some ⟨w.heap.size, 0, none⟩) (room len b + 1) (room len b + 1), .int .i64 0]) ∧ Fb w' w.heap.size (mkf ks b) ∧ Below w.heap.size w w' :=
  callsIn_wide.1 (make_in a len cap ks b w H hb1 hb2 hlen)
set_option maxRecDepth 100000 in
theorem make_no (v : Value) (b : Int) (w : World) (h : b < 1 ∨ 64 < b) : Calls Try.prog 14 #[v, .int .i64 b] w fun e w' => e = .returned (.tuple #[.slice none 0 0, .int .i64 2]) ∧ w' = w := by
  have HP := hid (probes_no b h w)
  clear h
  go_enter Try.func14, Try.ntmps14
  go_wp2_with fail
  refine HP.out.mono ?_
  rintro e w' ⟨rfl, rfl⟩
  go_wp2_with fail
  go_ret2
  exact ⟨rfl, rfl⟩
end Go.Proofs.Ytempagacpfejdaa.Mk

/- Append. -/
import Derived.Test.YtgffojafdjcdoaaUs
import Derived.Maps.AppendAt
import Derived.Deep.RegionWith
namespace Go.Proofs.Ytgffojafdjcdoaa.Ap
open Go.ChangeShapes Go.WideShapes Go.ChangeAt Go.RowKit Go.Maps
open Go.Proofs.Ytgffojafdjcdoaa.By
open Go.Proofs.Ytgffojafdjcdoaa.Ln
open Go.Proofs.Ytgffojafdjcdoaa.Mp
open Go.Proofs.Ytgffojafdjcdoaa.Dk
open Go.Proofs.Ytgffojafdjcdoaa.Df
open Go.Proofs.Ytgffojafdjcdoaa.Dg
open Go.Proofs.Ytgffojafdjcdoaa.Dh
open Go.Proofs.Ytgffojafdjcdoaa.Di
open Go.Proofs.Ytgffojafdjcdoaa.Us
set_option linter.unusedVariables false
set_option linter.unusedSimpArgs false

theorem wpList_append_run {P : Program} {w w' : World} {ops : Array Oper} {rest : List Oper} {o : Oper} {a : Act} {Q : Exit → Act → World → Prop} (hg : o.guard = none) (s x : Operand) (t tx : TypeId) (hop : o.op = Op.call { callee := Callee.builtin Builtin.append, args := #[s, x], argTypes := #[t, tx] })
    (u v v' : Value) (hs : a.eval s = u) (hx : a.eval x = v) (hrun : (Builtin.append_ #[t, tx] o.type #[u, v]).run P w = .ok v' w') (hK : wpList P ops Q rest (a.put o.dst v') w') : wpList P ops Q (o :: rest) a w := by
  refine wpList_plain hg fun K' hK' => ?_
  unfold Oper.wp
  simp [execOp, hop, resolve, invoke, builtin, hs, hx, hrun, Result.andThen]
  exact hK' _ _ hK
/-- Bytes put behind a file's, as a run. -/
theorem app_run (w : World) (base : Nat) (f : Fl) (ho : ownB w base f) (a : Option Addr) (m c : Nat) (ys : List Int) (H : Bytes w a m c ys) (hb : f.zs.length + m ≤ 140737488355328) (hbase : base ≤ w.heap.size) :
    ∃ v' w', (Builtin.append_ #[32, 32] 32 #[f.sl, .slice a m c]).run Try.prog w = .ok v' w' ∧ ownB w' base ⟨v', f.zs ++ ys, f.k⟩ ∧ w.grownBy w' f.sl.ownBlock ∧ (v'.ownBlock = f.sl.ownBlock ∨ v'.ownBlock = some w.heap.size) := by
  obtain ⟨i0, hi, hz0, hz1, hz2⟩ := info_parts info5
  cases a with
  | none =>
    obtain ⟨rfl, rfl⟩ := H.2.2.1 rfl
    have hy : ys = [] := List.eq_nil_of_length_eq_zero H.1
    subst hy
    refine ⟨f.sl, w, run_append_owned_none (P := Try.prog) (w := w) base 32 32 5 i0 1 Try.underlying32 hi f.sl _ _ ho, by unfold ownB at ho ⊢; simpa using ho, ⟨rfl, rfl, rfl, Nat.le_refl _, fun _ _ _ => rfl⟩, .inl rfl⟩
  | some ad =>
    have hl := H.1
    obtain ⟨v', w', h1, h2, h3, _, h5⟩ := run_append_own_at (P := Try.prog) (w := w) base 32 32 5 i0 (.int .u8 0) 1 1 Try.underlying32 hi hz0 hz1 hz2 rfl (by decide) f.sl _ _ ho ad m c (ys.map (Value.int .u8)) (by simp; exact hl) ((bytes_later H (Below.refl _ _)).2 ad rfl) (one_cell ys) (by unfold maxLen; omega) (by omega) hbase
    refine ⟨v', w', h1, ?_, h3, h5⟩
    unfold ownB
    simp only [List.length_append, List.map_append]
    rw [hl]
    exact h2
theorem Fr.cell {P : Nat → Prop} {w w' : World} (h : Fr P w w') {x : Addr} {v : Value} (hc : w.cell? x = some v) (hp : ¬ P x.block) : w'.cell? x = some v :=
  (World.cell?_of_block (h.block x.block (block_lt_of_cell hc) hp)).trans hc
theorem Fr.bytes {P : Nat → Prop} {w w' : World} (h : Fr P w w') {a : Option Addr} {len cap : Nat} {zs : List Int} (H : Bytes w a len cap zs) (hp : ∀ x, a = some x → 0 < len → ¬ P x.block) : Bytes w' a len cap zs :=
  ⟨H.1, H.2.1, H.2.2.1, H.2.2.2.1, fun x hx i hi => Fr.cell h (H.2.2.2.2 x hx i hi) (by
    have e : (x.add i).block = x.block := by unfold Addr.add; split <;> rfl
    rw [e]
    exact hp x hx (by omega))⟩
/-- Whether an Append does not fit. -/
def big (S : St) (n : Nat) : Bool := decide (S.q - (used S.fs : Nat) < (n : Int))
/-- The disk as it is behind a call that may have laid new rows. -/
def Took (w w' : World) (base g b : Nat) (P : Nat → Prop) (S : Value → St) : Prop := ∃ (sl : Value) (P' : Nat → Prop), Disk w' base g b P' (S sl) ∧ Fr P w w' ∧ (∀ j, P' j → P j ∨ w.heap.size ≤ j) ∧ (∀ j, P j → P' j)
/-- What Append does. -/
def apd (S : St) (s : ByteArray) (zs : List Int) (sl : Value) : St × Int :=
  if (fnd S s).2 = 0 then (if (tr S (big S zs.length)).2 = true then ((tr S (big S zs.length)).1, 52) else ({ (tr S (big S zs.length)).1 with fs := put S.fs s.data.toList ⟨sl, (fnd S s).1.zs ++ zs, (fnd S s).1.k⟩ }, 0)) else (S, (fnd S s).2)
set_option maxRecDepth 100000 in
set_option maxHeartbeats 4000000 in
theorem append_no {base g b : Nat} {P : Nat → Prop} {S : St} (s : ByteArray) (hs : s.size ≤ 9223372036854775807) (ba : Option Addr) (bl bc : Nat) (zs : List Int) (w : World) (H : Disk w base g b P S) (hr : S.rf < 4611686018427387904) (HB : Bytes w ba bl bc zs) (hbl : bl ≤ 140737488351232) (hbp : ∀ x, ba = some x → 0 < bl → ¬ P x.block) (he : (fnd S s).2 ≠ 0) :
    Calls Try.prog 28 #[.pointer (some ⟨g, 0, none⟩), .string s, .slice ba bl bc] w fun e w' => e = .returned (.int .i64 (fnd S s).2) ∧ Disk w' base g b P S ∧ Fr P w w' := by
  have HF0 := find_any s hs w H
  obtain ⟨a, c, hsl, hval⟩ := fnd_val H s
  rw [hval] at HF0
  have HF := hid HF0
  clear HF0
  have HH := hid H
  have HBy := hid HB
  have HBP := hid hbp
  clear HB hbp
  generalize (fnd S s).2 = E at *
  generalize (fnd S s).1.zs.length = n at *
  generalize (fnd S s).1.k = k at *
  clear H hval hsl
  go_enter Try.func28, Try.ntmps28
  go_wp2_with fail
  refine HF.out.mono ?_
  rintro e w1 ⟨rfl, b1⟩
  have b2 : Below w.heap.size w (w1.alloc (.cells #[.slice a n c, .int .i64 k] 83)) := b1.alloc b1.size _
  have D2 := hid (HH.out.later b2)
  have F2 := hid ((Fr.refl P w).below b2)
  clear b1 b2
  go_wp2_with fail
  go_ret
  exact ⟨rfl, D2.out, F2.out⟩
set_option maxRecDepth 100000 in
set_option maxHeartbeats 4000000 in
theorem append_ref {base g b : Nat} {P : Nat → Prop} {S : St} (s : ByteArray) (hs : s.size ≤ 9223372036854775807) (ba : Option Addr) (bl bc : Nat) (zs : List Int) (w : World) (H : Disk w base g b P S) (hr : S.rf < 4611686018427387904) (HB : Bytes w ba bl bc zs) (hbl : bl ≤ 140737488351232) (hbp : ∀ x, ba = some x → 0 < bl → ¬ P x.block) (he : (fnd S s).2 = 0) (hno0 : (tr S (big S zs.length)).2 = true) :
    Calls Try.prog 28 #[.pointer (some ⟨g, 0, none⟩), .string s, .slice ba bl bc] w fun e w' => e = .returned (.int .i64 52) ∧ Disk w' base g b P (tr S (big S zs.length)).1 ∧ Fr P w w' := by
  have HF0 := find_any s hs w H
  obtain ⟨a, c, hsl, hval⟩ := fnd_val H s
  rw [hval] at HF0
  have HF := hid HF0
  clear HF0
  have HH := hid H
  have HBy := hid HB
  have HBP := hid hbp
  clear HB hbp
  obtain ⟨hn, hl⟩ := fnd_ok he
  rw [he] at HF
  have hnb := isN_size hn
  have HL := hid hl
  have hap := hid (apart_put H hl)
  have hmem := hid (seek_mem hl)
  have hby := hid (H.mem.bytes _ (seek_mem hl))
  have hla := hid (H.mem.lasts _ (seek_mem hl))
  have hmm := hid (H.mem.mem _ (seek_mem hl))
  have hlp := hid (fun f => @len_put S.fs s.data.toList f _ (nodup H) hl)
  have hup := hid (fun f => @used_put S.fs s.data.toList f _ (nodup H) hl)
  have hzl := HBy.out.1
  rw [hzl] at hno0 ⊢
  have hno := hid (@tr_no S (big S bl))
  have hfs := hid (tr_fs S (big S bl))
  have HR : Hid (∀ W, Disk W base g b P S → Calls Try.prog 54 #[.pointer (some ⟨g, 0, none⟩), .bool (big S bl)] W fun e w' => e = .returned (.bool (tr S (big S bl)).2) ∧ Disk w' base g b P (tr S (big S bl)).1 ∧ Fr P W w') := fun W h => refuses_any (big S bl) W h hr
  have HU : Hid (∀ W, Disk W base g b P S → Calls Try.prog 21 #[.pointer (some ⟨g, 0, none⟩)] W fun e w' => e = .returned (.int .i64 (used S.fs : Nat)) ∧ Below W.heap.size W w') := fun W h => used_any W h
  have hbg2 : Hid (big S bl = false → (used S.fs : Int) + bl ≤ S.q) := fun h => by unfold big at h; simp at h; omega
  have hq := H.ok.q
  have hu0 := H.ok.used
  have hbg : Hid (decide (IntKind.i64.wrap (S.q - (used S.fs : Nat)) < (bl : Int)) = big S bl) := by
    have e : IntKind.i64.wrap (S.q - (used S.fs : Nat)) = S.q - (used S.fs : Nat) := by
      simp [IntKind.wrap, IntKind.bits, IntKind.signed]
      omega
    show decide _ = decide _
    rw [e]
  generalize (fnd S s).1 = f at *
  obtain ⟨sl, zf, k⟩ := f
  simp only at hsl hval hmem hby hla hmm hup HF ⊢
  subst hsl
  generalize hn' : zf.length = n at *
  have hnn := hid hn'
  generalize htr : tr S (big S bl) = r at *
  obtain ⟨S1, no⟩ := r
  simp only at hno hfs HR hno0 ⊢
  subst hno0
  generalize big S bl = fl at *
  generalize husd : used S.fs = us at *
  clear H hval he hl hn' htr
  go_enter Try.func28, Try.ntmps28
  go_wp2_with fail
  refine HF.out.mono ?_
  rintro e w1 ⟨rfl, b1⟩
  obtain ⟨W1, hW1⟩ : ∃ W1, W1 = w1.alloc (.cells #[.slice a n c, .int .i64 k] 83) := ⟨_, rfl⟩
  obtain ⟨gl, hgl⟩ : ∃ gl, gl = w1.heap.size := ⟨_, rfl⟩
  have b2 : Below w.heap.size w W1 := by rw [hW1]; exact b1.alloc b1.size _
  have D2 := hid (HH.out.later b2)
  have F2 := hid ((Fr.refl P w).below b2)
  have kb : Hid (W1.heap[gl]? = some (.cells #[.slice a n c, .int .i64 k] 83 (0, 0))) := by show _ = _; rw [hW1, hgl]; exact heap_alloc_new _ _
  have hnp : Hid (¬ P gl ∧ w.heap.size ≤ gl) := ⟨fun h => by have h1 := HH.out.plow _ h; have h2 := b1.size; omega, by have := b1.size; omega⟩
  have HB1 := hid (bytes_kept HBy.out b2)
  have HW1 := hid hW1
  have HGL := hid hgl
  have c1 : W1.drew.cell? ⟨g, 1, none⟩ = some (.int .i64 S.q) := D2.out.cell 1
  clear b1 b2 hW1 hgl
  go_wp2_with fail
  rw [← HW1.out, ← HGL.out]
  clear HW1 HGL
  refine wp_region_any (by kernel_rfl) ?_
  change wpAny _ _ _ _ _ _ _ (World.drew _)
  refine wpAny_take (i := 0) (v := ?v1) rfl (by kernel_rfl) (by kernel_rfl) (by kernel_rfl) (fun _ _ _ h => h) (Or.inl ⟨by rfl, ?h1⟩) ?_
  case h1 => (intro w; go_simp; try (with_reducible rfl))
  go_simp
  refine wpAny_take (i := 1) (v := ?v2) rfl (by kernel_rfl) (by kernel_rfl) (by kernel_rfl) (fun _ _ _ h => h) (Or.inl ⟨by rfl, ?h2⟩) ?_
  case h2 => (intro w; go_simp; try (with_reducible rfl))
  go_simp
  refine wpAny_take (i := 2) (v := ?v3) rfl (by kernel_rfl) (by kernel_rfl) (by kernel_rfl) (fun _ _ _ h => h) (Or.inl ⟨by rfl, ?h3⟩) ?_
  case h3 => (intro w; go_simp; try (with_reducible rfl))
  go_simp
  refine wpAny_take (i := 3) (v := ?v4) rfl (by kernel_rfl) (by kernel_rfl) (by kernel_rfl) (fun _ _ _ h => h) (Or.inl ⟨by rfl, ?h4⟩) ?_
  case h4 => (intro w; go_simp; try (with_reducible rfl))
  go_simp
  refine wpAny_take (i := 4) (v := ?v5) rfl (by kernel_rfl) (by kernel_rfl) (by kernel_rfl) (fun _ _ _ h => h) (Or.inl ⟨by rfl, ?h5⟩) ?_
  case h5 => (intro w; go_simp; try (with_reducible rfl))
  go_simp
  refine wpAny_take (i := 5) (v := ?v6) rfl (by kernel_rfl) (by kernel_rfl) (by kernel_rfl) (fun _ _ _ h => h) (Or.inl ⟨by rfl, ?h6⟩) ?_
  case h6 => (intro w; go_simp; try (with_reducible rfl))
  go_simp
  refine wpAny_take (i := 7) (v := ?v7) rfl (by kernel_rfl) (by kernel_rfl) (by kernel_rfl) (fun _ _ _ h => h) (Or.inl ⟨by rfl, ?h7⟩) ?_
  case h7 => (intro w; go_simp; try (with_reducible rfl))
  go_simp
  refine wpAny_ready (rs := [6, 8]) (by kernel_rfl) (by simp) ?_
  refine AllReady.cons rfl (fun K hK => ?_) ?_
  · go_simp
    refine hK _ _ ?_
    clear hK K
    refine wpAny_ready (rs := [8]) (by kernel_rfl) (by simp) ?_
    refine AllReady.cons rfl (fun K hK => ?_) ?_
    · go_simp
      go_wp2_with fail
      refine (HU.out _ (D2.out.later (below_drew _))).mono ?_
      rintro e w3 ⟨rfl, b3⟩
      have b3' : Below W1.heap.size W1 w3 := (below_drew W1).trans b3
      have D3 := hid (D2.out.later b3')
      have F3 := hid (F2.out.below b3')
      have kb3 : Hid (w3.heap[gl]? = some (.cells #[.slice a n c, .int .i64 k] 83 (0, 0))) := (b3'.block gl (Array.getElem?_eq_some_iff.1 kb.out).1).trans kb.out
      have HB3 := hid (bytes_kept HB1.out b3')
      have c3 : w3.cell? ⟨g, 1, none⟩ = some (.int .i64 S.q) := D3.out.cell 1
      clear b3 b3'
      go_wp2_with fail
      refine wpAny_take (i := 9) (v := ?v8) rfl (by kernel_rfl) (by kernel_rfl) (by kernel_rfl) (fun _ _ _ h => h) (Or.inl ⟨by rfl, ?h8⟩) ?_
      case h8 => (intro w; go_simp; try (with_reducible rfl))
      go_simp
      refine wpAny_take (i := 10) (v := ?v9) rfl (by kernel_rfl) (by kernel_rfl) (by kernel_rfl) (fun _ _ _ h => h) (Or.inl ⟨by rfl, ?h9⟩) ?_
      case h9 => (intro w; go_simp; try (with_reducible rfl))
      go_simp
      refine wpAny_ready (rs := [11]) (by kernel_rfl) (by simp) ?_
      refine AllReady.cons rfl (fun K hK => ?_) ?_
      · go_simp
        go_wp2_with fail
        rw [hbg.out]
        refine (HR.out _ D3.out).mono ?_
        rintro e w4 ⟨rfl, D4, F4⟩
        have D4 := hid D4
        have F4' := hid F4
        have F5 := hid (Fr.join F3.out F4)
        clear F4
        go_wp2_with fail
        refine wpAny_done (by kernel_rfl) ?_ _
        clear c1 c3 HU HR
        go_wp2_with fail
        go_ret
        exact ⟨rfl, D4.out, F5.out⟩
      exact AllReady.nil
    exact AllReady.nil
  refine AllReady.cons rfl (fun K hK => ?_) ?_
  · go_simp
    go_wp2_with fail
    refine (HU.out _ (D2.out.later (below_drew _))).mono ?_
    rintro e w3 ⟨rfl, b3⟩
    have b3' : Below W1.heap.size W1 w3 := (below_drew W1).trans b3
    have D3 := hid (D2.out.later b3')
    have F3 := hid (F2.out.below b3')
    have kb3 : Hid (w3.heap[gl]? = some (.cells #[.slice a n c, .int .i64 k] 83 (0, 0))) := (b3'.block gl (Array.getElem?_eq_some_iff.1 kb.out).1).trans kb.out
    have HB3 := hid (bytes_kept HB1.out b3')
    have c3 : w3.cell? ⟨g, 1, none⟩ = some (.int .i64 S.q) := D3.out.cell 1
    clear b3 b3'
    go_wp2_with fail
    refine wpAny_ready (rs := [6]) (by kernel_rfl) (by simp) ?_
    refine AllReady.cons rfl (fun K hK => ?_) ?_
    · go_simp
      refine hK _ _ ?_
      clear hK K
      refine wpAny_take (i := 9) (v := ?v10) rfl (by kernel_rfl) (by kernel_rfl) (by kernel_rfl) (fun _ _ _ h => h) (Or.inl ⟨by rfl, ?h10⟩) ?_
      case h10 => (intro w; go_simp; try (with_reducible rfl))
      go_simp
      refine wpAny_take (i := 10) (v := ?v11) rfl (by kernel_rfl) (by kernel_rfl) (by kernel_rfl) (fun _ _ _ h => h) (Or.inl ⟨by rfl, ?h11⟩) ?_
      case h11 => (intro w; go_simp; try (with_reducible rfl))
      go_simp
      refine wpAny_ready (rs := [11]) (by kernel_rfl) (by simp) ?_
      refine AllReady.cons rfl (fun K hK => ?_) ?_
      · go_simp
        go_wp2_with fail
        rw [hbg.out]
        refine (HR.out _ D3.out).mono ?_
        rintro e w4 ⟨rfl, D4, F4⟩
        have D4 := hid D4
        have F4' := hid F4
        have F5 := hid (Fr.join F3.out F4)
        clear F4
        go_wp2_with fail
        refine wpAny_done (by kernel_rfl) ?_ _
        clear c1 c3 HU HR
        go_wp2_with fail
        go_ret
        exact ⟨rfl, D4.out, F5.out⟩
      exact AllReady.nil
    exact AllReady.nil
  exact AllReady.nil
set_option maxRecDepth 100000 in
set_option maxHeartbeats 4000000 in
theorem append_ok {base g b : Nat} {P : Nat → Prop} {S : St} (s : ByteArray) (hs : s.size ≤ 9223372036854775807) (ba : Option Addr) (bl bc : Nat) (zs : List Int) (w : World) (H : Disk w base g b P S) (hr : S.rf < 4611686018427387904) (HB : Bytes w ba bl bc zs) (hbl : bl ≤ 140737488351232) (hbp : ∀ x, ba = some x → 0 < bl → ¬ P x.block) (he : (fnd S s).2 = 0) (hno0 : (tr S (big S zs.length)).2 = false) :
    Calls Try.prog 28 #[.pointer (some ⟨g, 0, none⟩), .string s, .slice ba bl bc] w fun e w' => e = .returned (.int .i64 0) ∧ Took w w' base g b P (fun sl => { (tr S (big S zs.length)).1 with fs := put S.fs s.data.toList ⟨sl, (fnd S s).1.zs ++ zs, (fnd S s).1.k⟩ }) := by
  have HF0 := find_any s hs w H
  obtain ⟨a, c, hsl, hval⟩ := fnd_val H s
  rw [hval] at HF0
  have HF := hid HF0
  clear HF0
  have HH := hid H
  have HBy := hid HB
  have HBP := hid hbp
  clear HB hbp
  obtain ⟨hn, hl⟩ := fnd_ok he
  rw [he] at HF
  have hnb := isN_size hn
  have HL := hid hl
  have hap := hid (apart_put H hl)
  have hmem := hid (seek_mem hl)
  have hby := hid (H.mem.bytes _ (seek_mem hl))
  have hla := hid (H.mem.lasts _ (seek_mem hl))
  have hmm := hid (H.mem.mem _ (seek_mem hl))
  have hlp := hid (fun f => @len_put S.fs s.data.toList f _ (nodup H) hl)
  have hup := hid (fun f => @used_put S.fs s.data.toList f _ (nodup H) hl)
  have hzl := HBy.out.1
  rw [hzl] at hno0 ⊢
  have hno := hid (@tr_no S (big S bl))
  have hfs := hid (tr_fs S (big S bl))
  have HR : Hid (∀ W, Disk W base g b P S → Calls Try.prog 54 #[.pointer (some ⟨g, 0, none⟩), .bool (big S bl)] W fun e w' => e = .returned (.bool (tr S (big S bl)).2) ∧ Disk w' base g b P (tr S (big S bl)).1 ∧ Fr P W w') := fun W h => refuses_any (big S bl) W h hr
  have HU : Hid (∀ W, Disk W base g b P S → Calls Try.prog 21 #[.pointer (some ⟨g, 0, none⟩)] W fun e w' => e = .returned (.int .i64 (used S.fs : Nat)) ∧ Below W.heap.size W w') := fun W h => used_any W h
  have hbg2 : Hid (big S bl = false → (used S.fs : Int) + bl ≤ S.q) := fun h => by unfold big at h; simp at h; omega
  have hq := H.ok.q
  have hu0 := H.ok.used
  have hbg : Hid (decide (IntKind.i64.wrap (S.q - (used S.fs : Nat)) < (bl : Int)) = big S bl) := by
    have e : IntKind.i64.wrap (S.q - (used S.fs : Nat)) = S.q - (used S.fs : Nat) := by
      simp [IntKind.wrap, IntKind.bits, IntKind.signed]
      omega
    show decide _ = decide _
    rw [e]
  generalize (fnd S s).1 = f at *
  obtain ⟨sl, zf, k⟩ := f
  simp only at hsl hval hmem hby hla hmm hup HF ⊢
  subst hsl
  generalize hn' : zf.length = n at *
  have hnn := hid hn'
  generalize htr : tr S (big S bl) = r at *
  obtain ⟨S1, no⟩ := r
  simp only at hno hfs HR hno0 ⊢
  subst hno0
  generalize big S bl = fl at *
  generalize husd : used S.fs = us at *
  clear H hval he hl hn' htr
  go_enter Try.func28, Try.ntmps28
  go_wp2_with fail
  refine HF.out.mono ?_
  rintro e w1 ⟨rfl, b1⟩
  obtain ⟨W1, hW1⟩ : ∃ W1, W1 = w1.alloc (.cells #[.slice a n c, .int .i64 k] 83) := ⟨_, rfl⟩
  obtain ⟨gl, hgl⟩ : ∃ gl, gl = w1.heap.size := ⟨_, rfl⟩
  have b2 : Below w.heap.size w W1 := by rw [hW1]; exact b1.alloc b1.size _
  have D2 := hid (HH.out.later b2)
  have F2 := hid ((Fr.refl P w).below b2)
  have kb : Hid (W1.heap[gl]? = some (.cells #[.slice a n c, .int .i64 k] 83 (0, 0))) := by show _ = _; rw [hW1, hgl]; exact heap_alloc_new _ _
  have hnp : Hid (¬ P gl ∧ w.heap.size ≤ gl) := ⟨fun h => by have h1 := HH.out.plow _ h; have h2 := b1.size; omega, by have := b1.size; omega⟩
  have HB1 := hid (bytes_kept HBy.out b2)
  have HW1 := hid hW1
  have HGL := hid hgl
  have c1 : W1.drew.cell? ⟨g, 1, none⟩ = some (.int .i64 S.q) := D2.out.cell 1
  clear b1 b2 hW1 hgl
  go_wp2_with fail
  rw [← HW1.out, ← HGL.out]
  clear HW1 HGL
  refine wp_region_any (by kernel_rfl) ?_
  change wpAny _ _ _ _ _ _ _ (World.drew _)
  refine wpAny_take (i := 0) (v := ?v12) rfl (by kernel_rfl) (by kernel_rfl) (by kernel_rfl) (fun _ _ _ h => h) (Or.inl ⟨by rfl, ?h12⟩) ?_
  case h12 => (intro w; go_simp; try (with_reducible rfl))
  go_simp
  refine wpAny_take (i := 1) (v := ?v13) rfl (by kernel_rfl) (by kernel_rfl) (by kernel_rfl) (fun _ _ _ h => h) (Or.inl ⟨by rfl, ?h13⟩) ?_
  case h13 => (intro w; go_simp; try (with_reducible rfl))
  go_simp
  refine wpAny_take (i := 2) (v := ?v14) rfl (by kernel_rfl) (by kernel_rfl) (by kernel_rfl) (fun _ _ _ h => h) (Or.inl ⟨by rfl, ?h14⟩) ?_
  case h14 => (intro w; go_simp; try (with_reducible rfl))
  go_simp
  refine wpAny_take (i := 3) (v := ?v15) rfl (by kernel_rfl) (by kernel_rfl) (by kernel_rfl) (fun _ _ _ h => h) (Or.inl ⟨by rfl, ?h15⟩) ?_
  case h15 => (intro w; go_simp; try (with_reducible rfl))
  go_simp
  refine wpAny_take (i := 4) (v := ?v16) rfl (by kernel_rfl) (by kernel_rfl) (by kernel_rfl) (fun _ _ _ h => h) (Or.inl ⟨by rfl, ?h16⟩) ?_
  case h16 => (intro w; go_simp; try (with_reducible rfl))
  go_simp
  refine wpAny_take (i := 5) (v := ?v17) rfl (by kernel_rfl) (by kernel_rfl) (by kernel_rfl) (fun _ _ _ h => h) (Or.inl ⟨by rfl, ?h17⟩) ?_
  case h17 => (intro w; go_simp; try (with_reducible rfl))
  go_simp
  refine wpAny_take (i := 7) (v := ?v18) rfl (by kernel_rfl) (by kernel_rfl) (by kernel_rfl) (fun _ _ _ h => h) (Or.inl ⟨by rfl, ?h18⟩) ?_
  case h18 => (intro w; go_simp; try (with_reducible rfl))
  go_simp
  refine wpAny_ready (rs := [6, 8]) (by kernel_rfl) (by simp) ?_
  refine AllReady.cons rfl (fun K hK => ?_) ?_
  · go_simp
    refine hK _ _ ?_
    clear hK K
    refine wpAny_ready (rs := [8]) (by kernel_rfl) (by simp) ?_
    refine AllReady.cons rfl (fun K hK => ?_) ?_
    · go_simp
      go_wp2_with fail
      refine (HU.out _ (D2.out.later (below_drew _))).mono ?_
      rintro e w3 ⟨rfl, b3⟩
      have b3' : Below W1.heap.size W1 w3 := (below_drew W1).trans b3
      have D3 := hid (D2.out.later b3')
      have F3 := hid (F2.out.below b3')
      have kb3 : Hid (w3.heap[gl]? = some (.cells #[.slice a n c, .int .i64 k] 83 (0, 0))) := (b3'.block gl (Array.getElem?_eq_some_iff.1 kb.out).1).trans kb.out
      have HB3 := hid (bytes_kept HB1.out b3')
      have c3 : w3.cell? ⟨g, 1, none⟩ = some (.int .i64 S.q) := D3.out.cell 1
      clear b3 b3'
      go_wp2_with fail
      refine wpAny_take (i := 9) (v := ?v19) rfl (by kernel_rfl) (by kernel_rfl) (by kernel_rfl) (fun _ _ _ h => h) (Or.inl ⟨by rfl, ?h19⟩) ?_
      case h19 => (intro w; go_simp; try (with_reducible rfl))
      go_simp
      refine wpAny_take (i := 10) (v := ?v20) rfl (by kernel_rfl) (by kernel_rfl) (by kernel_rfl) (fun _ _ _ h => h) (Or.inl ⟨by rfl, ?h20⟩) ?_
      case h20 => (intro w; go_simp; try (with_reducible rfl))
      go_simp
      refine wpAny_ready (rs := [11]) (by kernel_rfl) (by simp) ?_
      refine AllReady.cons rfl (fun K hK => ?_) ?_
      · go_simp
        go_wp2_with fail
        rw [hbg.out]
        refine (HR.out _ D3.out).mono ?_
        rintro e w4 ⟨rfl, D4, F4⟩
        have D4 := hid D4
        have F4' := hid F4
        have F5 := hid (Fr.join F3.out F4)
        clear F4
        go_wp2_with fail
        refine wpAny_done (by kernel_rfl) ?_ _
        clear c1 c3 HU HR
        have kb4 : w4.heap[gl]? = some (.cells #[.slice a n c, .int .i64 k] 83 (0, 0)) := (F4'.out.block gl (Array.getElem?_eq_some_iff.1 kb3.out).1 hnp.out.1).trans kb3.out
        have HB4 := Fr.bytes F4'.out HB3.out HBP.out
        have hm4 : (s.data.toList, (⟨.slice a n c, zf, k⟩ : Fl)) ∈ S1.fs := by rw [hfs.out]; exact hmem.out
        have row4 : ownB w4 base ⟨.slice a n c, zf, k⟩ := D4.out.mem.row _ hm4
        have hus : us + bl ≤ 268435456 := by have := hbg2.out (hno.out (by simp)); omega
        have hnu : n ≤ us := by have := used_mem hmem.out; rw [husd] at this; simp only at this; have := hnn.out; omega
        have hbs : base ≤ w4.heap.size := by have := D4.out.low g D4.out.pg; omega
        obtain ⟨v', w5, hrun, ho5, gr5, loc5⟩ := app_run w4 base ⟨.slice a n c, zf, k⟩ row4 ba bl bc zs HB4 (by have := hnn.out; simp only; omega) hbs
        obtain ⟨a', c', hv'⟩ := Df.shape ho5
        simp only at hv' hrun gr5 loc5 ho5
        subst hv'
        generalize hN : (zf ++ zs).length = N at *
        have hrowP : ∀ j, (Value.slice a n c).ownBlock = some j → P j := fun j hj => hmm.out j hj
        have hgl5 : some gl ≠ (Value.slice a n c).ownBlock := fun e => hnp.out.1 (hrowP gl e.symm)
        have kb5 : w5.heap[gl]? = some (.cells #[.slice a n c, .int .i64 k] 83 (0, 0)) := (gr5.block gl (Array.getElem?_eq_some_iff.1 kb4).1 hgl5).trans kb4
        have l40 : w4.cell? ⟨gl, 0, none⟩ = some (.slice a n c) := cell_of_row w4 gl 0 _ 83 (0, 0) kb4
        have l50 : w5.cell? ⟨gl, 0, none⟩ = some (.slice a n c) := cell_of_row w5 gl 0 _ 83 (0, 0) kb5
        have fz5 : w5.frozen? ⟨gl, 0, none⟩ = false := by simp [World.frozen?, kb5]
        have kb6 := set_cells kb5 0 (.slice a' N c')
        have m0 : (w5.setCell ⟨gl, 0, none⟩ (.slice a' N c')).drew.cell? ⟨gl, 0, none⟩ = some (.slice a' N c') := cell_of_row (w5.setCell ⟨gl, 0, none⟩ (.slice a' N c')).drew gl 0 _ 83 (0, 0) kb6
        have m1 : (w5.setCell ⟨gl, 0, none⟩ (.slice a' N c')).drew.cell? ⟨gl, 1, none⟩ = some (.int .i64 k) := cell_of_row (w5.setCell ⟨gl, 0, none⟩ (.slice a' N c')).drew gl 1 _ 83 (0, 0) kb6
        have kp : Kp P (Value.slice a n c).ownBlock w4 (w5.setCell ⟨gl, 0, none⟩ (.slice a' N c')) := ((Kp.refl P w4 _).grown D4.out.plow gr5).set (.inl hnp.out.1) 0 _
        have kp6 : Kp P (Value.slice a n c).ownBlock w4 (w5.setCell ⟨gl, 0, none⟩ (.slice a' N c')).drew := ⟨kp.size, kp.block⟩
        have hng : ∀ j, (Value.slice a n c).ownBlock = some j → j ≠ b ∧ j ≠ g := fun j hj => not_b D4.out hm4 hj
        have F6 : Fr P w (w5.setCell ⟨gl, 0, none⟩ (.slice a' N c')).drew := ((F5.out.grown gr5 (fun j hj => .inl (hrowP j hj))).set (.inr hnp.out.2) 0 _).below (below_drew _)
        have e0 : (w5.setCell ⟨gl, 0, none⟩ (.slice a' N c')).drew.cell? ⟨g, 0, none⟩ = some (.map (some b)) := (World.cell?_of_block (a := ⟨g, 0, none⟩) (kp6.block g D4.out.pg (fun e => (hng g e.symm).2 rfl))).trans (D4.out.cell 0)
        have s56 : (w5.setCell ⟨gl, 0, none⟩ (.slice a' N c')).drew.heap.size = w5.heap.size := by show (w5.setCell _ _).heap.size = _; simp
        have s4 : w.heap.size ≤ w4.heap.size := F5.out.size
        have hwb : base ≤ w.heap.size := by have := HH.out.low g HH.out.pg; omega
        have ho6 : ownB (w5.setCell ⟨gl, 0, none⟩ (.slice a' N c')).drew base ⟨.slice a' N c', zf ++ zs, k⟩ := own_of_block ho5 (fun j hj => Below.heap_setCell w5 _ _ j (fun e => by
          have e2 : j = gl := e
          subst e2
          rcases loc5 with h | h
          · exact hgl5 (by rw [← h]; exact hj.symm)
          · rw [h] at hj
            have := (Array.getElem?_eq_some_iff.1 kb4).1
            have e3 : w4.heap.size = j := by simpa using hj
            omega))
        obtain ⟨w7, hst, D7, gr7, _⟩ := D4.out.run_store (P' := fun j => P j ∨ (w.heap.size ≤ j ∧ j < (w5.setCell ⟨gl, 0, none⟩ (.slice a' N c')).drew.heap.size)) kp6 (fun e => (hng g e).2 rfl) (fun e => (hng b e).1 rfl) s hnb ⟨.slice a' N c', zf ++ zs, k⟩
          (fun p hp hne j hj => by
            rw [hfs.out] at hp
            have h1 := hap.out p hp hne j hj
            refine ⟨h1, fun e => ?_⟩
            rcases loc5 with h | h
            · exact h1 (by rw [← h]; exact e)
            · have h2 := D4.out.plow j (D4.out.mem.mem p (by rw [hfs.out]; exact hp) j hj)
              rw [show (Value.slice a' N c').ownBlock = some w4.heap.size from h] at e
              have e3 : w4.heap.size = j := by simpa using e
              omega) ho6 (fun y hy => by rcases List.mem_append.1 hy with h | h; exact hby.out y h; exact HBy.out.2.2.2.1 y h) (by have := hla.out; have := hnn.out; show k ≤ (zf ++ zs).length; simp; omega)
          (by rw [hfs.out, hlp.out]; exact HH.out.ok.len) (by rw [hfs.out]; have h1 := hup.out ⟨.slice a' N c', zf ++ zs, k⟩; simp only [List.length_append] at h1; have h2 := hzl; have h3 := hnn.out; omega) (fun j h => .inl h)
          (fun j hj => by
            rcases loc5 with h | h
            · exact .inl (hrowP j (by rw [← h]; exact hj))
            · rw [h] at hj
              have e3 : w4.heap.size = j := by simpa using hj
              have h5 := World.ownsRow.lt ho5 w4.heap.size h
              exact .inr ⟨by omega, by rw [s56]; omega⟩)
          (fun j hj => by
            rcases hj with h | h
            · have h1 := D4.out.low j h
              have h2 := gr5.size
              exact ⟨h1.1, by rw [s56]; omega⟩
            · exact ⟨by omega, h.2⟩)
        have hst : (Instr.mapUpdate 46 (.map (some b)) (.string s) (.agg #[.slice a' N c', .int .i64 k])).run Try.prog (w5.setCell ⟨gl, 0, none⟩ (.slice a' N c')).drew = .ok () w7 := hst
        have F7 : Hid (Fr P w w7) := F6.grown gr7 (fun j hj => .inl (by cases hj; exact HH.out.pb))
        rw [hfs.out] at D7
        have D7 := hid D7
        have hPP : Hid (∀ j, (P j ∨ (w.heap.size ≤ j ∧ j < (w5.setCell ⟨gl, 0, none⟩ (.slice a' N c')).drew.heap.size)) → P j ∨ w.heap.size ≤ j) := fun j h => h.elim .inl (fun h => .inr h.1)
        have hrun := hid hrun
        clear kb4 HB4 hm4 row4 hus hnu hbs ho5 gr5 loc5 hgl5 kb5 kb6 kp kp6 hng F6 s56 s4 hwb ho6 gr7 hN
        go_wp2_with (at_builtin; refine wpList_append_run rfl _ _ 32 32 rfl _ _ _ rfl rfl hrun.out ?_)
        clear hrun l40
        go_region
        go_wp2_with fail
        go_ret
        exact ⟨rfl, _, _, D7.out, F7.out, hPP.out, fun j h => .inl h⟩
      exact AllReady.nil
    exact AllReady.nil
  refine AllReady.cons rfl (fun K hK => ?_) ?_
  · go_simp
    go_wp2_with fail
    refine (HU.out _ (D2.out.later (below_drew _))).mono ?_
    rintro e w3 ⟨rfl, b3⟩
    have b3' : Below W1.heap.size W1 w3 := (below_drew W1).trans b3
    have D3 := hid (D2.out.later b3')
    have F3 := hid (F2.out.below b3')
    have kb3 : Hid (w3.heap[gl]? = some (.cells #[.slice a n c, .int .i64 k] 83 (0, 0))) := (b3'.block gl (Array.getElem?_eq_some_iff.1 kb.out).1).trans kb.out
    have HB3 := hid (bytes_kept HB1.out b3')
    have c3 : w3.cell? ⟨g, 1, none⟩ = some (.int .i64 S.q) := D3.out.cell 1
    clear b3 b3'
    go_wp2_with fail
    refine wpAny_ready (rs := [6]) (by kernel_rfl) (by simp) ?_
    refine AllReady.cons rfl (fun K hK => ?_) ?_
    · go_simp
      refine hK _ _ ?_
      clear hK K
      refine wpAny_take (i := 9) (v := ?v21) rfl (by kernel_rfl) (by kernel_rfl) (by kernel_rfl) (fun _ _ _ h => h) (Or.inl ⟨by rfl, ?h21⟩) ?_
      case h21 => (intro w; go_simp; try (with_reducible rfl))
      go_simp
      refine wpAny_take (i := 10) (v := ?v22) rfl (by kernel_rfl) (by kernel_rfl) (by kernel_rfl) (fun _ _ _ h => h) (Or.inl ⟨by rfl, ?h22⟩) ?_
      case h22 => (intro w; go_simp; try (with_reducible rfl))
      go_simp
      refine wpAny_ready (rs := [11]) (by kernel_rfl) (by simp) ?_
      refine AllReady.cons rfl (fun K hK => ?_) ?_
      · go_simp
        go_wp2_with fail
        rw [hbg.out]
        refine (HR.out _ D3.out).mono ?_
        rintro e w4 ⟨rfl, D4, F4⟩
        have D4 := hid D4
        have F4' := hid F4
        have F5 := hid (Fr.join F3.out F4)
        clear F4
        go_wp2_with fail
        refine wpAny_done (by kernel_rfl) ?_ _
        clear c1 c3 HU HR
        have kb4 : w4.heap[gl]? = some (.cells #[.slice a n c, .int .i64 k] 83 (0, 0)) := (F4'.out.block gl (Array.getElem?_eq_some_iff.1 kb3.out).1 hnp.out.1).trans kb3.out
        have HB4 := Fr.bytes F4'.out HB3.out HBP.out
        have hm4 : (s.data.toList, (⟨.slice a n c, zf, k⟩ : Fl)) ∈ S1.fs := by rw [hfs.out]; exact hmem.out
        have row4 : ownB w4 base ⟨.slice a n c, zf, k⟩ := D4.out.mem.row _ hm4
        have hus : us + bl ≤ 268435456 := by have := hbg2.out (hno.out (by simp)); omega
        have hnu : n ≤ us := by have := used_mem hmem.out; rw [husd] at this; simp only at this; have := hnn.out; omega
        have hbs : base ≤ w4.heap.size := by have := D4.out.low g D4.out.pg; omega
        obtain ⟨v', w5, hrun, ho5, gr5, loc5⟩ := app_run w4 base ⟨.slice a n c, zf, k⟩ row4 ba bl bc zs HB4 (by have := hnn.out; simp only; omega) hbs
        obtain ⟨a', c', hv'⟩ := Df.shape ho5
        simp only at hv' hrun gr5 loc5 ho5
        subst hv'
        generalize hN : (zf ++ zs).length = N at *
        have hrowP : ∀ j, (Value.slice a n c).ownBlock = some j → P j := fun j hj => hmm.out j hj
        have hgl5 : some gl ≠ (Value.slice a n c).ownBlock := fun e => hnp.out.1 (hrowP gl e.symm)
        have kb5 : w5.heap[gl]? = some (.cells #[.slice a n c, .int .i64 k] 83 (0, 0)) := (gr5.block gl (Array.getElem?_eq_some_iff.1 kb4).1 hgl5).trans kb4
        have l40 : w4.cell? ⟨gl, 0, none⟩ = some (.slice a n c) := cell_of_row w4 gl 0 _ 83 (0, 0) kb4
        have l50 : w5.cell? ⟨gl, 0, none⟩ = some (.slice a n c) := cell_of_row w5 gl 0 _ 83 (0, 0) kb5
        have fz5 : w5.frozen? ⟨gl, 0, none⟩ = false := by simp [World.frozen?, kb5]
        have kb6 := set_cells kb5 0 (.slice a' N c')
        have m0 : (w5.setCell ⟨gl, 0, none⟩ (.slice a' N c')).drew.cell? ⟨gl, 0, none⟩ = some (.slice a' N c') := cell_of_row (w5.setCell ⟨gl, 0, none⟩ (.slice a' N c')).drew gl 0 _ 83 (0, 0) kb6
        have m1 : (w5.setCell ⟨gl, 0, none⟩ (.slice a' N c')).drew.cell? ⟨gl, 1, none⟩ = some (.int .i64 k) := cell_of_row (w5.setCell ⟨gl, 0, none⟩ (.slice a' N c')).drew gl 1 _ 83 (0, 0) kb6
        have kp : Kp P (Value.slice a n c).ownBlock w4 (w5.setCell ⟨gl, 0, none⟩ (.slice a' N c')) := ((Kp.refl P w4 _).grown D4.out.plow gr5).set (.inl hnp.out.1) 0 _
        have kp6 : Kp P (Value.slice a n c).ownBlock w4 (w5.setCell ⟨gl, 0, none⟩ (.slice a' N c')).drew := ⟨kp.size, kp.block⟩
        have hng : ∀ j, (Value.slice a n c).ownBlock = some j → j ≠ b ∧ j ≠ g := fun j hj => not_b D4.out hm4 hj
        have F6 : Fr P w (w5.setCell ⟨gl, 0, none⟩ (.slice a' N c')).drew := ((F5.out.grown gr5 (fun j hj => .inl (hrowP j hj))).set (.inr hnp.out.2) 0 _).below (below_drew _)
        have e0 : (w5.setCell ⟨gl, 0, none⟩ (.slice a' N c')).drew.cell? ⟨g, 0, none⟩ = some (.map (some b)) := (World.cell?_of_block (a := ⟨g, 0, none⟩) (kp6.block g D4.out.pg (fun e => (hng g e.symm).2 rfl))).trans (D4.out.cell 0)
        have s56 : (w5.setCell ⟨gl, 0, none⟩ (.slice a' N c')).drew.heap.size = w5.heap.size := by show (w5.setCell _ _).heap.size = _; simp
        have s4 : w.heap.size ≤ w4.heap.size := F5.out.size
        have hwb : base ≤ w.heap.size := by have := HH.out.low g HH.out.pg; omega
        have ho6 : ownB (w5.setCell ⟨gl, 0, none⟩ (.slice a' N c')).drew base ⟨.slice a' N c', zf ++ zs, k⟩ := own_of_block ho5 (fun j hj => Below.heap_setCell w5 _ _ j (fun e => by
          have e2 : j = gl := e
          subst e2
          rcases loc5 with h | h
          · exact hgl5 (by rw [← h]; exact hj.symm)
          · rw [h] at hj
            have := (Array.getElem?_eq_some_iff.1 kb4).1
            have e3 : w4.heap.size = j := by simpa using hj
            omega))
        obtain ⟨w7, hst, D7, gr7, _⟩ := D4.out.run_store (P' := fun j => P j ∨ (w.heap.size ≤ j ∧ j < (w5.setCell ⟨gl, 0, none⟩ (.slice a' N c')).drew.heap.size)) kp6 (fun e => (hng g e).2 rfl) (fun e => (hng b e).1 rfl) s hnb ⟨.slice a' N c', zf ++ zs, k⟩
          (fun p hp hne j hj => by
            rw [hfs.out] at hp
            have h1 := hap.out p hp hne j hj
            refine ⟨h1, fun e => ?_⟩
            rcases loc5 with h | h
            · exact h1 (by rw [← h]; exact e)
            · have h2 := D4.out.plow j (D4.out.mem.mem p (by rw [hfs.out]; exact hp) j hj)
              rw [show (Value.slice a' N c').ownBlock = some w4.heap.size from h] at e
              have e3 : w4.heap.size = j := by simpa using e
              omega) ho6 (fun y hy => by rcases List.mem_append.1 hy with h | h; exact hby.out y h; exact HBy.out.2.2.2.1 y h) (by have := hla.out; have := hnn.out; show k ≤ (zf ++ zs).length; simp; omega)
          (by rw [hfs.out, hlp.out]; exact HH.out.ok.len) (by rw [hfs.out]; have h1 := hup.out ⟨.slice a' N c', zf ++ zs, k⟩; simp only [List.length_append] at h1; have h2 := hzl; have h3 := hnn.out; omega) (fun j h => .inl h)
          (fun j hj => by
            rcases loc5 with h | h
            · exact .inl (hrowP j (by rw [← h]; exact hj))
            · rw [h] at hj
              have e3 : w4.heap.size = j := by simpa using hj
              have h5 := World.ownsRow.lt ho5 w4.heap.size h
              exact .inr ⟨by omega, by rw [s56]; omega⟩)
          (fun j hj => by
            rcases hj with h | h
            · have h1 := D4.out.low j h
              have h2 := gr5.size
              exact ⟨h1.1, by rw [s56]; omega⟩
            · exact ⟨by omega, h.2⟩)
        have hst : (Instr.mapUpdate 46 (.map (some b)) (.string s) (.agg #[.slice a' N c', .int .i64 k])).run Try.prog (w5.setCell ⟨gl, 0, none⟩ (.slice a' N c')).drew = .ok () w7 := hst
        have F7 : Hid (Fr P w w7) := F6.grown gr7 (fun j hj => .inl (by cases hj; exact HH.out.pb))
        rw [hfs.out] at D7
        have D7 := hid D7
        have hPP : Hid (∀ j, (P j ∨ (w.heap.size ≤ j ∧ j < (w5.setCell ⟨gl, 0, none⟩ (.slice a' N c')).drew.heap.size)) → P j ∨ w.heap.size ≤ j) := fun j h => h.elim .inl (fun h => .inr h.1)
        have hrun := hid hrun
        clear kb4 HB4 hm4 row4 hus hnu hbs ho5 gr5 loc5 hgl5 kb5 kb6 kp kp6 hng F6 s56 s4 hwb ho6 gr7 hN
        go_wp2_with (at_builtin; refine wpList_append_run rfl _ _ 32 32 rfl _ _ _ rfl rfl hrun.out ?_)
        clear hrun l40
        go_region
        go_wp2_with fail
        go_ret
        exact ⟨rfl, _, _, D7.out, F7.out, hPP.out, fun j h => .inl h⟩
      exact AllReady.nil
    exact AllReady.nil
  exact AllReady.nil
theorem append_any {base g b : Nat} {P : Nat → Prop} {S : St} (s : ByteArray) (hs : s.size ≤ 9223372036854775807) (ba : Option Addr) (bl bc : Nat) (zs : List Int) (w : World) (H : Disk w base g b P S) (hr : S.rf < 4611686018427387904) (HB : Bytes w ba bl bc zs) (hbl : bl ≤ 140737488351232) (hbp : ∀ x, ba = some x → 0 < bl → ¬ P x.block) :
    Calls Try.prog 28 #[.pointer (some ⟨g, 0, none⟩), .string s, .slice ba bl bc] w fun e w' => e = .returned (.int .i64 (apd S s zs (.bool true)).2) ∧ Took w w' base g b P (fun sl => (apd S s zs sl).1) := by
  by_cases he : (fnd S s).2 = 0
  · cases hno : (tr S (big S zs.length)).2 with
    | true =>
      refine (append_ref s hs ba bl bc zs w H hr HB hbl hbp he hno).mono ?_
      rintro e w' ⟨rfl, D, F⟩
      have ha : ∀ sl, apd S s zs sl = ((tr S (big S zs.length)).1, 52) := fun sl => by unfold apd; rw [if_pos he, if_pos hno]
      simp only [ha]
      exact ⟨trivial, .bool true, P, D, F, fun j h => .inl h, fun j h => h⟩
    | false =>
      refine (append_ok s hs ba bl bc zs w H hr HB hbl hbp he hno).mono ?_
      rintro e w' ⟨rfl, T⟩
      have ha : ∀ sl, apd S s zs sl = ({ (tr S (big S zs.length)).1 with fs := put S.fs s.data.toList ⟨sl, (fnd S s).1.zs ++ zs, (fnd S s).1.k⟩ }, 0) := fun sl => by unfold apd; rw [if_pos he, if_neg (by simp [hno])]
      simp only [ha]
      exact ⟨trivial, T⟩
  · refine (append_no s hs ba bl bc zs w H hr HB hbl hbp he).mono ?_
    rintro e w' ⟨rfl, D, F⟩
    have ha : ∀ sl, apd S s zs sl = (S, (fnd S s).2) := fun sl => by unfold apd; rw [if_neg he]
    simp only [ha]
    exact ⟨trivial, .bool true, P, D, F, fun j h => .inl h, fun j h => h⟩
end Go.Proofs.Ytgffojafdjcdoaa.Ap

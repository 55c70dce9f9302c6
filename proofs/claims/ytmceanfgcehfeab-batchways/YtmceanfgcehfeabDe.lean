/- Decode of the program. -/
import Derived.Test.YtmceanfgcehfeabIt
import Derived.Test.YtmceanfgcehfeabEc
import Derived.Test.YtmceanfgcehfeabOc
import Derived.Maps.AppendAt
namespace Go.Proofs.Ytmceanfgcehfeab.De
open Go.ChangeShapes Go.WideShapes Go.ChangeAt Go.RowKit Go.Shelf
open Go.Proofs.Ytmceanfgcehfeab.By
open Go.Proofs.Ytmceanfgcehfeab.Ob
open Go.Proofs.Ytmceanfgcehfeab.Hd
open Go.Proofs.Ytmceanfgcehfeab.Rp
open Go.Proofs.Ytmceanfgcehfeab.It
open Go.Proofs.Ytmceanfgcehfeab.En (fit fits_any Blk)
set_option linter.unusedVariables false
attribute [local go_sem] Oper.semAt_some

theorem each_stops (n : Nat) (hn : 1 ≤ n) (Bx n0 : Nat) (a : Option Addr) (len cap : Nat) (zs : List Int) (w : World) (hcap : len ≤ 140737488351232)
    (hBx : Boxed w Bx 33 (.slice a len cap)) (hB : ∀ W', Below n0 w W' → Bytes W' a len cap zs) (hn0 : n0 ≤ w.heap.size) :
    SeqStopsK Fence.wide n Try.prog 54 #[.pointer (some ⟨Bx, 0, none⟩)] encs (Kp n0 Bx) (fun xs => xs = items zs) (fun pre => pre <+: items zs) (items zs).length w := by
  intro l J Jx W hW hJ hJx hY h0
  have hb : Boxed W Bx 33 (.slice a len cap) := (hW.block Bx hBx.lt).trans hBx
  have := each1_in n hn l Bx n0 a len cap zs J Jx hcap (fun s A B hs hg => hJ s A B none hs hg (fun r e => by cases e)) hY W hb (fun W' h' => hB W' ((hW.mono hn0).trans h')) (by have := hW.size; omega) h0
  exact this
theorem each_any (a : Option Addr) (len cap : Nat) (w : World) :
    Calls Try.prog 41 #[.slice a len cap] w fun e w' => e = .returned (.func (.func 54) #[] #[.pointer (some ⟨w.heap.size, 0, none⟩)]) ∧ w' = w.alloc (.cells #[.slice a len cap] 33) := by
  have hmf : ∀ (fn : Fn) (first cap : Array Value) (w : World), (Instr.makeFunc fn first cap).run Try.prog w = .ok (.func fn first cap) w := fun _ _ _ _ => rfl
  go_enter Try.func41, Try.ntmps41
  go_wp2
  go_ret
  exact ⟨rfl, rfl⟩
theorem rop_may {zs : List Int} {p : Nat} {x : O} {nx : Nat} (h : rop zs p = some (x, nx)) : may x = true := by
  unfold rop at h
  split at h
  · simp at h
  · split at h
    · simp at h
    · split at h
      · split at h
        · next hm => simp only [Option.some.injEq, Prod.mk.injEq] at h; rw [← h.1]; exact hm
        · simp at h
      · split at h
        · simp at h
        · split at h
          · next hm => simp only [Option.some.injEq, Prod.mk.injEq] at h; rw [← h.1]; exact hm
          · simp at h
theorem wlk_may (zs : List Int) : ∀ (n p : Nat), ∀ x ∈ (wlk zs n p).1, may x = true
  | 0, p, x, h => by simp [wlk] at h
  | n + 1, p, x, h => by
    cases hr : rop zs p with
    | none => rw [wlk_none hr] at h; simp at h
    | some y =>
      obtain ⟨y, nx⟩ := y
      rw [wlk_some hr] at h
      rcases List.mem_cons.1 h with rfl | h
      · exact rop_may hr
      · exact wlk_may zs n nx x h
theorem wlk_len (zs : List Int) : ∀ (n p : Nat), (wlk zs n p).1.length ≤ n
  | 0, p => by simp [wlk]
  | n + 1, p => by
    cases hr : rop zs p with
    | none => rw [wlk_none hr]; simp
    | some y =>
      obtain ⟨y, nx⟩ := y
      rw [wlk_some hr]
      have := wlk_len zs n nx
      simp; omega
theorem num_map (s : Int) (xs : List O) : (num s xs).map Prod.snd = xs := by
  induction xs generalizing s with
  | nil => rfl
  | cons x r ih => simp [num, ih]
/-- What Decode tells. -/
def dec (zs : List Int) : Option (Int × List O) :=
  if zs.length < 12 then none else
  if 1048576 < zs.length ∨ 4096 < hcnt zs ∨ fit (hseq zs) (hcnt zs) = false then none else
  if (wlk zs (hcnt zs) 12).1.length = hcnt zs ∧ bsz (wlk zs (hcnt zs) 12).1 = zs.length then some (hseq zs, (wlk zs (hcnt zs) 12).1) else none
theorem blk_own (Bo : Nat) (c : Array Value) : Own (fun (_ : Unit) W => Blk W Bo c) := fun s X Y row hs hg hrow => by
  show Y.heap[Bo]? = _
  rw [hg.block Bo hs.lt (fun e => by
    obtain ⟨o, ho, hc⟩ := hrow Bo e.symm
    rw [show X.heap[Bo]? = _ from hs] at ho
    cases ho
    cases hc)]
  exact hs
theorem may_ok {x : O} (h : may x = true) : x.ok := by
  have := may_sizes h
  exact ⟨by omega, by unfold maxLen; omega, by unfold maxLen; omega⟩
theorem row_ops {w : World} {base n : Nat} {v : Value} {xs : List O} (h : w.ownsRow base 60 3 v n (ocs xs)) (hok : ∀ x ∈ xs, x.ok) : ∃ a c, v = .slice a xs.length c ∧ Ops w a xs.length c xs := by
  have hl : xs.length = n := by have := h.1; rw [ocs_len] at this; omega
  subst hl
  rcases h.2 with ⟨e, h0⟩ | ⟨g, c, _, e, _⟩
  · have hx : xs = [] := List.eq_nil_of_length_eq_zero h0
    subst hx
    exact ⟨none, 0, e, rfl, Nat.le_refl _, fun _ => ⟨rfl, rfl⟩, hok, fun _ _ _ h => by simp at h⟩
  · subst e
    exact ⟨_, c, rfl, ORow.ops h hok⟩
theorem put_other (W : World) (l : Nat) (o' : Obj) (k : Nat) (h : k ≠ l) : (W.putObj l o').heap[k]? = W.heap[k]? := by
  unfold World.putObj
  simp [Ne.symm h]
set_option maxRecDepth 100000 in
set_option maxHeartbeats 4000000 in
theorem decode_loop (a : Option Addr) (len cap : Nat) (zs : List Int) (w : World) (H : Bytes w a len cap zs) (h12 : 12 ≤ len) (hbig : len ≤ 1048576) (C : Nat) (S : Int) (hC : hcnt zs = C) (hS : hseq zs = S) (hC4 : C ≤ 4096) (hfit : fit S C = true) (xs : List O) (hxs : (wlk zs C 12).1 = xs) (hlen : xs.length = C) (hsz : bsz xs = len) :
    CallsIn Fence.wide 8 Try.prog 21 #[.slice a len cap] w fun e w' => ∃ v, e = .returned (.tuple #[.int .u64 S, v, .int .i64 0]) ∧ w'.ownsRow w.heap.size 60 3 v xs.length (ocs xs) ∧ Below w.heap.size w w' := by
  obtain ⟨i0, hi, hz0, hz1, hz2⟩ := info_parts infoOp
  have hzl := H.1
  have HD := head_ok a len cap zs (w.alloc (.cells #[.slice none 0 0] 26)) (bytes_kept H (box_below _ _)) (by omega) h12
  rw [hC, hS] at HD
  have HHD := hid HD
  have hsb := seq_bd zs H.2.2.2.1
  rw [hS] at hsb
  have HF : Hid (∀ w, Calls Try.prog 37 #[.int .u64 S, .int .i64 C] w fun e w' => e = .returned (.bool true) ∧ w' = w) := fun w => by
    have := fits_any S C w hsb (by omega)
    rw [hfit] at this
    exact this
  have HIT : Hid (items zs = num S xs) := by show _ = _; unfold items; rw [if_neg (by omega), hS, hC, hxs]
  have HMay : Hid (∀ x ∈ xs, may x = true) := by rw [← hxs]; exact wlk_may zs C 12
  have HH := hid H
  have i1 : ¬ (1048576 : Int) < (len : Int) := by omega
  have i2 : ¬ (4096 : Int) < (C : Int) := by omega
  clear HD hsb hfit H hC hS hxs
  refine callsIn_of_wp_marks Try.func21 rfl trivial ?_ rfl
  simp only [Try.ntmps21, List.size_toArray, List.length_cons, List.length_nil, Nat.reduceAdd, Nat.reduceSub, Array.replicate_succ, Array.replicate_zero, List.push_toArray, List.append_toArray, List.nil_append, List.cons_append]
  gi_wp2_with fail
  refine ⟨trivial, (callsIn_wide.2 HHD.out).mono ?_⟩
  rintro e w' ⟨rfl, rfl⟩
  gi_wp2_with fail
  refine ⟨trivial, (callsIn_wide.2 (HF.out _)).mono ?_⟩
  rintro e w' ⟨rfl, rfl⟩
  gi_wp2_with fail
  refine ⟨trivial, (callsIn_wide.2 (each_any a len cap _)).mono ?_⟩
  rintro e w' ⟨rfl, rfl⟩
  gi_wp2_with fail
  obtain ⟨b1, hb1⟩ : ∃ b1, decide ((1048576 : Int) < (len : Int)) = b1 := ⟨_, rfl⟩
  obtain ⟨b2, hb2⟩ : ∃ b2, decide ((4096 : Int) < (C : Int)) = b2 := ⟨_, rfl⟩
  rw [hb1, hb2]
  have hB0 : Below w.heap.size w ((w.alloc (.cells #[.slice none 0 0] 26)).alloc (.cells #[.slice a len cap] 33)) := ((Below.refl _ _).alloc (Nat.le_refl _) _).alloc (by simp) _
  have hx0 : Boxed ((w.alloc (.cells #[.slice none 0 0] 26)).alloc (.cells #[.slice a len cap] 33)) (w.heap.size + 1) 33 (.slice a len cap) := by
    have := Boxed.new (w.alloc (.cells #[.slice none 0 0] 26)) 33 (.slice a len cap)
    simpa using this
  have ho0 : Boxed ((w.alloc (.cells #[.slice none 0 0] 26)).alloc (.cells #[.slice a len cap] 33)) w.heap.size 26 (.slice none 0 0) := (Boxed.new w 26 (.slice none 0 0)).alloc _
  obtain ⟨W0, hW0⟩ : ∃ W0, (w.alloc (.cells #[.slice none 0 0] 26)).alloc (.cells #[.slice a len cap] 33) = W0 := ⟨_, rfl⟩
  have hs0 : W0.heap.size = w.heap.size + 2 := by rw [← hW0]; simp
  rw [hW0] at hB0 hx0 ho0 ⊢
  clear hW0
  refine wpIn_rangeFunc_ownH (n := 8) rfl (by omega) (gf := 54) (lb := #[.pointer (some ⟨w.heap.size + 1, 0, none⟩)]) rfl trivial (enters_of Try.func54 (by kernel_rfl) rfl)
    (each_stops 7 (by omega) (w.heap.size + 1) w.heap.size a len cap zs W0 (by omega) hx0 (fun W' h' => bytes_kept HH.out (hB0.trans h')) (by omega))
    (fun h k => ⟨h.1.trans k.1, k.2.trans h.2⟩)
    (fun W l o o' hl h hc hw => ⟨belowK_b (w := W0) (by omega) W l o o' hl h hc hw, put_other W l o' (w.heap.size + 1) (by omega)⟩) (Below.refl _ _) (fun _ => rfl)
    (fun pre W => (∃ v, Boxed W w.heap.size 26 v ∧ W.ownsRow w.heap.size 60 3 v pre.length (ocs (pre.map Prod.snd)) ∧ True) ∧ (Boxed W (w.heap.size + 1) 33 (.slice a len cap) ∧ Below w.heap.size w W))
    (fun _ _ _ => False)
    (OwnFrom.and (Own.from (holdsRow_own w.heap.size w.heap.size 26 60 3 (fun pre : List (Int × O) => pre.length) (fun pre => ocs (pre.map Prod.snd)) (fun _ _ => True)) _) (OwnFrom.and (Own.from (boxed_own (w.heap.size + 1) 33 (fun _ => .slice a len cap)) _) (ownFrom_below (Nat.le_refl _) (by omega))))
    (fun _ _ _ _ _ hs _ _ => hs)
    ⟨⟨_, ho0, World.ownsRow_nil _ _ _ _, trivial⟩, hx0, hB0⟩
    (fun x a' W => ∃ Bo, Blk W Bo #[.int .i64 x.2.c, .string x.2.k, .string x.2.v] ∧ a' = { tmps := #[.slice a len cap, undef, .int .u64 S, .pointer (some ⟨w.heap.size, 0, none⟩), .int .i64 0, .int .i64 C, undef, .pointer (some ⟨Bo, 0, none⟩), .tuple #[.int .u64 S, .int .i64 C, .int .i64 0], .slice a len cap, .tuple #[.int .u64 S, .int .i64 C, .int .i64 0], .int .u64 S, .int .i64 C, .int .i64 0, .int .i64 0, .bool false, undef, .slice a len cap, .int .i64 len, .bool b1, .bool b1, .int .i64 C, .bool b2, .bool (b1 || b2), .bool (b1 || b2), .int .u64 S, .int .i64 C, .bool true, .bool false, .bool (b1 || b2), .slice a len cap, .func (.func 54) #[] #[.pointer (some ⟨w.heap.size + 1, 0, none⟩)], .int .u64 x.1, .agg #[.int .i64 x.2.c, .string x.2.k, .string x.2.v], undef, undef, undef, undef, undef, undef, undef, undef, undef, undef, undef, undef, undef, undef, undef, undef, undef], defers := [] })
    ?hAx ?assign ?body ?done ?stop
  case hAx =>
    intro x a' s X Y row hs hg hrow
    obtain ⟨Bo, hb, he⟩ := hs
    exact ⟨Bo, Own.from (blk_own Bo _) _ () X Y row hb hg hrow, he⟩
  case assign =>
    rintro l pre x W K ⟨⟨v, hv, hrow, _⟩, hbx, hB⟩ hK
    simp only [encs]
    gi_wp2
    exact hK _ _ ((KeepsOthers.alloc _ _).from _) ⟨(Below.refl _ W).alloc hB.size _, Below.heap_alloc W _ _ hbx.lt⟩ ⟨⟨v, hv.alloc _, hrow.alloc _, trivial⟩, hbx.alloc _, hB.alloc hB.size _⟩ ⟨W.heap.size, Blk.new W _, rfl⟩
  case body =>
    rintro l pre ⟨xn, xc, xk, xv⟩ a' W hl ⟨r, hr⟩ ⟨⟨v, hv, hrow, _⟩, hbx, hB⟩ ⟨Bo, hBo, rfl⟩ hlt
    have hpl : pre.length < 4096 := by rw [HIT.out, num_len] at hlt; omega
    have cv := hv.cell
    have k0 : W.cell? ⟨Bo, 0, none⟩ = some (.int .i64 xc) := hBo.cell 0
    have k1 : W.cell? ⟨Bo, 1, none⟩ = some (.string xk) := hBo.cell 1
    have k2 : W.cell? ⟨Bo, 2, none⟩ = some (.string xv) := hBo.cell 2
    have hnr := (hbx.alloc (.cells #[.int .i64 xc, .string xk, .string xv] 60)).not_row (by decide) (hrow.alloc (.cells #[.int .i64 xc, .string xk, .string xv] 60))
    gi_wp2_with (gi_at_builtin; refine wpListIn_append_own _ rfl _ _ 26 rfl w.heap.size 60 i0 (.agg #[.int .i64 0, .string ⟨#[]⟩, .string ⟨#[]⟩]) 3 40 Try.underlying26 hi hz0 hz1 hz2 rfl (by decide) _ _ _ rfl (hrow.alloc _) ⟨W.heap.size, 0, none⟩ 1 1 [.int .i64 xc, .string xk, .string xv] rfl rfl ?c1 ?c2 ?c3 ?c4 ?c5 ?_)
    case c2 => exact ⟨rfl, rfl, rfl⟩
    case c3 => unfold maxLen; omega
    case c4 => omega
    case c5 => have := hB.size; simp; omega
    intro v' w1 hown' hgrow _
    obtain ⟨g', cap', rfl⟩ := ownsRow_succ hown'
    obtain ⟨hv1, hv2, hr2, hk2, hb2'⟩ := hv.appended (by decide) hrow hB.size (Nat.le_refl _) hown' hgrow
    have hbx1 : Boxed w1 (w.heap.size + 1) 33 (.slice a len cap) := (hbx.alloc _).kept hgrow hnr
    have hbx2 := hbx1.other (B' := w.heap.size) (by omega) (.slice (some ⟨g', 0, none⟩) (pre.length + 1) cap')
    have hc1 := hv1.cell
    have hf1 := hv1.frozen
    gi_wp2
    refine ⟨hk2.from _, ⟨hb2', hbx2.trans hbx.symm⟩, ⟨⟨_, hv2, ?_, trivial⟩, hbx2, hB.trans hb2'⟩⟩
    rw [List.map_append, ocs_append, List.length_append]
    exact hr2
  case done =>
    rintro D ys W hD rfl ⟨⟨v, hv, hrow, _⟩, hbx, hB⟩ hK
    rw [HIT.out, num_len, num_map] at hrow
    obtain ⟨a', c', hv', HO⟩ := row_ops hrow (fun x hx => may_ok (HMay.out x hx))
    subst hv'
    rw [hlen] at HO hrow hv
    have cv := hv.cell
    have t0 : ((C : Int) != (C : Int)) = false := bne_self_eq_false _
    have HS := sizeof_any a' C c' xs W HO (by omega) HMay.out
    rw [hsz] at HS
    have HHS := hid HS
    have t1 : ((len : Int) != (len : Int)) = false := bne_self_eq_false _
    clear HS
    gi_wp2_with fail
    refine ⟨trivial, (callsIn_wide.2 HHS.out).mono ?_⟩
    rintro e w2 ⟨rfl, b2'⟩
    have hv2 : Boxed w2 w.heap.size 26 (.slice a' C c') := (b2'.block _ hv.lt).trans hv
    have hrow2 : w2.ownsRow w.heap.size 60 3 (.slice a' C c') C (ocs xs) := hrow.kept (grown_of_below b2') (by cases hh : (Value.slice a' C c').ownBlock <;> simp)
    have hK2 : w2.heap[D]? = some (.deferred (some [])) := (b2'.block D (Array.getElem?_eq_some_iff.1 hK).1).trans hK
    have hB2 : Below w.heap.size w w2 := hB.trans (b2'.mono hB.size)
    have cv2 := hv2.cell
    have cf2 := hv2.frozen
    gi_wp2_with fail
    gi_region
    gi_wp2_with fail
    have hK3 : ((w2.setCell ⟨w.heap.size, 0, none⟩ (.slice a' C c')).drew).heap[D]? = some (.deferred (some [])) := (KeepsOthers.setCell w2 ⟨w.heap.size, 0, none⟩ (.slice a' C c')).same D _ hK2 rfl
    have hv3 : Boxed ((w2.setCell ⟨w.heap.size, 0, none⟩ (.slice a' C c')).drew) w.heap.size 26 (.slice a' C c') := hv2.set _
    have hrow3 : ((w2.setCell ⟨w.heap.size, 0, none⟩ (.slice a' C c')).drew).ownsRow w.heap.size 60 3 (.slice a' C c') C (ocs xs) := by
      have h : (w2.setCell ⟨w.heap.size, 0, none⟩ (.slice a' C c')).ownsRow w.heap.size 60 3 (.slice a' C c') C (ocs xs) := hrow2.kept (grownBy_setCell' w2 w.heap.size _) (.inr (hv2.not_row (by decide) hrow2).symm)
      exact h
    have hB3 : Below w.heap.size w ((w2.setCell ⟨w.heap.size, 0, none⟩ (.slice a' C c')).drew) := (hB2.setCell (p := ⟨w.heap.size, 0, none⟩) (Nat.le_refl _) _).drew
    generalize (w2.setCell ⟨w.heap.size, 0, none⟩ (.slice a' C c')).drew = w3 at hK3 hv3 hrow3 hB3
    refine ⟨by simp, .inl ⟨_, _, rfl, run_takeDeferred hK3, ?_⟩⟩
    have hc5 := cell_kept hv3.cell (grownBy_putObj' _ D (.deferred none)) (fun r e => by cases e; exact ⟨_, hK3, rfl⟩)
    refine ⟨.tuple #[.int .u64 S, .slice a' C c', .int .i64 0], ?_, ⟨_, rfl, ?_, ?_⟩⟩
    · simp [results, Try.results21, go_sem, hc5]
    · rw [hlen]; exact ownsRow_putObj hrow3 _ hK3 rfl
    · exact hB3.trans (belowK_b (w := w) (Nat.le_refl _) _ D _ _ (by omega) hK3 rfl rfl)
  case stop =>
    rintro D c pre W _ _ h _
    exact h.elim
set_option maxRecDepth 100000 in
set_option maxHeartbeats 4000000 in
theorem decode_loop1 (a : Option Addr) (len cap : Nat) (zs : List Int) (w : World) (H : Bytes w a len cap zs) (h12 : 12 ≤ len) (hbig : len ≤ 1048576) (C : Nat) (S : Int) (hC : hcnt zs = C) (hS : hseq zs = S) (hC4 : C ≤ 4096) (hfit : fit S C = true) (xs : List O) (hxs : (wlk zs C 12).1 = xs) (hlen : xs.length ≠ C) :
    CallsIn Fence.wide 8 Try.prog 21 #[.slice a len cap] w fun e w' => e = .returned (.tuple #[.int .u64 0, .slice none 0 0, .int .i64 41]) ∧ Below w.heap.size w w' := by
  obtain ⟨i0, hi, hz0, hz1, hz2⟩ := info_parts infoOp
  have hzl := H.1
  have HD := head_ok a len cap zs (w.alloc (.cells #[.slice none 0 0] 26)) (bytes_kept H (box_below _ _)) (by omega) h12
  rw [hC, hS] at HD
  have HHD := hid HD
  have hsb := seq_bd zs H.2.2.2.1
  rw [hS] at hsb
  have HF : Hid (∀ w, Calls Try.prog 37 #[.int .u64 S, .int .i64 C] w fun e w' => e = .returned (.bool true) ∧ w' = w) := fun w => by
    have := fits_any S C w hsb (by omega)
    rw [hfit] at this
    exact this
  have hxC : xs.length ≤ C := by rw [← hxs]; exact wlk_len zs C 12
  have HIT : Hid (items zs = num S xs) := by show _ = _; unfold items; rw [if_neg (by omega), hS, hC, hxs]
  have HMay : Hid (∀ x ∈ xs, may x = true) := by rw [← hxs]; exact wlk_may zs C 12
  have HH := hid H
  have i1 : ¬ (1048576 : Int) < (len : Int) := by omega
  have i2 : ¬ (4096 : Int) < (C : Int) := by omega
  clear HD hsb hfit H hC hS hxs
  refine callsIn_of_wp_marks Try.func21 rfl trivial ?_ rfl
  simp only [Try.ntmps21, List.size_toArray, List.length_cons, List.length_nil, Nat.reduceAdd, Nat.reduceSub, Array.replicate_succ, Array.replicate_zero, List.push_toArray, List.append_toArray, List.nil_append, List.cons_append]
  gi_wp2_with fail
  refine ⟨trivial, (callsIn_wide.2 HHD.out).mono ?_⟩
  rintro e w' ⟨rfl, rfl⟩
  gi_wp2_with fail
  refine ⟨trivial, (callsIn_wide.2 (HF.out _)).mono ?_⟩
  rintro e w' ⟨rfl, rfl⟩
  gi_wp2_with fail
  refine ⟨trivial, (callsIn_wide.2 (each_any a len cap _)).mono ?_⟩
  rintro e w' ⟨rfl, rfl⟩
  gi_wp2_with fail
  obtain ⟨b1, hb1⟩ : ∃ b1, decide ((1048576 : Int) < (len : Int)) = b1 := ⟨_, rfl⟩
  obtain ⟨b2, hb2⟩ : ∃ b2, decide ((4096 : Int) < (C : Int)) = b2 := ⟨_, rfl⟩
  rw [hb1, hb2]
  have hB0 : Below w.heap.size w ((w.alloc (.cells #[.slice none 0 0] 26)).alloc (.cells #[.slice a len cap] 33)) := ((Below.refl _ _).alloc (Nat.le_refl _) _).alloc (by simp) _
  have hx0 : Boxed ((w.alloc (.cells #[.slice none 0 0] 26)).alloc (.cells #[.slice a len cap] 33)) (w.heap.size + 1) 33 (.slice a len cap) := by
    have := Boxed.new (w.alloc (.cells #[.slice none 0 0] 26)) 33 (.slice a len cap)
    simpa using this
  have ho0 : Boxed ((w.alloc (.cells #[.slice none 0 0] 26)).alloc (.cells #[.slice a len cap] 33)) w.heap.size 26 (.slice none 0 0) := (Boxed.new w 26 (.slice none 0 0)).alloc _
  obtain ⟨W0, hW0⟩ : ∃ W0, (w.alloc (.cells #[.slice none 0 0] 26)).alloc (.cells #[.slice a len cap] 33) = W0 := ⟨_, rfl⟩
  have hs0 : W0.heap.size = w.heap.size + 2 := by rw [← hW0]; simp
  rw [hW0] at hB0 hx0 ho0 ⊢
  clear hW0
  refine wpIn_rangeFunc_ownH (n := 8) rfl (by omega) (gf := 54) (lb := #[.pointer (some ⟨w.heap.size + 1, 0, none⟩)]) rfl trivial (enters_of Try.func54 (by kernel_rfl) rfl)
    (each_stops 7 (by omega) (w.heap.size + 1) w.heap.size a len cap zs W0 (by omega) hx0 (fun W' h' => bytes_kept HH.out (hB0.trans h')) (by omega))
    (fun h k => ⟨h.1.trans k.1, k.2.trans h.2⟩)
    (fun W l o o' hl h hc hw => ⟨belowK_b (w := W0) (by omega) W l o o' hl h hc hw, put_other W l o' (w.heap.size + 1) (by omega)⟩) (Below.refl _ _) (fun _ => rfl)
    (fun pre W => (∃ v, Boxed W w.heap.size 26 v ∧ W.ownsRow w.heap.size 60 3 v pre.length (ocs (pre.map Prod.snd)) ∧ True) ∧ (Boxed W (w.heap.size + 1) 33 (.slice a len cap) ∧ Below w.heap.size w W))
    (fun _ _ _ => False)
    (OwnFrom.and (Own.from (holdsRow_own w.heap.size w.heap.size 26 60 3 (fun pre : List (Int × O) => pre.length) (fun pre => ocs (pre.map Prod.snd)) (fun _ _ => True)) _) (OwnFrom.and (Own.from (boxed_own (w.heap.size + 1) 33 (fun _ => .slice a len cap)) _) (ownFrom_below (Nat.le_refl _) (by omega))))
    (fun _ _ _ _ _ hs _ _ => hs)
    ⟨⟨_, ho0, World.ownsRow_nil _ _ _ _, trivial⟩, hx0, hB0⟩
    (fun x a' W => ∃ Bo, Blk W Bo #[.int .i64 x.2.c, .string x.2.k, .string x.2.v] ∧ a' = { tmps := #[.slice a len cap, undef, .int .u64 S, .pointer (some ⟨w.heap.size, 0, none⟩), .int .i64 0, .int .i64 C, undef, .pointer (some ⟨Bo, 0, none⟩), .tuple #[.int .u64 S, .int .i64 C, .int .i64 0], .slice a len cap, .tuple #[.int .u64 S, .int .i64 C, .int .i64 0], .int .u64 S, .int .i64 C, .int .i64 0, .int .i64 0, .bool false, undef, .slice a len cap, .int .i64 len, .bool b1, .bool b1, .int .i64 C, .bool b2, .bool (b1 || b2), .bool (b1 || b2), .int .u64 S, .int .i64 C, .bool true, .bool false, .bool (b1 || b2), .slice a len cap, .func (.func 54) #[] #[.pointer (some ⟨w.heap.size + 1, 0, none⟩)], .int .u64 x.1, .agg #[.int .i64 x.2.c, .string x.2.k, .string x.2.v], undef, undef, undef, undef, undef, undef, undef, undef, undef, undef, undef, undef, undef, undef, undef, undef, undef], defers := [] })
    ?hAx ?assign ?body ?done ?stop
  case hAx =>
    intro x a' s X Y row hs hg hrow
    obtain ⟨Bo, hb, he⟩ := hs
    exact ⟨Bo, Own.from (blk_own Bo _) _ () X Y row hb hg hrow, he⟩
  case assign =>
    rintro l pre x W K ⟨⟨v, hv, hrow, _⟩, hbx, hB⟩ hK
    simp only [encs]
    gi_wp2
    exact hK _ _ ((KeepsOthers.alloc _ _).from _) ⟨(Below.refl _ W).alloc hB.size _, Below.heap_alloc W _ _ hbx.lt⟩ ⟨⟨v, hv.alloc _, hrow.alloc _, trivial⟩, hbx.alloc _, hB.alloc hB.size _⟩ ⟨W.heap.size, Blk.new W _, rfl⟩
  case body =>
    rintro l pre ⟨xn, xc, xk, xv⟩ a' W hl ⟨r, hr⟩ ⟨⟨v, hv, hrow, _⟩, hbx, hB⟩ ⟨Bo, hBo, rfl⟩ hlt
    have hpl : pre.length < 4096 := by rw [HIT.out, num_len] at hlt; omega
    have cv := hv.cell
    have k0 : W.cell? ⟨Bo, 0, none⟩ = some (.int .i64 xc) := hBo.cell 0
    have k1 : W.cell? ⟨Bo, 1, none⟩ = some (.string xk) := hBo.cell 1
    have k2 : W.cell? ⟨Bo, 2, none⟩ = some (.string xv) := hBo.cell 2
    have hnr := (hbx.alloc (.cells #[.int .i64 xc, .string xk, .string xv] 60)).not_row (by decide) (hrow.alloc (.cells #[.int .i64 xc, .string xk, .string xv] 60))
    gi_wp2_with (gi_at_builtin; refine wpListIn_append_own _ rfl _ _ 26 rfl w.heap.size 60 i0 (.agg #[.int .i64 0, .string ⟨#[]⟩, .string ⟨#[]⟩]) 3 40 Try.underlying26 hi hz0 hz1 hz2 rfl (by decide) _ _ _ rfl (hrow.alloc _) ⟨W.heap.size, 0, none⟩ 1 1 [.int .i64 xc, .string xk, .string xv] rfl rfl ?c1 ?c2 ?c3 ?c4 ?c5 ?_)
    case c2 => exact ⟨rfl, rfl, rfl⟩
    case c3 => unfold maxLen; omega
    case c4 => omega
    case c5 => have := hB.size; simp; omega
    intro v' w1 hown' hgrow _
    obtain ⟨g', cap', rfl⟩ := ownsRow_succ hown'
    obtain ⟨hv1, hv2, hr2, hk2, hb2'⟩ := hv.appended (by decide) hrow hB.size (Nat.le_refl _) hown' hgrow
    have hbx1 : Boxed w1 (w.heap.size + 1) 33 (.slice a len cap) := (hbx.alloc _).kept hgrow hnr
    have hbx2 := hbx1.other (B' := w.heap.size) (by omega) (.slice (some ⟨g', 0, none⟩) (pre.length + 1) cap')
    have hc1 := hv1.cell
    have hf1 := hv1.frozen
    gi_wp2
    refine ⟨hk2.from _, ⟨hb2', hbx2.trans hbx.symm⟩, ⟨⟨_, hv2, ?_, trivial⟩, hbx2, hB.trans hb2'⟩⟩
    rw [List.map_append, ocs_append, List.length_append]
    exact hr2
  case done =>
    rintro D ys W hD rfl ⟨⟨v, hv, hrow, _⟩, hbx, hB⟩ hK
    rw [HIT.out, num_len, num_map] at hrow
    obtain ⟨a', c', hv', HO⟩ := row_ops hrow (fun x hx => may_ok (HMay.out x hx))
    subst hv'
    have cv := hv.cell
    have cf := hv.frozen
    have t0 : ((xs.length : Int) != (C : Int)) = true := by simp; omega
    have t00 : ((xs.length : Int) == (C : Int)) = false := by simp; omega
    have hK2 := hK
    have hv2 := hv
    have hB2 := hB
    generalize W = W2 at *
    gi_wp2_with fail
    refine ⟨trivial, ?_⟩
    have hK3 : (W2.setCell ⟨w.heap.size, 0, none⟩ (.slice none 0 0)).heap[D]? = some (.deferred (some [])) := (KeepsOthers.setCell W2 ⟨w.heap.size, 0, none⟩ (.slice none 0 0)).same D _ hK2 rfl
    have hv3 : Boxed (W2.setCell ⟨w.heap.size, 0, none⟩ (.slice none 0 0)) w.heap.size 26 (.slice none 0 0) := hv2.set _
    have hB3 : Below w.heap.size w (W2.setCell ⟨w.heap.size, 0, none⟩ (.slice none 0 0)) := hB2.setCell (p := ⟨w.heap.size, 0, none⟩) (Nat.le_refl _) _
    gi_wp2_with fail
    generalize W2.setCell ⟨w.heap.size, 0, none⟩ (.slice none 0 0) = w3 at hK3 hv3 hB3
    refine ⟨by simp, .inl ⟨_, _, rfl, run_takeDeferred hK3, ?_⟩⟩
    have hc5 := cell_kept hv3.cell (grownBy_putObj' _ D (.deferred none)) (fun r e => by cases e; exact ⟨_, hK3, rfl⟩)
    refine ⟨.tuple #[.int .u64 0, .slice none 0 0, .int .i64 41], ?_, rfl, ?_⟩
    · simp [results, Try.results21, go_sem, hc5]
    · exact hB3.trans (belowK_b (w := w) (Nat.le_refl _) _ D _ _ (by omega) hK3 rfl rfl)
  case stop =>
    rintro D c pre W _ _ h _
    exact h.elim
set_option maxRecDepth 100000 in
set_option maxHeartbeats 4000000 in
theorem decode_loop2 (a : Option Addr) (len cap : Nat) (zs : List Int) (w : World) (H : Bytes w a len cap zs) (h12 : 12 ≤ len) (hbig : len ≤ 1048576) (C : Nat) (S : Int) (hC : hcnt zs = C) (hS : hseq zs = S) (hC4 : C ≤ 4096) (hfit : fit S C = true) (xs : List O) (hxs : (wlk zs C 12).1 = xs) (hlen : xs.length = C) (hsz : bsz xs ≠ len) :
    CallsIn Fence.wide 8 Try.prog 21 #[.slice a len cap] w fun e w' => e = .returned (.tuple #[.int .u64 0, .slice none 0 0, .int .i64 41]) ∧ Below w.heap.size w w' := by
  obtain ⟨i0, hi, hz0, hz1, hz2⟩ := info_parts infoOp
  have hzl := H.1
  have HD := head_ok a len cap zs (w.alloc (.cells #[.slice none 0 0] 26)) (bytes_kept H (box_below _ _)) (by omega) h12
  rw [hC, hS] at HD
  have HHD := hid HD
  have hsb := seq_bd zs H.2.2.2.1
  rw [hS] at hsb
  have HF : Hid (∀ w, Calls Try.prog 37 #[.int .u64 S, .int .i64 C] w fun e w' => e = .returned (.bool true) ∧ w' = w) := fun w => by
    have := fits_any S C w hsb (by omega)
    rw [hfit] at this
    exact this
  have hxC : xs.length ≤ C := by rw [← hxs]; exact wlk_len zs C 12
  have HIT : Hid (items zs = num S xs) := by show _ = _; unfold items; rw [if_neg (by omega), hS, hC, hxs]
  have HMay : Hid (∀ x ∈ xs, may x = true) := by rw [← hxs]; exact wlk_may zs C 12
  have HH := hid H
  have i1 : ¬ (1048576 : Int) < (len : Int) := by omega
  have i2 : ¬ (4096 : Int) < (C : Int) := by omega
  clear HD hsb hfit H hC hS hxs
  refine callsIn_of_wp_marks Try.func21 rfl trivial ?_ rfl
  simp only [Try.ntmps21, List.size_toArray, List.length_cons, List.length_nil, Nat.reduceAdd, Nat.reduceSub, Array.replicate_succ, Array.replicate_zero, List.push_toArray, List.append_toArray, List.nil_append, List.cons_append]
  gi_wp2_with fail
  refine ⟨trivial, (callsIn_wide.2 HHD.out).mono ?_⟩
  rintro e w' ⟨rfl, rfl⟩
  gi_wp2_with fail
  refine ⟨trivial, (callsIn_wide.2 (HF.out _)).mono ?_⟩
  rintro e w' ⟨rfl, rfl⟩
  gi_wp2_with fail
  refine ⟨trivial, (callsIn_wide.2 (each_any a len cap _)).mono ?_⟩
  rintro e w' ⟨rfl, rfl⟩
  gi_wp2_with fail
  obtain ⟨b1, hb1⟩ : ∃ b1, decide ((1048576 : Int) < (len : Int)) = b1 := ⟨_, rfl⟩
  obtain ⟨b2, hb2⟩ : ∃ b2, decide ((4096 : Int) < (C : Int)) = b2 := ⟨_, rfl⟩
  rw [hb1, hb2]
  have hB0 : Below w.heap.size w ((w.alloc (.cells #[.slice none 0 0] 26)).alloc (.cells #[.slice a len cap] 33)) := ((Below.refl _ _).alloc (Nat.le_refl _) _).alloc (by simp) _
  have hx0 : Boxed ((w.alloc (.cells #[.slice none 0 0] 26)).alloc (.cells #[.slice a len cap] 33)) (w.heap.size + 1) 33 (.slice a len cap) := by
    have := Boxed.new (w.alloc (.cells #[.slice none 0 0] 26)) 33 (.slice a len cap)
    simpa using this
  have ho0 : Boxed ((w.alloc (.cells #[.slice none 0 0] 26)).alloc (.cells #[.slice a len cap] 33)) w.heap.size 26 (.slice none 0 0) := (Boxed.new w 26 (.slice none 0 0)).alloc _
  obtain ⟨W0, hW0⟩ : ∃ W0, (w.alloc (.cells #[.slice none 0 0] 26)).alloc (.cells #[.slice a len cap] 33) = W0 := ⟨_, rfl⟩
  have hs0 : W0.heap.size = w.heap.size + 2 := by rw [← hW0]; simp
  rw [hW0] at hB0 hx0 ho0 ⊢
  clear hW0
  refine wpIn_rangeFunc_ownH (n := 8) rfl (by omega) (gf := 54) (lb := #[.pointer (some ⟨w.heap.size + 1, 0, none⟩)]) rfl trivial (enters_of Try.func54 (by kernel_rfl) rfl)
    (each_stops 7 (by omega) (w.heap.size + 1) w.heap.size a len cap zs W0 (by omega) hx0 (fun W' h' => bytes_kept HH.out (hB0.trans h')) (by omega))
    (fun h k => ⟨h.1.trans k.1, k.2.trans h.2⟩)
    (fun W l o o' hl h hc hw => ⟨belowK_b (w := W0) (by omega) W l o o' hl h hc hw, put_other W l o' (w.heap.size + 1) (by omega)⟩) (Below.refl _ _) (fun _ => rfl)
    (fun pre W => (∃ v, Boxed W w.heap.size 26 v ∧ W.ownsRow w.heap.size 60 3 v pre.length (ocs (pre.map Prod.snd)) ∧ True) ∧ (Boxed W (w.heap.size + 1) 33 (.slice a len cap) ∧ Below w.heap.size w W))
    (fun _ _ _ => False)
    (OwnFrom.and (Own.from (holdsRow_own w.heap.size w.heap.size 26 60 3 (fun pre : List (Int × O) => pre.length) (fun pre => ocs (pre.map Prod.snd)) (fun _ _ => True)) _) (OwnFrom.and (Own.from (boxed_own (w.heap.size + 1) 33 (fun _ => .slice a len cap)) _) (ownFrom_below (Nat.le_refl _) (by omega))))
    (fun _ _ _ _ _ hs _ _ => hs)
    ⟨⟨_, ho0, World.ownsRow_nil _ _ _ _, trivial⟩, hx0, hB0⟩
    (fun x a' W => ∃ Bo, Blk W Bo #[.int .i64 x.2.c, .string x.2.k, .string x.2.v] ∧ a' = { tmps := #[.slice a len cap, undef, .int .u64 S, .pointer (some ⟨w.heap.size, 0, none⟩), .int .i64 0, .int .i64 C, undef, .pointer (some ⟨Bo, 0, none⟩), .tuple #[.int .u64 S, .int .i64 C, .int .i64 0], .slice a len cap, .tuple #[.int .u64 S, .int .i64 C, .int .i64 0], .int .u64 S, .int .i64 C, .int .i64 0, .int .i64 0, .bool false, undef, .slice a len cap, .int .i64 len, .bool b1, .bool b1, .int .i64 C, .bool b2, .bool (b1 || b2), .bool (b1 || b2), .int .u64 S, .int .i64 C, .bool true, .bool false, .bool (b1 || b2), .slice a len cap, .func (.func 54) #[] #[.pointer (some ⟨w.heap.size + 1, 0, none⟩)], .int .u64 x.1, .agg #[.int .i64 x.2.c, .string x.2.k, .string x.2.v], undef, undef, undef, undef, undef, undef, undef, undef, undef, undef, undef, undef, undef, undef, undef, undef, undef], defers := [] })
    ?hAx ?assign ?body ?done ?stop
  case hAx =>
    intro x a' s X Y row hs hg hrow
    obtain ⟨Bo, hb, he⟩ := hs
    exact ⟨Bo, Own.from (blk_own Bo _) _ () X Y row hb hg hrow, he⟩
  case assign =>
    rintro l pre x W K ⟨⟨v, hv, hrow, _⟩, hbx, hB⟩ hK
    simp only [encs]
    gi_wp2
    exact hK _ _ ((KeepsOthers.alloc _ _).from _) ⟨(Below.refl _ W).alloc hB.size _, Below.heap_alloc W _ _ hbx.lt⟩ ⟨⟨v, hv.alloc _, hrow.alloc _, trivial⟩, hbx.alloc _, hB.alloc hB.size _⟩ ⟨W.heap.size, Blk.new W _, rfl⟩
  case body =>
    rintro l pre ⟨xn, xc, xk, xv⟩ a' W hl ⟨r, hr⟩ ⟨⟨v, hv, hrow, _⟩, hbx, hB⟩ ⟨Bo, hBo, rfl⟩ hlt
    have hpl : pre.length < 4096 := by rw [HIT.out, num_len] at hlt; omega
    have cv := hv.cell
    have k0 : W.cell? ⟨Bo, 0, none⟩ = some (.int .i64 xc) := hBo.cell 0
    have k1 : W.cell? ⟨Bo, 1, none⟩ = some (.string xk) := hBo.cell 1
    have k2 : W.cell? ⟨Bo, 2, none⟩ = some (.string xv) := hBo.cell 2
    have hnr := (hbx.alloc (.cells #[.int .i64 xc, .string xk, .string xv] 60)).not_row (by decide) (hrow.alloc (.cells #[.int .i64 xc, .string xk, .string xv] 60))
    gi_wp2_with (gi_at_builtin; refine wpListIn_append_own _ rfl _ _ 26 rfl w.heap.size 60 i0 (.agg #[.int .i64 0, .string ⟨#[]⟩, .string ⟨#[]⟩]) 3 40 Try.underlying26 hi hz0 hz1 hz2 rfl (by decide) _ _ _ rfl (hrow.alloc _) ⟨W.heap.size, 0, none⟩ 1 1 [.int .i64 xc, .string xk, .string xv] rfl rfl ?c1 ?c2 ?c3 ?c4 ?c5 ?_)
    case c2 => exact ⟨rfl, rfl, rfl⟩
    case c3 => unfold maxLen; omega
    case c4 => omega
    case c5 => have := hB.size; simp; omega
    intro v' w1 hown' hgrow _
    obtain ⟨g', cap', rfl⟩ := ownsRow_succ hown'
    obtain ⟨hv1, hv2, hr2, hk2, hb2'⟩ := hv.appended (by decide) hrow hB.size (Nat.le_refl _) hown' hgrow
    have hbx1 : Boxed w1 (w.heap.size + 1) 33 (.slice a len cap) := (hbx.alloc _).kept hgrow hnr
    have hbx2 := hbx1.other (B' := w.heap.size) (by omega) (.slice (some ⟨g', 0, none⟩) (pre.length + 1) cap')
    have hc1 := hv1.cell
    have hf1 := hv1.frozen
    gi_wp2
    refine ⟨hk2.from _, ⟨hb2', hbx2.trans hbx.symm⟩, ⟨⟨_, hv2, ?_, trivial⟩, hbx2, hB.trans hb2'⟩⟩
    rw [List.map_append, ocs_append, List.length_append]
    exact hr2
  case done =>
    rintro D ys W hD rfl ⟨⟨v, hv, hrow, _⟩, hbx, hB⟩ hK
    rw [HIT.out, num_len, num_map] at hrow
    obtain ⟨a', c', hv', HO⟩ := row_ops hrow (fun x hx => may_ok (HMay.out x hx))
    subst hv'
    have cv := hv.cell
    have cf := hv.frozen
    rw [hlen] at HO hrow hv cv
    have t0 : ((C : Int) != (C : Int)) = false := bne_self_eq_false _
    have HHS := hid (sizeof_any a' C c' xs W HO (by omega) HMay.out)
    obtain ⟨N, hN⟩ : ∃ N, bsz xs = N := ⟨_, rfl⟩
    rw [hN] at HHS hsz
    have t1 : ((N : Int) != (len : Int)) = true := by simp; omega
    have t11 : ((N : Int) == (len : Int)) = false := by simp; omega
    gi_wp2_with fail
    refine ⟨trivial, (callsIn_wide.2 HHS.out).mono ?_⟩
    rintro e W2 ⟨rfl, b2'⟩
    have hv2 : Boxed W2 w.heap.size 26 (.slice a' C c') := (b2'.block _ hv.lt).trans hv
    have hK2 : W2.heap[D]? = some (.deferred (some [])) := (b2'.block D (Array.getElem?_eq_some_iff.1 hK).1).trans hK
    have hB2 : Below w.heap.size w W2 := hB.trans (b2'.mono hB.size)
    have cv2 := hv2.cell
    have cf2 := hv2.frozen
    have hK3 : (W2.setCell ⟨w.heap.size, 0, none⟩ (.slice none 0 0)).heap[D]? = some (.deferred (some [])) := (KeepsOthers.setCell W2 ⟨w.heap.size, 0, none⟩ (.slice none 0 0)).same D _ hK2 rfl
    have hv3 : Boxed (W2.setCell ⟨w.heap.size, 0, none⟩ (.slice none 0 0)) w.heap.size 26 (.slice none 0 0) := hv2.set _
    have hB3 : Below w.heap.size w (W2.setCell ⟨w.heap.size, 0, none⟩ (.slice none 0 0)) := hB2.setCell (p := ⟨w.heap.size, 0, none⟩) (Nat.le_refl _) _
    gi_wp2_with fail
    generalize W2.setCell ⟨w.heap.size, 0, none⟩ (.slice none 0 0) = w3 at hK3 hv3 hB3
    refine ⟨by simp, .inl ⟨_, _, rfl, run_takeDeferred hK3, ?_⟩⟩
    have hc5 := cell_kept hv3.cell (grownBy_putObj' _ D (.deferred none)) (fun r e => by cases e; exact ⟨_, hK3, rfl⟩)
    refine ⟨.tuple #[.int .u64 0, .slice none 0 0, .int .i64 41], ?_, rfl, ?_⟩
    · simp [results, Try.results21, go_sem, hc5]
    · exact hB3.trans (belowK_b (w := w) (Nat.le_refl _) _ D _ _ (by omega) hK3 rfl rfl)
  case stop =>
    rintro D c pre W _ _ h _
    exact h.elim
set_option maxHeartbeats 1000000 in
theorem decode_short (a : Option Addr) (len cap : Nat) (w : World) (h : len < 12) :
    Calls Try.prog 21 #[.slice a len cap] w fun e w' => e = .returned (.tuple #[.int .u64 0, .slice none 0 0, .int .i64 41]) ∧ Below w.heap.size w w' := by
  go_enter Try.func21, Try.ntmps21
  go_wp2_with fail
  refine (head_no a len cap _ h).mono ?_
  rintro e w' ⟨rfl, rfl⟩
  go_wp2_with fail
  exact bodyPost_ret (v := .tuple #[.int .u64 0, .slice none 0 0, .int .i64 41]) (by simp [results, Try.results21, go_sem]) rfl ⟨rfl, box_below _ _⟩
set_option maxHeartbeats 1000000 in
theorem decode_big (a : Option Addr) (len cap : Nat) (zs : List Int) (w : World) (H : Bytes w a len cap zs) (hcap : len ≤ 140737488351232) (h12 : 12 ≤ len) (h : 1048576 < len ∨ 4096 < hcnt zs ∨ fit (hseq zs) (hcnt zs) = false) :
    Calls Try.prog 21 #[.slice a len cap] w fun e w' => e = .returned (.tuple #[.int .u64 0, .slice none 0 0, .int .i64 41]) ∧ Below w.heap.size w w' := by
  have HD := hid (head_ok a len cap zs (w.alloc (.cells #[.slice none 0 0] 26)) (bytes_kept H (box_below _ _)) hcap h12)
  have hsb := seq_bd zs H.2.2.2.1
  have hcb := cnt_lt zs H.2.2.2.1
  have FT := fits_any (hseq zs) (hcnt zs)
  generalize hseq zs = S at *
  generalize hcnt zs = C at *
  by_cases h1 : 1048576 < len
  · have i1 : (1048576 : Int) < (len : Int) := by omega
    clear H FT h
    go_enter Try.func21, Try.ntmps21
    go_wp2_with fail
    refine HD.out.mono ?_
    rintro e w' ⟨rfl, rfl⟩
    go_wp2_with fail
    exact bodyPost_ret (v := .tuple #[.int .u64 0, .slice none 0 0, .int .i64 41]) (by simp [results, Try.results21, go_sem]) rfl ⟨rfl, box_below _ _⟩
  · have i1 : ¬ (1048576 : Int) < (len : Int) := by omega
    by_cases h2 : 4096 < C
    · have i2 : (4096 : Int) < (C : Int) := by omega
      clear H FT h
      go_enter Try.func21, Try.ntmps21
      go_wp2_with fail
      refine HD.out.mono ?_
      rintro e w' ⟨rfl, rfl⟩
      go_wp2_with fail
      exact bodyPost_ret (v := .tuple #[.int .u64 0, .slice none 0 0, .int .i64 41]) (by simp [results, Try.results21, go_sem]) rfl ⟨rfl, box_below _ _⟩
    · have i2 : ¬ (4096 : Int) < (C : Int) := by omega
      have hf : fit S C = false := by rcases h with h | h | h; exact absurd h h1; exact absurd h h2; exact h
      have HF : Hid (∀ w, Calls Try.prog 37 #[.int .u64 S, .int .i64 C] w fun e w' => e = .returned (.bool false) ∧ w' = w) := fun w => by
        have := FT w hsb (by omega)
        rw [hf] at this
        exact this
      clear H FT h hf
      go_enter Try.func21, Try.ntmps21
      go_wp2_with fail
      refine HD.out.mono ?_
      rintro e w' ⟨rfl, rfl⟩
      go_wp2_with fail
      refine (HF.out _).mono ?_
      rintro e w' ⟨rfl, rfl⟩
      go_wp2_with fail
      exact bodyPost_ret (v := .tuple #[.int .u64 0, .slice none 0 0, .int .i64 41]) (by simp [results, Try.results21, go_sem]) rfl ⟨rfl, box_below _ _⟩
theorem decode_no (a : Option Addr) (len cap : Nat) (zs : List Int) (w : World) (H : Bytes w a len cap zs) (hcap : len ≤ 140737488351232) (h : dec zs = none) :
    Calls Try.prog 21 #[.slice a len cap] w fun e w' => e = .returned (.tuple #[.int .u64 0, .slice none 0 0, .int .i64 41]) ∧ Below w.heap.size w w' := by
  have hl := H.1
  unfold dec at h
  by_cases h1 : zs.length < 12
  · exact decode_short a len cap w (by omega)
  · rw [if_neg h1] at h
    by_cases h2 : 1048576 < zs.length ∨ 4096 < hcnt zs ∨ fit (hseq zs) (hcnt zs) = false
    · exact decode_big a len cap zs w H hcap (by omega) (by rw [← hl]; exact h2)
    · rw [if_neg h2] at h
      have f0 : fit (hseq zs) (hcnt zs) = true := by
        cases hf : fit (hseq zs) (hcnt zs) with
        | true => rfl
        | false => exact absurd (.inr (.inr hf)) h2
      by_cases h3 : (wlk zs (hcnt zs) 12).1.length = hcnt zs
      · by_cases h4 : bsz (wlk zs (hcnt zs) 12).1 = zs.length
        · rw [if_pos ⟨h3, h4⟩] at h; simp at h
        · exact callsIn_wide.1 (decode_loop2 a len cap zs w H (by omega) (by omega) _ _ rfl rfl (by omega) f0 _ rfl h3 (by omega))
      · exact callsIn_wide.1 (decode_loop1 a len cap zs w H (by omega) (by omega) _ _ rfl rfl (by omega) f0 _ rfl h3)
theorem decode_ok (a : Option Addr) (len cap : Nat) (zs : List Int) (w : World) (H : Bytes w a len cap zs) (S : Int) (xs : List O) (h : dec zs = some (S, xs)) :
    Calls Try.prog 21 #[.slice a len cap] w fun e w' => ∃ v, e = .returned (.tuple #[.int .u64 S, v, .int .i64 0]) ∧ w'.ownsRow w.heap.size 60 3 v xs.length (ocs xs) ∧ Below w.heap.size w w' := by
  have hl := H.1
  unfold dec at h
  by_cases h1 : zs.length < 12
  · rw [if_pos h1] at h; simp at h
  · rw [if_neg h1] at h
    by_cases h2 : 1048576 < zs.length ∨ 4096 < hcnt zs ∨ fit (hseq zs) (hcnt zs) = false
    · rw [if_pos h2] at h; simp at h
    · rw [if_neg h2] at h
      have f0 : fit (hseq zs) (hcnt zs) = true := by
        cases hf : fit (hseq zs) (hcnt zs) with
        | true => rfl
        | false => exact absurd (.inr (.inr hf)) h2
      by_cases h3 : (wlk zs (hcnt zs) 12).1.length = hcnt zs ∧ bsz (wlk zs (hcnt zs) 12).1 = zs.length
      · rw [if_pos h3] at h
        simp only [Option.some.injEq, Prod.mk.injEq] at h
        obtain ⟨rfl, rfl⟩ := h
        exact callsIn_wide.1 (decode_loop a len cap zs w H (by omega) (by omega) _ _ rfl rfl (by omega) f0 _ rfl h3.1 (by omega))
      · rw [if_neg h3] at h; simp at h
end Go.Proofs.Ytmceanfgcehfeab.De

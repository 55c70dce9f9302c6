/- May by its contract: bytes that are no filter take every key; a filter takes a key whose bits are all set. -/
import Derived.Test.YtempagacpfejdaaBy
namespace Go.Proofs.Ytempagacpfejdaa.My
open Go.ChangeShapes Go.WideShapes Go.ChangeAt Go.RowKit Go.Shelf
open Go.Proofs.Ytempagacpfejdaa.Wd
open Go.Proofs.Ytempagacpfejdaa.Hs
open Go.Proofs.Ytempagacpfejdaa.Pr
open Go.Proofs.Ytempagacpfejdaa.Rq
open Go.Proofs.Ytempagacpfejdaa.Bi
open Go.Proofs.Ytempagacpfejdaa.Fl
open Go.Proofs.Ytempagacpfejdaa.Mk
open Go.Proofs.Ytempagacpfejdaa.By
set_option linter.unusedVariables false
set_option linter.unusedSimpArgs false
attribute [local go_sem] Oper.semAt_some

/-- The last byte. -/
def lst (f : List B8) : Nat := (f.getD (f.length - 1) 0#8).toNat
/-- Are bytes a filter? -/
def isF (f : List B8) : Prop := 2 ≤ f.length ∧ 1 ≤ lst f ∧ lst f ≤ 30
instance (f : List B8) : Decidable (isF f) := by unfold isF; infer_instance
def mayf (f : List B8) (s : ByteArray) : Bool := if isF f then (kb s (8 * (f.length - 1)) (lst f)).all (bitT f) else true
set_option maxRecDepth 100000 in
theorem shape_yes (a : Option Addr) (len cap : Nat) (f : List B8) (w : World) (H : Bts w a len cap f) (h : isF f) (hlen : len ≤ 140737488355328) :
    Calls Try.prog 27 #[.slice a len cap] w fun e w' => e = .returned (.tuple #[.int .i64 (8 * ((len - 1 : Nat) : Int)), .int .i64 (lst f : Int), .bool true]) ∧ w' = w := by
  have hl := H.len
  obtain ⟨h1, h2, h3⟩ := h
  obtain ⟨b, off, rfl, hc⟩ := H.cell (len - 1) (by omega)
  have hL : Hid (bi (f.getD (len - 1) 0#8) = (lst f : Int)) := by show _ = _; unfold lst bi; rw [hl]
  rw [hL.out] at hc
  generalize lst f = q at *
  obtain ⟨n, rfl⟩ : ∃ n, len = n + 2 := ⟨len - 2, by omega⟩
  rw [show n + 2 - 1 = n + 1 from rfl] at hc ⊢
  have e1 : ((n + 1 : Nat) : Int) = (n : Int) + 1 := by omega
  rw [e1]
  have hq : (q : Int) ≤ 30 := by omega
  have hq1 : 1 ≤ (q : Int) := by omega
  clear hL H hl h1 e1
  go_enter Try.func27, Try.ntmps27
  go_wp2
  go_ret3
  exact ⟨by rw [show (n : Int) + 1 = (n : Int) + 2 - 1 from by omega]; rfl, rfl⟩
set_option maxRecDepth 100000 in
theorem shape_no (a : Option Addr) (len cap : Nat) (f : List B8) (w : World) (H : Bts w a len cap f) (h : ¬ isF f) (hlen : len ≤ 140737488355328) :
    Calls Try.prog 27 #[.slice a len cap] w fun e w' => e = .returned (.tuple #[.int .i64 0, .int .i64 0, .bool false]) ∧ w' = w := by
  have hl := H.len
  by_cases h1 : 2 ≤ len
  · obtain ⟨b, off, rfl, hc⟩ := H.cell (len - 1) (by omega)
    have hL : Hid (bi (f.getD (len - 1) 0#8) = (lst f : Int)) := by show _ = _; unfold lst bi; rw [hl]
    rw [hL.out] at hc
    have h2 : lst f < 1 ∨ 30 < lst f := by unfold isF at h; omega
    have hb : lst f ≤ 255 := by have := hL.out; have := bi_bd (f.getD (len - 1) 0#8); omega
    generalize lst f = q at *
    obtain ⟨n, rfl⟩ : ∃ n, len = n + 2 := ⟨len - 2, by omega⟩
    rw [show n + 2 - 1 = n + 1 from rfl] at hc
    clear hL H hl h1 h
    rcases h2 with h2 | h2
    · have : q = 0 := by omega
      subst this
      go_enter Try.func27, Try.ntmps27
      go_wp2
      go_ret3
      exact ⟨rfl, rfl⟩
    · have hq : 30 < (q : Int) := by omega
      have hq1 : ¬ (q : Int) < 1 := by omega
      go_enter Try.func27, Try.ntmps27
      go_wp2
      go_ret3
      exact ⟨rfl, rfl⟩
  · have h2 : (len : Int) - 1 < 1 := by omega
    clear H h
    go_enter Try.func27, Try.ntmps27
    go_wp2
    go_ret3
    exact ⟨rfl, rfl⟩
theorem KeepsFrom_refl (B : Nat) (W : World) : KeepsFrom B W W := ⟨Nat.le_refl _, fun _ _ _ h _ => h⟩
/-- What stands while May goes through the bits: the box of the bytes, the answer's cell. -/
structure Ni (w : World) (n0 : Nat) (a : Option Addr) (len cap : Nat) (v : Bool) (W : World) : Prop where
  b : Boxed W n0 33 (.slice a len cap)
  r : Boxed W (n0 + 1) 4 (.bool v)
  lo : Below n0 w W
theorem Ni.later {w : World} {n0 : Nat} {a : Option Addr} {len cap : Nat} {v : Bool} {W W' : World} (h : Ni w n0 a len cap v W) (b : Below W.heap.size W W') : Ni w n0 a len cap v W' :=
  ⟨(b.block _ h.b.lt).trans h.b, (b.block _ h.r.lt).trans h.r, h.lo.trans (b.mono (by have := h.b.lt; omega))⟩
theorem Ni.kept {w : World} {n0 : Nat} {a : Option Addr} {len cap : Nat} {v : Bool} {W W' : World} {row : Option Nat} (h : Ni w n0 a len cap v W) (g : W.grownBy W' row) (hj : ∀ j, row = some j → n0 ≤ j) (hc : ∀ j, row = some j → ∀ c t f, W.heap[j]? ≠ some (.cells c t f)) : Ni w n0 a len cap v W' :=
  ⟨(g.block _ h.b.lt (fun e => hc _ e.symm _ _ _ h.b)).trans h.b, (g.block _ h.r.lt (fun e => hc _ e.symm _ _ _ h.r)).trans h.r, h.lo.grown g (by have := h.b.lt; omega) (fun j e => hj j e)⟩
theorem Ni.put {w : World} {n0 : Nat} {a : Option Addr} {len cap : Nat} {v : Bool} {W : World} (h : Ni w n0 a len cap v W) (u : Bool) : Ni w n0 a len cap u (W.setCell ⟨n0 + 1, 0, none⟩ (.bool u)) :=
  ⟨(set_ne _ _ _ _ _ (by omega)).trans h.b, h.r.set _, h.lo.setCell (p := ⟨n0 + 1, 0, none⟩) (by simp) _⟩
set_option maxRecDepth 100000 in
set_option maxHeartbeats 400000 in
theorem may_in (a : Option Addr) (len cap : Nat) (f : List B8) (s : ByteArray) (w : World) (H : Bts w a len cap f) (hF : isF f) (hlen : len ≤ 140737488355328) (hs0 : s.size ≤ 9223372036854775807) :
    CallsIn Fence.wide 8 Try.prog 19 #[.slice a len cap, .string s] w fun e w' => e = .returned (.bool ((kb s (8 * (len - 1)) (lst f)).all (bitT f))) ∧ Below w.heap.size w w' := by
  have hl := H.len
  have hf1 := hF.1
  have hq1 := hF.2.1
  have hq2 := hF.2.2
  obtain ⟨n0, hn0⟩ : ∃ n0, n0 = w.heap.size := ⟨_, rfl⟩
  obtain ⟨Wa, hWa⟩ : ∃ W, W = (w.alloc (.cells #[.slice a len cap] 33)).alloc (.cells #[.bool false] 4) := ⟨_, rfl⟩
  have N0 : Ni w n0 a len cap false Wa := by
    rw [hWa]
    refine ⟨(new_box hn0 _ _).alloc _, new_box (by simp; omega) _ _, ?_⟩
    rw [hn0]
    exact (box_below w _).alloc (by simp) _
  have hS := hid (fun W h => H.later (by rw [← hn0]; exact h) : ∀ W, Below n0 w W → Bts W a len cap f)
  have HP := hid (shape_yes a len cap f Wa (hS.out _ N0.lo) hF hlen)
  obtain ⟨r, hr⟩ : ∃ r, r = len - 1 := ⟨_, rfl⟩
  rw [← hr] at HP ⊢
  have hr1 : 1 ≤ r := by omega
  have hr2 : r + 1 = len := by omega
  replace hr2 := hid hr2
  obtain ⟨k, hk⟩ : ∃ k, k = lst f := ⟨_, rfl⟩
  rw [← hk] at HP hq1 hq2 ⊢
  have hrl : r ≤ 140737488355328 := by omega
  replace H := hid H
  replace hl := hid hl
  replace hF := hid hF
  replace hk := hid hk
  replace hr := hid hr
  clear hf1
  have zb := N0.b.cell
  replace N0 := hid N0
  replace hWa := hid hWa
  replace hn0 := hid hn0
  refine callsIn_of_wp_marks Try.func19 rfl trivial ?_ rfl
  simp only [Try.ntmps19, List.size_toArray, List.length_cons, List.length_nil, Nat.reduceAdd, Nat.reduceSub, Array.replicate_succ, Array.replicate_zero, List.push_toArray, List.append_toArray, List.nil_append, List.cons_append]
  gi_wp2_with fail
  rw [← hWa.out, ← hn0.out]
  refine ⟨trivial, (callsIn_wide.2 HP.out).mono ?_⟩
  rintro e w' ⟨rfl, rfl⟩
  obtain ⟨bk, off, rfl, _⟩ := (hS.out w' N0.out.lo).cell 0 (by have := hr2.out; omega)
  gi_wp2_with fail
  refine ⟨trivial, (callsIn_wide.2 (bitsof_any s _ _ w')).mono ?_⟩
  rintro e w2 ⟨rfl, hw2⟩
  have s2 : w2.heap.size = w'.heap.size + 3 := by rw [hw2]; simp
  have B2 : Below w'.heap.size w' w2 := by rw [hw2]; exact ((box_below w' _).alloc (by simp) _).alloc (by simp; omega) _
  have x1 : Boxed w2 w'.heap.size 9 (.string s) := by rw [hw2]; exact ((new_box rfl _ _).alloc _).alloc _
  have x3 : Boxed w2 (w'.heap.size + 1) 3 (.int .i64 (8 * (r : Int))) := by rw [hw2]; exact (new_box (by simp) _ _).alloc _
  have x2 : Boxed w2 (w'.heap.size + 2) 3 (.int .i64 (k : Int)) := by rw [hw2]; exact new_box (by simp) _ _
  have hN2 := N0.out.later B2
  have hgl : n0 + 1 < w'.heap.size := N0.out.r.lt
  replace hw2 := hid hw2
  replace x1 := hid x1
  replace x2 := hid x2
  replace x3 := hid x3
  replace hN2 := hid hN2
  replace B2 := hid B2
  clear zb
  gi_wp2_with fail
  refine range_q (F := Fence.wide) (n := 8) encs rfl (by omega) (gf := 30) (lb := #[.pointer (some ⟨w'.heap.size, 0, none⟩), .pointer (some ⟨w'.heap.size + 2, 0, none⟩), .pointer (some ⟨w'.heap.size + 1, 0, none⟩)]) rfl trivial (enters_of Try.func30 (by kernel_rfl) rfl) (fun _ => rfl)
    (fun ys V => Ni w n0 (some ⟨bk, off, none⟩) len cap false V ∧ ∀ b ∈ ys, bitT f b = true) (fun c ys V => c = .ret ∧ Ni w n0 (some ⟨bk, off, none⟩) len cap false V ∧ ∃ b ∈ ys, bitT f b = false) (fun pre x => pre ++ [x] <+: kb s (8 * r) k) (Kx w'.heap.size (w'.heap.size + 2) (w'.heap.size + 1)) (fun ys _ _ => ys = kb s (8 * r) k) (fun pre => pre <+: kb s (8 * r) k)
    (fun ys V o h => ⟨h.1.later (box_below V o), h.2⟩) (fun ys V V' j h g hj hc => ⟨h.1.kept g (fun q e => by cases e; omega) (fun c e => by cases e; exact hc), h.2⟩) (fun c ys V V' j h g hj hc => ⟨h.1, h.2.1.kept g (fun q e => by cases e; omega) (fun c e => by cases e; exact hc), h.2.2⟩)
    (fun A B hA hb => ⟨hb.block _ (by omega), hb.block _ (by omega), hb.block _ (by omega)⟩) (fun h k => h.trans k)
    (fun V l o o' hl ho hc => ⟨World.putObj_heap_other (by omega), World.putObj_heap_other (by omega), World.putObj_heap_other (by omega)⟩)
    ⟨hN2.out, by simp⟩ ?seq
    (fun Y x a' V => a' = { tmps := #[.slice (some ⟨bk, off, none⟩) len cap, .string s, .pointer (some ⟨n0, 0, none⟩), undef, .pointer (some ⟨n0 + 1, 0, none⟩), .int .i64 (8 * (r : Int)), .int .i64 (k : Int), .bool true, .int .i64 (x : Int), .tuple #[.int .i64 (8 * (r : Int)), .int .i64 (k : Int), .bool true], .slice (some ⟨bk, off, none⟩) len cap, .tuple #[.int .i64 (8 * (r : Int)), .int .i64 (k : Int), .bool true], .int .i64 (8 * (r : Int)), .int .i64 (k : Int), .bool true, .bool true, .bool false, .string s, .int .i64 (8 * (r : Int)), .int .i64 (k : Int), .func (.func 30) #[] #[.pointer (some ⟨w'.heap.size, 0, none⟩), .pointer (some ⟨w'.heap.size + 2, 0, none⟩), .pointer (some ⟨w'.heap.size + 1, 0, none⟩)], .int .i64 (x : Int), undef, undef, undef, undef, undef, undef, undef, undef, undef, undef], defers := [] })
    ?hAx ?assign ?body ?done ?stop
  case seq =>
    intro l J1 Jx W1 hB1 hY h0
    refine (bits_in 7 (by omega) l w'.heap.size (w'.heap.size + 2) (w'.heap.size + 1) s (8 * r) k J1 Jx hs0 (by omega) (by omega) (by omega) hY W1 ((hB1.block _ x1.out.lt).trans x1.out) ((hB1.block _ x2.out.lt).trans x2.out) ((hB1.block _ x3.out.lt).trans (by rw [show ((8 * r : Nat) : Int) = 8 * (r : Int) by omega]; exact x3.out)) h0).mono ?_
    rintro e W' ⟨hv, (⟨W0, h1, h2⟩ | ⟨pre, h1, h2⟩)⟩
    · exact ⟨hv, .inl ⟨_, W0, h1, h2, rfl⟩⟩
    · exact ⟨hv, .inr ⟨pre, h1, h2⟩⟩
  case hAx =>
    rintro Y x a' V V' j rfl hg hc
    rfl
  case assign =>
    intro l x V K1 hK1
    simp only [encs]
    gi_wp2
    exact hK1 _ _ (Below.refl _ _) rfl
  case body =>
    rintro lp pre x a' W0 WY W1 W2 ⟨hI, hall⟩ h0Y h01 hfr h12 hl' hlo hnc rfl
    have hI2 : Ni w n0 (some ⟨bk, off, none⟩) len cap false W2 := (hI.later h01).kept h12 (fun q e => by cases e; omega) (fun c e => by cases e; exact hnc)
    have hxl : x < 8 * r := kb_lt s (8 * r) k (by omega) x (hfr.subset (by simp))
    obtain ⟨y, hy⟩ : ∃ y, y = x / 8 := ⟨_, rfl⟩
    obtain ⟨z, hz⟩ : ∃ z, z = x % 8 := ⟨_, rfl⟩
    have hyl : y < len := by have := hr2.out; omega
    obtain ⟨bk', off', hbo, cy⟩ := (hS.out W2 hI2.lo).cell y hyl
    cases hbo
    have e8 : (x : Int) / 8 = (y : Int) := by omega
    have hz8 : z < 8 := by omega
    have hyi : (y : Int) < (len : Int) := by omega
    have wy : IntKind.i64.wrap (y : Int) = (y : Int) := wrapi _ (by omega) (by omega)
    have c2 := hI2.b.cell
    have c4 := hI2.r.cell
    have f4 := hI2.r.frozen
    have hv : Hid (bitT f x = (f.getD y 0#8).getLsbD z) := by show _ = _; unfold bitT; rw [hy, hz]
    generalize f.getD y 0#8 = v at cy hv
    have ee : (bits .and .u8 (bi v / 2 ^ (x % 8)) 1 == 0) = !v.getLsbD z := by
      have h := and_b (v >>> z) 1#8
      rw [show bi 1#8 = 1 from by decide] at h
      rw [← hz, ← look_b v z, ← h, ← shr_b]
      norm_cast
    replace hI2 := hid hI2
    replace hI := hid hI
    replace hy := hid hy
    replace hz := hid hz
    replace hall := hid hall
    cases hb : v.getLsbD z with
    | true =>
      rw [hb, Bool.not_true] at ee
      rw [hb] at hv
      gi_wp2_with fail
      refine ⟨KeepsFrom_refl _ _, ⟨rfl, rfl, rfl⟩, hI2.out, ?_⟩
      intro b hb'
      rcases List.mem_append.1 hb' with h | h
      · exact hall.out b h
      · simp at h; subst h; exact hv.out
    | false =>
      rw [hb, Bool.not_false] at ee
      rw [hb] at hv
      gi_wp2_with fail
      have hw : Ni w n0 (some ⟨bk, off, none⟩) len cap false (W2.setCell ⟨n0 + 1, 0, none⟩ (.bool false)) := hI2.out.put false
      exact ⟨(keeps_set hI2.out.r).from _, rfl, hw, x, by simp, hv.out⟩
  case done =>
    rintro D l ys W0 V V' hD ⟨hI, hall⟩ h0V rfl hVV hl' hnc hDd
    have hN : Ni w n0 (some ⟨bk, off, none⟩) len cap false V' := (hI.later h0V).kept hVV (fun q e => by cases e; omega) (fun c e => by cases e; exact hnc)
    have c4 := hN.r.cell
    have f4 := hN.r.frozen
    have hP := hN.put true
    have hD2 : (V'.setCell ⟨n0 + 1, 0, none⟩ (.bool true)).heap[D]? = some (.deferred (some [])) := (set_ne _ _ _ _ _ (by omega)).trans hDd
    replace hP := hid hP
    replace hN := hid hN
    replace hD2 := hid hD2
    replace hall := hid hall
    clear hI h0V hVV hnc hDd
    gi_wp2_with fail
    refine ⟨by simp, .inl ⟨_, _, rfl, run_takeDeferred hD2.out, ?_⟩⟩
    have c5 : ((V'.setCell ⟨n0 + 1, 0, none⟩ (.bool true)).putObj D (.deferred none)).cell? ⟨n0 + 1, 0, none⟩ = some (.bool true) := by
      have : Boxed ((V'.setCell ⟨n0 + 1, 0, none⟩ (.bool true)).putObj D (.deferred none)) (n0 + 1) 4 (.bool true) := (World.putObj_heap_other (by omega)).trans hP.out.r
      exact this.cell
    refine ⟨.bool true, ?_, ?_, ?_⟩
    · simp [results, Try.results19, go_sem, c5]
    · rw [List.all_eq_true.2 (fun b hb => hall.out b hb)]
    · rw [← hn0.out]
      exact hP.out.lo.grown (grownBy_putObj' _ D _) (by have := hP.out.b.lt; omega) (fun q e => by cases e; omega)
  case stop =>
    rintro D c pre V hD hpre ⟨rfl, hN, hex⟩ hDd
    replace hN := hid hN
    replace hDd := hid hDd
    replace hex := hid hex
    replace hpre := hid hpre
    gi_wp2_with fail
    refine ⟨by simp, .inl ⟨_, _, rfl, run_takeDeferred hDd.out, ?_⟩⟩
    have c5 : (V.putObj D (.deferred none)).cell? ⟨n0 + 1, 0, none⟩ = some (.bool false) := by
      have : Boxed (V.putObj D (.deferred none)) (n0 + 1) 4 (.bool false) := (World.putObj_heap_other (by omega)).trans hN.out.r
      exact this.cell
    refine ⟨.bool false, ?_, ?_, ?_⟩
    · simp [results, Try.results19, go_sem, c5]
    · obtain ⟨b, hb, hbf⟩ := hex.out
      have : (kb s (8 * r) k).all (bitT f) = false := by
        rw [List.all_eq_false]
        exact ⟨b, hpre.out.subset hb, by rw [hbf]; simp⟩
      rw [this]
    · rw [← hn0.out]
      exact hN.out.lo.grown (grownBy_putObj' _ D _) (by have := hN.out.b.lt; omega) (fun q e => by cases e; omega)
set_option maxRecDepth 100000 in
theorem may_no (a : Option Addr) (len cap : Nat) (f : List B8) (s : ByteArray) (w : World) (H : Bts w a len cap f) (hF : ¬ isF f) (hlen : len ≤ 140737488355328) :
    Calls Try.prog 19 #[.slice a len cap, .string s] w fun e w' => e = .returned (.bool true) ∧ Below w.heap.size w w' := by
  obtain ⟨Wa, hWa⟩ : ∃ W, W = (w.alloc (.cells #[.slice a len cap] 33)).alloc (.cells #[.bool false] 4) := ⟨_, rfl⟩
  have Ba : Below w.heap.size w Wa := by rw [hWa]; exact (box_below w _).alloc (by simp) _
  have HP := hid (shape_no a len cap f Wa (H.later Ba) hF hlen)
  have rb : Boxed Wa (w.heap.size + 1) 4 (.bool false) := by rw [hWa]; exact new_box (by simp) _ _
  have c4 := rb.cell
  have f4 := rb.frozen
  have c5 : (Wa.setCell ⟨w.heap.size + 1, 0, none⟩ (.bool true)).cell? ⟨w.heap.size + 1, 0, none⟩ = some (.bool true) := (rb.set (.bool true)).cell
  have Bb := hid (Ba.setCell (p := ⟨w.heap.size + 1, 0, none⟩) (by simp) (.bool true))
  clear H hF
  replace rb := hid rb
  replace Ba := hid Ba
  replace hWa := hid hWa
  go_enter Try.func19, Try.ntmps19
  go_wp2_with fail
  rw [← hWa.out]
  refine HP.out.mono ?_
  rintro e w' ⟨rfl, rfl⟩
  go_wp2_with fail
  refine bodyPost_ret (v := .bool true) (by simp [results, Try.results19, go_sem, c5]) rfl ?_
  exact ⟨rfl, Bb.out⟩
theorem may_any (a : Option Addr) (len cap : Nat) (f : List B8) (s : ByteArray) (w : World) (H : Bts w a len cap f) (hlen : len ≤ 140737488355328) (hs0 : s.size ≤ 9223372036854775807) :
    Calls Try.prog 19 #[.slice a len cap, .string s] w fun e w' => e = .returned (.bool (mayf f s)) ∧ Below w.heap.size w w' := by
  unfold mayf
  by_cases hF : isF f
  · rw [if_pos hF, H.len]
    exact callsIn_wide.1 (may_in a len cap f s w H hF hlen hs0)
  · rw [if_neg hF]
    exact may_no a len cap f s w H hF hlen
end Go.Proofs.Ytempagacpfejdaa.My

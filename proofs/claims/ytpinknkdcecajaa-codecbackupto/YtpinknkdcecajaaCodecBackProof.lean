/- Proved: for all bytes ahead and behind, every number and every text of together at most 1048576 values and letters, CodecBack returns true: what PutVarint, PutFixed64, PutFixed32 and PutText lay between them is read again by Varint, Fixed64, Fixed32 and Text, with the place behind it. -/
import Derived.Test.YtpinknkdcecajaaBk
import Derived.BigQuiet
import Derived.Deep.QuietTactic
import Derived.ShutString
import Derived.ChangeOld
import Derived.Below
import Derived.SizedLaws
import Derived.Lib.SmallJoins
namespace Go.Proofs.Ytpinknkdcecajaa.codecBack
open Go.ChangeShapes Go.WideShapes Go.ChangeAt Go.RowKit Go.Joins
open Go.ChangeMaps (open_string shut_string)
open Go.Proofs.Ytpinknkdcecajaa.Rd (Bytes ret_int addr_add)
open Go.Proofs.Ytpinknkdcecajaa.Wr
open Go.Proofs.Ytpinknkdcecajaa.Rx
open Go.Proofs.Ytpinknkdcecajaa.Rt
open Go.Proofs.Ytpinknkdcecajaa.Ws
open Go.Proofs.Ytpinknkdcecajaa.Wp
open Go.Proofs.Ytpinknkdcecajaa.Bk
set_option linter.unusedVariables false

theorem hid {p : Prop} (h : p) : Hid p := h
theorem app_any {W : World} {base g n cap : Nat} {xs : List Int} (R : Row W base g n cap xs) {a2 : Option Addr} {len2 cap2 : Nat} {ys : List Int} (H : Bytes W a2 len2 cap2 ys) (hn : 0 < n) (hs : n + len2 ≤ 140737488355328) (hb : base ≤ W.heap.size) :
    ∃ g' c' W', (Builtin.append_ #[22, 22] 22 #[.slice (some ⟨g, 0, none⟩) n cap, .slice a2 len2 cap2]).run Try.prog W = .ok (.slice (some ⟨g', 0, none⟩) (n + len2) c') W' ∧ Row W' base g' (n + len2) c' (xs ++ ys) ∧ W.grownBy W' (some g) := by
  obtain ⟨i0, hi, hz0, hz1, hz2⟩ := info_parts info5
  cases a2 with
  | none =>
    obtain ⟨rfl, rfl⟩ := H.2.2.1 rfl
    have hy : ys = [] := List.eq_nil_of_length_eq_zero H.1
    subst hy
    refine ⟨g, cap, W, run_append_owned_none (P := Try.prog) W 0 22 22 5 i0 1 Try.underlying22 hi _ n _ (show W.ownsRow 0 5 1 _ n (xs.map (Value.int .u8)) from ?_), by simpa using R, World.grownBy.refl _ _⟩
    rcases R with ⟨h1, h2⟩
    refine ⟨h1, ?_⟩
    rcases h2 with h | ⟨g', c', cur, e, _, rest⟩
    · exact .inl h
    · exact .inr ⟨g', c', cur, e, Nat.zero_le _, rest⟩
  | some ad =>
    have hlen : (ys.map (Value.int .u8)).length = len2 * 1 := by simp; exact H.1
    have hc := (bytes_later H (Below.refl _ _)).2 ad rfl
    obtain ⟨v', w', hrun, own, hg, _⟩ := run_append_own (P := Try.prog) W base 22 22 5 i0 (.int .u8 0) 1 1 Try.underlying22 hi hz0 hz1 hz2 rfl (by decide) _ n _ R ad len2 cap2 (ys.map (Value.int .u8)) hlen hc (one_cell ys) (by unfold maxLen; omega) (by omega) hb
    rw [← List.map_append] at own
    obtain ⟨g', c', rfl, R'⟩ := Wp.shape own (by omega)
    exact ⟨g', c', w', hrun, R', hg⟩

set_option maxHeartbeats 4000000 in
theorem back (a : Option Addr) (len cap : Nat) (zs : List Int) (a2 : Option Addr) (len2 cap2 : Nat) (ys : List Int) (v : Int) (s : ByteArray) (w : World) (H : Bytes w a len cap zs) (H2 : Bytes w a2 len2 cap2 ys)
    (hl : len ≤ 1048576) (hl2 : len2 ≤ 1048576) (hv : 0 ≤ v ∧ v ≤ 18446744073709551615) (hs : s.size ≤ 1048576) :
    Calls Try.prog 8 #[.agg #[.slice a len cap, .slice a2 len2 cap2], .int .u64 v, .string s] w fun e w' => e = .returned (.bool true) ∧ Below w.heap.size w w' := by
  have HH : Hid (Bytes w a len cap zs) := H
  have HH2 : Hid (Bytes w a2 len2 cap2 ys) := H2
  have V10 := Vb.vb_le v
  have S10 := Vb.vb_le s.size
  obtain ⟨hv0, hv1⟩ := hv
  clear H H2
  go_enter Try.func8, Try.ntmps8
  go_wp2
  go_quiet (fail)
  go_wp2_with fail
  obtain ⟨W0, hW0⟩ : ∃ W0, W0 = ((w.alloc (.cells #[.slice a len cap, .slice a2 len2 cap2] 74)).drewN nq) := ⟨_, rfl⟩
  rw [← hW0]
  have b0 : Below w.heap.size w W0 := by rw [hW0]; exact below_drewN ((Below.refl _ _).alloc (Nat.le_refl _) _) _
  clear hW0
  have zb := HH.out.2.2.2.1
  have c1 : ∀ y ∈ zs ++ Vb.vb v, 0 ≤ y ∧ y ≤ 255 := fun y hy => by
    rcases List.mem_append.1 hy with h | h
    · exact zb y h
    · exact Vb.vb_bytes v ⟨hv0, hv1⟩ y h
  have c2 : ∀ y ∈ zs ++ Vb.vb v ++ lb 8 v, 0 ≤ y ∧ y ≤ 255 := fun y hy => by
    rcases List.mem_append.1 hy with h | h
    · exact c1 y h
    · exact lb_bytes 8 v y h
  have c3 : ∀ y ∈ zs ++ Vb.vb v ++ lb 8 v ++ lb 4 (v % 4294967296), 0 ≤ y ∧ y ≤ 255 := fun y hy => by
    rcases List.mem_append.1 hy with h | h
    · exact c2 y h
    · exact lb_bytes 4 _ y h
  have c4 : ∀ y ∈ zs ++ Vb.vb v ++ lb 8 v ++ lb 4 (v % 4294967296) ++ Vb.vb s.size ++ tx s ++ ys, 0 ≤ y ∧ y ≤ 255 := fun y hy => by
    rcases List.mem_append.1 hy with h | h
    · rcases List.mem_append.1 h with h | h
      · rcases List.mem_append.1 h with h | h
        · exact c3 y h
        · exact Vb.vb_bytes s.size (by omega) y h
      · exact tx_bytes s y h
    · exact HH2.out.2.2.2.1 y h
  have K1 := hid c1
  have K2 := hid c2
  have K3 := hid c3
  have K4 := hid c4
  clear zb c1 c2 c3 c4
  refine (putv_any a len cap zs v _ (bytes_kept HH.out b0) (by omega) (by omega)).mono ?_
  rintro e W1 ⟨rfl, R1, b1⟩
  go_wp2_with fail
  refine (putf64_any _ _ _ _ v _ (R1.bytes K1.out) (by omega) (by omega)).mono ?_
  rintro e W2 ⟨rfl, R2, b2⟩
  go_wp2_with fail
  refine (putf32_any _ _ _ _ (v % 4294967296) _ (R2.bytes K2.out) (by omega) (by omega)).mono ?_
  rintro e W3 ⟨rfl, R3, b3⟩
  go_wp2_with fail
  refine (putt_any _ _ _ _ s _ (R3.bytes K3.out) (by omega) (by omega)).mono ?_
  rintro e W4 ⟨c, rfl, R4, b4⟩
  have B4 : Below w.heap.size w W4 := by
    have s0 := b0.size; have s1 := b1.size; have s2 := b2.size; have s3 := b3.size
    exact (((b0.trans (b1.mono s0)).trans (b2.mono (by omega))).trans (b3.mono (by omega))).trans (b4.mono (by omega))
  have h2 := bytes_kept HH2.out B4
  obtain ⟨g, c', W5, hrun, R5, g5⟩ := app_any R4 h2 (by omega) (by omega) b4.size
  have B5 : Hid (Below w.heap.size w W5) := B4.grown g5 B4.size (by intro k hk; simp at hk; have s0 := b0.size; have s1 := b1.size; have s2 := b2.size; have s3 := b3.size; omega)
  have h5 := R5.bytes K4.out
  have HRun := hid hrun
  have zl := HH.out.1
  have hb8 := Fx.fread_lt4
  -- what is read of the whole
  obtain ⟨C, hC⟩ : ∃ C, C = zs ++ Vb.vb v ++ lb 8 v ++ lb 4 (v % 4294967296) ++ Vb.vb s.size ++ tx s ++ ys := ⟨_, rfl⟩
  rw [← hC] at h5
  have E1 : Vb.vread C len = (v, ((len + (Vb.vb v).length : Nat) : Int), 0) := by
    have := Vb.vread_back zs (lb 8 v ++ (lb 4 (v % 4294967296) ++ (Vb.vb s.size ++ (tx s ++ ys)))) v ⟨hv0, hv1⟩
    rw [zl] at this
    rw [hC, ← this]
    simp [List.append_assoc]
  have E2 : Fx.fread C ((len + (Vb.vb v).length : Nat) : Int) 8 = (v, ((len + (Vb.vb v).length + 8 : Nat) : Int), 0) := by
    have := fread_at (zs ++ Vb.vb v) (lb 8 v) (lb 4 (v % 4294967296) ++ (Vb.vb s.size ++ (tx s ++ ys))) 8 (lb_len 8 v)
    rw [List.length_append, zl, le8 v ⟨hv0, hv1⟩] at this
    rw [hC, ← this]
    simp [List.append_assoc]
  have E3 : Fx.fread C ((len + (Vb.vb v).length + 8 : Nat) : Int) 4 = (v % 4294967296, ((len + (Vb.vb v).length + 8 + 4 : Nat) : Int), 0) := by
    have := fread_at (zs ++ Vb.vb v ++ lb 8 v) (lb 4 (v % 4294967296)) (Vb.vb s.size ++ (tx s ++ ys)) 4 (lb_len 4 _)
    rw [List.length_append, List.length_append, zl, lb_len, le4 (v % 4294967296) (by omega)] at this
    rw [hC, ← this]
    simp [List.append_assoc]
  have E4 : tread C ((len + (Vb.vb v).length + 8 + 4 : Nat) : Int) = (tx s, ((len + (Vb.vb v).length + 8 + 4 + (Vb.vb s.size).length + s.size : Nat) : Int), 0) := by
    have := tread_at (zs ++ Vb.vb v ++ lb 8 v ++ lb 4 (v % 4294967296)) ys s (by omega)
    rw [List.length_append, List.length_append, List.length_append, zl, lb_len, lb_len] at this
    rw [hC, ← this]
    simp [List.append_assoc]
  have F1 := Rd.varint_any _ _ _ C len W5 h5 (by omega)
  rw [E1] at F1
  have F2 := fixed64_any _ _ _ C ((len + (Vb.vb v).length : Nat) : Int) W5 h5 (by omega)
  rw [E2] at F2
  have F3 := fixed32_any _ _ _ C ((len + (Vb.vb v).length + 8 : Nat) : Int) W5 h5 (by omega)
  rw [E3] at F3
  have F4 := text_any _ _ _ C ((len + (Vb.vb v).length + 8 + 4 : Nat) : Int) W5 h5 (by omega)
  rw [E4, str_tx] at F4
  have F5 := Rd.size_any v W5 ⟨hv0, hv1⟩
  have G1 := hid F1
  have G2 := hid F2
  have G3 := hid F3
  have G4 := hid F4
  have G5 := hid F5
  clear F1 F2 F3 F4 F5 E1 E2 E3 E4 hC h5 h2 hrun R5 g5 R4 R3 R2 R1 b1 b2 b3 b4 B4 zl hb8 K1 K2 K3 K4
  generalize hL : (Vb.vb v).length = L at HRun G1 G2 G3 G4 G5 V10 ⊢
  generalize hq1 : len + L = q1 at HRun G1 G2 G3 G4 ⊢
  generalize hq2 : q1 + 8 = q2 at HRun G1 G2 G3 G4 ⊢
  generalize hq3 : q2 + 4 = q3 at HRun G1 G2 G3 G4 ⊢
  generalize hq4 : q3 + (Vb.vb s.size).length + s.size = q4 at HRun G1 G2 G3 G4 ⊢
  generalize hN : q4 + len2 = N at HRun G1 G2 G3 G4 ⊢
  have t1 : ((q1 : Int) == (len : Int) + (L : Int)) = true := by simp; omega
  have t2 : ((q4 : Int) == (N : Int) - (len2 : Int)) = true := by simp; omega
  have nb : N ≤ 1000000000 := by omega
  have nb2 : len2 ≤ N := by omega
  have XX := hid hL
  clear hL hq1 hq2 hq3 hq4 hN XX S10
  go_wp2_with (at_builtin; refine wpList_append_run rfl _ _ 22 22 rfl _ _ _ rfl rfl HRun.out ?_)
  clear HRun
  refine G1.out.mono ?_
  rintro e w' ⟨rfl, rfl⟩
  go_wp2_with fail
  refine G5.out.mono ?_
  rintro e w'' ⟨rfl, rfl⟩
  go_wp2_with fail
  refine G2.out.mono ?_
  rintro e w' ⟨rfl, rfl⟩
  go_wp2_with fail
  refine G3.out.mono ?_
  rintro e w' ⟨rfl, rfl⟩
  go_wp2_with fail
  refine G4.out.mono ?_
  rintro e w' ⟨rfl, rfl⟩
  go_wp2_with fail
  go_ret
  exact ⟨rfl, B5.out⟩

theorem bu64 {v : Int} (h : (Lit.int .u64 v).wf = true) : 0 ≤ v ∧ v ≤ 18446744073709551615 := by
  simpa [Lit.wf, IntKind.min, IntKind.max, IntKind.signed, IntKind.bits] using h
theorem u8_bd {y : Int} (h : (Lit.int .u8 y).wf = true) : 0 ≤ y ∧ y ≤ 255 := by
  simpa [Lit.wf, IntKind.min, IntKind.max, IntKind.signed, IntKind.bits] using h
theorem own : ownKnob Try.prog.godebug = none := by kernel_rfl
theorem laidOut : laidOutB Try.prog = true := by kernel_rfl
theorem cells74 : Try.prog.cellsOf 74 = 2 := by kernel_rfl

/-! ### What the bound gives -/
theorem bulk_pos {H : Type} (d : DataW H) : 1 ≤ Rows.uptoBulk d := by
  cases d with
  | lit l => cases l <;> simp [Rows.uptoBulk]
  | nil => simp [Rows.uptoBulk]
  | ptr d => simp [Rows.uptoBulk]
  | slice elems spare => simp [Rows.uptoBulk]
  | agg parts => simp [Rows.uptoBulk]
  | iface t d => simp [Rows.uptoBulk]
  | map entries => simp [Rows.uptoBulk]
  | held h => simp [Rows.uptoBulk]
theorem bulk_len {H : Type} (l : List (DataW H)) : l.length ≤ Rows.uptoBulkAll l := by
  induction l with
  | nil => simp [Rows.uptoBulkAll]
  | cons x r ih => have := bulk_pos x; simp only [Rows.uptoBulkAll, List.length_cons]; omega

/-- A field that is a slice of bytes, opened. -/
theorem open_field {H : Type} {enc : TypeId × Value → H} {W : World} {sp : Nat → Bool} {m : Nat} {c : Value} {y : DataW H × List MemPlace} (hsp : ∀ b, sp b = true)
    (h : DataW.trod enc Try.prog W 0 sp true m 22 [c] = some y) : ∃ (a : Option Addr) (len cap : Nat) (zs : List Int), c = .slice a len cap ∧ Bytes W a len cap zs ∧ len ≤ Rows.uptoBulk y.1 := by
  rcases open_ints Try.underlying22 Try.underlying5 (by kernel_rfl) h with ⟨hcs, _⟩ | ⟨x, l, c', zs, hcs, _, hl, hm, hz, hx, hcell, hwz⟩
  · simp at hcs
    subst hcs
    exact ⟨none, 0, 0, [], rfl, nil_bytes W, by omega⟩
  · simp at hcs
    subst hcs
    have hz' : zs.length = c' := by simpa [hsp] using hz
    refine ⟨some x, l, c', zs.take l, rfl, ⟨by rw [List.length_take]; omega, hl, fun e => by simp at e, fun y hy => u8_bd (hwz y (List.mem_of_mem_take hy)), ?_⟩, ?_⟩
    · intro x' hx' j hj
      simp at hx'
      subst hx'
      rw [hcell j (by omega)]
      simp [List.getD_eq_getElem?_getD, hj]
    · rw [hx]
      have := bulk_len (lits (H := H) .u8 (zs.take l))
      simp only [Rows.uptoBulk]
      simp only [lits, List.length_map, List.length_take] at this ⊢
      omega

theorem contract (H : Type) (enc : TypeId × Value → H) (W : World) (base : Nat) (args : Array Value) (ds gs : List (DataW H)) (before : List MemPlace)
    (hval : ∀ (j : Nat) t v, Try.f8.params[j]? = some t → args[j]? = some v → Value.okWide Try.prog W .any base t v)
    (hW : DataW.Whole enc Try.prog Try.f8.params.toList Rows.codecBackSpec.vars false W args.toList ds gs before) (hk : Rows.uptoSmall H (ds ++ gs) = true) :
    Calls Try.prog 8 args W fun e W' => ∃ v, e = .returned v ∧ Rows.codecBackSpec.post enc Try.prog Try.f8 false true false false W args v W' := by
  have hW' := hW
  obtain ⟨p, q, hA0, hV, rfl, hfz, hnd⟩ := hW
  have hA : DataW.TrodAll enc Try.prog W 0 (fun _ => true) true Try.f8.params.toList args.toList ds p := hA0
  rw [Try.params8] at hA hval
  obtain ⟨v0, vs0, d0, ds0, p0, q0, hargs, rfl, rfl, h0, r0⟩ := trodAll_cons hA
  obtain ⟨v1, vs1, d1, ds1, p1, q1, rfl, rfl, rfl, h1, r1⟩ := trodAll_cons r0
  obtain ⟨v2, vs2, d2, ds2, p2, q2, rfl, rfl, rfl, h2, r2⟩ := trodAll_cons r1
  obtain ⟨rfl, rfl, rfl⟩ := trodAll_nil r2
  obtain rfl : args = #[v0, v1, v2] := by cases args; simp_all
  obtain ⟨rfl, rfl⟩ := trodVars_none hV
  have k0 := h0
  have lt0 : ∀ x ∈ p0, x.block < W.heap.size := by obtain ⟨m, hm⟩ := k0; exact DataW.trod_lt m _ _ _ hm
  obtain ⟨c0, c1, y0, y1, m, rfl, hd0, _, hy0, hy1⟩ := open_agg2 Try.underlying74 (by kernel_rfl) cells74 (hval 0 74 v0 rfl rfl) h0
  obtain ⟨a, len, cap, zs, rfl, HB, hlen⟩ := open_field (fun _ => rfl) hy0
  obtain ⟨a2, len2, cap2, ys, rfl, HB2, hlen2⟩ := open_field (fun _ => rfl) hy1
  obtain ⟨a1, rfl, rfl, rfl, w1⟩ := open_int Try.underlying23 (hval 1 23 v1 rfl rfl) h1
  obtain ⟨s, rfl, rfl, rfl, w2⟩ := open_string Try.underlying9 (hval 2 9 v2 rfl rfl) h2
  clear hA0
  have hb : Rows.uptoBulkAll [d0, DataW.lit (H := H) (.int .u64 a1), DataW.lit (H := H) (.string s.data.toList)] ≤ 1048576 := by
    have := of_decide_eq_true hk
    simpa using this
  rw [hd0] at hb
  simp only [Rows.uptoBulkAll, Rows.uptoBulk] at hb
  have es : s.data.toList.length = s.size := by rw [Array.length_toList]; rfl
  refine (back a len cap zs a2 len2 cap2 ys a1 s W HB HB2 (by omega) (by omega) (bu64 w1) (by omega)).mono fun e W' ⟨he, bel⟩ => ?_
  subst he
  exact ⟨_, rfl, _, _, _, [], _, [], hW', trodAll_mk1 (shut_bool Try.underlying4 _), (trodAll_cons_mk (Below.trod laidOut (by kernel_rfl) (of_decide_eq_true (by kernel_rfl)) k0 bel lt0) (trodAll_cons_mk (shut_int Try.underlying23 w1) (trodAll_cons_mk (shut_string Try.underlying9 w2) trodAll_mk0))), rfl, bel.frame _, fun h => by cases h⟩

set_option maxRecDepth 100000 in
theorem lifted (os : Os) (started : os.Started) (H : Type) (enc : TypeId × Value → H) (F : Stop.Interp) :
    ReturnsInHanded {} Try.checked os 8 .any ((Rows.OpenSpec.upto Rows.codecBackSpec).pre6 enc Try.prog Try.f8 Rows.codecBackUptoRow.domain false) (((Rows.OpenSpec.upto Rows.codecBackSpec).at F).post enc Try.prog Try.f8 false true false false) := by
  refine returnsInHanded_of_cond (C := Try.checked) (s := Rows.OpenSpec.upto Rows.codecBackSpec) (k := Rows.uptoSmall) rfl own started (by kernel_rfl) Try.func8
    (OpenSpec.witness (enc := enc) (C := Try.checked) (s := Rows.OpenSpec.upto Rows.codecBackSpec) (k := Rows.uptoSmall) rfl false ⟨#[], #[.agg #[.slice none 0 0, .slice none 0 0], .int .u64 0, .string .empty], []⟩ 8 (by kernel_rfl) (by kernel_rfl) (by kernel_rfl)
      (x := ([.agg [.nil, .nil], .lit (.int .u64 0), .lit (.string [])], [], [])) (by kernel_rfl) rfl (by kernel_rfl)) ?_
  intro W base args ds gs before hval hW _ hk _
  exact contract H enc W base args ds gs before hval hW hk

theorem proved : Rows.CodecBackUptoSaid :=
  OpenClaim.holds_of_cond 8 Try.f8 rfl rfl rfl rfl rfl rfl rfl ⟨rfl, rfl, rfl, rfl, rfl⟩ rfl rfl rfl rfl rfl (by kernel_rfl) Try.func8 (by kernel_rfl)
    (of_decide_eq_true (by kernel_rfl)) (by unfold Func.isWrapper; first | (rw [if_pos (by decide +kernel)]; kernel_rfl) | (rw [if_neg (by decide +kernel)]; exact ⟨rfl, rfl⟩))
    (fun os started H enc _ F => lifted os started H enc F)
end Go.Proofs.Ytpinknkdcecajaa.codecBack
namespace Go.Proofs.Ytpinknkdcecajaa
theorem codecBack_upto_holds : Rows.CodecBackUptoSaid := codecBack.proved
#print axioms codecBack_upto_holds
end Go.Proofs.Ytpinknkdcecajaa

/- Renumber and Join. -/
import Derived.Test.YtmceanfgcehfeaaPu
import Derived.Test.YtmceanfgcehfeaaOc
import Derived.Test.YtmceanfgcehfeaaRx
import Derived.Test.YtmceanfgcehfeaaEd
namespace Go.Proofs.Ytmceanfgcehfeaa.Jo
open Go.ChangeShapes Go.WideShapes Go.ChangeAt Go.RowKit
open Go.Proofs.Ytmceanfgcehfeaa.By
open Go.Proofs.Ytmceanfgcehfeaa.Ob
open Go.Proofs.Ytmceanfgcehfeaa.En
open Go.Proofs.Ytmceanfgcehfeaa.De
open Go.Proofs.Ytmceanfgcehfeaa.Pu
open Go.Proofs.Ytmceanfgcehfeaa.Rt (rdecode_ok rdecode_no)
set_option linter.unusedVariables false

/-- Bytes that a call hands back: nil, where there are none; else a row of its own. -/
def Res (w : World) (base : Nat) (v : Value) (zs : List Int) : Prop := (zs = [] ∧ v = .slice none 0 0) ∨ ∃ g c, v = .slice (some ⟨g, 0, none⟩) zs.length c ∧ Row w base g zs.length c zs
theorem Res.later {w w' : World} {base : Nat} {v : Value} {zs : List Int} (h : Res w base v zs) (b : Below w.heap.size w w') : Res w' base v zs := by
  rcases h with h | ⟨g, c, e, R⟩
  · exact .inl h
  · exact .inr ⟨g, c, e, row_below R b⟩
theorem Res.bytes {w : World} {base : Nat} {v : Value} {zs : List Int} (h : Res w base v zs) (hb : ∀ y ∈ zs, 0 ≤ y ∧ y ≤ 255) : ∃ a c, v = .slice a zs.length c ∧ Bytes w a zs.length c zs := by
  rcases h with ⟨rfl, rfl⟩ | ⟨g, c, rfl, R⟩
  · exact ⟨none, 0, rfl, nil_bytes w⟩
  · exact ⟨_, c, rfl, R.bytes hb⟩
def encR (s : Int) (xs : List O) : Int × List Int := if encE s xs = 0 then (0, enc s xs) else (encE s xs, [])
def renR (zs : List Int) (s : Int) : Int × List Int := match dec zs with
  | none => (41, [])
  | some (_, xs) => encR s xs
def joinR (zs ys : List Int) : Int × List Int := match dec zs with
  | none => (41, [])
  | some (s, xs) => match dec ys with
    | none => (41, [])
    | some (_, us) => encR s (xs ++ us)
theorem encR_bytes (s : Int) (xs : List O) : ∀ y ∈ (encR s xs).2, 0 ≤ y ∧ y ≤ 255 := by
  unfold encR
  split
  · next h => exact enc_bytes s xs (all_may xs (chk_parts (encE_ok h).1).2.1)
  · simp
theorem renR_bytes (zs : List Int) (s : Int) : ∀ y ∈ (renR zs s).2, 0 ≤ y ∧ y ≤ 255 := by
  unfold renR
  split
  · simp
  · exact encR_bytes _ _
theorem joinR_bytes (zs ys : List Int) : ∀ y ∈ (joinR zs ys).2, 0 ≤ y ∧ y ≤ 255 := by
  unfold joinR
  split
  · simp
  · split
    · simp
    · exact encR_bytes _ _
theorem encR_len (s : Int) (xs : List O) : (encR s xs).2.length ≤ 1048576 := by
  unfold encR
  split
  · next h => rw [enc_len]; exact (chk_parts (encE_ok h).1).2.2.1
  · simp
theorem renR_len (zs : List Int) (s : Int) : (renR zs s).2.length ≤ 1048576 := by
  unfold renR
  split
  · simp
  · exact encR_len _ _
theorem joinR_len (zs ys : List Int) : (joinR zs ys).2.length ≤ 1048576 := by
  unfold joinR
  split
  · simp
  · split
    · simp
    · exact encR_len _ _
theorem row_base {w : World} {base base' g n c : Nat} {xs : List Int} (h : Row w base g n c xs) (hb : base' ≤ base) : Row w base' g n c xs := by
  refine ⟨h.1, ?_⟩
  rcases h.2 with h | ⟨g', cap', cur, e, hb', r⟩
  · exact .inl h
  · exact .inr ⟨g', cap', cur, e, by omega, r⟩
theorem orow_base {w : World} {base base' n : Nat} {v : Value} {xs : List Value} (h : w.ownsRow base 50 3 v n xs) (hb : base' ≤ base) : w.ownsRow base' 50 3 v n xs := by
  refine ⟨h.1, ?_⟩
  rcases h.2 with h | ⟨g', cap', cur, e, hb', r⟩
  · exact .inl h
  · exact .inr ⟨g', cap', cur, e, by omega, r⟩
theorem encode_res (s : Int) (a : Option Addr) (len cap : Nat) (xs : List O) (w : World) (H : Ops w a len cap xs) (hl : len ≤ 140737488351232) (hs : 0 ≤ s ∧ s ≤ 18446744073709551615) :
    Calls Try.prog 16 #[.int .u64 s, .slice a len cap] w fun e w' => ∃ v, e = .returned (.tuple #[v, .int .i64 (encR s xs).1]) ∧ Res w' w.heap.size v (encR s xs).2 ∧ Below w.heap.size w w' := by
  unfold encR
  by_cases h : encE s xs = 0
  · rw [if_pos h]
    refine (encode_ok s a len cap xs w H hs h).mono ?_
    rintro e w' ⟨g, c, rfl, R, b⟩
    rw [← enc_len s xs] at R ⊢
    exact ⟨_, rfl, .inr ⟨g, c, rfl, R⟩, b⟩
  · rw [if_neg h]
    refine (encode_no s a len cap xs w H hl hs h).mono ?_
    rintro e w' ⟨rfl, b⟩
    exact ⟨_, rfl, .inl ⟨rfl, rfl⟩, b⟩
theorem rencode_res (s : Int) (a : Option Addr) (len cap : Nat) (xs : List O) (w : World) (H : Ops w a len cap xs) (hl : len ≤ 140737488351232) (hs : 0 ≤ s ∧ s ≤ 18446744073709551615) :
    Calls Try.prog 17 #[.int .u64 s, .slice a len cap] w fun e w' => ∃ v, e = .returned (.tuple #[v, .int .i64 (encR s xs).1]) ∧ Res w' w.heap.size v (encR s xs).2 ∧ Below w.heap.size w w' := by
  unfold encR
  by_cases h : encE s xs = 0
  · rw [if_pos h]
    refine (rencode_ok s a len cap xs w H hs h).mono ?_
    rintro e w' ⟨g, c, rfl, R, b⟩
    rw [← enc_len s xs] at R ⊢
    exact ⟨_, rfl, .inr ⟨g, c, rfl, R⟩, b⟩
  · rw [if_neg h]
    refine (rencode_no s a len cap xs w H hl hs h).mono ?_
    rintro e w' ⟨rfl, b⟩
    exact ⟨_, rfl, .inl ⟨rfl, rfl⟩, b⟩
set_option maxHeartbeats 1000000 in
theorem renumber_any (a : Option Addr) (len cap : Nat) (zs : List Int) (s : Int) (w : World) (H : Bytes w a len cap zs) (hcap : len ≤ 140737488351232) (hs : 0 ≤ s ∧ s ≤ 18446744073709551615) :
    Calls Try.prog 25 #[.slice a len cap, .int .u64 s] w fun e w' => ∃ v, e = .returned (.tuple #[v, .int .i64 (renR zs s).1]) ∧ Res w' w.heap.size v (renR zs s).2 ∧ Below w.heap.size w w' := by
  cases hd : dec zs with
  | none =>
    have HR : Hid (renR zs s = (41, [])) := by show _ = _; unfold renR; rw [hd]
    have HD := hid (decode_no a len cap zs w H hcap hd)
    clear hd
    rw [HR.out]
    go_enter Try.func25, Try.ntmps25
    go_wp2_with fail
    refine HD.out.mono ?_
    rintro e w1 ⟨rfl, b1⟩
    go_wp2_with fail
    go_ret2
    exact ⟨_, rfl, .inl ⟨rfl, rfl⟩, b1⟩
  | some q =>
    obtain ⟨s0, xs⟩ := q
    obtain ⟨_, _, _, q4, q5⟩ := enc_dec zs H.2.2.2.1 s0 xs hd
    have HR : Hid (renR zs s = encR s xs) := by show _ = _; unfold renR; rw [hd]
    have HD := hid (decode_ok a len cap zs w H s0 xs hd)
    have HQ4 := hid q4
    clear hd q4
    rw [HR.out]
    generalize hE : encR s xs = E at *
    obtain ⟨E1, E2⟩ := E
    go_enter Try.func25, Try.ntmps25
    go_wp2_with fail
    refine HD.out.mono ?_
    rintro e w1 ⟨v, rfl, O1, b1⟩
    obtain ⟨a1, c1, hv, HO⟩ := row_ops O1 (fun x hx => may_ok (HQ4.out x hx))
    subst hv
    have HHO := hid HO
    have HB1 := hid b1
    clear HO O1 b1
    go_wp2_with fail
    refine (encode_res s a1 xs.length c1 xs w1 HHO.out (by omega) hs).mono ?_
    rw [hE]
    rintro e w2 ⟨v2, rfl, r2, b2⟩
    have HB2 : Hid (Below w.heap.size w w2) := HB1.out.trans (b2.mono HB1.out.size)
    have r2' : Res w2 w.heap.size v2 E2 := by
      rcases r2 with r | ⟨g, c, e, R⟩
      · exact .inl r
      · exact .inr ⟨g, c, e, row_base R HB1.out.size⟩
    have HR2 := hid r2'
    clear r2 r2' b2
    go_wp2_with fail
    go_ret2
    exact ⟨v2, rfl, HR2.out, HB2.out⟩
set_option maxHeartbeats 1000000 in
theorem rrenumber_any (a : Option Addr) (len cap : Nat) (zs : List Int) (s : Int) (w : World) (H : Bytes w a len cap zs) (hcap : len ≤ 140737488351232) (hs : 0 ≤ s ∧ s ≤ 18446744073709551615) :
    Calls Try.prog 26 #[.slice a len cap, .int .u64 s] w fun e w' => ∃ v, e = .returned (.tuple #[v, .int .i64 (renR zs s).1]) ∧ Res w' w.heap.size v (renR zs s).2 ∧ Below w.heap.size w w' := by
  cases hd : dec zs with
  | none =>
    have HR : Hid (renR zs s = (41, [])) := by show _ = _; unfold renR; rw [hd]
    have HD := hid (rdecode_no a len cap zs w H hd)
    clear hd
    rw [HR.out]
    go_enter Try.func26, Try.ntmps26
    go_wp2_with fail
    refine HD.out.mono ?_
    rintro e w1 ⟨rfl, b1⟩
    go_wp2_with fail
    go_ret2
    exact ⟨_, rfl, .inl ⟨rfl, rfl⟩, b1⟩
  | some q =>
    obtain ⟨s0, xs⟩ := q
    obtain ⟨_, _, _, q4, q5⟩ := enc_dec zs H.2.2.2.1 s0 xs hd
    have HR : Hid (renR zs s = encR s xs) := by show _ = _; unfold renR; rw [hd]
    have HD := hid (rdecode_ok a len cap zs w H s0 xs hd)
    have HQ4 := hid q4
    clear hd q4
    rw [HR.out]
    generalize hE : encR s xs = E at *
    obtain ⟨E1, E2⟩ := E
    go_enter Try.func26, Try.ntmps26
    go_wp2_with fail
    refine HD.out.mono ?_
    rintro e w1 ⟨v, rfl, O1, b1⟩
    obtain ⟨a1, c1, hv, HO⟩ := row_ops O1 (fun x hx => may_ok (HQ4.out x hx))
    subst hv
    have HHO := hid HO
    have HB1 := hid b1
    clear HO O1 b1
    go_wp2_with fail
    refine (rencode_res s a1 xs.length c1 xs w1 HHO.out (by omega) hs).mono ?_
    rw [hE]
    rintro e w2 ⟨v2, rfl, r2, b2⟩
    have HB2 : Hid (Below w.heap.size w w2) := HB1.out.trans (b2.mono HB1.out.size)
    have r2' : Res w2 w.heap.size v2 E2 := by
      rcases r2 with r | ⟨g, c, e, R⟩
      · exact .inl r
      · exact .inr ⟨g, c, e, row_base R HB1.out.size⟩
    have HR2 := hid r2'
    clear r2 r2' b2
    go_wp2_with fail
    go_ret2
    exact ⟨v2, rfl, HR2.out, HB2.out⟩
/-- Operations appended to a row of the call's own. -/
theorem app_ops {w : World} {ops : Array Oper} {rest : List Oper} {o : Oper} {act : Act} {Q : Exit → Act → World → Prop} (hgd : o.guard = none) (s x : Operand)
    (ho : o.op = .call { callee := .builtin .append, args := #[s, x], argTypes := #[22, 22] })
    (base : Nat) (v : Value) (n : Nat) (xs : List O) (hs : act.eval s = v) (hown : w.ownsRow base 50 3 v n (ocs xs))
    (a : Option Addr) (m c : Nat) (ys : List O) (hx : act.eval x = .slice a m c) (H : Ops w a m c ys) (hnm : n + m ≤ 1000000) (hbase : base ≤ w.heap.size)
    (h : ∀ v' w', w'.ownsRow base 50 3 v' (n + m) (ocs (xs ++ ys)) → w.grownBy w' v.ownBlock → wpList Try.prog ops Q rest (act.put o.dst v') w') : wpList Try.prog ops Q (o :: rest) act w := by
  obtain ⟨i0, hi, hz0, hz1, hz2⟩ := info_parts infoOp
  cases a with
  | none =>
    obtain ⟨rfl, rfl⟩ := H.2.2.1 rfl
    have hy : ys = [] := List.eq_nil_of_length_eq_zero H.1
    subst hy
    refine wpList_append_own_none hgd s x 22 ho base 50 i0 3 Try.underlying22 hi v n (ocs xs) hs hown hx ?_
    exact h v w (by simpa using hown) (World.grownBy.refl _ _)
  | some ad =>
    refine wpList_append_own w hgd s x 22 ho base 50 i0 (.agg #[.int .i64 0, .string ⟨#[]⟩, .string ⟨#[]⟩]) 3 40 Try.underlying22 hi hz0 hz1 hz2 rfl (by decide) v n (ocs xs) hs hown ad m c (ocs ys) hx (by rw [ocs_len, H.1]) H.cells (ocs_one ys) (by unfold maxLen; omega) (by omega) hbase ?_
    intro v' w' h1 h2 _
    exact h v' w' (by rw [ocs_append]; exact h1) h2
set_option maxHeartbeats 2000000 in
theorem join_any (a : Option Addr) (len cap : Nat) (zs : List Int) (b : Option Addr) (lenb capb : Nat) (ys : List Int) (w : World) (H : Bytes w a len cap zs) (hcap : len ≤ 140737488351232) (Hy : Bytes w b lenb capb ys) (hcapb : lenb ≤ 140737488351232) :
    Calls Try.prog 27 #[.slice a len cap, .slice b lenb capb] w fun e w' => ∃ v, e = .returned (.tuple #[v, .int .i64 (joinR zs ys).1]) ∧ Res w' w.heap.size v (joinR zs ys).2 ∧ Below w.heap.size w w' := by
  have HY := hid Hy
  cases hd : dec zs with
  | none =>
    have HR : Hid (joinR zs ys = (41, [])) := by show _ = _; unfold joinR; rw [hd]
    have HD := hid (decode_no a len cap zs w H hcap hd)
    clear hd
    rw [HR.out]
    go_enter Try.func27, Try.ntmps27
    go_wp2_with fail
    refine HD.out.mono ?_
    rintro e w1 ⟨rfl, b1⟩
    go_wp2_with fail
    go_ret2
    exact ⟨_, rfl, .inl ⟨rfl, rfl⟩, b1⟩
  | some q =>
    obtain ⟨s0, xs⟩ := q
    obtain ⟨_, _, hs0, q4, q5⟩ := enc_dec zs H.2.2.2.1 s0 xs hd
    have HD := hid (decode_ok a len cap zs w H s0 xs hd)
    have HQ4 := hid q4
    cases hd2 : dec ys with
    | none =>
      have HR : Hid (joinR zs ys = (41, [])) := by show _ = _; unfold joinR; rw [hd]; simp only; rw [hd2]
      have HD2 : Hid (∀ W, Below w.heap.size w W → _) := fun W hW => decode_no b lenb capb ys W (bytes_kept HY.out hW) hcapb hd2
      clear hd2 hd q4
      rw [HR.out]
      go_enter Try.func27, Try.ntmps27
      go_wp2_with fail
      refine HD.out.mono ?_
      rintro e w1 ⟨v1, rfl, O1, b1⟩
      have HB1 := hid b1
      clear b1
      go_wp2_with fail
      refine (HD2.out w1 HB1.out).mono ?_
      rintro e w2 ⟨rfl, b2⟩
      go_wp2_with fail
      go_ret2
      exact ⟨_, rfl, .inl ⟨rfl, rfl⟩, HB1.out.trans (b2.mono HB1.out.size)⟩
    | some q2 =>
      obtain ⟨s2, us⟩ := q2
      obtain ⟨_, _, _, r4, r5⟩ := enc_dec ys HY.out.2.2.2.1 s2 us hd2
      have HR : Hid (joinR zs ys = encR s0 (xs ++ us)) := by show _ = _; unfold joinR; rw [hd]; simp only; rw [hd2]
      have HD2 : Hid (∀ W, Below w.heap.size w W → _) := fun W hW => decode_ok b lenb capb ys W (bytes_kept HY.out hW) s2 us hd2
      have HR4 := hid r4
      have HOK : Hid (∀ x ∈ xs ++ us, x.ok) := fun x hx => by
        rcases List.mem_append.1 hx with h | h
        · exact may_ok (HQ4.out x h)
        · exact may_ok (HR4.out x h)
      clear hd2 hd q4 r4
      rw [HR.out]
      generalize hE : encR s0 (xs ++ us) = E at *
      obtain ⟨E1, E2⟩ := E
      go_enter Try.func27, Try.ntmps27
      go_wp2_with fail
      refine HD.out.mono ?_
      rintro e w1 ⟨v1, rfl, O1, b1⟩
      have HB1 := hid b1
      have HO1 := hid O1
      have z1 := b1.size
      clear b1 O1
      go_wp2_with fail
      refine (HD2.out w1 HB1.out).mono ?_
      rintro e w2 ⟨v2, rfl, O2, b2⟩
      obtain ⟨a2, c2, hv2, HU⟩ := row_ops O2 (fun x hx => may_ok (HR4.out x hx))
      subst hv2
      have HB2 : Hid (Below w.heap.size w w2) := HB1.out.trans (b2.mono HB1.out.size)
      have z2 := b2.size
      have HO1' := hid (HO1.out.kept (It.grown_of_below b2) (by cases hh : v1.ownBlock <;> simp))
      have HHU := hid HU
      clear b2 O2 HU HO1
      go_wp2_with (at_builtin; refine app_ops rfl _ _ rfl w.heap.size v1 xs.length xs rfl HO1'.out a2 us.length c2 us rfl HHU.out (by omega) (by omega) ?_)
      intro v3 w3 O3 g3
      have HB3 : Hid (Below w.heap.size w w3) := HB2.out.grown g3 (by omega) (fun j hj => (World.ownsRow.lt HO1'.out j hj).1)
      rw [← List.length_append] at O3
      obtain ⟨a3, c3, hv3, HJ⟩ := row_ops O3 HOK.out
      subst hv3
      rw [List.length_append] at HJ ⊢
      have HHJ := hid HJ
      clear O3 g3 HJ
      go_wp2_with fail
      refine (encode_res s0 a3 (xs.length + us.length) c3 (xs ++ us) w3 HHJ.out (by omega) hs0).mono ?_
      rw [hE]
      rintro e w4 ⟨v4, rfl, r4, b4⟩
      have HB4 : Hid (Below w.heap.size w w4) := HB3.out.trans (b4.mono HB3.out.size)
      have r4' : Res w4 w.heap.size v4 E2 := by
        rcases r4 with r | ⟨g, c, e, R⟩
        · exact .inl r
        · exact .inr ⟨g, c, e, row_base R HB3.out.size⟩
      have HR4' := hid r4'
      clear r4 r4' b4
      go_wp2_with fail
      go_ret2
      exact ⟨v4, rfl, HR4'.out, HB4.out⟩
theorem block_of {w : World} {a : Option Addr} {len cap : Nat} {xs : List O} (h : Ops w a len cap xs) {b o : Nat} {p : Option _} (ha : a = some ⟨b, o, p⟩) : len = 0 ∨ b < w.heap.size := by
  by_cases h0 : len = 0
  · exact .inl h0
  · have := (h.2.2.2.2 b o p ha (by omega)).2 0 (by omega)
    exact .inr (block_lt_of_cell this.1)
theorem ops_grown {w w' : World} {a : Option Addr} {len cap : Nat} {xs : List O} {row : Option Nat} (h : Ops w a len cap xs) (g : w.grownBy w' row) (hne : ∀ b o p, a = some ⟨b, o, p⟩ → len = 0 ∨ row ≠ some b) : Ops w' a len cap xs := by
  refine ⟨h.1, h.2.1, h.2.2.1, h.2.2.2.1, fun b o p ha h0 => ?_⟩
  obtain ⟨e, hat⟩ := h.2.2.2.2 b o p ha h0
  refine ⟨e, fun i hi => ?_⟩
  obtain ⟨c0, c1, c2⟩ := hat i hi
  have hn : some b ≠ row := by
    rcases hne b o p ha with h' | h'
    · omega
    · exact h'.symm
  exact ⟨g.cell c0 hn, g.cell c1 hn, g.cell c2 hn⟩
set_option maxHeartbeats 2000000 in
theorem rjoin_any (a : Option Addr) (len cap : Nat) (zs : List Int) (b : Option Addr) (lenb capb : Nat) (ys : List Int) (w : World) (H : Bytes w a len cap zs) (hcap : len ≤ 140737488351232) (Hy : Bytes w b lenb capb ys) (hcapb : lenb ≤ 140737488351232) :
    Calls Try.prog 28 #[.slice a len cap, .slice b lenb capb] w fun e w' => ∃ v, e = .returned (.tuple #[v, .int .i64 (joinR zs ys).1]) ∧ Res w' w.heap.size v (joinR zs ys).2 ∧ Below w.heap.size w w' := by
  have HY := hid Hy
  cases hd : dec zs with
  | none =>
    have HR : Hid (joinR zs ys = (41, [])) := by show _ = _; unfold joinR; rw [hd]
    have HD := hid (rdecode_no a len cap zs w H hd)
    clear hd
    rw [HR.out]
    cases hd2 : dec ys with
    | none =>
      have HD2 : Hid (∀ W, Below w.heap.size w W → _) := fun W hW => rdecode_no b lenb capb ys W (bytes_kept HY.out hW) hd2
      clear hd2
      go_enter Try.func28, Try.ntmps28
      go_wp2_with fail
      refine HD.out.mono ?_
      rintro e w1 ⟨rfl, b1⟩
      have HB1 := hid b1
      clear b1
      go_wp2_with fail
      refine (HD2.out w1 HB1.out).mono ?_
      rintro e w2 ⟨rfl, b2⟩
      go_wp2_with fail
      go_ret2
      exact ⟨_, rfl, .inl ⟨rfl, rfl⟩, HB1.out.trans (b2.mono HB1.out.size)⟩
    | some q2 =>
      obtain ⟨s2, us⟩ := q2
      have HD2 : Hid (∀ W, Below w.heap.size w W → _) := fun W hW => rdecode_ok b lenb capb ys W (bytes_kept HY.out hW) s2 us hd2
      clear hd2
      go_enter Try.func28, Try.ntmps28
      go_wp2_with fail
      refine HD.out.mono ?_
      rintro e w1 ⟨rfl, b1⟩
      have HB1 := hid b1
      clear b1
      go_wp2_with fail
      refine (HD2.out w1 HB1.out).mono ?_
      rintro e w2 ⟨v2, rfl, O2, b2⟩
      go_wp2_with fail
      go_ret2
      exact ⟨_, rfl, .inl ⟨rfl, rfl⟩, HB1.out.trans (b2.mono HB1.out.size)⟩
  | some q =>
    obtain ⟨s0, xs⟩ := q
    obtain ⟨_, _, hs0, q4, q5⟩ := enc_dec zs H.2.2.2.1 s0 xs hd
    have HD := hid (rdecode_ok a len cap zs w H s0 xs hd)
    have HQ4 := hid q4
    cases hd2 : dec ys with
    | none =>
      have HR : Hid (joinR zs ys = (41, [])) := by show _ = _; unfold joinR; rw [hd]; simp only; rw [hd2]
      have HD2 : Hid (∀ W, Below w.heap.size w W → _) := fun W hW => rdecode_no b lenb capb ys W (bytes_kept HY.out hW) hd2
      clear hd2 hd q4
      rw [HR.out]
      go_enter Try.func28, Try.ntmps28
      go_wp2_with fail
      refine HD.out.mono ?_
      rintro e w1 ⟨v1, rfl, O1, b1⟩
      have HB1 := hid b1
      clear b1
      go_wp2_with fail
      refine (HD2.out w1 HB1.out).mono ?_
      rintro e w2 ⟨rfl, b2⟩
      go_wp2_with fail
      go_ret2
      exact ⟨_, rfl, .inl ⟨rfl, rfl⟩, HB1.out.trans (b2.mono HB1.out.size)⟩
    | some q2 =>
      obtain ⟨s2, us⟩ := q2
      obtain ⟨_, _, _, r4, r5⟩ := enc_dec ys HY.out.2.2.2.1 s2 us hd2
      have HR : Hid (joinR zs ys = encR s0 (xs ++ us)) := by show _ = _; unfold joinR; rw [hd]; simp only; rw [hd2]
      have HD2 : Hid (∀ W, Below w.heap.size w W → _) := fun W hW => rdecode_ok b lenb capb ys W (bytes_kept HY.out hW) s2 us hd2
      have HR4 := hid r4
      have HOK : Hid (∀ x ∈ xs ++ us, x.ok) := fun x hx => by
        rcases List.mem_append.1 hx with h | h
        · exact may_ok (HQ4.out x h)
        · exact may_ok (HR4.out x h)
      clear hd2 hd q4 r4
      rw [HR.out]
      generalize hE : encR s0 (xs ++ us) = E at *
      obtain ⟨E1, E2⟩ := E
      go_enter Try.func28, Try.ntmps28
      go_wp2_with fail
      refine HD.out.mono ?_
      rintro e w1 ⟨v1, rfl, O1, b1⟩
      have HB1 := hid b1
      have HO1 := hid O1
      have z1 := b1.size
      clear b1 O1
      go_wp2_with fail
      refine (HD2.out w1 HB1.out).mono ?_
      rintro e w2 ⟨v2, rfl, O2, b2⟩
      obtain ⟨a2, c2, hv2, HU⟩ := row_ops O2 (fun x hx => may_ok (HR4.out x hx))
      subst hv2
      have HB2 : Hid (Below w.heap.size w w2) := HB1.out.trans (b2.mono HB1.out.size)
      have z2 := b2.size
      have HO1' := hid (HO1.out.kept (It.grown_of_below b2) (by cases hh : v1.ownBlock <;> simp))
      have HHU := hid HU
      clear b2 O2 HU HO1
      obtain ⟨a1, c1, hv1, HX⟩ := row_ops HO1'.out (fun x hx => may_ok (HQ4.out x hx))
      subst hv1
      have own0 : (w2.alloc (.cells #[] 50)).ownsRow w.heap.size 50 3 (.slice (some ⟨w2.heap.size, 0, none⟩) 0 0) 0 (ocs []) := World.ownsRow_made w2 #[] 0 (by omega) (by unfold maxLen; omega) rfl
      have HX' := hid (HX.later (box_below w2 (.cells #[] 50)))
      have HBa : Hid (Below w.heap.size w (w2.alloc (.cells #[] 50))) := HB2.out.alloc (by omega) _
      have HU' := hid (HHU.out.later (box_below w2 (.cells #[] 50)))
      have hown0 := hid own0
      clear own0 HX
      go_wp2_with (at_builtin; refine app_ops rfl _ _ rfl w.heap.size _ 0 [] rfl hown0.out a1 xs.length c1 xs rfl HX'.out (by omega) (by simp; omega) ?_)
      intro v5 w5 O5 g5
      have HB5 : Hid (Below w.heap.size w w5) := HBa.out.grown g5 (by simp; omega) (fun j hj => (World.ownsRow.lt hown0.out j hj).1)
      have O5' : w5.ownsRow w.heap.size 50 3 v5 xs.length (ocs xs) := by simpa using O5
      have HU5 : Ops w5 a2 us.length c2 us := ops_grown HU'.out g5 (by
        intro bb oo pp hab
        rcases block_of HHU.out hab with h | h
        · exact .inl h
        · refine .inr ?_
          simp [Value.ownBlock]
          omega)
      have HO5 := hid O5'
      have HHU5 := hid HU5
      have z5 := HB5.out.size
      clear O5 O5' HU5 g5
      go_wp2_with (at_builtin; refine app_ops rfl _ _ rfl w.heap.size v5 xs.length xs rfl HO5.out a2 us.length c2 us rfl HHU5.out (by omega) (by omega) ?_)
      intro v3 w3 O3 g3
      have HB3 : Hid (Below w.heap.size w w3) := HB5.out.grown g3 (by omega) (fun j hj => (World.ownsRow.lt HO5.out j hj).1)
      rw [← List.length_append] at O3
      obtain ⟨a3, c3, hv3, HJ⟩ := row_ops O3 HOK.out
      subst hv3
      rw [List.length_append] at HJ ⊢
      have HHJ := hid HJ
      clear O3 g3 HJ
      go_wp2_with fail
      refine (rencode_res s0 a3 (xs.length + us.length) c3 (xs ++ us) w3 HHJ.out (by omega) hs0).mono ?_
      rw [hE]
      rintro e w4 ⟨v4, rfl, r4, b4⟩
      have HB4 : Hid (Below w.heap.size w w4) := HB3.out.trans (b4.mono HB3.out.size)
      have r4' : Res w4 w.heap.size v4 E2 := by
        rcases r4 with r | ⟨g, c, e, R⟩
        · exact .inl r
        · exact .inr ⟨g, c, e, row_base R HB3.out.size⟩
      have HR4' := hid r4'
      clear r4 r4' b4
      go_wp2_with fail
      go_ret2
      exact ⟨v4, rfl, HR4'.out, HB4.out⟩
end Go.Proofs.Ytmceanfgcehfeaa.Jo

/- Renumber and Join. -/
import Derived.Test.YtmceanfgcehfeabPu
import Derived.Test.YtmceanfgcehfeabOc
namespace Go.Proofs.Ytmceanfgcehfeab.Jo
open Go.ChangeShapes Go.WideShapes Go.ChangeAt Go.RowKit
open Go.Proofs.Ytmceanfgcehfeab.By
open Go.Proofs.Ytmceanfgcehfeab.Ob
open Go.Proofs.Ytmceanfgcehfeab.En
open Go.Proofs.Ytmceanfgcehfeab.De
open Go.Proofs.Ytmceanfgcehfeab.Pu
set_option linter.unusedVariables false

/-- Bytes that a call hands back: nil, where there are none; else a row of its own. -/
def Res (w : World) (base : Nat) (v : Value) (zs : List Int) : Prop := (zs = [] ∧ v = .slice none 0 0) ∨ ∃ g c, v = .slice (some ⟨g, 0, none⟩) zs.length c ∧ Row w base g zs.length c zs
theorem Res.later {w w' : World} {base : Nat} {v : Value} {zs : List Int} (h : Res w base v zs) (b : Below w.heap.size w w') : Res w' base v zs := by
  rcases h with h | ⟨g, c, e, R⟩
  · exact .inl h
  · exact .inr ⟨g, c, e, row_below R b⟩
theorem Res.bytes {w : World} {base : Nat} {v : Value} {zs : List Int} (h : Res w base v zs) (hb : ∀ y ∈ zs, 0 ≤ y ∧ y ≤ 255) : ∃ a c, v = .slice a zs.length c ∧ Bytes w a zs.length c zs := by
  rcases h with ⟨rfl, rfl⟩ | ⟨g, c, rfl, R⟩
  · exact ⟨none, 0, rfl, nil_bytes w⟩
  · exact ⟨_, c, rfl, R.bytes hb⟩
def encR (s : Int) (xs : List O) : Int × List Int := if encE s xs = 0 then (0, enc s xs) else (encE s xs, [])
def renR (zs : List Int) (s : Int) : Int × List Int := match dec zs with
  | none => (41, [])
  | some (_, xs) => encR s xs
def joinR (zs ys : List Int) : Int × List Int := match dec zs with
  | none => (41, [])
  | some (s, xs) => match dec ys with
    | none => (41, [])
    | some (_, us) => encR s (xs ++ us)
theorem encR_bytes (s : Int) (xs : List O) : ∀ y ∈ (encR s xs).2, 0 ≤ y ∧ y ≤ 255 := by
  unfold encR
  split
  · next h => exact enc_bytes s xs (all_may xs (chk_parts (encE_ok h).1).2.1)
  · simp
theorem renR_bytes (zs : List Int) (s : Int) : ∀ y ∈ (renR zs s).2, 0 ≤ y ∧ y ≤ 255 := by
  unfold renR
  split
  · simp
  · exact encR_bytes _ _
theorem joinR_bytes (zs ys : List Int) : ∀ y ∈ (joinR zs ys).2, 0 ≤ y ∧ y ≤ 255 := by
  unfold joinR
  split
  · simp
  · split
    · simp
    · exact encR_bytes _ _
theorem encR_len (s : Int) (xs : List O) : (encR s xs).2.length ≤ 1048576 := by
  unfold encR
  split
  · next h => rw [enc_len]; exact (chk_parts (encE_ok h).1).2.2.1
  · simp
theorem renR_len (zs : List Int) (s : Int) : (renR zs s).2.length ≤ 1048576 := by
  unfold renR
  split
  · simp
  · exact encR_len _ _
theorem joinR_len (zs ys : List Int) : (joinR zs ys).2.length ≤ 1048576 := by
  unfold joinR
  split
  · simp
  · split
    · simp
    · exact encR_len _ _
theorem row_base {w : World} {base base' g n c : Nat} {xs : List Int} (h : Row w base g n c xs) (hb : base' ≤ base) : Row w base' g n c xs := by
  refine ⟨h.1, ?_⟩
  rcases h.2 with h | ⟨g', cap', cur, e, hb', r⟩
  · exact .inl h
  · exact .inr ⟨g', cap', cur, e, by omega, r⟩
theorem orow_base {w : World} {base base' n : Nat} {v : Value} {xs : List Value} (h : w.ownsRow base 60 3 v n xs) (hb : base' ≤ base) : w.ownsRow base' 60 3 v n xs := by
  refine ⟨h.1, ?_⟩
  rcases h.2 with h | ⟨g', cap', cur, e, hb', r⟩
  · exact .inl h
  · exact .inr ⟨g', cap', cur, e, by omega, r⟩
theorem encode_res (s : Int) (a : Option Addr) (len cap : Nat) (xs : List O) (w : World) (H : Ops w a len cap xs) (hl : len ≤ 140737488351232) (hs : 0 ≤ s ∧ s ≤ 18446744073709551615) :
    Calls Try.prog 20 #[.int .u64 s, .slice a len cap] w fun e w' => ∃ v, e = .returned (.tuple #[v, .int .i64 (encR s xs).1]) ∧ Res w' w.heap.size v (encR s xs).2 ∧ Below w.heap.size w w' := by
  unfold encR
  by_cases h : encE s xs = 0
  · rw [if_pos h]
    refine (encode_ok s a len cap xs w H hs h).mono ?_
    rintro e w' ⟨g, c, rfl, R, b⟩
    rw [← enc_len s xs] at R ⊢
    exact ⟨_, rfl, .inr ⟨g, c, rfl, R⟩, b⟩
  · rw [if_neg h]
    refine (encode_no s a len cap xs w H hl hs h).mono ?_
    rintro e w' ⟨rfl, b⟩
    exact ⟨_, rfl, .inl ⟨rfl, rfl⟩, b⟩
set_option maxHeartbeats 1000000 in
theorem renumber_any (a : Option Addr) (len cap : Nat) (zs : List Int) (s : Int) (w : World) (H : Bytes w a len cap zs) (hcap : len ≤ 140737488351232) (hs : 0 ≤ s ∧ s ≤ 18446744073709551615) :
    Calls Try.prog 24 #[.slice a len cap, .int .u64 s] w fun e w' => ∃ v, e = .returned (.tuple #[v, .int .i64 (renR zs s).1]) ∧ Res w' w.heap.size v (renR zs s).2 ∧ Below w.heap.size w w' := by
  cases hd : dec zs with
  | none =>
    have HR : Hid (renR zs s = (41, [])) := by show _ = _; unfold renR; rw [hd]
    have HD := hid (decode_no a len cap zs w H hcap hd)
    clear hd
    rw [HR.out]
    go_enter Try.func24, Try.ntmps24
    go_wp2_with fail
    refine HD.out.mono ?_
    rintro e w1 ⟨rfl, b1⟩
    go_wp2_with fail
    go_ret2
    exact ⟨_, rfl, .inl ⟨rfl, rfl⟩, b1⟩
  | some q =>
    obtain ⟨s0, xs⟩ := q
    obtain ⟨_, _, _, q4, q5⟩ := enc_dec zs H.2.2.2.1 s0 xs hd
    have HR : Hid (renR zs s = encR s xs) := by show _ = _; unfold renR; rw [hd]
    have HD := hid (decode_ok a len cap zs w H s0 xs hd)
    have HQ4 := hid q4
    clear hd q4
    rw [HR.out]
    generalize hE : encR s xs = E at *
    obtain ⟨E1, E2⟩ := E
    go_enter Try.func24, Try.ntmps24
    go_wp2_with fail
    refine HD.out.mono ?_
    rintro e w1 ⟨v, rfl, O1, b1⟩
    obtain ⟨a1, c1, hv, HO⟩ := row_ops O1 (fun x hx => may_ok (HQ4.out x hx))
    subst hv
    have HHO := hid HO
    have HB1 := hid b1
    clear HO O1 b1
    go_wp2_with fail
    refine (encode_res s a1 xs.length c1 xs w1 HHO.out (by omega) hs).mono ?_
    rw [hE]
    rintro e w2 ⟨v2, rfl, r2, b2⟩
    have HB2 : Hid (Below w.heap.size w w2) := HB1.out.trans (b2.mono HB1.out.size)
    have r2' : Res w2 w.heap.size v2 E2 := by
      rcases r2 with r | ⟨g, c, e, R⟩
      · exact .inl r
      · exact .inr ⟨g, c, e, row_base R HB1.out.size⟩
    have HR2 := hid r2'
    clear r2 r2' b2
    go_wp2_with fail
    go_ret2
    exact ⟨v2, rfl, HR2.out, HB2.out⟩
/-- Operations appended to a row of the call's own. -/
theorem app_ops {w : World} {ops : Array Oper} {rest : List Oper} {o : Oper} {act : Act} {Q : Exit → Act → World → Prop} (hgd : o.guard = none) (s x : Operand)
    (ho : o.op = .call { callee := .builtin .append, args := #[s, x], argTypes := #[26, 26] })
    (base : Nat) (v : Value) (n : Nat) (xs : List O) (hs : act.eval s = v) (hown : w.ownsRow base 60 3 v n (ocs xs))
    (a : Option Addr) (m c : Nat) (ys : List O) (hx : act.eval x = .slice a m c) (H : Ops w a m c ys) (hnm : n + m ≤ 1000000) (hbase : base ≤ w.heap.size)
    (h : ∀ v' w', w'.ownsRow base 60 3 v' (n + m) (ocs (xs ++ ys)) → w.grownBy w' v.ownBlock → wpList Try.prog ops Q rest (act.put o.dst v') w') : wpList Try.prog ops Q (o :: rest) act w := by
  obtain ⟨i0, hi, hz0, hz1, hz2⟩ := info_parts infoOp
  cases a with
  | none =>
    obtain ⟨rfl, rfl⟩ := H.2.2.1 rfl
    have hy : ys = [] := List.eq_nil_of_length_eq_zero H.1
    subst hy
    refine wpList_append_own_none hgd s x 26 ho base 60 i0 3 Try.underlying26 hi v n (ocs xs) hs hown hx ?_
    exact h v w (by simpa using hown) (World.grownBy.refl _ _)
  | some ad =>
    refine wpList_append_own w hgd s x 26 ho base 60 i0 (.agg #[.int .i64 0, .string ⟨#[]⟩, .string ⟨#[]⟩]) 3 40 Try.underlying26 hi hz0 hz1 hz2 rfl (by decide) v n (ocs xs) hs hown ad m c (ocs ys) hx (by rw [ocs_len, H.1]) H.cells (ocs_one ys) (by unfold maxLen; omega) (by omega) hbase ?_
    intro v' w' h1 h2 _
    exact h v' w' (by rw [ocs_append]; exact h1) h2
set_option maxHeartbeats 2000000 in
theorem join_any (a : Option Addr) (len cap : Nat) (zs : List Int) (b : Option Addr) (lenb capb : Nat) (ys : List Int) (w : World) (H : Bytes w a len cap zs) (hcap : len ≤ 140737488351232) (Hy : Bytes w b lenb capb ys) (hcapb : lenb ≤ 140737488351232) :
    Calls Try.prog 25 #[.slice a len cap, .slice b lenb capb] w fun e w' => ∃ v, e = .returned (.tuple #[v, .int .i64 (joinR zs ys).1]) ∧ Res w' w.heap.size v (joinR zs ys).2 ∧ Below w.heap.size w w' := by
  have HY := hid Hy
  cases hd : dec zs with
  | none =>
    have HR : Hid (joinR zs ys = (41, [])) := by show _ = _; unfold joinR; rw [hd]
    have HD := hid (decode_no a len cap zs w H hcap hd)
    clear hd
    rw [HR.out]
    go_enter Try.func25, Try.ntmps25
    go_wp2_with fail
    refine HD.out.mono ?_
    rintro e w1 ⟨rfl, b1⟩
    go_wp2_with fail
    go_ret2
    exact ⟨_, rfl, .inl ⟨rfl, rfl⟩, b1⟩
  | some q =>
    obtain ⟨s0, xs⟩ := q
    obtain ⟨_, _, hs0, q4, q5⟩ := enc_dec zs H.2.2.2.1 s0 xs hd
    have HD := hid (decode_ok a len cap zs w H s0 xs hd)
    have HQ4 := hid q4
    cases hd2 : dec ys with
    | none =>
      have HR : Hid (joinR zs ys = (41, [])) := by show _ = _; unfold joinR; rw [hd]; simp only; rw [hd2]
      have HD2 : Hid (∀ W, Below w.heap.size w W → _) := fun W hW => decode_no b lenb capb ys W (bytes_kept HY.out hW) hcapb hd2
      clear hd2 hd q4
      rw [HR.out]
      go_enter Try.func25, Try.ntmps25
      go_wp2_with fail
      refine HD.out.mono ?_
      rintro e w1 ⟨v1, rfl, O1, b1⟩
      have HB1 := hid b1
      clear b1
      go_wp2_with fail
      refine (HD2.out w1 HB1.out).mono ?_
      rintro e w2 ⟨rfl, b2⟩
      go_wp2_with fail
      go_ret2
      exact ⟨_, rfl, .inl ⟨rfl, rfl⟩, HB1.out.trans (b2.mono HB1.out.size)⟩
    | some q2 =>
      obtain ⟨s2, us⟩ := q2
      obtain ⟨_, _, _, r4, r5⟩ := enc_dec ys HY.out.2.2.2.1 s2 us hd2
      have HR : Hid (joinR zs ys = encR s0 (xs ++ us)) := by show _ = _; unfold joinR; rw [hd]; simp only; rw [hd2]
      have HD2 : Hid (∀ W, Below w.heap.size w W → _) := fun W hW => decode_ok b lenb capb ys W (bytes_kept HY.out hW) s2 us hd2
      have HR4 := hid r4
      have HOK : Hid (∀ x ∈ xs ++ us, x.ok) := fun x hx => by
        rcases List.mem_append.1 hx with h | h
        · exact may_ok (HQ4.out x h)
        · exact may_ok (HR4.out x h)
      clear hd2 hd q4 r4
      rw [HR.out]
      generalize hE : encR s0 (xs ++ us) = E at *
      obtain ⟨E1, E2⟩ := E
      go_enter Try.func25, Try.ntmps25
      go_wp2_with fail
      refine HD.out.mono ?_
      rintro e w1 ⟨v1, rfl, O1, b1⟩
      have HB1 := hid b1
      have HO1 := hid O1
      have z1 := b1.size
      clear b1 O1
      go_wp2_with fail
      refine (HD2.out w1 HB1.out).mono ?_
      rintro e w2 ⟨v2, rfl, O2, b2⟩
      obtain ⟨a2, c2, hv2, HU⟩ := row_ops O2 (fun x hx => may_ok (HR4.out x hx))
      subst hv2
      have HB2 : Hid (Below w.heap.size w w2) := HB1.out.trans (b2.mono HB1.out.size)
      have z2 := b2.size
      have HO1' := hid (HO1.out.kept (It.grown_of_below b2) (by cases hh : v1.ownBlock <;> simp))
      have HHU := hid HU
      clear b2 O2 HU HO1
      go_wp2_with (at_builtin; refine app_ops rfl _ _ rfl w.heap.size v1 xs.length xs rfl HO1'.out a2 us.length c2 us rfl HHU.out (by omega) (by omega) ?_)
      intro v3 w3 O3 g3
      have HB3 : Hid (Below w.heap.size w w3) := HB2.out.grown g3 (by omega) (fun j hj => (World.ownsRow.lt HO1'.out j hj).1)
      rw [← List.length_append] at O3
      obtain ⟨a3, c3, hv3, HJ⟩ := row_ops O3 HOK.out
      subst hv3
      rw [List.length_append] at HJ ⊢
      have HHJ := hid HJ
      clear O3 g3 HJ
      go_wp2_with fail
      refine (encode_res s0 a3 (xs.length + us.length) c3 (xs ++ us) w3 HHJ.out (by omega) hs0).mono ?_
      rw [hE]
      rintro e w4 ⟨v4, rfl, r4, b4⟩
      have HB4 : Hid (Below w.heap.size w w4) := HB3.out.trans (b4.mono HB3.out.size)
      have r4' : Res w4 w.heap.size v4 E2 := by
        rcases r4 with r | ⟨g, c, e, R⟩
        · exact .inl r
        · exact .inr ⟨g, c, e, row_base R HB3.out.size⟩
      have HR4' := hid r4'
      clear r4 r4' b4
      go_wp2_with fail
      go_ret2
      exact ⟨v4, rfl, HR4'.out, HB4.out⟩
end Go.Proofs.Ytmceanfgcehfeab.Jo

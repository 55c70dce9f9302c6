/- The law's lent, same, kept, names; its mark. -/
import Derived.Test.YtfmpdalabgfigaaDoorRw
import Derived.Test.YtfmpdalabgfigaaDoorRf
import Derived.Laws.StructEq
namespace Go.Proofs.YtfmpdalabgfigaaDoor.Ln
open Go.ChangeShapes Go.WideShapes Go.ChangeAt Go.RowKit Go.Shelf
open Go.Proofs.YtfmpdalabgfigaaDoor.Lx
open Go.Proofs.YtfmpdalabgfigaaDoor.Tm
open Go.Proofs.YtfmpdalabgfigaaDoor.Mm
open Go.Proofs.YtfmpdalabgfigaaDoor.Rw
open Go.Proofs.YtfmpdalabgfigaaDoor.Rf
set_option linter.unusedVariables false
set_option linter.unusedSimpArgs false

/-- The law's mark. -/
def mark : T := ⟨⟨#[109, 97, 114, 107]⟩, ⟨#[110, 97, 114, 107]⟩, 77⟩
theorem mark_ok : mark.ok := ⟨⟨by decide, by decide⟩, by decide, by decide⟩
/-- It lies where the variable lies. -/
def Mk (w : World) : Prop := At3 w 0 0 mark
theorem below_at {n : Nat} {W W' : World} (h : Below n W W') (e : n = W.heap.size) : Below W.heap.size W W' := by subst e; exact h
theorem wp_append_run {P : Program} {w w' : World} {o : Oper} {a : Act} {K : Act → World → Prop} {Q : Exit → Act → World → Prop} (s x : Operand) (t tx : TypeId) (hop : o.op = Op.call { callee := Callee.builtin Builtin.append, args := #[s, x], argTypes := #[t, tx] })
    (u v v' : Value) (hs : a.eval s = u) (hx : a.eval x = v) (hrun : (Builtin.append_ #[t, tx] o.type #[u, v]).run P w = .ok v' w') (hK : K (a.put o.dst v') w') : o.wp P a w K Q := by
  unfold Oper.wp
  simp [execOp, hop, resolve, invoke, builtin, hs, hx, hrun, Result.andThen]
  exact hK
theorem app_run (w : World) (base : Nat) (v : Value) (n : Nat) (xs : List T) (hown : w.ownsRow base 27 3 v n (tcs xs)) (a : Option Addr) (m c : Nat) (ys : List T) (H : Tbs w a m c ys) (hnm : (n + m) * 40 ≤ 140737488355328) (hbase : base ≤ w.heap.size) :
    ∃ v' w', (Builtin.append_ #[22, 22] 22 #[v, .slice a m c]).run Tryd.prog w = .ok v' w' ∧ w'.ownsRow base 27 3 v' (n + m) (tcs (xs ++ ys)) ∧ w.grownBy w' v.ownBlock := by
  obtain ⟨i0, hi, hz0, hz1, hz2⟩ := info_parts infoT
  cases a with
  | none =>
    obtain ⟨rfl, rfl⟩ := H.2.2.1 rfl
    have hy : ys = [] := List.eq_nil_of_length_eq_zero H.1
    subst hy
    exact ⟨v, w, run_append_owned_none (P := Tryd.prog) (w := w) base 22 22 27 i0 3 Tryd.underlying22 hi v n _ hown, by simpa using hown, World.grownBy.refl _ _⟩
  | some ad =>
    obtain ⟨v5, W5, r5, o5, g5, _⟩ := run_append_own (P := Tryd.prog) w base 22 22 27 i0 _ 3 40 Tryd.underlying22 hi hz0 hz1 hz2 rfl (by decide) v n (tcs xs) hown ad m c (tcs ys) (by rw [tcs_len, H.1]) (tbs_cells H) (tcs_one ys) (by unfold maxLen; omega) (by omega) hbase
    exact ⟨v5, W5, r5, by rw [tcs_append]; exact o5, g5⟩
theorem app_one (w : World) (base : Nat) (u : Value) (n : Nat) (xs : List T) (hown : w.ownsRow base 27 3 u n (tcs xs)) (gz : Nat) (x : T) (KZ : Bt w gz x) (hnm : (n + 1) * 40 ≤ 140737488355328) (hbase : base ≤ w.heap.size) :
    ∃ v' w', (Builtin.append_ #[22, 22] 22 #[u, .slice (some ⟨gz, 0, none⟩) 1 1]).run Tryd.prog w = .ok v' w' ∧ w'.ownsRow base 27 3 v' (n + 1) (tcs (xs ++ [x])) ∧ w.grownBy w' u.ownBlock := by
  obtain ⟨i0, hi, hz0, hz1, hz2⟩ := info_parts infoT
  have k0 := KZ.c0
  have k1 := KZ.c1
  have k2 := KZ.c2
  obtain ⟨v5, W5, r5, o5, g5, _⟩ := run_append_own (P := Tryd.prog) w base 22 22 27 i0 _ 3 40 Tryd.underlying22 hi hz0 hz1 hz2 rfl (by decide) u n (tcs xs) hown ⟨gz, 0, none⟩ 1 1 [.string x.b, .string x.e, .int .u64 x.s] rfl (by
    intro j u hj
    match j, hj with
    | 0, hj => simp at hj; subst hj; simpa [Addr.add] using k0
    | 1, hj => simp at hj; subst hj; simpa [Addr.add] using k1
    | 2, hj => simp at hj; subst hj; simpa [Addr.add] using k2) (by intro u hu; simp at hu; rcases hu with rfl | rfl | rfl <;> rfl) (by unfold maxLen; omega) (by omega) hbase
  exact ⟨v5, W5, r5, by rw [tcs_append]; exact o5, g5⟩
set_option maxRecDepth 100000 in
set_option maxHeartbeats 4000000 in
theorem lent_any (a : Option Addr) (len cap : Nat) (xs : List T) (w : World) (M : Hid (Mk w)) (H : Tbs w a len cap xs) (hlen : (len + 1) * 40 ≤ 140737488355328) :
    Calls Tryd.prog 6 #[.slice a len cap] w fun e w' => ∃ g c : Nat, e = .returned (.slice (some ⟨g, 0, none⟩) len c) ∧ OwnT w' w.heap.size (.slice (some ⟨g, 0, none⟩) (len + 1) c) (xs ++ [mark]) ∧ Below w.heap.size w w' := by
  have HL : Hid (xs.length = len) := H.1
  replace H := hid H
  go_enter Tryd.func6, Tryd.ntmps6
  go_wp2_with fail
  refine wp_region_any (by kernel_rfl) ?_
  change wpAny _ _ _ _ _ _ _ (World.drew _)
  obtain ⟨V, hV⟩ : ∃ V, V = World.drew w := ⟨_, rfl⟩
  have dB : Below w.heap.size w V := by rw [hV]; exact (Below.refl _ _).drew
  rw [← hV]
  have KB : Hid (At3 V 0 0 mark) := M.out.later dB
  have HO := hid (H.out.later dB)
  have BV : Hid (Below w.heap.size w V) := dB
  obtain ⟨base, hbs⟩ : ∃ base, base = V.heap.size := ⟨_, rfl⟩
  have HBS := hid hbs
  have BW : Hid (Below base V V) := Below.refl _ _
  clear hV dB hbs
  refine wpAny_take (i := 1) (v := ?v1) rfl (by kernel_rfl) (by kernel_rfl) (by kernel_rfl) (fun _ _ _ h => h) (Or.inl ⟨by rfl, ?h1⟩) ?_
  case h1 => (intro w; go_simp; try (with_reducible rfl))
  go_simp
  refine wpAny_take (i := 6) (v := ?v2) rfl (by kernel_rfl) (by kernel_rfl) (by kernel_rfl) (fun _ _ _ h => h) (Or.inl ⟨by rfl, ?h2⟩) ?_
  case h2 => (intro w; go_simp; try (with_reducible rfl))
  go_simp
  refine wpAny_take (i := 7) (v := ?v3) rfl (by kernel_rfl) (by kernel_rfl) (by kernel_rfl) (fun _ _ _ h => h) (Or.inl ⟨by rfl, ?h3⟩) ?_
  case h3 => (intro w; go_simp; try (with_reducible rfl))
  go_simp
  refine wpAny_ready (rs := [0, 3]) (by kernel_rfl) (by simp) ?_
  refine AllReady.cons rfl (fun K hK => ?_) ?_
  · go_simp
    refine hK _ _ ?_
    clear hK K
    have OWN : Hid ((World.alloc V (.cells #[] 27)).ownsRow base 27 3 (.slice (some ⟨(V).heap.size, 0, none⟩) 0 0) 0 (tcs [])) := World.ownsRow_made V #[] 0 (by have := BW.out.size; have := HBS.out; omega) (by unfold maxLen; omega) rfl
    have BWn : Hid (Below base V (World.alloc V (.cells #[] 27))) := BW.out.trans ((box_below V (.cells #[] 27)).mono (by have := BW.out.size; have := HBS.out; omega))
    clear BW
    have BW := BWn
    clear BWn
    obtain ⟨gA, hgA⟩ : ∃ gA, gA = V.heap.size := ⟨_, rfl⟩
    rw [← hgA] at OWN  ⊢
    have HGA := hid hgA
    clear hgA HGA
    generalize World.alloc V (.cells #[] 27) = w1 at *
    refine wpAny_ready (rs := [2, 3]) (by kernel_rfl) (by simp) ?_
    refine AllReady.cons rfl (fun K hK => ?_) ?_
    · obtain ⟨v13, w2, r13, o13, g13⟩ := app_run w1 base _ 0 [] OWN.out a len cap xs (HO.out.later (below_at BW.out HBS.out)) (by omega) (by have := BW.out.size; have := HBS.out; omega)
      rw [if_pos (by rfl)]
      refine wp_append_run _ _ 22 22 rfl _ _ _ (by rfl) (by rfl) r13 ?_
      refine hK _ _ ?_
      clear hK K
      go_simp
      have BWn : Hid (Below base V w2) := BW.out.grown g13 (by have := BW.out.size; have := HBS.out; omega) (fun j hj => (World.ownsRow.lt OWN.out j hj).1)
      have ON : Hid (w2.ownsRow base 27 3 v13 len (tcs xs)) := by rw [Nat.zero_add, List.nil_append] at o13; exact o13
      clear BW OWN o13 g13 r13
      have BW := BWn
      have OWN := ON
      clear BWn ON
      refine wpAny_ready (rs := [3]) (by kernel_rfl) (by simp) ?_
      refine AllReady.cons rfl (fun K hK => ?_) ?_
      · obtain ⟨p0, p1, p2⟩ := KB.out.later (below_at BW.out HBS.out)
        go_simp
        refine hK _ _ ?_
        clear hK K p0 p1 p2
        refine wpAny_ready (rs := [4]) (by kernel_rfl) (by simp) ?_
        refine AllReady.cons rfl (fun K hK => ?_) ?_
        · go_simp
          refine hK _ _ ?_
          clear hK K
          have KZ : Hid (Bt (World.alloc w2 (.cells #[.string mark.b, .string mark.e, .int .u64 mark.s] 27)) w2.heap.size mark) := new_at _ _
          have BWn : Hid (Below base V (World.alloc w2 (.cells #[.string mark.b, .string mark.e, .int .u64 mark.s] 27))) := BW.out.trans ((box_below w2 (.cells #[.string mark.b, .string mark.e, .int .u64 mark.s] 27)).mono (by have := BW.out.size; have := HBS.out; omega))
          have ON := hid (OWN.out.alloc (.cells #[.string mark.b, .string mark.e, .int .u64 mark.s] 27))
          clear OWN
          have OWN := ON
          clear ON
          clear BW
          have BW := BWn
          clear BWn
          obtain ⟨gz, hgz⟩ : ∃ gz, gz = w2.heap.size := ⟨_, rfl⟩
          rw [← hgz] at KZ  ⊢
          clear hgz
          generalize World.alloc w2 (.cells #[.string mark.b, .string mark.e, .int .u64 mark.s] 27) = w3 at *
          refine wpAny_ready (rs := [5]) (by kernel_rfl) (by simp) ?_
          refine AllReady.cons rfl (fun K hK => ?_) ?_
          · obtain ⟨v16, w4, r16, o16, g16⟩ := app_one w3 base _ len xs OWN.out gz mark KZ.out (by omega) (by have := BW.out.size; have := HBS.out; omega)
            rw [if_pos (by rfl)]
            refine wp_append_run _ _ 22 22 rfl _ _ _ (by rfl) (by rfl) r16 ?_
            refine hK _ _ ?_
            clear hK K
            go_simp
            have BWn : Hid (Below base V w4) := BW.out.grown g16 (by have := BW.out.size; have := HBS.out; omega) (fun j hj => (World.ownsRow.lt OWN.out j hj).1)
            have ON := hid o16
            clear BW OWN o16 g16 r16
            obtain ⟨g6, c6, hv6, hc6⟩ : ∃ g c, v16 = .slice (some ⟨g, 0, none⟩) (len + 1) c ∧ len + 1 ≤ c := by
              rcases ON.out.2 with ⟨_, h'⟩ | ⟨g, c, _, h, _, _, hn, _⟩
              · omega
              · exact ⟨g, c, h, hn⟩
            subst hv6
            have hs1 : (0 : Int) ≤ (len : Int) := by omega
            have hs2 : (len : Int) ≤ (c6 : Int) := by omega
            refine wpAny_ready (rs := [8]) (by kernel_rfl) (by simp) ?_
            refine AllReady.cons rfl (fun K hK => ?_) ?_
            · go_simp
              refine hK _ _ ?_
              clear hK K
              go_simp
              refine wpAny_take (i := 9) (v := ?v4) rfl (by kernel_rfl) (by kernel_rfl) (by kernel_rfl) (fun _ _ _ h => h) (Or.inl ⟨by rfl, ?h4⟩) ?_
              case h4 => (intro w; go_simp; try (with_reducible rfl))
              go_simp
              refine wpAny_done (by kernel_rfl) ?_ _
              have BF : Hid (Below w.heap.size w w4) := BV.out.trans (BWn.out.mono (by rw [HBS.out]; exact BV.out.size))
              go_wp2_with fail
              go_ret
              exact ⟨g6, c6, rfl, own_base (show OwnT _ _ _ _ by unfold OwnT; rw [List.length_append, HL.out]; exact ON.out) (by rw [HBS.out]; exact BV.out.size), BF.out⟩
            exact AllReady.nil
          exact AllReady.nil
        exact AllReady.nil
      exact AllReady.nil
    refine AllReady.cons rfl (fun K hK => ?_) ?_
    · obtain ⟨p0, p1, p2⟩ := KB.out.later (below_at BW.out HBS.out)
      go_simp
      refine hK _ _ ?_
      clear hK K p0 p1 p2
      refine wpAny_ready (rs := [2, 4]) (by kernel_rfl) (by simp) ?_
      refine AllReady.cons rfl (fun K hK => ?_) ?_
      · obtain ⟨v13, w2, r13, o13, g13⟩ := app_run w1 base _ 0 [] OWN.out a len cap xs (HO.out.later (below_at BW.out HBS.out)) (by omega) (by have := BW.out.size; have := HBS.out; omega)
        rw [if_pos (by rfl)]
        refine wp_append_run _ _ 22 22 rfl _ _ _ (by rfl) (by rfl) r13 ?_
        refine hK _ _ ?_
        clear hK K
        go_simp
        have BWn : Hid (Below base V w2) := BW.out.grown g13 (by have := BW.out.size; have := HBS.out; omega) (fun j hj => (World.ownsRow.lt OWN.out j hj).1)
        have ON : Hid (w2.ownsRow base 27 3 v13 len (tcs xs)) := by rw [Nat.zero_add, List.nil_append] at o13; exact o13
        clear BW OWN o13 g13 r13
        have BW := BWn
        have OWN := ON
        clear BWn ON
        refine wpAny_ready (rs := [4]) (by kernel_rfl) (by simp) ?_
        refine AllReady.cons rfl (fun K hK => ?_) ?_
        · go_simp
          refine hK _ _ ?_
          clear hK K
          have KZ : Hid (Bt (World.alloc w2 (.cells #[.string mark.b, .string mark.e, .int .u64 mark.s] 27)) w2.heap.size mark) := new_at _ _
          have BWn : Hid (Below base V (World.alloc w2 (.cells #[.string mark.b, .string mark.e, .int .u64 mark.s] 27))) := BW.out.trans ((box_below w2 (.cells #[.string mark.b, .string mark.e, .int .u64 mark.s] 27)).mono (by have := BW.out.size; have := HBS.out; omega))
          have ON := hid (OWN.out.alloc (.cells #[.string mark.b, .string mark.e, .int .u64 mark.s] 27))
          clear OWN
          have OWN := ON
          clear ON
          clear BW
          have BW := BWn
          clear BWn
          obtain ⟨gz, hgz⟩ : ∃ gz, gz = w2.heap.size := ⟨_, rfl⟩
          rw [← hgz] at KZ  ⊢
          clear hgz
          generalize World.alloc w2 (.cells #[.string mark.b, .string mark.e, .int .u64 mark.s] 27) = w3 at *
          refine wpAny_ready (rs := [5]) (by kernel_rfl) (by simp) ?_
          refine AllReady.cons rfl (fun K hK => ?_) ?_
          · obtain ⟨v16, w4, r16, o16, g16⟩ := app_one w3 base _ len xs OWN.out gz mark KZ.out (by omega) (by have := BW.out.size; have := HBS.out; omega)
            rw [if_pos (by rfl)]
            refine wp_append_run _ _ 22 22 rfl _ _ _ (by rfl) (by rfl) r16 ?_
            refine hK _ _ ?_
            clear hK K
            go_simp
            have BWn : Hid (Below base V w4) := BW.out.grown g16 (by have := BW.out.size; have := HBS.out; omega) (fun j hj => (World.ownsRow.lt OWN.out j hj).1)
            have ON := hid o16
            clear BW OWN o16 g16 r16
            obtain ⟨g6, c6, hv6, hc6⟩ : ∃ g c, v16 = .slice (some ⟨g, 0, none⟩) (len + 1) c ∧ len + 1 ≤ c := by
              rcases ON.out.2 with ⟨_, h'⟩ | ⟨g, c, _, h, _, _, hn, _⟩
              · omega
              · exact ⟨g, c, h, hn⟩
            subst hv6
            have hs1 : (0 : Int) ≤ (len : Int) := by omega
            have hs2 : (len : Int) ≤ (c6 : Int) := by omega
            refine wpAny_ready (rs := [8]) (by kernel_rfl) (by simp) ?_
            refine AllReady.cons rfl (fun K hK => ?_) ?_
            · go_simp
              refine hK _ _ ?_
              clear hK K
              go_simp
              refine wpAny_take (i := 9) (v := ?v5) rfl (by kernel_rfl) (by kernel_rfl) (by kernel_rfl) (fun _ _ _ h => h) (Or.inl ⟨by rfl, ?h5⟩) ?_
              case h5 => (intro w; go_simp; try (with_reducible rfl))
              go_simp
              refine wpAny_done (by kernel_rfl) ?_ _
              have BF : Hid (Below w.heap.size w w4) := BV.out.trans (BWn.out.mono (by rw [HBS.out]; exact BV.out.size))
              go_wp2_with fail
              go_ret
              exact ⟨g6, c6, rfl, own_base (show OwnT _ _ _ _ by unfold OwnT; rw [List.length_append, HL.out]; exact ON.out) (by rw [HBS.out]; exact BV.out.size), BF.out⟩
            exact AllReady.nil
          exact AllReady.nil
        exact AllReady.nil
      refine AllReady.cons rfl (fun K hK => ?_) ?_
      · go_simp
        refine hK _ _ ?_
        clear hK K
        have KZ : Hid (Bt (World.alloc w1 (.cells #[.string mark.b, .string mark.e, .int .u64 mark.s] 27)) w1.heap.size mark) := new_at _ _
        have BWn : Hid (Below base V (World.alloc w1 (.cells #[.string mark.b, .string mark.e, .int .u64 mark.s] 27))) := BW.out.trans ((box_below w1 (.cells #[.string mark.b, .string mark.e, .int .u64 mark.s] 27)).mono (by have := BW.out.size; have := HBS.out; omega))
        have ON := hid (OWN.out.alloc (.cells #[.string mark.b, .string mark.e, .int .u64 mark.s] 27))
        have NE : Hid (w1.heap.size ≠ gA) := by have := (World.ownsRow.lt OWN.out gA rfl).2; show _ ≠ _; omega
        clear OWN
        have OWN := ON
        clear ON
        clear BW
        have BW := BWn
        clear BWn
        obtain ⟨gz, hgz⟩ : ∃ gz, gz = w1.heap.size := ⟨_, rfl⟩
        rw [← hgz] at KZ NE ⊢
        clear hgz
        generalize World.alloc w1 (.cells #[.string mark.b, .string mark.e, .int .u64 mark.s] 27) = w2 at *
        refine wpAny_ready (rs := [2]) (by kernel_rfl) (by simp) ?_
        refine AllReady.cons rfl (fun K hK => ?_) ?_
        · obtain ⟨v13, w3, r13, o13, g13⟩ := app_run w2 base _ 0 [] OWN.out a len cap xs (HO.out.later (below_at BW.out HBS.out)) (by omega) (by have := BW.out.size; have := HBS.out; omega)
          rw [if_pos (by rfl)]
          refine wp_append_run _ _ 22 22 rfl _ _ _ (by rfl) (by rfl) r13 ?_
          refine hK _ _ ?_
          clear hK K
          go_simp
          have BWn : Hid (Below base V w3) := BW.out.grown g13 (by have := BW.out.size; have := HBS.out; omega) (fun j hj => (World.ownsRow.lt OWN.out j hj).1)
          have ON : Hid (w3.ownsRow base 27 3 v13 len (tcs xs)) := by rw [Nat.zero_add, List.nil_append] at o13; exact o13
          have KZn : Hid (Bt w3 gz mark) := Bt.kept KZ.out g13 (by simp [Value.ownBlock]; exact NE.out)
          clear KZ NE
          have KZ := KZn
          clear KZn
          clear BW OWN o13 g13 r13
          have BW := BWn
          have OWN := ON
          clear BWn ON
          refine wpAny_ready (rs := [5]) (by kernel_rfl) (by simp) ?_
          refine AllReady.cons rfl (fun K hK => ?_) ?_
          · obtain ⟨v16, w4, r16, o16, g16⟩ := app_one w3 base _ len xs OWN.out gz mark KZ.out (by omega) (by have := BW.out.size; have := HBS.out; omega)
            rw [if_pos (by rfl)]
            refine wp_append_run _ _ 22 22 rfl _ _ _ (by rfl) (by rfl) r16 ?_
            refine hK _ _ ?_
            clear hK K
            go_simp
            have BWn : Hid (Below base V w4) := BW.out.grown g16 (by have := BW.out.size; have := HBS.out; omega) (fun j hj => (World.ownsRow.lt OWN.out j hj).1)
            have ON := hid o16
            clear BW OWN o16 g16 r16
            obtain ⟨g6, c6, hv6, hc6⟩ : ∃ g c, v16 = .slice (some ⟨g, 0, none⟩) (len + 1) c ∧ len + 1 ≤ c := by
              rcases ON.out.2 with ⟨_, h'⟩ | ⟨g, c, _, h, _, _, hn, _⟩
              · omega
              · exact ⟨g, c, h, hn⟩
            subst hv6
            have hs1 : (0 : Int) ≤ (len : Int) := by omega
            have hs2 : (len : Int) ≤ (c6 : Int) := by omega
            refine wpAny_ready (rs := [8]) (by kernel_rfl) (by simp) ?_
            refine AllReady.cons rfl (fun K hK => ?_) ?_
            · go_simp
              refine hK _ _ ?_
              clear hK K
              go_simp
              refine wpAny_take (i := 9) (v := ?v6) rfl (by kernel_rfl) (by kernel_rfl) (by kernel_rfl) (fun _ _ _ h => h) (Or.inl ⟨by rfl, ?h6⟩) ?_
              case h6 => (intro w; go_simp; try (with_reducible rfl))
              go_simp
              refine wpAny_done (by kernel_rfl) ?_ _
              have BF : Hid (Below w.heap.size w w4) := BV.out.trans (BWn.out.mono (by rw [HBS.out]; exact BV.out.size))
              go_wp2_with fail
              go_ret
              exact ⟨g6, c6, rfl, own_base (show OwnT _ _ _ _ by unfold OwnT; rw [List.length_append, HL.out]; exact ON.out) (by rw [HBS.out]; exact BV.out.size), BF.out⟩
            exact AllReady.nil
          exact AllReady.nil
        exact AllReady.nil
      exact AllReady.nil
    exact AllReady.nil
  refine AllReady.cons rfl (fun K hK => ?_) ?_
  · obtain ⟨p0, p1, p2⟩ := KB.out.later (below_at BW.out HBS.out)
    go_simp
    refine hK _ _ ?_
    clear hK K p0 p1 p2
    refine wpAny_ready (rs := [0, 4]) (by kernel_rfl) (by simp) ?_
    refine AllReady.cons rfl (fun K hK => ?_) ?_
    · go_simp
      refine hK _ _ ?_
      clear hK K
      have OWN : Hid ((World.alloc V (.cells #[] 27)).ownsRow base 27 3 (.slice (some ⟨(V).heap.size, 0, none⟩) 0 0) 0 (tcs [])) := World.ownsRow_made V #[] 0 (by have := BW.out.size; have := HBS.out; omega) (by unfold maxLen; omega) rfl
      have BWn : Hid (Below base V (World.alloc V (.cells #[] 27))) := BW.out.trans ((box_below V (.cells #[] 27)).mono (by have := BW.out.size; have := HBS.out; omega))
      clear BW
      have BW := BWn
      clear BWn
      obtain ⟨gA, hgA⟩ : ∃ gA, gA = V.heap.size := ⟨_, rfl⟩
      rw [← hgA] at OWN  ⊢
      have HGA := hid hgA
      clear hgA HGA
      generalize World.alloc V (.cells #[] 27) = w1 at *
      refine wpAny_ready (rs := [2, 4]) (by kernel_rfl) (by simp) ?_
      refine AllReady.cons rfl (fun K hK => ?_) ?_
      · obtain ⟨v13, w2, r13, o13, g13⟩ := app_run w1 base _ 0 [] OWN.out a len cap xs (HO.out.later (below_at BW.out HBS.out)) (by omega) (by have := BW.out.size; have := HBS.out; omega)
        rw [if_pos (by rfl)]
        refine wp_append_run _ _ 22 22 rfl _ _ _ (by rfl) (by rfl) r13 ?_
        refine hK _ _ ?_
        clear hK K
        go_simp
        have BWn : Hid (Below base V w2) := BW.out.grown g13 (by have := BW.out.size; have := HBS.out; omega) (fun j hj => (World.ownsRow.lt OWN.out j hj).1)
        have ON : Hid (w2.ownsRow base 27 3 v13 len (tcs xs)) := by rw [Nat.zero_add, List.nil_append] at o13; exact o13
        clear BW OWN o13 g13 r13
        have BW := BWn
        have OWN := ON
        clear BWn ON
        refine wpAny_ready (rs := [4]) (by kernel_rfl) (by simp) ?_
        refine AllReady.cons rfl (fun K hK => ?_) ?_
        · go_simp
          refine hK _ _ ?_
          clear hK K
          have KZ : Hid (Bt (World.alloc w2 (.cells #[.string mark.b, .string mark.e, .int .u64 mark.s] 27)) w2.heap.size mark) := new_at _ _
          have BWn : Hid (Below base V (World.alloc w2 (.cells #[.string mark.b, .string mark.e, .int .u64 mark.s] 27))) := BW.out.trans ((box_below w2 (.cells #[.string mark.b, .string mark.e, .int .u64 mark.s] 27)).mono (by have := BW.out.size; have := HBS.out; omega))
          have ON := hid (OWN.out.alloc (.cells #[.string mark.b, .string mark.e, .int .u64 mark.s] 27))
          clear OWN
          have OWN := ON
          clear ON
          clear BW
          have BW := BWn
          clear BWn
          obtain ⟨gz, hgz⟩ : ∃ gz, gz = w2.heap.size := ⟨_, rfl⟩
          rw [← hgz] at KZ  ⊢
          clear hgz
          generalize World.alloc w2 (.cells #[.string mark.b, .string mark.e, .int .u64 mark.s] 27) = w3 at *
          refine wpAny_ready (rs := [5]) (by kernel_rfl) (by simp) ?_
          refine AllReady.cons rfl (fun K hK => ?_) ?_
          · obtain ⟨v16, w4, r16, o16, g16⟩ := app_one w3 base _ len xs OWN.out gz mark KZ.out (by omega) (by have := BW.out.size; have := HBS.out; omega)
            rw [if_pos (by rfl)]
            refine wp_append_run _ _ 22 22 rfl _ _ _ (by rfl) (by rfl) r16 ?_
            refine hK _ _ ?_
            clear hK K
            go_simp
            have BWn : Hid (Below base V w4) := BW.out.grown g16 (by have := BW.out.size; have := HBS.out; omega) (fun j hj => (World.ownsRow.lt OWN.out j hj).1)
            have ON := hid o16
            clear BW OWN o16 g16 r16
            obtain ⟨g6, c6, hv6, hc6⟩ : ∃ g c, v16 = .slice (some ⟨g, 0, none⟩) (len + 1) c ∧ len + 1 ≤ c := by
              rcases ON.out.2 with ⟨_, h'⟩ | ⟨g, c, _, h, _, _, hn, _⟩
              · omega
              · exact ⟨g, c, h, hn⟩
            subst hv6
            have hs1 : (0 : Int) ≤ (len : Int) := by omega
            have hs2 : (len : Int) ≤ (c6 : Int) := by omega
            refine wpAny_ready (rs := [8]) (by kernel_rfl) (by simp) ?_
            refine AllReady.cons rfl (fun K hK => ?_) ?_
            · go_simp
              refine hK _ _ ?_
              clear hK K
              go_simp
              refine wpAny_take (i := 9) (v := ?v7) rfl (by kernel_rfl) (by kernel_rfl) (by kernel_rfl) (fun _ _ _ h => h) (Or.inl ⟨by rfl, ?h7⟩) ?_
              case h7 => (intro w; go_simp; try (with_reducible rfl))
              go_simp
              refine wpAny_done (by kernel_rfl) ?_ _
              have BF : Hid (Below w.heap.size w w4) := BV.out.trans (BWn.out.mono (by rw [HBS.out]; exact BV.out.size))
              go_wp2_with fail
              go_ret
              exact ⟨g6, c6, rfl, own_base (show OwnT _ _ _ _ by unfold OwnT; rw [List.length_append, HL.out]; exact ON.out) (by rw [HBS.out]; exact BV.out.size), BF.out⟩
            exact AllReady.nil
          exact AllReady.nil
        exact AllReady.nil
      refine AllReady.cons rfl (fun K hK => ?_) ?_
      · go_simp
        refine hK _ _ ?_
        clear hK K
        have KZ : Hid (Bt (World.alloc w1 (.cells #[.string mark.b, .string mark.e, .int .u64 mark.s] 27)) w1.heap.size mark) := new_at _ _
        have BWn : Hid (Below base V (World.alloc w1 (.cells #[.string mark.b, .string mark.e, .int .u64 mark.s] 27))) := BW.out.trans ((box_below w1 (.cells #[.string mark.b, .string mark.e, .int .u64 mark.s] 27)).mono (by have := BW.out.size; have := HBS.out; omega))
        have ON := hid (OWN.out.alloc (.cells #[.string mark.b, .string mark.e, .int .u64 mark.s] 27))
        have NE : Hid (w1.heap.size ≠ gA) := by have := (World.ownsRow.lt OWN.out gA rfl).2; show _ ≠ _; omega
        clear OWN
        have OWN := ON
        clear ON
        clear BW
        have BW := BWn
        clear BWn
        obtain ⟨gz, hgz⟩ : ∃ gz, gz = w1.heap.size := ⟨_, rfl⟩
        rw [← hgz] at KZ NE ⊢
        clear hgz
        generalize World.alloc w1 (.cells #[.string mark.b, .string mark.e, .int .u64 mark.s] 27) = w2 at *
        refine wpAny_ready (rs := [2]) (by kernel_rfl) (by simp) ?_
        refine AllReady.cons rfl (fun K hK => ?_) ?_
        · obtain ⟨v13, w3, r13, o13, g13⟩ := app_run w2 base _ 0 [] OWN.out a len cap xs (HO.out.later (below_at BW.out HBS.out)) (by omega) (by have := BW.out.size; have := HBS.out; omega)
          rw [if_pos (by rfl)]
          refine wp_append_run _ _ 22 22 rfl _ _ _ (by rfl) (by rfl) r13 ?_
          refine hK _ _ ?_
          clear hK K
          go_simp
          have BWn : Hid (Below base V w3) := BW.out.grown g13 (by have := BW.out.size; have := HBS.out; omega) (fun j hj => (World.ownsRow.lt OWN.out j hj).1)
          have ON : Hid (w3.ownsRow base 27 3 v13 len (tcs xs)) := by rw [Nat.zero_add, List.nil_append] at o13; exact o13
          have KZn : Hid (Bt w3 gz mark) := Bt.kept KZ.out g13 (by simp [Value.ownBlock]; exact NE.out)
          clear KZ NE
          have KZ := KZn
          clear KZn
          clear BW OWN o13 g13 r13
          have BW := BWn
          have OWN := ON
          clear BWn ON
          refine wpAny_ready (rs := [5]) (by kernel_rfl) (by simp) ?_
          refine AllReady.cons rfl (fun K hK => ?_) ?_
          · obtain ⟨v16, w4, r16, o16, g16⟩ := app_one w3 base _ len xs OWN.out gz mark KZ.out (by omega) (by have := BW.out.size; have := HBS.out; omega)
            rw [if_pos (by rfl)]
            refine wp_append_run _ _ 22 22 rfl _ _ _ (by rfl) (by rfl) r16 ?_
            refine hK _ _ ?_
            clear hK K
            go_simp
            have BWn : Hid (Below base V w4) := BW.out.grown g16 (by have := BW.out.size; have := HBS.out; omega) (fun j hj => (World.ownsRow.lt OWN.out j hj).1)
            have ON := hid o16
            clear BW OWN o16 g16 r16
            obtain ⟨g6, c6, hv6, hc6⟩ : ∃ g c, v16 = .slice (some ⟨g, 0, none⟩) (len + 1) c ∧ len + 1 ≤ c := by
              rcases ON.out.2 with ⟨_, h'⟩ | ⟨g, c, _, h, _, _, hn, _⟩
              · omega
              · exact ⟨g, c, h, hn⟩
            subst hv6
            have hs1 : (0 : Int) ≤ (len : Int) := by omega
            have hs2 : (len : Int) ≤ (c6 : Int) := by omega
            refine wpAny_ready (rs := [8]) (by kernel_rfl) (by simp) ?_
            refine AllReady.cons rfl (fun K hK => ?_) ?_
            · go_simp
              refine hK _ _ ?_
              clear hK K
              go_simp
              refine wpAny_take (i := 9) (v := ?v8) rfl (by kernel_rfl) (by kernel_rfl) (by kernel_rfl) (fun _ _ _ h => h) (Or.inl ⟨by rfl, ?h8⟩) ?_
              case h8 => (intro w; go_simp; try (with_reducible rfl))
              go_simp
              refine wpAny_done (by kernel_rfl) ?_ _
              have BF : Hid (Below w.heap.size w w4) := BV.out.trans (BWn.out.mono (by rw [HBS.out]; exact BV.out.size))
              go_wp2_with fail
              go_ret
              exact ⟨g6, c6, rfl, own_base (show OwnT _ _ _ _ by unfold OwnT; rw [List.length_append, HL.out]; exact ON.out) (by rw [HBS.out]; exact BV.out.size), BF.out⟩
            exact AllReady.nil
          exact AllReady.nil
        exact AllReady.nil
      exact AllReady.nil
    refine AllReady.cons rfl (fun K hK => ?_) ?_
    · go_simp
      refine hK _ _ ?_
      clear hK K
      have KZ : Hid (Bt (World.alloc V (.cells #[.string mark.b, .string mark.e, .int .u64 mark.s] 27)) V.heap.size mark) := new_at _ _
      have BWn : Hid (Below base V (World.alloc V (.cells #[.string mark.b, .string mark.e, .int .u64 mark.s] 27))) := BW.out.trans ((box_below V (.cells #[.string mark.b, .string mark.e, .int .u64 mark.s] 27)).mono (by have := BW.out.size; have := HBS.out; omega))
      clear BW
      have BW := BWn
      clear BWn
      obtain ⟨gz, hgz⟩ : ∃ gz, gz = V.heap.size := ⟨_, rfl⟩
      rw [← hgz] at KZ  ⊢
      clear hgz
      generalize World.alloc V (.cells #[.string mark.b, .string mark.e, .int .u64 mark.s] 27) = w1 at *
      refine wpAny_ready (rs := [0]) (by kernel_rfl) (by simp) ?_
      refine AllReady.cons rfl (fun K hK => ?_) ?_
      · go_simp
        refine hK _ _ ?_
        clear hK K
        have OWN : Hid ((World.alloc w1 (.cells #[] 27)).ownsRow base 27 3 (.slice (some ⟨(w1).heap.size, 0, none⟩) 0 0) 0 (tcs [])) := World.ownsRow_made w1 #[] 0 (by have := BW.out.size; have := HBS.out; omega) (by unfold maxLen; omega) rfl
        have BWn : Hid (Below base V (World.alloc w1 (.cells #[] 27))) := BW.out.trans ((box_below w1 (.cells #[] 27)).mono (by have := BW.out.size; have := HBS.out; omega))
        have KZn := hid (Bt.later KZ.out (box_below w1 (.cells #[] 27)))
        have NE : Hid (gz ≠ w1.heap.size) := by have := blk_lt KZ.out; show _ ≠ _; omega
        clear KZ
        have KZ := KZn
        clear KZn
        clear BW
        have BW := BWn
        clear BWn
        obtain ⟨gA, hgA⟩ : ∃ gA, gA = w1.heap.size := ⟨_, rfl⟩
        rw [← hgA] at OWN NE ⊢
        have HGA := hid hgA
        clear hgA HGA
        generalize World.alloc w1 (.cells #[] 27) = w2 at *
        refine wpAny_ready (rs := [2]) (by kernel_rfl) (by simp) ?_
        refine AllReady.cons rfl (fun K hK => ?_) ?_
        · obtain ⟨v13, w3, r13, o13, g13⟩ := app_run w2 base _ 0 [] OWN.out a len cap xs (HO.out.later (below_at BW.out HBS.out)) (by omega) (by have := BW.out.size; have := HBS.out; omega)
          rw [if_pos (by rfl)]
          refine wp_append_run _ _ 22 22 rfl _ _ _ (by rfl) (by rfl) r13 ?_
          refine hK _ _ ?_
          clear hK K
          go_simp
          have BWn : Hid (Below base V w3) := BW.out.grown g13 (by have := BW.out.size; have := HBS.out; omega) (fun j hj => (World.ownsRow.lt OWN.out j hj).1)
          have ON : Hid (w3.ownsRow base 27 3 v13 len (tcs xs)) := by rw [Nat.zero_add, List.nil_append] at o13; exact o13
          have KZn : Hid (Bt w3 gz mark) := Bt.kept KZ.out g13 (by simp [Value.ownBlock]; exact NE.out)
          clear KZ NE
          have KZ := KZn
          clear KZn
          clear BW OWN o13 g13 r13
          have BW := BWn
          have OWN := ON
          clear BWn ON
          refine wpAny_ready (rs := [5]) (by kernel_rfl) (by simp) ?_
          refine AllReady.cons rfl (fun K hK => ?_) ?_
          · obtain ⟨v16, w4, r16, o16, g16⟩ := app_one w3 base _ len xs OWN.out gz mark KZ.out (by omega) (by have := BW.out.size; have := HBS.out; omega)
            rw [if_pos (by rfl)]
            refine wp_append_run _ _ 22 22 rfl _ _ _ (by rfl) (by rfl) r16 ?_
            refine hK _ _ ?_
            clear hK K
            go_simp
            have BWn : Hid (Below base V w4) := BW.out.grown g16 (by have := BW.out.size; have := HBS.out; omega) (fun j hj => (World.ownsRow.lt OWN.out j hj).1)
            have ON := hid o16
            clear BW OWN o16 g16 r16
            obtain ⟨g6, c6, hv6, hc6⟩ : ∃ g c, v16 = .slice (some ⟨g, 0, none⟩) (len + 1) c ∧ len + 1 ≤ c := by
              rcases ON.out.2 with ⟨_, h'⟩ | ⟨g, c, _, h, _, _, hn, _⟩
              · omega
              · exact ⟨g, c, h, hn⟩
            subst hv6
            have hs1 : (0 : Int) ≤ (len : Int) := by omega
            have hs2 : (len : Int) ≤ (c6 : Int) := by omega
            refine wpAny_ready (rs := [8]) (by kernel_rfl) (by simp) ?_
            refine AllReady.cons rfl (fun K hK => ?_) ?_
            · go_simp
              refine hK _ _ ?_
              clear hK K
              go_simp
              refine wpAny_take (i := 9) (v := ?v9) rfl (by kernel_rfl) (by kernel_rfl) (by kernel_rfl) (fun _ _ _ h => h) (Or.inl ⟨by rfl, ?h9⟩) ?_
              case h9 => (intro w; go_simp; try (with_reducible rfl))
              go_simp
              refine wpAny_done (by kernel_rfl) ?_ _
              have BF : Hid (Below w.heap.size w w4) := BV.out.trans (BWn.out.mono (by rw [HBS.out]; exact BV.out.size))
              go_wp2_with fail
              go_ret
              exact ⟨g6, c6, rfl, own_base (show OwnT _ _ _ _ by unfold OwnT; rw [List.length_append, HL.out]; exact ON.out) (by rw [HBS.out]; exact BV.out.size), BF.out⟩
            exact AllReady.nil
          exact AllReady.nil
        exact AllReady.nil
      exact AllReady.nil
    exact AllReady.nil
  exact AllReady.nil
theorem names_any (w : World) : Calls Tryd.prog 13 #[] w fun e w' => e = .returned (.bool true) ∧ w' = w := by
  go_enter Tryd.func13, Tryd.ntmps13
  go_wp2
  go_ret
  exact ⟨rfl, rfl⟩
set_option maxHeartbeats 1000000 in
theorem same_any (a a' : Option Addr) (len cap cap' : Nat) (xs : List T) (w : World) (H : Tbs w a len cap xs) (H' : Tbs w a' len cap' xs) (hl : len ≤ 140737488351232) :
    Calls Tryd.prog 20 #[.slice a len cap, .slice a' len cap'] w fun e w' => e = .returned (.bool true) ∧ ∃ n, w' = w.drewN n := by
  have HH := hid H
  have HH' := hid H'
  clear H H'
  have t0 : ((len : Int) != (len : Int)) = false := bne_self_eq_false _
  go_enter Tryd.func20, Tryd.ntmps20
  go_wp2_with fail
  go_loopw [5] (fun i wr => ∃ k : Nat, i = .int .i64 k ∧ k ≤ len ∧ ∃ n, wr = w.drewN n) (fun i _ => len - (intOf i).toNat)
  case atStart => exact ⟨0, rfl, by omega, 0, rfl⟩
  case round =>
    obtain ⟨k, rfl, hk, n, rfl⟩ := hrel
    by_cases hlt : k < len
    · obtain ⟨b, off, rfl, hat⟩ := here HH.out hlt
      obtain ⟨b', off', rfl, hat'⟩ := here HH'.out hlt
      generalize xs.getD k zt = x at hat hat'
      obtain ⟨xb, xe, xs'⟩ := x
      obtain ⟨a1, a2, a3⟩ := hat
      obtain ⟨c1, c2, c3⟩ := hat'
      simp only at a1 a2 a3 c1 c2 c3
      have ik0 : (k : Int) < (len : Int) := by omega
      have ok0 : (0 : Int) ≤ (k : Int) := by omega
      have hlc := HH.out.2.1
      have hlc' := HH'.out.2.1
      go_wp2_with fail
      go_quiet (fail)
      go_wp2_with fail
      go_roundw
      case rel => exact ⟨k + 1, by go_num, by omega, n + nq, rfl⟩
      case measure => simp [intOf]; omega
    · go_wp2_with fail
      go_ret
      exact ⟨rfl, n, rfl⟩
theorem marked_tbs {w : World} {base g n c : Nat} {xs : List T} (R : OwnT w base (.slice (some ⟨g, 0, none⟩) (n + 1) c) (xs ++ [mark])) (hl : xs.length = n) (hok : ∀ x ∈ xs, x.ok) : Tbs w (some ⟨g, 0, none⟩) n c xs := by
  have hc : n + 1 ≤ c := by
    rcases R.2 with ⟨h, _⟩ | ⟨g', c', _, h, _, _, hn, _⟩
    · simp at h
    · rw [List.length_append, hl] at hn; simp at h hn; omega
  refine ⟨hl, by omega, fun e => by simp at e, hok, fun b o p hp _ => ?_⟩
  simp at hp
  obtain ⟨rfl, rfl, rfl⟩ := hp
  refine ⟨rfl, fun i hi => ?_⟩
  have := R.at i (by simp; omega)
  rw [Nat.zero_add]
  simpa [List.getD_eq_getElem?_getD, List.getElem?_append_left (show i < xs.length by omega)] using this
set_option maxHeartbeats 1000000 in
theorem kept_any (base g c : Nat) (a : Option Addr) (len cap : Nat) (xs : List T) (w : World) (M : Hid (Mk w)) (R : OwnT w base (.slice (some ⟨g, 0, none⟩) (len + 1) c) (xs ++ [mark])) (H : Tbs w a len cap xs) (hl : len ≤ 140737488351232) :
    Calls Tryd.prog 12 #[.slice (some ⟨g, 0, none⟩) len c, .slice a len cap] w fun e w' => e = .returned (.bool true) ∧ ∃ n, w' = w.drewN n := by
  have FS := hid (fun W (h : ∃ n, W = w.drewN n) => by
    obtain ⟨n, rfl⟩ := h
    exact same_any (some ⟨g, 0, none⟩) a len c cap xs (w.drewN n) (marked_tbs R H.1 H.2.2.2.1) H hl : ∀ W, (∃ n, W = w.drewN n) → Calls Tryd.prog 20 #[.slice (some ⟨g, 0, none⟩) len c, .slice a len cap] W fun e w' => e = .returned (.bool true) ∧ ∃ n, w' = W.drewN n)
  have hc : len + 1 ≤ c := by
    rcases R.2 with ⟨h, _⟩ | ⟨g', c', _, h, _, _, hn, _⟩
    · simp at h
    · rw [List.length_append, H.1] at hn; simp at h hn; omega
  have hc2 : (len : Int) + 1 ≤ (c : Int) := by omega
  have hat := R.at len (by simp [H.1])
  have e : (xs ++ [mark]).getD len zt = mark := by rw [← H.1]; simp [List.getD_eq_getElem?_getD]
  rw [e] at hat
  obtain ⟨a1, a2, a3⟩ := hat
  obtain ⟨m1, m2, m3⟩ := M.out
  simp only [mark, Nat.zero_add] at a1 a2 a3 m1 m2 m3
  clear R H e
  go_enter Tryd.func12, Tryd.ntmps12
  go_wp2_with fail
  go_quiet (exact Calls.quiet_of (FS.out _ ⟨_, rfl⟩))
  go_wp2_with fail
  go_ret
  exact ⟨rfl, nq, rfl⟩
end Go.Proofs.YtfmpdalabgfigaaDoor.Ln

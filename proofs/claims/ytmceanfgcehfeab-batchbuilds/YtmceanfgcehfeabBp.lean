/- The document's Put and Bytes. -/
import Derived.Test.YtmceanfgcehfeabBv
import Derived.Test.YtmceanfgcehfeabOw
namespace Go.Proofs.Ytmceanfgcehfeab.Bp
open Go.ChangeShapes Go.WideShapes Go.ChangeAt Go.RowKit
open Go.Sort
open Go.Proofs.Ytmceanfgcehfeab.By
open Go.Proofs.Ytmceanfgcehfeab.Ob
open Go.Proofs.Ytmceanfgcehfeab.En
open Go.Proofs.Ytmceanfgcehfeab.Bu
open Go.Proofs.Ytmceanfgcehfeab.De (row_ops may_ok)
set_option linter.unusedVariables false

theorem below_at {n : Nat} {W W' : World} (h : Below n W W') (e : n = W.heap.size) : Below W.heap.size W W' := by subst e; exact h
theorem Blk.grown {W W' : World} {g : Nat} {xs : Array Value} {row : Option Nat} (h : Blk W g xs) (k : W.grownBy W' row) (hne : some g ≠ row) : Blk W' g xs := by
  unfold Blk at h ⊢
  exact (k.block g (Array.getElem?_eq_some_iff.1 h).1 hne).trans h
theorem app_run (w : World) (base : Nat) (v : Value) (n : Nat) (xs : List O) (hown : w.ownsRow base 60 3 v n (ocs xs)) (a : Option Addr) (m c : Nat) (ys : List O) (H : Ops w a m c ys) (hnm : n + m ≤ 1000000) (hbase : base ≤ w.heap.size) :
    ∃ v' w', (Builtin.append_ #[26, 26] 26 #[v, .slice a m c]).run Try.prog w = .ok v' w' ∧ w'.ownsRow base 60 3 v' (n + m) (ocs (xs ++ ys)) ∧ w.grownBy w' v.ownBlock := by
  obtain ⟨i0, hi, hz0, hz1, hz2⟩ := info_parts infoOp
  cases a with
  | none =>
    obtain ⟨rfl, rfl⟩ := H.2.2.1 rfl
    have hy : ys = [] := List.eq_nil_of_length_eq_zero H.1
    subst hy
    exact ⟨v, w, run_append_owned_none (P := Try.prog) (w := w) base 26 26 60 i0 3 Try.underlying26 hi v n _ hown, by simpa using hown, World.grownBy.refl _ _⟩
  | some ad =>
    obtain ⟨v5, W5, r5, o5, g5, _⟩ := run_append_own (P := Try.prog) w base 26 26 60 i0 (.agg #[.int .i64 0, .string ⟨#[]⟩, .string ⟨#[]⟩]) 3 40 Try.underlying26 hi hz0 hz1 hz2 rfl (by decide) v n (ocs xs) hown ad m c (ocs ys) (by rw [ocs_len, H.1]) H.cells (ocs_one ys) (by unfold maxLen; omega) (by omega) hbase
    exact ⟨v5, W5, r5, by rw [ocs_append]; exact o5, g5⟩
theorem app_one (w : World) (base : Nat) (u : Value) (n : Nat) (xs : List O) (hown : w.ownsRow base 60 3 u n (ocs xs)) (gz : Nat) (c : Int) (k v : ByteArray) (KZ : Blk w gz #[.int .i64 c, .string k, .string v]) (hnm : n + 1 ≤ 1000000) (hbase : base ≤ w.heap.size) :
    ∃ v' w', (Builtin.append_ #[26, 26] 26 #[u, .slice (some ⟨gz, 0, none⟩) 1 1]).run Try.prog w = .ok v' w' ∧ w'.ownsRow base 60 3 v' (n + 1) (ocs (xs ++ [⟨c, k, v⟩])) ∧ w.grownBy w' u.ownBlock := by
  obtain ⟨i0, hi, hz0, hz1, hz2⟩ := info_parts infoOp
  have k0 : w.cell? ⟨gz, 0, none⟩ = some (.int .i64 c) := KZ.cell 0
  have k1 : w.cell? ⟨gz, 1, none⟩ = some (.string k) := KZ.cell 1
  have k2 : w.cell? ⟨gz, 2, none⟩ = some (.string v) := KZ.cell 2
  obtain ⟨v5, W5, r5, o5, g5, _⟩ := run_append_own (P := Try.prog) w base 26 26 60 i0 (.agg #[.int .i64 0, .string ⟨#[]⟩, .string ⟨#[]⟩]) 3 40 Try.underlying26 hi hz0 hz1 hz2 rfl (by decide) u n (ocs xs) hown ⟨gz, 0, none⟩ 1 1 [.int .i64 c, .string k, .string v] rfl (by
    intro j u hj
    match j, hj with
    | 0, hj => simp at hj; subst hj; simpa [Addr.add] using k0
    | 1, hj => simp at hj; subst hj; simpa [Addr.add] using k1
    | 2, hj => simp at hj; subst hj; simpa [Addr.add] using k2) (by intro u hu; simp at hu; rcases hu with rfl | rfl | rfl <;> rfl) (by unfold maxLen; omega) (by omega) hbase
  exact ⟨v5, W5, r5, by rw [ocs_append]; simpa [ocs, oc] using o5, g5⟩
theorem rbytes_any (a : Option Addr) (len cap : Nat) (xs : List O) (w : World) (H : Ops w a len cap xs) (hl : len ≤ 8192) (hm : ∀ x ∈ xs, may x = true) :
    Calls Try.prog 31 #[.slice a len cap] w fun e w' => e = .returned (.int .i64 (bsz xs)) ∧ Below w.heap.size w w' := by
  have HR := hid (rsize_any a len cap xs w H hl hm)
  clear H hm
  generalize bsz xs = z at *
  go_enter Try.func31, Try.ntmps31
  go_wp2_with fail
  refine HR.out.mono ?_
  rintro e w' ⟨rfl, b⟩
  have b := hid b
  go_wp2_with fail
  go_ret
  exact ⟨rfl, b.out⟩
theorem rput_bad (a : Option Addr) (len cap : Nat) (xs : List O) (c : Int) (k v : ByteArray) (w : World) (H : Ops w a len cap xs) (hl : len ≤ 4096) (hm : ∀ x ∈ xs, may x = true) (hmay : may ⟨c, k, v⟩ = false) :
    Calls Try.prog 30 #[.slice a len cap, .agg #[.int .i64 c, .string k, .string v]] w fun e w' => e = .returned (.tuple #[.slice a len cap, .int .i64 40]) ∧ Below w.heap.size w w' := by
  have HM : Hid (∀ W, Calls Try.prog 47 #[.agg #[.int .i64 c, .string k, .string v]] W fun e w' => e = .returned (.bool false) ∧ Below W.heap.size W w') := fun W => by
    have := rmay_any c k v W
    rw [hmay] at this
    exact this
  clear hmay
  obtain ⟨W0, hW0⟩ : ∃ W0, W0 = w.alloc (.cells #[.int .i64 c, .string k, .string v] 60) := ⟨_, rfl⟩
  obtain ⟨gb, hgb⟩ : ∃ gb, gb = w.heap.size := ⟨_, rfl⟩
  have KB : Hid (Blk W0 gb #[.int .i64 c, .string k, .string v]) := by show Blk _ _ _; rw [hW0, hgb]; exact Blk.new _ _
  have BW0 : Hid (Below w.heap.size w W0) := by show Below _ _ _; rw [hW0]; exact box_below _ _
  have HO0 := hid (H.later BW0.out)
  have HW0 := hid hW0
  have HGB := hid hgb
  clear hW0 hgb H
  go_enter Try.func30, Try.ntmps30
  go_wp2_with fail
  rw [← HW0.out, ← HGB.out]
  have p0 : W0.cell? ⟨gb, 0, none⟩ = some (.int .i64 c) := KB.out.cell 0
  have p1 : W0.cell? ⟨gb, 1, none⟩ = some (.string k) := KB.out.cell 1
  have p2 : W0.cell? ⟨gb, 2, none⟩ = some (.string v) := KB.out.cell 2
  go_wp2_with fail
  refine (HM.out W0).mono ?_
  rintro e w1 ⟨rfl, b1⟩
  have KB1 := hid (KB.out.later b1)
  have HO1 := hid (HO0.out.later b1)
  have BW1 : Hid (Below w.heap.size w w1) := BW0.out.trans (b1.mono BW0.out.size)
  clear p0 p1 p2 b1 KB HO0 BW0 HW0
  go_wp2_with fail
  go_ret2
  exact ⟨rfl, BW1.out⟩
set_option maxRecDepth 100000 in
set_option maxHeartbeats 4000000 in
theorem rput_ok (a : Option Addr) (len cap : Nat) (xs : List O) (c : Int) (k v : ByteArray) (w : World) (H : Ops w a len cap xs) (hl : len ≤ 4096) (hm : ∀ x ∈ xs, may x = true) (hmay : may ⟨c, k, v⟩ = true) (hl2 : len < 4096) (hz : bsz (xs ++ [⟨c, k, v⟩]) ≤ 1048576) :
    Calls Try.prog 30 #[.slice a len cap, .agg #[.int .i64 c, .string k, .string v]] w fun e w' => ∃ a' c', e = .returned (.tuple #[.slice a' (len + 1) c', .int .i64 0]) ∧ w'.ownsRow w.heap.size 60 3 (.slice a' (len + 1) c') (len + 1) (ocs (xs ++ [⟨c, k, v⟩])) ∧ Below w.heap.size w w' := by
  have HM : Hid (∀ W, Calls Try.prog 47 #[.agg #[.int .i64 c, .string k, .string v]] W fun e w' => e = .returned (.bool true) ∧ Below W.heap.size W w') := fun W => by
    have := rmay_any c k v W
    rw [hmay] at this
    exact this
  have HL : Hid (xs.length = len) := H.1
  have HMM : Hid (∀ x ∈ xs ++ [⟨c, k, v⟩], may x = true) := fun x hx => by
    rcases List.mem_append.1 hx with hx | hx
    · exact hm x hx
    · simp at hx; rw [hx]; exact hmay
  have HOK : Hid (∀ x ∈ xs ++ [(⟨c, k, v⟩ : O)], x.ok) := fun x hx => may_ok (HMM.out x hx)
  have HRS : Hid (∀ W a' c', Ops W a' (len + 1) c' (xs ++ [⟨c, k, v⟩]) → Calls Try.prog 48 #[.slice a' (len + 1) c'] W fun e w' => e = .returned (.int .i64 (bsz (xs ++ [⟨c, k, v⟩]))) ∧ Below W.heap.size W w') := fun W a' c' h => rsize_any a' (len + 1) c' _ W h (by omega) HMM.out
  generalize hZ : bsz (xs ++ [⟨c, k, v⟩]) = Z at *
  have n1 : ¬ (4096 : Int) < (len : Int) + 1 := by omega
  have n2 : ¬ (1048576 : Int) < (Z : Int) := by omega
  clear hmay hm
  obtain ⟨W0, hW0⟩ : ∃ W0, W0 = w.alloc (.cells #[.int .i64 c, .string k, .string v] 60) := ⟨_, rfl⟩
  obtain ⟨gb, hgb⟩ : ∃ gb, gb = w.heap.size := ⟨_, rfl⟩
  have KB : Hid (Blk W0 gb #[.int .i64 c, .string k, .string v]) := by show Blk _ _ _; rw [hW0, hgb]; exact Blk.new _ _
  have BW0 : Hid (Below w.heap.size w W0) := by show Below _ _ _; rw [hW0]; exact box_below _ _
  have HO0 := hid (H.later BW0.out)
  have HW0 := hid hW0
  have HGB := hid hgb
  clear hW0 hgb H
  go_enter Try.func30, Try.ntmps30
  go_wp2_with fail
  rw [← HW0.out, ← HGB.out]
  have p0 : W0.cell? ⟨gb, 0, none⟩ = some (.int .i64 c) := KB.out.cell 0
  have p1 : W0.cell? ⟨gb, 1, none⟩ = some (.string k) := KB.out.cell 1
  have p2 : W0.cell? ⟨gb, 2, none⟩ = some (.string v) := KB.out.cell 2
  go_wp2_with fail
  refine (HM.out W0).mono ?_
  rintro e w1 ⟨rfl, b1⟩
  have KB1 := hid (KB.out.later b1)
  have HO1 := hid (HO0.out.later b1)
  have BW1 : Hid (Below w.heap.size w w1) := BW0.out.trans (b1.mono BW0.out.size)
  clear p0 p1 p2 b1 KB HO0 BW0 HW0
  go_wp2_with fail
  refine wp_region_any (by kernel_rfl) ?_
  change wpAny _ _ _ _ _ _ _ (World.drew _)
  obtain ⟨V, hV⟩ : ∃ V, V = World.drew w1 := ⟨_, rfl⟩
  have dB : Below w1.heap.size w1 V := by rw [hV]; exact (Below.refl _ _).drew
  rw [← hV]
  have KB := hid (KB1.out.later dB)
  have HO := hid (HO1.out.later dB)
  have BV : Hid (Below w.heap.size w V) := BW1.out.trans (dB.mono BW1.out.size)
  obtain ⟨base, hbs⟩ : ∃ base, base = V.heap.size := ⟨_, rfl⟩
  have HBS := hid hbs
  have BW : Hid (Below base V V) := Below.refl _ _
  clear hV dB KB1 HO1 BW1 hbs w1
  refine wpAny_take (i := 1) (v := ?v1) rfl (by kernel_rfl) (by kernel_rfl) (by kernel_rfl) (fun _ _ _ h => h) (Or.inl ⟨by rfl, ?h1⟩) ?_
  case h1 => (intro w; go_simp; try (with_reducible rfl))
  go_simp
  refine wpAny_ready (rs := [0, 3]) (by kernel_rfl) (by simp) ?_
  refine AllReady.cons rfl (fun K hK => ?_) ?_
  · go_simp
    refine hK _ _ ?_
    clear hK K
    have OWN : Hid ((World.alloc V (.cells #[] 60)).ownsRow base 60 3 (.slice (some ⟨(V).heap.size, 0, none⟩) 0 0) 0 (ocs [])) := World.ownsRow_made V #[] 0 (by have := BW.out.size; have := HBS.out; omega) (by unfold maxLen; omega) rfl
    have BWn : Hid (Below base V (World.alloc V (.cells #[] 60))) := BW.out.trans ((box_below V (.cells #[] 60)).mono (by have := BW.out.size; have := HBS.out; omega))
    clear BW
    have BW := BWn
    clear BWn
    obtain ⟨gA, hgA⟩ : ∃ gA, gA = V.heap.size := ⟨_, rfl⟩
    rw [← hgA] at OWN  ⊢
    have HGA := hid hgA
    clear hgA HGA
    generalize World.alloc V (.cells #[] 60) = w1 at *
    refine wpAny_ready (rs := [2, 3]) (by kernel_rfl) (by simp) ?_
    refine AllReady.cons rfl (fun K hK => ?_) ?_
    · obtain ⟨v13, w2, r13, o13, g13⟩ := app_run w1 base _ 0 [] OWN.out a len cap xs (HO.out.later (below_at BW.out HBS.out)) (by omega) (by have := BW.out.size; have := HBS.out; omega)
      rw [if_pos (by rfl)]
      refine wp_append_run _ _ 26 26 rfl _ _ _ (by rfl) (by rfl) r13 ?_
      refine hK _ _ ?_
      clear hK K
      go_simp
      have BWn : Hid (Below base V w2) := BW.out.grown g13 (by have := BW.out.size; have := HBS.out; omega) (fun j hj => (World.ownsRow.lt OWN.out j hj).1)
      have ON : Hid (w2.ownsRow base 60 3 v13 len (ocs xs)) := by rw [Nat.zero_add, List.nil_append] at o13; exact o13
      clear BW OWN o13 g13 r13
      have BW := BWn
      have OWN := ON
      clear BWn ON
      refine wpAny_ready (rs := [3]) (by kernel_rfl) (by simp) ?_
      refine AllReady.cons rfl (fun K hK => ?_) ?_
      · have p0 : w2.cell? ⟨gb, 0, none⟩ = some (.int .i64 c) := (KB.out.later (below_at BW.out HBS.out)).cell 0
        have p1 : w2.cell? ⟨gb, 1, none⟩ = some (.string k) := (KB.out.later (below_at BW.out HBS.out)).cell 1
        have p2 : w2.cell? ⟨gb, 2, none⟩ = some (.string v) := (KB.out.later (below_at BW.out HBS.out)).cell 2
        go_simp
        refine hK _ _ ?_
        clear hK K p0 p1 p2
        refine wpAny_ready (rs := [4]) (by kernel_rfl) (by simp) ?_
        refine AllReady.cons rfl (fun K hK => ?_) ?_
        · go_simp
          refine hK _ _ ?_
          clear hK K
          have KZ : Hid (Blk (World.alloc w2 (.cells #[.int .i64 c, .string k, .string v] 60)) w2.heap.size #[.int .i64 c, .string k, .string v]) := Blk.new _ _
          have BWn : Hid (Below base V (World.alloc w2 (.cells #[.int .i64 c, .string k, .string v] 60))) := BW.out.trans ((box_below w2 (.cells #[.int .i64 c, .string k, .string v] 60)).mono (by have := BW.out.size; have := HBS.out; omega))
          have ON := hid (OWN.out.alloc (.cells #[.int .i64 c, .string k, .string v] 60))
          clear OWN
          have OWN := ON
          clear ON
          clear BW
          have BW := BWn
          clear BWn
          obtain ⟨gz, hgz⟩ : ∃ gz, gz = w2.heap.size := ⟨_, rfl⟩
          rw [← hgz] at KZ  ⊢
          clear hgz
          generalize World.alloc w2 (.cells #[.int .i64 c, .string k, .string v] 60) = w3 at *
          refine wpAny_ready (rs := [5]) (by kernel_rfl) (by simp) ?_
          refine AllReady.cons rfl (fun K hK => ?_) ?_
          · obtain ⟨v16, w4, r16, o16, g16⟩ := app_one w3 base _ len xs OWN.out gz c k v KZ.out (by omega) (by have := BW.out.size; have := HBS.out; omega)
            rw [if_pos (by rfl)]
            refine wp_append_run _ _ 26 26 rfl _ _ _ (by rfl) (by rfl) r16 ?_
            refine hK _ _ ?_
            clear hK K
            go_simp
            have BWn : Hid (Below base V w4) := BW.out.grown g16 (by have := BW.out.size; have := HBS.out; omega) (fun j hj => (World.ownsRow.lt OWN.out j hj).1)
            have ON := hid o16
            clear BW OWN o16 g16 r16
            obtain ⟨a6, c6, hv6, HO6⟩ := row_ops ON.out (HOK.out)
            rw [List.length_append, List.length_singleton, HL.out] at hv6 HO6
            subst hv6
            have HO6 := hid HO6
            refine wpAny_take (i := 6) (v := ?v2) rfl (by kernel_rfl) (by kernel_rfl) (by kernel_rfl) (fun _ _ _ h => h) (Or.inl ⟨by rfl, ?h2⟩) ?_
            case h2 => (intro w; go_simp; try (with_reducible rfl))
            go_simp
            refine wpAny_done (by kernel_rfl) ?_ _
            go_wp2_with fail
            refine (HRS.out w4 a6 c6 HO6.out).mono ?_
            rintro e w9 ⟨rfl, b9⟩
            have HO9 := hid (Jo.orow_base (ON.out.kept (It.grown_of_below b9) (by cases hh : (Value.slice a6 (len + 1) c6).ownBlock <;> simp)) (show w.heap.size ≤ base by rw [HBS.out]; exact BV.out.size))
            have BF : Hid (Below w.heap.size w w9) := (BV.out.trans (BWn.out.mono (by rw [HBS.out]; exact BV.out.size))).trans (b9.mono (by have := BV.out.size; have := BWn.out.size; omega))
            clear b9
            go_wp2_with fail
            go_ret2
            exact ⟨_, _, rfl, HO9.out, BF.out⟩
          exact AllReady.nil
        exact AllReady.nil
      exact AllReady.nil
    refine AllReady.cons rfl (fun K hK => ?_) ?_
    · have p0 : w1.cell? ⟨gb, 0, none⟩ = some (.int .i64 c) := (KB.out.later (below_at BW.out HBS.out)).cell 0
      have p1 : w1.cell? ⟨gb, 1, none⟩ = some (.string k) := (KB.out.later (below_at BW.out HBS.out)).cell 1
      have p2 : w1.cell? ⟨gb, 2, none⟩ = some (.string v) := (KB.out.later (below_at BW.out HBS.out)).cell 2
      go_simp
      refine hK _ _ ?_
      clear hK K p0 p1 p2
      refine wpAny_ready (rs := [2, 4]) (by kernel_rfl) (by simp) ?_
      refine AllReady.cons rfl (fun K hK => ?_) ?_
      · obtain ⟨v13, w2, r13, o13, g13⟩ := app_run w1 base _ 0 [] OWN.out a len cap xs (HO.out.later (below_at BW.out HBS.out)) (by omega) (by have := BW.out.size; have := HBS.out; omega)
        rw [if_pos (by rfl)]
        refine wp_append_run _ _ 26 26 rfl _ _ _ (by rfl) (by rfl) r13 ?_
        refine hK _ _ ?_
        clear hK K
        go_simp
        have BWn : Hid (Below base V w2) := BW.out.grown g13 (by have := BW.out.size; have := HBS.out; omega) (fun j hj => (World.ownsRow.lt OWN.out j hj).1)
        have ON : Hid (w2.ownsRow base 60 3 v13 len (ocs xs)) := by rw [Nat.zero_add, List.nil_append] at o13; exact o13
        clear BW OWN o13 g13 r13
        have BW := BWn
        have OWN := ON
        clear BWn ON
        refine wpAny_ready (rs := [4]) (by kernel_rfl) (by simp) ?_
        refine AllReady.cons rfl (fun K hK => ?_) ?_
        · go_simp
          refine hK _ _ ?_
          clear hK K
          have KZ : Hid (Blk (World.alloc w2 (.cells #[.int .i64 c, .string k, .string v] 60)) w2.heap.size #[.int .i64 c, .string k, .string v]) := Blk.new _ _
          have BWn : Hid (Below base V (World.alloc w2 (.cells #[.int .i64 c, .string k, .string v] 60))) := BW.out.trans ((box_below w2 (.cells #[.int .i64 c, .string k, .string v] 60)).mono (by have := BW.out.size; have := HBS.out; omega))
          have ON := hid (OWN.out.alloc (.cells #[.int .i64 c, .string k, .string v] 60))
          clear OWN
          have OWN := ON
          clear ON
          clear BW
          have BW := BWn
          clear BWn
          obtain ⟨gz, hgz⟩ : ∃ gz, gz = w2.heap.size := ⟨_, rfl⟩
          rw [← hgz] at KZ  ⊢
          clear hgz
          generalize World.alloc w2 (.cells #[.int .i64 c, .string k, .string v] 60) = w3 at *
          refine wpAny_ready (rs := [5]) (by kernel_rfl) (by simp) ?_
          refine AllReady.cons rfl (fun K hK => ?_) ?_
          · obtain ⟨v16, w4, r16, o16, g16⟩ := app_one w3 base _ len xs OWN.out gz c k v KZ.out (by omega) (by have := BW.out.size; have := HBS.out; omega)
            rw [if_pos (by rfl)]
            refine wp_append_run _ _ 26 26 rfl _ _ _ (by rfl) (by rfl) r16 ?_
            refine hK _ _ ?_
            clear hK K
            go_simp
            have BWn : Hid (Below base V w4) := BW.out.grown g16 (by have := BW.out.size; have := HBS.out; omega) (fun j hj => (World.ownsRow.lt OWN.out j hj).1)
            have ON := hid o16
            clear BW OWN o16 g16 r16
            obtain ⟨a6, c6, hv6, HO6⟩ := row_ops ON.out (HOK.out)
            rw [List.length_append, List.length_singleton, HL.out] at hv6 HO6
            subst hv6
            have HO6 := hid HO6
            refine wpAny_take (i := 6) (v := ?v3) rfl (by kernel_rfl) (by kernel_rfl) (by kernel_rfl) (fun _ _ _ h => h) (Or.inl ⟨by rfl, ?h3⟩) ?_
            case h3 => (intro w; go_simp; try (with_reducible rfl))
            go_simp
            refine wpAny_done (by kernel_rfl) ?_ _
            go_wp2_with fail
            refine (HRS.out w4 a6 c6 HO6.out).mono ?_
            rintro e w9 ⟨rfl, b9⟩
            have HO9 := hid (Jo.orow_base (ON.out.kept (It.grown_of_below b9) (by cases hh : (Value.slice a6 (len + 1) c6).ownBlock <;> simp)) (show w.heap.size ≤ base by rw [HBS.out]; exact BV.out.size))
            have BF : Hid (Below w.heap.size w w9) := (BV.out.trans (BWn.out.mono (by rw [HBS.out]; exact BV.out.size))).trans (b9.mono (by have := BV.out.size; have := BWn.out.size; omega))
            clear b9
            go_wp2_with fail
            go_ret2
            exact ⟨_, _, rfl, HO9.out, BF.out⟩
          exact AllReady.nil
        exact AllReady.nil
      refine AllReady.cons rfl (fun K hK => ?_) ?_
      · go_simp
        refine hK _ _ ?_
        clear hK K
        have KZ : Hid (Blk (World.alloc w1 (.cells #[.int .i64 c, .string k, .string v] 60)) w1.heap.size #[.int .i64 c, .string k, .string v]) := Blk.new _ _
        have BWn : Hid (Below base V (World.alloc w1 (.cells #[.int .i64 c, .string k, .string v] 60))) := BW.out.trans ((box_below w1 (.cells #[.int .i64 c, .string k, .string v] 60)).mono (by have := BW.out.size; have := HBS.out; omega))
        have ON := hid (OWN.out.alloc (.cells #[.int .i64 c, .string k, .string v] 60))
        have NE : Hid (w1.heap.size ≠ gA) := by have := (World.ownsRow.lt OWN.out gA rfl).2; show _ ≠ _; omega
        clear OWN
        have OWN := ON
        clear ON
        clear BW
        have BW := BWn
        clear BWn
        obtain ⟨gz, hgz⟩ : ∃ gz, gz = w1.heap.size := ⟨_, rfl⟩
        rw [← hgz] at KZ NE ⊢
        clear hgz
        generalize World.alloc w1 (.cells #[.int .i64 c, .string k, .string v] 60) = w2 at *
        refine wpAny_ready (rs := [2]) (by kernel_rfl) (by simp) ?_
        refine AllReady.cons rfl (fun K hK => ?_) ?_
        · obtain ⟨v13, w3, r13, o13, g13⟩ := app_run w2 base _ 0 [] OWN.out a len cap xs (HO.out.later (below_at BW.out HBS.out)) (by omega) (by have := BW.out.size; have := HBS.out; omega)
          rw [if_pos (by rfl)]
          refine wp_append_run _ _ 26 26 rfl _ _ _ (by rfl) (by rfl) r13 ?_
          refine hK _ _ ?_
          clear hK K
          go_simp
          have BWn : Hid (Below base V w3) := BW.out.grown g13 (by have := BW.out.size; have := HBS.out; omega) (fun j hj => (World.ownsRow.lt OWN.out j hj).1)
          have ON : Hid (w3.ownsRow base 60 3 v13 len (ocs xs)) := by rw [Nat.zero_add, List.nil_append] at o13; exact o13
          have KZn : Hid (Blk w3 gz #[.int .i64 c, .string k, .string v]) := Blk.grown KZ.out g13 (by simp [Value.ownBlock]; exact NE.out)
          clear KZ NE
          have KZ := KZn
          clear KZn
          clear BW OWN o13 g13 r13
          have BW := BWn
          have OWN := ON
          clear BWn ON
          refine wpAny_ready (rs := [5]) (by kernel_rfl) (by simp) ?_
          refine AllReady.cons rfl (fun K hK => ?_) ?_
          · obtain ⟨v16, w4, r16, o16, g16⟩ := app_one w3 base _ len xs OWN.out gz c k v KZ.out (by omega) (by have := BW.out.size; have := HBS.out; omega)
            rw [if_pos (by rfl)]
            refine wp_append_run _ _ 26 26 rfl _ _ _ (by rfl) (by rfl) r16 ?_
            refine hK _ _ ?_
            clear hK K
            go_simp
            have BWn : Hid (Below base V w4) := BW.out.grown g16 (by have := BW.out.size; have := HBS.out; omega) (fun j hj => (World.ownsRow.lt OWN.out j hj).1)
            have ON := hid o16
            clear BW OWN o16 g16 r16
            obtain ⟨a6, c6, hv6, HO6⟩ := row_ops ON.out (HOK.out)
            rw [List.length_append, List.length_singleton, HL.out] at hv6 HO6
            subst hv6
            have HO6 := hid HO6
            refine wpAny_take (i := 6) (v := ?v4) rfl (by kernel_rfl) (by kernel_rfl) (by kernel_rfl) (fun _ _ _ h => h) (Or.inl ⟨by rfl, ?h4⟩) ?_
            case h4 => (intro w; go_simp; try (with_reducible rfl))
            go_simp
            refine wpAny_done (by kernel_rfl) ?_ _
            go_wp2_with fail
            refine (HRS.out w4 a6 c6 HO6.out).mono ?_
            rintro e w9 ⟨rfl, b9⟩
            have HO9 := hid (Jo.orow_base (ON.out.kept (It.grown_of_below b9) (by cases hh : (Value.slice a6 (len + 1) c6).ownBlock <;> simp)) (show w.heap.size ≤ base by rw [HBS.out]; exact BV.out.size))
            have BF : Hid (Below w.heap.size w w9) := (BV.out.trans (BWn.out.mono (by rw [HBS.out]; exact BV.out.size))).trans (b9.mono (by have := BV.out.size; have := BWn.out.size; omega))
            clear b9
            go_wp2_with fail
            go_ret2
            exact ⟨_, _, rfl, HO9.out, BF.out⟩
          exact AllReady.nil
        exact AllReady.nil
      exact AllReady.nil
    exact AllReady.nil
  refine AllReady.cons rfl (fun K hK => ?_) ?_
  · have p0 : V.cell? ⟨gb, 0, none⟩ = some (.int .i64 c) := (KB.out.later (below_at BW.out HBS.out)).cell 0
    have p1 : V.cell? ⟨gb, 1, none⟩ = some (.string k) := (KB.out.later (below_at BW.out HBS.out)).cell 1
    have p2 : V.cell? ⟨gb, 2, none⟩ = some (.string v) := (KB.out.later (below_at BW.out HBS.out)).cell 2
    go_simp
    refine hK _ _ ?_
    clear hK K p0 p1 p2
    refine wpAny_ready (rs := [0, 4]) (by kernel_rfl) (by simp) ?_
    refine AllReady.cons rfl (fun K hK => ?_) ?_
    · go_simp
      refine hK _ _ ?_
      clear hK K
      have OWN : Hid ((World.alloc V (.cells #[] 60)).ownsRow base 60 3 (.slice (some ⟨(V).heap.size, 0, none⟩) 0 0) 0 (ocs [])) := World.ownsRow_made V #[] 0 (by have := BW.out.size; have := HBS.out; omega) (by unfold maxLen; omega) rfl
      have BWn : Hid (Below base V (World.alloc V (.cells #[] 60))) := BW.out.trans ((box_below V (.cells #[] 60)).mono (by have := BW.out.size; have := HBS.out; omega))
      clear BW
      have BW := BWn
      clear BWn
      obtain ⟨gA, hgA⟩ : ∃ gA, gA = V.heap.size := ⟨_, rfl⟩
      rw [← hgA] at OWN  ⊢
      have HGA := hid hgA
      clear hgA HGA
      generalize World.alloc V (.cells #[] 60) = w1 at *
      refine wpAny_ready (rs := [2, 4]) (by kernel_rfl) (by simp) ?_
      refine AllReady.cons rfl (fun K hK => ?_) ?_
      · obtain ⟨v13, w2, r13, o13, g13⟩ := app_run w1 base _ 0 [] OWN.out a len cap xs (HO.out.later (below_at BW.out HBS.out)) (by omega) (by have := BW.out.size; have := HBS.out; omega)
        rw [if_pos (by rfl)]
        refine wp_append_run _ _ 26 26 rfl _ _ _ (by rfl) (by rfl) r13 ?_
        refine hK _ _ ?_
        clear hK K
        go_simp
        have BWn : Hid (Below base V w2) := BW.out.grown g13 (by have := BW.out.size; have := HBS.out; omega) (fun j hj => (World.ownsRow.lt OWN.out j hj).1)
        have ON : Hid (w2.ownsRow base 60 3 v13 len (ocs xs)) := by rw [Nat.zero_add, List.nil_append] at o13; exact o13
        clear BW OWN o13 g13 r13
        have BW := BWn
        have OWN := ON
        clear BWn ON
        refine wpAny_ready (rs := [4]) (by kernel_rfl) (by simp) ?_
        refine AllReady.cons rfl (fun K hK => ?_) ?_
        · go_simp
          refine hK _ _ ?_
          clear hK K
          have KZ : Hid (Blk (World.alloc w2 (.cells #[.int .i64 c, .string k, .string v] 60)) w2.heap.size #[.int .i64 c, .string k, .string v]) := Blk.new _ _
          have BWn : Hid (Below base V (World.alloc w2 (.cells #[.int .i64 c, .string k, .string v] 60))) := BW.out.trans ((box_below w2 (.cells #[.int .i64 c, .string k, .string v] 60)).mono (by have := BW.out.size; have := HBS.out; omega))
          have ON := hid (OWN.out.alloc (.cells #[.int .i64 c, .string k, .string v] 60))
          clear OWN
          have OWN := ON
          clear ON
          clear BW
          have BW := BWn
          clear BWn
          obtain ⟨gz, hgz⟩ : ∃ gz, gz = w2.heap.size := ⟨_, rfl⟩
          rw [← hgz] at KZ  ⊢
          clear hgz
          generalize World.alloc w2 (.cells #[.int .i64 c, .string k, .string v] 60) = w3 at *
          refine wpAny_ready (rs := [5]) (by kernel_rfl) (by simp) ?_
          refine AllReady.cons rfl (fun K hK => ?_) ?_
          · obtain ⟨v16, w4, r16, o16, g16⟩ := app_one w3 base _ len xs OWN.out gz c k v KZ.out (by omega) (by have := BW.out.size; have := HBS.out; omega)
            rw [if_pos (by rfl)]
            refine wp_append_run _ _ 26 26 rfl _ _ _ (by rfl) (by rfl) r16 ?_
            refine hK _ _ ?_
            clear hK K
            go_simp
            have BWn : Hid (Below base V w4) := BW.out.grown g16 (by have := BW.out.size; have := HBS.out; omega) (fun j hj => (World.ownsRow.lt OWN.out j hj).1)
            have ON := hid o16
            clear BW OWN o16 g16 r16
            obtain ⟨a6, c6, hv6, HO6⟩ := row_ops ON.out (HOK.out)
            rw [List.length_append, List.length_singleton, HL.out] at hv6 HO6
            subst hv6
            have HO6 := hid HO6
            refine wpAny_take (i := 6) (v := ?v5) rfl (by kernel_rfl) (by kernel_rfl) (by kernel_rfl) (fun _ _ _ h => h) (Or.inl ⟨by rfl, ?h5⟩) ?_
            case h5 => (intro w; go_simp; try (with_reducible rfl))
            go_simp
            refine wpAny_done (by kernel_rfl) ?_ _
            go_wp2_with fail
            refine (HRS.out w4 a6 c6 HO6.out).mono ?_
            rintro e w9 ⟨rfl, b9⟩
            have HO9 := hid (Jo.orow_base (ON.out.kept (It.grown_of_below b9) (by cases hh : (Value.slice a6 (len + 1) c6).ownBlock <;> simp)) (show w.heap.size ≤ base by rw [HBS.out]; exact BV.out.size))
            have BF : Hid (Below w.heap.size w w9) := (BV.out.trans (BWn.out.mono (by rw [HBS.out]; exact BV.out.size))).trans (b9.mono (by have := BV.out.size; have := BWn.out.size; omega))
            clear b9
            go_wp2_with fail
            go_ret2
            exact ⟨_, _, rfl, HO9.out, BF.out⟩
          exact AllReady.nil
        exact AllReady.nil
      refine AllReady.cons rfl (fun K hK => ?_) ?_
      · go_simp
        refine hK _ _ ?_
        clear hK K
        have KZ : Hid (Blk (World.alloc w1 (.cells #[.int .i64 c, .string k, .string v] 60)) w1.heap.size #[.int .i64 c, .string k, .string v]) := Blk.new _ _
        have BWn : Hid (Below base V (World.alloc w1 (.cells #[.int .i64 c, .string k, .string v] 60))) := BW.out.trans ((box_below w1 (.cells #[.int .i64 c, .string k, .string v] 60)).mono (by have := BW.out.size; have := HBS.out; omega))
        have ON := hid (OWN.out.alloc (.cells #[.int .i64 c, .string k, .string v] 60))
        have NE : Hid (w1.heap.size ≠ gA) := by have := (World.ownsRow.lt OWN.out gA rfl).2; show _ ≠ _; omega
        clear OWN
        have OWN := ON
        clear ON
        clear BW
        have BW := BWn
        clear BWn
        obtain ⟨gz, hgz⟩ : ∃ gz, gz = w1.heap.size := ⟨_, rfl⟩
        rw [← hgz] at KZ NE ⊢
        clear hgz
        generalize World.alloc w1 (.cells #[.int .i64 c, .string k, .string v] 60) = w2 at *
        refine wpAny_ready (rs := [2]) (by kernel_rfl) (by simp) ?_
        refine AllReady.cons rfl (fun K hK => ?_) ?_
        · obtain ⟨v13, w3, r13, o13, g13⟩ := app_run w2 base _ 0 [] OWN.out a len cap xs (HO.out.later (below_at BW.out HBS.out)) (by omega) (by have := BW.out.size; have := HBS.out; omega)
          rw [if_pos (by rfl)]
          refine wp_append_run _ _ 26 26 rfl _ _ _ (by rfl) (by rfl) r13 ?_
          refine hK _ _ ?_
          clear hK K
          go_simp
          have BWn : Hid (Below base V w3) := BW.out.grown g13 (by have := BW.out.size; have := HBS.out; omega) (fun j hj => (World.ownsRow.lt OWN.out j hj).1)
          have ON : Hid (w3.ownsRow base 60 3 v13 len (ocs xs)) := by rw [Nat.zero_add, List.nil_append] at o13; exact o13
          have KZn : Hid (Blk w3 gz #[.int .i64 c, .string k, .string v]) := Blk.grown KZ.out g13 (by simp [Value.ownBlock]; exact NE.out)
          clear KZ NE
          have KZ := KZn
          clear KZn
          clear BW OWN o13 g13 r13
          have BW := BWn
          have OWN := ON
          clear BWn ON
          refine wpAny_ready (rs := [5]) (by kernel_rfl) (by simp) ?_
          refine AllReady.cons rfl (fun K hK => ?_) ?_
          · obtain ⟨v16, w4, r16, o16, g16⟩ := app_one w3 base _ len xs OWN.out gz c k v KZ.out (by omega) (by have := BW.out.size; have := HBS.out; omega)
            rw [if_pos (by rfl)]
            refine wp_append_run _ _ 26 26 rfl _ _ _ (by rfl) (by rfl) r16 ?_
            refine hK _ _ ?_
            clear hK K
            go_simp
            have BWn : Hid (Below base V w4) := BW.out.grown g16 (by have := BW.out.size; have := HBS.out; omega) (fun j hj => (World.ownsRow.lt OWN.out j hj).1)
            have ON := hid o16
            clear BW OWN o16 g16 r16
            obtain ⟨a6, c6, hv6, HO6⟩ := row_ops ON.out (HOK.out)
            rw [List.length_append, List.length_singleton, HL.out] at hv6 HO6
            subst hv6
            have HO6 := hid HO6
            refine wpAny_take (i := 6) (v := ?v6) rfl (by kernel_rfl) (by kernel_rfl) (by kernel_rfl) (fun _ _ _ h => h) (Or.inl ⟨by rfl, ?h6⟩) ?_
            case h6 => (intro w; go_simp; try (with_reducible rfl))
            go_simp
            refine wpAny_done (by kernel_rfl) ?_ _
            go_wp2_with fail
            refine (HRS.out w4 a6 c6 HO6.out).mono ?_
            rintro e w9 ⟨rfl, b9⟩
            have HO9 := hid (Jo.orow_base (ON.out.kept (It.grown_of_below b9) (by cases hh : (Value.slice a6 (len + 1) c6).ownBlock <;> simp)) (show w.heap.size ≤ base by rw [HBS.out]; exact BV.out.size))
            have BF : Hid (Below w.heap.size w w9) := (BV.out.trans (BWn.out.mono (by rw [HBS.out]; exact BV.out.size))).trans (b9.mono (by have := BV.out.size; have := BWn.out.size; omega))
            clear b9
            go_wp2_with fail
            go_ret2
            exact ⟨_, _, rfl, HO9.out, BF.out⟩
          exact AllReady.nil
        exact AllReady.nil
      exact AllReady.nil
    refine AllReady.cons rfl (fun K hK => ?_) ?_
    · go_simp
      refine hK _ _ ?_
      clear hK K
      have KZ : Hid (Blk (World.alloc V (.cells #[.int .i64 c, .string k, .string v] 60)) V.heap.size #[.int .i64 c, .string k, .string v]) := Blk.new _ _
      have BWn : Hid (Below base V (World.alloc V (.cells #[.int .i64 c, .string k, .string v] 60))) := BW.out.trans ((box_below V (.cells #[.int .i64 c, .string k, .string v] 60)).mono (by have := BW.out.size; have := HBS.out; omega))
      clear BW
      have BW := BWn
      clear BWn
      obtain ⟨gz, hgz⟩ : ∃ gz, gz = V.heap.size := ⟨_, rfl⟩
      rw [← hgz] at KZ  ⊢
      clear hgz
      generalize World.alloc V (.cells #[.int .i64 c, .string k, .string v] 60) = w1 at *
      refine wpAny_ready (rs := [0]) (by kernel_rfl) (by simp) ?_
      refine AllReady.cons rfl (fun K hK => ?_) ?_
      · go_simp
        refine hK _ _ ?_
        clear hK K
        have OWN : Hid ((World.alloc w1 (.cells #[] 60)).ownsRow base 60 3 (.slice (some ⟨(w1).heap.size, 0, none⟩) 0 0) 0 (ocs [])) := World.ownsRow_made w1 #[] 0 (by have := BW.out.size; have := HBS.out; omega) (by unfold maxLen; omega) rfl
        have BWn : Hid (Below base V (World.alloc w1 (.cells #[] 60))) := BW.out.trans ((box_below w1 (.cells #[] 60)).mono (by have := BW.out.size; have := HBS.out; omega))
        have KZn := hid (KZ.out.later (box_below w1 (.cells #[] 60)))
        have NE : Hid (gz ≠ w1.heap.size) := by have := KZ.out.lt; show _ ≠ _; omega
        clear KZ
        have KZ := KZn
        clear KZn
        clear BW
        have BW := BWn
        clear BWn
        obtain ⟨gA, hgA⟩ : ∃ gA, gA = w1.heap.size := ⟨_, rfl⟩
        rw [← hgA] at OWN NE ⊢
        have HGA := hid hgA
        clear hgA HGA
        generalize World.alloc w1 (.cells #[] 60) = w2 at *
        refine wpAny_ready (rs := [2]) (by kernel_rfl) (by simp) ?_
        refine AllReady.cons rfl (fun K hK => ?_) ?_
        · obtain ⟨v13, w3, r13, o13, g13⟩ := app_run w2 base _ 0 [] OWN.out a len cap xs (HO.out.later (below_at BW.out HBS.out)) (by omega) (by have := BW.out.size; have := HBS.out; omega)
          rw [if_pos (by rfl)]
          refine wp_append_run _ _ 26 26 rfl _ _ _ (by rfl) (by rfl) r13 ?_
          refine hK _ _ ?_
          clear hK K
          go_simp
          have BWn : Hid (Below base V w3) := BW.out.grown g13 (by have := BW.out.size; have := HBS.out; omega) (fun j hj => (World.ownsRow.lt OWN.out j hj).1)
          have ON : Hid (w3.ownsRow base 60 3 v13 len (ocs xs)) := by rw [Nat.zero_add, List.nil_append] at o13; exact o13
          have KZn : Hid (Blk w3 gz #[.int .i64 c, .string k, .string v]) := Blk.grown KZ.out g13 (by simp [Value.ownBlock]; exact NE.out)
          clear KZ NE
          have KZ := KZn
          clear KZn
          clear BW OWN o13 g13 r13
          have BW := BWn
          have OWN := ON
          clear BWn ON
          refine wpAny_ready (rs := [5]) (by kernel_rfl) (by simp) ?_
          refine AllReady.cons rfl (fun K hK => ?_) ?_
          · obtain ⟨v16, w4, r16, o16, g16⟩ := app_one w3 base _ len xs OWN.out gz c k v KZ.out (by omega) (by have := BW.out.size; have := HBS.out; omega)
            rw [if_pos (by rfl)]
            refine wp_append_run _ _ 26 26 rfl _ _ _ (by rfl) (by rfl) r16 ?_
            refine hK _ _ ?_
            clear hK K
            go_simp
            have BWn : Hid (Below base V w4) := BW.out.grown g16 (by have := BW.out.size; have := HBS.out; omega) (fun j hj => (World.ownsRow.lt OWN.out j hj).1)
            have ON := hid o16
            clear BW OWN o16 g16 r16
            obtain ⟨a6, c6, hv6, HO6⟩ := row_ops ON.out (HOK.out)
            rw [List.length_append, List.length_singleton, HL.out] at hv6 HO6
            subst hv6
            have HO6 := hid HO6
            refine wpAny_take (i := 6) (v := ?v7) rfl (by kernel_rfl) (by kernel_rfl) (by kernel_rfl) (fun _ _ _ h => h) (Or.inl ⟨by rfl, ?h7⟩) ?_
            case h7 => (intro w; go_simp; try (with_reducible rfl))
            go_simp
            refine wpAny_done (by kernel_rfl) ?_ _
            go_wp2_with fail
            refine (HRS.out w4 a6 c6 HO6.out).mono ?_
            rintro e w9 ⟨rfl, b9⟩
            have HO9 := hid (Jo.orow_base (ON.out.kept (It.grown_of_below b9) (by cases hh : (Value.slice a6 (len + 1) c6).ownBlock <;> simp)) (show w.heap.size ≤ base by rw [HBS.out]; exact BV.out.size))
            have BF : Hid (Below w.heap.size w w9) := (BV.out.trans (BWn.out.mono (by rw [HBS.out]; exact BV.out.size))).trans (b9.mono (by have := BV.out.size; have := BWn.out.size; omega))
            clear b9
            go_wp2_with fail
            go_ret2
            exact ⟨_, _, rfl, HO9.out, BF.out⟩
          exact AllReady.nil
        exact AllReady.nil
      exact AllReady.nil
    exact AllReady.nil
  exact AllReady.nil
set_option maxRecDepth 100000 in
set_option maxHeartbeats 4000000 in
theorem rput_big (a : Option Addr) (len cap : Nat) (xs : List O) (c : Int) (k v : ByteArray) (w : World) (H : Ops w a len cap xs) (hl : len ≤ 4096) (hm : ∀ x ∈ xs, may x = true) (hmay : may ⟨c, k, v⟩ = true) (hl2 : len < 4096) (hz : 1048576 < bsz (xs ++ [⟨c, k, v⟩])) :
    Calls Try.prog 30 #[.slice a len cap, .agg #[.int .i64 c, .string k, .string v]] w fun e w' => e = .returned (.tuple #[.slice a len cap, .int .i64 3]) ∧ Below w.heap.size w w' := by
  have HM : Hid (∀ W, Calls Try.prog 47 #[.agg #[.int .i64 c, .string k, .string v]] W fun e w' => e = .returned (.bool true) ∧ Below W.heap.size W w') := fun W => by
    have := rmay_any c k v W
    rw [hmay] at this
    exact this
  have HL : Hid (xs.length = len) := H.1
  have HMM : Hid (∀ x ∈ xs ++ [⟨c, k, v⟩], may x = true) := fun x hx => by
    rcases List.mem_append.1 hx with hx | hx
    · exact hm x hx
    · simp at hx; rw [hx]; exact hmay
  have HOK : Hid (∀ x ∈ xs ++ [(⟨c, k, v⟩ : O)], x.ok) := fun x hx => may_ok (HMM.out x hx)
  have HRS : Hid (∀ W a' c', Ops W a' (len + 1) c' (xs ++ [⟨c, k, v⟩]) → Calls Try.prog 48 #[.slice a' (len + 1) c'] W fun e w' => e = .returned (.int .i64 (bsz (xs ++ [⟨c, k, v⟩]))) ∧ Below W.heap.size W w') := fun W a' c' h => rsize_any a' (len + 1) c' _ W h (by omega) HMM.out
  generalize hZ : bsz (xs ++ [⟨c, k, v⟩]) = Z at *
  have n1 : ¬ (4096 : Int) < (len : Int) + 1 := by omega
  have n2 : (1048576 : Int) < (Z : Int) := by omega
  clear hmay hm
  obtain ⟨W0, hW0⟩ : ∃ W0, W0 = w.alloc (.cells #[.int .i64 c, .string k, .string v] 60) := ⟨_, rfl⟩
  obtain ⟨gb, hgb⟩ : ∃ gb, gb = w.heap.size := ⟨_, rfl⟩
  have KB : Hid (Blk W0 gb #[.int .i64 c, .string k, .string v]) := by show Blk _ _ _; rw [hW0, hgb]; exact Blk.new _ _
  have BW0 : Hid (Below w.heap.size w W0) := by show Below _ _ _; rw [hW0]; exact box_below _ _
  have HO0 := hid (H.later BW0.out)
  have HW0 := hid hW0
  have HGB := hid hgb
  clear hW0 hgb H
  go_enter Try.func30, Try.ntmps30
  go_wp2_with fail
  rw [← HW0.out, ← HGB.out]
  have p0 : W0.cell? ⟨gb, 0, none⟩ = some (.int .i64 c) := KB.out.cell 0
  have p1 : W0.cell? ⟨gb, 1, none⟩ = some (.string k) := KB.out.cell 1
  have p2 : W0.cell? ⟨gb, 2, none⟩ = some (.string v) := KB.out.cell 2
  go_wp2_with fail
  refine (HM.out W0).mono ?_
  rintro e w1 ⟨rfl, b1⟩
  have KB1 := hid (KB.out.later b1)
  have HO1 := hid (HO0.out.later b1)
  have BW1 : Hid (Below w.heap.size w w1) := BW0.out.trans (b1.mono BW0.out.size)
  clear p0 p1 p2 b1 KB HO0 BW0 HW0
  go_wp2_with fail
  refine wp_region_any (by kernel_rfl) ?_
  change wpAny _ _ _ _ _ _ _ (World.drew _)
  obtain ⟨V, hV⟩ : ∃ V, V = World.drew w1 := ⟨_, rfl⟩
  have dB : Below w1.heap.size w1 V := by rw [hV]; exact (Below.refl _ _).drew
  rw [← hV]
  have KB := hid (KB1.out.later dB)
  have HO := hid (HO1.out.later dB)
  have BV : Hid (Below w.heap.size w V) := BW1.out.trans (dB.mono BW1.out.size)
  obtain ⟨base, hbs⟩ : ∃ base, base = V.heap.size := ⟨_, rfl⟩
  have HBS := hid hbs
  have BW : Hid (Below base V V) := Below.refl _ _
  clear hV dB KB1 HO1 BW1 hbs w1
  refine wpAny_take (i := 1) (v := ?v8) rfl (by kernel_rfl) (by kernel_rfl) (by kernel_rfl) (fun _ _ _ h => h) (Or.inl ⟨by rfl, ?h8⟩) ?_
  case h8 => (intro w; go_simp; try (with_reducible rfl))
  go_simp
  refine wpAny_ready (rs := [0, 3]) (by kernel_rfl) (by simp) ?_
  refine AllReady.cons rfl (fun K hK => ?_) ?_
  · go_simp
    refine hK _ _ ?_
    clear hK K
    have OWN : Hid ((World.alloc V (.cells #[] 60)).ownsRow base 60 3 (.slice (some ⟨(V).heap.size, 0, none⟩) 0 0) 0 (ocs [])) := World.ownsRow_made V #[] 0 (by have := BW.out.size; have := HBS.out; omega) (by unfold maxLen; omega) rfl
    have BWn : Hid (Below base V (World.alloc V (.cells #[] 60))) := BW.out.trans ((box_below V (.cells #[] 60)).mono (by have := BW.out.size; have := HBS.out; omega))
    clear BW
    have BW := BWn
    clear BWn
    obtain ⟨gA, hgA⟩ : ∃ gA, gA = V.heap.size := ⟨_, rfl⟩
    rw [← hgA] at OWN  ⊢
    have HGA := hid hgA
    clear hgA HGA
    generalize World.alloc V (.cells #[] 60) = w1 at *
    refine wpAny_ready (rs := [2, 3]) (by kernel_rfl) (by simp) ?_
    refine AllReady.cons rfl (fun K hK => ?_) ?_
    · obtain ⟨v13, w2, r13, o13, g13⟩ := app_run w1 base _ 0 [] OWN.out a len cap xs (HO.out.later (below_at BW.out HBS.out)) (by omega) (by have := BW.out.size; have := HBS.out; omega)
      rw [if_pos (by rfl)]
      refine wp_append_run _ _ 26 26 rfl _ _ _ (by rfl) (by rfl) r13 ?_
      refine hK _ _ ?_
      clear hK K
      go_simp
      have BWn : Hid (Below base V w2) := BW.out.grown g13 (by have := BW.out.size; have := HBS.out; omega) (fun j hj => (World.ownsRow.lt OWN.out j hj).1)
      have ON : Hid (w2.ownsRow base 60 3 v13 len (ocs xs)) := by rw [Nat.zero_add, List.nil_append] at o13; exact o13
      clear BW OWN o13 g13 r13
      have BW := BWn
      have OWN := ON
      clear BWn ON
      refine wpAny_ready (rs := [3]) (by kernel_rfl) (by simp) ?_
      refine AllReady.cons rfl (fun K hK => ?_) ?_
      · have p0 : w2.cell? ⟨gb, 0, none⟩ = some (.int .i64 c) := (KB.out.later (below_at BW.out HBS.out)).cell 0
        have p1 : w2.cell? ⟨gb, 1, none⟩ = some (.string k) := (KB.out.later (below_at BW.out HBS.out)).cell 1
        have p2 : w2.cell? ⟨gb, 2, none⟩ = some (.string v) := (KB.out.later (below_at BW.out HBS.out)).cell 2
        go_simp
        refine hK _ _ ?_
        clear hK K p0 p1 p2
        refine wpAny_ready (rs := [4]) (by kernel_rfl) (by simp) ?_
        refine AllReady.cons rfl (fun K hK => ?_) ?_
        · go_simp
          refine hK _ _ ?_
          clear hK K
          have KZ : Hid (Blk (World.alloc w2 (.cells #[.int .i64 c, .string k, .string v] 60)) w2.heap.size #[.int .i64 c, .string k, .string v]) := Blk.new _ _
          have BWn : Hid (Below base V (World.alloc w2 (.cells #[.int .i64 c, .string k, .string v] 60))) := BW.out.trans ((box_below w2 (.cells #[.int .i64 c, .string k, .string v] 60)).mono (by have := BW.out.size; have := HBS.out; omega))
          have ON := hid (OWN.out.alloc (.cells #[.int .i64 c, .string k, .string v] 60))
          clear OWN
          have OWN := ON
          clear ON
          clear BW
          have BW := BWn
          clear BWn
          obtain ⟨gz, hgz⟩ : ∃ gz, gz = w2.heap.size := ⟨_, rfl⟩
          rw [← hgz] at KZ  ⊢
          clear hgz
          generalize World.alloc w2 (.cells #[.int .i64 c, .string k, .string v] 60) = w3 at *
          refine wpAny_ready (rs := [5]) (by kernel_rfl) (by simp) ?_
          refine AllReady.cons rfl (fun K hK => ?_) ?_
          · obtain ⟨v16, w4, r16, o16, g16⟩ := app_one w3 base _ len xs OWN.out gz c k v KZ.out (by omega) (by have := BW.out.size; have := HBS.out; omega)
            rw [if_pos (by rfl)]
            refine wp_append_run _ _ 26 26 rfl _ _ _ (by rfl) (by rfl) r16 ?_
            refine hK _ _ ?_
            clear hK K
            go_simp
            have BWn : Hid (Below base V w4) := BW.out.grown g16 (by have := BW.out.size; have := HBS.out; omega) (fun j hj => (World.ownsRow.lt OWN.out j hj).1)
            have ON := hid o16
            clear BW OWN o16 g16 r16
            obtain ⟨a6, c6, hv6, HO6⟩ := row_ops ON.out (HOK.out)
            rw [List.length_append, List.length_singleton, HL.out] at hv6 HO6
            subst hv6
            have HO6 := hid HO6
            refine wpAny_take (i := 6) (v := ?v9) rfl (by kernel_rfl) (by kernel_rfl) (by kernel_rfl) (fun _ _ _ h => h) (Or.inl ⟨by rfl, ?h9⟩) ?_
            case h9 => (intro w; go_simp; try (with_reducible rfl))
            go_simp
            refine wpAny_done (by kernel_rfl) ?_ _
            go_wp2_with fail
            refine (HRS.out w4 a6 c6 HO6.out).mono ?_
            rintro e w9 ⟨rfl, b9⟩
            have BF : Hid (Below w.heap.size w w9) := (BV.out.trans (BWn.out.mono (by rw [HBS.out]; exact BV.out.size))).trans (b9.mono (by have := BV.out.size; have := BWn.out.size; omega))
            clear b9
            go_wp2_with fail
            go_ret2
            exact ⟨rfl, BF.out⟩
          exact AllReady.nil
        exact AllReady.nil
      exact AllReady.nil
    refine AllReady.cons rfl (fun K hK => ?_) ?_
    · have p0 : w1.cell? ⟨gb, 0, none⟩ = some (.int .i64 c) := (KB.out.later (below_at BW.out HBS.out)).cell 0
      have p1 : w1.cell? ⟨gb, 1, none⟩ = some (.string k) := (KB.out.later (below_at BW.out HBS.out)).cell 1
      have p2 : w1.cell? ⟨gb, 2, none⟩ = some (.string v) := (KB.out.later (below_at BW.out HBS.out)).cell 2
      go_simp
      refine hK _ _ ?_
      clear hK K p0 p1 p2
      refine wpAny_ready (rs := [2, 4]) (by kernel_rfl) (by simp) ?_
      refine AllReady.cons rfl (fun K hK => ?_) ?_
      · obtain ⟨v13, w2, r13, o13, g13⟩ := app_run w1 base _ 0 [] OWN.out a len cap xs (HO.out.later (below_at BW.out HBS.out)) (by omega) (by have := BW.out.size; have := HBS.out; omega)
        rw [if_pos (by rfl)]
        refine wp_append_run _ _ 26 26 rfl _ _ _ (by rfl) (by rfl) r13 ?_
        refine hK _ _ ?_
        clear hK K
        go_simp
        have BWn : Hid (Below base V w2) := BW.out.grown g13 (by have := BW.out.size; have := HBS.out; omega) (fun j hj => (World.ownsRow.lt OWN.out j hj).1)
        have ON : Hid (w2.ownsRow base 60 3 v13 len (ocs xs)) := by rw [Nat.zero_add, List.nil_append] at o13; exact o13
        clear BW OWN o13 g13 r13
        have BW := BWn
        have OWN := ON
        clear BWn ON
        refine wpAny_ready (rs := [4]) (by kernel_rfl) (by simp) ?_
        refine AllReady.cons rfl (fun K hK => ?_) ?_
        · go_simp
          refine hK _ _ ?_
          clear hK K
          have KZ : Hid (Blk (World.alloc w2 (.cells #[.int .i64 c, .string k, .string v] 60)) w2.heap.size #[.int .i64 c, .string k, .string v]) := Blk.new _ _
          have BWn : Hid (Below base V (World.alloc w2 (.cells #[.int .i64 c, .string k, .string v] 60))) := BW.out.trans ((box_below w2 (.cells #[.int .i64 c, .string k, .string v] 60)).mono (by have := BW.out.size; have := HBS.out; omega))
          have ON := hid (OWN.out.alloc (.cells #[.int .i64 c, .string k, .string v] 60))
          clear OWN
          have OWN := ON
          clear ON
          clear BW
          have BW := BWn
          clear BWn
          obtain ⟨gz, hgz⟩ : ∃ gz, gz = w2.heap.size := ⟨_, rfl⟩
          rw [← hgz] at KZ  ⊢
          clear hgz
          generalize World.alloc w2 (.cells #[.int .i64 c, .string k, .string v] 60) = w3 at *
          refine wpAny_ready (rs := [5]) (by kernel_rfl) (by simp) ?_
          refine AllReady.cons rfl (fun K hK => ?_) ?_
          · obtain ⟨v16, w4, r16, o16, g16⟩ := app_one w3 base _ len xs OWN.out gz c k v KZ.out (by omega) (by have := BW.out.size; have := HBS.out; omega)
            rw [if_pos (by rfl)]
            refine wp_append_run _ _ 26 26 rfl _ _ _ (by rfl) (by rfl) r16 ?_
            refine hK _ _ ?_
            clear hK K
            go_simp
            have BWn : Hid (Below base V w4) := BW.out.grown g16 (by have := BW.out.size; have := HBS.out; omega) (fun j hj => (World.ownsRow.lt OWN.out j hj).1)
            have ON := hid o16
            clear BW OWN o16 g16 r16
            obtain ⟨a6, c6, hv6, HO6⟩ := row_ops ON.out (HOK.out)
            rw [List.length_append, List.length_singleton, HL.out] at hv6 HO6
            subst hv6
            have HO6 := hid HO6
            refine wpAny_take (i := 6) (v := ?v10) rfl (by kernel_rfl) (by kernel_rfl) (by kernel_rfl) (fun _ _ _ h => h) (Or.inl ⟨by rfl, ?h10⟩) ?_
            case h10 => (intro w; go_simp; try (with_reducible rfl))
            go_simp
            refine wpAny_done (by kernel_rfl) ?_ _
            go_wp2_with fail
            refine (HRS.out w4 a6 c6 HO6.out).mono ?_
            rintro e w9 ⟨rfl, b9⟩
            have BF : Hid (Below w.heap.size w w9) := (BV.out.trans (BWn.out.mono (by rw [HBS.out]; exact BV.out.size))).trans (b9.mono (by have := BV.out.size; have := BWn.out.size; omega))
            clear b9
            go_wp2_with fail
            go_ret2
            exact ⟨rfl, BF.out⟩
          exact AllReady.nil
        exact AllReady.nil
      refine AllReady.cons rfl (fun K hK => ?_) ?_
      · go_simp
        refine hK _ _ ?_
        clear hK K
        have KZ : Hid (Blk (World.alloc w1 (.cells #[.int .i64 c, .string k, .string v] 60)) w1.heap.size #[.int .i64 c, .string k, .string v]) := Blk.new _ _
        have BWn : Hid (Below base V (World.alloc w1 (.cells #[.int .i64 c, .string k, .string v] 60))) := BW.out.trans ((box_below w1 (.cells #[.int .i64 c, .string k, .string v] 60)).mono (by have := BW.out.size; have := HBS.out; omega))
        have ON := hid (OWN.out.alloc (.cells #[.int .i64 c, .string k, .string v] 60))
        have NE : Hid (w1.heap.size ≠ gA) := by have := (World.ownsRow.lt OWN.out gA rfl).2; show _ ≠ _; omega
        clear OWN
        have OWN := ON
        clear ON
        clear BW
        have BW := BWn
        clear BWn
        obtain ⟨gz, hgz⟩ : ∃ gz, gz = w1.heap.size := ⟨_, rfl⟩
        rw [← hgz] at KZ NE ⊢
        clear hgz
        generalize World.alloc w1 (.cells #[.int .i64 c, .string k, .string v] 60) = w2 at *
        refine wpAny_ready (rs := [2]) (by kernel_rfl) (by simp) ?_
        refine AllReady.cons rfl (fun K hK => ?_) ?_
        · obtain ⟨v13, w3, r13, o13, g13⟩ := app_run w2 base _ 0 [] OWN.out a len cap xs (HO.out.later (below_at BW.out HBS.out)) (by omega) (by have := BW.out.size; have := HBS.out; omega)
          rw [if_pos (by rfl)]
          refine wp_append_run _ _ 26 26 rfl _ _ _ (by rfl) (by rfl) r13 ?_
          refine hK _ _ ?_
          clear hK K
          go_simp
          have BWn : Hid (Below base V w3) := BW.out.grown g13 (by have := BW.out.size; have := HBS.out; omega) (fun j hj => (World.ownsRow.lt OWN.out j hj).1)
          have ON : Hid (w3.ownsRow base 60 3 v13 len (ocs xs)) := by rw [Nat.zero_add, List.nil_append] at o13; exact o13
          have KZn : Hid (Blk w3 gz #[.int .i64 c, .string k, .string v]) := Blk.grown KZ.out g13 (by simp [Value.ownBlock]; exact NE.out)
          clear KZ NE
          have KZ := KZn
          clear KZn
          clear BW OWN o13 g13 r13
          have BW := BWn
          have OWN := ON
          clear BWn ON
          refine wpAny_ready (rs := [5]) (by kernel_rfl) (by simp) ?_
          refine AllReady.cons rfl (fun K hK => ?_) ?_
          · obtain ⟨v16, w4, r16, o16, g16⟩ := app_one w3 base _ len xs OWN.out gz c k v KZ.out (by omega) (by have := BW.out.size; have := HBS.out; omega)
            rw [if_pos (by rfl)]
            refine wp_append_run _ _ 26 26 rfl _ _ _ (by rfl) (by rfl) r16 ?_
            refine hK _ _ ?_
            clear hK K
            go_simp
            have BWn : Hid (Below base V w4) := BW.out.grown g16 (by have := BW.out.size; have := HBS.out; omega) (fun j hj => (World.ownsRow.lt OWN.out j hj).1)
            have ON := hid o16
            clear BW OWN o16 g16 r16
            obtain ⟨a6, c6, hv6, HO6⟩ := row_ops ON.out (HOK.out)
            rw [List.length_append, List.length_singleton, HL.out] at hv6 HO6
            subst hv6
            have HO6 := hid HO6
            refine wpAny_take (i := 6) (v := ?v11) rfl (by kernel_rfl) (by kernel_rfl) (by kernel_rfl) (fun _ _ _ h => h) (Or.inl ⟨by rfl, ?h11⟩) ?_
            case h11 => (intro w; go_simp; try (with_reducible rfl))
            go_simp
            refine wpAny_done (by kernel_rfl) ?_ _
            go_wp2_with fail
            refine (HRS.out w4 a6 c6 HO6.out).mono ?_
            rintro e w9 ⟨rfl, b9⟩
            have BF : Hid (Below w.heap.size w w9) := (BV.out.trans (BWn.out.mono (by rw [HBS.out]; exact BV.out.size))).trans (b9.mono (by have := BV.out.size; have := BWn.out.size; omega))
            clear b9
            go_wp2_with fail
            go_ret2
            exact ⟨rfl, BF.out⟩
          exact AllReady.nil
        exact AllReady.nil
      exact AllReady.nil
    exact AllReady.nil
  refine AllReady.cons rfl (fun K hK => ?_) ?_
  · have p0 : V.cell? ⟨gb, 0, none⟩ = some (.int .i64 c) := (KB.out.later (below_at BW.out HBS.out)).cell 0
    have p1 : V.cell? ⟨gb, 1, none⟩ = some (.string k) := (KB.out.later (below_at BW.out HBS.out)).cell 1
    have p2 : V.cell? ⟨gb, 2, none⟩ = some (.string v) := (KB.out.later (below_at BW.out HBS.out)).cell 2
    go_simp
    refine hK _ _ ?_
    clear hK K p0 p1 p2
    refine wpAny_ready (rs := [0, 4]) (by kernel_rfl) (by simp) ?_
    refine AllReady.cons rfl (fun K hK => ?_) ?_
    · go_simp
      refine hK _ _ ?_
      clear hK K
      have OWN : Hid ((World.alloc V (.cells #[] 60)).ownsRow base 60 3 (.slice (some ⟨(V).heap.size, 0, none⟩) 0 0) 0 (ocs [])) := World.ownsRow_made V #[] 0 (by have := BW.out.size; have := HBS.out; omega) (by unfold maxLen; omega) rfl
      have BWn : Hid (Below base V (World.alloc V (.cells #[] 60))) := BW.out.trans ((box_below V (.cells #[] 60)).mono (by have := BW.out.size; have := HBS.out; omega))
      clear BW
      have BW := BWn
      clear BWn
      obtain ⟨gA, hgA⟩ : ∃ gA, gA = V.heap.size := ⟨_, rfl⟩
      rw [← hgA] at OWN  ⊢
      have HGA := hid hgA
      clear hgA HGA
      generalize World.alloc V (.cells #[] 60) = w1 at *
      refine wpAny_ready (rs := [2, 4]) (by kernel_rfl) (by simp) ?_
      refine AllReady.cons rfl (fun K hK => ?_) ?_
      · obtain ⟨v13, w2, r13, o13, g13⟩ := app_run w1 base _ 0 [] OWN.out a len cap xs (HO.out.later (below_at BW.out HBS.out)) (by omega) (by have := BW.out.size; have := HBS.out; omega)
        rw [if_pos (by rfl)]
        refine wp_append_run _ _ 26 26 rfl _ _ _ (by rfl) (by rfl) r13 ?_
        refine hK _ _ ?_
        clear hK K
        go_simp
        have BWn : Hid (Below base V w2) := BW.out.grown g13 (by have := BW.out.size; have := HBS.out; omega) (fun j hj => (World.ownsRow.lt OWN.out j hj).1)
        have ON : Hid (w2.ownsRow base 60 3 v13 len (ocs xs)) := by rw [Nat.zero_add, List.nil_append] at o13; exact o13
        clear BW OWN o13 g13 r13
        have BW := BWn
        have OWN := ON
        clear BWn ON
        refine wpAny_ready (rs := [4]) (by kernel_rfl) (by simp) ?_
        refine AllReady.cons rfl (fun K hK => ?_) ?_
        · go_simp
          refine hK _ _ ?_
          clear hK K
          have KZ : Hid (Blk (World.alloc w2 (.cells #[.int .i64 c, .string k, .string v] 60)) w2.heap.size #[.int .i64 c, .string k, .string v]) := Blk.new _ _
          have BWn : Hid (Below base V (World.alloc w2 (.cells #[.int .i64 c, .string k, .string v] 60))) := BW.out.trans ((box_below w2 (.cells #[.int .i64 c, .string k, .string v] 60)).mono (by have := BW.out.size; have := HBS.out; omega))
          have ON := hid (OWN.out.alloc (.cells #[.int .i64 c, .string k, .string v] 60))
          clear OWN
          have OWN := ON
          clear ON
          clear BW
          have BW := BWn
          clear BWn
          obtain ⟨gz, hgz⟩ : ∃ gz, gz = w2.heap.size := ⟨_, rfl⟩
          rw [← hgz] at KZ  ⊢
          clear hgz
          generalize World.alloc w2 (.cells #[.int .i64 c, .string k, .string v] 60) = w3 at *
          refine wpAny_ready (rs := [5]) (by kernel_rfl) (by simp) ?_
          refine AllReady.cons rfl (fun K hK => ?_) ?_
          · obtain ⟨v16, w4, r16, o16, g16⟩ := app_one w3 base _ len xs OWN.out gz c k v KZ.out (by omega) (by have := BW.out.size; have := HBS.out; omega)
            rw [if_pos (by rfl)]
            refine wp_append_run _ _ 26 26 rfl _ _ _ (by rfl) (by rfl) r16 ?_
            refine hK _ _ ?_
            clear hK K
            go_simp
            have BWn : Hid (Below base V w4) := BW.out.grown g16 (by have := BW.out.size; have := HBS.out; omega) (fun j hj => (World.ownsRow.lt OWN.out j hj).1)
            have ON := hid o16
            clear BW OWN o16 g16 r16
            obtain ⟨a6, c6, hv6, HO6⟩ := row_ops ON.out (HOK.out)
            rw [List.length_append, List.length_singleton, HL.out] at hv6 HO6
            subst hv6
            have HO6 := hid HO6
            refine wpAny_take (i := 6) (v := ?v12) rfl (by kernel_rfl) (by kernel_rfl) (by kernel_rfl) (fun _ _ _ h => h) (Or.inl ⟨by rfl, ?h12⟩) ?_
            case h12 => (intro w; go_simp; try (with_reducible rfl))
            go_simp
            refine wpAny_done (by kernel_rfl) ?_ _
            go_wp2_with fail
            refine (HRS.out w4 a6 c6 HO6.out).mono ?_
            rintro e w9 ⟨rfl, b9⟩
            have BF : Hid (Below w.heap.size w w9) := (BV.out.trans (BWn.out.mono (by rw [HBS.out]; exact BV.out.size))).trans (b9.mono (by have := BV.out.size; have := BWn.out.size; omega))
            clear b9
            go_wp2_with fail
            go_ret2
            exact ⟨rfl, BF.out⟩
          exact AllReady.nil
        exact AllReady.nil
      refine AllReady.cons rfl (fun K hK => ?_) ?_
      · go_simp
        refine hK _ _ ?_
        clear hK K
        have KZ : Hid (Blk (World.alloc w1 (.cells #[.int .i64 c, .string k, .string v] 60)) w1.heap.size #[.int .i64 c, .string k, .string v]) := Blk.new _ _
        have BWn : Hid (Below base V (World.alloc w1 (.cells #[.int .i64 c, .string k, .string v] 60))) := BW.out.trans ((box_below w1 (.cells #[.int .i64 c, .string k, .string v] 60)).mono (by have := BW.out.size; have := HBS.out; omega))
        have ON := hid (OWN.out.alloc (.cells #[.int .i64 c, .string k, .string v] 60))
        have NE : Hid (w1.heap.size ≠ gA) := by have := (World.ownsRow.lt OWN.out gA rfl).2; show _ ≠ _; omega
        clear OWN
        have OWN := ON
        clear ON
        clear BW
        have BW := BWn
        clear BWn
        obtain ⟨gz, hgz⟩ : ∃ gz, gz = w1.heap.size := ⟨_, rfl⟩
        rw [← hgz] at KZ NE ⊢
        clear hgz
        generalize World.alloc w1 (.cells #[.int .i64 c, .string k, .string v] 60) = w2 at *
        refine wpAny_ready (rs := [2]) (by kernel_rfl) (by simp) ?_
        refine AllReady.cons rfl (fun K hK => ?_) ?_
        · obtain ⟨v13, w3, r13, o13, g13⟩ := app_run w2 base _ 0 [] OWN.out a len cap xs (HO.out.later (below_at BW.out HBS.out)) (by omega) (by have := BW.out.size; have := HBS.out; omega)
          rw [if_pos (by rfl)]
          refine wp_append_run _ _ 26 26 rfl _ _ _ (by rfl) (by rfl) r13 ?_
          refine hK _ _ ?_
          clear hK K
          go_simp
          have BWn : Hid (Below base V w3) := BW.out.grown g13 (by have := BW.out.size; have := HBS.out; omega) (fun j hj => (World.ownsRow.lt OWN.out j hj).1)
          have ON : Hid (w3.ownsRow base 60 3 v13 len (ocs xs)) := by rw [Nat.zero_add, List.nil_append] at o13; exact o13
          have KZn : Hid (Blk w3 gz #[.int .i64 c, .string k, .string v]) := Blk.grown KZ.out g13 (by simp [Value.ownBlock]; exact NE.out)
          clear KZ NE
          have KZ := KZn
          clear KZn
          clear BW OWN o13 g13 r13
          have BW := BWn
          have OWN := ON
          clear BWn ON
          refine wpAny_ready (rs := [5]) (by kernel_rfl) (by simp) ?_
          refine AllReady.cons rfl (fun K hK => ?_) ?_
          · obtain ⟨v16, w4, r16, o16, g16⟩ := app_one w3 base _ len xs OWN.out gz c k v KZ.out (by omega) (by have := BW.out.size; have := HBS.out; omega)
            rw [if_pos (by rfl)]
            refine wp_append_run _ _ 26 26 rfl _ _ _ (by rfl) (by rfl) r16 ?_
            refine hK _ _ ?_
            clear hK K
            go_simp
            have BWn : Hid (Below base V w4) := BW.out.grown g16 (by have := BW.out.size; have := HBS.out; omega) (fun j hj => (World.ownsRow.lt OWN.out j hj).1)
            have ON := hid o16
            clear BW OWN o16 g16 r16
            obtain ⟨a6, c6, hv6, HO6⟩ := row_ops ON.out (HOK.out)
            rw [List.length_append, List.length_singleton, HL.out] at hv6 HO6
            subst hv6
            have HO6 := hid HO6
            refine wpAny_take (i := 6) (v := ?v13) rfl (by kernel_rfl) (by kernel_rfl) (by kernel_rfl) (fun _ _ _ h => h) (Or.inl ⟨by rfl, ?h13⟩) ?_
            case h13 => (intro w; go_simp; try (with_reducible rfl))
            go_simp
            refine wpAny_done (by kernel_rfl) ?_ _
            go_wp2_with fail
            refine (HRS.out w4 a6 c6 HO6.out).mono ?_
            rintro e w9 ⟨rfl, b9⟩
            have BF : Hid (Below w.heap.size w w9) := (BV.out.trans (BWn.out.mono (by rw [HBS.out]; exact BV.out.size))).trans (b9.mono (by have := BV.out.size; have := BWn.out.size; omega))
            clear b9
            go_wp2_with fail
            go_ret2
            exact ⟨rfl, BF.out⟩
          exact AllReady.nil
        exact AllReady.nil
      exact AllReady.nil
    refine AllReady.cons rfl (fun K hK => ?_) ?_
    · go_simp
      refine hK _ _ ?_
      clear hK K
      have KZ : Hid (Blk (World.alloc V (.cells #[.int .i64 c, .string k, .string v] 60)) V.heap.size #[.int .i64 c, .string k, .string v]) := Blk.new _ _
      have BWn : Hid (Below base V (World.alloc V (.cells #[.int .i64 c, .string k, .string v] 60))) := BW.out.trans ((box_below V (.cells #[.int .i64 c, .string k, .string v] 60)).mono (by have := BW.out.size; have := HBS.out; omega))
      clear BW
      have BW := BWn
      clear BWn
      obtain ⟨gz, hgz⟩ : ∃ gz, gz = V.heap.size := ⟨_, rfl⟩
      rw [← hgz] at KZ  ⊢
      clear hgz
      generalize World.alloc V (.cells #[.int .i64 c, .string k, .string v] 60) = w1 at *
      refine wpAny_ready (rs := [0]) (by kernel_rfl) (by simp) ?_
      refine AllReady.cons rfl (fun K hK => ?_) ?_
      · go_simp
        refine hK _ _ ?_
        clear hK K
        have OWN : Hid ((World.alloc w1 (.cells #[] 60)).ownsRow base 60 3 (.slice (some ⟨(w1).heap.size, 0, none⟩) 0 0) 0 (ocs [])) := World.ownsRow_made w1 #[] 0 (by have := BW.out.size; have := HBS.out; omega) (by unfold maxLen; omega) rfl
        have BWn : Hid (Below base V (World.alloc w1 (.cells #[] 60))) := BW.out.trans ((box_below w1 (.cells #[] 60)).mono (by have := BW.out.size; have := HBS.out; omega))
        have KZn := hid (KZ.out.later (box_below w1 (.cells #[] 60)))
        have NE : Hid (gz ≠ w1.heap.size) := by have := KZ.out.lt; show _ ≠ _; omega
        clear KZ
        have KZ := KZn
        clear KZn
        clear BW
        have BW := BWn
        clear BWn
        obtain ⟨gA, hgA⟩ : ∃ gA, gA = w1.heap.size := ⟨_, rfl⟩
        rw [← hgA] at OWN NE ⊢
        have HGA := hid hgA
        clear hgA HGA
        generalize World.alloc w1 (.cells #[] 60) = w2 at *
        refine wpAny_ready (rs := [2]) (by kernel_rfl) (by simp) ?_
        refine AllReady.cons rfl (fun K hK => ?_) ?_
        · obtain ⟨v13, w3, r13, o13, g13⟩ := app_run w2 base _ 0 [] OWN.out a len cap xs (HO.out.later (below_at BW.out HBS.out)) (by omega) (by have := BW.out.size; have := HBS.out; omega)
          rw [if_pos (by rfl)]
          refine wp_append_run _ _ 26 26 rfl _ _ _ (by rfl) (by rfl) r13 ?_
          refine hK _ _ ?_
          clear hK K
          go_simp
          have BWn : Hid (Below base V w3) := BW.out.grown g13 (by have := BW.out.size; have := HBS.out; omega) (fun j hj => (World.ownsRow.lt OWN.out j hj).1)
          have ON : Hid (w3.ownsRow base 60 3 v13 len (ocs xs)) := by rw [Nat.zero_add, List.nil_append] at o13; exact o13
          have KZn : Hid (Blk w3 gz #[.int .i64 c, .string k, .string v]) := Blk.grown KZ.out g13 (by simp [Value.ownBlock]; exact NE.out)
          clear KZ NE
          have KZ := KZn
          clear KZn
          clear BW OWN o13 g13 r13
          have BW := BWn
          have OWN := ON
          clear BWn ON
          refine wpAny_ready (rs := [5]) (by kernel_rfl) (by simp) ?_
          refine AllReady.cons rfl (fun K hK => ?_) ?_
          · obtain ⟨v16, w4, r16, o16, g16⟩ := app_one w3 base _ len xs OWN.out gz c k v KZ.out (by omega) (by have := BW.out.size; have := HBS.out; omega)
            rw [if_pos (by rfl)]
            refine wp_append_run _ _ 26 26 rfl _ _ _ (by rfl) (by rfl) r16 ?_
            refine hK _ _ ?_
            clear hK K
            go_simp
            have BWn : Hid (Below base V w4) := BW.out.grown g16 (by have := BW.out.size; have := HBS.out; omega) (fun j hj => (World.ownsRow.lt OWN.out j hj).1)
            have ON := hid o16
            clear BW OWN o16 g16 r16
            obtain ⟨a6, c6, hv6, HO6⟩ := row_ops ON.out (HOK.out)
            rw [List.length_append, List.length_singleton, HL.out] at hv6 HO6
            subst hv6
            have HO6 := hid HO6
            refine wpAny_take (i := 6) (v := ?v14) rfl (by kernel_rfl) (by kernel_rfl) (by kernel_rfl) (fun _ _ _ h => h) (Or.inl ⟨by rfl, ?h14⟩) ?_
            case h14 => (intro w; go_simp; try (with_reducible rfl))
            go_simp
            refine wpAny_done (by kernel_rfl) ?_ _
            go_wp2_with fail
            refine (HRS.out w4 a6 c6 HO6.out).mono ?_
            rintro e w9 ⟨rfl, b9⟩
            have BF : Hid (Below w.heap.size w w9) := (BV.out.trans (BWn.out.mono (by rw [HBS.out]; exact BV.out.size))).trans (b9.mono (by have := BV.out.size; have := BWn.out.size; omega))
            clear b9
            go_wp2_with fail
            go_ret2
            exact ⟨rfl, BF.out⟩
          exact AllReady.nil
        exact AllReady.nil
      exact AllReady.nil
    exact AllReady.nil
  exact AllReady.nil
set_option maxRecDepth 100000 in
set_option maxHeartbeats 4000000 in
theorem rput_full (a : Option Addr) (len cap : Nat) (xs : List O) (c : Int) (k v : ByteArray) (w : World) (H : Ops w a len cap xs) (hl : len ≤ 4096) (hm : ∀ x ∈ xs, may x = true) (hmay : may ⟨c, k, v⟩ = true) (hl2 : len = 4096) :
    Calls Try.prog 30 #[.slice a len cap, .agg #[.int .i64 c, .string k, .string v]] w fun e w' => e = .returned (.tuple #[.slice a len cap, .int .i64 3]) ∧ Below w.heap.size w w' := by
  have HM : Hid (∀ W, Calls Try.prog 47 #[.agg #[.int .i64 c, .string k, .string v]] W fun e w' => e = .returned (.bool true) ∧ Below W.heap.size W w') := fun W => by
    have := rmay_any c k v W
    rw [hmay] at this
    exact this
  have HL : Hid (xs.length = len) := H.1
  have HMM : Hid (∀ x ∈ xs ++ [⟨c, k, v⟩], may x = true) := fun x hx => by
    rcases List.mem_append.1 hx with hx | hx
    · exact hm x hx
    · simp at hx; rw [hx]; exact hmay
  have HOK : Hid (∀ x ∈ xs ++ [(⟨c, k, v⟩ : O)], x.ok) := fun x hx => may_ok (HMM.out x hx)
  have HRS : Hid (∀ W a' c', Ops W a' (len + 1) c' (xs ++ [⟨c, k, v⟩]) → Calls Try.prog 48 #[.slice a' (len + 1) c'] W fun e w' => e = .returned (.int .i64 (bsz (xs ++ [⟨c, k, v⟩]))) ∧ Below W.heap.size W w') := fun W a' c' h => rsize_any a' (len + 1) c' _ W h (by omega) HMM.out
  generalize hZ : bsz (xs ++ [⟨c, k, v⟩]) = Z at *
  have n1 : (4096 : Int) < (len : Int) + 1 := by omega
  have HL2 := hid hl2
  clear hl2
  clear hmay hm
  obtain ⟨W0, hW0⟩ : ∃ W0, W0 = w.alloc (.cells #[.int .i64 c, .string k, .string v] 60) := ⟨_, rfl⟩
  obtain ⟨gb, hgb⟩ : ∃ gb, gb = w.heap.size := ⟨_, rfl⟩
  have KB : Hid (Blk W0 gb #[.int .i64 c, .string k, .string v]) := by show Blk _ _ _; rw [hW0, hgb]; exact Blk.new _ _
  have BW0 : Hid (Below w.heap.size w W0) := by show Below _ _ _; rw [hW0]; exact box_below _ _
  have HO0 := hid (H.later BW0.out)
  have HW0 := hid hW0
  have HGB := hid hgb
  clear hW0 hgb H
  go_enter Try.func30, Try.ntmps30
  go_wp2_with fail
  rw [← HW0.out, ← HGB.out]
  have p0 : W0.cell? ⟨gb, 0, none⟩ = some (.int .i64 c) := KB.out.cell 0
  have p1 : W0.cell? ⟨gb, 1, none⟩ = some (.string k) := KB.out.cell 1
  have p2 : W0.cell? ⟨gb, 2, none⟩ = some (.string v) := KB.out.cell 2
  go_wp2_with fail
  refine (HM.out W0).mono ?_
  rintro e w1 ⟨rfl, b1⟩
  have KB1 := hid (KB.out.later b1)
  have HO1 := hid (HO0.out.later b1)
  have BW1 : Hid (Below w.heap.size w w1) := BW0.out.trans (b1.mono BW0.out.size)
  clear p0 p1 p2 b1 KB HO0 BW0 HW0
  go_wp2_with fail
  refine wp_region_any (by kernel_rfl) ?_
  change wpAny _ _ _ _ _ _ _ (World.drew _)
  obtain ⟨V, hV⟩ : ∃ V, V = World.drew w1 := ⟨_, rfl⟩
  have dB : Below w1.heap.size w1 V := by rw [hV]; exact (Below.refl _ _).drew
  rw [← hV]
  have KB := hid (KB1.out.later dB)
  have HO := hid (HO1.out.later dB)
  have BV : Hid (Below w.heap.size w V) := BW1.out.trans (dB.mono BW1.out.size)
  obtain ⟨base, hbs⟩ : ∃ base, base = V.heap.size := ⟨_, rfl⟩
  have HBS := hid hbs
  have BW : Hid (Below base V V) := Below.refl _ _
  clear hV dB KB1 HO1 BW1 hbs w1
  refine wpAny_take (i := 1) (v := ?v15) rfl (by kernel_rfl) (by kernel_rfl) (by kernel_rfl) (fun _ _ _ h => h) (Or.inl ⟨by rfl, ?h15⟩) ?_
  case h15 => (intro w; go_simp; try (with_reducible rfl))
  go_simp
  refine wpAny_ready (rs := [0, 3]) (by kernel_rfl) (by simp) ?_
  refine AllReady.cons rfl (fun K hK => ?_) ?_
  · go_simp
    refine hK _ _ ?_
    clear hK K
    have OWN : Hid ((World.alloc V (.cells #[] 60)).ownsRow base 60 3 (.slice (some ⟨(V).heap.size, 0, none⟩) 0 0) 0 (ocs [])) := World.ownsRow_made V #[] 0 (by have := BW.out.size; have := HBS.out; omega) (by unfold maxLen; omega) rfl
    have BWn : Hid (Below base V (World.alloc V (.cells #[] 60))) := BW.out.trans ((box_below V (.cells #[] 60)).mono (by have := BW.out.size; have := HBS.out; omega))
    clear BW
    have BW := BWn
    clear BWn
    obtain ⟨gA, hgA⟩ : ∃ gA, gA = V.heap.size := ⟨_, rfl⟩
    rw [← hgA] at OWN  ⊢
    have HGA := hid hgA
    clear hgA HGA
    generalize World.alloc V (.cells #[] 60) = w1 at *
    refine wpAny_ready (rs := [2, 3]) (by kernel_rfl) (by simp) ?_
    refine AllReady.cons rfl (fun K hK => ?_) ?_
    · obtain ⟨v13, w2, r13, o13, g13⟩ := app_run w1 base _ 0 [] OWN.out a len cap xs (HO.out.later (below_at BW.out HBS.out)) (by omega) (by have := BW.out.size; have := HBS.out; omega)
      rw [if_pos (by rfl)]
      refine wp_append_run _ _ 26 26 rfl _ _ _ (by rfl) (by rfl) r13 ?_
      refine hK _ _ ?_
      clear hK K
      go_simp
      have BWn : Hid (Below base V w2) := BW.out.grown g13 (by have := BW.out.size; have := HBS.out; omega) (fun j hj => (World.ownsRow.lt OWN.out j hj).1)
      have ON : Hid (w2.ownsRow base 60 3 v13 len (ocs xs)) := by rw [Nat.zero_add, List.nil_append] at o13; exact o13
      clear BW OWN o13 g13 r13
      have BW := BWn
      have OWN := ON
      clear BWn ON
      refine wpAny_ready (rs := [3]) (by kernel_rfl) (by simp) ?_
      refine AllReady.cons rfl (fun K hK => ?_) ?_
      · have p0 : w2.cell? ⟨gb, 0, none⟩ = some (.int .i64 c) := (KB.out.later (below_at BW.out HBS.out)).cell 0
        have p1 : w2.cell? ⟨gb, 1, none⟩ = some (.string k) := (KB.out.later (below_at BW.out HBS.out)).cell 1
        have p2 : w2.cell? ⟨gb, 2, none⟩ = some (.string v) := (KB.out.later (below_at BW.out HBS.out)).cell 2
        go_simp
        refine hK _ _ ?_
        clear hK K p0 p1 p2
        refine wpAny_ready (rs := [4]) (by kernel_rfl) (by simp) ?_
        refine AllReady.cons rfl (fun K hK => ?_) ?_
        · go_simp
          refine hK _ _ ?_
          clear hK K
          have KZ : Hid (Blk (World.alloc w2 (.cells #[.int .i64 c, .string k, .string v] 60)) w2.heap.size #[.int .i64 c, .string k, .string v]) := Blk.new _ _
          have BWn : Hid (Below base V (World.alloc w2 (.cells #[.int .i64 c, .string k, .string v] 60))) := BW.out.trans ((box_below w2 (.cells #[.int .i64 c, .string k, .string v] 60)).mono (by have := BW.out.size; have := HBS.out; omega))
          have ON := hid (OWN.out.alloc (.cells #[.int .i64 c, .string k, .string v] 60))
          clear OWN
          have OWN := ON
          clear ON
          clear BW
          have BW := BWn
          clear BWn
          obtain ⟨gz, hgz⟩ : ∃ gz, gz = w2.heap.size := ⟨_, rfl⟩
          rw [← hgz] at KZ  ⊢
          clear hgz
          generalize World.alloc w2 (.cells #[.int .i64 c, .string k, .string v] 60) = w3 at *
          refine wpAny_ready (rs := [5]) (by kernel_rfl) (by simp) ?_
          refine AllReady.cons rfl (fun K hK => ?_) ?_
          · obtain ⟨v16, w4, r16, o16, g16⟩ := app_one w3 base _ len xs OWN.out gz c k v KZ.out (by omega) (by have := BW.out.size; have := HBS.out; omega)
            rw [if_pos (by rfl)]
            refine wp_append_run _ _ 26 26 rfl _ _ _ (by rfl) (by rfl) r16 ?_
            refine hK _ _ ?_
            clear hK K
            go_simp
            have BWn : Hid (Below base V w4) := BW.out.grown g16 (by have := BW.out.size; have := HBS.out; omega) (fun j hj => (World.ownsRow.lt OWN.out j hj).1)
            have ON := hid o16
            clear BW OWN o16 g16 r16
            obtain ⟨a6, c6, hv6, HO6⟩ := row_ops ON.out (HOK.out)
            rw [List.length_append, List.length_singleton, HL.out] at hv6 HO6
            subst hv6
            have HO6 := hid HO6
            refine wpAny_take (i := 6) (v := ?v16) rfl (by kernel_rfl) (by kernel_rfl) (by kernel_rfl) (fun _ _ _ h => h) (Or.inl ⟨by rfl, ?h16⟩) ?_
            case h16 => (intro w; go_simp; try (with_reducible rfl))
            go_simp
            refine wpAny_done (by kernel_rfl) ?_ _
            have BF : Hid (Below w.heap.size w w4) := BV.out.trans (BWn.out.mono (by rw [HBS.out]; exact BV.out.size))
            go_wp2_with fail
            go_ret2
            exact ⟨rfl, BF.out⟩
          exact AllReady.nil
        exact AllReady.nil
      exact AllReady.nil
    refine AllReady.cons rfl (fun K hK => ?_) ?_
    · have p0 : w1.cell? ⟨gb, 0, none⟩ = some (.int .i64 c) := (KB.out.later (below_at BW.out HBS.out)).cell 0
      have p1 : w1.cell? ⟨gb, 1, none⟩ = some (.string k) := (KB.out.later (below_at BW.out HBS.out)).cell 1
      have p2 : w1.cell? ⟨gb, 2, none⟩ = some (.string v) := (KB.out.later (below_at BW.out HBS.out)).cell 2
      go_simp
      refine hK _ _ ?_
      clear hK K p0 p1 p2
      refine wpAny_ready (rs := [2, 4]) (by kernel_rfl) (by simp) ?_
      refine AllReady.cons rfl (fun K hK => ?_) ?_
      · obtain ⟨v13, w2, r13, o13, g13⟩ := app_run w1 base _ 0 [] OWN.out a len cap xs (HO.out.later (below_at BW.out HBS.out)) (by omega) (by have := BW.out.size; have := HBS.out; omega)
        rw [if_pos (by rfl)]
        refine wp_append_run _ _ 26 26 rfl _ _ _ (by rfl) (by rfl) r13 ?_
        refine hK _ _ ?_
        clear hK K
        go_simp
        have BWn : Hid (Below base V w2) := BW.out.grown g13 (by have := BW.out.size; have := HBS.out; omega) (fun j hj => (World.ownsRow.lt OWN.out j hj).1)
        have ON : Hid (w2.ownsRow base 60 3 v13 len (ocs xs)) := by rw [Nat.zero_add, List.nil_append] at o13; exact o13
        clear BW OWN o13 g13 r13
        have BW := BWn
        have OWN := ON
        clear BWn ON
        refine wpAny_ready (rs := [4]) (by kernel_rfl) (by simp) ?_
        refine AllReady.cons rfl (fun K hK => ?_) ?_
        · go_simp
          refine hK _ _ ?_
          clear hK K
          have KZ : Hid (Blk (World.alloc w2 (.cells #[.int .i64 c, .string k, .string v] 60)) w2.heap.size #[.int .i64 c, .string k, .string v]) := Blk.new _ _
          have BWn : Hid (Below base V (World.alloc w2 (.cells #[.int .i64 c, .string k, .string v] 60))) := BW.out.trans ((box_below w2 (.cells #[.int .i64 c, .string k, .string v] 60)).mono (by have := BW.out.size; have := HBS.out; omega))
          have ON := hid (OWN.out.alloc (.cells #[.int .i64 c, .string k, .string v] 60))
          clear OWN
          have OWN := ON
          clear ON
          clear BW
          have BW := BWn
          clear BWn
          obtain ⟨gz, hgz⟩ : ∃ gz, gz = w2.heap.size := ⟨_, rfl⟩
          rw [← hgz] at KZ  ⊢
          clear hgz
          generalize World.alloc w2 (.cells #[.int .i64 c, .string k, .string v] 60) = w3 at *
          refine wpAny_ready (rs := [5]) (by kernel_rfl) (by simp) ?_
          refine AllReady.cons rfl (fun K hK => ?_) ?_
          · obtain ⟨v16, w4, r16, o16, g16⟩ := app_one w3 base _ len xs OWN.out gz c k v KZ.out (by omega) (by have := BW.out.size; have := HBS.out; omega)
            rw [if_pos (by rfl)]
            refine wp_append_run _ _ 26 26 rfl _ _ _ (by rfl) (by rfl) r16 ?_
            refine hK _ _ ?_
            clear hK K
            go_simp
            have BWn : Hid (Below base V w4) := BW.out.grown g16 (by have := BW.out.size; have := HBS.out; omega) (fun j hj => (World.ownsRow.lt OWN.out j hj).1)
            have ON := hid o16
            clear BW OWN o16 g16 r16
            obtain ⟨a6, c6, hv6, HO6⟩ := row_ops ON.out (HOK.out)
            rw [List.length_append, List.length_singleton, HL.out] at hv6 HO6
            subst hv6
            have HO6 := hid HO6
            refine wpAny_take (i := 6) (v := ?v17) rfl (by kernel_rfl) (by kernel_rfl) (by kernel_rfl) (fun _ _ _ h => h) (Or.inl ⟨by rfl, ?h17⟩) ?_
            case h17 => (intro w; go_simp; try (with_reducible rfl))
            go_simp
            refine wpAny_done (by kernel_rfl) ?_ _
            have BF : Hid (Below w.heap.size w w4) := BV.out.trans (BWn.out.mono (by rw [HBS.out]; exact BV.out.size))
            go_wp2_with fail
            go_ret2
            exact ⟨rfl, BF.out⟩
          exact AllReady.nil
        exact AllReady.nil
      refine AllReady.cons rfl (fun K hK => ?_) ?_
      · go_simp
        refine hK _ _ ?_
        clear hK K
        have KZ : Hid (Blk (World.alloc w1 (.cells #[.int .i64 c, .string k, .string v] 60)) w1.heap.size #[.int .i64 c, .string k, .string v]) := Blk.new _ _
        have BWn : Hid (Below base V (World.alloc w1 (.cells #[.int .i64 c, .string k, .string v] 60))) := BW.out.trans ((box_below w1 (.cells #[.int .i64 c, .string k, .string v] 60)).mono (by have := BW.out.size; have := HBS.out; omega))
        have ON := hid (OWN.out.alloc (.cells #[.int .i64 c, .string k, .string v] 60))
        have NE : Hid (w1.heap.size ≠ gA) := by have := (World.ownsRow.lt OWN.out gA rfl).2; show _ ≠ _; omega
        clear OWN
        have OWN := ON
        clear ON
        clear BW
        have BW := BWn
        clear BWn
        obtain ⟨gz, hgz⟩ : ∃ gz, gz = w1.heap.size := ⟨_, rfl⟩
        rw [← hgz] at KZ NE ⊢
        clear hgz
        generalize World.alloc w1 (.cells #[.int .i64 c, .string k, .string v] 60) = w2 at *
        refine wpAny_ready (rs := [2]) (by kernel_rfl) (by simp) ?_
        refine AllReady.cons rfl (fun K hK => ?_) ?_
        · obtain ⟨v13, w3, r13, o13, g13⟩ := app_run w2 base _ 0 [] OWN.out a len cap xs (HO.out.later (below_at BW.out HBS.out)) (by omega) (by have := BW.out.size; have := HBS.out; omega)
          rw [if_pos (by rfl)]
          refine wp_append_run _ _ 26 26 rfl _ _ _ (by rfl) (by rfl) r13 ?_
          refine hK _ _ ?_
          clear hK K
          go_simp
          have BWn : Hid (Below base V w3) := BW.out.grown g13 (by have := BW.out.size; have := HBS.out; omega) (fun j hj => (World.ownsRow.lt OWN.out j hj).1)
          have ON : Hid (w3.ownsRow base 60 3 v13 len (ocs xs)) := by rw [Nat.zero_add, List.nil_append] at o13; exact o13
          have KZn : Hid (Blk w3 gz #[.int .i64 c, .string k, .string v]) := Blk.grown KZ.out g13 (by simp [Value.ownBlock]; exact NE.out)
          clear KZ NE
          have KZ := KZn
          clear KZn
          clear BW OWN o13 g13 r13
          have BW := BWn
          have OWN := ON
          clear BWn ON
          refine wpAny_ready (rs := [5]) (by kernel_rfl) (by simp) ?_
          refine AllReady.cons rfl (fun K hK => ?_) ?_
          · obtain ⟨v16, w4, r16, o16, g16⟩ := app_one w3 base _ len xs OWN.out gz c k v KZ.out (by omega) (by have := BW.out.size; have := HBS.out; omega)
            rw [if_pos (by rfl)]
            refine wp_append_run _ _ 26 26 rfl _ _ _ (by rfl) (by rfl) r16 ?_
            refine hK _ _ ?_
            clear hK K
            go_simp
            have BWn : Hid (Below base V w4) := BW.out.grown g16 (by have := BW.out.size; have := HBS.out; omega) (fun j hj => (World.ownsRow.lt OWN.out j hj).1)
            have ON := hid o16
            clear BW OWN o16 g16 r16
            obtain ⟨a6, c6, hv6, HO6⟩ := row_ops ON.out (HOK.out)
            rw [List.length_append, List.length_singleton, HL.out] at hv6 HO6
            subst hv6
            have HO6 := hid HO6
            refine wpAny_take (i := 6) (v := ?v18) rfl (by kernel_rfl) (by kernel_rfl) (by kernel_rfl) (fun _ _ _ h => h) (Or.inl ⟨by rfl, ?h18⟩) ?_
            case h18 => (intro w; go_simp; try (with_reducible rfl))
            go_simp
            refine wpAny_done (by kernel_rfl) ?_ _
            have BF : Hid (Below w.heap.size w w4) := BV.out.trans (BWn.out.mono (by rw [HBS.out]; exact BV.out.size))
            go_wp2_with fail
            go_ret2
            exact ⟨rfl, BF.out⟩
          exact AllReady.nil
        exact AllReady.nil
      exact AllReady.nil
    exact AllReady.nil
  refine AllReady.cons rfl (fun K hK => ?_) ?_
  · have p0 : V.cell? ⟨gb, 0, none⟩ = some (.int .i64 c) := (KB.out.later (below_at BW.out HBS.out)).cell 0
    have p1 : V.cell? ⟨gb, 1, none⟩ = some (.string k) := (KB.out.later (below_at BW.out HBS.out)).cell 1
    have p2 : V.cell? ⟨gb, 2, none⟩ = some (.string v) := (KB.out.later (below_at BW.out HBS.out)).cell 2
    go_simp
    refine hK _ _ ?_
    clear hK K p0 p1 p2
    refine wpAny_ready (rs := [0, 4]) (by kernel_rfl) (by simp) ?_
    refine AllReady.cons rfl (fun K hK => ?_) ?_
    · go_simp
      refine hK _ _ ?_
      clear hK K
      have OWN : Hid ((World.alloc V (.cells #[] 60)).ownsRow base 60 3 (.slice (some ⟨(V).heap.size, 0, none⟩) 0 0) 0 (ocs [])) := World.ownsRow_made V #[] 0 (by have := BW.out.size; have := HBS.out; omega) (by unfold maxLen; omega) rfl
      have BWn : Hid (Below base V (World.alloc V (.cells #[] 60))) := BW.out.trans ((box_below V (.cells #[] 60)).mono (by have := BW.out.size; have := HBS.out; omega))
      clear BW
      have BW := BWn
      clear BWn
      obtain ⟨gA, hgA⟩ : ∃ gA, gA = V.heap.size := ⟨_, rfl⟩
      rw [← hgA] at OWN  ⊢
      have HGA := hid hgA
      clear hgA HGA
      generalize World.alloc V (.cells #[] 60) = w1 at *
      refine wpAny_ready (rs := [2, 4]) (by kernel_rfl) (by simp) ?_
      refine AllReady.cons rfl (fun K hK => ?_) ?_
      · obtain ⟨v13, w2, r13, o13, g13⟩ := app_run w1 base _ 0 [] OWN.out a len cap xs (HO.out.later (below_at BW.out HBS.out)) (by omega) (by have := BW.out.size; have := HBS.out; omega)
        rw [if_pos (by rfl)]
        refine wp_append_run _ _ 26 26 rfl _ _ _ (by rfl) (by rfl) r13 ?_
        refine hK _ _ ?_
        clear hK K
        go_simp
        have BWn : Hid (Below base V w2) := BW.out.grown g13 (by have := BW.out.size; have := HBS.out; omega) (fun j hj => (World.ownsRow.lt OWN.out j hj).1)
        have ON : Hid (w2.ownsRow base 60 3 v13 len (ocs xs)) := by rw [Nat.zero_add, List.nil_append] at o13; exact o13
        clear BW OWN o13 g13 r13
        have BW := BWn
        have OWN := ON
        clear BWn ON
        refine wpAny_ready (rs := [4]) (by kernel_rfl) (by simp) ?_
        refine AllReady.cons rfl (fun K hK => ?_) ?_
        · go_simp
          refine hK _ _ ?_
          clear hK K
          have KZ : Hid (Blk (World.alloc w2 (.cells #[.int .i64 c, .string k, .string v] 60)) w2.heap.size #[.int .i64 c, .string k, .string v]) := Blk.new _ _
          have BWn : Hid (Below base V (World.alloc w2 (.cells #[.int .i64 c, .string k, .string v] 60))) := BW.out.trans ((box_below w2 (.cells #[.int .i64 c, .string k, .string v] 60)).mono (by have := BW.out.size; have := HBS.out; omega))
          have ON := hid (OWN.out.alloc (.cells #[.int .i64 c, .string k, .string v] 60))
          clear OWN
          have OWN := ON
          clear ON
          clear BW
          have BW := BWn
          clear BWn
          obtain ⟨gz, hgz⟩ : ∃ gz, gz = w2.heap.size := ⟨_, rfl⟩
          rw [← hgz] at KZ  ⊢
          clear hgz
          generalize World.alloc w2 (.cells #[.int .i64 c, .string k, .string v] 60) = w3 at *
          refine wpAny_ready (rs := [5]) (by kernel_rfl) (by simp) ?_
          refine AllReady.cons rfl (fun K hK => ?_) ?_
          · obtain ⟨v16, w4, r16, o16, g16⟩ := app_one w3 base _ len xs OWN.out gz c k v KZ.out (by omega) (by have := BW.out.size; have := HBS.out; omega)
            rw [if_pos (by rfl)]
            refine wp_append_run _ _ 26 26 rfl _ _ _ (by rfl) (by rfl) r16 ?_
            refine hK _ _ ?_
            clear hK K
            go_simp
            have BWn : Hid (Below base V w4) := BW.out.grown g16 (by have := BW.out.size; have := HBS.out; omega) (fun j hj => (World.ownsRow.lt OWN.out j hj).1)
            have ON := hid o16
            clear BW OWN o16 g16 r16
            obtain ⟨a6, c6, hv6, HO6⟩ := row_ops ON.out (HOK.out)
            rw [List.length_append, List.length_singleton, HL.out] at hv6 HO6
            subst hv6
            have HO6 := hid HO6
            refine wpAny_take (i := 6) (v := ?v19) rfl (by kernel_rfl) (by kernel_rfl) (by kernel_rfl) (fun _ _ _ h => h) (Or.inl ⟨by rfl, ?h19⟩) ?_
            case h19 => (intro w; go_simp; try (with_reducible rfl))
            go_simp
            refine wpAny_done (by kernel_rfl) ?_ _
            have BF : Hid (Below w.heap.size w w4) := BV.out.trans (BWn.out.mono (by rw [HBS.out]; exact BV.out.size))
            go_wp2_with fail
            go_ret2
            exact ⟨rfl, BF.out⟩
          exact AllReady.nil
        exact AllReady.nil
      refine AllReady.cons rfl (fun K hK => ?_) ?_
      · go_simp
        refine hK _ _ ?_
        clear hK K
        have KZ : Hid (Blk (World.alloc w1 (.cells #[.int .i64 c, .string k, .string v] 60)) w1.heap.size #[.int .i64 c, .string k, .string v]) := Blk.new _ _
        have BWn : Hid (Below base V (World.alloc w1 (.cells #[.int .i64 c, .string k, .string v] 60))) := BW.out.trans ((box_below w1 (.cells #[.int .i64 c, .string k, .string v] 60)).mono (by have := BW.out.size; have := HBS.out; omega))
        have ON := hid (OWN.out.alloc (.cells #[.int .i64 c, .string k, .string v] 60))
        have NE : Hid (w1.heap.size ≠ gA) := by have := (World.ownsRow.lt OWN.out gA rfl).2; show _ ≠ _; omega
        clear OWN
        have OWN := ON
        clear ON
        clear BW
        have BW := BWn
        clear BWn
        obtain ⟨gz, hgz⟩ : ∃ gz, gz = w1.heap.size := ⟨_, rfl⟩
        rw [← hgz] at KZ NE ⊢
        clear hgz
        generalize World.alloc w1 (.cells #[.int .i64 c, .string k, .string v] 60) = w2 at *
        refine wpAny_ready (rs := [2]) (by kernel_rfl) (by simp) ?_
        refine AllReady.cons rfl (fun K hK => ?_) ?_
        · obtain ⟨v13, w3, r13, o13, g13⟩ := app_run w2 base _ 0 [] OWN.out a len cap xs (HO.out.later (below_at BW.out HBS.out)) (by omega) (by have := BW.out.size; have := HBS.out; omega)
          rw [if_pos (by rfl)]
          refine wp_append_run _ _ 26 26 rfl _ _ _ (by rfl) (by rfl) r13 ?_
          refine hK _ _ ?_
          clear hK K
          go_simp
          have BWn : Hid (Below base V w3) := BW.out.grown g13 (by have := BW.out.size; have := HBS.out; omega) (fun j hj => (World.ownsRow.lt OWN.out j hj).1)
          have ON : Hid (w3.ownsRow base 60 3 v13 len (ocs xs)) := by rw [Nat.zero_add, List.nil_append] at o13; exact o13
          have KZn : Hid (Blk w3 gz #[.int .i64 c, .string k, .string v]) := Blk.grown KZ.out g13 (by simp [Value.ownBlock]; exact NE.out)
          clear KZ NE
          have KZ := KZn
          clear KZn
          clear BW OWN o13 g13 r13
          have BW := BWn
          have OWN := ON
          clear BWn ON
          refine wpAny_ready (rs := [5]) (by kernel_rfl) (by simp) ?_
          refine AllReady.cons rfl (fun K hK => ?_) ?_
          · obtain ⟨v16, w4, r16, o16, g16⟩ := app_one w3 base _ len xs OWN.out gz c k v KZ.out (by omega) (by have := BW.out.size; have := HBS.out; omega)
            rw [if_pos (by rfl)]
            refine wp_append_run _ _ 26 26 rfl _ _ _ (by rfl) (by rfl) r16 ?_
            refine hK _ _ ?_
            clear hK K
            go_simp
            have BWn : Hid (Below base V w4) := BW.out.grown g16 (by have := BW.out.size; have := HBS.out; omega) (fun j hj => (World.ownsRow.lt OWN.out j hj).1)
            have ON := hid o16
            clear BW OWN o16 g16 r16
            obtain ⟨a6, c6, hv6, HO6⟩ := row_ops ON.out (HOK.out)
            rw [List.length_append, List.length_singleton, HL.out] at hv6 HO6
            subst hv6
            have HO6 := hid HO6
            refine wpAny_take (i := 6) (v := ?v20) rfl (by kernel_rfl) (by kernel_rfl) (by kernel_rfl) (fun _ _ _ h => h) (Or.inl ⟨by rfl, ?h20⟩) ?_
            case h20 => (intro w; go_simp; try (with_reducible rfl))
            go_simp
            refine wpAny_done (by kernel_rfl) ?_ _
            have BF : Hid (Below w.heap.size w w4) := BV.out.trans (BWn.out.mono (by rw [HBS.out]; exact BV.out.size))
            go_wp2_with fail
            go_ret2
            exact ⟨rfl, BF.out⟩
          exact AllReady.nil
        exact AllReady.nil
      exact AllReady.nil
    refine AllReady.cons rfl (fun K hK => ?_) ?_
    · go_simp
      refine hK _ _ ?_
      clear hK K
      have KZ : Hid (Blk (World.alloc V (.cells #[.int .i64 c, .string k, .string v] 60)) V.heap.size #[.int .i64 c, .string k, .string v]) := Blk.new _ _
      have BWn : Hid (Below base V (World.alloc V (.cells #[.int .i64 c, .string k, .string v] 60))) := BW.out.trans ((box_below V (.cells #[.int .i64 c, .string k, .string v] 60)).mono (by have := BW.out.size; have := HBS.out; omega))
      clear BW
      have BW := BWn
      clear BWn
      obtain ⟨gz, hgz⟩ : ∃ gz, gz = V.heap.size := ⟨_, rfl⟩
      rw [← hgz] at KZ  ⊢
      clear hgz
      generalize World.alloc V (.cells #[.int .i64 c, .string k, .string v] 60) = w1 at *
      refine wpAny_ready (rs := [0]) (by kernel_rfl) (by simp) ?_
      refine AllReady.cons rfl (fun K hK => ?_) ?_
      · go_simp
        refine hK _ _ ?_
        clear hK K
        have OWN : Hid ((World.alloc w1 (.cells #[] 60)).ownsRow base 60 3 (.slice (some ⟨(w1).heap.size, 0, none⟩) 0 0) 0 (ocs [])) := World.ownsRow_made w1 #[] 0 (by have := BW.out.size; have := HBS.out; omega) (by unfold maxLen; omega) rfl
        have BWn : Hid (Below base V (World.alloc w1 (.cells #[] 60))) := BW.out.trans ((box_below w1 (.cells #[] 60)).mono (by have := BW.out.size; have := HBS.out; omega))
        have KZn := hid (KZ.out.later (box_below w1 (.cells #[] 60)))
        have NE : Hid (gz ≠ w1.heap.size) := by have := KZ.out.lt; show _ ≠ _; omega
        clear KZ
        have KZ := KZn
        clear KZn
        clear BW
        have BW := BWn
        clear BWn
        obtain ⟨gA, hgA⟩ : ∃ gA, gA = w1.heap.size := ⟨_, rfl⟩
        rw [← hgA] at OWN NE ⊢
        have HGA := hid hgA
        clear hgA HGA
        generalize World.alloc w1 (.cells #[] 60) = w2 at *
        refine wpAny_ready (rs := [2]) (by kernel_rfl) (by simp) ?_
        refine AllReady.cons rfl (fun K hK => ?_) ?_
        · obtain ⟨v13, w3, r13, o13, g13⟩ := app_run w2 base _ 0 [] OWN.out a len cap xs (HO.out.later (below_at BW.out HBS.out)) (by omega) (by have := BW.out.size; have := HBS.out; omega)
          rw [if_pos (by rfl)]
          refine wp_append_run _ _ 26 26 rfl _ _ _ (by rfl) (by rfl) r13 ?_
          refine hK _ _ ?_
          clear hK K
          go_simp
          have BWn : Hid (Below base V w3) := BW.out.grown g13 (by have := BW.out.size; have := HBS.out; omega) (fun j hj => (World.ownsRow.lt OWN.out j hj).1)
          have ON : Hid (w3.ownsRow base 60 3 v13 len (ocs xs)) := by rw [Nat.zero_add, List.nil_append] at o13; exact o13
          have KZn : Hid (Blk w3 gz #[.int .i64 c, .string k, .string v]) := Blk.grown KZ.out g13 (by simp [Value.ownBlock]; exact NE.out)
          clear KZ NE
          have KZ := KZn
          clear KZn
          clear BW OWN o13 g13 r13
          have BW := BWn
          have OWN := ON
          clear BWn ON
          refine wpAny_ready (rs := [5]) (by kernel_rfl) (by simp) ?_
          refine AllReady.cons rfl (fun K hK => ?_) ?_
          · obtain ⟨v16, w4, r16, o16, g16⟩ := app_one w3 base _ len xs OWN.out gz c k v KZ.out (by omega) (by have := BW.out.size; have := HBS.out; omega)
            rw [if_pos (by rfl)]
            refine wp_append_run _ _ 26 26 rfl _ _ _ (by rfl) (by rfl) r16 ?_
            refine hK _ _ ?_
            clear hK K
            go_simp
            have BWn : Hid (Below base V w4) := BW.out.grown g16 (by have := BW.out.size; have := HBS.out; omega) (fun j hj => (World.ownsRow.lt OWN.out j hj).1)
            have ON := hid o16
            clear BW OWN o16 g16 r16
            obtain ⟨a6, c6, hv6, HO6⟩ := row_ops ON.out (HOK.out)
            rw [List.length_append, List.length_singleton, HL.out] at hv6 HO6
            subst hv6
            have HO6 := hid HO6
            refine wpAny_take (i := 6) (v := ?v21) rfl (by kernel_rfl) (by kernel_rfl) (by kernel_rfl) (fun _ _ _ h => h) (Or.inl ⟨by rfl, ?h21⟩) ?_
            case h21 => (intro w; go_simp; try (with_reducible rfl))
            go_simp
            refine wpAny_done (by kernel_rfl) ?_ _
            have BF : Hid (Below w.heap.size w w4) := BV.out.trans (BWn.out.mono (by rw [HBS.out]; exact BV.out.size))
            go_wp2_with fail
            go_ret2
            exact ⟨rfl, BF.out⟩
          exact AllReady.nil
        exact AllReady.nil
      exact AllReady.nil
    exact AllReady.nil
  exact AllReady.nil
theorem bsz_snoc (xs : List O) (x : O) : bsz (xs ++ [x]) = bsz xs + osz x := by
  unfold bsz
  rw [osum_append]
  simp [osum]
  omega
theorem rput_any (a : Option Addr) (len cap : Nat) (xs : List O) (c : Int) (k v : ByteArray) (w : World) (H : Ops w a len cap xs) (hf : Fits xs) :
    Calls Try.prog 30 #[.slice a len cap, .agg #[.int .i64 c, .string k, .string v]] w fun e w' => ∃ u, e = .returned (.tuple #[u, .int .i64 (bput xs ⟨c, k, v⟩).1]) ∧ ((u = .slice a len cap ∧ (bput xs ⟨c, k, v⟩).2 = xs) ∨ w'.ownsRow w.heap.size 60 3 u (bput xs ⟨c, k, v⟩).2.length (ocs (bput xs ⟨c, k, v⟩).2)) ∧ Below w.heap.size w w' := by
  have hlen := H.1
  have hl : len ≤ 4096 := by have := hf.2.1; omega
  unfold bput
  by_cases hm : may ⟨c, k, v⟩ = true
  · rw [if_pos hm]
    by_cases h1 : xs.length = 4096
    · rw [if_pos (.inl h1)]
      refine (rput_full a len cap xs c k v w H hl hf.1 hm (by omega)).mono ?_
      rintro e w' ⟨rfl, b⟩
      exact ⟨_, rfl, .inl ⟨rfl, rfl⟩, b⟩
    · by_cases h2 : 1048576 < bsz xs + osz ⟨c, k, v⟩
      · rw [if_pos (.inr h2)]
        refine (rput_big a len cap xs c k v w H hl hf.1 hm (by omega) (by rw [bsz_snoc]; exact h2)).mono ?_
        rintro e w' ⟨rfl, b⟩
        exact ⟨_, rfl, .inl ⟨rfl, rfl⟩, b⟩
      · rw [if_neg (by omega)]
        refine (rput_ok a len cap xs c k v w H hl hf.1 hm (by omega) (by rw [bsz_snoc]; omega)).mono ?_
        rintro e w' ⟨a', c', rfl, HO, b⟩
        exact ⟨_, rfl, .inr (by simpa [hlen] using HO), b⟩
  · rw [if_neg hm]
    refine (rput_bad a len cap xs c k v w H hl hf.1 (by simpa using hm)).mono ?_
    rintro e w' ⟨rfl, b⟩
    exact ⟨_, rfl, .inl ⟨rfl, rfl⟩, b⟩
/-- The block that a row lies in. -/
def Of (v : Value) : Nat → Prop := fun j => v.ownBlock = some j
/-- A Builder and a row of operations beside it that hold the same. -/
def Two (w : World) (base g : Nat) (v : Value) (xs : List O) : Prop := Bs w base g (Of v) xs ∧ w.ownsRow base 60 3 v xs.length (ocs xs) ∧ Fits xs ∧ base ≤ w.heap.size
theorem own_kept {w w' : World} {base n : Nat} {v : Value} {ys : List Value} {P : Nat → Prop} (h : w.ownsRow base 60 3 v n ys) (k : Kept w w' P) (hP : ∀ j, Of v j → P j) : w'.ownsRow base 60 3 v n ys := by
  refine ⟨h.1, ?_⟩
  rcases h.2 with h | ⟨g', cap', cur, rfl, hb, hg, hr⟩
  · exact .inl h
  · exact .inr ⟨g', cap', cur, rfl, hb, ((k.2 g' (hP g' rfl)).2).trans hg, hr⟩
theorem Bs.less {w : World} {base g : Nat} {P Q : Nat → Prop} {xs : List O} (h : Bs w base g P xs) (hq : ∀ j, Q j → P j) : Bs w base g Q xs := by
  obtain ⟨v, h1, h2, h3, h4⟩ := h
  exact ⟨v, h1, h2, h3, fun j e q => h4 j e (hq j q)⟩
theorem Bs.more {w w' : World} {base g : Nat} {P : Nat → Prop} {xs : List O} (h : Bs w base g P xs) (b : Below w.heap.size w w') : Bs w' base g (fun j => P j ∨ j = w.heap.size) xs := by
  obtain ⟨v, h1, h2, h3, h4⟩ := h
  refine ⟨v, h1.later b, h2.kept (It.grown_of_below b) (by cases hh : v.ownBlock <;> simp), h3, fun j e q => ?_⟩
  rcases q with q | q
  · exact h4 j e q
  · have := (World.ownsRow.lt h2 j e).2
    omega
theorem Bs.fresh {w w' : World} {base g n : Nat} {P : Nat → Prop} {xs : List O} {u : Value} {ys : List Value} (h : Bs w base g P xs) (o : w'.ownsRow w.heap.size 60 3 u n ys) (b : Below w.heap.size w w') : Bs w' base g (Of u) xs := by
  obtain ⟨v, h1, h2, h3, h4⟩ := h
  refine ⟨v, h1.later b, h2.kept (It.grown_of_below b) (by cases hh : v.ownBlock <;> simp), h3, fun j hv e => ?_⟩
  have q1 := (World.ownsRow.lt h2 j hv).2
  have q2 := (World.ownsRow.lt o j e).1
  omega
theorem Bs.lt {w : World} {base g : Nat} {P : Nat → Prop} {xs : List O} (h : Bs w base g P xs) : g < w.heap.size := by
  obtain ⟨v, h1, _⟩ := h
  exact h1.lt
theorem Two.later {w w' : World} {base g : Nat} {v : Value} {xs : List O} (h : Two w base g v xs) (b : Below w.heap.size w w') : Two w' base g v xs :=
  ⟨Bu.Bs.later h.1 b, h.2.1.kept (It.grown_of_below b) (by cases hh : v.ownBlock <;> simp), h.2.2.1, Nat.le_trans h.2.2.2 b.size⟩
theorem Two.ops {w : World} {base g : Nat} {v : Value} {xs : List O} (h : Two w base g v xs) : ∃ a c, v = .slice a xs.length c ∧ Ops w a xs.length c xs := row_ops h.2.1 (fun x hx => may_ok (h.2.2.1.1 x hx))
theorem Two.hp {w : World} {base g : Nat} {v : Value} {xs : List O} (h : Two w base g v xs) : ∀ j, Of v j → j < w.heap.size := fun j e => (World.ownsRow.lt h.2.1 j e).2
theorem Two.hpg {w : World} {base g : Nat} {v : Value} {xs : List O} (h : Two w base g v xs) : ¬ Of v g := fun e => by
  obtain ⟨u, B, _⟩ := h.1
  exact (B.apart h.2.1) e.symm
/-- What is behind a call of the Builder that adds an operation, and of the document's Put of the same. -/
theorem Two.put {w w1 w2 : World} {base g : Nat} {v u : Value} {xs : List O} {x : O} {P : Nat → Prop} (h : Two w base g v xs) (hP : ∀ j, Of v j → P j) (B : Bs w1 base g P (bput xs x).2) (b : Below base w w1) (k : Kept w w1 P)
    (hu : (u = v ∧ (bput xs x).2 = xs) ∨ w2.ownsRow w1.heap.size 60 3 u (bput xs x).2.length (ocs (bput xs x).2)) (b2 : Below w1.heap.size w1 w2) : Two w2 base g u (bput xs x).2 := by
  have hs1 := h.2.2.2
  have hs2 := b.size
  have hs3 := b2.size
  rcases hu with ⟨rfl, e⟩ | o
  · refine ⟨Bu.Bs.later (Bs.less B hP) b2, ?_, bput_fits h.2.2.1, by omega⟩
    rw [e]
    exact (own_kept h.2.1 k hP).kept (It.grown_of_below b2) (by cases hh : u.ownBlock <;> simp)
  · exact ⟨Bs.fresh B o b2, Jo.orow_base o (by omega), bput_fits h.2.2.1, by omega⟩
theorem Two.new {w : World} {base g : Nat} {P : Nat → Prop} (B : Bs w base g P []) (hb : base ≤ w.heap.size) : Two w base g (.slice none 0 0) [] :=
  ⟨Bs.less B (fun _ e => nomatch e), World.ownsRow_nil _ _ _ _, ⟨by simp, by simp, by simp [bsz, osum]⟩, hb⟩
end Go.Proofs.Ytmceanfgcehfeab.Bp

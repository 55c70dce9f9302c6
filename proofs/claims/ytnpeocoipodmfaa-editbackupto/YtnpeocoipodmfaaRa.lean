/- readAdded by its contract. -/
import Derived.Test.YtnpeocoipodmfaaRi
import Derived.Test.YtnpeocoipodmfaaEv
import Derived.ScopeJumps
import Derived.WalkMore
namespace Go.Proofs.Ytnpeocoipodmfaa.Ra
open Go.ChangeShapes Go.WideShapes Go.ChangeAt Go.RowKit
open Go.Proofs.Ytnpeocoipodmfaa.Gr
open Go.Proofs.Ytnpeocoipodmfaa.Ev
open Go.Proofs.Ytnpeocoipodmfaa.Nu (nread)
open Go.Proofs.Ytnpeocoipodmfaa.Ri
open Go.Proofs.Ytnpeocoipodmfaa.By (Row Bytes tx)
set_option linter.unusedVariables false
set_option linter.unusedSimpArgs false

/-- One of the reads fails. -/
def afail (zs : List Int) (p : Int) : Prop := (rdk (nread zs) 3 p).2.2 ≠ 0 ∨ (rdk (By.tread zs) 2 (rdk (nread zs) 3 p).2.1).2.2 ≠ 0 ∨ (rdk (Vb.vread zs) 2 (rdk (By.tread zs) 2 (rdk (nread zs) 3 p).2.1).2.1).2.2 ≠ 0
def put7 (W : World) (g : Nat) (v0 v1 v2 v3 v4 v5 v6 : Value) : World := (((((((W.setCell ⟨g, 0, none⟩ v0).setCell ⟨g, 1, none⟩ v1).setCell ⟨g, 2, none⟩ v2).setCell ⟨g, 3, none⟩ v3).setCell ⟨g, 4, none⟩ v4).setCell ⟨g, 5, none⟩ v5).setCell ⟨g, 6, none⟩ v6)
theorem seven_put {W : World} {g : Nat} {cs : Array Value} {t : TypeId} (h : W.heap[g]? = some (.cells cs t)) (hs : cs.size = 7) (v0 v1 v2 v3 v4 v5 v6 : Value) : (put7 W g v0 v1 v2 v3 v4 v5 v6).heap[g]? = some (.cells #[v0, v1, v2, v3, v4, v5, v6] t) ∧ Fp (fun j => j = g) W (put7 W g v0 v1 v2 v3 v4 v5 v6) := by
  obtain ⟨a0, a1, a2, a3, a4, a5, a6, rfl⟩ : ∃ a0 a1 a2 a3 a4 a5 a6, cs = #[a0, a1, a2, a3, a4, a5, a6] := by
    match cs, hs with
    | ⟨[a0, a1, a2, a3, a4, a5, a6]⟩, _ => exact ⟨_, _, _, _, _, _, _, rfl⟩
  have h0 : (W.setCell ⟨g, 0, none⟩ v0).heap[g]? = some (.cells #[v0, a1, a2, a3, a4, a5, a6] t) := (set_of h 0 _).trans rfl
  have h1 : ((W.setCell ⟨g, 0, none⟩ v0).setCell ⟨g, 1, none⟩ v1).heap[g]? = some (.cells #[v0, v1, a2, a3, a4, a5, a6] t) := (set_of h0 1 _).trans rfl
  have h2 : (((W.setCell ⟨g, 0, none⟩ v0).setCell ⟨g, 1, none⟩ v1).setCell ⟨g, 2, none⟩ v2).heap[g]? = some (.cells #[v0, v1, v2, a3, a4, a5, a6] t) := (set_of h1 2 _).trans rfl
  have h3 : ((((W.setCell ⟨g, 0, none⟩ v0).setCell ⟨g, 1, none⟩ v1).setCell ⟨g, 2, none⟩ v2).setCell ⟨g, 3, none⟩ v3).heap[g]? = some (.cells #[v0, v1, v2, v3, a4, a5, a6] t) := (set_of h2 3 _).trans rfl
  have h4 : (((((W.setCell ⟨g, 0, none⟩ v0).setCell ⟨g, 1, none⟩ v1).setCell ⟨g, 2, none⟩ v2).setCell ⟨g, 3, none⟩ v3).setCell ⟨g, 4, none⟩ v4).heap[g]? = some (.cells #[v0, v1, v2, v3, v4, a5, a6] t) := (set_of h3 4 _).trans rfl
  have h5 : ((((((W.setCell ⟨g, 0, none⟩ v0).setCell ⟨g, 1, none⟩ v1).setCell ⟨g, 2, none⟩ v2).setCell ⟨g, 3, none⟩ v3).setCell ⟨g, 4, none⟩ v4).setCell ⟨g, 5, none⟩ v5).heap[g]? = some (.cells #[v0, v1, v2, v3, v4, v5, a6] t) := (set_of h4 5 _).trans rfl
  have h6 : (((((((W.setCell ⟨g, 0, none⟩ v0).setCell ⟨g, 1, none⟩ v1).setCell ⟨g, 2, none⟩ v2).setCell ⟨g, 3, none⟩ v3).setCell ⟨g, 4, none⟩ v4).setCell ⟨g, 5, none⟩ v5).setCell ⟨g, 6, none⟩ v6).heap[g]? = some (.cells #[v0, v1, v2, v3, v4, v5, v6] t) := (set_of h5 6 _).trans rfl
  exact ⟨h6, ((((((((Fp.refl (fun j => j = g) W).set (g := g) (.inl rfl) 0 v0).set (g := g) (.inl rfl) 1 v1).set (g := g) (.inl rfl) 2 v2).set (g := g) (.inl rfl) 3 v3).set (g := g) (.inl rfl) 4 v4).set (g := g) (.inl rfl) 5 v5).set (g := g) (.inl rfl) 6 v6)⟩
theorem seven_cells {W : World} {g : Nat} {cs : Array Value} {t : TypeId} (h : W.heap[g]? = some (.cells cs t)) (hs : cs.size = 7) : ∃ a0 a1 a2 a3 a4 a5 a6, cs = #[a0, a1, a2, a3, a4, a5, a6] := by
  match cs, hs with
  | ⟨[a0, a1, a2, a3, a4, a5, a6]⟩, _ => exact ⟨_, _, _, _, _, _, _, rfl⟩
set_option maxHeartbeats 4000000 in
set_option maxRecDepth 100000 in
theorem added_any (a : Option Addr) (len cap : Nat) (zs : List Int) (p : Int) (w : World) (H : Bytes w a len cap zs) (hcap : len ≤ 281474976710656) :
    Calls Try.prog 37 #[.slice a len cap, .int .i64 p] w fun e w' => ((∃ E : Int, E ≠ 0 ∧ afail zs p ∧ e = .returned (.tuple #[.agg #[.int .i64 0, .int .i64 0, .int .i64 0, .string { data := #[] }, .string { data := #[] }, .int .u64 0, .int .u64 0], .int .i64 0, .int .i64 E])) ∨ ∃ l n z s1 s2 lo hi q1 q2 q3, rdk (nread zs) 3 p = ([l, n, z], q1, 0) ∧ rdk (By.tread zs) 2 q1 = ([s1, s2], q2, 0) ∧ rdk (Vb.vread zs) 2 q2 = ([lo, hi], q3, 0) ∧ e = .returned (.tuple #[.agg #[.int .i64 l, .int .i64 n, .int .i64 z, .string (By.str s1), .string (By.str s2), .int .u64 lo, .int .u64 hi], .int .i64 q3, .int .i64 0])) ∧ Below w.heap.size w w' := by
  obtain ⟨gx, hgx0⟩ : ∃ g, g = w.heap.size := ⟨_, rfl⟩
  have hgx : Hid (w.heap.size ≤ gx) := by show _ ≤ _; omega
  obtain ⟨WV, hWV⟩ : ∃ W, W = w.alloc (.cells #[.int .i64 0, .int .i64 0, .int .i64 0, .string { data := #[] }, .string { data := #[] }, .int .u64 0, .int .u64 0] 60) := ⟨_, rfl⟩
  have KX : WV.heap[gx]? = some (.cells #[.int .i64 0, .int .i64 0, .int .i64 0, .string { data := #[] }, .string { data := #[] }, .int .u64 0, .int .u64 0] 60) := by rw [hWV, hgx0]; exact new_at _ _
  have Lo : Below w.heap.size w WV := by rw [hWV]; exact box_below _ _
  have HH : Hid (∀ W, Below w.heap.size w W → Bytes W a len cap zs) := fun W b => ⟨H.1, H.2.1, H.2.2.1, H.2.2.2.1, fun x hx i hi => (b.cell (block_lt_of_cell (H.2.2.2.2 x hx i hi))).trans (H.2.2.2.2 x hx i hi)⟩
  replace hWV := hid hWV
  replace hgx0 := hid hgx0
  clear H
  go_enter Try.func37, Try.ntmps37
  go_wp2_with fail
  rw [← hWV.out, ← hgx0.out]
  refine wp_scope_jumps 0 (fun a' w' => ∃ E : Int, E ≠ 0 ∧ afail zs p ∧ Below w.heap.size w w' ∧ (∃ cs, cs.size = 7 ∧ w'.heap[gx]? = some (.cells cs 60)) ∧ ∃ u0 u1 u2 u3 u5 u7 u8 u9 u10 u11 u12 u13 u14 u15 u16 u17 u18 u19 u20 u21 u22 u23 u24 u25 u26 u27 u28 u29 u30 u31 u32 u33 u34 u35 u36 u37 u38 u39 u40 u41 u42 u43 u44 u45 u46 u47 u48 u49 u50 u51 u52 u53 u54 u55 u56 u57 u58, a' = { tmps := #[u0, u1, u2, u3, .pointer (some ⟨gx, 0, none⟩), u5, .int .i64 E, u7, u8, u9, u10, u11, u12, u13, u14, u15, u16, u17, u18, u19, u20, u21, u22, u23, u24, u25, u26, u27, u28, u29, u30, u31, u32, u33, u34, u35, u36, u37, u38, u39, u40, u41, u42, u43, u44, u45, u46, u47, u48, u49, u50, u51, u52, u53, u54, u55, u56, u57, u58], defers := [] }) (fun _ _ => 0) rfl ?_ ?_
  · go_wp2_with fail
    refine wp_region_any (by kernel_rfl) ?_
    change wpAny _ _ _ _ _ _ _ (World.drew _)
    have Lo := Lo.drew
    have KX : (World.drew WV).heap[gx]? = _ := KX
    generalize World.drew WV = D0 at *
    refine wpAny_take (i := 0) (v := ?v1) rfl (by kernel_rfl) (by kernel_rfl) (by kernel_rfl) (fun _ _ _ h => h) (Or.inl ⟨by rfl, ?h1⟩) ?_
    case h1 => (intro w; go_simp; try (with_reducible rfl))
    go_simp
    refine wpAny_take (i := 1) (v := ?v2) rfl (by kernel_rfl) (by kernel_rfl) (by kernel_rfl) (fun _ _ _ h => h) (Or.inl ⟨by rfl, ?h2⟩) ?_
    case h2 => (intro w; go_simp; try (with_reducible rfl))
    go_simp
    refine wpAny_take (i := 2) (v := ?v3) rfl (by kernel_rfl) (by kernel_rfl) (by kernel_rfl) (fun _ _ _ h => h) (Or.inl ⟨by rfl, ?h3⟩) ?_
    case h3 => (intro w; go_simp; try (with_reducible rfl))
    go_simp
    refine wpAny_take (i := 3) (v := ?v4) rfl (by kernel_rfl) (by kernel_rfl) (by kernel_rfl) (fun _ _ _ h => h) (Or.inl ⟨by rfl, ?h4⟩) ?_
    case h4 => (intro w; go_simp; try (with_reducible rfl))
    go_simp
    refine wpAny_take (i := 4) (v := ?v5) rfl (by kernel_rfl) (by kernel_rfl) (by kernel_rfl) (fun _ _ _ h => h) (Or.inl ⟨by rfl, ?h5⟩) ?_
    case h5 => (intro w; go_simp; try (with_reducible rfl))
    go_simp
    refine wpAny_take (i := 5) (v := ?v6) rfl (by kernel_rfl) (by kernel_rfl) (by kernel_rfl) (fun _ _ _ h => h) (Or.inl ⟨by rfl, ?h6⟩) ?_
    case h6 => (intro w; go_simp; try (with_reducible rfl))
    go_simp
    refine wpAny_take (i := 6) (v := ?v7) rfl (by kernel_rfl) (by kernel_rfl) (by kernel_rfl) (fun _ _ _ h => h) (Or.inl ⟨by rfl, ?h7⟩) ?_
    case h7 => (intro w; go_simp; try (with_reducible rfl))
    go_simp
    refine wpAny_take (i := 7) (v := ?v8) rfl (by kernel_rfl) (by kernel_rfl) (by kernel_rfl) (fun _ _ _ h => h) (Or.inl ⟨by rfl, ?h8⟩) ?_
    case h8 => (intro w; go_simp; try (with_reducible rfl))
    go_simp
    refine wpAny_take (i := 8) (v := ?v9) rfl (by kernel_rfl) (by kernel_rfl) (by kernel_rfl) (fun _ _ _ h => h) (Or.inl ⟨by rfl, ?h9⟩) ?_
    case h9 => (intro w; go_simp; try (with_reducible rfl))
    go_simp
    refine wpAny_ready (rs := [9]) (by kernel_rfl) (by simp) ?_
    refine AllReady.cons rfl (fun K hK => ?_) ?_
    · go_simp
      have bb0 := box_below D0 (.cells #[.pointer (some ⟨gx, 0, none⟩), .pointer (some ⟨gx, 1, none⟩), .pointer (some ⟨gx, 2, none⟩)] 72)
      have KP0 := new_at D0 (.cells #[.pointer (some ⟨gx, 0, none⟩), .pointer (some ⟨gx, 1, none⟩), .pointer (some ⟨gx, 2, none⟩)] 72)
      have ne0 : D0.heap.size ≠ gx := fun e => by have := blk_lt KX; omega
      replace KX := (bb0.block _ (blk_lt KX)).trans KX
      replace Lo := Lo.trans (bb0.mono (Lo.size))
      refine hK _ _ ?_
      clear hK
      generalize D0.alloc (.cells #[.pointer (some ⟨gx, 0, none⟩), .pointer (some ⟨gx, 1, none⟩), .pointer (some ⟨gx, 2, none⟩)] 72) = V0 at *
      generalize D0.heap.size = gs0 at *
      clear bb0
      refine wpAny_ready (rs := [10]) (by kernel_rfl) (by simp) ?_
      refine AllReady.cons rfl (fun K hK => ?_) ?_
      · have c0 := hid (into_int a len cap zs p V0 gx 0 3 gs0 #[.int .i64 0, .int .i64 0, .int .i64 0, .string { data := #[] }, .string { data := #[] }, .int .u64 0, .int .u64 0] 60 (fun W f => HH.out W (Lo.trans (Fp.base f Lo.size (fun j e => by subst e; exact hgx.out)))) hcap KX (by show _ ≤ 7; decide) KP0 ne0 (by decide))
        go_simp
        go_wp2_with fail
        refine (c0.out).mono ?_
        rintro en Y0 ⟨rfl, KK0, F0⟩
        replace Lo := Lo.trans (Fp.base F0 Lo.size (fun j e => by subst e; exact hgx.out))
        clear c0 F0 KP0 KX
        have KX := KK0
        clear KK0
        refine hK _ _ ?_
        clear hK
        generalize hA0 : rdk (nread zs) 3 p = A0 at *
        obtain ⟨xs0, q1, E0⟩ := A0
        dsimp only at KX ⊢
        refine wpAny_take (i := 11) (v := ?v10) rfl (by kernel_rfl) (by kernel_rfl) (by kernel_rfl) (fun _ _ _ h => h) (Or.inl ⟨by rfl, ?h10⟩) ?_
        case h10 => (intro w; go_simp; try (with_reducible rfl))
        go_simp
        refine wpAny_take (i := 12) (v := ?v11) rfl (by kernel_rfl) (by kernel_rfl) (by kernel_rfl) (fun _ _ _ h => h) (Or.inl ⟨by rfl, ?h11⟩) ?_
        case h11 => (intro w; go_simp; try (with_reducible rfl))
        go_simp
        refine wpAny_take (i := 13) (v := ?v12) rfl (by kernel_rfl) (by kernel_rfl) (by kernel_rfl) (fun _ _ _ h => h) (Or.inl ⟨by rfl, ?h12⟩) ?_
        case h12 => (intro w; go_simp; try (with_reducible rfl))
        go_simp
        refine wpAny_take (i := 14) (v := ?v13) rfl (by kernel_rfl) (by kernel_rfl) (by kernel_rfl) (fun _ _ _ h => h) (Or.inl ⟨by rfl, ?h13⟩) ?_
        case h13 => (intro w; go_simp; try (with_reducible rfl))
        go_simp
        refine wpAny_take (i := 15) (v := ?v14) rfl (by kernel_rfl) (by kernel_rfl) (by kernel_rfl) (fun _ _ _ h => h) (Or.inl ⟨by rfl, ?h14⟩) ?_
        case h14 => (intro w; go_simp; try (with_reducible rfl))
        go_simp
        refine wpAny_done (by kernel_rfl) ?_ _
        by_cases h0 : E0 = 0
        · subst h0
          have hl0 : xs0.length = 3 := by have := rdk_len (nread zs) p 3 (by rw [hA0]); rwa [hA0] at this
          obtain ⟨l, n, z, hx0⟩ : ∃ l n z, xs0 = [l, n, z] := by
            match xs0, hl0 with
            | [l, n, z], _ => exact ⟨_, _, _, rfl⟩
          subst hx0
          clear hl0
          change Y0.heap[gx]? = some (.cells #[.int .i64 l, .int .i64 n, .int .i64 z, .string { data := #[] }, .string { data := #[] }, .int .u64 0, .int .u64 0] 60) at KX
          replace hA0 := hid hA0
          go_wp2_with fail
          refine wp_region_any (by kernel_rfl) ?_
          change wpAny _ _ _ _ _ _ _ (World.drew _)
          have Lo := Lo.drew
          have KX : (World.drew Y0).heap[gx]? = _ := KX
          generalize World.drew Y0 = D1 at *
          refine wpAny_take (i := 0) (v := ?v15) rfl (by kernel_rfl) (by kernel_rfl) (by kernel_rfl) (fun _ _ _ h => h) (Or.inl ⟨by rfl, ?h15⟩) ?_
          case h15 => (intro w; go_simp; try (with_reducible rfl))
          go_simp
          refine wpAny_take (i := 1) (v := ?v16) rfl (by kernel_rfl) (by kernel_rfl) (by kernel_rfl) (fun _ _ _ h => h) (Or.inl ⟨by rfl, ?h16⟩) ?_
          case h16 => (intro w; go_simp; try (with_reducible rfl))
          go_simp
          refine wpAny_take (i := 2) (v := ?v17) rfl (by kernel_rfl) (by kernel_rfl) (by kernel_rfl) (fun _ _ _ h => h) (Or.inl ⟨by rfl, ?h17⟩) ?_
          case h17 => (intro w; go_simp; try (with_reducible rfl))
          go_simp
          refine wpAny_take (i := 3) (v := ?v18) rfl (by kernel_rfl) (by kernel_rfl) (by kernel_rfl) (fun _ _ _ h => h) (Or.inl ⟨by rfl, ?h18⟩) ?_
          case h18 => (intro w; go_simp; try (with_reducible rfl))
          go_simp
          refine wpAny_take (i := 4) (v := ?v19) rfl (by kernel_rfl) (by kernel_rfl) (by kernel_rfl) (fun _ _ _ h => h) (Or.inl ⟨by rfl, ?h19⟩) ?_
          case h19 => (intro w; go_simp; try (with_reducible rfl))
          go_simp
          refine wpAny_take (i := 5) (v := ?v20) rfl (by kernel_rfl) (by kernel_rfl) (by kernel_rfl) (fun _ _ _ h => h) (Or.inl ⟨by rfl, ?h20⟩) ?_
          case h20 => (intro w; go_simp; try (with_reducible rfl))
          go_simp
          refine wpAny_take (i := 6) (v := ?v21) rfl (by kernel_rfl) (by kernel_rfl) (by kernel_rfl) (fun _ _ _ h => h) (Or.inl ⟨by rfl, ?h21⟩) ?_
          case h21 => (intro w; go_simp; try (with_reducible rfl))
          go_simp
          refine wpAny_take (i := 7) (v := ?v22) rfl (by kernel_rfl) (by kernel_rfl) (by kernel_rfl) (fun _ _ _ h => h) (Or.inl ⟨by rfl, ?h22⟩) ?_
          case h22 => (intro w; go_simp; try (with_reducible rfl))
          go_simp
          refine wpAny_ready (rs := [8]) (by kernel_rfl) (by simp) ?_
          refine AllReady.cons rfl (fun K hK => ?_) ?_
          · go_simp
            have bb1 := box_below D1 (.cells #[.pointer (some ⟨gx, 3, none⟩), .pointer (some ⟨gx, 4, none⟩)] 108)
            have KP1 := new_at D1 (.cells #[.pointer (some ⟨gx, 3, none⟩), .pointer (some ⟨gx, 4, none⟩)] 108)
            have ne1 : D1.heap.size ≠ gx := fun e => by have := blk_lt KX; omega
            replace KX := (bb1.block _ (blk_lt KX)).trans KX
            replace Lo := Lo.trans (bb1.mono (Lo.size))
            refine hK _ _ ?_
            clear hK
            generalize D1.alloc (.cells #[.pointer (some ⟨gx, 3, none⟩), .pointer (some ⟨gx, 4, none⟩)] 108) = V1 at *
            generalize D1.heap.size = gs1 at *
            clear bb1
            refine wpAny_ready (rs := [9]) (by kernel_rfl) (by simp) ?_
            refine AllReady.cons rfl (fun K hK => ?_) ?_
            · have c1 := hid (into_str a len cap zs q1 V1 gx 3 2 gs1 #[.int .i64 l, .int .i64 n, .int .i64 z, .string { data := #[] }, .string { data := #[] }, .int .u64 0, .int .u64 0] 60 (fun W f => HH.out W (Lo.trans (Fp.base f Lo.size (fun j e => by subst e; exact hgx.out)))) hcap KX (by show _ ≤ 7; decide) KP1 ne1 (by decide))
              go_simp
              go_wp2_with fail
              refine (c1.out).mono ?_
              rintro en Y1 ⟨rfl, KK1, F1⟩
              replace Lo := Lo.trans (Fp.base F1 Lo.size (fun j e => by subst e; exact hgx.out))
              clear c1 F1 KP1 KX
              have KX := KK1
              clear KK1
              refine hK _ _ ?_
              clear hK
              generalize hA1 : rdk (By.tread zs) 2 q1 = A1 at *
              obtain ⟨xs1, q2, E1⟩ := A1
              dsimp only at KX ⊢
              refine wpAny_take (i := 10) (v := ?v23) rfl (by kernel_rfl) (by kernel_rfl) (by kernel_rfl) (fun _ _ _ h => h) (Or.inl ⟨by rfl, ?h23⟩) ?_
              case h23 => (intro w; go_simp; try (with_reducible rfl))
              go_simp
              refine wpAny_take (i := 11) (v := ?v24) rfl (by kernel_rfl) (by kernel_rfl) (by kernel_rfl) (fun _ _ _ h => h) (Or.inl ⟨by rfl, ?h24⟩) ?_
              case h24 => (intro w; go_simp; try (with_reducible rfl))
              go_simp
              refine wpAny_take (i := 12) (v := ?v25) rfl (by kernel_rfl) (by kernel_rfl) (by kernel_rfl) (fun _ _ _ h => h) (Or.inl ⟨by rfl, ?h25⟩) ?_
              case h25 => (intro w; go_simp; try (with_reducible rfl))
              go_simp
              refine wpAny_take (i := 13) (v := ?v26) rfl (by kernel_rfl) (by kernel_rfl) (by kernel_rfl) (fun _ _ _ h => h) (Or.inl ⟨by rfl, ?h26⟩) ?_
              case h26 => (intro w; go_simp; try (with_reducible rfl))
              go_simp
              refine wpAny_take (i := 14) (v := ?v27) rfl (by kernel_rfl) (by kernel_rfl) (by kernel_rfl) (fun _ _ _ h => h) (Or.inl ⟨by rfl, ?h27⟩) ?_
              case h27 => (intro w; go_simp; try (with_reducible rfl))
              go_simp
              refine wpAny_done (by kernel_rfl) ?_ _
              by_cases h1 : E1 = 0
              · subst h1
                have hl1 : xs1.length = 2 := by have := rdk_len (By.tread zs) q1 2 (by rw [hA1]); rwa [hA1] at this
                obtain ⟨s1, s2, hx1⟩ : ∃ s1 s2, xs1 = [s1, s2] := by
                  match xs1, hl1 with
                  | [s1, s2], _ => exact ⟨_, _, rfl⟩
                subst hx1
                clear hl1
                change Y1.heap[gx]? = some (.cells #[.int .i64 l, .int .i64 n, .int .i64 z, .string (By.str s1), .string (By.str s2), .int .u64 0, .int .u64 0] 60) at KX
                replace hA1 := hid hA1
                go_wp2_with fail
                refine wp_region_any (by kernel_rfl) ?_
                change wpAny _ _ _ _ _ _ _ (World.drew _)
                have Lo := Lo.drew
                have KX : (World.drew Y1).heap[gx]? = _ := KX
                generalize World.drew Y1 = D2 at *
                refine wpAny_take (i := 0) (v := ?v28) rfl (by kernel_rfl) (by kernel_rfl) (by kernel_rfl) (fun _ _ _ h => h) (Or.inl ⟨by rfl, ?h28⟩) ?_
                case h28 => (intro w; go_simp; try (with_reducible rfl))
                go_simp
                refine wpAny_take (i := 1) (v := ?v29) rfl (by kernel_rfl) (by kernel_rfl) (by kernel_rfl) (fun _ _ _ h => h) (Or.inl ⟨by rfl, ?h29⟩) ?_
                case h29 => (intro w; go_simp; try (with_reducible rfl))
                go_simp
                refine wpAny_take (i := 2) (v := ?v30) rfl (by kernel_rfl) (by kernel_rfl) (by kernel_rfl) (fun _ _ _ h => h) (Or.inl ⟨by rfl, ?h30⟩) ?_
                case h30 => (intro w; go_simp; try (with_reducible rfl))
                go_simp
                refine wpAny_take (i := 3) (v := ?v31) rfl (by kernel_rfl) (by kernel_rfl) (by kernel_rfl) (fun _ _ _ h => h) (Or.inl ⟨by rfl, ?h31⟩) ?_
                case h31 => (intro w; go_simp; try (with_reducible rfl))
                go_simp
                refine wpAny_take (i := 4) (v := ?v32) rfl (by kernel_rfl) (by kernel_rfl) (by kernel_rfl) (fun _ _ _ h => h) (Or.inl ⟨by rfl, ?h32⟩) ?_
                case h32 => (intro w; go_simp; try (with_reducible rfl))
                go_simp
                refine wpAny_take (i := 5) (v := ?v33) rfl (by kernel_rfl) (by kernel_rfl) (by kernel_rfl) (fun _ _ _ h => h) (Or.inl ⟨by rfl, ?h33⟩) ?_
                case h33 => (intro w; go_simp; try (with_reducible rfl))
                go_simp
                refine wpAny_take (i := 6) (v := ?v34) rfl (by kernel_rfl) (by kernel_rfl) (by kernel_rfl) (fun _ _ _ h => h) (Or.inl ⟨by rfl, ?h34⟩) ?_
                case h34 => (intro w; go_simp; try (with_reducible rfl))
                go_simp
                refine wpAny_take (i := 7) (v := ?v35) rfl (by kernel_rfl) (by kernel_rfl) (by kernel_rfl) (fun _ _ _ h => h) (Or.inl ⟨by rfl, ?h35⟩) ?_
                case h35 => (intro w; go_simp; try (with_reducible rfl))
                go_simp
                refine wpAny_ready (rs := [8]) (by kernel_rfl) (by simp) ?_
                refine AllReady.cons rfl (fun K hK => ?_) ?_
                · go_simp
                  have bb2 := box_below D2 (.cells #[.pointer (some ⟨gx, 5, none⟩), .pointer (some ⟨gx, 6, none⟩)] 75)
                  have KP2 := new_at D2 (.cells #[.pointer (some ⟨gx, 5, none⟩), .pointer (some ⟨gx, 6, none⟩)] 75)
                  have ne2 : D2.heap.size ≠ gx := fun e => by have := blk_lt KX; omega
                  replace KX := (bb2.block _ (blk_lt KX)).trans KX
                  replace Lo := Lo.trans (bb2.mono (Lo.size))
                  refine hK _ _ ?_
                  clear hK
                  generalize D2.alloc (.cells #[.pointer (some ⟨gx, 5, none⟩), .pointer (some ⟨gx, 6, none⟩)] 75) = V2 at *
                  generalize D2.heap.size = gs2 at *
                  clear bb2
                  refine wpAny_ready (rs := [9]) (by kernel_rfl) (by simp) ?_
                  refine AllReady.cons rfl (fun K hK => ?_) ?_
                  · have c2 := hid (into_u64 a len cap zs q2 V2 gx 5 2 gs2 #[.int .i64 l, .int .i64 n, .int .i64 z, .string (By.str s1), .string (By.str s2), .int .u64 0, .int .u64 0] 60 (fun W f => HH.out W (Lo.trans (Fp.base f Lo.size (fun j e => by subst e; exact hgx.out)))) hcap KX (by show _ ≤ 7; decide) KP2 ne2 (by decide))
                    go_simp
                    go_wp2_with fail
                    refine (c2.out).mono ?_
                    rintro en Y2 ⟨rfl, KK2, F2⟩
                    replace Lo := Lo.trans (Fp.base F2 Lo.size (fun j e => by subst e; exact hgx.out))
                    clear c2 F2 KP2 KX
                    have KX := KK2
                    clear KK2
                    refine hK _ _ ?_
                    clear hK
                    generalize hA2 : rdk (Vb.vread zs) 2 q2 = A2 at *
                    obtain ⟨xs2, q3, E2⟩ := A2
                    dsimp only at KX ⊢
                    refine wpAny_take (i := 10) (v := ?v36) rfl (by kernel_rfl) (by kernel_rfl) (by kernel_rfl) (fun _ _ _ h => h) (Or.inl ⟨by rfl, ?h36⟩) ?_
                    case h36 => (intro w; go_simp; try (with_reducible rfl))
                    go_simp
                    refine wpAny_take (i := 11) (v := ?v37) rfl (by kernel_rfl) (by kernel_rfl) (by kernel_rfl) (fun _ _ _ h => h) (Or.inl ⟨by rfl, ?h37⟩) ?_
                    case h37 => (intro w; go_simp; try (with_reducible rfl))
                    go_simp
                    refine wpAny_take (i := 12) (v := ?v38) rfl (by kernel_rfl) (by kernel_rfl) (by kernel_rfl) (fun _ _ _ h => h) (Or.inl ⟨by rfl, ?h38⟩) ?_
                    case h38 => (intro w; go_simp; try (with_reducible rfl))
                    go_simp
                    refine wpAny_take (i := 13) (v := ?v39) rfl (by kernel_rfl) (by kernel_rfl) (by kernel_rfl) (fun _ _ _ h => h) (Or.inl ⟨by rfl, ?h39⟩) ?_
                    case h39 => (intro w; go_simp; try (with_reducible rfl))
                    go_simp
                    refine wpAny_take (i := 14) (v := ?v40) rfl (by kernel_rfl) (by kernel_rfl) (by kernel_rfl) (fun _ _ _ h => h) (Or.inl ⟨by rfl, ?h40⟩) ?_
                    case h40 => (intro w; go_simp; try (with_reducible rfl))
                    go_simp
                    refine wpAny_done (by kernel_rfl) ?_ _
                    by_cases h2 : E2 = 0
                    · subst h2
                      have hl2 : xs2.length = 2 := by have := rdk_len (Vb.vread zs) q2 2 (by rw [hA2]); rwa [hA2] at this
                      obtain ⟨lo, hi, hx2⟩ : ∃ lo hi, xs2 = [lo, hi] := by
                        match xs2, hl2 with
                        | [lo, hi], _ => exact ⟨_, _, rfl⟩
                      subst hx2
                      clear hl2
                      change Y2.heap[gx]? = some (.cells #[.int .i64 l, .int .i64 n, .int .i64 z, .string (By.str s1), .string (By.str s2), .int .u64 lo, .int .u64 hi] 60) at KX
                      replace hA2 := hid hA2
                      have z0 := cell_of KX 0 _ rfl
                      have f0 := fz_of KX 0
                      have z1 := cell_of KX 1 _ rfl
                      have f1 := fz_of KX 1
                      have z2 := cell_of KX 2 _ rfl
                      have f2 := fz_of KX 2
                      have z3 := cell_of KX 3 _ rfl
                      have f3 := fz_of KX 3
                      have z4 := cell_of KX 4 _ rfl
                      have f4 := fz_of KX 4
                      have z5 := cell_of KX 5 _ rfl
                      have f5 := fz_of KX 5
                      have z6 := cell_of KX 6 _ rfl
                      have f6 := fz_of KX 6
                      obtain ⟨K7, F7⟩ := seven_put KX rfl (.int .i64 l) (.int .i64 n) (.int .i64 z) (.string (By.str s1)) (.string (By.str s2)) (.int .u64 lo) (.int .u64 hi)
                      replace Lo := hid (Lo.trans (Fp.base F7 Lo.size (fun j e => by subst e; exact hgx.out)))
                      replace K7 := hid K7
                      clear F7
                      unfold put7 at K7 Lo
                      go_wp2_with fail
                      simp only [Exit.jump]
                      have y0 := cell_of K7.out 0 _ rfl
                      have y1 := cell_of K7.out 1 _ rfl
                      have y2 := cell_of K7.out 2 _ rfl
                      have y3 := cell_of K7.out 3 _ rfl
                      have y4 := cell_of K7.out 4 _ rfl
                      have y5 := cell_of K7.out 5 _ rfl
                      have y6 := cell_of K7.out 6 _ rfl
                      exact bodyPost_ret (v := .tuple #[.agg #[.int .i64 l, .int .i64 n, .int .i64 z, .string (By.str s1), .string (By.str s2), .int .u64 lo, .int .u64 hi], .int .i64 q3, .int .i64 0]) (by simp [results, Try.results37, go_sem, y0, y1, y2, y3, y4, y5, y6]) rfl ⟨.inr ⟨l, n, z, s1, s2, lo, hi, q1, q2, q3, hA0.out, hA1.out, hA2.out, rfl⟩, Lo.out⟩
                    · have hB2 : (E2 == 0) = false := by simp [h2]
                      have af2 : afail zs p := .inr (.inr (by rw [hA0.out]; show (rdk (Vb.vread zs) 2 (rdk (By.tread zs) 2 q1).2.1).2.2 ≠ 0; rw [hA1.out]; show (rdk (Vb.vread zs) 2 q2).2.2 ≠ 0; rw [hA2]; exact h2))
                      have sz2 : Hid (∃ cs, cs.size = 7 ∧ Y2.heap[gx]? = some (.cells cs 60)) := ⟨_, by rw [puts_size]; rfl, KX⟩
                      replace KX := hid KX
                      replace Lo := hid Lo
                      replace hA2 := hid hA2
                      replace af2 := hid af2
                      go_wp2_with fail
                      go_step3
                      exact ⟨rfl, E2, h2, af2.out, Lo.out, sz2.out, _, _, _, _, _, _, _, _, _, _, _, _, _, _, _, _, _, _, _, _, _, _, _, _, _, _, _, _, _, _, _, _, _, _, _, _, _, _, _, _, _, _, _, _, _, _, _, _, _, _, _, _, _, _, _, _, _, rfl⟩
                  exact AllReady.nil
                exact AllReady.nil
              · have hB1 : (E1 == 0) = false := by simp [h1]
                have af1 : afail zs p := .inr (.inl (by rw [hA0.out]; show (rdk (By.tread zs) 2 q1).2.2 ≠ 0; rw [hA1]; exact h1))
                have sz1 : Hid (∃ cs, cs.size = 7 ∧ Y1.heap[gx]? = some (.cells cs 60)) := ⟨_, by rw [puts_size]; rfl, KX⟩
                replace KX := hid KX
                replace Lo := hid Lo
                replace hA1 := hid hA1
                replace af1 := hid af1
                go_wp2_with fail
                go_step3
                exact ⟨rfl, E1, h1, af1.out, Lo.out, sz1.out, _, _, _, _, _, _, _, _, _, _, _, _, _, _, _, _, _, _, _, _, _, _, _, _, _, _, _, _, _, _, _, _, _, _, _, _, _, _, _, _, _, _, _, _, _, _, _, _, _, _, _, _, _, _, _, _, _, rfl⟩
            exact AllReady.nil
          exact AllReady.nil
        · have hB0 : (E0 == 0) = false := by simp [h0]
          have af0 : afail zs p := .inl (by rw [hA0]; exact h0)
          have sz0 : Hid (∃ cs, cs.size = 7 ∧ Y0.heap[gx]? = some (.cells cs 60)) := ⟨_, by rw [puts_size]; rfl, KX⟩
          replace KX := hid KX
          replace Lo := hid Lo
          replace hA0 := hid hA0
          replace af0 := hid af0
          go_wp2_with fail
          go_step3
          exact ⟨rfl, E0, h0, af0.out, Lo.out, sz0.out, _, _, _, _, _, _, _, _, _, _, _, _, _, _, _, _, _, _, _, _, _, _, _, _, _, _, _, _, _, _, _, _, _, _, _, _, _, _, _, _, _, _, _, _, _, _, _, _, _, _, _, _, _, _, _, _, _, rfl⟩
      exact AllReady.nil
    exact AllReady.nil

  · rintro a' w' ⟨E, hE, hf, hlo, ⟨cs, hcs, KX⟩, u0, u1, u2, u3, u5, u7, u8, u9, u10, u11, u12, u13, u14, u15, u16, u17, u18, u19, u20, u21, u22, u23, u24, u25, u26, u27, u28, u29, u30, u31, u32, u33, u34, u35, u36, u37, u38, u39, u40, u41, u42, u43, u44, u45, u46, u47, u48, u49, u50, u51, u52, u53, u54, u55, u56, u57, u58, rfl⟩
    obtain ⟨a0, a1, a2, a3, a4, a5, a6, rfl⟩ := seven_cells KX hcs
    clear hcs
    have z0 := cell_of KX 0 _ rfl
    have f0 := fz_of KX 0
    have z1 := cell_of KX 1 _ rfl
    have f1 := fz_of KX 1
    have z2 := cell_of KX 2 _ rfl
    have f2 := fz_of KX 2
    have z3 := cell_of KX 3 _ rfl
    have f3 := fz_of KX 3
    have z4 := cell_of KX 4 _ rfl
    have f4 := fz_of KX 4
    have z5 := cell_of KX 5 _ rfl
    have f5 := fz_of KX 5
    have z6 := cell_of KX 6 _ rfl
    have f6 := fz_of KX 6
    obtain ⟨K7, F7⟩ := seven_put KX rfl (.int .i64 0) (.int .i64 0) (.int .i64 0) (.string { data := #[] }) (.string { data := #[] }) (.int .u64 0) (.int .u64 0)
    have Lo := hid (hlo.trans (Fp.base F7 hlo.size (fun j e => by subst e; exact hgx.out)))
    replace K7 := hid K7
    clear F7
    unfold put7 at K7 Lo
    go_wp2_with fail
    simp only [Exit.jump]
    have y0 := cell_of K7.out 0 _ rfl
    have y1 := cell_of K7.out 1 _ rfl
    have y2 := cell_of K7.out 2 _ rfl
    have y3 := cell_of K7.out 3 _ rfl
    have y4 := cell_of K7.out 4 _ rfl
    have y5 := cell_of K7.out 5 _ rfl
    have y6 := cell_of K7.out 6 _ rfl
    exact bodyPost_ret (v := .tuple #[.agg #[.int .i64 0, .int .i64 0, .int .i64 0, .string { data := #[] }, .string { data := #[] }, .int .u64 0, .int .u64 0], .int .i64 0, .int .i64 E]) (by simp [results, Try.results37, go_sem, y0, y1, y2, y3, y4, y5, y6]) rfl ⟨.inl ⟨E, hE, hf, rfl⟩, Lo.out⟩
end Go.Proofs.Ytnpeocoipodmfaa.Ra

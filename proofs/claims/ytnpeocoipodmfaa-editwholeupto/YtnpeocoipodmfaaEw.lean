/- EditWhole walked. -/
import Derived.Test.YtnpeocoipodmfaaWh
import Derived.Test.YtnpeocoipodmfaaEs
import Derived.Test.YtnpeocoipodmfaaSl
import Derived.Deep.Cut
import Derived.Deep.CutRange
namespace Go.Proofs.Ytnpeocoipodmfaa.Ew
open Go.ChangeShapes Go.WideShapes Go.ChangeAt Go.RowKit
open Go.Proofs.Ytnpeocoipodmfaa.Gr
open Go.Proofs.Ytnpeocoipodmfaa.Ev
open Go.Proofs.Ytnpeocoipodmfaa.Ss
open Go.Proofs.Ytnpeocoipodmfaa.Le
open Go.Proofs.Ytnpeocoipodmfaa.Mg (below_grown own_grown)
open Go.Proofs.Ytnpeocoipodmfaa.Mh (row_any)
open Go.Proofs.Ytnpeocoipodmfaa.Ap (own_ty apart_ty)
open Go.Proofs.Ytnpeocoipodmfaa.Es
open Go.Proofs.Ytnpeocoipodmfaa.Sl
open Go.Proofs.Ytnpeocoipodmfaa.Oe
open Go.Proofs.Ytnpeocoipodmfaa.Lv
open Go.Proofs.Ytnpeocoipodmfaa.Wh
set_option linter.unusedVariables false
set_option linter.unusedSimpArgs false

def eL0 : El Lf where
  st := 45
  et := 48
  k := 1
  by_ := 24
  cs := fun x => [.slice x.a x.n x.c]
  z := zl
  zv := .slice none 0 0
  len := fun _ => rfl
  one := by intro x u h; simp at h; rcases h with rfl; rfl
  und := Try.underlying45
  info := by kernel_rfl
  zc := rfl
  pos := by decide
  ok := fun _ => True
/-- The levels that the law lays. -/
structure In (w : World) (gN base : Nat) (A : Array Value) (W : World) (v : Value) (xs : List Lf) : Prop where
  row : eL0.Own W base v xs
  fs : ∀ x ∈ xs, eFi.Own W base (.slice x.a x.n x.c) x.fs ∧ (∀ f ∈ x.fs, f.ok) ∧ x.n = x.fs.length
  kN : W.heap[gN]? = some (.cells A 47)
  lo : Below w.heap.size w W
  d : w.heap.size ≤ gN ∧ gN < base ∧ base ≤ W.heap.size
section
variable {w : World} {gN base : Nat} {A : Array Value} {W : World} {v : Value} {xs : List Lf}
theorem In.later (h : In w gN base A W v xs) {W' : World} (b : Below W.heap.size W W') : In w gN base A W' v xs :=
  ⟨h.row.later b, fun x hx => ⟨(h.fs x hx).1.later b, (h.fs x hx).2⟩, below_blk h.kN b, Below.up h.lo b, by have := h.d; have := b.size; omega⟩
theorem In.lvs (h : In w gN base A W v xs) : ∃ a c, v = .slice a xs.length c ∧ Lvs W a xs.length c (xs.map Lf.fs) := by
  obtain ⟨a, c, e, hs, _⟩ := h.row.sl (fun _ _ => trivial)
  refine ⟨a, c, e, xs, ⟨hs.n, hs.c, hs.nil, fun x hx => ?_, fun b o p hp hl => ⟨(hs.cells b o p hp hl).1, fun i hi => (hs.cells b o p hp hl).2 i hi⟩⟩, rfl⟩
  obtain ⟨h1, h2, h3⟩ := h.fs x hx
  obtain ⟨a', c', e', s', _⟩ := h1.sl h2
  injection e' with e1 e2 e3
  show eFi.Sl W x.a x.n x.c x.fs
  rw [h3, e1, e3]
  exact s'
/-- A level more. -/
theorem In.add (h : In w gN base A W v xs) (x : Lf) (hx : eFi.Own W base (.slice x.a x.n x.c) x.fs) (hok : ∀ f ∈ x.fs, f.ok) (hn : x.n = x.fs.length) (hl : xs.length ≤ 1048576) :
    ∃ v' W', (Builtin.append_ #[45, 45] 45 #[v, .slice (some ⟨W.heap.size, 0, none⟩) 1 1]).run Try.prog (W.alloc (.cells #[.slice x.a x.n x.c] 48)) = .ok v' W' ∧ In w gN base A W' v' (xs ++ [x]) := by
  obtain ⟨v', W', h1, h2, h3, h4⟩ := El.app1 eL0 W base v xs x #[.slice x.a x.n x.c] rfl h.row (by show (_ + 1) * 24 ≤ _; omega) (by omega) h.d.2.2
  have d := h.d
  refine ⟨v', W', h1, h2, fun y hy => ?_, grown_blk h.kN h3 (own_ty h.row h.kN (by decide)), below_grown h.lo h3 (fun j hj => by have := (own_lt h.row j hj).1; omega), by have := h3.size; omega⟩
  have key : ∀ z : Lf, eFi.Own W base (.slice z.a z.n z.c) z.fs → eFi.Own W' base (.slice z.a z.n z.c) z.fs := fun z hz => own_grown hz h3 (fun j hj k => apart_ty h.row hz (by decide) j hj k)
  rcases List.mem_append.1 hy with hy | hy
  · exact ⟨key y (h.fs y hy).1, (h.fs y hy).2⟩
  · simp at hy; subst hy
    exact ⟨key y hx, hok, hn⟩
end
set_option maxHeartbeats 4000000 in
set_option maxRecDepth 100000 in
theorem whole_law (a : Option Addr) (len cap : Nat) (L : List (List Fi)) (l n q : Int) (w : World) (H : Lvs w a len cap L) (hw : wL L ≤ 1048576) (hb : bd l ∧ bd n ∧ bu q) :
    Calls Try.prog 5 #[.slice a len cap, .agg #[.int .i64 l, .int .i64 n, .int .u64 q]] w fun e w' => e = .returned (.bool true) ∧ Below w.heap.size w w' := by
  have hll := wL_len L
  have hlen := H.len_eq
  have hcap := H.cap_le
  obtain ⟨gN, hgN⟩ : ∃ m, w.heap.size = m := ⟨_, rfl⟩
  obtain ⟨base, hbase⟩ : ∃ m, gN + 1 = m := ⟨_, rfl⟩
  obtain ⟨W0, hW0⟩ : ∃ W, W = w.alloc (.cells #[.int .i64 l, .int .i64 n, .int .u64 q] 47) := ⟨_, rfl⟩
  have S0 : In w gN base #[.int .i64 l, .int .i64 n, .int .u64 q] W0 (.slice none 0 0) [] := by
    have b1 := box_below w (.cells #[.int .i64 l, .int .i64 n, .int .u64 q] 47)
    have k1 := new_at w (.cells #[.int .i64 l, .int .i64 n, .int .u64 q] 47)
    have s1 := size_alloc w (.cells #[.int .i64 l, .int .i64 n, .int .u64 q] 47)
    rw [hW0]
    rw [hgN] at k1
    exact ⟨El.Own.nil _ _ _, fun x hx => by simp at hx, k1, b1, by omega⟩
  have HL : Hid (∀ W, Below w.heap.size w W → Lvs W a len cap L) := fun W b => H.later b
  obtain ⟨E, hE⟩ : ∃ E : Ed, E = ⟨l, n, q, [], wh 0 L⟩ := ⟨_, rfl⟩
  have CWh : Hid (∀ W ia ic, Lvs W ia len ic L → Calls Try.prog 20 #[.slice ia len ic, .int .i64 l, .int .i64 n, .int .u64 q] W fun e w' => ∃ v', e = .returned v' ∧ EO w' W.heap.size v' E ∧ Below W.heap.size W w') := fun W ia ic h => by rw [hE]; exact whole_any ia len ic L l n q W h hw hb
  have CR : Hid (∀ W, Below w.heap.size w W → Calls Try.prog 21 #[.slice a len cap, .int .i64 l, .int .i64 n, .int .u64 q] W fun e w' => ∃ v', e = .returned v' ∧ EO w' W.heap.size v' E ∧ Below W.heap.size W w') := fun W b => by rw [hE]; exact rwhole_any a len cap L l n q W (HL.out W b) hw hb
  have hn8 : len ≤ 1048576 := by omega
  have hls : Hid (∀ i, i < len → (L.getD i []).length ≤ 1048576) := by
    intro i hi
    have := wL_at (L := L) (i := i) (by rw [hlen]; exact hi)
    omega
  replace S0 := hid S0
  replace hW0 := hid hW0
  replace hgN := hid hgN
  replace hbase := hid hbase
  replace hb := hid hb
  replace hw := hid hw
  replace hE := hid hE
  replace hlen := hid hlen
  clear H hll
  go_enter Try.func5, Try.ntmps5
  go_wp2_with fail
  rw [← hW0.out, hgN.out]
  go_loopw [5, 6] (fun v ii wr => ∃ i : Nat, ii = .int .i64 i ∧ i ≤ len ∧ ∃ xs, xs.map Lf.fs = L.take i ∧ In w gN base #[.int .i64 l, .int .i64 n, .int .u64 q] wr v xs) (fun _ ii _ => len - (intOf ii).toNat)
  case atStart => exact ⟨0, rfl, by omega, [], by simp, S0.out⟩
  case round =>
    clear S0
    obtain ⟨i, rfl, hi, xs, hxs, M⟩ := hrel
    have hxl : xs.length = i := by
      have := congrArg List.length hxs
      rw [List.length_map, List.length_take, hlen.out] at this
      omega
    by_cases hlt : i < len
    · obtain ⟨lb, lof, la, ln, lc, rfl, cl, FS, hln⟩ := (HL.out wr M.lo).at i hlt
      have ik0 : (i : Int) < (len : Int) := by omega
      have ok0 : (0 : Int) ≤ (i : Int) := by omega
      have hll := hls.out i hlt
      obtain ⟨fs, hfs⟩ : ∃ fs, fs = L.getD i [] := ⟨_, rfl⟩
      rw [← hfs] at FS hln hll
      have hts := take_succ (L := L) (i := i) (by rw [hlen.out]; exact hlt)
      rw [← hfs, ← hxs] at hts
      -- the level's own row
      have cl1 : (wr.alloc (.cells #[] 51)).cell? ⟨lb, lof + i, none⟩ = some (.slice la ln lc) := ((box_below wr (.cells #[] 51)).cell (block_lt_of_cell cl)).trans cl
      obtain ⟨W1, hW1⟩ : ∃ W, W = wr.alloc (.cells #[] 51) := ⟨_, rfl⟩
      have b1 : Below wr.heap.size wr W1 := by rw [hW1]; exact box_below _ _
      have o1 : eFi.Own W1 wr.heap.size (.slice (some ⟨wr.heap.size, 0, none⟩) 0 0) [] := by rw [hW1]; exact El.Own.made eFi wr
      obtain ⟨v2, W2, r2, o2, w2, q2⟩ := El.app eFi W1 wr.heap.size _ [] o1 la ln lc fs (FS.later b1) (by show (0 + ln) * 64 ≤ _; omega) (by show 0 + ln ≤ _; omega) b1.size
      rw [List.nil_append] at o2
      have B2 : Below wr.heap.size wr W2 := ((Fp.of (P := fun _ => False) b1).grown w2 (by intro j hj; cases hj; right; exact Nat.le_refl _)).base (Nat.le_refl _) (fun _ h => h.elim)
      obtain ⟨va2, vc2, hv2⟩ := row_block o2
      rw [← hln] at hv2
      subst hv2
      have M2 := M.later B2
      obtain ⟨v3, W3, r3, M3⟩ := M2.add ⟨va2, ln, vc2, fs⟩ (own_base o2 (fun j hj => by have := (own_lt o2 j hj).1; have := M.d; omega)) FS.ok hln (by omega)
      obtain ⟨va3, vn3, vc3, rfl⟩ := row_any M3.row
      obtain ⟨ra, rn, rc, rfl⟩ := row_any M.row
      dsimp only at r3
      simp only [show eFi.st = 48 from rfl] at r2
      rw [hW1] at r2
      have hts' : Hid ((xs ++ [(⟨va2, ln, vc2, fs⟩ : Lf)]).map Lf.fs = L.take (i + 1)) := by show _ = _; rw [hts, List.map_append]; rfl
      replace r2 := hid r2
      replace r3 := hid r3
      replace M3 := hid M3
      replace hxl := hid hxl
      replace hln := hid hln
      clear M M2 o1 o2 w2 q2 B2 b1 hW1 FS hts hfs hxs
      go_wp2_with (first | (at_builtin; refine wpList_append_run rfl (.tmp 19) (.tmp 23) 48 48 rfl (.slice (some ⟨wr.heap.size, 0, none⟩) 0 0) (.slice la ln lc) (.slice va2 ln vc2) rfl rfl r2.out ?_) | (at_builtin; refine wpList_append_run rfl (.tmp 18) (.tmp 25) 45 45 rfl (.slice ra rn rc) (.slice (some ⟨W2.heap.size, 0, none⟩) 1 1) (.slice va3 vn3 vc3) rfl rfl r3.out ?_))
      go_roundw
      case rel => exact ⟨i + 1, by go_num, by omega, _, hts'.out, M3.out⟩
      case measure => simp [intOf]; omega
    · have hie : i = len := by omega
      subst hie
      rw [← hlen.out, List.take_length] at hxs
      obtain ⟨ia, ic, he, LI⟩ := M.lvs
      rw [hxl, hxs] at LI
      rw [hxl] at he
      subst he
      obtain ⟨w1, hw1⟩ : ∃ W, W = wr := ⟨_, rfl⟩
      rw [← hw1] at M LI ⊢
      clear hw1 wr
      have KN := hid M.kN
      have BW1 := hid M.lo
      have HI : Hid (∀ W, Below w1.heap.size w1 W → Lvs W ia i ic L) := fun W b => LI.later b
      have CW : Hid (∀ W, Below w1.heap.size w1 W → Calls Try.prog 20 #[.slice ia i ic, .int .i64 l, .int .i64 n, .int .u64 q] W fun e w' => ∃ v', e = .returned v' ∧ EO w' W.heap.size v' E ∧ Below W.heap.size W w') := fun W b => CWh.out W ia ic (HI.out W b)
      have hicap := LI.cap_le
      replace M := hid M
      replace LI := hid LI
      replace hxs := hid hxs
      replace hxl := hid hxl
      go_upto_region 6 with fail
      --STOP1
      go_cut [7, 8] from 27 to 42 (fun s t wx => ∃ g7 g8 a7 c7 b7 d7 a8 c8 b8 d8 u7 u8, s = .pointer (some ⟨g7, 0, none⟩) ∧ t = .pointer (some ⟨g8, 0, none⟩) ∧ wx.heap[g7]? = some (.cells #[.int .i64 E.log, .int .i64 E.nx, .int .u64 E.sq, .slice a7 E.go.length c7, .slice b7 E.co.length d7] 26) ∧ wx.heap[g8]? = some (.cells #[.int .i64 E.log, .int .i64 E.nx, .int .u64 E.sq, .slice a8 E.go.length c8, .slice b8 E.co.length d8] 26) ∧ EO wx u7 (ev E a7 c7 b7 d7) E ∧ EO wx u8 (ev E a8 c8 b8 d8) E ∧ w1.heap.size ≤ u7 ∧ (∀ j, blks (ev E a7 c7 b7 d7) j → j < u8) ∧ Below w1.heap.size w1 wx)
      case first =>
        refine wp_region_held_drew (S := fun W => Below w1.heap.size w1 W) (by kernel_rfl) (drew_below _) (fun hS => ?_)
        generalize World.drew w1 = D at *
        refine wpAnyH_take (i := 0) (v := ?v1) rfl (by kernel_rfl) (by kernel_rfl) (by kernel_rfl) (fun _ _ _ h => h) (Or.inl ⟨by rfl, ?h1⟩) hS ?_
        case h1 => (intro W hW; go_simp; try (with_reducible rfl))
        go_simp
        refine wpAnyH_take (i := 1) (v := ?v2) rfl (by kernel_rfl) (by kernel_rfl) (by kernel_rfl) (fun _ _ _ h => h) (Or.inl ⟨by rfl, ?h2⟩) hS ?_
        case h2 => (intro W hW; go_simp; try (with_reducible rfl))
        go_simp
        refine wpAnyH_take (i := 2) (v := ?v3) rfl (by kernel_rfl) (by kernel_rfl) (by kernel_rfl) (fun _ _ _ h => h) (Or.inl ⟨by rfl, ?h3⟩) hS ?_
        case h3 => (intro W hW; have cc0 := cell_of (below_blk KN.out hW) 0 _ rfl; go_simp; try (with_reducible rfl))
        go_simp
        refine wpAnyH_take (i := 3) (v := ?v4) rfl (by kernel_rfl) (by kernel_rfl) (by kernel_rfl) (fun _ _ _ h => h) (Or.inl ⟨by rfl, ?h4⟩) hS ?_
        case h4 => (intro W hW; go_simp; try (with_reducible rfl))
        go_simp
        refine wpAnyH_take (i := 4) (v := ?v5) rfl (by kernel_rfl) (by kernel_rfl) (by kernel_rfl) (fun _ _ _ h => h) (Or.inl ⟨by rfl, ?h5⟩) hS ?_
        case h5 => (intro W hW; have cc1 := cell_of (below_blk KN.out hW) 1 _ rfl; go_simp; try (with_reducible rfl))
        go_simp
        refine wpAnyH_take (i := 5) (v := ?v6) rfl (by kernel_rfl) (by kernel_rfl) (by kernel_rfl) (fun _ _ _ h => h) (Or.inl ⟨by rfl, ?h6⟩) hS ?_
        case h6 => (intro W hW; go_simp; try (with_reducible rfl))
        go_simp
        refine wpAnyH_take (i := 6) (v := ?v7) rfl (by kernel_rfl) (by kernel_rfl) (by kernel_rfl) (fun _ _ _ h => h) (Or.inl ⟨by rfl, ?h7⟩) hS ?_
        case h7 => (intro W hW; have cc2 := cell_of (below_blk KN.out hW) 2 _ rfl; go_simp; try (with_reducible rfl))
        go_simp
        refine wpAnyH_take (i := 8) (v := ?v8) rfl (by kernel_rfl) (by kernel_rfl) (by kernel_rfl) (fun _ _ _ h => h) (Or.inl ⟨by rfl, ?h8⟩) hS ?_
        case h8 => (intro W hW; go_simp; try (with_reducible rfl))
        go_simp
        refine wpAnyH_take (i := 9) (v := ?v9) rfl (by kernel_rfl) (by kernel_rfl) (by kernel_rfl) (fun _ _ _ h => h) (Or.inl ⟨by rfl, ?h9⟩) hS ?_
        case h9 => (intro W hW; go_simp; try (with_reducible rfl))
        go_simp
        refine wpAnyH_take (i := 10) (v := ?v10) rfl (by kernel_rfl) (by kernel_rfl) (by kernel_rfl) (fun _ _ _ h => h) (Or.inl ⟨by rfl, ?h10⟩) hS ?_
        case h10 => (intro W hW; have cc0 := cell_of (below_blk KN.out hW) 0 _ rfl; go_simp; try (with_reducible rfl))
        go_simp
        refine wpAnyH_take (i := 11) (v := ?v11) rfl (by kernel_rfl) (by kernel_rfl) (by kernel_rfl) (fun _ _ _ h => h) (Or.inl ⟨by rfl, ?h11⟩) hS ?_
        case h11 => (intro W hW; go_simp; try (with_reducible rfl))
        go_simp
        refine wpAnyH_take (i := 12) (v := ?v12) rfl (by kernel_rfl) (by kernel_rfl) (by kernel_rfl) (fun _ _ _ h => h) (Or.inl ⟨by rfl, ?h12⟩) hS ?_
        case h12 => (intro W hW; have cc1 := cell_of (below_blk KN.out hW) 1 _ rfl; go_simp; try (with_reducible rfl))
        go_simp
        refine wpAnyH_take (i := 13) (v := ?v13) rfl (by kernel_rfl) (by kernel_rfl) (by kernel_rfl) (fun _ _ _ h => h) (Or.inl ⟨by rfl, ?h13⟩) hS ?_
        case h13 => (intro W hW; go_simp; try (with_reducible rfl))
        go_simp
        refine wpAnyH_take (i := 14) (v := ?v14) rfl (by kernel_rfl) (by kernel_rfl) (by kernel_rfl) (fun _ _ _ h => h) (Or.inl ⟨by rfl, ?h14⟩) hS ?_
        case h14 => (intro W hW; have cc2 := cell_of (below_blk KN.out hW) 2 _ rfl; go_simp; try (with_reducible rfl))
        go_simp
        refine wpAnyH_ready (rs := [7, 16, 17]) (by kernel_rfl) (by simp) ?_
        refine AllReadyH.cons rfl (fun K hK => ?_) ?_
        · go_simp
          have lo7 : Hid (w1.heap.size ≤ D.heap.size) := hS.size
          go_wp2_with fail
          refine (CW.out D hS).mono ?_
          rintro e y7 ⟨v7, rfl, EO7, bb7⟩
          obtain ⟨a7, c7, b7, d7, he7⟩ := EO_shape EO7
          subst he7
          replace EO7 := hid EO7
          have hS' := hid (Below.up hS bb7)
          clear bb7
          unfold ev at EO7
          unfold ev
          refine hK.out _ _ hS'.out (fun hS => ?_)
          clear hK K hS'
          refine wpAnyH_ready (rs := [15, 16, 17]) (by kernel_rfl) (by simp) ?_
          refine AllReadyH.cons rfl (fun K hK => ?_) ?_
          · go_simp
            have lo15 : Hid (w1.heap.size ≤ y7.heap.size) := hS.size
            have up7_15 : Hid (∀ j, blks (ev E a7 c7 b7 d7) j → j < y7.heap.size) := fun j h => (EO7.out.lt j h).2
            go_wp2_with fail
            refine (CW.out y7 hS).mono ?_
            rintro e y15 ⟨v15, rfl, EO15, bb15⟩
            obtain ⟨a15, c15, b15, d15, he15⟩ := EO_shape EO15
            subst he15
            replace EO15 := hid EO15
            replace EO7 := hid (EO7.out.later bb15)
            have hS' := hid (Below.up hS bb15)
            clear bb15
            unfold ev at EO15
            unfold ev
            refine hK.out _ _ hS'.out (fun hS => ?_)
            clear hK K hS'
            refine wpAnyH_ready (rs := [16, 17]) (by kernel_rfl) (by simp) ?_
            refine AllReadyH.cons rfl (fun K hK => ?_) ?_
            · go_simp
              have h0 : (y15.alloc (.cells #[.int .i64 0, .int .i64 0, .int .u64 0, .slice none 0 0, .slice none 0 0] 26)).heap[y15.heap.size]? = some (.cells #[.int .i64 0, .int .i64 0, .int .u64 0, .slice none 0 0, .slice none 0 0] 26) := new_at _ _
              have hb16 : Hid (w1.heap.size ≤ y15.heap.size) := hS.size
              have bb := box_below y15 (.cells #[.int .i64 0, .int .i64 0, .int .u64 0, .slice none 0 0, .slice none 0 0] 26)
              replace EO7 := hid (EO7.out.later bb)
              replace EO15 := hid (EO15.out.later bb)
              have hS' := hid (Below.up hS bb)
              clear bb
              refine hK.out _ _ hS'.out (fun hS => ?_)
              clear hK K hS'
              generalize y15.alloc (.cells #[.int .i64 0, .int .i64 0, .int .u64 0, .slice none 0 0, .slice none 0 0] 26) = y16 at *
              generalize y15.heap.size = g16 at *
              have k16 := hid h0
              clear h0
              refine wpAnyH_ready (rs := [17]) (by kernel_rfl) (by simp) ?_
              refine AllReadyH.cons rfl (fun K hK => ?_) ?_
              · go_simp
                have h0 : (y16.alloc (.cells #[.int .i64 0, .int .i64 0, .int .u64 0, .slice none 0 0, .slice none 0 0] 26)).heap[y16.heap.size]? = some (.cells #[.int .i64 0, .int .i64 0, .int .u64 0, .slice none 0 0, .slice none 0 0] 26) := new_at _ _
                have hb17 : Hid (w1.heap.size ≤ y16.heap.size) := hS.size
                have bb := box_below y16 (.cells #[.int .i64 0, .int .i64 0, .int .u64 0, .slice none 0 0, .slice none 0 0] 26)
                replace EO7 := hid (EO7.out.later bb)
                replace EO15 := hid (EO15.out.later bb)
                have ne16_17 : Hid (g16 < y16.heap.size) := blk_lt k16.out
                replace k16 := hid (below_blk k16.out bb)
                have hS' := hid (Below.up hS bb)
                clear bb
                refine hK.out _ _ hS'.out (fun hS => ?_)
                clear hK K hS'
                generalize y16.alloc (.cells #[.int .i64 0, .int .i64 0, .int .u64 0, .slice none 0 0, .slice none 0 0] 26) = y17 at *
                generalize y16.heap.size = g17 at *
                have k17 := hid h0
                clear h0
                refine wpAnyH_ready (rs := [18]) (by kernel_rfl) (by simp) ?_
                refine AllReadyH.cons rfl (fun K hK => ?_) ?_
                · have q0 := cell_of k16.out 0 (.int .i64 0) rfl
                  have f0 := fz_of k16.out 0
                  have q1 := cell_of k16.out 1 (.int .i64 0) rfl
                  have f1 := fz_of k16.out 1
                  have q2 := cell_of k16.out 2 (.int .u64 0) rfl
                  have f2 := fz_of k16.out 2
                  have q3 := cell_of k16.out 3 (.slice none 0 0) rfl
                  have f3 := fz_of k16.out 3
                  have q4 := cell_of k16.out 4 (.slice none 0 0) rfl
                  have f4 := fz_of k16.out 4
                  have P5 := put5 k16.out (.int .i64 E.log) (.int .i64 E.nx) (.int .u64 E.sq) (.slice a7 E.go.length c7) (.slice b7 E.co.length d7)
                  have hS' : Hid (Below w1.heap.size w1 (((((y17.setCell ⟨g16, 0, none⟩ (.int .i64 E.log)).setCell ⟨g16, 1, none⟩ (.int .i64 E.nx)).setCell ⟨g16, 2, none⟩ (.int .u64 E.sq)).setCell ⟨g16, 3, none⟩ (.slice a7 E.go.length c7)).setCell ⟨g16, 4, none⟩ (.slice b7 E.co.length d7))) := ((Fp.of (P := fun j => w1.heap.size ≤ j) hS).tr (P5.2.wide (fun j _ h => .inl (by show w1.heap.size ≤ j; have := hb16.out; omega)))).base (Nat.le_refl _) (fun _ h => h)
                  have EN7 := hid (EO7.out.fp P5.2 (fun j hj e => EO_ne EO7.out k16.out j hj e))
                  have EN15 := hid (EO15.out.fp P5.2 (fun j hj e => EO_ne EO15.out k16.out j hj e))
                  have kn17 := hid ((P5.2.block g17 (blk_lt k17.out) (fun e => by have := ne16_17.out; omega)).trans k17.out)
                  have kn16 := hid P5.1
                  clear P5
                  go_simp
                  refine hK.out _ _ hS'.out (fun hS => ?_)
                  clear hK K hS' q0 q1 q2 q3 q4 f0 f1 f2 f3 f4
                  generalize (((((y17.setCell ⟨g16, 0, none⟩ (.int .i64 E.log)).setCell ⟨g16, 1, none⟩ (.int .i64 E.nx)).setCell ⟨g16, 2, none⟩ (.int .u64 E.sq)).setCell ⟨g16, 3, none⟩ (.slice a7 E.go.length c7)).setCell ⟨g16, 4, none⟩ (.slice b7 E.co.length d7)) = y18 at *
                  clear EO7
                  have EO7 := EN7
                  clear EN7
                  clear EO15
                  have EO15 := EN15
                  clear EN15
                  clear k16
                  have k16 := kn16
                  clear kn16
                  clear k17
                  have k17 := kn17
                  clear kn17
                  refine wpAnyH_ready (rs := [19]) (by kernel_rfl) (by simp) ?_
                  refine AllReadyH.cons rfl (fun K hK => ?_) ?_
                  · have q0 := cell_of k17.out 0 (.int .i64 0) rfl
                    have f0 := fz_of k17.out 0
                    have q1 := cell_of k17.out 1 (.int .i64 0) rfl
                    have f1 := fz_of k17.out 1
                    have q2 := cell_of k17.out 2 (.int .u64 0) rfl
                    have f2 := fz_of k17.out 2
                    have q3 := cell_of k17.out 3 (.slice none 0 0) rfl
                    have f3 := fz_of k17.out 3
                    have q4 := cell_of k17.out 4 (.slice none 0 0) rfl
                    have f4 := fz_of k17.out 4
                    have P5 := put5 k17.out (.int .i64 E.log) (.int .i64 E.nx) (.int .u64 E.sq) (.slice a15 E.go.length c15) (.slice b15 E.co.length d15)
                    have hS' : Hid (Below w1.heap.size w1 (((((y18.setCell ⟨g17, 0, none⟩ (.int .i64 E.log)).setCell ⟨g17, 1, none⟩ (.int .i64 E.nx)).setCell ⟨g17, 2, none⟩ (.int .u64 E.sq)).setCell ⟨g17, 3, none⟩ (.slice a15 E.go.length c15)).setCell ⟨g17, 4, none⟩ (.slice b15 E.co.length d15))) := ((Fp.of (P := fun j => w1.heap.size ≤ j) hS).tr (P5.2.wide (fun j _ h => .inl (by show w1.heap.size ≤ j; have := hb17.out; omega)))).base (Nat.le_refl _) (fun _ h => h)
                    have EN7 := hid (EO7.out.fp P5.2 (fun j hj e => EO_ne EO7.out k17.out j hj e))
                    have EN15 := hid (EO15.out.fp P5.2 (fun j hj e => EO_ne EO15.out k17.out j hj e))
                    have kn16 := hid ((P5.2.block g16 (blk_lt k16.out) (fun e => by have := ne16_17.out; omega)).trans k16.out)
                    have kn17 := hid P5.1
                    clear P5
                    go_simp
                    refine hK.out _ _ hS'.out (fun hS => ?_)
                    clear hK K hS' q0 q1 q2 q3 q4 f0 f1 f2 f3 f4
                    generalize (((((y18.setCell ⟨g17, 0, none⟩ (.int .i64 E.log)).setCell ⟨g17, 1, none⟩ (.int .i64 E.nx)).setCell ⟨g17, 2, none⟩ (.int .u64 E.sq)).setCell ⟨g17, 3, none⟩ (.slice a15 E.go.length c15)).setCell ⟨g17, 4, none⟩ (.slice b15 E.co.length d15)) = y19 at *
                    clear EO7
                    have EO7 := EN7
                    clear EN7
                    clear EO15
                    have EO15 := EN15
                    clear EN15
                    clear k16
                    have k16 := kn16
                    clear kn16
                    clear k17
                    have k17 := kn17
                    clear kn17
                    refine wpAnyH_done (by kernel_rfl) ?_ _
                    go_wp2_with fail
                    go_meet
                    case rel => exact ⟨g16, g17, a7, c7, b7, d7, a15, c15, b15, d15, _, _, rfl, rfl, k16.out, k17.out, EO7.out, EO15.out, lo7.out, up7_15.out, hS⟩
                  exact AllReadyH.nil
                exact AllReadyH.nil
              exact AllReadyH.nil
            refine AllReadyH.cons rfl (fun K hK => ?_) ?_
            · go_simp
              have h0 : (y15.alloc (.cells #[.int .i64 0, .int .i64 0, .int .u64 0, .slice none 0 0, .slice none 0 0] 26)).heap[y15.heap.size]? = some (.cells #[.int .i64 0, .int .i64 0, .int .u64 0, .slice none 0 0, .slice none 0 0] 26) := new_at _ _
              have hb17 : Hid (w1.heap.size ≤ y15.heap.size) := hS.size
              have bb := box_below y15 (.cells #[.int .i64 0, .int .i64 0, .int .u64 0, .slice none 0 0, .slice none 0 0] 26)
              replace EO7 := hid (EO7.out.later bb)
              replace EO15 := hid (EO15.out.later bb)
              have hS' := hid (Below.up hS bb)
              clear bb
              refine hK.out _ _ hS'.out (fun hS => ?_)
              clear hK K hS'
              generalize y15.alloc (.cells #[.int .i64 0, .int .i64 0, .int .u64 0, .slice none 0 0, .slice none 0 0] 26) = y17 at *
              generalize y15.heap.size = g17 at *
              have k17 := hid h0
              clear h0
              refine wpAnyH_ready (rs := [16]) (by kernel_rfl) (by simp) ?_
              refine AllReadyH.cons rfl (fun K hK => ?_) ?_
              · go_simp
                have h0 : (y17.alloc (.cells #[.int .i64 0, .int .i64 0, .int .u64 0, .slice none 0 0, .slice none 0 0] 26)).heap[y17.heap.size]? = some (.cells #[.int .i64 0, .int .i64 0, .int .u64 0, .slice none 0 0, .slice none 0 0] 26) := new_at _ _
                have hb16 : Hid (w1.heap.size ≤ y17.heap.size) := hS.size
                have bb := box_below y17 (.cells #[.int .i64 0, .int .i64 0, .int .u64 0, .slice none 0 0, .slice none 0 0] 26)
                replace EO7 := hid (EO7.out.later bb)
                replace EO15 := hid (EO15.out.later bb)
                have ne17_16 : Hid (g17 < y17.heap.size) := blk_lt k17.out
                replace k17 := hid (below_blk k17.out bb)
                have hS' := hid (Below.up hS bb)
                clear bb
                refine hK.out _ _ hS'.out (fun hS => ?_)
                clear hK K hS'
                generalize y17.alloc (.cells #[.int .i64 0, .int .i64 0, .int .u64 0, .slice none 0 0, .slice none 0 0] 26) = y16 at *
                generalize y17.heap.size = g16 at *
                have k16 := hid h0
                clear h0
                refine wpAnyH_ready (rs := [18]) (by kernel_rfl) (by simp) ?_
                refine AllReadyH.cons rfl (fun K hK => ?_) ?_
                · have q0 := cell_of k16.out 0 (.int .i64 0) rfl
                  have f0 := fz_of k16.out 0
                  have q1 := cell_of k16.out 1 (.int .i64 0) rfl
                  have f1 := fz_of k16.out 1
                  have q2 := cell_of k16.out 2 (.int .u64 0) rfl
                  have f2 := fz_of k16.out 2
                  have q3 := cell_of k16.out 3 (.slice none 0 0) rfl
                  have f3 := fz_of k16.out 3
                  have q4 := cell_of k16.out 4 (.slice none 0 0) rfl
                  have f4 := fz_of k16.out 4
                  have P5 := put5 k16.out (.int .i64 E.log) (.int .i64 E.nx) (.int .u64 E.sq) (.slice a7 E.go.length c7) (.slice b7 E.co.length d7)
                  have hS' : Hid (Below w1.heap.size w1 (((((y16.setCell ⟨g16, 0, none⟩ (.int .i64 E.log)).setCell ⟨g16, 1, none⟩ (.int .i64 E.nx)).setCell ⟨g16, 2, none⟩ (.int .u64 E.sq)).setCell ⟨g16, 3, none⟩ (.slice a7 E.go.length c7)).setCell ⟨g16, 4, none⟩ (.slice b7 E.co.length d7))) := ((Fp.of (P := fun j => w1.heap.size ≤ j) hS).tr (P5.2.wide (fun j _ h => .inl (by show w1.heap.size ≤ j; have := hb16.out; omega)))).base (Nat.le_refl _) (fun _ h => h)
                  have EN7 := hid (EO7.out.fp P5.2 (fun j hj e => EO_ne EO7.out k16.out j hj e))
                  have EN15 := hid (EO15.out.fp P5.2 (fun j hj e => EO_ne EO15.out k16.out j hj e))
                  have kn17 := hid ((P5.2.block g17 (blk_lt k17.out) (fun e => by have := ne17_16.out; omega)).trans k17.out)
                  have kn16 := hid P5.1
                  clear P5
                  go_simp
                  refine hK.out _ _ hS'.out (fun hS => ?_)
                  clear hK K hS' q0 q1 q2 q3 q4 f0 f1 f2 f3 f4
                  generalize (((((y16.setCell ⟨g16, 0, none⟩ (.int .i64 E.log)).setCell ⟨g16, 1, none⟩ (.int .i64 E.nx)).setCell ⟨g16, 2, none⟩ (.int .u64 E.sq)).setCell ⟨g16, 3, none⟩ (.slice a7 E.go.length c7)).setCell ⟨g16, 4, none⟩ (.slice b7 E.co.length d7)) = y18 at *
                  clear EO7
                  have EO7 := EN7
                  clear EN7
                  clear EO15
                  have EO15 := EN15
                  clear EN15
                  clear k17
                  have k17 := kn17
                  clear kn17
                  clear k16
                  have k16 := kn16
                  clear kn16
                  refine wpAnyH_ready (rs := [19]) (by kernel_rfl) (by simp) ?_
                  refine AllReadyH.cons rfl (fun K hK => ?_) ?_
                  · have q0 := cell_of k17.out 0 (.int .i64 0) rfl
                    have f0 := fz_of k17.out 0
                    have q1 := cell_of k17.out 1 (.int .i64 0) rfl
                    have f1 := fz_of k17.out 1
                    have q2 := cell_of k17.out 2 (.int .u64 0) rfl
                    have f2 := fz_of k17.out 2
                    have q3 := cell_of k17.out 3 (.slice none 0 0) rfl
                    have f3 := fz_of k17.out 3
                    have q4 := cell_of k17.out 4 (.slice none 0 0) rfl
                    have f4 := fz_of k17.out 4
                    have P5 := put5 k17.out (.int .i64 E.log) (.int .i64 E.nx) (.int .u64 E.sq) (.slice a15 E.go.length c15) (.slice b15 E.co.length d15)
                    have hS' : Hid (Below w1.heap.size w1 (((((y18.setCell ⟨g17, 0, none⟩ (.int .i64 E.log)).setCell ⟨g17, 1, none⟩ (.int .i64 E.nx)).setCell ⟨g17, 2, none⟩ (.int .u64 E.sq)).setCell ⟨g17, 3, none⟩ (.slice a15 E.go.length c15)).setCell ⟨g17, 4, none⟩ (.slice b15 E.co.length d15))) := ((Fp.of (P := fun j => w1.heap.size ≤ j) hS).tr (P5.2.wide (fun j _ h => .inl (by show w1.heap.size ≤ j; have := hb17.out; omega)))).base (Nat.le_refl _) (fun _ h => h)
                    have EN7 := hid (EO7.out.fp P5.2 (fun j hj e => EO_ne EO7.out k17.out j hj e))
                    have EN15 := hid (EO15.out.fp P5.2 (fun j hj e => EO_ne EO15.out k17.out j hj e))
                    have kn16 := hid ((P5.2.block g16 (blk_lt k16.out) (fun e => by have := ne17_16.out; omega)).trans k16.out)
                    have kn17 := hid P5.1
                    clear P5
                    go_simp
                    refine hK.out _ _ hS'.out (fun hS => ?_)
                    clear hK K hS' q0 q1 q2 q3 q4 f0 f1 f2 f3 f4
                    generalize (((((y18.setCell ⟨g17, 0, none⟩ (.int .i64 E.log)).setCell ⟨g17, 1, none⟩ (.int .i64 E.nx)).setCell ⟨g17, 2, none⟩ (.int .u64 E.sq)).setCell ⟨g17, 3, none⟩ (.slice a15 E.go.length c15)).setCell ⟨g17, 4, none⟩ (.slice b15 E.co.length d15)) = y19 at *
                    clear EO7
                    have EO7 := EN7
                    clear EN7
                    clear EO15
                    have EO15 := EN15
                    clear EN15
                    clear k17
                    have k17 := kn17
                    clear kn17
                    clear k16
                    have k16 := kn16
                    clear kn16
                    refine wpAnyH_done (by kernel_rfl) ?_ _
                    go_wp2_with fail
                    go_meet
                    case rel => exact ⟨g16, g17, a7, c7, b7, d7, a15, c15, b15, d15, _, _, rfl, rfl, k16.out, k17.out, EO7.out, EO15.out, lo7.out, up7_15.out, hS⟩
                  exact AllReadyH.nil
                exact AllReadyH.nil
              exact AllReadyH.nil
            exact AllReadyH.nil
          refine AllReadyH.cons rfl (fun K hK => ?_) ?_
          · go_simp
            have h0 : (y7.alloc (.cells #[.int .i64 0, .int .i64 0, .int .u64 0, .slice none 0 0, .slice none 0 0] 26)).heap[y7.heap.size]? = some (.cells #[.int .i64 0, .int .i64 0, .int .u64 0, .slice none 0 0, .slice none 0 0] 26) := new_at _ _
            have hb16 : Hid (w1.heap.size ≤ y7.heap.size) := hS.size
            have bb := box_below y7 (.cells #[.int .i64 0, .int .i64 0, .int .u64 0, .slice none 0 0, .slice none 0 0] 26)
            replace EO7 := hid (EO7.out.later bb)
            have hS' := hid (Below.up hS bb)
            clear bb
            refine hK.out _ _ hS'.out (fun hS => ?_)
            clear hK K hS'
            generalize y7.alloc (.cells #[.int .i64 0, .int .i64 0, .int .u64 0, .slice none 0 0, .slice none 0 0] 26) = y16 at *
            generalize y7.heap.size = g16 at *
            have k16 := hid h0
            clear h0
            refine wpAnyH_ready (rs := [15, 17]) (by kernel_rfl) (by simp) ?_
            refine AllReadyH.cons rfl (fun K hK => ?_) ?_
            · go_simp
              have lo15 : Hid (w1.heap.size ≤ y16.heap.size) := hS.size
              have up7_15 : Hid (∀ j, blks (ev E a7 c7 b7 d7) j → j < y16.heap.size) := fun j h => (EO7.out.lt j h).2
              go_wp2_with fail
              refine (CW.out y16 hS).mono ?_
              rintro e y15 ⟨v15, rfl, EO15, bb15⟩
              obtain ⟨a15, c15, b15, d15, he15⟩ := EO_shape EO15
              subst he15
              replace EO15 := hid EO15
              replace EO7 := hid (EO7.out.later bb15)
              replace k16 := hid (below_blk k16.out bb15)
              have hS' := hid (Below.up hS bb15)
              clear bb15
              unfold ev at EO15
              unfold ev
              refine hK.out _ _ hS'.out (fun hS => ?_)
              clear hK K hS'
              refine wpAnyH_ready (rs := [17]) (by kernel_rfl) (by simp) ?_
              refine AllReadyH.cons rfl (fun K hK => ?_) ?_
              · go_simp
                have h0 : (y15.alloc (.cells #[.int .i64 0, .int .i64 0, .int .u64 0, .slice none 0 0, .slice none 0 0] 26)).heap[y15.heap.size]? = some (.cells #[.int .i64 0, .int .i64 0, .int .u64 0, .slice none 0 0, .slice none 0 0] 26) := new_at _ _
                have hb17 : Hid (w1.heap.size ≤ y15.heap.size) := hS.size
                have bb := box_below y15 (.cells #[.int .i64 0, .int .i64 0, .int .u64 0, .slice none 0 0, .slice none 0 0] 26)
                replace EO7 := hid (EO7.out.later bb)
                replace EO15 := hid (EO15.out.later bb)
                have ne16_17 : Hid (g16 < y15.heap.size) := blk_lt k16.out
                replace k16 := hid (below_blk k16.out bb)
                have hS' := hid (Below.up hS bb)
                clear bb
                refine hK.out _ _ hS'.out (fun hS => ?_)
                clear hK K hS'
                generalize y15.alloc (.cells #[.int .i64 0, .int .i64 0, .int .u64 0, .slice none 0 0, .slice none 0 0] 26) = y17 at *
                generalize y15.heap.size = g17 at *
                have k17 := hid h0
                clear h0
                refine wpAnyH_ready (rs := [18]) (by kernel_rfl) (by simp) ?_
                refine AllReadyH.cons rfl (fun K hK => ?_) ?_
                · have q0 := cell_of k16.out 0 (.int .i64 0) rfl
                  have f0 := fz_of k16.out 0
                  have q1 := cell_of k16.out 1 (.int .i64 0) rfl
                  have f1 := fz_of k16.out 1
                  have q2 := cell_of k16.out 2 (.int .u64 0) rfl
                  have f2 := fz_of k16.out 2
                  have q3 := cell_of k16.out 3 (.slice none 0 0) rfl
                  have f3 := fz_of k16.out 3
                  have q4 := cell_of k16.out 4 (.slice none 0 0) rfl
                  have f4 := fz_of k16.out 4
                  have P5 := put5 k16.out (.int .i64 E.log) (.int .i64 E.nx) (.int .u64 E.sq) (.slice a7 E.go.length c7) (.slice b7 E.co.length d7)
                  have hS' : Hid (Below w1.heap.size w1 (((((y17.setCell ⟨g16, 0, none⟩ (.int .i64 E.log)).setCell ⟨g16, 1, none⟩ (.int .i64 E.nx)).setCell ⟨g16, 2, none⟩ (.int .u64 E.sq)).setCell ⟨g16, 3, none⟩ (.slice a7 E.go.length c7)).setCell ⟨g16, 4, none⟩ (.slice b7 E.co.length d7))) := ((Fp.of (P := fun j => w1.heap.size ≤ j) hS).tr (P5.2.wide (fun j _ h => .inl (by show w1.heap.size ≤ j; have := hb16.out; omega)))).base (Nat.le_refl _) (fun _ h => h)
                  have EN7 := hid (EO7.out.fp P5.2 (fun j hj e => EO_ne EO7.out k16.out j hj e))
                  have EN15 := hid (EO15.out.fp P5.2 (fun j hj e => EO_ne EO15.out k16.out j hj e))
                  have kn17 := hid ((P5.2.block g17 (blk_lt k17.out) (fun e => by have := ne16_17.out; omega)).trans k17.out)
                  have kn16 := hid P5.1
                  clear P5
                  go_simp
                  refine hK.out _ _ hS'.out (fun hS => ?_)
                  clear hK K hS' q0 q1 q2 q3 q4 f0 f1 f2 f3 f4
                  generalize (((((y17.setCell ⟨g16, 0, none⟩ (.int .i64 E.log)).setCell ⟨g16, 1, none⟩ (.int .i64 E.nx)).setCell ⟨g16, 2, none⟩ (.int .u64 E.sq)).setCell ⟨g16, 3, none⟩ (.slice a7 E.go.length c7)).setCell ⟨g16, 4, none⟩ (.slice b7 E.co.length d7)) = y18 at *
                  clear EO7
                  have EO7 := EN7
                  clear EN7
                  clear EO15
                  have EO15 := EN15
                  clear EN15
                  clear k16
                  have k16 := kn16
                  clear kn16
                  clear k17
                  have k17 := kn17
                  clear kn17
                  refine wpAnyH_ready (rs := [19]) (by kernel_rfl) (by simp) ?_
                  refine AllReadyH.cons rfl (fun K hK => ?_) ?_
                  · have q0 := cell_of k17.out 0 (.int .i64 0) rfl
                    have f0 := fz_of k17.out 0
                    have q1 := cell_of k17.out 1 (.int .i64 0) rfl
                    have f1 := fz_of k17.out 1
                    have q2 := cell_of k17.out 2 (.int .u64 0) rfl
                    have f2 := fz_of k17.out 2
                    have q3 := cell_of k17.out 3 (.slice none 0 0) rfl
                    have f3 := fz_of k17.out 3
                    have q4 := cell_of k17.out 4 (.slice none 0 0) rfl
                    have f4 := fz_of k17.out 4
                    have P5 := put5 k17.out (.int .i64 E.log) (.int .i64 E.nx) (.int .u64 E.sq) (.slice a15 E.go.length c15) (.slice b15 E.co.length d15)
                    have hS' : Hid (Below w1.heap.size w1 (((((y18.setCell ⟨g17, 0, none⟩ (.int .i64 E.log)).setCell ⟨g17, 1, none⟩ (.int .i64 E.nx)).setCell ⟨g17, 2, none⟩ (.int .u64 E.sq)).setCell ⟨g17, 3, none⟩ (.slice a15 E.go.length c15)).setCell ⟨g17, 4, none⟩ (.slice b15 E.co.length d15))) := ((Fp.of (P := fun j => w1.heap.size ≤ j) hS).tr (P5.2.wide (fun j _ h => .inl (by show w1.heap.size ≤ j; have := hb17.out; omega)))).base (Nat.le_refl _) (fun _ h => h)
                    have EN7 := hid (EO7.out.fp P5.2 (fun j hj e => EO_ne EO7.out k17.out j hj e))
                    have EN15 := hid (EO15.out.fp P5.2 (fun j hj e => EO_ne EO15.out k17.out j hj e))
                    have kn16 := hid ((P5.2.block g16 (blk_lt k16.out) (fun e => by have := ne16_17.out; omega)).trans k16.out)
                    have kn17 := hid P5.1
                    clear P5
                    go_simp
                    refine hK.out _ _ hS'.out (fun hS => ?_)
                    clear hK K hS' q0 q1 q2 q3 q4 f0 f1 f2 f3 f4
                    generalize (((((y18.setCell ⟨g17, 0, none⟩ (.int .i64 E.log)).setCell ⟨g17, 1, none⟩ (.int .i64 E.nx)).setCell ⟨g17, 2, none⟩ (.int .u64 E.sq)).setCell ⟨g17, 3, none⟩ (.slice a15 E.go.length c15)).setCell ⟨g17, 4, none⟩ (.slice b15 E.co.length d15)) = y19 at *
                    clear EO7
                    have EO7 := EN7
                    clear EN7
                    clear EO15
                    have EO15 := EN15
                    clear EN15
                    clear k16
                    have k16 := kn16
                    clear kn16
                    clear k17
                    have k17 := kn17
                    clear kn17
                    refine wpAnyH_done (by kernel_rfl) ?_ _
                    go_wp2_with fail
                    go_meet
                    case rel => exact ⟨g16, g17, a7, c7, b7, d7, a15, c15, b15, d15, _, _, rfl, rfl, k16.out, k17.out, EO7.out, EO15.out, lo7.out, up7_15.out, hS⟩
                  exact AllReadyH.nil
                exact AllReadyH.nil
              exact AllReadyH.nil
            refine AllReadyH.cons rfl (fun K hK => ?_) ?_
            · go_simp
              have h0 : (y16.alloc (.cells #[.int .i64 0, .int .i64 0, .int .u64 0, .slice none 0 0, .slice none 0 0] 26)).heap[y16.heap.size]? = some (.cells #[.int .i64 0, .int .i64 0, .int .u64 0, .slice none 0 0, .slice none 0 0] 26) := new_at _ _
              have hb17 : Hid (w1.heap.size ≤ y16.heap.size) := hS.size
              have bb := box_below y16 (.cells #[.int .i64 0, .int .i64 0, .int .u64 0, .slice none 0 0, .slice none 0 0] 26)
              replace EO7 := hid (EO7.out.later bb)
              have ne16_17 : Hid (g16 < y16.heap.size) := blk_lt k16.out
              replace k16 := hid (below_blk k16.out bb)
              have hS' := hid (Below.up hS bb)
              clear bb
              refine hK.out _ _ hS'.out (fun hS => ?_)
              clear hK K hS'
              generalize y16.alloc (.cells #[.int .i64 0, .int .i64 0, .int .u64 0, .slice none 0 0, .slice none 0 0] 26) = y17 at *
              generalize y16.heap.size = g17 at *
              have k17 := hid h0
              clear h0
              refine wpAnyH_ready (rs := [15]) (by kernel_rfl) (by simp) ?_
              refine AllReadyH.cons rfl (fun K hK => ?_) ?_
              · go_simp
                have lo15 : Hid (w1.heap.size ≤ y17.heap.size) := hS.size
                have up7_15 : Hid (∀ j, blks (ev E a7 c7 b7 d7) j → j < y17.heap.size) := fun j h => (EO7.out.lt j h).2
                go_wp2_with fail
                refine (CW.out y17 hS).mono ?_
                rintro e y15 ⟨v15, rfl, EO15, bb15⟩
                obtain ⟨a15, c15, b15, d15, he15⟩ := EO_shape EO15
                subst he15
                replace EO15 := hid EO15
                replace EO7 := hid (EO7.out.later bb15)
                replace k16 := hid (below_blk k16.out bb15)
                replace k17 := hid (below_blk k17.out bb15)
                have hS' := hid (Below.up hS bb15)
                clear bb15
                unfold ev at EO15
                unfold ev
                refine hK.out _ _ hS'.out (fun hS => ?_)
                clear hK K hS'
                refine wpAnyH_ready (rs := [18]) (by kernel_rfl) (by simp) ?_
                refine AllReadyH.cons rfl (fun K hK => ?_) ?_
                · have q0 := cell_of k16.out 0 (.int .i64 0) rfl
                  have f0 := fz_of k16.out 0
                  have q1 := cell_of k16.out 1 (.int .i64 0) rfl
                  have f1 := fz_of k16.out 1
                  have q2 := cell_of k16.out 2 (.int .u64 0) rfl
                  have f2 := fz_of k16.out 2
                  have q3 := cell_of k16.out 3 (.slice none 0 0) rfl
                  have f3 := fz_of k16.out 3
                  have q4 := cell_of k16.out 4 (.slice none 0 0) rfl
                  have f4 := fz_of k16.out 4
                  have P5 := put5 k16.out (.int .i64 E.log) (.int .i64 E.nx) (.int .u64 E.sq) (.slice a7 E.go.length c7) (.slice b7 E.co.length d7)
                  have hS' : Hid (Below w1.heap.size w1 (((((y15.setCell ⟨g16, 0, none⟩ (.int .i64 E.log)).setCell ⟨g16, 1, none⟩ (.int .i64 E.nx)).setCell ⟨g16, 2, none⟩ (.int .u64 E.sq)).setCell ⟨g16, 3, none⟩ (.slice a7 E.go.length c7)).setCell ⟨g16, 4, none⟩ (.slice b7 E.co.length d7))) := ((Fp.of (P := fun j => w1.heap.size ≤ j) hS).tr (P5.2.wide (fun j _ h => .inl (by show w1.heap.size ≤ j; have := hb16.out; omega)))).base (Nat.le_refl _) (fun _ h => h)
                  have EN7 := hid (EO7.out.fp P5.2 (fun j hj e => EO_ne EO7.out k16.out j hj e))
                  have EN15 := hid (EO15.out.fp P5.2 (fun j hj e => EO_ne EO15.out k16.out j hj e))
                  have kn17 := hid ((P5.2.block g17 (blk_lt k17.out) (fun e => by have := ne16_17.out; omega)).trans k17.out)
                  have kn16 := hid P5.1
                  clear P5
                  go_simp
                  refine hK.out _ _ hS'.out (fun hS => ?_)
                  clear hK K hS' q0 q1 q2 q3 q4 f0 f1 f2 f3 f4
                  generalize (((((y15.setCell ⟨g16, 0, none⟩ (.int .i64 E.log)).setCell ⟨g16, 1, none⟩ (.int .i64 E.nx)).setCell ⟨g16, 2, none⟩ (.int .u64 E.sq)).setCell ⟨g16, 3, none⟩ (.slice a7 E.go.length c7)).setCell ⟨g16, 4, none⟩ (.slice b7 E.co.length d7)) = y18 at *
                  clear EO7
                  have EO7 := EN7
                  clear EN7
                  clear EO15
                  have EO15 := EN15
                  clear EN15
                  clear k16
                  have k16 := kn16
                  clear kn16
                  clear k17
                  have k17 := kn17
                  clear kn17
                  refine wpAnyH_ready (rs := [19]) (by kernel_rfl) (by simp) ?_
                  refine AllReadyH.cons rfl (fun K hK => ?_) ?_
                  · have q0 := cell_of k17.out 0 (.int .i64 0) rfl
                    have f0 := fz_of k17.out 0
                    have q1 := cell_of k17.out 1 (.int .i64 0) rfl
                    have f1 := fz_of k17.out 1
                    have q2 := cell_of k17.out 2 (.int .u64 0) rfl
                    have f2 := fz_of k17.out 2
                    have q3 := cell_of k17.out 3 (.slice none 0 0) rfl
                    have f3 := fz_of k17.out 3
                    have q4 := cell_of k17.out 4 (.slice none 0 0) rfl
                    have f4 := fz_of k17.out 4
                    have P5 := put5 k17.out (.int .i64 E.log) (.int .i64 E.nx) (.int .u64 E.sq) (.slice a15 E.go.length c15) (.slice b15 E.co.length d15)
                    have hS' : Hid (Below w1.heap.size w1 (((((y18.setCell ⟨g17, 0, none⟩ (.int .i64 E.log)).setCell ⟨g17, 1, none⟩ (.int .i64 E.nx)).setCell ⟨g17, 2, none⟩ (.int .u64 E.sq)).setCell ⟨g17, 3, none⟩ (.slice a15 E.go.length c15)).setCell ⟨g17, 4, none⟩ (.slice b15 E.co.length d15))) := ((Fp.of (P := fun j => w1.heap.size ≤ j) hS).tr (P5.2.wide (fun j _ h => .inl (by show w1.heap.size ≤ j; have := hb17.out; omega)))).base (Nat.le_refl _) (fun _ h => h)
                    have EN7 := hid (EO7.out.fp P5.2 (fun j hj e => EO_ne EO7.out k17.out j hj e))
                    have EN15 := hid (EO15.out.fp P5.2 (fun j hj e => EO_ne EO15.out k17.out j hj e))
                    have kn16 := hid ((P5.2.block g16 (blk_lt k16.out) (fun e => by have := ne16_17.out; omega)).trans k16.out)
                    have kn17 := hid P5.1
                    clear P5
                    go_simp
                    refine hK.out _ _ hS'.out (fun hS => ?_)
                    clear hK K hS' q0 q1 q2 q3 q4 f0 f1 f2 f3 f4
                    generalize (((((y18.setCell ⟨g17, 0, none⟩ (.int .i64 E.log)).setCell ⟨g17, 1, none⟩ (.int .i64 E.nx)).setCell ⟨g17, 2, none⟩ (.int .u64 E.sq)).setCell ⟨g17, 3, none⟩ (.slice a15 E.go.length c15)).setCell ⟨g17, 4, none⟩ (.slice b15 E.co.length d15)) = y19 at *
                    clear EO7
                    have EO7 := EN7
                    clear EN7
                    clear EO15
                    have EO15 := EN15
                    clear EN15
                    clear k16
                    have k16 := kn16
                    clear kn16
                    clear k17
                    have k17 := kn17
                    clear kn17
                    refine wpAnyH_done (by kernel_rfl) ?_ _
                    go_wp2_with fail
                    go_meet
                    case rel => exact ⟨g16, g17, a7, c7, b7, d7, a15, c15, b15, d15, _, _, rfl, rfl, k16.out, k17.out, EO7.out, EO15.out, lo7.out, up7_15.out, hS⟩
                  exact AllReadyH.nil
                exact AllReadyH.nil
              exact AllReadyH.nil
            exact AllReadyH.nil
          refine AllReadyH.cons rfl (fun K hK => ?_) ?_
          · go_simp
            have h0 : (y7.alloc (.cells #[.int .i64 0, .int .i64 0, .int .u64 0, .slice none 0 0, .slice none 0 0] 26)).heap[y7.heap.size]? = some (.cells #[.int .i64 0, .int .i64 0, .int .u64 0, .slice none 0 0, .slice none 0 0] 26) := new_at _ _
            have hb17 : Hid (w1.heap.size ≤ y7.heap.size) := hS.size
            have bb := box_below y7 (.cells #[.int .i64 0, .int .i64 0, .int .u64 0, .slice none 0 0, .slice none 0 0] 26)
            replace EO7 := hid (EO7.out.later bb)
            have hS' := hid (Below.up hS bb)
            clear bb
            refine hK.out _ _ hS'.out (fun hS => ?_)
            clear hK K hS'
            generalize y7.alloc (.cells #[.int .i64 0, .int .i64 0, .int .u64 0, .slice none 0 0, .slice none 0 0] 26) = y17 at *
            generalize y7.heap.size = g17 at *
            have k17 := hid h0
            clear h0
            refine wpAnyH_ready (rs := [15, 16]) (by kernel_rfl) (by simp) ?_
            refine AllReadyH.cons rfl (fun K hK => ?_) ?_
            · go_simp
              have lo15 : Hid (w1.heap.size ≤ y17.heap.size) := hS.size
              have up7_15 : Hid (∀ j, blks (ev E a7 c7 b7 d7) j → j < y17.heap.size) := fun j h => (EO7.out.lt j h).2
              go_wp2_with fail
              refine (CW.out y17 hS).mono ?_
              rintro e y15 ⟨v15, rfl, EO15, bb15⟩
              obtain ⟨a15, c15, b15, d15, he15⟩ := EO_shape EO15
              subst he15
              replace EO15 := hid EO15
              replace EO7 := hid (EO7.out.later bb15)
              replace k17 := hid (below_blk k17.out bb15)
              have hS' := hid (Below.up hS bb15)
              clear bb15
              unfold ev at EO15
              unfold ev
              refine hK.out _ _ hS'.out (fun hS => ?_)
              clear hK K hS'
              refine wpAnyH_ready (rs := [16]) (by kernel_rfl) (by simp) ?_
              refine AllReadyH.cons rfl (fun K hK => ?_) ?_
              · go_simp
                have h0 : (y15.alloc (.cells #[.int .i64 0, .int .i64 0, .int .u64 0, .slice none 0 0, .slice none 0 0] 26)).heap[y15.heap.size]? = some (.cells #[.int .i64 0, .int .i64 0, .int .u64 0, .slice none 0 0, .slice none 0 0] 26) := new_at _ _
                have hb16 : Hid (w1.heap.size ≤ y15.heap.size) := hS.size
                have bb := box_below y15 (.cells #[.int .i64 0, .int .i64 0, .int .u64 0, .slice none 0 0, .slice none 0 0] 26)
                replace EO7 := hid (EO7.out.later bb)
                replace EO15 := hid (EO15.out.later bb)
                have ne17_16 : Hid (g17 < y15.heap.size) := blk_lt k17.out
                replace k17 := hid (below_blk k17.out bb)
                have hS' := hid (Below.up hS bb)
                clear bb
                refine hK.out _ _ hS'.out (fun hS => ?_)
                clear hK K hS'
                generalize y15.alloc (.cells #[.int .i64 0, .int .i64 0, .int .u64 0, .slice none 0 0, .slice none 0 0] 26) = y16 at *
                generalize y15.heap.size = g16 at *
                have k16 := hid h0
                clear h0
                refine wpAnyH_ready (rs := [18]) (by kernel_rfl) (by simp) ?_
                refine AllReadyH.cons rfl (fun K hK => ?_) ?_
                · have q0 := cell_of k16.out 0 (.int .i64 0) rfl
                  have f0 := fz_of k16.out 0
                  have q1 := cell_of k16.out 1 (.int .i64 0) rfl
                  have f1 := fz_of k16.out 1
                  have q2 := cell_of k16.out 2 (.int .u64 0) rfl
                  have f2 := fz_of k16.out 2
                  have q3 := cell_of k16.out 3 (.slice none 0 0) rfl
                  have f3 := fz_of k16.out 3
                  have q4 := cell_of k16.out 4 (.slice none 0 0) rfl
                  have f4 := fz_of k16.out 4
                  have P5 := put5 k16.out (.int .i64 E.log) (.int .i64 E.nx) (.int .u64 E.sq) (.slice a7 E.go.length c7) (.slice b7 E.co.length d7)
                  have hS' : Hid (Below w1.heap.size w1 (((((y16.setCell ⟨g16, 0, none⟩ (.int .i64 E.log)).setCell ⟨g16, 1, none⟩ (.int .i64 E.nx)).setCell ⟨g16, 2, none⟩ (.int .u64 E.sq)).setCell ⟨g16, 3, none⟩ (.slice a7 E.go.length c7)).setCell ⟨g16, 4, none⟩ (.slice b7 E.co.length d7))) := ((Fp.of (P := fun j => w1.heap.size ≤ j) hS).tr (P5.2.wide (fun j _ h => .inl (by show w1.heap.size ≤ j; have := hb16.out; omega)))).base (Nat.le_refl _) (fun _ h => h)
                  have EN7 := hid (EO7.out.fp P5.2 (fun j hj e => EO_ne EO7.out k16.out j hj e))
                  have EN15 := hid (EO15.out.fp P5.2 (fun j hj e => EO_ne EO15.out k16.out j hj e))
                  have kn17 := hid ((P5.2.block g17 (blk_lt k17.out) (fun e => by have := ne17_16.out; omega)).trans k17.out)
                  have kn16 := hid P5.1
                  clear P5
                  go_simp
                  refine hK.out _ _ hS'.out (fun hS => ?_)
                  clear hK K hS' q0 q1 q2 q3 q4 f0 f1 f2 f3 f4
                  generalize (((((y16.setCell ⟨g16, 0, none⟩ (.int .i64 E.log)).setCell ⟨g16, 1, none⟩ (.int .i64 E.nx)).setCell ⟨g16, 2, none⟩ (.int .u64 E.sq)).setCell ⟨g16, 3, none⟩ (.slice a7 E.go.length c7)).setCell ⟨g16, 4, none⟩ (.slice b7 E.co.length d7)) = y18 at *
                  clear EO7
                  have EO7 := EN7
                  clear EN7
                  clear EO15
                  have EO15 := EN15
                  clear EN15
                  clear k17
                  have k17 := kn17
                  clear kn17
                  clear k16
                  have k16 := kn16
                  clear kn16
                  refine wpAnyH_ready (rs := [19]) (by kernel_rfl) (by simp) ?_
                  refine AllReadyH.cons rfl (fun K hK => ?_) ?_
                  · have q0 := cell_of k17.out 0 (.int .i64 0) rfl
                    have f0 := fz_of k17.out 0
                    have q1 := cell_of k17.out 1 (.int .i64 0) rfl
                    have f1 := fz_of k17.out 1
                    have q2 := cell_of k17.out 2 (.int .u64 0) rfl
                    have f2 := fz_of k17.out 2
                    have q3 := cell_of k17.out 3 (.slice none 0 0) rfl
                    have f3 := fz_of k17.out 3
                    have q4 := cell_of k17.out 4 (.slice none 0 0) rfl
                    have f4 := fz_of k17.out 4
                    have P5 := put5 k17.out (.int .i64 E.log) (.int .i64 E.nx) (.int .u64 E.sq) (.slice a15 E.go.length c15) (.slice b15 E.co.length d15)
                    have hS' : Hid (Below w1.heap.size w1 (((((y18.setCell ⟨g17, 0, none⟩ (.int .i64 E.log)).setCell ⟨g17, 1, none⟩ (.int .i64 E.nx)).setCell ⟨g17, 2, none⟩ (.int .u64 E.sq)).setCell ⟨g17, 3, none⟩ (.slice a15 E.go.length c15)).setCell ⟨g17, 4, none⟩ (.slice b15 E.co.length d15))) := ((Fp.of (P := fun j => w1.heap.size ≤ j) hS).tr (P5.2.wide (fun j _ h => .inl (by show w1.heap.size ≤ j; have := hb17.out; omega)))).base (Nat.le_refl _) (fun _ h => h)
                    have EN7 := hid (EO7.out.fp P5.2 (fun j hj e => EO_ne EO7.out k17.out j hj e))
                    have EN15 := hid (EO15.out.fp P5.2 (fun j hj e => EO_ne EO15.out k17.out j hj e))
                    have kn16 := hid ((P5.2.block g16 (blk_lt k16.out) (fun e => by have := ne17_16.out; omega)).trans k16.out)
                    have kn17 := hid P5.1
                    clear P5
                    go_simp
                    refine hK.out _ _ hS'.out (fun hS => ?_)
                    clear hK K hS' q0 q1 q2 q3 q4 f0 f1 f2 f3 f4
                    generalize (((((y18.setCell ⟨g17, 0, none⟩ (.int .i64 E.log)).setCell ⟨g17, 1, none⟩ (.int .i64 E.nx)).setCell ⟨g17, 2, none⟩ (.int .u64 E.sq)).setCell ⟨g17, 3, none⟩ (.slice a15 E.go.length c15)).setCell ⟨g17, 4, none⟩ (.slice b15 E.co.length d15)) = y19 at *
                    clear EO7
                    have EO7 := EN7
                    clear EN7
                    clear EO15
                    have EO15 := EN15
                    clear EN15
                    clear k17
                    have k17 := kn17
                    clear kn17
                    clear k16
                    have k16 := kn16
                    clear kn16
                    refine wpAnyH_done (by kernel_rfl) ?_ _
                    go_wp2_with fail
                    go_meet
                    case rel => exact ⟨g16, g17, a7, c7, b7, d7, a15, c15, b15, d15, _, _, rfl, rfl, k16.out, k17.out, EO7.out, EO15.out, lo7.out, up7_15.out, hS⟩
                  exact AllReadyH.nil
                exact AllReadyH.nil
              exact AllReadyH.nil
            refine AllReadyH.cons rfl (fun K hK => ?_) ?_
            · go_simp
              have h0 : (y17.alloc (.cells #[.int .i64 0, .int .i64 0, .int .u64 0, .slice none 0 0, .slice none 0 0] 26)).heap[y17.heap.size]? = some (.cells #[.int .i64 0, .int .i64 0, .int .u64 0, .slice none 0 0, .slice none 0 0] 26) := new_at _ _
              have hb16 : Hid (w1.heap.size ≤ y17.heap.size) := hS.size
              have bb := box_below y17 (.cells #[.int .i64 0, .int .i64 0, .int .u64 0, .slice none 0 0, .slice none 0 0] 26)
              replace EO7 := hid (EO7.out.later bb)
              have ne17_16 : Hid (g17 < y17.heap.size) := blk_lt k17.out
              replace k17 := hid (below_blk k17.out bb)
              have hS' := hid (Below.up hS bb)
              clear bb
              refine hK.out _ _ hS'.out (fun hS => ?_)
              clear hK K hS'
              generalize y17.alloc (.cells #[.int .i64 0, .int .i64 0, .int .u64 0, .slice none 0 0, .slice none 0 0] 26) = y16 at *
              generalize y17.heap.size = g16 at *
              have k16 := hid h0
              clear h0
              refine wpAnyH_ready (rs := [15]) (by kernel_rfl) (by simp) ?_
              refine AllReadyH.cons rfl (fun K hK => ?_) ?_
              · go_simp
                have lo15 : Hid (w1.heap.size ≤ y16.heap.size) := hS.size
                have up7_15 : Hid (∀ j, blks (ev E a7 c7 b7 d7) j → j < y16.heap.size) := fun j h => (EO7.out.lt j h).2
                go_wp2_with fail
                refine (CW.out y16 hS).mono ?_
                rintro e y15 ⟨v15, rfl, EO15, bb15⟩
                obtain ⟨a15, c15, b15, d15, he15⟩ := EO_shape EO15
                subst he15
                replace EO15 := hid EO15
                replace EO7 := hid (EO7.out.later bb15)
                replace k17 := hid (below_blk k17.out bb15)
                replace k16 := hid (below_blk k16.out bb15)
                have hS' := hid (Below.up hS bb15)
                clear bb15
                unfold ev at EO15
                unfold ev
                refine hK.out _ _ hS'.out (fun hS => ?_)
                clear hK K hS'
                refine wpAnyH_ready (rs := [18]) (by kernel_rfl) (by simp) ?_
                refine AllReadyH.cons rfl (fun K hK => ?_) ?_
                · have q0 := cell_of k16.out 0 (.int .i64 0) rfl
                  have f0 := fz_of k16.out 0
                  have q1 := cell_of k16.out 1 (.int .i64 0) rfl
                  have f1 := fz_of k16.out 1
                  have q2 := cell_of k16.out 2 (.int .u64 0) rfl
                  have f2 := fz_of k16.out 2
                  have q3 := cell_of k16.out 3 (.slice none 0 0) rfl
                  have f3 := fz_of k16.out 3
                  have q4 := cell_of k16.out 4 (.slice none 0 0) rfl
                  have f4 := fz_of k16.out 4
                  have P5 := put5 k16.out (.int .i64 E.log) (.int .i64 E.nx) (.int .u64 E.sq) (.slice a7 E.go.length c7) (.slice b7 E.co.length d7)
                  have hS' : Hid (Below w1.heap.size w1 (((((y15.setCell ⟨g16, 0, none⟩ (.int .i64 E.log)).setCell ⟨g16, 1, none⟩ (.int .i64 E.nx)).setCell ⟨g16, 2, none⟩ (.int .u64 E.sq)).setCell ⟨g16, 3, none⟩ (.slice a7 E.go.length c7)).setCell ⟨g16, 4, none⟩ (.slice b7 E.co.length d7))) := ((Fp.of (P := fun j => w1.heap.size ≤ j) hS).tr (P5.2.wide (fun j _ h => .inl (by show w1.heap.size ≤ j; have := hb16.out; omega)))).base (Nat.le_refl _) (fun _ h => h)
                  have EN7 := hid (EO7.out.fp P5.2 (fun j hj e => EO_ne EO7.out k16.out j hj e))
                  have EN15 := hid (EO15.out.fp P5.2 (fun j hj e => EO_ne EO15.out k16.out j hj e))
                  have kn17 := hid ((P5.2.block g17 (blk_lt k17.out) (fun e => by have := ne17_16.out; omega)).trans k17.out)
                  have kn16 := hid P5.1
                  clear P5
                  go_simp
                  refine hK.out _ _ hS'.out (fun hS => ?_)
                  clear hK K hS' q0 q1 q2 q3 q4 f0 f1 f2 f3 f4
                  generalize (((((y15.setCell ⟨g16, 0, none⟩ (.int .i64 E.log)).setCell ⟨g16, 1, none⟩ (.int .i64 E.nx)).setCell ⟨g16, 2, none⟩ (.int .u64 E.sq)).setCell ⟨g16, 3, none⟩ (.slice a7 E.go.length c7)).setCell ⟨g16, 4, none⟩ (.slice b7 E.co.length d7)) = y18 at *
                  clear EO7
                  have EO7 := EN7
                  clear EN7
                  clear EO15
                  have EO15 := EN15
                  clear EN15
                  clear k17
                  have k17 := kn17
                  clear kn17
                  clear k16
                  have k16 := kn16
                  clear kn16
                  refine wpAnyH_ready (rs := [19]) (by kernel_rfl) (by simp) ?_
                  refine AllReadyH.cons rfl (fun K hK => ?_) ?_
                  · have q0 := cell_of k17.out 0 (.int .i64 0) rfl
                    have f0 := fz_of k17.out 0
                    have q1 := cell_of k17.out 1 (.int .i64 0) rfl
                    have f1 := fz_of k17.out 1
                    have q2 := cell_of k17.out 2 (.int .u64 0) rfl
                    have f2 := fz_of k17.out 2
                    have q3 := cell_of k17.out 3 (.slice none 0 0) rfl
                    have f3 := fz_of k17.out 3
                    have q4 := cell_of k17.out 4 (.slice none 0 0) rfl
                    have f4 := fz_of k17.out 4
                    have P5 := put5 k17.out (.int .i64 E.log) (.int .i64 E.nx) (.int .u64 E.sq) (.slice a15 E.go.length c15) (.slice b15 E.co.length d15)
                    have hS' : Hid (Below w1.heap.size w1 (((((y18.setCell ⟨g17, 0, none⟩ (.int .i64 E.log)).setCell ⟨g17, 1, none⟩ (.int .i64 E.nx)).setCell ⟨g17, 2, none⟩ (.int .u64 E.sq)).setCell ⟨g17, 3, none⟩ (.slice a15 E.go.length c15)).setCell ⟨g17, 4, none⟩ (.slice b15 E.co.length d15))) := ((Fp.of (P := fun j => w1.heap.size ≤ j) hS).tr (P5.2.wide (fun j _ h => .inl (by show w1.heap.size ≤ j; have := hb17.out; omega)))).base (Nat.le_refl _) (fun _ h => h)
                    have EN7 := hid (EO7.out.fp P5.2 (fun j hj e => EO_ne EO7.out k17.out j hj e))
                    have EN15 := hid (EO15.out.fp P5.2 (fun j hj e => EO_ne EO15.out k17.out j hj e))
                    have kn16 := hid ((P5.2.block g16 (blk_lt k16.out) (fun e => by have := ne17_16.out; omega)).trans k16.out)
                    have kn17 := hid P5.1
                    clear P5
                    go_simp
                    refine hK.out _ _ hS'.out (fun hS => ?_)
                    clear hK K hS' q0 q1 q2 q3 q4 f0 f1 f2 f3 f4
                    generalize (((((y18.setCell ⟨g17, 0, none⟩ (.int .i64 E.log)).setCell ⟨g17, 1, none⟩ (.int .i64 E.nx)).setCell ⟨g17, 2, none⟩ (.int .u64 E.sq)).setCell ⟨g17, 3, none⟩ (.slice a15 E.go.length c15)).setCell ⟨g17, 4, none⟩ (.slice b15 E.co.length d15)) = y19 at *
                    clear EO7
                    have EO7 := EN7
                    clear EN7
                    clear EO15
                    have EO15 := EN15
                    clear EN15
                    clear k17
                    have k17 := kn17
                    clear kn17
                    clear k16
                    have k16 := kn16
                    clear kn16
                    refine wpAnyH_done (by kernel_rfl) ?_ _
                    go_wp2_with fail
                    go_meet
                    case rel => exact ⟨g16, g17, a7, c7, b7, d7, a15, c15, b15, d15, _, _, rfl, rfl, k16.out, k17.out, EO7.out, EO15.out, lo7.out, up7_15.out, hS⟩
                  exact AllReadyH.nil
                exact AllReadyH.nil
              exact AllReadyH.nil
            exact AllReadyH.nil
          exact AllReadyH.nil
        refine AllReadyH.cons rfl (fun K hK => ?_) ?_
        · go_simp
          have h0 : (D.alloc (.cells #[.int .i64 0, .int .i64 0, .int .u64 0, .slice none 0 0, .slice none 0 0] 26)).heap[D.heap.size]? = some (.cells #[.int .i64 0, .int .i64 0, .int .u64 0, .slice none 0 0, .slice none 0 0] 26) := new_at _ _
          have hb16 : Hid (w1.heap.size ≤ D.heap.size) := hS.size
          have bb := box_below D (.cells #[.int .i64 0, .int .i64 0, .int .u64 0, .slice none 0 0, .slice none 0 0] 26)
          have hS' := hid (Below.up hS bb)
          clear bb
          refine hK.out _ _ hS'.out (fun hS => ?_)
          clear hK K hS'
          generalize D.alloc (.cells #[.int .i64 0, .int .i64 0, .int .u64 0, .slice none 0 0, .slice none 0 0] 26) = y16 at *
          generalize D.heap.size = g16 at *
          have k16 := hid h0
          clear h0
          refine wpAnyH_ready (rs := [7, 17]) (by kernel_rfl) (by simp) ?_
          refine AllReadyH.cons rfl (fun K hK => ?_) ?_
          · go_simp
            have lo7 : Hid (w1.heap.size ≤ y16.heap.size) := hS.size
            go_wp2_with fail
            refine (CW.out y16 hS).mono ?_
            rintro e y7 ⟨v7, rfl, EO7, bb7⟩
            obtain ⟨a7, c7, b7, d7, he7⟩ := EO_shape EO7
            subst he7
            replace EO7 := hid EO7
            replace k16 := hid (below_blk k16.out bb7)
            have hS' := hid (Below.up hS bb7)
            clear bb7
            unfold ev at EO7
            unfold ev
            refine hK.out _ _ hS'.out (fun hS => ?_)
            clear hK K hS'
            refine wpAnyH_ready (rs := [15, 17]) (by kernel_rfl) (by simp) ?_
            refine AllReadyH.cons rfl (fun K hK => ?_) ?_
            · go_simp
              have lo15 : Hid (w1.heap.size ≤ y7.heap.size) := hS.size
              have up7_15 : Hid (∀ j, blks (ev E a7 c7 b7 d7) j → j < y7.heap.size) := fun j h => (EO7.out.lt j h).2
              go_wp2_with fail
              refine (CW.out y7 hS).mono ?_
              rintro e y15 ⟨v15, rfl, EO15, bb15⟩
              obtain ⟨a15, c15, b15, d15, he15⟩ := EO_shape EO15
              subst he15
              replace EO15 := hid EO15
              replace EO7 := hid (EO7.out.later bb15)
              replace k16 := hid (below_blk k16.out bb15)
              have hS' := hid (Below.up hS bb15)
              clear bb15
              unfold ev at EO15
              unfold ev
              refine hK.out _ _ hS'.out (fun hS => ?_)
              clear hK K hS'
              refine wpAnyH_ready (rs := [17]) (by kernel_rfl) (by simp) ?_
              refine AllReadyH.cons rfl (fun K hK => ?_) ?_
              · go_simp
                have h0 : (y15.alloc (.cells #[.int .i64 0, .int .i64 0, .int .u64 0, .slice none 0 0, .slice none 0 0] 26)).heap[y15.heap.size]? = some (.cells #[.int .i64 0, .int .i64 0, .int .u64 0, .slice none 0 0, .slice none 0 0] 26) := new_at _ _
                have hb17 : Hid (w1.heap.size ≤ y15.heap.size) := hS.size
                have bb := box_below y15 (.cells #[.int .i64 0, .int .i64 0, .int .u64 0, .slice none 0 0, .slice none 0 0] 26)
                replace EO7 := hid (EO7.out.later bb)
                replace EO15 := hid (EO15.out.later bb)
                have ne16_17 : Hid (g16 < y15.heap.size) := blk_lt k16.out
                replace k16 := hid (below_blk k16.out bb)
                have hS' := hid (Below.up hS bb)
                clear bb
                refine hK.out _ _ hS'.out (fun hS => ?_)
                clear hK K hS'
                generalize y15.alloc (.cells #[.int .i64 0, .int .i64 0, .int .u64 0, .slice none 0 0, .slice none 0 0] 26) = y17 at *
                generalize y15.heap.size = g17 at *
                have k17 := hid h0
                clear h0
                refine wpAnyH_ready (rs := [18]) (by kernel_rfl) (by simp) ?_
                refine AllReadyH.cons rfl (fun K hK => ?_) ?_
                · have q0 := cell_of k16.out 0 (.int .i64 0) rfl
                  have f0 := fz_of k16.out 0
                  have q1 := cell_of k16.out 1 (.int .i64 0) rfl
                  have f1 := fz_of k16.out 1
                  have q2 := cell_of k16.out 2 (.int .u64 0) rfl
                  have f2 := fz_of k16.out 2
                  have q3 := cell_of k16.out 3 (.slice none 0 0) rfl
                  have f3 := fz_of k16.out 3
                  have q4 := cell_of k16.out 4 (.slice none 0 0) rfl
                  have f4 := fz_of k16.out 4
                  have P5 := put5 k16.out (.int .i64 E.log) (.int .i64 E.nx) (.int .u64 E.sq) (.slice a7 E.go.length c7) (.slice b7 E.co.length d7)
                  have hS' : Hid (Below w1.heap.size w1 (((((y17.setCell ⟨g16, 0, none⟩ (.int .i64 E.log)).setCell ⟨g16, 1, none⟩ (.int .i64 E.nx)).setCell ⟨g16, 2, none⟩ (.int .u64 E.sq)).setCell ⟨g16, 3, none⟩ (.slice a7 E.go.length c7)).setCell ⟨g16, 4, none⟩ (.slice b7 E.co.length d7))) := ((Fp.of (P := fun j => w1.heap.size ≤ j) hS).tr (P5.2.wide (fun j _ h => .inl (by show w1.heap.size ≤ j; have := hb16.out; omega)))).base (Nat.le_refl _) (fun _ h => h)
                  have EN7 := hid (EO7.out.fp P5.2 (fun j hj e => EO_ne EO7.out k16.out j hj e))
                  have EN15 := hid (EO15.out.fp P5.2 (fun j hj e => EO_ne EO15.out k16.out j hj e))
                  have kn17 := hid ((P5.2.block g17 (blk_lt k17.out) (fun e => by have := ne16_17.out; omega)).trans k17.out)
                  have kn16 := hid P5.1
                  clear P5
                  go_simp
                  refine hK.out _ _ hS'.out (fun hS => ?_)
                  clear hK K hS' q0 q1 q2 q3 q4 f0 f1 f2 f3 f4
                  generalize (((((y17.setCell ⟨g16, 0, none⟩ (.int .i64 E.log)).setCell ⟨g16, 1, none⟩ (.int .i64 E.nx)).setCell ⟨g16, 2, none⟩ (.int .u64 E.sq)).setCell ⟨g16, 3, none⟩ (.slice a7 E.go.length c7)).setCell ⟨g16, 4, none⟩ (.slice b7 E.co.length d7)) = y18 at *
                  clear EO7
                  have EO7 := EN7
                  clear EN7
                  clear EO15
                  have EO15 := EN15
                  clear EN15
                  clear k16
                  have k16 := kn16
                  clear kn16
                  clear k17
                  have k17 := kn17
                  clear kn17
                  refine wpAnyH_ready (rs := [19]) (by kernel_rfl) (by simp) ?_
                  refine AllReadyH.cons rfl (fun K hK => ?_) ?_
                  · have q0 := cell_of k17.out 0 (.int .i64 0) rfl
                    have f0 := fz_of k17.out 0
                    have q1 := cell_of k17.out 1 (.int .i64 0) rfl
                    have f1 := fz_of k17.out 1
                    have q2 := cell_of k17.out 2 (.int .u64 0) rfl
                    have f2 := fz_of k17.out 2
                    have q3 := cell_of k17.out 3 (.slice none 0 0) rfl
                    have f3 := fz_of k17.out 3
                    have q4 := cell_of k17.out 4 (.slice none 0 0) rfl
                    have f4 := fz_of k17.out 4
                    have P5 := put5 k17.out (.int .i64 E.log) (.int .i64 E.nx) (.int .u64 E.sq) (.slice a15 E.go.length c15) (.slice b15 E.co.length d15)
                    have hS' : Hid (Below w1.heap.size w1 (((((y18.setCell ⟨g17, 0, none⟩ (.int .i64 E.log)).setCell ⟨g17, 1, none⟩ (.int .i64 E.nx)).setCell ⟨g17, 2, none⟩ (.int .u64 E.sq)).setCell ⟨g17, 3, none⟩ (.slice a15 E.go.length c15)).setCell ⟨g17, 4, none⟩ (.slice b15 E.co.length d15))) := ((Fp.of (P := fun j => w1.heap.size ≤ j) hS).tr (P5.2.wide (fun j _ h => .inl (by show w1.heap.size ≤ j; have := hb17.out; omega)))).base (Nat.le_refl _) (fun _ h => h)
                    have EN7 := hid (EO7.out.fp P5.2 (fun j hj e => EO_ne EO7.out k17.out j hj e))
                    have EN15 := hid (EO15.out.fp P5.2 (fun j hj e => EO_ne EO15.out k17.out j hj e))
                    have kn16 := hid ((P5.2.block g16 (blk_lt k16.out) (fun e => by have := ne16_17.out; omega)).trans k16.out)
                    have kn17 := hid P5.1
                    clear P5
                    go_simp
                    refine hK.out _ _ hS'.out (fun hS => ?_)
                    clear hK K hS' q0 q1 q2 q3 q4 f0 f1 f2 f3 f4
                    generalize (((((y18.setCell ⟨g17, 0, none⟩ (.int .i64 E.log)).setCell ⟨g17, 1, none⟩ (.int .i64 E.nx)).setCell ⟨g17, 2, none⟩ (.int .u64 E.sq)).setCell ⟨g17, 3, none⟩ (.slice a15 E.go.length c15)).setCell ⟨g17, 4, none⟩ (.slice b15 E.co.length d15)) = y19 at *
                    clear EO7
                    have EO7 := EN7
                    clear EN7
                    clear EO15
                    have EO15 := EN15
                    clear EN15
                    clear k16
                    have k16 := kn16
                    clear kn16
                    clear k17
                    have k17 := kn17
                    clear kn17
                    refine wpAnyH_done (by kernel_rfl) ?_ _
                    go_wp2_with fail
                    go_meet
                    case rel => exact ⟨g16, g17, a7, c7, b7, d7, a15, c15, b15, d15, _, _, rfl, rfl, k16.out, k17.out, EO7.out, EO15.out, lo7.out, up7_15.out, hS⟩
                  exact AllReadyH.nil
                exact AllReadyH.nil
              exact AllReadyH.nil
            refine AllReadyH.cons rfl (fun K hK => ?_) ?_
            · go_simp
              have h0 : (y7.alloc (.cells #[.int .i64 0, .int .i64 0, .int .u64 0, .slice none 0 0, .slice none 0 0] 26)).heap[y7.heap.size]? = some (.cells #[.int .i64 0, .int .i64 0, .int .u64 0, .slice none 0 0, .slice none 0 0] 26) := new_at _ _
              have hb17 : Hid (w1.heap.size ≤ y7.heap.size) := hS.size
              have bb := box_below y7 (.cells #[.int .i64 0, .int .i64 0, .int .u64 0, .slice none 0 0, .slice none 0 0] 26)
              replace EO7 := hid (EO7.out.later bb)
              have ne16_17 : Hid (g16 < y7.heap.size) := blk_lt k16.out
              replace k16 := hid (below_blk k16.out bb)
              have hS' := hid (Below.up hS bb)
              clear bb
              refine hK.out _ _ hS'.out (fun hS => ?_)
              clear hK K hS'
              generalize y7.alloc (.cells #[.int .i64 0, .int .i64 0, .int .u64 0, .slice none 0 0, .slice none 0 0] 26) = y17 at *
              generalize y7.heap.size = g17 at *
              have k17 := hid h0
              clear h0
              refine wpAnyH_ready (rs := [15]) (by kernel_rfl) (by simp) ?_
              refine AllReadyH.cons rfl (fun K hK => ?_) ?_
              · go_simp
                have lo15 : Hid (w1.heap.size ≤ y17.heap.size) := hS.size
                have up7_15 : Hid (∀ j, blks (ev E a7 c7 b7 d7) j → j < y17.heap.size) := fun j h => (EO7.out.lt j h).2
                go_wp2_with fail
                refine (CW.out y17 hS).mono ?_
                rintro e y15 ⟨v15, rfl, EO15, bb15⟩
                obtain ⟨a15, c15, b15, d15, he15⟩ := EO_shape EO15
                subst he15
                replace EO15 := hid EO15
                replace EO7 := hid (EO7.out.later bb15)
                replace k16 := hid (below_blk k16.out bb15)
                replace k17 := hid (below_blk k17.out bb15)
                have hS' := hid (Below.up hS bb15)
                clear bb15
                unfold ev at EO15
                unfold ev
                refine hK.out _ _ hS'.out (fun hS => ?_)
                clear hK K hS'
                refine wpAnyH_ready (rs := [18]) (by kernel_rfl) (by simp) ?_
                refine AllReadyH.cons rfl (fun K hK => ?_) ?_
                · have q0 := cell_of k16.out 0 (.int .i64 0) rfl
                  have f0 := fz_of k16.out 0
                  have q1 := cell_of k16.out 1 (.int .i64 0) rfl
                  have f1 := fz_of k16.out 1
                  have q2 := cell_of k16.out 2 (.int .u64 0) rfl
                  have f2 := fz_of k16.out 2
                  have q3 := cell_of k16.out 3 (.slice none 0 0) rfl
                  have f3 := fz_of k16.out 3
                  have q4 := cell_of k16.out 4 (.slice none 0 0) rfl
                  have f4 := fz_of k16.out 4
                  have P5 := put5 k16.out (.int .i64 E.log) (.int .i64 E.nx) (.int .u64 E.sq) (.slice a7 E.go.length c7) (.slice b7 E.co.length d7)
                  have hS' : Hid (Below w1.heap.size w1 (((((y15.setCell ⟨g16, 0, none⟩ (.int .i64 E.log)).setCell ⟨g16, 1, none⟩ (.int .i64 E.nx)).setCell ⟨g16, 2, none⟩ (.int .u64 E.sq)).setCell ⟨g16, 3, none⟩ (.slice a7 E.go.length c7)).setCell ⟨g16, 4, none⟩ (.slice b7 E.co.length d7))) := ((Fp.of (P := fun j => w1.heap.size ≤ j) hS).tr (P5.2.wide (fun j _ h => .inl (by show w1.heap.size ≤ j; have := hb16.out; omega)))).base (Nat.le_refl _) (fun _ h => h)
                  have EN7 := hid (EO7.out.fp P5.2 (fun j hj e => EO_ne EO7.out k16.out j hj e))
                  have EN15 := hid (EO15.out.fp P5.2 (fun j hj e => EO_ne EO15.out k16.out j hj e))
                  have kn17 := hid ((P5.2.block g17 (blk_lt k17.out) (fun e => by have := ne16_17.out; omega)).trans k17.out)
                  have kn16 := hid P5.1
                  clear P5
                  go_simp
                  refine hK.out _ _ hS'.out (fun hS => ?_)
                  clear hK K hS' q0 q1 q2 q3 q4 f0 f1 f2 f3 f4
                  generalize (((((y15.setCell ⟨g16, 0, none⟩ (.int .i64 E.log)).setCell ⟨g16, 1, none⟩ (.int .i64 E.nx)).setCell ⟨g16, 2, none⟩ (.int .u64 E.sq)).setCell ⟨g16, 3, none⟩ (.slice a7 E.go.length c7)).setCell ⟨g16, 4, none⟩ (.slice b7 E.co.length d7)) = y18 at *
                  clear EO7
                  have EO7 := EN7
                  clear EN7
                  clear EO15
                  have EO15 := EN15
                  clear EN15
                  clear k16
                  have k16 := kn16
                  clear kn16
                  clear k17
                  have k17 := kn17
                  clear kn17
                  refine wpAnyH_ready (rs := [19]) (by kernel_rfl) (by simp) ?_
                  refine AllReadyH.cons rfl (fun K hK => ?_) ?_
                  · have q0 := cell_of k17.out 0 (.int .i64 0) rfl
                    have f0 := fz_of k17.out 0
                    have q1 := cell_of k17.out 1 (.int .i64 0) rfl
                    have f1 := fz_of k17.out 1
                    have q2 := cell_of k17.out 2 (.int .u64 0) rfl
                    have f2 := fz_of k17.out 2
                    have q3 := cell_of k17.out 3 (.slice none 0 0) rfl
                    have f3 := fz_of k17.out 3
                    have q4 := cell_of k17.out 4 (.slice none 0 0) rfl
                    have f4 := fz_of k17.out 4
                    have P5 := put5 k17.out (.int .i64 E.log) (.int .i64 E.nx) (.int .u64 E.sq) (.slice a15 E.go.length c15) (.slice b15 E.co.length d15)
                    have hS' : Hid (Below w1.heap.size w1 (((((y18.setCell ⟨g17, 0, none⟩ (.int .i64 E.log)).setCell ⟨g17, 1, none⟩ (.int .i64 E.nx)).setCell ⟨g17, 2, none⟩ (.int .u64 E.sq)).setCell ⟨g17, 3, none⟩ (.slice a15 E.go.length c15)).setCell ⟨g17, 4, none⟩ (.slice b15 E.co.length d15))) := ((Fp.of (P := fun j => w1.heap.size ≤ j) hS).tr (P5.2.wide (fun j _ h => .inl (by show w1.heap.size ≤ j; have := hb17.out; omega)))).base (Nat.le_refl _) (fun _ h => h)
                    have EN7 := hid (EO7.out.fp P5.2 (fun j hj e => EO_ne EO7.out k17.out j hj e))
                    have EN15 := hid (EO15.out.fp P5.2 (fun j hj e => EO_ne EO15.out k17.out j hj e))
                    have kn16 := hid ((P5.2.block g16 (blk_lt k16.out) (fun e => by have := ne16_17.out; omega)).trans k16.out)
                    have kn17 := hid P5.1
                    clear P5
                    go_simp
                    refine hK.out _ _ hS'.out (fun hS => ?_)
                    clear hK K hS' q0 q1 q2 q3 q4 f0 f1 f2 f3 f4
                    generalize (((((y18.setCell ⟨g17, 0, none⟩ (.int .i64 E.log)).setCell ⟨g17, 1, none⟩ (.int .i64 E.nx)).setCell ⟨g17, 2, none⟩ (.int .u64 E.sq)).setCell ⟨g17, 3, none⟩ (.slice a15 E.go.length c15)).setCell ⟨g17, 4, none⟩ (.slice b15 E.co.length d15)) = y19 at *
                    clear EO7
                    have EO7 := EN7
                    clear EN7
                    clear EO15
                    have EO15 := EN15
                    clear EN15
                    clear k16
                    have k16 := kn16
                    clear kn16
                    clear k17
                    have k17 := kn17
                    clear kn17
                    refine wpAnyH_done (by kernel_rfl) ?_ _
                    go_wp2_with fail
                    go_meet
                    case rel => exact ⟨g16, g17, a7, c7, b7, d7, a15, c15, b15, d15, _, _, rfl, rfl, k16.out, k17.out, EO7.out, EO15.out, lo7.out, up7_15.out, hS⟩
                  exact AllReadyH.nil
                exact AllReadyH.nil
              exact AllReadyH.nil
            exact AllReadyH.nil
          refine AllReadyH.cons rfl (fun K hK => ?_) ?_
          · go_simp
            have h0 : (y16.alloc (.cells #[.int .i64 0, .int .i64 0, .int .u64 0, .slice none 0 0, .slice none 0 0] 26)).heap[y16.heap.size]? = some (.cells #[.int .i64 0, .int .i64 0, .int .u64 0, .slice none 0 0, .slice none 0 0] 26) := new_at _ _
            have hb17 : Hid (w1.heap.size ≤ y16.heap.size) := hS.size
            have bb := box_below y16 (.cells #[.int .i64 0, .int .i64 0, .int .u64 0, .slice none 0 0, .slice none 0 0] 26)
            have ne16_17 : Hid (g16 < y16.heap.size) := blk_lt k16.out
            replace k16 := hid (below_blk k16.out bb)
            have hS' := hid (Below.up hS bb)
            clear bb
            refine hK.out _ _ hS'.out (fun hS => ?_)
            clear hK K hS'
            generalize y16.alloc (.cells #[.int .i64 0, .int .i64 0, .int .u64 0, .slice none 0 0, .slice none 0 0] 26) = y17 at *
            generalize y16.heap.size = g17 at *
            have k17 := hid h0
            clear h0
            refine wpAnyH_ready (rs := [7]) (by kernel_rfl) (by simp) ?_
            refine AllReadyH.cons rfl (fun K hK => ?_) ?_
            · go_simp
              have lo7 : Hid (w1.heap.size ≤ y17.heap.size) := hS.size
              go_wp2_with fail
              refine (CW.out y17 hS).mono ?_
              rintro e y7 ⟨v7, rfl, EO7, bb7⟩
              obtain ⟨a7, c7, b7, d7, he7⟩ := EO_shape EO7
              subst he7
              replace EO7 := hid EO7
              replace k16 := hid (below_blk k16.out bb7)
              replace k17 := hid (below_blk k17.out bb7)
              have hS' := hid (Below.up hS bb7)
              clear bb7
              unfold ev at EO7
              unfold ev
              refine hK.out _ _ hS'.out (fun hS => ?_)
              clear hK K hS'
              refine wpAnyH_ready (rs := [15]) (by kernel_rfl) (by simp) ?_
              refine AllReadyH.cons rfl (fun K hK => ?_) ?_
              · go_simp
                have lo15 : Hid (w1.heap.size ≤ y7.heap.size) := hS.size
                have up7_15 : Hid (∀ j, blks (ev E a7 c7 b7 d7) j → j < y7.heap.size) := fun j h => (EO7.out.lt j h).2
                go_wp2_with fail
                refine (CW.out y7 hS).mono ?_
                rintro e y15 ⟨v15, rfl, EO15, bb15⟩
                obtain ⟨a15, c15, b15, d15, he15⟩ := EO_shape EO15
                subst he15
                replace EO15 := hid EO15
                replace EO7 := hid (EO7.out.later bb15)
                replace k16 := hid (below_blk k16.out bb15)
                replace k17 := hid (below_blk k17.out bb15)
                have hS' := hid (Below.up hS bb15)
                clear bb15
                unfold ev at EO15
                unfold ev
                refine hK.out _ _ hS'.out (fun hS => ?_)
                clear hK K hS'
                refine wpAnyH_ready (rs := [18]) (by kernel_rfl) (by simp) ?_
                refine AllReadyH.cons rfl (fun K hK => ?_) ?_
                · have q0 := cell_of k16.out 0 (.int .i64 0) rfl
                  have f0 := fz_of k16.out 0
                  have q1 := cell_of k16.out 1 (.int .i64 0) rfl
                  have f1 := fz_of k16.out 1
                  have q2 := cell_of k16.out 2 (.int .u64 0) rfl
                  have f2 := fz_of k16.out 2
                  have q3 := cell_of k16.out 3 (.slice none 0 0) rfl
                  have f3 := fz_of k16.out 3
                  have q4 := cell_of k16.out 4 (.slice none 0 0) rfl
                  have f4 := fz_of k16.out 4
                  have P5 := put5 k16.out (.int .i64 E.log) (.int .i64 E.nx) (.int .u64 E.sq) (.slice a7 E.go.length c7) (.slice b7 E.co.length d7)
                  have hS' : Hid (Below w1.heap.size w1 (((((y15.setCell ⟨g16, 0, none⟩ (.int .i64 E.log)).setCell ⟨g16, 1, none⟩ (.int .i64 E.nx)).setCell ⟨g16, 2, none⟩ (.int .u64 E.sq)).setCell ⟨g16, 3, none⟩ (.slice a7 E.go.length c7)).setCell ⟨g16, 4, none⟩ (.slice b7 E.co.length d7))) := ((Fp.of (P := fun j => w1.heap.size ≤ j) hS).tr (P5.2.wide (fun j _ h => .inl (by show w1.heap.size ≤ j; have := hb16.out; omega)))).base (Nat.le_refl _) (fun _ h => h)
                  have EN7 := hid (EO7.out.fp P5.2 (fun j hj e => EO_ne EO7.out k16.out j hj e))
                  have EN15 := hid (EO15.out.fp P5.2 (fun j hj e => EO_ne EO15.out k16.out j hj e))
                  have kn17 := hid ((P5.2.block g17 (blk_lt k17.out) (fun e => by have := ne16_17.out; omega)).trans k17.out)
                  have kn16 := hid P5.1
                  clear P5
                  go_simp
                  refine hK.out _ _ hS'.out (fun hS => ?_)
                  clear hK K hS' q0 q1 q2 q3 q4 f0 f1 f2 f3 f4
                  generalize (((((y15.setCell ⟨g16, 0, none⟩ (.int .i64 E.log)).setCell ⟨g16, 1, none⟩ (.int .i64 E.nx)).setCell ⟨g16, 2, none⟩ (.int .u64 E.sq)).setCell ⟨g16, 3, none⟩ (.slice a7 E.go.length c7)).setCell ⟨g16, 4, none⟩ (.slice b7 E.co.length d7)) = y18 at *
                  clear EO7
                  have EO7 := EN7
                  clear EN7
                  clear EO15
                  have EO15 := EN15
                  clear EN15
                  clear k16
                  have k16 := kn16
                  clear kn16
                  clear k17
                  have k17 := kn17
                  clear kn17
                  refine wpAnyH_ready (rs := [19]) (by kernel_rfl) (by simp) ?_
                  refine AllReadyH.cons rfl (fun K hK => ?_) ?_
                  · have q0 := cell_of k17.out 0 (.int .i64 0) rfl
                    have f0 := fz_of k17.out 0
                    have q1 := cell_of k17.out 1 (.int .i64 0) rfl
                    have f1 := fz_of k17.out 1
                    have q2 := cell_of k17.out 2 (.int .u64 0) rfl
                    have f2 := fz_of k17.out 2
                    have q3 := cell_of k17.out 3 (.slice none 0 0) rfl
                    have f3 := fz_of k17.out 3
                    have q4 := cell_of k17.out 4 (.slice none 0 0) rfl
                    have f4 := fz_of k17.out 4
                    have P5 := put5 k17.out (.int .i64 E.log) (.int .i64 E.nx) (.int .u64 E.sq) (.slice a15 E.go.length c15) (.slice b15 E.co.length d15)
                    have hS' : Hid (Below w1.heap.size w1 (((((y18.setCell ⟨g17, 0, none⟩ (.int .i64 E.log)).setCell ⟨g17, 1, none⟩ (.int .i64 E.nx)).setCell ⟨g17, 2, none⟩ (.int .u64 E.sq)).setCell ⟨g17, 3, none⟩ (.slice a15 E.go.length c15)).setCell ⟨g17, 4, none⟩ (.slice b15 E.co.length d15))) := ((Fp.of (P := fun j => w1.heap.size ≤ j) hS).tr (P5.2.wide (fun j _ h => .inl (by show w1.heap.size ≤ j; have := hb17.out; omega)))).base (Nat.le_refl _) (fun _ h => h)
                    have EN7 := hid (EO7.out.fp P5.2 (fun j hj e => EO_ne EO7.out k17.out j hj e))
                    have EN15 := hid (EO15.out.fp P5.2 (fun j hj e => EO_ne EO15.out k17.out j hj e))
                    have kn16 := hid ((P5.2.block g16 (blk_lt k16.out) (fun e => by have := ne16_17.out; omega)).trans k16.out)
                    have kn17 := hid P5.1
                    clear P5
                    go_simp
                    refine hK.out _ _ hS'.out (fun hS => ?_)
                    clear hK K hS' q0 q1 q2 q3 q4 f0 f1 f2 f3 f4
                    generalize (((((y18.setCell ⟨g17, 0, none⟩ (.int .i64 E.log)).setCell ⟨g17, 1, none⟩ (.int .i64 E.nx)).setCell ⟨g17, 2, none⟩ (.int .u64 E.sq)).setCell ⟨g17, 3, none⟩ (.slice a15 E.go.length c15)).setCell ⟨g17, 4, none⟩ (.slice b15 E.co.length d15)) = y19 at *
                    clear EO7
                    have EO7 := EN7
                    clear EN7
                    clear EO15
                    have EO15 := EN15
                    clear EN15
                    clear k16
                    have k16 := kn16
                    clear kn16
                    clear k17
                    have k17 := kn17
                    clear kn17
                    refine wpAnyH_done (by kernel_rfl) ?_ _
                    go_wp2_with fail
                    go_meet
                    case rel => exact ⟨g16, g17, a7, c7, b7, d7, a15, c15, b15, d15, _, _, rfl, rfl, k16.out, k17.out, EO7.out, EO15.out, lo7.out, up7_15.out, hS⟩
                  exact AllReadyH.nil
                exact AllReadyH.nil
              exact AllReadyH.nil
            exact AllReadyH.nil
          exact AllReadyH.nil
        refine AllReadyH.cons rfl (fun K hK => ?_) ?_
        · go_simp
          have h0 : (D.alloc (.cells #[.int .i64 0, .int .i64 0, .int .u64 0, .slice none 0 0, .slice none 0 0] 26)).heap[D.heap.size]? = some (.cells #[.int .i64 0, .int .i64 0, .int .u64 0, .slice none 0 0, .slice none 0 0] 26) := new_at _ _
          have hb17 : Hid (w1.heap.size ≤ D.heap.size) := hS.size
          have bb := box_below D (.cells #[.int .i64 0, .int .i64 0, .int .u64 0, .slice none 0 0, .slice none 0 0] 26)
          have hS' := hid (Below.up hS bb)
          clear bb
          refine hK.out _ _ hS'.out (fun hS => ?_)
          clear hK K hS'
          generalize D.alloc (.cells #[.int .i64 0, .int .i64 0, .int .u64 0, .slice none 0 0, .slice none 0 0] 26) = y17 at *
          generalize D.heap.size = g17 at *
          have k17 := hid h0
          clear h0
          refine wpAnyH_ready (rs := [7, 16]) (by kernel_rfl) (by simp) ?_
          refine AllReadyH.cons rfl (fun K hK => ?_) ?_
          · go_simp
            have lo7 : Hid (w1.heap.size ≤ y17.heap.size) := hS.size
            go_wp2_with fail
            refine (CW.out y17 hS).mono ?_
            rintro e y7 ⟨v7, rfl, EO7, bb7⟩
            obtain ⟨a7, c7, b7, d7, he7⟩ := EO_shape EO7
            subst he7
            replace EO7 := hid EO7
            replace k17 := hid (below_blk k17.out bb7)
            have hS' := hid (Below.up hS bb7)
            clear bb7
            unfold ev at EO7
            unfold ev
            refine hK.out _ _ hS'.out (fun hS => ?_)
            clear hK K hS'
            refine wpAnyH_ready (rs := [15, 16]) (by kernel_rfl) (by simp) ?_
            refine AllReadyH.cons rfl (fun K hK => ?_) ?_
            · go_simp
              have lo15 : Hid (w1.heap.size ≤ y7.heap.size) := hS.size
              have up7_15 : Hid (∀ j, blks (ev E a7 c7 b7 d7) j → j < y7.heap.size) := fun j h => (EO7.out.lt j h).2
              go_wp2_with fail
              refine (CW.out y7 hS).mono ?_
              rintro e y15 ⟨v15, rfl, EO15, bb15⟩
              obtain ⟨a15, c15, b15, d15, he15⟩ := EO_shape EO15
              subst he15
              replace EO15 := hid EO15
              replace EO7 := hid (EO7.out.later bb15)
              replace k17 := hid (below_blk k17.out bb15)
              have hS' := hid (Below.up hS bb15)
              clear bb15
              unfold ev at EO15
              unfold ev
              refine hK.out _ _ hS'.out (fun hS => ?_)
              clear hK K hS'
              refine wpAnyH_ready (rs := [16]) (by kernel_rfl) (by simp) ?_
              refine AllReadyH.cons rfl (fun K hK => ?_) ?_
              · go_simp
                have h0 : (y15.alloc (.cells #[.int .i64 0, .int .i64 0, .int .u64 0, .slice none 0 0, .slice none 0 0] 26)).heap[y15.heap.size]? = some (.cells #[.int .i64 0, .int .i64 0, .int .u64 0, .slice none 0 0, .slice none 0 0] 26) := new_at _ _
                have hb16 : Hid (w1.heap.size ≤ y15.heap.size) := hS.size
                have bb := box_below y15 (.cells #[.int .i64 0, .int .i64 0, .int .u64 0, .slice none 0 0, .slice none 0 0] 26)
                replace EO7 := hid (EO7.out.later bb)
                replace EO15 := hid (EO15.out.later bb)
                have ne17_16 : Hid (g17 < y15.heap.size) := blk_lt k17.out
                replace k17 := hid (below_blk k17.out bb)
                have hS' := hid (Below.up hS bb)
                clear bb
                refine hK.out _ _ hS'.out (fun hS => ?_)
                clear hK K hS'
                generalize y15.alloc (.cells #[.int .i64 0, .int .i64 0, .int .u64 0, .slice none 0 0, .slice none 0 0] 26) = y16 at *
                generalize y15.heap.size = g16 at *
                have k16 := hid h0
                clear h0
                refine wpAnyH_ready (rs := [18]) (by kernel_rfl) (by simp) ?_
                refine AllReadyH.cons rfl (fun K hK => ?_) ?_
                · have q0 := cell_of k16.out 0 (.int .i64 0) rfl
                  have f0 := fz_of k16.out 0
                  have q1 := cell_of k16.out 1 (.int .i64 0) rfl
                  have f1 := fz_of k16.out 1
                  have q2 := cell_of k16.out 2 (.int .u64 0) rfl
                  have f2 := fz_of k16.out 2
                  have q3 := cell_of k16.out 3 (.slice none 0 0) rfl
                  have f3 := fz_of k16.out 3
                  have q4 := cell_of k16.out 4 (.slice none 0 0) rfl
                  have f4 := fz_of k16.out 4
                  have P5 := put5 k16.out (.int .i64 E.log) (.int .i64 E.nx) (.int .u64 E.sq) (.slice a7 E.go.length c7) (.slice b7 E.co.length d7)
                  have hS' : Hid (Below w1.heap.size w1 (((((y16.setCell ⟨g16, 0, none⟩ (.int .i64 E.log)).setCell ⟨g16, 1, none⟩ (.int .i64 E.nx)).setCell ⟨g16, 2, none⟩ (.int .u64 E.sq)).setCell ⟨g16, 3, none⟩ (.slice a7 E.go.length c7)).setCell ⟨g16, 4, none⟩ (.slice b7 E.co.length d7))) := ((Fp.of (P := fun j => w1.heap.size ≤ j) hS).tr (P5.2.wide (fun j _ h => .inl (by show w1.heap.size ≤ j; have := hb16.out; omega)))).base (Nat.le_refl _) (fun _ h => h)
                  have EN7 := hid (EO7.out.fp P5.2 (fun j hj e => EO_ne EO7.out k16.out j hj e))
                  have EN15 := hid (EO15.out.fp P5.2 (fun j hj e => EO_ne EO15.out k16.out j hj e))
                  have kn17 := hid ((P5.2.block g17 (blk_lt k17.out) (fun e => by have := ne17_16.out; omega)).trans k17.out)
                  have kn16 := hid P5.1
                  clear P5
                  go_simp
                  refine hK.out _ _ hS'.out (fun hS => ?_)
                  clear hK K hS' q0 q1 q2 q3 q4 f0 f1 f2 f3 f4
                  generalize (((((y16.setCell ⟨g16, 0, none⟩ (.int .i64 E.log)).setCell ⟨g16, 1, none⟩ (.int .i64 E.nx)).setCell ⟨g16, 2, none⟩ (.int .u64 E.sq)).setCell ⟨g16, 3, none⟩ (.slice a7 E.go.length c7)).setCell ⟨g16, 4, none⟩ (.slice b7 E.co.length d7)) = y18 at *
                  clear EO7
                  have EO7 := EN7
                  clear EN7
                  clear EO15
                  have EO15 := EN15
                  clear EN15
                  clear k17
                  have k17 := kn17
                  clear kn17
                  clear k16
                  have k16 := kn16
                  clear kn16
                  refine wpAnyH_ready (rs := [19]) (by kernel_rfl) (by simp) ?_
                  refine AllReadyH.cons rfl (fun K hK => ?_) ?_
                  · have q0 := cell_of k17.out 0 (.int .i64 0) rfl
                    have f0 := fz_of k17.out 0
                    have q1 := cell_of k17.out 1 (.int .i64 0) rfl
                    have f1 := fz_of k17.out 1
                    have q2 := cell_of k17.out 2 (.int .u64 0) rfl
                    have f2 := fz_of k17.out 2
                    have q3 := cell_of k17.out 3 (.slice none 0 0) rfl
                    have f3 := fz_of k17.out 3
                    have q4 := cell_of k17.out 4 (.slice none 0 0) rfl
                    have f4 := fz_of k17.out 4
                    have P5 := put5 k17.out (.int .i64 E.log) (.int .i64 E.nx) (.int .u64 E.sq) (.slice a15 E.go.length c15) (.slice b15 E.co.length d15)
                    have hS' : Hid (Below w1.heap.size w1 (((((y18.setCell ⟨g17, 0, none⟩ (.int .i64 E.log)).setCell ⟨g17, 1, none⟩ (.int .i64 E.nx)).setCell ⟨g17, 2, none⟩ (.int .u64 E.sq)).setCell ⟨g17, 3, none⟩ (.slice a15 E.go.length c15)).setCell ⟨g17, 4, none⟩ (.slice b15 E.co.length d15))) := ((Fp.of (P := fun j => w1.heap.size ≤ j) hS).tr (P5.2.wide (fun j _ h => .inl (by show w1.heap.size ≤ j; have := hb17.out; omega)))).base (Nat.le_refl _) (fun _ h => h)
                    have EN7 := hid (EO7.out.fp P5.2 (fun j hj e => EO_ne EO7.out k17.out j hj e))
                    have EN15 := hid (EO15.out.fp P5.2 (fun j hj e => EO_ne EO15.out k17.out j hj e))
                    have kn16 := hid ((P5.2.block g16 (blk_lt k16.out) (fun e => by have := ne17_16.out; omega)).trans k16.out)
                    have kn17 := hid P5.1
                    clear P5
                    go_simp
                    refine hK.out _ _ hS'.out (fun hS => ?_)
                    clear hK K hS' q0 q1 q2 q3 q4 f0 f1 f2 f3 f4
                    generalize (((((y18.setCell ⟨g17, 0, none⟩ (.int .i64 E.log)).setCell ⟨g17, 1, none⟩ (.int .i64 E.nx)).setCell ⟨g17, 2, none⟩ (.int .u64 E.sq)).setCell ⟨g17, 3, none⟩ (.slice a15 E.go.length c15)).setCell ⟨g17, 4, none⟩ (.slice b15 E.co.length d15)) = y19 at *
                    clear EO7
                    have EO7 := EN7
                    clear EN7
                    clear EO15
                    have EO15 := EN15
                    clear EN15
                    clear k17
                    have k17 := kn17
                    clear kn17
                    clear k16
                    have k16 := kn16
                    clear kn16
                    refine wpAnyH_done (by kernel_rfl) ?_ _
                    go_wp2_with fail
                    go_meet
                    case rel => exact ⟨g16, g17, a7, c7, b7, d7, a15, c15, b15, d15, _, _, rfl, rfl, k16.out, k17.out, EO7.out, EO15.out, lo7.out, up7_15.out, hS⟩
                  exact AllReadyH.nil
                exact AllReadyH.nil
              exact AllReadyH.nil
            refine AllReadyH.cons rfl (fun K hK => ?_) ?_
            · go_simp
              have h0 : (y7.alloc (.cells #[.int .i64 0, .int .i64 0, .int .u64 0, .slice none 0 0, .slice none 0 0] 26)).heap[y7.heap.size]? = some (.cells #[.int .i64 0, .int .i64 0, .int .u64 0, .slice none 0 0, .slice none 0 0] 26) := new_at _ _
              have hb16 : Hid (w1.heap.size ≤ y7.heap.size) := hS.size
              have bb := box_below y7 (.cells #[.int .i64 0, .int .i64 0, .int .u64 0, .slice none 0 0, .slice none 0 0] 26)
              replace EO7 := hid (EO7.out.later bb)
              have ne17_16 : Hid (g17 < y7.heap.size) := blk_lt k17.out
              replace k17 := hid (below_blk k17.out bb)
              have hS' := hid (Below.up hS bb)
              clear bb
              refine hK.out _ _ hS'.out (fun hS => ?_)
              clear hK K hS'
              generalize y7.alloc (.cells #[.int .i64 0, .int .i64 0, .int .u64 0, .slice none 0 0, .slice none 0 0] 26) = y16 at *
              generalize y7.heap.size = g16 at *
              have k16 := hid h0
              clear h0
              refine wpAnyH_ready (rs := [15]) (by kernel_rfl) (by simp) ?_
              refine AllReadyH.cons rfl (fun K hK => ?_) ?_
              · go_simp
                have lo15 : Hid (w1.heap.size ≤ y16.heap.size) := hS.size
                have up7_15 : Hid (∀ j, blks (ev E a7 c7 b7 d7) j → j < y16.heap.size) := fun j h => (EO7.out.lt j h).2
                go_wp2_with fail
                refine (CW.out y16 hS).mono ?_
                rintro e y15 ⟨v15, rfl, EO15, bb15⟩
                obtain ⟨a15, c15, b15, d15, he15⟩ := EO_shape EO15
                subst he15
                replace EO15 := hid EO15
                replace EO7 := hid (EO7.out.later bb15)
                replace k17 := hid (below_blk k17.out bb15)
                replace k16 := hid (below_blk k16.out bb15)
                have hS' := hid (Below.up hS bb15)
                clear bb15
                unfold ev at EO15
                unfold ev
                refine hK.out _ _ hS'.out (fun hS => ?_)
                clear hK K hS'
                refine wpAnyH_ready (rs := [18]) (by kernel_rfl) (by simp) ?_
                refine AllReadyH.cons rfl (fun K hK => ?_) ?_
                · have q0 := cell_of k16.out 0 (.int .i64 0) rfl
                  have f0 := fz_of k16.out 0
                  have q1 := cell_of k16.out 1 (.int .i64 0) rfl
                  have f1 := fz_of k16.out 1
                  have q2 := cell_of k16.out 2 (.int .u64 0) rfl
                  have f2 := fz_of k16.out 2
                  have q3 := cell_of k16.out 3 (.slice none 0 0) rfl
                  have f3 := fz_of k16.out 3
                  have q4 := cell_of k16.out 4 (.slice none 0 0) rfl
                  have f4 := fz_of k16.out 4
                  have P5 := put5 k16.out (.int .i64 E.log) (.int .i64 E.nx) (.int .u64 E.sq) (.slice a7 E.go.length c7) (.slice b7 E.co.length d7)
                  have hS' : Hid (Below w1.heap.size w1 (((((y15.setCell ⟨g16, 0, none⟩ (.int .i64 E.log)).setCell ⟨g16, 1, none⟩ (.int .i64 E.nx)).setCell ⟨g16, 2, none⟩ (.int .u64 E.sq)).setCell ⟨g16, 3, none⟩ (.slice a7 E.go.length c7)).setCell ⟨g16, 4, none⟩ (.slice b7 E.co.length d7))) := ((Fp.of (P := fun j => w1.heap.size ≤ j) hS).tr (P5.2.wide (fun j _ h => .inl (by show w1.heap.size ≤ j; have := hb16.out; omega)))).base (Nat.le_refl _) (fun _ h => h)
                  have EN7 := hid (EO7.out.fp P5.2 (fun j hj e => EO_ne EO7.out k16.out j hj e))
                  have EN15 := hid (EO15.out.fp P5.2 (fun j hj e => EO_ne EO15.out k16.out j hj e))
                  have kn17 := hid ((P5.2.block g17 (blk_lt k17.out) (fun e => by have := ne17_16.out; omega)).trans k17.out)
                  have kn16 := hid P5.1
                  clear P5
                  go_simp
                  refine hK.out _ _ hS'.out (fun hS => ?_)
                  clear hK K hS' q0 q1 q2 q3 q4 f0 f1 f2 f3 f4
                  generalize (((((y15.setCell ⟨g16, 0, none⟩ (.int .i64 E.log)).setCell ⟨g16, 1, none⟩ (.int .i64 E.nx)).setCell ⟨g16, 2, none⟩ (.int .u64 E.sq)).setCell ⟨g16, 3, none⟩ (.slice a7 E.go.length c7)).setCell ⟨g16, 4, none⟩ (.slice b7 E.co.length d7)) = y18 at *
                  clear EO7
                  have EO7 := EN7
                  clear EN7
                  clear EO15
                  have EO15 := EN15
                  clear EN15
                  clear k17
                  have k17 := kn17
                  clear kn17
                  clear k16
                  have k16 := kn16
                  clear kn16
                  refine wpAnyH_ready (rs := [19]) (by kernel_rfl) (by simp) ?_
                  refine AllReadyH.cons rfl (fun K hK => ?_) ?_
                  · have q0 := cell_of k17.out 0 (.int .i64 0) rfl
                    have f0 := fz_of k17.out 0
                    have q1 := cell_of k17.out 1 (.int .i64 0) rfl
                    have f1 := fz_of k17.out 1
                    have q2 := cell_of k17.out 2 (.int .u64 0) rfl
                    have f2 := fz_of k17.out 2
                    have q3 := cell_of k17.out 3 (.slice none 0 0) rfl
                    have f3 := fz_of k17.out 3
                    have q4 := cell_of k17.out 4 (.slice none 0 0) rfl
                    have f4 := fz_of k17.out 4
                    have P5 := put5 k17.out (.int .i64 E.log) (.int .i64 E.nx) (.int .u64 E.sq) (.slice a15 E.go.length c15) (.slice b15 E.co.length d15)
                    have hS' : Hid (Below w1.heap.size w1 (((((y18.setCell ⟨g17, 0, none⟩ (.int .i64 E.log)).setCell ⟨g17, 1, none⟩ (.int .i64 E.nx)).setCell ⟨g17, 2, none⟩ (.int .u64 E.sq)).setCell ⟨g17, 3, none⟩ (.slice a15 E.go.length c15)).setCell ⟨g17, 4, none⟩ (.slice b15 E.co.length d15))) := ((Fp.of (P := fun j => w1.heap.size ≤ j) hS).tr (P5.2.wide (fun j _ h => .inl (by show w1.heap.size ≤ j; have := hb17.out; omega)))).base (Nat.le_refl _) (fun _ h => h)
                    have EN7 := hid (EO7.out.fp P5.2 (fun j hj e => EO_ne EO7.out k17.out j hj e))
                    have EN15 := hid (EO15.out.fp P5.2 (fun j hj e => EO_ne EO15.out k17.out j hj e))
                    have kn16 := hid ((P5.2.block g16 (blk_lt k16.out) (fun e => by have := ne17_16.out; omega)).trans k16.out)
                    have kn17 := hid P5.1
                    clear P5
                    go_simp
                    refine hK.out _ _ hS'.out (fun hS => ?_)
                    clear hK K hS' q0 q1 q2 q3 q4 f0 f1 f2 f3 f4
                    generalize (((((y18.setCell ⟨g17, 0, none⟩ (.int .i64 E.log)).setCell ⟨g17, 1, none⟩ (.int .i64 E.nx)).setCell ⟨g17, 2, none⟩ (.int .u64 E.sq)).setCell ⟨g17, 3, none⟩ (.slice a15 E.go.length c15)).setCell ⟨g17, 4, none⟩ (.slice b15 E.co.length d15)) = y19 at *
                    clear EO7
                    have EO7 := EN7
                    clear EN7
                    clear EO15
                    have EO15 := EN15
                    clear EN15
                    clear k17
                    have k17 := kn17
                    clear kn17
                    clear k16
                    have k16 := kn16
                    clear kn16
                    refine wpAnyH_done (by kernel_rfl) ?_ _
                    go_wp2_with fail
                    go_meet
                    case rel => exact ⟨g16, g17, a7, c7, b7, d7, a15, c15, b15, d15, _, _, rfl, rfl, k16.out, k17.out, EO7.out, EO15.out, lo7.out, up7_15.out, hS⟩
                  exact AllReadyH.nil
                exact AllReadyH.nil
              exact AllReadyH.nil
            exact AllReadyH.nil
          refine AllReadyH.cons rfl (fun K hK => ?_) ?_
          · go_simp
            have h0 : (y17.alloc (.cells #[.int .i64 0, .int .i64 0, .int .u64 0, .slice none 0 0, .slice none 0 0] 26)).heap[y17.heap.size]? = some (.cells #[.int .i64 0, .int .i64 0, .int .u64 0, .slice none 0 0, .slice none 0 0] 26) := new_at _ _
            have hb16 : Hid (w1.heap.size ≤ y17.heap.size) := hS.size
            have bb := box_below y17 (.cells #[.int .i64 0, .int .i64 0, .int .u64 0, .slice none 0 0, .slice none 0 0] 26)
            have ne17_16 : Hid (g17 < y17.heap.size) := blk_lt k17.out
            replace k17 := hid (below_blk k17.out bb)
            have hS' := hid (Below.up hS bb)
            clear bb
            refine hK.out _ _ hS'.out (fun hS => ?_)
            clear hK K hS'
            generalize y17.alloc (.cells #[.int .i64 0, .int .i64 0, .int .u64 0, .slice none 0 0, .slice none 0 0] 26) = y16 at *
            generalize y17.heap.size = g16 at *
            have k16 := hid h0
            clear h0
            refine wpAnyH_ready (rs := [7]) (by kernel_rfl) (by simp) ?_
            refine AllReadyH.cons rfl (fun K hK => ?_) ?_
            · go_simp
              have lo7 : Hid (w1.heap.size ≤ y16.heap.size) := hS.size
              go_wp2_with fail
              refine (CW.out y16 hS).mono ?_
              rintro e y7 ⟨v7, rfl, EO7, bb7⟩
              obtain ⟨a7, c7, b7, d7, he7⟩ := EO_shape EO7
              subst he7
              replace EO7 := hid EO7
              replace k17 := hid (below_blk k17.out bb7)
              replace k16 := hid (below_blk k16.out bb7)
              have hS' := hid (Below.up hS bb7)
              clear bb7
              unfold ev at EO7
              unfold ev
              refine hK.out _ _ hS'.out (fun hS => ?_)
              clear hK K hS'
              refine wpAnyH_ready (rs := [15]) (by kernel_rfl) (by simp) ?_
              refine AllReadyH.cons rfl (fun K hK => ?_) ?_
              · go_simp
                have lo15 : Hid (w1.heap.size ≤ y7.heap.size) := hS.size
                have up7_15 : Hid (∀ j, blks (ev E a7 c7 b7 d7) j → j < y7.heap.size) := fun j h => (EO7.out.lt j h).2
                go_wp2_with fail
                refine (CW.out y7 hS).mono ?_
                rintro e y15 ⟨v15, rfl, EO15, bb15⟩
                obtain ⟨a15, c15, b15, d15, he15⟩ := EO_shape EO15
                subst he15
                replace EO15 := hid EO15
                replace EO7 := hid (EO7.out.later bb15)
                replace k17 := hid (below_blk k17.out bb15)
                replace k16 := hid (below_blk k16.out bb15)
                have hS' := hid (Below.up hS bb15)
                clear bb15
                unfold ev at EO15
                unfold ev
                refine hK.out _ _ hS'.out (fun hS => ?_)
                clear hK K hS'
                refine wpAnyH_ready (rs := [18]) (by kernel_rfl) (by simp) ?_
                refine AllReadyH.cons rfl (fun K hK => ?_) ?_
                · have q0 := cell_of k16.out 0 (.int .i64 0) rfl
                  have f0 := fz_of k16.out 0
                  have q1 := cell_of k16.out 1 (.int .i64 0) rfl
                  have f1 := fz_of k16.out 1
                  have q2 := cell_of k16.out 2 (.int .u64 0) rfl
                  have f2 := fz_of k16.out 2
                  have q3 := cell_of k16.out 3 (.slice none 0 0) rfl
                  have f3 := fz_of k16.out 3
                  have q4 := cell_of k16.out 4 (.slice none 0 0) rfl
                  have f4 := fz_of k16.out 4
                  have P5 := put5 k16.out (.int .i64 E.log) (.int .i64 E.nx) (.int .u64 E.sq) (.slice a7 E.go.length c7) (.slice b7 E.co.length d7)
                  have hS' : Hid (Below w1.heap.size w1 (((((y15.setCell ⟨g16, 0, none⟩ (.int .i64 E.log)).setCell ⟨g16, 1, none⟩ (.int .i64 E.nx)).setCell ⟨g16, 2, none⟩ (.int .u64 E.sq)).setCell ⟨g16, 3, none⟩ (.slice a7 E.go.length c7)).setCell ⟨g16, 4, none⟩ (.slice b7 E.co.length d7))) := ((Fp.of (P := fun j => w1.heap.size ≤ j) hS).tr (P5.2.wide (fun j _ h => .inl (by show w1.heap.size ≤ j; have := hb16.out; omega)))).base (Nat.le_refl _) (fun _ h => h)
                  have EN7 := hid (EO7.out.fp P5.2 (fun j hj e => EO_ne EO7.out k16.out j hj e))
                  have EN15 := hid (EO15.out.fp P5.2 (fun j hj e => EO_ne EO15.out k16.out j hj e))
                  have kn17 := hid ((P5.2.block g17 (blk_lt k17.out) (fun e => by have := ne17_16.out; omega)).trans k17.out)
                  have kn16 := hid P5.1
                  clear P5
                  go_simp
                  refine hK.out _ _ hS'.out (fun hS => ?_)
                  clear hK K hS' q0 q1 q2 q3 q4 f0 f1 f2 f3 f4
                  generalize (((((y15.setCell ⟨g16, 0, none⟩ (.int .i64 E.log)).setCell ⟨g16, 1, none⟩ (.int .i64 E.nx)).setCell ⟨g16, 2, none⟩ (.int .u64 E.sq)).setCell ⟨g16, 3, none⟩ (.slice a7 E.go.length c7)).setCell ⟨g16, 4, none⟩ (.slice b7 E.co.length d7)) = y18 at *
                  clear EO7
                  have EO7 := EN7
                  clear EN7
                  clear EO15
                  have EO15 := EN15
                  clear EN15
                  clear k17
                  have k17 := kn17
                  clear kn17
                  clear k16
                  have k16 := kn16
                  clear kn16
                  refine wpAnyH_ready (rs := [19]) (by kernel_rfl) (by simp) ?_
                  refine AllReadyH.cons rfl (fun K hK => ?_) ?_
                  · have q0 := cell_of k17.out 0 (.int .i64 0) rfl
                    have f0 := fz_of k17.out 0
                    have q1 := cell_of k17.out 1 (.int .i64 0) rfl
                    have f1 := fz_of k17.out 1
                    have q2 := cell_of k17.out 2 (.int .u64 0) rfl
                    have f2 := fz_of k17.out 2
                    have q3 := cell_of k17.out 3 (.slice none 0 0) rfl
                    have f3 := fz_of k17.out 3
                    have q4 := cell_of k17.out 4 (.slice none 0 0) rfl
                    have f4 := fz_of k17.out 4
                    have P5 := put5 k17.out (.int .i64 E.log) (.int .i64 E.nx) (.int .u64 E.sq) (.slice a15 E.go.length c15) (.slice b15 E.co.length d15)
                    have hS' : Hid (Below w1.heap.size w1 (((((y18.setCell ⟨g17, 0, none⟩ (.int .i64 E.log)).setCell ⟨g17, 1, none⟩ (.int .i64 E.nx)).setCell ⟨g17, 2, none⟩ (.int .u64 E.sq)).setCell ⟨g17, 3, none⟩ (.slice a15 E.go.length c15)).setCell ⟨g17, 4, none⟩ (.slice b15 E.co.length d15))) := ((Fp.of (P := fun j => w1.heap.size ≤ j) hS).tr (P5.2.wide (fun j _ h => .inl (by show w1.heap.size ≤ j; have := hb17.out; omega)))).base (Nat.le_refl _) (fun _ h => h)
                    have EN7 := hid (EO7.out.fp P5.2 (fun j hj e => EO_ne EO7.out k17.out j hj e))
                    have EN15 := hid (EO15.out.fp P5.2 (fun j hj e => EO_ne EO15.out k17.out j hj e))
                    have kn16 := hid ((P5.2.block g16 (blk_lt k16.out) (fun e => by have := ne17_16.out; omega)).trans k16.out)
                    have kn17 := hid P5.1
                    clear P5
                    go_simp
                    refine hK.out _ _ hS'.out (fun hS => ?_)
                    clear hK K hS' q0 q1 q2 q3 q4 f0 f1 f2 f3 f4
                    generalize (((((y18.setCell ⟨g17, 0, none⟩ (.int .i64 E.log)).setCell ⟨g17, 1, none⟩ (.int .i64 E.nx)).setCell ⟨g17, 2, none⟩ (.int .u64 E.sq)).setCell ⟨g17, 3, none⟩ (.slice a15 E.go.length c15)).setCell ⟨g17, 4, none⟩ (.slice b15 E.co.length d15)) = y19 at *
                    clear EO7
                    have EO7 := EN7
                    clear EN7
                    clear EO15
                    have EO15 := EN15
                    clear EN15
                    clear k17
                    have k17 := kn17
                    clear kn17
                    clear k16
                    have k16 := kn16
                    clear kn16
                    refine wpAnyH_done (by kernel_rfl) ?_ _
                    go_wp2_with fail
                    go_meet
                    case rel => exact ⟨g16, g17, a7, c7, b7, d7, a15, c15, b15, d15, _, _, rfl, rfl, k16.out, k17.out, EO7.out, EO15.out, lo7.out, up7_15.out, hS⟩
                  exact AllReadyH.nil
                exact AllReadyH.nil
              exact AllReadyH.nil
            exact AllReadyH.nil
          exact AllReadyH.nil
        exact AllReadyH.nil
      case rest =>
        obtain ⟨g7, g8, a7, c7, b7, d7, a8, c8, b8, d8, u7_, u8_, rfl, rfl, k7, k8, O7, O8, hu7, hu8, B2⟩ := hcut
        obtain ⟨w2, hw2⟩ : ∃ W, W = wc := ⟨_, rfl⟩
        rw [← hw2] at k7 k8 O7 O8 B2 ⊢
        clear hw2 wc
        have BW2 := hid (Below.up BW1.out B2)
        have kn := below_blk KN.out B2
        have n0 := cell_of kn 0 _ rfl
        have n1 := cell_of kn 1 _ rfl
        have n2 := cell_of kn 2 _ rfl
        have hlo7 : Hid (∀ j, blks (ev E a7 c7 b7 d7) j → w1.heap.size ≤ j) := fun j h => Nat.le_trans hu7 (O7.lt j h).1
        have hlt7 : Hid (∀ j, blks (ev E a7 c7 b7 d7) j → j < w2.heap.size) := fun j h => (O7.lt j h).2
        have hlo8 : Hid (∀ j, blks (ev E a8 c8 b8 d8) j → u8_ ≤ j) := fun j h => (O8.lt j h).1
        have HR := hid (CR.out w2 BW2.out)
        have B12 := hid B2
        replace k7 := hid k7
        replace k8 := hid k8
        replace O7 := hid O7
        replace O8 := hid O8
        replace hu7 := hid hu7
        replace hu8 := hid hu8
        clear kn B2 CW CR CWh
        go_wp2_with fail
        refine HR.out.mono ?_
        rintro e w3 ⟨v9, rfl, O9, b3⟩
        obtain ⟨a9, c9, b9, d9, he9⟩ := EO_shape O9
        subst he9
        have hlo9 : Hid (∀ j, blks (ev E a9 c9 b9 d9) j → w2.heap.size ≤ j) := fun j h => (O9.lt j h).1
        have m7 := below_blk k7.out b3
        have y70 := cell_of m7 0 _ rfl
        have y71 := cell_of m7 1 _ rfl
        have y72 := cell_of m7 2 _ rfl
        have y73 := cell_of m7 3 _ rfl
        have y74 := cell_of m7 4 _ rfl
        have l7 : g7 < w3.heap.size := blk_lt m7
        obtain ⟨w4, hw4⟩ : ∃ W, W = w3.alloc (.cells #[.int .i64 E.log, .int .i64 E.nx, .int .u64 E.sq, .slice a9 E.go.length c9, .slice b9 E.co.length d9] 26) := ⟨_, rfl⟩
        have bb4 : Below w3.heap.size w3 w4 := by rw [hw4]; exact box_below _ _
        have k9 : w4.heap[w3.heap.size]? = some (.cells #[.int .i64 E.log, .int .i64 E.nx, .int .u64 E.sq, .slice a9 E.go.length c9, .slice b9 E.co.length d9] 26) := by rw [hw4]; exact new_at _ _
        have B24 := Below.up b3 bb4
        have O74 := hid (O7.out.later B24)
        have O84 := hid (O8.out.later B24)
        have O94 := hid (O9.later bb4)
        have k74 := hid (below_blk k7.out B24)
        have k84 := hid (below_blk k8.out B24)
        have B14 := hid (Below.up B12.out B24)
        have HS := hid (same_any _ _ E w4 O74.out.ev O94.out.ev)
        replace k9 := hid k9
        replace hw4 := hid hw4
        replace O9 := hid O9
        clear m7 b3 bb4 B24 n0 n1 n2 HR
        unfold ev
        unfold ev at HS
        go_wp2_with fail
        rw [← hw4.out]
        refine HS.out.mono ?_
        rintro e w5 ⟨rfl, b5'⟩
        have m7 := below_blk k74.out b5'
        have z70 := cell_of m7 0 _ rfl
        have z71 := cell_of m7 1 _ rfl
        have z72 := cell_of m7 2 _ rfl
        have z73 := cell_of m7 3 _ rfl
        have z74 := cell_of m7 4 _ rfl
        have O75 := O74.out.later b5'
        have HSp := hid (spoil_any _ E _ w5 O75)
        have k85 := hid (below_blk k84.out b5')
        have k95 := hid (below_blk k9.out b5')
        have O85 := hid (O84.out.later b5')
        have O95 := hid (O94.out.later b5')
        have B15 := hid (Below.up B14.out b5')
        replace O75 := hid O75
        unfold ev at HSp
        clear m7 b5' y70 y71 y72 y73 y74 l7
        go_wp2_with fail
        refine HSp.out.mono ?_
        rintro e w6 ⟨⟨_, rfl⟩, F6⟩
        have ne8 := EO_ne O75.out k85.out
        have ne9 := EO_ne O75.out k95.out
        have k86 := hid ((F6.block g8 (blk_lt k85.out) (fun h => ne8 _ h rfl)).trans k85.out)
        have k96 := hid ((F6.block w3.heap.size (blk_lt k95.out) (fun h => ne9 _ h rfl)).trans k95.out)
        have O86 := hid (O85.out.fp F6 (fun j h h' => by have h1 := hlo8.out j h; have h2 := hu8.out j h'; omega))
        have O96 := hid (O95.out.fp F6 (fun j h h' => by have h1 := hlo9.out j h; have h2 := hlt7.out j h'; omega))
        have B16 : Below w1.heap.size w1 w6 := ((Fp.of (P := fun j => w1.heap.size ≤ j) B15.out).tr (F6.wide (fun j _ h => .inl (hlo7.out j h)))).base (Nat.le_refl _) (fun _ h => h)
        have HI6 := hid (HI.out w6 B16)
        have BW6 := hid (Below.up BW1.out B16)
        have HL6 := hid (HL.out w6 BW6.out)
        clear F6 ne8 ne9 B16 z70 z71 z72 z73 z74
        obtain ⟨g9, hg9⟩ : ∃ g, g = w3.heap.size := ⟨_, rfl⟩
        rw [← hg9] at k96 ⊢
        replace hg9 := hid hg9
        go_wp2_with fail
        --STOP2
        go_loopw [10] (fun ii wr => ∃ m : Nat, ii = .int .i64 m ∧ m ≤ i ∧ ∃ qn, wr = w6.drewN qn) (fun ii _ => i - (intOf ii).toNat)
        case atStart => exact ⟨0, rfl, by omega, 0, rfl⟩
        case round =>
          obtain ⟨m, rfl, hm, qn, rfl⟩ := hrel
          by_cases hlt2 : m < i
          · obtain ⟨lb, lof, la, ln, lc, rfl, cl, FS, hln⟩ := HL6.out.at m hlt2
            obtain ⟨ib, iof, na, nn, nc, rfl, cl', FS', hln'⟩ := HI6.out.at m hlt2
            have hll := hls.out m hlt2
            obtain ⟨fs, hfs⟩ : ∃ fs, fs = L.getD m [] := ⟨_, rfl⟩
            rw [← hfs] at FS FS' hln hln' hll
            have hnn : nn = ln := by rw [hln, hln']
            subst hnn
            have ik0 : (m : Int) < (i : Int) := by omega
            have ok0 : (0 : Int) ≤ (m : Int) := by omega
            rw [← hln] at hll
            replace hfs := hid hfs
            replace hln := hid hln
            replace hln' := hid hln'
            replace FS := hid FS
            replace FS' := hid FS'
            go_wp2_with fail
            go_loopw [11] (fun jj wr => ∃ j : Nat, jj = .int .i64 j ∧ j ≤ nn ∧ ∃ qm, wr = w6.drewN qm) (fun jj _ => nn - (intOf jj).toNat)
            case atStart => exact ⟨0, rfl, by omega, qn, rfl⟩
            case round =>
              obtain ⟨j, rfl, hj, qm, rfl⟩ := hrel
              by_cases hlt3 : j < nn
              · cases la with
                | none => have := (FS.out.nil rfl).1; omega
                | some ad =>
                  cases na with
                  | none => have := (FS'.out.nil rfl).1; omega
                  | some bd' =>
                    obtain ⟨p, off, sp⟩ := ad
                    obtain ⟨p', off', sp'⟩ := bd'
                    obtain ⟨rfl, hat⟩ := FS.out.cells p off sp rfl (by omega)
                    obtain ⟨rfl, hat'⟩ := FS'.out.cells p' off' sp' rfl (by omega)
                    have hat := fi_at (hat j hlt3)
                    have hat' := fi_at (hat' j hlt3)
                    have hlc := FS.out.c
                    have hlc' := FS'.out.c
                    generalize fs.getD j eFi.z = y at hat hat'
                    obtain ⟨yn, yz, ya, yb, yo, yh⟩ := y
                    obtain ⟨e2, e3, e4, e5, e6, e7⟩ := hat
                    obtain ⟨f2, f3, f4, f5, f6, f7⟩ := hat'
                    simp only [show eFi.k = 6 from rfl] at e2 e3 e4 e5 e6 e7 f2 f3 f4 f5 f6 f7
                    have ik1 : (j : Int) < (nn : Int) := by omega
                    have ok1 : (0 : Int) ≤ (j : Int) := by omega
                    go_wp2_with fail
                    go_quiet (fail)
                    go_wp2_with fail
                    go_roundw
                    case rel => exact ⟨j + 1, by go_num, by omega, qm + nq, rfl⟩
                    case measure => simp [intOf]; omega
              · go_wp2_with fail
                go_roundw
                case rel => exact ⟨m + 1, by go_num, by omega, qm, rfl⟩
                case measure => simp [intOf]; omega
          · have bq := drewN_below w6 qn
            have k8q := below_blk k86.out bq
            have k9q := below_blk k96.out bq
            have HSy := hid (same_any _ _ E (w6.drewN qn) (O86.out.later bq).ev (O96.out.later bq).ev)
            have BF := hid (Below.up BW6.out bq)
            have p80 := cell_of k8q 0 _ rfl
            have p90 := cell_of k9q 0 _ rfl
            have p81 := cell_of k8q 1 _ rfl
            have p91 := cell_of k9q 1 _ rfl
            have p82 := cell_of k8q 2 _ rfl
            have p92 := cell_of k9q 2 _ rfl
            have p83 := cell_of k8q 3 _ rfl
            have p93 := cell_of k9q 3 _ rfl
            have p84 := cell_of k8q 4 _ rfl
            have p94 := cell_of k9q 4 _ rfl
            clear k8q k9q bq
            unfold ev at HSy
            go_wp2_with fail
            refine HSy.out.mono ?_
            rintro e w7 ⟨rfl, b7'⟩
            have BG := hid (Below.up BF.out b7')
            clear b7' p80 p81 p82 p83 p84 p90 p91 p92 p93 p94
            go_wp2_with fail
            go_ret
            exact ⟨rfl, BG.out⟩
end Go.Proofs.Ytnpeocoipodmfaa.Ew

/- edit.Whole and the document's Whole by their contracts. -/
import Derived.Test.YtnpeocoipodmfaaLv
import Derived.Test.YtnpeocoipodmfaaMr
namespace Go.Proofs.Ytnpeocoipodmfaa.Wh
open Go.ChangeShapes Go.WideShapes Go.ChangeAt Go.RowKit
open Go.Proofs.Ytnpeocoipodmfaa.Gr
open Go.Proofs.Ytnpeocoipodmfaa.Ev
open Go.Proofs.Ytnpeocoipodmfaa.Ss
open Go.Proofs.Ytnpeocoipodmfaa.Le
open Go.Proofs.Ytnpeocoipodmfaa.Mg (below_grown own_grown)
open Go.Proofs.Ytnpeocoipodmfaa.Mh (row_any)
open Go.Proofs.Ytnpeocoipodmfaa.Mr (set_grown wp_append_run)
open Go.Proofs.Ytnpeocoipodmfaa.Oe
open Go.Proofs.Ytnpeocoipodmfaa.Lv
set_option linter.unusedVariables false
set_option linter.unusedSimpArgs false

/-- What Whole's memory holds. -/
structure Wt (w : World) (gr go base : Nat) (R : Array Value) (o0 o1 o2 : Value) (W : World) (v5 : Value) (ys : List Ad) : Prop where
  r : W.heap[gr]? = some (.cells R 26)
  o : W.heap[go]? = some (.cells #[o0, o1, o2, .slice none 0 0, v5] 26)
  y : eAd.Own W base v5 ys
  lo : Below w.heap.size w W
  d : w.heap.size ≤ gr ∧ gr < go ∧ go < base ∧ base ≤ W.heap.size
section
variable {w : World} {gr go base : Nat} {R : Array Value} {o0 o1 o2 : Value} {W : World} {v5 : Value} {ys : List Ad}
theorem Wt.later (h : Wt w gr go base R o0 o1 o2 W v5 ys) {W' : World} (b : Below W.heap.size W W') : Wt w gr go base R o0 o1 o2 W' v5 ys :=
  ⟨below_blk h.r b, below_blk h.o b, h.y.later b, Below.up h.lo b, by have := h.d; have := b.size; omega⟩
theorem Wt.app5 (h : Wt w gr go base R o0 o1 o2 W v5 ys) (v' : Value) (W' : World) (ys' : List Ad) (ho : eAd.Own W' base v' ys') (hg : W.grownBy W' v5.ownBlock) :
    Wt w gr go base R o0 o1 o2 (W'.setCell ⟨go, 4, none⟩ v') v' ys' ∧ W'.heap[go]? = some (.cells #[o0, o1, o2, .slice none 0 0, v5] 26) := by
  have d := h.d
  have hne : ∀ j, v5.ownBlock = some j → base ≤ j := fun j hj => (own_lt h.y j hj).1
  have ko := grown_blk h.o hg (by intro j hj e; have := hne j hj; omega)
  have G := set_grown W' go 4 v'
  refine ⟨⟨?_, (set_of ko 4 v').trans rfl, ?_, ?_, ?_⟩, ko⟩
  · exact grown_blk (grown_blk h.r hg (by intro j hj e; have := hne j hj; omega)) G (by rintro j e; cases e; omega)
  · exact own_grown ho G (by rintro j e k; cases e; have := (own_lt ho _ k).1; omega)
  · exact below_grown (below_grown h.lo hg (by intro j hj; have := hne j hj; omega)) G (by rintro j e; cases e; omega)
  · have := hg.size; simp; omega
end
theorem wh_ok {w : World} {a : Option Addr} {len cap : Nat} {L : List (List Fi)} (H : Lvs w a len cap L) (hn : len ≤ 1048576) : ∀ x ∈ wh 0 L, x.ok := by
  have key : ∀ i, i ≤ len → ∀ x ∈ wh 0 (L.take i), x.ok := by
    intro i
    induction i with
    | zero => intro _ x hx; simp [wh] at hx
    | succ i ih =>
      intro hi x hx
      rw [wh_succ (by rw [H.len_eq]; omega)] at hx
      rcases List.mem_append.1 hx with h | h
      · exact ih (by omega) x h
      · obtain ⟨f, hf, rfl⟩ := List.mem_map.1 h
        obtain ⟨_, _, _, _, _, _, _, hs, _⟩ := H.at i (by omega)
        exact ⟨⟨by show (-9223372036854775808 : Int) ≤ (i : Int); omega, by show (i : Int) ≤ 9223372036854775807; omega⟩, hs.ok f hf⟩
  have := key len (Nat.le_refl _)
  rwa [← H.len_eq, List.take_length] at this
set_option maxHeartbeats 4000000 in
set_option maxRecDepth 100000 in
theorem whole_any (a : Option Addr) (len cap : Nat) (L : List (List Fi)) (l n q : Int) (w : World) (H : Lvs w a len cap L) (hw : wL L ≤ 1048576) (hb : bd l ∧ bd n ∧ bu q) :
    Calls Try.prog 20 #[.slice a len cap, .int .i64 l, .int .i64 n, .int .u64 q] w fun e w' => ∃ v', e = .returned v' ∧ EO w' w.heap.size v' ⟨l, n, q, [], wh 0 L⟩ ∧ Below w.heap.size w w' := by
  have hll := wL_len L
  have hlen := H.len_eq
  have hcap := H.cap_le
  obtain ⟨gr, hgr⟩ : ∃ m, w.heap.size = m := ⟨_, rfl⟩
  obtain ⟨go, hgo⟩ : ∃ m, gr + 1 = m := ⟨_, rfl⟩
  obtain ⟨base, hbase⟩ : ∃ m, go + 1 = m := ⟨_, rfl⟩
  obtain ⟨W0, hW0⟩ : ∃ W, W = (w.alloc (.cells #[.int .i64 0, .int .i64 0, .int .u64 0, .slice none 0 0, .slice none 0 0] 26)).alloc (.cells #[.int .i64 l, .int .i64 n, .int .u64 q, .slice none 0 0, .slice none 0 0] 26) := ⟨_, rfl⟩
  have S0 : Wt w gr go base #[.int .i64 0, .int .i64 0, .int .u64 0, .slice none 0 0, .slice none 0 0] (.int .i64 l) (.int .i64 n) (.int .u64 q) W0 (.slice none 0 0) (wh 0 (L.take 0)) := by
    have b1 := box_below w (.cells #[.int .i64 0, .int .i64 0, .int .u64 0, .slice none 0 0, .slice none 0 0] 26)
    have k1 := new_at w (.cells #[.int .i64 0, .int .i64 0, .int .u64 0, .slice none 0 0, .slice none 0 0] 26)
    have s1 := size_alloc w (.cells #[.int .i64 0, .int .i64 0, .int .u64 0, .slice none 0 0, .slice none 0 0] 26)
    rw [hW0]
    generalize w.alloc (.cells #[.int .i64 0, .int .i64 0, .int .u64 0, .slice none 0 0, .slice none 0 0] 26) = W1 at *
    have b2 := box_below W1 (.cells #[.int .i64 l, .int .i64 n, .int .u64 q, .slice none 0 0, .slice none 0 0] 26)
    have k2 := new_at W1 (.cells #[.int .i64 l, .int .i64 n, .int .u64 q, .slice none 0 0, .slice none 0 0] 26)
    have s2 := size_alloc W1 (.cells #[.int .i64 l, .int .i64 n, .int .u64 q, .slice none 0 0, .slice none 0 0] 26)
    rw [hgr] at k1
    rw [show W1.heap.size = go by omega] at k2
    exact ⟨below_blk k1 b2, k2, El.Own.nil _ _ _, Below.up b1 b2, by omega⟩
  have HL : Hid (∀ W, Below w.heap.size w W → Lvs W a len cap L) := fun W b => H.later b
  have hok := hid (wh_ok H (by omega))
  replace S0 := hid S0
  replace hW0 := hid hW0
  replace hgr := hid hgr
  replace hgo := hid hgo
  replace hbase := hid hbase
  replace hb := hid hb
  replace hw := hid hw
  have hn8 : len ≤ 1048576 := by have := hw.out; omega
  replace hlen := hid hlen
  clear H hll
  go_enter Try.func20, Try.ntmps20
  go_wp2_with fail
  rw [← hW0.out, hgr.out, hgo.out]
  go_loopw [20] (fun ii wr => ∃ i : Nat, ii = .int .i64 i ∧ i ≤ len ∧ ∃ v5, Wt w gr go base #[.int .i64 0, .int .i64 0, .int .u64 0, .slice none 0 0, .slice none 0 0] (.int .i64 l) (.int .i64 n) (.int .u64 q) wr v5 (wh 0 (L.take i))) (fun ii _ => len - (intOf ii).toNat)
  case atStart => exact ⟨0, rfl, by omega, _, S0.out⟩
  case round =>
    clear S0
    obtain ⟨i, rfl, hi, v5, M⟩ := hrel
    by_cases hlt : i < len
    · obtain ⟨lb, lof, la, ln, lc, rfl, cl, FS, hln⟩ := (HL.out wr M.lo).at i hlt
      have ik0 : (i : Int) < (len : Int) := by omega
      have ok0 : (0 : Int) ≤ (i : Int) := by omega
      have hsum := wL_at (L := L) (i := i) (by rw [hlen.out]; exact hlt)
      have hwl : Hid ((wh 0 (L.take i)).length + ln ≤ 1048576) := by
        show _ ≤ _
        have h1 := wh_len (L.take i) 0
        have := hw.out; omega
      have hwn := hid (wh_succ (L := L) (i := i) (by rw [hlen.out]; exact hlt))
      obtain ⟨fs, hfs⟩ : ∃ fs, fs = L.getD i [] := ⟨_, rfl⟩
      rw [← hfs] at FS hln hwn
      obtain ⟨Y, hY⟩ : ∃ Y, Y = wh 0 (L.take i) := ⟨_, rfl⟩
      rw [← hY] at M hwl hwn
      have HFS : Hid (∀ W, Below w.heap.size w W → ∀ (_ : Lvs W (some ⟨lb, lof, none⟩) len cap L), W.cell? ⟨lb, lof + i, none⟩ = some (.slice la ln lc) → eFi.Sl W la ln lc fs) := by
        intro W b HW hc
        obtain ⟨b2, o2, la2, ln2, lc2, e1, e2, e3, _⟩ := HW.at i hlt
        cases e1
        rw [hc] at e2
        cases e2
        rw [hfs]; exact e3
      have hcl : Hid (∀ W, Below w.heap.size w W → W.cell? ⟨lb, lof + i, none⟩ = some (.slice la ln lc)) := by
        intro W b
        have h0 : w.cell? ⟨lb, lof + i, none⟩ = some (.slice la ln lc) := by
          obtain ⟨b2, o2, la2, ln2, lc2, e1, e2, e3, _⟩ := (HL.out w (Below.refl _ _)).at i hlt
          cases e1
          have h1 := (M.lo.cell (block_lt_of_cell e2)).trans e2
          rw [cl] at h1
          rw [h1]; exact e2
        exact (b.cell (block_lt_of_cell h0)).trans h0
      have M0 := hid M
      replace hfs := hid hfs
      replace hY := hid hY
      replace FS := hid FS
      have hn9 : ln ≤ 1048576 := by have := hwl.out; omega
      replace hln := hid hln
      replace hsum := hid hsum
      clear M
      go_wp2_with fail
      clear cl
      go_loopw [27] (fun jj wr => ∃ j : Nat, jj = .int .i64 j ∧ j ≤ ln ∧ ∃ v5, Wt w gr go base #[.int .i64 0, .int .i64 0, .int .u64 0, .slice none 0 0, .slice none 0 0] (.int .i64 l) (.int .i64 n) (.int .u64 q) wr v5 (Y ++ (fs.take j).map (fun f => ⟨(i : Int), f⟩))) (fun jj _ => ln - (intOf jj).toNat)
      case atStart => exact ⟨0, rfl, by omega, _, by simpa using M0.out⟩
      case round =>
        clear M0
        obtain ⟨j, rfl, hj, v5, M⟩ := hrel
        have FS := HFS.out wr M.lo (HL.out wr M.lo) (hcl.out wr M.lo)
        skip
        by_cases hlt2 : j < ln
        · cases la with
          | none => have := (FS.nil rfl).1; omega
          | some ad =>
            obtain ⟨p, off, sp⟩ := ad
            obtain ⟨rfl, hat⟩ := FS.cells p off sp rfl (by omega)
            have hat0 := hat j hlt2
            have hat := fi_at hat0
            have hlc := FS.c
            obtain ⟨y, hy⟩ : ∃ y, y = fs.getD j eFi.z := ⟨_, rfl⟩
            rw [← hy] at hat hat0
            obtain ⟨en, ez, ea, eb, elo, ehi⟩ := y
            obtain ⟨e2, e3, e4, e5, e6, e7⟩ := hat
            simp only [show eFi.k = 6 from rfl] at e2 e3 e4 e5 e6 e7
            have ik1 : (j : Int) < (ln : Int) := by omega
            have ok1 : (0 : Int) ≤ (j : Int) := by omega
            have htk : Hid (Y ++ (fs.take (j + 1)).map (fun f => (⟨(i : Int), f⟩ : Ad)) = Y ++ (fs.take j).map (fun f => ⟨(i : Int), f⟩) ++ [⟨(i : Int), ⟨en, ez, ea, eb, elo, ehi⟩⟩]) := by show _ = _; rw [El.take_snoc (E := eFi) (by rw [← hln.out]; exact hlt2), ← hy, List.map_append, List.append_assoc]; rfl
            have hlen9 : (Y ++ (fs.take j).map (fun f => (⟨(i : Int), f⟩ : Ad))).length ≤ 1048576 := by have := hwl.out; rw [List.length_append, List.length_map, List.length_take]; omega
            replace hy := hid hy
            obtain ⟨W8, hW8⟩ : ∃ W, W = wr.alloc (.cells #[.int .i64 en, .int .i64 ez, .string ea, .string eb, .int .u64 elo, .int .u64 ehi] 51) := ⟨_, rfl⟩
            have M8 := M.later (show Below wr.heap.size wr W8 by rw [hW8]; exact box_below _ _)
            have s8 : W8.heap.size = wr.heap.size + 1 := by rw [hW8]; exact size_alloc _ _
            have l4 := cell_of M8.o 4 _ rfl
            obtain ⟨ua, un, uc, rfl⟩ := row_any M8.y
            obtain ⟨v9, W9, r9, o9, w9, q9⟩ := El.app1 eAd W8 base _ _ ⟨(i : Int), ⟨en, ez, ea, eb, elo, ehi⟩⟩ #[.int .i64 (i : Int), .int .i64 en, .int .i64 ez, .string ea, .string eb, .int .u64 elo, .int .u64 ehi] rfl M8.y (by show (_ + 1) * 72 ≤ _; omega) (by omega) (by have := M8.d; omega)
            rw [← htk.out] at o9
            obtain ⟨va9, vn9, vc9, rfl⟩ := row_any o9
            obtain ⟨M9, kg9⟩ := M8.app5 _ W9 _ o9 w9
            have z3 := cell_of kg9 4 _ rfl
            have f3 := fz_of kg9 4
            rw [s8] at r9
            rw [hW8] at r9 l4
            simp only [show eAd.st = 24 from rfl, show eAd.et = 60 from rfl] at r9
            replace r9 := hid r9
            replace M9 := hid M9
            replace M := hid M
            replace FS := hid FS
            replace hat0 := hid hat0
            clear M8 s8 o9 w9 q9 kg9 hW8 hat
            go_wp2_with (first | (at_builtin; refine wpList_append_run rfl (.tmp 32) (.tmp 36) 24 24 rfl (.slice ua un uc) (.slice (some ⟨wr.heap.size + 1, 0, none⟩) 1 1) (.slice va9 vn9 vc9) rfl rfl r9.out ?_))
            go_roundw
            case rel => exact ⟨j + 1, by go_num, by omega, _, M9.out⟩
            case measure => simp [intOf]; omega
        · have hje : j = ln := by omega
          subst hje
          rw [show fs.take j = fs by rw [hln.out, List.take_length], ← hwn.out] at M
          replace M := hid M
          replace FS := hid FS
          go_wp2_with fail
          go_roundw
          case rel => exact ⟨i + 1, by go_num, by omega, _, M.out⟩
          case measure => simp [intOf]; omega
    · have hie : i = len := by omega
      subst hie
      rw [show L.take i = L by rw [← hlen.out, List.take_length]] at M
      obtain ⟨ua, un, uc, rfl⟩ := row_any M.y
      have P5 := put5 M.r (.int .i64 l) (.int .i64 n) (.int .u64 q) (.slice none 0 0) (.slice ua un uc)
      obtain ⟨WB, hWB⟩ : ∃ WB, WB = ((((wr.setCell ⟨gr, 0, none⟩ (.int .i64 l)).setCell ⟨gr, 1, none⟩ (.int .i64 n)).setCell ⟨gr, 2, none⟩ (.int .u64 q)).setCell ⟨gr, 3, none⟩ (.slice none 0 0)).setCell ⟨gr, 4, none⟩ (.slice ua un uc) := ⟨_, rfl⟩
      rw [← hWB] at P5
      have dd := M.d
      have y0 := cell_of M.o 0 _ rfl
      have s0 := cell_of M.r 0 _ rfl
      have t0 := fz_of M.r 0
      have y1 := cell_of M.o 1 _ rfl
      have s1 := cell_of M.r 1 _ rfl
      have t1 := fz_of M.r 1
      have y2 := cell_of M.o 2 _ rfl
      have s2 := cell_of M.r 2 _ rfl
      have t2 := fz_of M.r 2
      have y3 := cell_of M.o 3 _ rfl
      have s3 := cell_of M.r 3 _ rfl
      have t3 := fz_of M.r 3
      have y4 := cell_of M.o 4 _ rfl
      have s4 := cell_of M.r 4 _ rfl
      have t4 := fz_of M.r 4
      have E2 : un = (wh 0 L).length := by obtain ⟨_, _, e⟩ := row_block M.y; cases e; rfl
      have OY : eAd.Own WB base (.slice ua un uc) (wh 0 L) := own_blocks M.y (fun j hj => P5.2.block j (own_lt M.y j hj).2 (fun e => by have := (own_lt M.y j hj).1; omega))
      have BB : Hid (Below w.heap.size w WB) := ((Fp.of (P := fun j => w.heap.size ≤ j) M.lo).tr (P5.2.wide (fun j _ h => .inl (by show w.heap.size ≤ j; omega)))).base (Nat.le_refl _) (fun _ h => h)
      have EE : Hid (EO WB w.heap.size (.agg #[.int .i64 l, .int .i64 n, .int .u64 q, .slice none 0 0, .slice ua un uc]) ⟨l, n, q, [], wh 0 L⟩) := by
        refine ⟨⟨hb.out.1, hb.out.2.1, hb.out.2.2, by show (0 : Nat) ≤ _; omega, ?_⟩, ?_, hok.out, none, 0, ua, uc, ?_, El.Own.nil _ _ _, ?_⟩
        · show (wh 0 L).length ≤ _
          have := wh_len L 0; have := hw.out; omega
        · intro x hx; simp at hx
        · rw [E2]; rfl
        · show eAd.Own WB w.heap.size (.slice ua (wh 0 L).length uc) (wh 0 L)
          rw [← E2]
          exact own_base OY (fun j hj => by have := (own_lt OY j hj).1; omega)
      have KK := hid P5.1
      rw [hWB] at BB EE KK
      have ngr : gr ≠ go := by omega
      have ngr' : go ≠ gr := by omega
      clear M P5 dd OY E2 hWB
      go_wp2_with fail
      have KG := KK.out
      have BG := BB.out
      have EG := EE.out
      generalize (((((wr.setCell ⟨gr, 0, none⟩ (.int .i64 l)).setCell ⟨gr, 1, none⟩ (.int .i64 n)).setCell ⟨gr, 2, none⟩ (.int .u64 q)).setCell ⟨gr, 3, none⟩ (.slice none 0 0)).setCell ⟨gr, 4, none⟩ (.slice ua un uc)) = WG at *
      have q0 := cell_of KG 0 _ rfl
      have q1 := cell_of KG 1 _ rfl
      have q2 := cell_of KG 2 _ rfl
      have q3 := cell_of KG 3 _ rfl
      have q4 := cell_of KG 4 _ rfl
      exact bodyPost_ret (v := .agg #[.int .i64 l, .int .i64 n, .int .u64 q, .slice none 0 0, .slice ua un uc]) (by simp [results, Try.results20, go_sem, q0, q1, q2, q3, q4]) rfl ⟨_, rfl, EG, BG⟩
set_option maxHeartbeats 4000000 in
set_option maxRecDepth 100000 in
theorem rwhole_any (a : Option Addr) (len cap : Nat) (L : List (List Fi)) (l n q : Int) (w : World) (H : Lvs w a len cap L) (hw : wL L ≤ 1048576) (hb : bd l ∧ bd n ∧ bu q) :
    Calls Try.prog 21 #[.slice a len cap, .int .i64 l, .int .i64 n, .int .u64 q] w fun e w' => ∃ v', e = .returned v' ∧ EO w' w.heap.size v' ⟨l, n, q, [], wh 0 L⟩ ∧ Below w.heap.size w w' := by
  have hll := wL_len L
  have hlen := H.len_eq
  have hcap := H.cap_le
  obtain ⟨gr, hgr⟩ : ∃ m, w.heap.size = m := ⟨_, rfl⟩
  obtain ⟨go, hgo⟩ : ∃ m, gr + 1 = m := ⟨_, rfl⟩
  obtain ⟨base, hbase⟩ : ∃ m, go + 1 = m := ⟨_, rfl⟩
  obtain ⟨W0, hW0⟩ : ∃ W, W = (w.alloc (.cells #[.int .i64 0, .int .i64 0, .int .u64 0, .slice none 0 0, .slice none 0 0] 26)).alloc (.cells #[.int .i64 l, .int .i64 n, .int .u64 q, .slice none 0 0, .slice none 0 0] 26) := ⟨_, rfl⟩
  have S0 : Wt w gr go base #[.int .i64 0, .int .i64 0, .int .u64 0, .slice none 0 0, .slice none 0 0] (.int .i64 l) (.int .i64 n) (.int .u64 q) W0 (.slice none 0 0) (wh 0 (L.take 0)) := by
    have b1 := box_below w (.cells #[.int .i64 0, .int .i64 0, .int .u64 0, .slice none 0 0, .slice none 0 0] 26)
    have k1 := new_at w (.cells #[.int .i64 0, .int .i64 0, .int .u64 0, .slice none 0 0, .slice none 0 0] 26)
    have s1 := size_alloc w (.cells #[.int .i64 0, .int .i64 0, .int .u64 0, .slice none 0 0, .slice none 0 0] 26)
    rw [hW0]
    generalize w.alloc (.cells #[.int .i64 0, .int .i64 0, .int .u64 0, .slice none 0 0, .slice none 0 0] 26) = W1 at *
    have b2 := box_below W1 (.cells #[.int .i64 l, .int .i64 n, .int .u64 q, .slice none 0 0, .slice none 0 0] 26)
    have k2 := new_at W1 (.cells #[.int .i64 l, .int .i64 n, .int .u64 q, .slice none 0 0, .slice none 0 0] 26)
    have s2 := size_alloc W1 (.cells #[.int .i64 l, .int .i64 n, .int .u64 q, .slice none 0 0, .slice none 0 0] 26)
    rw [hgr] at k1
    rw [show W1.heap.size = go by omega] at k2
    exact ⟨below_blk k1 b2, k2, El.Own.nil _ _ _, Below.up b1 b2, by omega⟩
  have HL : Hid (∀ W, Below w.heap.size w W → Lvs W a len cap L) := fun W b => H.later b
  have hok := hid (wh_ok H (by omega))
  replace S0 := hid S0
  replace hW0 := hid hW0
  replace hgr := hid hgr
  replace hgo := hid hgo
  replace hbase := hid hbase
  replace hb := hid hb
  replace hw := hid hw
  have hn8 : len ≤ 1048576 := by have := hw.out; omega
  replace hlen := hid hlen
  clear H hll
  go_enter Try.func21, Try.ntmps21
  go_wp2_with fail
  rw [← hW0.out, hgr.out, hgo.out]
  go_loopw [10] (fun ii wr => ∃ i : Nat, ii = .int .i64 i ∧ i ≤ len ∧ ∃ v5, Wt w gr go base #[.int .i64 0, .int .i64 0, .int .u64 0, .slice none 0 0, .slice none 0 0] (.int .i64 l) (.int .i64 n) (.int .u64 q) wr v5 (wh 0 (L.take i))) (fun ii _ => len - (intOf ii).toNat)
  case atStart => exact ⟨0, rfl, by omega, _, S0.out⟩
  case round =>
    clear S0
    obtain ⟨i, rfl, hi, v5, M⟩ := hrel
    by_cases hlt : i < len
    · obtain ⟨lb, lof, la, ln, lc, rfl, cl, FS, hln⟩ := (HL.out wr M.lo).at i hlt
      have ik0 : (i : Int) < (len : Int) := by omega
      have ok0 : (0 : Int) ≤ (i : Int) := by omega
      have hsum := wL_at (L := L) (i := i) (by rw [hlen.out]; exact hlt)
      have hwl : Hid ((wh 0 (L.take i)).length + ln ≤ 1048576) := by
        show _ ≤ _
        have h1 := wh_len (L.take i) 0
        have := hw.out; omega
      have hwn := hid (wh_succ (L := L) (i := i) (by rw [hlen.out]; exact hlt))
      obtain ⟨fs, hfs⟩ : ∃ fs, fs = L.getD i [] := ⟨_, rfl⟩
      rw [← hfs] at FS hln hwn
      obtain ⟨Y, hY⟩ : ∃ Y, Y = wh 0 (L.take i) := ⟨_, rfl⟩
      rw [← hY] at M hwl hwn
      have HFS : Hid (∀ W, Below w.heap.size w W → ∀ (_ : Lvs W (some ⟨lb, lof, none⟩) len cap L), W.cell? ⟨lb, lof + i, none⟩ = some (.slice la ln lc) → eFi.Sl W la ln lc fs) := by
        intro W b HW hc
        obtain ⟨b2, o2, la2, ln2, lc2, e1, e2, e3, _⟩ := HW.at i hlt
        cases e1
        rw [hc] at e2
        cases e2
        rw [hfs]; exact e3
      have hcl : Hid (∀ W, Below w.heap.size w W → W.cell? ⟨lb, lof + i, none⟩ = some (.slice la ln lc)) := by
        intro W b
        have h0 : w.cell? ⟨lb, lof + i, none⟩ = some (.slice la ln lc) := by
          obtain ⟨b2, o2, la2, ln2, lc2, e1, e2, e3, _⟩ := (HL.out w (Below.refl _ _)).at i hlt
          cases e1
          have h1 := (M.lo.cell (block_lt_of_cell e2)).trans e2
          rw [cl] at h1
          rw [h1]; exact e2
        exact (b.cell (block_lt_of_cell h0)).trans h0
      have M0 := hid M
      replace hfs := hid hfs
      replace hY := hid hY
      replace FS := hid FS
      have hn9 : ln ≤ 1048576 := by have := hwl.out; omega
      replace hln := hid hln
      replace hsum := hid hsum
      clear M
      go_wp2_with fail
      clear cl
      go_loopw [11] (fun jj wr => ∃ j : Nat, jj = .int .i64 j ∧ j ≤ ln ∧ ∃ v5, Wt w gr go base #[.int .i64 0, .int .i64 0, .int .u64 0, .slice none 0 0, .slice none 0 0] (.int .i64 l) (.int .i64 n) (.int .u64 q) wr v5 (Y ++ (fs.take j).map (fun f => ⟨(i : Int), f⟩))) (fun jj _ => ln - (intOf jj).toNat)
      case atStart => exact ⟨0, rfl, by omega, _, by simpa using M0.out⟩
      case round =>
        clear M0
        obtain ⟨j, rfl, hj, v5, M⟩ := hrel
        have FS := HFS.out wr M.lo (HL.out wr M.lo) (hcl.out wr M.lo)
        have cl := hcl.out wr M.lo
        by_cases hlt2 : j < ln
        · cases la with
          | none => have := (FS.nil rfl).1; omega
          | some ad =>
            obtain ⟨p, off, sp⟩ := ad
            obtain ⟨rfl, hat⟩ := FS.cells p off sp rfl (by omega)
            have hat0 := hat j hlt2
            have hat := fi_at hat0
            have hlc := FS.c
            obtain ⟨y, hy⟩ : ∃ y, y = fs.getD j eFi.z := ⟨_, rfl⟩
            rw [← hy] at hat hat0
            obtain ⟨en, ez, ea, eb, elo, ehi⟩ := y
            obtain ⟨e2, e3, e4, e5, e6, e7⟩ := hat
            simp only [show eFi.k = 6 from rfl] at e2 e3 e4 e5 e6 e7
            have ik1 : (j : Int) < (ln : Int) := by omega
            have ok1 : (0 : Int) ≤ (j : Int) := by omega
            have htk : Hid (Y ++ (fs.take (j + 1)).map (fun f => (⟨(i : Int), f⟩ : Ad)) = Y ++ (fs.take j).map (fun f => ⟨(i : Int), f⟩) ++ [⟨(i : Int), ⟨en, ez, ea, eb, elo, ehi⟩⟩]) := by show _ = _; rw [El.take_snoc (E := eFi) (by rw [← hln.out]; exact hlt2), ← hy, List.map_append, List.append_assoc]; rfl
            have hlen9 : (Y ++ (fs.take j).map (fun f => (⟨(i : Int), f⟩ : Ad))).length ≤ 1048576 := by have := hwl.out; rw [List.length_append, List.length_map, List.length_take]; omega
            replace hy := hid hy
            have MD := M.later (drew_below wr)
            have eD := fi_at (El.At.later hat0 (drew_below wr))
            simp only [show eFi.k = 6 from rfl] at eD
            have clD : wr.drew.cell? ⟨lb, lof + i, none⟩ = some (.slice (some ⟨p, off, none⟩) ln lc) := hcl.out _ MD.lo
            replace FS := hid FS
            replace hat0 := hid hat0
            replace M := hid M
            replace MD := hid MD
            go_wp2_with fail
            generalize hD : World.drew wr = D at *
            replace hD := hid hD
            replace MD := MD.out
            clear e2 e3 e4 e5 e6 e7 cl
            obtain ⟨e2, e3, e4, e5, e6, e7⟩ := eD
            obtain ⟨ua, un, uc, rfl⟩ := row_any MD.y
            have l3 := cell_of MD.o 4 _ rfl
            have MA := MD.later (box_below D (.cells #[.int .i64 (i : Int), .int .i64 en, .int .i64 ez, .string ea, .string eb, .int .u64 elo, .int .u64 ehi] 60))
            have l3' := cell_of MA.o 4 _ rfl
            clear MA
            obtain ⟨v9, W9, r9, o9, w9, q9⟩ := El.app1 eAd D base _ _ ⟨(i : Int), ⟨en, ez, ea, eb, elo, ehi⟩⟩ #[.int .i64 (i : Int), .int .i64 en, .int .i64 ez, .string ea, .string eb, .int .u64 elo, .int .u64 ehi] rfl MD.y (by show (_ + 1) * 72 ≤ _; omega) (by omega) (by have := MD.d; omega)
            rw [← htk.out] at o9
            obtain ⟨va9, vn9, vc9, rfl⟩ := row_any o9
            obtain ⟨M9, kg9⟩ := MD.app5 _ W9 _ o9 w9
            have z3 := cell_of kg9 4 _ rfl
            have f3 := fz_of kg9 4
            simp only [show eAd.st = 24 from rfl, show eAd.et = 60 from rfl] at r9
            replace r9 := hid r9
            replace M9 := hid M9
            clear MD o9 w9 q9 kg9
            refine wp_region_any (by kernel_rfl) ?_
            change wpAny _ _ _ _ _ _ _ (World.drew _)
            rw [hD.out]
            refine wpAny_take (i := 0) (v := ?v1) rfl (by kernel_rfl) (by kernel_rfl) (by kernel_rfl) (fun _ _ _ h => h) (Or.inl ⟨by rfl, ?h1⟩) ?_
            case h1 => (intro w; go_simp; try (with_reducible rfl))
            go_simp
            refine wpAny_take (i := 2) (v := ?v2) rfl (by kernel_rfl) (by kernel_rfl) (by kernel_rfl) (fun _ _ _ h => h) (Or.inl ⟨by rfl, ?h2⟩) ?_
            case h2 => (intro w; go_simp; try (with_reducible rfl))
            go_simp
            refine wpAny_take (i := 3) (v := ?v3) rfl (by kernel_rfl) (by kernel_rfl) (by kernel_rfl) (fun _ _ _ h => h) (Or.inl ⟨by rfl, ?h3⟩) ?_
            case h3 => (intro w; go_simp; try (with_reducible rfl))
            go_simp
            refine wpAny_take (i := 4) (v := ?v4) rfl (by kernel_rfl) (by kernel_rfl) (by kernel_rfl) (fun _ _ _ h => h) (Or.inl ⟨by rfl, ?h4⟩) ?_
            case h4 => (intro w; go_simp; try (with_reducible rfl))
            go_simp
            refine wpAny_take (i := 5) (v := ?v5) rfl (by kernel_rfl) (by kernel_rfl) (by kernel_rfl) (fun _ _ _ h => h) (Or.inl ⟨by rfl, ?h5⟩) ?_
            case h5 => (intro w; go_simp; try (with_reducible rfl))
            go_simp
            refine wpAny_take (i := 7) (v := ?v6) rfl (by kernel_rfl) (by kernel_rfl) (by kernel_rfl) (fun _ _ _ h => h) (Or.inl ⟨by rfl, ?h6⟩) ?_
            case h6 => (intro w; go_simp; try (with_reducible rfl))
            go_simp
            refine wpAny_ready (rs := [1, 6]) (by kernel_rfl) (by simp) ?_
            refine AllReady.cons rfl (fun K hK => ?_) ?_
            · go_simp
              refine hK _ _ ?_
              clear hK K
              refine wpAny_ready (rs := [6]) (by kernel_rfl) (by simp) ?_
              refine AllReady.cons rfl (fun K hK => ?_) ?_
              · go_simp
                refine hK _ _ ?_
                clear hK K
                refine wpAny_take (i := 8) (v := ?v7) rfl (by kernel_rfl) (by kernel_rfl) (by kernel_rfl) (fun _ _ _ h => h) (Or.inl ⟨by rfl, ?h7⟩) ?_
                case h7 => (intro w; go_simp; try (with_reducible rfl))
                go_simp
                refine wpAny_ready (rs := [9]) (by kernel_rfl) (by simp) ?_
                refine AllReady.cons rfl (fun K hK => ?_) ?_
                · go_simp
                  refine hK _ _ ?_
                  clear hK K
                  refine wpAny_take (i := 10) (v := ?v8) rfl (by kernel_rfl) (by kernel_rfl) (by kernel_rfl) (fun _ _ _ h => h) (Or.inl ⟨by rfl, ?h8⟩) ?_
                  case h8 => (intro w; go_simp; try (with_reducible rfl))
                  go_simp
                  refine wpAny_ready (rs := [11]) (by kernel_rfl) (by simp) ?_
                  refine AllReady.cons rfl (fun K hK => ?_) ?_
                  · go_simp
                    refine hK _ _ ?_
                    clear hK K
                    refine wpAny_ready (rs := [12]) (by kernel_rfl) (by simp) ?_
                    refine AllReady.cons rfl (fun K hK => ?_) ?_
                    · refine wp_append_run (.tmp 32) (.tmp 42) 24 24 rfl (.slice ua un uc) (.slice (some ⟨D.heap.size, 0, none⟩) 1 1) (.slice va9 vn9 vc9) (by go_simp) (by go_simp) r9.out ?_
                      go_simp
                      refine hK _ _ ?_
                      clear hK K
                      refine wpAny_take (i := 13) (v := ?v9) rfl (by kernel_rfl) (by kernel_rfl) (by kernel_rfl) (fun _ _ _ h => h) (Or.inl ⟨by rfl, ?h9⟩) ?_
                      case h9 => (intro w; go_simp; try (with_reducible rfl))
                      go_simp
                      refine wpAny_ready (rs := [14]) (by kernel_rfl) (by simp) ?_
                      refine AllReady.cons rfl (fun K hK => ?_) ?_
                      · go_simp
                        refine hK _ _ ?_
                        clear hK K
                        refine wpAny_done (by kernel_rfl) ?_ _
                        go_wp2_with fail
                        go_roundw
                        case rel => exact ⟨j + 1, by go_num, by omega, _, M9.out⟩
                        case measure => simp [intOf]; omega
                      exact AllReady.nil
                    exact AllReady.nil
                  exact AllReady.nil
                exact AllReady.nil
              exact AllReady.nil
            refine AllReady.cons rfl (fun K hK => ?_) ?_
            · go_simp
              refine hK _ _ ?_
              clear hK K
              refine wpAny_take (i := 8) (v := ?v10) rfl (by kernel_rfl) (by kernel_rfl) (by kernel_rfl) (fun _ _ _ h => h) (Or.inl ⟨by rfl, ?h10⟩) ?_
              case h10 => (intro w; go_simp; try (with_reducible rfl))
              go_simp
              refine wpAny_ready (rs := [1, 9]) (by kernel_rfl) (by simp) ?_
              refine AllReady.cons rfl (fun K hK => ?_) ?_
              · go_simp
                refine hK _ _ ?_
                clear hK K
                refine wpAny_ready (rs := [9]) (by kernel_rfl) (by simp) ?_
                refine AllReady.cons rfl (fun K hK => ?_) ?_
                · go_simp
                  refine hK _ _ ?_
                  clear hK K
                  refine wpAny_take (i := 10) (v := ?v11) rfl (by kernel_rfl) (by kernel_rfl) (by kernel_rfl) (fun _ _ _ h => h) (Or.inl ⟨by rfl, ?h11⟩) ?_
                  case h11 => (intro w; go_simp; try (with_reducible rfl))
                  go_simp
                  refine wpAny_ready (rs := [11]) (by kernel_rfl) (by simp) ?_
                  refine AllReady.cons rfl (fun K hK => ?_) ?_
                  · go_simp
                    refine hK _ _ ?_
                    clear hK K
                    refine wpAny_ready (rs := [12]) (by kernel_rfl) (by simp) ?_
                    refine AllReady.cons rfl (fun K hK => ?_) ?_
                    · refine wp_append_run (.tmp 32) (.tmp 42) 24 24 rfl (.slice ua un uc) (.slice (some ⟨D.heap.size, 0, none⟩) 1 1) (.slice va9 vn9 vc9) (by go_simp) (by go_simp) r9.out ?_
                      go_simp
                      refine hK _ _ ?_
                      clear hK K
                      refine wpAny_take (i := 13) (v := ?v12) rfl (by kernel_rfl) (by kernel_rfl) (by kernel_rfl) (fun _ _ _ h => h) (Or.inl ⟨by rfl, ?h12⟩) ?_
                      case h12 => (intro w; go_simp; try (with_reducible rfl))
                      go_simp
                      refine wpAny_ready (rs := [14]) (by kernel_rfl) (by simp) ?_
                      refine AllReady.cons rfl (fun K hK => ?_) ?_
                      · go_simp
                        refine hK _ _ ?_
                        clear hK K
                        refine wpAny_done (by kernel_rfl) ?_ _
                        go_wp2_with fail
                        go_roundw
                        case rel => exact ⟨j + 1, by go_num, by omega, _, M9.out⟩
                        case measure => simp [intOf]; omega
                      exact AllReady.nil
                    exact AllReady.nil
                  exact AllReady.nil
                exact AllReady.nil
              refine AllReady.cons rfl (fun K hK => ?_) ?_
              · go_simp
                refine hK _ _ ?_
                clear hK K
                refine wpAny_take (i := 10) (v := ?v13) rfl (by kernel_rfl) (by kernel_rfl) (by kernel_rfl) (fun _ _ _ h => h) (Or.inl ⟨by rfl, ?h13⟩) ?_
                case h13 => (intro w; go_simp; try (with_reducible rfl))
                go_simp
                refine wpAny_ready (rs := [1, 11]) (by kernel_rfl) (by simp) ?_
                refine AllReady.cons rfl (fun K hK => ?_) ?_
                · go_simp
                  refine hK _ _ ?_
                  clear hK K
                  refine wpAny_ready (rs := [11]) (by kernel_rfl) (by simp) ?_
                  refine AllReady.cons rfl (fun K hK => ?_) ?_
                  · go_simp
                    refine hK _ _ ?_
                    clear hK K
                    refine wpAny_ready (rs := [12]) (by kernel_rfl) (by simp) ?_
                    refine AllReady.cons rfl (fun K hK => ?_) ?_
                    · refine wp_append_run (.tmp 32) (.tmp 42) 24 24 rfl (.slice ua un uc) (.slice (some ⟨D.heap.size, 0, none⟩) 1 1) (.slice va9 vn9 vc9) (by go_simp) (by go_simp) r9.out ?_
                      go_simp
                      refine hK _ _ ?_
                      clear hK K
                      refine wpAny_take (i := 13) (v := ?v14) rfl (by kernel_rfl) (by kernel_rfl) (by kernel_rfl) (fun _ _ _ h => h) (Or.inl ⟨by rfl, ?h14⟩) ?_
                      case h14 => (intro w; go_simp; try (with_reducible rfl))
                      go_simp
                      refine wpAny_ready (rs := [14]) (by kernel_rfl) (by simp) ?_
                      refine AllReady.cons rfl (fun K hK => ?_) ?_
                      · go_simp
                        refine hK _ _ ?_
                        clear hK K
                        refine wpAny_done (by kernel_rfl) ?_ _
                        go_wp2_with fail
                        go_roundw
                        case rel => exact ⟨j + 1, by go_num, by omega, _, M9.out⟩
                        case measure => simp [intOf]; omega
                      exact AllReady.nil
                    exact AllReady.nil
                  exact AllReady.nil
                refine AllReady.cons rfl (fun K hK => ?_) ?_
                · go_simp
                  refine hK _ _ ?_
                  clear hK K
                  refine wpAny_ready (rs := [1]) (by kernel_rfl) (by simp) ?_
                  refine AllReady.cons rfl (fun K hK => ?_) ?_
                  · go_simp
                    refine hK _ _ ?_
                    clear hK K
                    refine wpAny_ready (rs := [12]) (by kernel_rfl) (by simp) ?_
                    refine AllReady.cons rfl (fun K hK => ?_) ?_
                    · refine wp_append_run (.tmp 32) (.tmp 42) 24 24 rfl (.slice ua un uc) (.slice (some ⟨D.heap.size, 0, none⟩) 1 1) (.slice va9 vn9 vc9) (by go_simp) (by go_simp) r9.out ?_
                      go_simp
                      refine hK _ _ ?_
                      clear hK K
                      refine wpAny_take (i := 13) (v := ?v15) rfl (by kernel_rfl) (by kernel_rfl) (by kernel_rfl) (fun _ _ _ h => h) (Or.inl ⟨by rfl, ?h15⟩) ?_
                      case h15 => (intro w; go_simp; try (with_reducible rfl))
                      go_simp
                      refine wpAny_ready (rs := [14]) (by kernel_rfl) (by simp) ?_
                      refine AllReady.cons rfl (fun K hK => ?_) ?_
                      · go_simp
                        refine hK _ _ ?_
                        clear hK K
                        refine wpAny_done (by kernel_rfl) ?_ _
                        go_wp2_with fail
                        go_roundw
                        case rel => exact ⟨j + 1, by go_num, by omega, _, M9.out⟩
                        case measure => simp [intOf]; omega
                      exact AllReady.nil
                    exact AllReady.nil
                  exact AllReady.nil
                exact AllReady.nil
              exact AllReady.nil
            exact AllReady.nil
        · have hje : j = ln := by omega
          subst hje
          rw [show fs.take j = fs by rw [hln.out, List.take_length], ← hwn.out] at M
          replace M := hid M
          replace FS := hid FS
          go_wp2_with fail
          go_roundw
          case rel => exact ⟨i + 1, by go_num, by omega, _, M.out⟩
          case measure => simp [intOf]; omega
    · have hie : i = len := by omega
      subst hie
      rw [show L.take i = L by rw [← hlen.out, List.take_length]] at M
      obtain ⟨ua, un, uc, rfl⟩ := row_any M.y
      have P5 := put5 M.r (.int .i64 l) (.int .i64 n) (.int .u64 q) (.slice none 0 0) (.slice ua un uc)
      obtain ⟨WB, hWB⟩ : ∃ WB, WB = ((((wr.setCell ⟨gr, 0, none⟩ (.int .i64 l)).setCell ⟨gr, 1, none⟩ (.int .i64 n)).setCell ⟨gr, 2, none⟩ (.int .u64 q)).setCell ⟨gr, 3, none⟩ (.slice none 0 0)).setCell ⟨gr, 4, none⟩ (.slice ua un uc) := ⟨_, rfl⟩
      rw [← hWB] at P5
      have dd := M.d
      have y0 := cell_of M.o 0 _ rfl
      have s0 := cell_of M.r 0 _ rfl
      have t0 := fz_of M.r 0
      have y1 := cell_of M.o 1 _ rfl
      have s1 := cell_of M.r 1 _ rfl
      have t1 := fz_of M.r 1
      have y2 := cell_of M.o 2 _ rfl
      have s2 := cell_of M.r 2 _ rfl
      have t2 := fz_of M.r 2
      have y3 := cell_of M.o 3 _ rfl
      have s3 := cell_of M.r 3 _ rfl
      have t3 := fz_of M.r 3
      have y4 := cell_of M.o 4 _ rfl
      have s4 := cell_of M.r 4 _ rfl
      have t4 := fz_of M.r 4
      have E2 : un = (wh 0 L).length := by obtain ⟨_, _, e⟩ := row_block M.y; cases e; rfl
      have OY : eAd.Own WB base (.slice ua un uc) (wh 0 L) := own_blocks M.y (fun j hj => P5.2.block j (own_lt M.y j hj).2 (fun e => by have := (own_lt M.y j hj).1; omega))
      have BB : Hid (Below w.heap.size w WB) := ((Fp.of (P := fun j => w.heap.size ≤ j) M.lo).tr (P5.2.wide (fun j _ h => .inl (by show w.heap.size ≤ j; omega)))).base (Nat.le_refl _) (fun _ h => h)
      have EE : Hid (EO WB w.heap.size (.agg #[.int .i64 l, .int .i64 n, .int .u64 q, .slice none 0 0, .slice ua un uc]) ⟨l, n, q, [], wh 0 L⟩) := by
        refine ⟨⟨hb.out.1, hb.out.2.1, hb.out.2.2, by show (0 : Nat) ≤ _; omega, ?_⟩, ?_, hok.out, none, 0, ua, uc, ?_, El.Own.nil _ _ _, ?_⟩
        · show (wh 0 L).length ≤ _
          have := wh_len L 0; have := hw.out; omega
        · intro x hx; simp at hx
        · rw [E2]; rfl
        · show eAd.Own WB w.heap.size (.slice ua (wh 0 L).length uc) (wh 0 L)
          rw [← E2]
          exact own_base OY (fun j hj => by have := (own_lt OY j hj).1; omega)
      have KK := hid P5.1
      rw [hWB] at BB EE KK
      have ngr : gr ≠ go := by omega
      have ngr' : go ≠ gr := by omega
      clear M P5 dd OY E2 hWB
      go_wp2_with fail
      have KG := KK.out
      have BG := BB.out
      have EG := EE.out
      generalize (((((wr.setCell ⟨gr, 0, none⟩ (.int .i64 l)).setCell ⟨gr, 1, none⟩ (.int .i64 n)).setCell ⟨gr, 2, none⟩ (.int .u64 q)).setCell ⟨gr, 3, none⟩ (.slice none 0 0)).setCell ⟨gr, 4, none⟩ (.slice ua un uc)) = WG at *
      have q0 := cell_of KG 0 _ rfl
      have q1 := cell_of KG 1 _ rfl
      have q2 := cell_of KG 2 _ rfl
      have q3 := cell_of KG 3 _ rfl
      have q4 := cell_of KG 4 _ rfl
      exact bodyPost_ret (v := .agg #[.int .i64 l, .int .i64 n, .int .u64 q, .slice none 0 0, .slice ua un uc]) (by simp [results, Try.results21, go_sem, q0, q1, q2, q3, q4]) rfl ⟨_, rfl, EG, BG⟩
end Go.Proofs.Ytnpeocoipodmfaa.Wh

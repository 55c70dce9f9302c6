/- BlockBack walked. -/
import Derived.Test.YtkanjbeijoeenaaRa
import Derived.Test.YtkanjbeijoeenaaBu
namespace Go.Proofs.Ytkanjbeijoeenaa.Bk
open Go.ChangeShapes Go.WideShapes Go.ChangeAt Go.RowKit
open Go.Sort (grow)
open Go.Proofs.Ytkanjbeijoeenaa.By
open Go.Proofs.Ytkanjbeijoeenaa.Bl
open Go.Proofs.Ytkanjbeijoeenaa.Bn
open Go.Proofs.Ytkanjbeijoeenaa.Bp (row_of)
open Go.Proofs.Ytkanjbeijoeenaa.Bm
open Go.Proofs.Ytkanjbeijoeenaa.Bb
open Go.Proofs.Ytkanjbeijoeenaa.Bu
open Go.Proofs.Ytkanjbeijoeenaa.Ra
open Go.Proofs.Ytkanjbeijoeenaa.Cu
open Go.Proofs.Ytkanjbeijoeenaa.Oi (wts)
open Go.Proofs.Ytkanjbeijoeenaa.Mb (hid box_below blk_lt new_at size_alloc cell_of fz_of set_of set_ne Fp gw own_blocks own_lt E ze At4 Ents OwnE OwnE.ents drew_below drewN_below)
set_option linter.unusedVariables false
set_option linter.unusedSimpArgs false

theorem back_no (r : Int) (a : Option Addr) (len cap : Nat) (w : World) (h : r < 1 ∨ 64 < r) : Calls Try.prog 6 #[.int .i64 r, .slice a len cap] w fun e w' => e = .returned (.bool true) ∧ w' = w := by
  by_cases h1 : r < 1
  · clear h
    go_enter Try.func6, Try.ntmps6
    go_wp2
    go_ret
    exact ⟨rfl, rfl⟩
  · have h2 : 64 < r := by omega
    clear h
    go_enter Try.func6, Try.ntmps6
    go_wp2
    go_ret
    exact ⟨rfl, rfl⟩
/-- Entries that lie outside the cursor's block stay. -/
theorem ents_fp {w w' : World} {gc : Nat} {a : Option Addr} {n c : Nat} {xs : List E} (h : Ents w a n c xs) (f : Fp (fun j => j = gc) w w') (hne : ∀ x, a = some x → x.block ≠ gc) : Ents w' a n c xs := by
  refine ⟨h.1, h.2.1, h.2.2.1, h.2.2.2.1, fun b o p hp hl => ⟨(h.2.2.2.2 b o p hp hl).1, fun i hi => ?_⟩⟩
  obtain ⟨a0, a1, a2, a3⟩ := (h.2.2.2.2 b o p hp hl).2 i hi
  have e : w'.heap[b]? = w.heap[b]? := f.block b (block_lt_of_cell a0) (hne _ hp)
  unfold World.cell? at a0 a1 a2 a3
  unfold At4 World.cell?
  rw [e]
  exact ⟨a0, a1, a2, a3⟩
theorem own_cap {w : World} {base e size n : Nat} {a : Option Addr} {m c : Nat} {xs : List Value} (h : w.ownsRow base e size (.slice a m c) n xs) : c ≤ 9223372036854775807 := by
  rcases h.2 with ⟨h1, _⟩ | ⟨g, c', cur, h1, h2, h3, h4, h5, _⟩
  · cases h1; omega
  · cases h1; unfold maxLen at h5; omega
/-- What the law holds behind Open. -/
structure Ob (w : World) (r : Nat) (T : List E) (w3 : World) (gc : Nat) (ea : Option Addr) (ec : Nat) (ha : Option Addr) (hc : Nat) : Prop where
  cb : Cb w3 gc ea T.length ec 0
  es : Ents w3 ea T.length ec T
  en : ∀ x, ea = some x → x.block ≠ gc
  hs : Ents w3 ha T.length hc T
  hn : ∀ x, ha = some x → x.block ≠ gc
  lo : w.heap.size ≤ gc
  bw : Below w.heap.size w w3
theorem at_in {N k : Nat} (h : k < N) : at1 N ((k : Int) + 1) = true := by unfold at1; exact decide_eq_true (by omega)
theorem at_out {N : Nat} {i : Int} (h : i < 1 ∨ (N : Int) < i) : at1 N i = false := by unfold at1; exact decide_eq_false (by omega)
theorem open_built (r : Nat) (hr : 1 ≤ r ∧ r ≤ 64) (T : List E) (hg : Gd T) (hok : ∀ x ∈ T, x.ok) (hwt : wts T ≤ 2000000) (v : Value) (n0 : Nat) (w : World) (H : OwnB w n0 v (blk (bst r T))) :
    Calls Try.prog 18 #[v] w fun e w' => ∃ gc ea ec, e = .returned (.tuple #[.pointer (some ⟨gc, 0, none⟩), .int .i64 0]) ∧ Cb w' gc ea T.length ec 0 ∧ Ents w' ea T.length ec T ∧ (∀ x, ea = some x → x.block ≠ gc) ∧ w.heap.size ≤ gc ∧ Below w.heap.size w w' := by
  have hl := blk_len (bst r T)
  unfold bsz at hl
  have h1 := bst_ent r T
  have h2 := bst_cnt r T
  have h3 := wts_len T
  obtain ⟨ge, c, rfl, hR⟩ := row_of H (by intro e; rw [e] at hl; simp at hl)
  have hby : ∀ y ∈ blk (bst r T), 0 ≤ y ∧ y ≤ 255 := by
    intro y hy
    unfold blk at hy
    rcases List.mem_append.1 hy with hy | hy
    · rcases List.mem_append.1 hy with hy | hy
      · exact ent_bytes r T (fun x hx => ⟨(hok x hx).1, (hok x hx).2.2.2⟩) y hy
      · obtain ⟨p, _, hp⟩ := List.mem_flatMap.1 hy
        exact lb_bytes 4 _ y hp
    · exact lb_bytes 4 _ y hy
  exact open_ok r hr T hg hok hwt ge 0 _ c w (hR.bytes hby) (own_cap hR) (by omega)
set_option maxRecDepth 100000 in
set_option maxHeartbeats 8000000 in
theorem back_yes (r : Nat) (a : Option Addr) (len cap : Nat) (ls : List E) (w : World) (HL : Ents w a len cap ls) (hr : 1 ≤ r ∧ r ≤ 64) (hsz : wts ls ≤ 2000000) :
    Calls Try.prog 6 #[.int .i64 (r : Int), .slice a len cap] w fun e w' => e = .returned (.bool true) ∧ Below w.heap.size w w' := by
  have r1 : ¬ (r : Int) < 1 := by omega
  have r2 : ¬ 64 < (r : Int) := by omega
  have HB1 := hid (built_any r a len cap ls w HL hr hsz)
  have hgd := took_gd ls (fun x hx => (HL.2.2.2.1 x hx).2.1.1)
  have hok := took_ok ls HL.2.2.2.1
  have hwt := Nat.le_trans (took_wts ls) hsz
  have hnb : (took ls).length ≤ 2000000 := by have := wts_len (took ls); omega
  replace hr := hid hr
  clear HL hsz
  generalize hT : took ls = T at *
  replace hgd := hid hgd
  replace hok := hid hok
  replace hwt := hid hwt
  replace hT := hid hT
  go_enter Try.func6, Try.ntmps6
  go_wp2_with fail
  refine HB1.out.mono ?_
  rintro e w1 ⟨v1, vh1, rfl, o1, e1, b1⟩
  have HO := hid (open_built r hr.out T hgd.out hok.out hwt.out v1 _ w1 o1)
  obtain ⟨ha, hc, rfl, hH1⟩ := OwnE.ents e1 hok.out
  have hH0 : Hid (∀ x, ha = some x → x.block < w1.heap.size) := by
    intro x hx
    rcases e1.2 with ⟨h1, _⟩ | ⟨g', c', cur, h1, h2, h3, h4⟩
    · rw [hx] at h1; cases h1
    · rw [hx] at h1; cases h1
      exact (Array.getElem?_eq_some_iff.1 h3).1
  replace b1 := hid b1
  replace hH1 := hid hH1
  clear o1 e1 HB1
  go_wp2_with fail
  refine HO.out.mono ?_
  rintro e w3 ⟨gc, ea, ec, rfl, hcb, hes, hen, hlo, b3⟩
  have hhs : Hid (Ents w3 ha T.length hc T) := hH1.out.later b3
  have hhn : Hid (∀ x, ha = some x → x.block ≠ gc) := fun x hx => by have := hH0.out x hx; omega
  have BW : Hid (Below w.heap.size w w3) := b1.out.trans (b3.mono b1.out.size)
  have hlw : Hid (w.heap.size ≤ gc) := Nat.le_trans b1.out.size hlo
  have HLen := hid (len_any gc ea T.length ec 0 w3 hcb)
  have HFi := hid (first_any gc ea T.length ec 0 w3 hcb)
  replace hes := hid hes
  replace hen := hid hen
  clear hcb hlo b3 b1 hH1 hH0 HO
  generalize hN : T.length = N at *
  replace hN := hid hN
  go_wp2_with fail
  refine HLen.out.mono ?_
  rintro e w3 ⟨rfl, rfl⟩
  clear HLen
  go_wp2_with fail
  refine HFi.out.mono ?_
  rintro e w4 ⟨rfl, m4⟩
  have C4 := hid m4.1
  have F4 := hid m4.2
  clear m4 HFi
  go_wp2_with fail
  go_loopw [10, 11] (fun nv sv wr => ∃ (n : Nat), n ≤ N ∧ nv = .int .i64 (n : Int) ∧ sv = .bool (at1 N ((n : Int) + 1)) ∧ Hid (Cb wr gc ea N ec ((n : Int) + 1)) ∧ Hid (Fp (fun j => j = gc) w3 wr)) (fun nv _ _ => N - (intOf nv).toNat)
  case atStart => exact ⟨0, by omega, rfl, rfl, C4, F4⟩
  case round =>
    obtain ⟨n, hn, rfl, rfl, HC, HF⟩ := hrel
    by_cases hnN : n < N
    · have hnk := hnN
      cases ea with
      | none => exact absurd (hes.out.2.2.1 rfl).1 (by omega)
      | some ead =>
        cases ha with
        | none => exact absurd (hhs.out.2.2.1 rfl).1 (by omega)
        | some had =>
          obtain ⟨eb, eo, ep⟩ := ead
          obtain ⟨hb, ho, hp⟩ := had
          have hesr := ents_fp hes.out HF.out hen.out
          have hhsr := ents_fp hhs.out HF.out hhn.out
          obtain ⟨rfl, hae⟩ := hesr.2.2.2.2 eb eo ep rfl (by omega)
          obtain ⟨rfl, hah⟩ := hhsr.2.2.2.2 hb ho hp rfl (by omega)
          have hec := hesr.2.1
          have hhc := hhsr.2.1
          have hAe := hae n (by omega)
          have hAh := hah n (by omega)
          generalize T.getD n ze = x at *
          obtain ⟨xk, xq, xc, xv⟩ := x
          have HE := hid (here_yes gc eb eo N ec n ⟨xk, xq, xc, xv⟩ wr HC.out (by omega) (by omega) hec hAe)
          replace hAh := hid hAh
          have hsT : at1 N ((n : Int) + 1) = true := at_in (by omega)
          clear hae hah hAe hesr hhsr
          have hmin : min ((n : Int) + 1) (N : Int) + 1 = ((n + 1 : Nat) : Int) + 1 := by omega
          have hnlt : (n : Int) < (N : Int) := by omega
          have hnge : ¬ (N : Int) ≤ (n : Int) := by omega
          have hngd : decide ((N : Int) ≤ (n : Int)) = false := decide_eq_false hnge
          rw [hsT]
          clear hsT
          go_wp2_with fail
          refine HE.out.mono ?_
          rintro e w5 ⟨rfl, b5⟩
          dsimp only
          obtain ⟨gk, hgk⟩ : ∃ g, g = w5.heap.size := ⟨_, rfl⟩
          obtain ⟨w6, hw6⟩ : ∃ W, W = w5.alloc (.cells #[.string xk, .int .u64 xq, .int .i64 xc] 36) := ⟨_, rfl⟩
          have b6 : Below w5.heap.size w5 w6 := by rw [hw6]; exact box_below _ _
          have k6 : w6.heap[gk]? = some (.cells #[.string xk, .int .u64 xq, .int .i64 xc] 36) := by rw [hw6, hgk]; exact new_at _ _
          have b56 : Below wr.heap.size wr w6 := b5.trans (b6.mono b5.size)
          obtain ⟨h0, h1, h2, h3⟩ := hAh.out.later b56
          dsimp only at h0 h1 h2 h3
          have y0 := cell_of k6 0 _ rfl
          have y1 := cell_of k6 1 _ rfl
          have y2 := cell_of k6 2 _ rfl
          have AFT : Hid (∀ nn, Cb (w6.drewN nn) gc (some ⟨eb, eo, none⟩) N ec ((n : Int) + 1) ∧ Fp (fun j => j = gc) w3 (w6.drewN nn)) := fun nn => ⟨HC.out.later (b56.trans ((drewN_below w6 nn).mono b56.size)), (HF.out.below b56).below (drewN_below w6 nn)⟩
          replace hgk := hid hgk
          replace hw6 := hid hw6
          clear b5 b6 k6 b56 HE
          go_wp2_with fail
          rw [← hw6.out, ← hgk.out]
          go_quiet (fail)
          obtain ⟨C6, F6⟩ := AFT.out nq
          generalize w6.drewN nq = w7 at *
          have HNx := next_any gc (some ⟨eb, eo, none⟩) N ec ((n : Int) + 1) w7 C6 (by omega) (by omega)
          rw [hmin] at HNx
          replace HNx := hid HNx
          replace F6 := hid F6
          have hwr : IntKind.i64.wrap ((n : Int) + 1) = ((n + 1 : Nat) : Int) := by rw [IntKind.wrap_i64]; omega
          clear C6 h0 h1 h2 h3 y0 y1 y2 AFT
          go_wp2_with fail
          refine HNx.out.mono ?_
          rintro e w8 ⟨rfl, m8⟩
          have C8 := hid m8.1
          have F8 : Hid (Fp (fun j => j = gc) w3 w8) := F6.out.trans (m8.2.wide fun k _ hk => .inl hk)
          clear m8
          go_wp2_with fail
          refine ⟨⟨n + 1, by omega, by first | rfl | go_num, by first | rfl | go_num, C8, F8⟩, ?_⟩
          simp only [intOf]; omega
    · obtain rfl : n = N := by omega
      have hsF : at1 n ((n : Int) + 1) = false := at_out (by omega)
      have hmin : min ((n : Int) + 1) (n : Int) + 1 = (n : Int) + 1 := by omega
      have HNx := next_any gc ea n ec ((n : Int) + 1) wr HC.out (by omega) (by omega)
      rw [hmin, hsF] at HNx
      replace HNx := hid HNx
      rw [hsF]
      clear HC hsF
      go_wp2_with fail
      refine HNx.out.mono ?_
      rintro e w5 ⟨rfl, m5⟩
      have HPv := prev_any gc ea n ec ((n : Int) + 1) w5 m5.1 (by omega) (by omega)
      rw [show max ((n : Int) + 1) 1 - 1 = (n : Int) by omega] at HPv
      have F5 : Hid (Fp (fun j => j = gc) w3 w5) := HF.out.trans (m5.2.wide fun k _ hk => .inl hk)
      replace HPv := hid HPv
      clear m5 HNx HF
      go_wp2_with fail
      refine HPv.out.mono ?_
      rintro e w6 ⟨rfl, m6⟩
      have C6 := hid m6.1
      have F6 : Hid (Fp (fun j => j = gc) w3 w6) := F5.out.trans (m6.2.wide fun k _ hk => .inl hk)
      clear m6 HPv F5 hmin hnN
      rename_i Nn
      go_wp2_with fail
      go_loopw [10, 15] (fun nv sv wr => ∃ (m : Nat), m ≤ n ∧ nv = .int .i64 (m : Int) ∧ sv = .bool (at1 n (m : Int)) ∧ Hid (Cb wr gc ea n ec (m : Int)) ∧ Hid (Fp (fun j => j = gc) w3 wr)) (fun nv _ _ => (intOf nv).toNat)
      case atStart => exact ⟨n, by omega, rfl, rfl, C6, F6⟩
      case round =>
        obtain ⟨m, hm, rfl, rfl, HC, HF⟩ := hrel
        generalize hNE : n = N at *
        cases m with
        | succ k =>
          have hnk : k < N := by omega
          replace HC : Hid (Cb wr gc ea N ec ((k : Int) + 1)) := by have := HC.out; rwa [show ((k + 1 : Nat) : Int) = (k : Int) + 1 by omega] at this
          cases ea with
          | none => exact absurd (hes.out.2.2.1 rfl).1 (by omega)
          | some ead =>
            cases ha with
            | none => exact absurd (hhs.out.2.2.1 rfl).1 (by omega)
            | some had =>
              obtain ⟨eb, eo, ep⟩ := ead
              obtain ⟨hb, ho, hp⟩ := had
              have hesr := ents_fp hes.out HF.out hen.out
              have hhsr := ents_fp hhs.out HF.out hhn.out
              obtain ⟨rfl, hae⟩ := hesr.2.2.2.2 eb eo ep rfl (by omega)
              obtain ⟨rfl, hah⟩ := hhsr.2.2.2.2 hb ho hp rfl (by omega)
              have hec := hesr.2.1
              have hhc := hhsr.2.1
              have hAe := hae k (by omega)
              have hAh := hah k (by omega)
              generalize T.getD k ze = x at *
              obtain ⟨xk, xq, xc, xv⟩ := x
              have HE := hid (here_yes gc eb eo N ec k ⟨xk, xq, xc, xv⟩ wr HC.out (by omega) (by omega) hec hAe)
              replace hAh := hid hAh
              have hsT : at1 N ((k : Int) + 1) = true := at_in (by omega)
              clear hae hah hAe hesr hhsr
              have hmx : max (((k + 1 : Nat) : Int)) 1 - 1 = (k : Int) := by omega
              have hwk : IntKind.i64.wrap (((k + 1 : Nat) : Int) - 1) = (k : Int) := by rw [IntKind.wrap_i64]; omega
              have hcast : ((k + 1 : Nat) : Int) = (k : Int) + 1 := by omega
              have hwk2 : IntKind.i64.wrap ((k : Int) + 1 - 1) = (k : Int) := by rw [IntKind.wrap_i64]; omega
              have hwk3 : IntKind.i64.wrap (k : Int) = (k : Int) := by rw [IntKind.wrap_i64]; omega
              have hnlt : (k : Int) < (N : Int) := by omega
              have hnn : ¬ (k : Int) < 0 := by omega
              have hnnd : decide ((k : Int) < 0) = false := decide_eq_false hnn
              rw [hcast, hsT]
              clear hcast hwk hsT
              go_wp2_with fail
              refine HE.out.mono ?_
              rintro e w5 ⟨rfl, b5⟩
              dsimp only
              obtain ⟨gk, hgk⟩ : ∃ g, g = w5.heap.size := ⟨_, rfl⟩
              obtain ⟨w6, hw6⟩ : ∃ W, W = w5.alloc (.cells #[.string xk, .int .u64 xq, .int .i64 xc] 36) := ⟨_, rfl⟩
              have b6 : Below w5.heap.size w5 w6 := by rw [hw6]; exact box_below _ _
              have k6 : w6.heap[gk]? = some (.cells #[.string xk, .int .u64 xq, .int .i64 xc] 36) := by rw [hw6, hgk]; exact new_at _ _
              have b56 : Below wr.heap.size wr w6 := b5.trans (b6.mono b5.size)
              obtain ⟨h0, h1, h2, h3⟩ := hAh.out.later b56
              dsimp only at h0 h1 h2 h3
              have y0 := cell_of k6 0 _ rfl
              have y1 := cell_of k6 1 _ rfl
              have y2 := cell_of k6 2 _ rfl
              have AFT : Hid (∀ nn, Cb (w6.drewN nn) gc (some ⟨eb, eo, none⟩) N ec ((k : Int) + 1) ∧ Fp (fun j => j = gc) w3 (w6.drewN nn)) := fun nn => ⟨HC.out.later (b56.trans ((drewN_below w6 nn).mono b56.size)), (HF.out.below b56).below (drewN_below w6 nn)⟩
              replace hgk := hid hgk
              replace hw6 := hid hw6
              clear b5 b6 k6 b56 HE
              go_wp2_with fail
              rw [← hw6.out, ← hgk.out]
              go_quiet (fail)
              obtain ⟨C6, F6⟩ := AFT.out nq
              generalize w6.drewN nq = w7 at *
              have HPv := prev_any gc (some ⟨eb, eo, none⟩) N ec ((k : Int) + 1) w7 C6 (by omega) (by omega)
              rw [show max ((k : Int) + 1) 1 - 1 = (k : Int) by omega] at HPv
              replace HPv := hid HPv
              replace F6 := hid F6
              clear C6 h0 h1 h2 h3 y0 y1 y2 AFT
              go_wp2_with fail
              refine HPv.out.mono ?_
              rintro e w8 ⟨rfl, m8⟩
              have C8 := hid m8.1
              have F8 : Hid (Fp (fun j => j = gc) w3 w8) := F6.out.trans (m8.2.wide fun k _ hk => .inl hk)
              clear m8
              go_wp2_with fail
              refine ⟨⟨k, by omega, rfl, rfl, C8, F8⟩, ?_⟩
              simp only [intOf]; omega
        | zero =>
          have hsF : at1 N ((0 : Nat) : Int) = false := at_out (by omega)
          have HPv := prev_any gc ea N ec ((0 : Nat) : Int) wr HC.out (by omega) (by omega)
          rw [show max ((0 : Nat) : Int) 1 - 1 = 0 by omega, show at1 N 0 = false from at_out (by omega)] at HPv
          replace HPv := hid HPv
          have hq : Hid (at1 N 1 = decide ((0 : Int) < (N : Int))) := by
            show _ = _
            unfold at1
            by_cases h : 0 < N
            · rw [decide_eq_true (by omega), decide_eq_true (by omega)]
            · rw [decide_eq_false (by omega), decide_eq_false (by omega)]
          rw [hsF]
          clear hsF
          go_wp2_with fail
          refine HPv.out.mono ?_
          rintro e w7 ⟨rfl, m7⟩
          have HNx := next_any gc ea N ec 0 w7 m7.1 (by omega) (by omega)
          rw [show min (0 : Int) (N : Int) + 1 = 1 by omega, hq.out] at HNx
          have F7 : Hid (Fp (fun j => j = gc) w3 w7) := HF.out.trans (m7.2.wide fun k _ hk => .inl hk)
          replace HNx := hid HNx
          clear m7 HPv
          go_wp2_with fail
          refine HNx.out.mono ?_
          rintro e w8 ⟨rfl, m8⟩
          have F8 : Fp (fun j => j = gc) w3 w8 := F7.out.trans (m8.2.wide fun k _ hk => .inl hk)
          have BF : Hid (Below w.heap.size w w8) := BW.out.trans (F8.base (by have := BW.out.size; omega) (fun j hj => by rw [hj]; exact hlw.out))
          clear m8 F8 HNx
          go_wp2_with fail
          go_ret
          exact ⟨by first | rfl | simp, BF.out⟩
end Go.Proofs.Ytkanjbeijoeenaa.Bk

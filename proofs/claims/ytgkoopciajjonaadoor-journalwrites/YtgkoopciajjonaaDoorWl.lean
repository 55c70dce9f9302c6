/- JournalWrites walked: a block and a size that serve. -/
import Derived.Test.YtgkoopciajjonaaDoorWj
namespace Go.Proofs.YtgkoopciajjonaaDoor.Wl
open Go.ChangeShapes Go.WideShapes Go.ChangeAt Go.RowKit Go.Sort
open Go.Proofs.YtgkoopciajjonaaDoor.Crc
open Go.Proofs.YtgkoopciajjonaaDoor.Jm
open Go.Proofs.YtgkoopciajjonaaDoor.Jn
open Go.Proofs.YtgkoopciajjonaaDoor.Ck
open Go.Proofs.YtgkoopciajjonaaDoor.Wt
open Go.Proofs.YtgkoopciajjonaaDoor.Wc
open Go.Proofs.YtgkoopciajjonaaDoor.Wa
open Go.Proofs.YtgkoopciajjonaaDoor.Rc
open Go.Proofs.YtgkoopciajjonaaDoor.Wn
open Go.Proofs.YtgkoopciajjonaaDoor.Wj
set_option linter.unusedVariables false
set_option linter.unusedSimpArgs false

set_option maxHeartbeats 8000000 in
set_option maxRecDepth 100000 in
theorem writes_ok (b s : Nat) (n : Int) (a : Option Addr) (len cap : Nat) (rs : List Sl) (w : World) (T : Hid (Tab w)) (H : Recs w a len cap rs) (hb : 32 ≤ b ∧ b ≤ 32768) (hs : s ≤ 4611686018427387904) (hw : wt rs ≤ 1048576) :
    Calls Tryd.prog 3 #[.agg #[.int .i64 b, .int .i64 s, .slice a len cap], .int .i64 n] w fun e w' => e = .returned (.bool true) ∧ Below w.heap.size w w' := by
  have b1 := box_below w (.cells #[.int .i64 b, .int .i64 s, .slice a len cap] 24)
  have p0 := cell_three w (.int .i64 b) (.int .i64 s) (.slice a len cap) 24 0 _ rfl
  have p1 := cell_three w (.int .i64 b) (.int .i64 s) (.slice a len cap) 24 1 _ rfl
  have p2 := cell_three w (.int .i64 b) (.int .i64 s) (.slice a len cap) 24 2 _ rfl
  have h1 : ¬ (4611686018427387904 : Int) < (s : Int) := by omega
  have HN := hid (fun W => new_ok b s W hb (by omega))
  have HB := hid (fun W => Ra.rblock_any (b : Int) W)
  rw [show (decide (32 ≤ (b : Int)) && decide ((b : Int) ≤ 32768)) = true by simp; omega] at HB
  have HH := hid H
  have hl := H.1
  have hlc := H.2.1
  have hll : len ≤ 1048576 := by
    have h1 : ∀ l : List Sl, l.length ≤ wt l := by
      intro l
      induction l with
      | nil => simp
      | cons x r ih => simp only [wt, List.map_cons, List.sum_cons, List.length_cons] at ih ⊢; omega
    have := h1 rs; omega
  clear H
  go_enter Tryd.func3, Tryd.ntmps3
  go_wp2_with fail
  go_quiet (fail)
  have b2 := hid (below_drewN b1 nq)
  clear p0 p1 p2 b1
  generalize (w.alloc (.cells #[.int .i64 b, .int .i64 s, .slice a len cap] 24)).drewN nq = w1 at *
  go_wp2_with fail
  refine (HN.out _).mono ?_
  rintro e w2 ⟨rfl, hw2⟩
  have B2 : Hid (Below w.heap.size w w2) := by
    show Below _ _ _
    rw [hw2]
    exact b2.out.trans ((box_below _ _).mono b2.out.size)
  have W2 : Wr w2 w1.heap.size b s := by rw [hw2]; show (w1.heap.push _)[w1.heap.size]? = _; simp
  have hg : w.heap.size ≤ w1.heap.size := b2.out.size
  have W2 := hid W2
  clear hw2 b2 HN
  generalize w1.heap.size = g at *
  clear w1
  go_wp2_with fail
  refine (HB.out _).mono ?_
  rintro e w' ⟨rfl, rfl⟩
  clear HB
  go_wp2_with fail
  go_loopw [6, 10, 11, 12] (fun sv ov tv i wr => ∃ (k S : Nat) (zs : List Int), k ≤ len ∧ i = .int .i64 (k : Int) ∧ sv = .int .i64 (S : Int) ∧ tv = .string (str zs) ∧ Hid (S ≤ s + 20 * wt (rs.take k)) ∧ Hid ((∀ y ∈ zs, 0 ≤ y ∧ y ≤ 255) ∧ zs.length ≤ 20000000) ∧ Hid (Own wr (g + 1) ov zs) ∧ Hid (Wr wr g b S) ∧ Hid (Below w.heap.size w wr))
    (fun _ _ _ i _ => len - (intOf i).toNat)
  case atStart => exact ⟨0, s, [], Nat.zero_le _, rfl, rfl, rfl, by show _ ≤ _; omega, ⟨by simp, by simp⟩, World.ownsRow_nil _ _ _ _, W2, B2⟩
  case round =>
    obtain ⟨k, S, zs, hk, rfl, rfl, rfl, HS, HZ, HO, HW, HBl⟩ := hrel
    obtain ⟨ao, co, hvo, _⟩ := HO.out.shape
    subst hvo
    clear W2 B2
    have hS : S ≤ 4611686018427387904 + 20971520 := by have := HS.out; have := wt_take rs k; omega
    by_cases hlt : k < len
    · obtain ⟨ad, rfl⟩ : ∃ ad, a = some ad := by
        cases a with
        | none => have := (HH.out.2.2.1 rfl).1; omega
        | some ad => exact ⟨ad, rfl⟩
      obtain ⟨sl, hsl⟩ : ∃ sl, rs[k]? = some sl := ⟨rs[k], List.getElem?_eq_getElem (by omega)⟩
      have hcs : Hid (∀ W, Below w.heap.size w W → W.cell? (ad.add k) = some (.slice sl.a sl.len sl.cap)) := fun W hW => by
        have := cell_later hW (HH.out.2.2.2.1 ad rfl k sl hsl)
        unfold Sl.v at this
        exact this
      have hso : Hid (∀ W, Below w.heap.size w W → Bytes W sl.a sl.len sl.cap sl.zs) := fun W hW => Sl.later (HH.out.2.2.2.2 sl (List.mem_of_getElem? hsl)) hW
      have hslen : sl.zs.length = sl.len := (hso.out w (Below.refl _ _)).1
      have hT : rs.take (k + 1) = rs.take k ++ [sl] := by rw [List.take_add_one, hsl]; rfl
      have hwk : wt (rs.take k) + (sl.len + 1) ≤ 1048576 := by
        have h1 := wt_take rs (k + 1)
        rw [hT, wt_append] at h1
        omega
      have hS2 : Hid (∀ m, m ≤ 20 + 8 * sl.len → S + m ≤ s + 20 * wt (rs.take (k + 1))) := fun m hm => by
        rw [hT, wt_append]
        have := HS.out
        omega
      have hl2 : sl.len ≤ 1048576 := by omega
      have hal := add_len b S sl.zs hb
      rw [hslen] at hal
      have hcu := (cst_le b S sl.len hb).2
      rw [← hal] at hcu
      have hab : Hid (∀ y ∈ flat (addc b S sl.zs), 0 ≤ y ∧ y ≤ 255) := add_bytes b _ sl.zs (hso.out w (Below.refl _ _)).2.2.2.1
      clear hal hT hwk HS
      have HSz : Hid (∀ dd os, Calls Tryd.prog 12 #[.pointer (some ⟨g, 0, none⟩)] (grow (redrawn wr dd) os) fun e w' => e = .returned (.int .i64 (S : Int)) ∧ Below (grow (redrawn wr dd) os).heap.size (grow (redrawn wr dd) os) w') := fun dd os => (size_ok g b S _ (HW.out.later (below_regrown wr dd os)) hb (by omega)).mono (by rintro e w' ⟨rfl, rfl⟩; exact ⟨rfl, Below.refl _ _⟩)
      have HC : Hid (∀ m dd os, Calls Tryd.prog 13 #[.pointer (some ⟨g, 0, none⟩), .int .i64 m] (grow (redrawn wr dd) os) fun e w' => e = .returned (.int .i64 (cn b S m)) ∧ Below (grow (redrawn wr dd) os).heap.size (grow (redrawn wr dd) os) w') := fun m dd os => costn g b S m _ (HW.out.later (below_regrown wr dd os)) hb (by omega)
      have HR : Hid (∀ m dd os, Calls Tryd.prog 14 #[.int .i64 (b : Int), .int .i64 (S : Int), .int .i64 m] (grow (redrawn wr dd) os) fun e w' => e = .returned (.int .i64 (cn b S m)) ∧ Below (grow (redrawn wr dd) os).heap.size (grow (redrawn wr dd) os) w') := fun m dd os => rcostn b S m _ hb (by omega)
      have dcs := fun dd os => cell_regrown (hcs.out wr HBl.out) dd os
      have dcv : ∀ dd os, Sem.run Tryd.prog (convert 31 9 (.slice ao zs.length co)) (grow (redrawn wr dd) os) = .ok (.string (str zs)) (grow (redrawn wr dd) os) := fun dd os => own_conv (HO.out.later (below_regrown wr dd os))
      go_wp2_with fail
      refine wp_region_quiet_below (by kernel_rfl) (by kernel_rfl) ?_
      repeat (first
        | go_big_quiet_step (first | (go_at_call 12; exact Calls.regrown_of (HSz.out _ _)) | (go_at_call 13; exact Calls.regrown_of (HC.out _ _ _)) | (go_at_call 14; exact Calls.regrown_of (HR.out _ _ _)))
        | quiet_step (first | (go_at_call 12; exact Calls.regrown_of (HSz.out _ _)) | (go_at_call 13; exact Calls.regrown_of (HC.out _ _ _)) | (go_at_call 14; exact Calls.regrown_of (HR.out _ _ _))))
      refine wpQuiet_nil ?_
      intro w2 hw2
      have b2 : Below wr.heap.size wr w2 := by
        obtain ⟨⟨dq, osq⟩, hw''⟩ := hw2
        rw [hw'']
        exact below_regrown _ dq osq
      have O2 := HO.out.later b2
      have W2 := HW.out.later b2
      have B2 := HBl.out.trans (b2.mono HBl.out.size)
      have HSp := hid (Sp.spoil_any _ _ zs w2 O2 HZ.out.1 (by have := HZ.out.2; omega))
      have hgl : Hid (∀ j, (Value.slice ao zs.length co).ownBlock = some j → g + 1 ≤ j) := fun j hj => (O2.lt j hj).1
      have W2 := hid W2
      have B2 := hid B2
      clear b2 hw2 dcs dcv HSz HC HR HO HW HBl O2 HZ
      go_wp2_with fail
      refine HSp.out.mono ?_
      rintro e w3 ⟨⟨u, rfl⟩, g3⟩
      have W3 := hid (W2.out.kept g3 (fun e => by have := hgl.out g e.symm; omega))
      have B3 : Hid (Below w.heap.size w w3) := B2.out.grown g3 B2.out.size (by intro j hj; have := hgl.out j hj; omega)
      have cs3 := hcs.out w3 B3.out
      have HL := hid (Ln.lent_any sl.a sl.len sl.cap sl.zs w3 (hso.out w3 B3.out) (by omega))
      clear g3 HSp W2 B2
      go_wp2_with fail
      refine HL.out.mono ?_
      rintro e w4 ⟨g4, c4, rfl, R4, b4⟩
      have W4 := W3.out.later b4
      have B4 := B3.out.trans (b4.mono B3.out.size)
      have hg4 : g < g4 := by have := R4.lt.1; have := W3.out.lt; omega
      have HA := hid (Wb.add_ok g b S (some ⟨g4, 0, none⟩) sl.len c4 sl.zs w4 (tab_later T B4) W4 (Ln.lent_bytes R4 (hso.out w (Below.refl _ _)).2.2.2.1) hb (by omega) (by omega))
      have R4 := hid R4
      have B4 := hid B4
      have hbase : g + 1 ≤ w4.heap.size := by have := W4.lt; omega
      clear W4 b4 HL cs3 W3 B3
      have HRA0 := hid (fun W (hW : Below w.heap.size w W) => Ra.radd_any b S sl.a sl.len sl.cap sl.zs W (hso.out W hW) hb (by omega) (by omega))
      generalize flat (addc b S sl.zs) = X at *
      go_wp2_with fail
      refine HA.out.mono ?_
      rintro e w5 ⟨v5, rfl, O5, W5, g5⟩
      have R5 := hid (R4.out.kept g5 (fun e => by simp at e; omega))
      have B5 : Hid (Below w.heap.size w w5) := B4.out.grown g5 B4.out.size (by intro j hj; cases hj; exact hg)
      obtain ⟨a5, c5, hv5, _⟩ := O5.shape
      subst hv5
      have O5 := hid O5
      have W5 := hid W5
      have cs5 := hcs.out w5 B5.out
      have i1 : ¬ (2097152 : Int) < (sl.len : Int) := by omega
      have HRA : Hid (Calls Tryd.prog 18 #[.int .i64 (b : Int), .int .i64 (S : Int), .slice sl.a sl.len sl.cap] w5 fun e w' => ∃ v, e = .returned v ∧ Own w' w5.heap.size v X ∧ Below w5.heap.size w5 w') := HRA0.out w5 B5.out
      clear g5 HA R4 B4 HRA0
      go_wp2_with fail
      refine HRA.out.mono ?_
      rintro e w6 ⟨v6, rfl, O6, b6⟩
      have cv6 := own_conv O6
      have cv5 := own_conv (O5.out.later b6)
      have R6 := R5.out.kept (row := none) (grown_of b6) (by simp)
      have B6 := B5.out.trans (b6.mono B5.out.size)
      have cs6 := hcs.out w6 B6
      have HK := hid (Ln.kept_any _ g4 c4 sl.a sl.len sl.cap sl.zs w6 R6 (hso.out w6 B6) (by omega))
      have O5' := hid (Rp.own_base7 (O5.out.later b6) hbase)
      have W6 := hid (W5.out.later b6)
      have B6 := hid B6
      have hsx := str_size X
      clear O6 b6 R6 HRA R5 B5 cs5 O5 W5
      go_wp2_with fail
      refine HK.out.mono ?_
      rintro e w7 ⟨rfl, rfl⟩
      go_wp2_with fail
      go_roundw
      case rel => exact ⟨k + 1, S + X.length, X, by omega, by go_num, by go_num, rfl, hS2.out _ hcu, ⟨hab.out, by omega⟩, O5', W6, B6⟩
      case measure => simp [intOf]; omega
    · have HSz := hid (size_ok g b S wr HW.out hb (by omega))
      have HC := hid (costn g b S n wr HW.out hb (by omega))
      have HR := hid (fun W => rcostn b S n W hb (by omega))
      go_wp2_with fail
      refine HSz.out.mono ?_
      rintro e w2 ⟨rfl, rfl⟩
      go_wp2_with fail
      refine HC.out.mono ?_
      rintro e w3 ⟨rfl, b3⟩
      have O3 := hid (HO.out.later b3)
      have B3 := hid (HBl.out.trans (b3.mono HBl.out.size))
      clear b3
      go_wp2_with fail
      refine (HR.out _).mono ?_
      rintro e w4 ⟨rfl, b4⟩
      have cv := own_conv (O3.out.later b4)
      have B4 := hid (B3.out.trans (b4.mono B3.out.size))
      clear b4
      go_wp2_with fail
      refine (Ln.names_any _).mono ?_
      rintro e w5 ⟨rfl, rfl⟩
      go_wp2_with fail
      go_ret
      exact ⟨rfl, B4.out⟩
end Go.Proofs.YtgkoopciajjonaaDoor.Wl

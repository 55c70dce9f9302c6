/- JournalOn walked. -/
import Derived.Test.YtgkoopciajjonaaDoorWn
namespace Go.Proofs.YtgkoopciajjonaaDoor.On
open Go.ChangeShapes Go.WideShapes Go.ChangeAt Go.RowKit
open Go.Proofs.YtgkoopciajjonaaDoor.Crc
open Go.Proofs.YtgkoopciajjonaaDoor.Jm
open Go.Proofs.YtgkoopciajjonaaDoor.Jn
open Go.Proofs.YtgkoopciajjonaaDoor.Ck
open Go.Proofs.YtgkoopciajjonaaDoor.Wt
open Go.Proofs.YtgkoopciajjonaaDoor.Wc
open Go.Proofs.YtgkoopciajjonaaDoor.Wa
open Go.Proofs.YtgkoopciajjonaaDoor.Rc
open Go.Proofs.YtgkoopciajjonaaDoor.Wn
set_option linter.unusedVariables false
set_option linter.unusedSimpArgs false

theorem own_conv {w : World} {base : Nat} {v : Value} {xs : List Int} (h : Own w base v xs) : Sem.run Tryd.prog (convert 31 9 v) w = .ok (.string (str xs)) w := by
  rcases h.2 with ⟨e, e0⟩ | ⟨g, c, cur, e, hr⟩
  · have : xs = [] := List.eq_nil_of_length_eq_zero e0
    subst this
    rw [e]
    exact (nil_bytes w).conv
  · subst e
    exact Row.conv (g := g) h
theorem valid_any (b : Int) (w : World) : Calls Tryd.prog 24 #[.int .i64 b] w fun e w' => e = .returned (.bool (decide (32 ≤ b) && decide (b ≤ 32768))) ∧ w' = w := by
  by_cases h : 32 ≤ b
  · by_cases h2 : b ≤ 32768
    all_goals
      go_enter Tryd.func24, Tryd.ntmps24
      go_wp2
      go_ret
      simp [h, h2]
  · go_enter Tryd.func24, Tryd.ntmps24
    go_wp2
    go_ret
    simp [h]
    omega
theorem on_no (b : Int) (v : Value) (w : World) (h : (decide (32 ≤ b) && decide (b ≤ 32768)) = false) : Calls Tryd.prog 8 #[.int .i64 b, v] w fun e w' => e = .returned (.bool true) ∧ Below w.heap.size w w' := by
  have HV := valid_any b w
  rw [h] at HV
  have HV := hid HV
  clear h
  go_enter Tryd.func8, Tryd.ntmps8
  go_wp2_with fail
  refine HV.out.mono ?_
  rintro e w' ⟨rfl, rfl⟩
  go_wp2_with fail
  go_ret
  exact ⟨rfl, Below.refl _ _⟩
set_option maxHeartbeats 400000 in
set_option maxRecDepth 100000 in
theorem on_ok (b : Nat) (a : Option Addr) (len cap : Nat) (rs : List Sl) (w : World) (T : Hid (Tab w)) (H : Recs w a len cap rs) (hb : 32 ≤ b ∧ b ≤ 32768) (hw : wt rs ≤ 1048576) :
    Calls Tryd.prog 8 #[.int .i64 b, .slice a len cap] w fun e w' => e = .returned (.bool true) ∧ Below w.heap.size w w' := by
  have HV := valid_any b w
  rw [show (decide (32 ≤ (b : Int)) && decide ((b : Int) ≤ 32768)) = true by simp; omega] at HV
  have HV := hid HV
  have HWn := hid (written_any b a len cap rs w T H hb hw)
  have hwt := wt_took rs
  have HP : Hid (∀ s ∈ took rs, s.ok w ∧ s.len ≤ 2097152) := fun s hs => by
    have := List.mem_filter.1 hs
    exact ⟨H.2.2.2.2 s this.1, by simpa using this.2⟩
  obtain ⟨P, hP⟩ : ∃ P, P = took rs := ⟨_, rfl⟩
  rw [← hP] at HWn hwt HP
  have hlay : ∀ k, (lay b 0 (zss (P.take k))).length ≤ 20 * 1048576 := fun k => by
    have h1 := lay_le b hb (P.take k) 0 (fun s hs => (HP.out s (List.mem_of_mem_take hs)).1.1)
    have h2 := wt_take P k
    omega
  have hlay := hid hlay
  clear hP H
  go_enter Tryd.func8, Tryd.ntmps8
  go_wp2_with fail
  refine HV.out.mono ?_
  rintro e w0 ⟨rfl, rfl⟩
  go_wp2_with fail
  refine HWn.out.mono ?_
  rintro e w1 ⟨vf, ve, vt, rfl, OF, OE, OT, B1⟩
  have OF := hid OF
  have OT := hid OT
  have B1 := hid B1
  clear OE HV HWn
  obtain ⟨at', ct, hvt, hat⟩ := row_shape OT.out
  subst hvt
  go_wp2_with fail
  go_loopw [9, 10] (fun ov i wr => ∃ k : Nat, k ≤ P.length ∧ i = .int .i64 (k : Int) ∧ Hid (Own wr w1.heap.size ov (lay b 0 (zss (P.take k)))) ∧ Hid (Below w1.heap.size w1 wr))
    (fun _ i _ => P.length - (intOf i).toNat)
  case atStart => exact ⟨0, Nat.zero_le _, rfl, World.ownsRow_nil _ _ _ _, Below.refl _ _⟩
  case round =>
    obtain ⟨k, hk, rfl, OO, HB⟩ := hrel
    by_cases hlt : k < P.length
    · obtain ⟨s, hs⟩ : ∃ s, P[k]? = some s := ⟨P[k], List.getElem?_eq_getElem hlt⟩
      have hsm := HP.out s (List.mem_of_getElem? hs)
      obtain ⟨g, rfl⟩ : ∃ g, at' = some ⟨g, 0, none⟩ := by
        rcases hat with h | h
        · subst h
          rcases OT.out.2 with ⟨_, e0⟩ | ⟨g, c, cur, e, _⟩
          · omega
          · simp at e
        · exact h
      have hT : P.take (k + 1) = P.take k ++ [s] := by rw [List.take_add_one, hs]; rfl
      have hL : Hid (lay b 0 (zss (P.take (k + 1))) = lay b 0 (zss (P.take k)) ++ flat (addc b (lay b 0 (zss (P.take k))).length s.zs)) := by
        show _ = _
        rw [hT]
        unfold zss
        rw [List.map_append]
        have := lay_append b ((P.take k).map Sl.zs) 0 s.zs
        rw [Nat.zero_add] at this
        exact this
      have hl2 := hlay.out k
      have hsl := hsm.1.1
      have hal := add_len b (lay b 0 (zss (P.take k))).length s.zs hb
      rw [hsl] at hal
      have hab : Hid (∀ y ∈ flat (addc b (lay b 0 (zss (P.take k))).length s.zs), 0 ≤ y ∧ y ≤ 255) := add_bytes b _ s.zs hsm.1.2.2.2.1
      have hl3 := (cst_le b (lay b 0 (zss (P.take k))).length s.len hb).2
      generalize hF : lay b 0 (zss (P.take k)) = F at *
      obtain ⟨ao, co, hvo, _⟩ := OO.out.shape
      subst hvo
      have HN := hid (new_ok b F.length wr hb (by omega))
      have hsz : Hid (w1.heap.size ≤ wr.heap.size ∧ ∀ j, (Value.slice ao F.length co).ownBlock = some j → j < wr.heap.size) := ⟨HB.out.size, fun j hj => (OO.out.lt j hj).2⟩
      have B0 := B1.out.trans (HB.out.mono B1.out.size)
      have b2 := box_below wr (.cells #[.int .i64 (b : Int), .int .u64 (F.length : Int)] 56)
      have W2 : Wr (wr.alloc (.cells #[.int .i64 (b : Int), .int .u64 (F.length : Int)] 56)) wr.heap.size b F.length := by
        show (wr.heap.push _)[wr.heap.size]? = _; simp
      have cs := OT.out.cell k s hs
      unfold Sl.v at cs
      have HC : Hid (∀ w3, Below (wr.alloc (.cells #[.int .i64 (b : Int), .int .u64 (F.length : Int)] 56)).heap.size (wr.alloc (.cells #[.int .i64 (b : Int), .int .u64 (F.length : Int)] 56)) w3 → w3.cell? ⟨g, k, none⟩ = some (.slice s.a s.len s.cap)) := fun w3 h3 => cell_later h3 (cell_later b2 (cell_later HB.out cs))
      have cs2 := HC.out _ (Below.refl _ _)
      have HCo := hid (cost_ok wr.heap.size b F.length s.len _ W2 hb (by omega) hsm.2)
      rw [← hal] at HCo hl3
      clear hal
      have HA : Hid (∀ w3, Below (wr.alloc (.cells #[.int .i64 (b : Int), .int .u64 (F.length : Int)] 56)).heap.size (wr.alloc (.cells #[.int .i64 (b : Int), .int .u64 (F.length : Int)] 56)) w3 → Calls Tryd.prog 17 #[.pointer (some ⟨wr.heap.size, 0, none⟩), .slice s.a s.len s.cap] w3 fun e w' => ∃ v, e = .returned (.tuple #[v, .int .i64 0]) ∧ Own w' w3.heap.size v (flat (addc b F.length s.zs)) ∧ Wr w' wr.heap.size b (F.length + (flat (addc b F.length s.zs)).length) ∧ w3.grownBy w' (some wr.heap.size)) := fun w3 h3 =>
        add_ok wr.heap.size b F.length s.a s.len s.cap s.zs w3 (tab_later (tab_later (tab_later T B0) b2) h3) (W2.later h3) (bytes_kept (bytes_kept (bytes_kept hsm.1 B0) b2) h3) hb (by omega) hsm.2
      have O2 := hid (OO.out.later b2)
      have B2 := hid (HB.out.trans (b2.mono HB.out.size))
      clear b2 W2 cs B0 hT OO HB
      generalize flat (addc b F.length s.zs) = X at *
      go_wp2_with fail
      refine HN.out.mono ?_
      rintro e w2 ⟨rfl, rfl⟩
      go_wp2_with fail
      refine HCo.out.mono ?_
      rintro e w3 ⟨rfl, b3⟩
      have cs3 := HC.out w3 b3
      have HA3 := hid (HA.out w3 b3)
      have O3 := hid (O2.out.later b3)
      have B3 := hid (B2.out.trans (b3.mono B2.out.size))
      clear b3 HCo HC HN cs2 HA O2 B2
      go_wp2_with fail
      refine HA3.out.mono ?_
      rintro e w4 ⟨vb, rfl, OB, W4, g4⟩
      obtain ⟨ab, cb, hvb, _⟩ := OB.shape
      subst hvb
      have O4 := O3.out.kept g4 (fun e => by have := hsz.out.2 _ e.symm; omega)
      have B4 : Below w1.heap.size w1 w4 := B3.out.grown g4 B3.out.size (by intro j hj; cases hj; exact hsz.out.1)
      obtain ⟨v5, w5, r5, O5, g5⟩ := app_bytes w4 w1.heap.size _ F X ab X.length cb O4 (OB.bytes hab.out) (by omega) B4.size
      have B5 := hid (B4.trans (own_below O4 g5 B4.size))
      have O5 := hid O5
      have r5 := hid r5
      clear OB W4 g4 O4 B4 g5 HA3 O3 B3
      go_wp2_with (first | (at_builtin; refine wpList_append_run rfl _ _ _ _ rfl _ _ _ rfl rfl r5.out ?_))
      go_roundw
      case rel => exact ⟨k + 1, by omega, by go_num, by rw [hL.out]; exact O5.out, B5⟩
      case measure => simp [intOf]; omega
    · have hkl : k = P.length := by omega
      have hT : P.take k = P := List.take_of_length_le (by omega)
      rw [hT] at OO
      have c1 := own_conv OO.out
      have c2 := own_conv (OF.out.later HB.out)
      have B2 := hid (B1.out.trans (HB.out.mono B1.out.size))
      clear hT
      go_wp2_with fail
      go_ret
      exact ⟨rfl, B2.out⟩
end Go.Proofs.YtgkoopciajjonaaDoor.On

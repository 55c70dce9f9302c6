/- Ranges over a line: the first byte that may not be; where a quoted word ends; how many pieces. -/
import Derived.Test.YtcjlgjlediihoabDoorSp
import Derived.Test.YtcjlgjlediihoabDoorBy
import Derived.LoopTactic
import Derived.Lib.OthersKept
import Derived.Lib.Bytealg
namespace Go.Proofs.YtcjlgjlediihoabDoor.Sq
open Go.ChangeShapes Go.WideShapes Go.ChangeAt Go.RowKit
open Go.Proofs.YtcjlgjlediihoabDoor.Ut
open Go.Proofs.YtcjlgjlediihoabDoor.Sp
open Go.Proofs.YtcjlgjlediihoabDoor.By
set_option linter.unusedVariables false
set_option linter.unusedSimpArgs false

theorem hid {p : Prop} (h : p) : Hid p := h
theorem box_below (w : World) (o : Obj) : Below w.heap.size w (w.alloc o) := (Below.refl _ _).alloc (Nat.le_refl _) o
theorem iter_below (w : World) (s : ByteArray) (pos : Nat) : Below w.heap.size w (w.iter s pos) := box_below w _

set_option maxRecDepth 1000000 in
theorem forb_any (s : ByteArray) (w : World) :
    Calls Tryd.prog 20 #[.string s] w fun e w' => e = .returned (.int .i64 (fb forb s 0 : Nat)) ∧ Below w.heap.size w w' := by
  go_enter Tryd.func20, Tryd.ntmps20
  go_wp2
  go_loopw [2] (fun n w' => ∃ pos : Nat, w' = w.iter s pos ∧ n = .int .i64 0 ∧ pos ≤ s.size ∧ Hid (∀ j, j < pos → forb (bt s j) = false)) (fun _ w' => s.size - w'.iterPos w.heap.size)
  case atStart => exact ⟨0, rfl, rfl, by omega, fun j h => by omega⟩
  case round =>
    obtain ⟨pos, rfl, rfl, hps, hno⟩ := hrel
    by_cases hp : pos < s.size
    · have hnx : ∀ ty, (Instr.next (.pointer (some ⟨w.heap.size, 0, none⟩)) true ty).run Tryd.prog (w.iter s pos) = _ := fun ty => run_next_any w s pos ty hp
      have HW := hid (dec_wd s pos hp)
      have HL := hid (dec_lt s pos hp)
      have HN := hid (none_next forb s pos hp (fun n h => by simp [forb]; omega) hno.out)
      generalize hd : Utf8.decode s pos = d at hnx HW HL HN
      obtain ⟨r, wd⟩ := d
      have hd := hid hd
      by_cases hr1 : (r : Int) < 32
      · have hF : Hid (fb forb s 0 = pos) := fb_is forb s 0 pos (by omega) (by omega) (fun j _ h => hno.out j h) (fun _ => by
          have h := HL.out (show r < 128 by omega)
          have e : bt s pos = r := by have := h.2; simp at this; exact this.1.symm
          rw [e]; simp [forb]; omega)
        clear hp HW HL HN hd
        go_wp2
        go_ret
        exact ⟨by rw [hF.out]; rfl, iter_below w s _⟩
      · by_cases hr2 : (r : Int) = 127
        · have hF : Hid (fb forb s 0 = pos) := fb_is forb s 0 pos (by omega) (by omega) (fun j _ h => hno.out j h) (fun _ => by
            have h := HL.out (show r < 128 by omega)
            have e : bt s pos = r := by have := h.2; simp at this; exact this.1.symm
            rw [e]; simp [forb]; omega)
          clear hp HW HL HN hd
          go_wp2
          go_ret
          exact ⟨by rw [hF.out]; rfl, iter_below w s _⟩
        · have hN2 := hid (HN.out (by simp [forb]; omega))
          clear hp HL HN hd
          have hw := HW.out.1
          have hw' := HW.out.2.1
          clear HW
          go_wp2
          go_roundw
          case rel => exact ⟨pos + wd, rfl, rfl, hw', hN2.out⟩
          case measure =>
            simp only [World.iterPos_iter]
            omega
    · have hnx : ∀ ty, (Instr.next (.pointer (some ⟨w.heap.size, 0, none⟩)) true ty).run Tryd.prog (w.iter s pos) = _ := fun ty => run_next_end w s pos ty hp
      have hF : Hid (fb forb s 0 = s.size) := fb_is forb s 0 s.size (by omega) (by omega) (fun j _ h => hno.out j (by omega)) (fun h => by omega)
      go_wp2
      go_ret
      exact ⟨by rw [hF.out]; rfl, iter_below w s pos⟩

theorem qe_skip (s : ByteArray) : ∀ k f p, (∀ j, j < k → 128 ≤ bt s (p + j)) → p + k ≤ s.size → s.size ≤ p + f → ∃ f', s.size ≤ p + k + f' ∧ qe s f p false = qe s f' (p + k) false
  | 0, f, p, _, _, hf => ⟨f, hf, rfl⟩
  | k + 1, f, p, hb, hk, hf => by
    obtain ⟨g, rfl⟩ : ∃ g, f = g + 1 := ⟨f - 1, by omega⟩
    have h0 := hb 0 (by omega)
    rw [Nat.add_zero] at h0
    obtain ⟨f', h1, h2⟩ := qe_skip s k g (p + 1) (fun j hj => by have := hb (j + 1) (by omega); rw [← Nat.add_assoc] at this; rw [Nat.add_right_comm]; exact this) (by omega) (by omega)
    refine ⟨f', by omega, ?_⟩
    rw [qe, if_pos (by omega), if_neg (by simp), if_neg (by omega), if_neg (by omega), h2, Nat.add_assoc, Nat.add_comm 1 k]
/-- One piece on, in a quoted word. -/
theorem qe_next (s : ByteArray) (p f : Nat) (al : Bool) (hp : p < s.size) (hf : s.size ≤ p + f) (hn : al = true ∨ ((Utf8.decode s p).1 ≠ 92 ∧ (Utf8.decode s p).1 ≠ 34)) :
    ∃ f', s.size ≤ p + (Utf8.decode s p).2 + f' ∧ qe s f p al = qe s f' (p + (Utf8.decode s p).2) false := by
  obtain ⟨g, rfl⟩ : ∃ g, f = g + 1 := ⟨f - 1, by omega⟩
  have hstep : qe s (g + 1) p al = qe s g (p + 1) false ∨ al = false := by
    cases al
    · exact .inr rfl
    · refine .inl ?_
      rw [qe, if_pos hp, if_pos rfl]
  by_cases hb : bt s p < 128
  · have hd := dec_small s p hb
    rw [hd] at hn ⊢
    refine ⟨g, by show _ ≤ p + 1 + g; omega, ?_⟩
    rcases hstep with h | rfl
    · exact h
    · rcases hn with h | h
      · simp at h
      · rw [qe, if_pos hp, if_neg (by simp), if_neg h.1, if_neg h.2]
  · obtain ⟨h1, h2, h3, h4, h5⟩ := dec_big s p hp (by omega)
    generalize (Utf8.decode s p).2 = wd at *
    have hone : qe s (g + 1) p al = qe s g (p + 1) false := by
      rcases hstep with h | rfl
      · exact h
      · rw [qe, if_pos hp, if_neg (by simp), if_neg (by omega), if_neg (by omega)]
    obtain ⟨f', q1, q2⟩ := qe_skip s (wd - 1) g (p + 1) (fun j hj => by have := h5 (j + 1) (by omega); rw [Nat.add_comm j 1, ← Nat.add_assoc] at this; exact this) (by omega) (by omega)
    have e : p + 1 + (wd - 1) = p + wd := by omega
    rw [e] at q1 q2
    exact ⟨f', q1, by rw [hone, q2]⟩
theorem qe_esc (s : ByteArray) (p f : Nat) (hp : p < s.size) (hf : s.size ≤ p + f) (h : bt s p = 92) : ∃ f', s.size ≤ p + 1 + f' ∧ qe s f p false = qe s f' (p + 1) true := by
  obtain ⟨g, rfl⟩ : ∃ g, f = g + 1 := ⟨f - 1, by omega⟩
  exact ⟨g, by omega, by rw [qe, if_pos hp, if_neg (by simp), if_pos h]⟩
theorem qe_close (s : ByteArray) (p f : Nat) (hp : p < s.size) (hf : s.size ≤ p + f) (h : bt s p = 34) : qe s f p false = (p + 1, true) := by
  obtain ⟨g, rfl⟩ : ∃ g, f = g + 1 := ⟨f - 1, by omega⟩
  rw [qe, if_pos hp, if_neg (by simp), if_neg (by omega), if_pos h]
theorem qe_done (s : ByteArray) (p f : Nat) (al : Bool) (hp : p = s.size) : qe s f p al = (s.size, false) := by
  cases f with
  | zero => rw [qe, hp]
  | succ g => rw [qe, if_neg (by omega), hp]

set_option maxRecDepth 1000000 in
theorem quoted_any (s : ByteArray) (hs : s.size ≤ 281474976710656) (w : World) :
    Calls Tryd.prog 30 #[.string s] w fun e w' => e = .returned (.tuple #[.int .i64 ((qe s s.size 0 true).1 : Nat), .bool (qe s s.size 0 true).2]) ∧ Below w.heap.size w w' := by
  go_enter Tryd.func30, Tryd.ntmps30
  go_wp2
  go_loopw [2, 3, 4] (fun n c a w' => ∃ (pos f : Nat) (al : Bool), w' = w.iter s pos ∧ n = .int .i64 0 ∧ c = .bool false ∧ a = .bool al ∧ pos ≤ s.size ∧ s.size ≤ pos + f ∧ Hid (qe s s.size 0 true = qe s f pos al)) (fun _ _ _ w' => s.size - w'.iterPos w.heap.size)
  case atStart => exact ⟨0, s.size, true, rfl, rfl, rfl, rfl, by omega, by omega, rfl⟩
  case round =>
    obtain ⟨pos, f, al, rfl, rfl, rfl, rfl, hps, hf, hq⟩ := hrel
    by_cases hp : pos < s.size
    · have hnx : ∀ ty, (Instr.next (.pointer (some ⟨w.heap.size, 0, none⟩)) true ty).run Tryd.prog (w.iter s pos) = _ := fun ty => run_next_any w s pos ty hp
      have HW := hid (dec_wd s pos hp)
      have HL := hid (dec_lt s pos hp)
      have HN := hid (qe_next s pos f al hp hf)
      generalize hd : Utf8.decode s pos = d at hnx HW HL HN
      obtain ⟨r, wd⟩ := d
      have hd := hid hd
      have hw := HW.out.1
      have hw' := HW.out.2.1
      clear HW
      cases al with
      | true =>
        have hN := hid (HN.out (.inl rfl))
        clear HN HL hd
        go_wp2
        go_roundw
        case rel =>
          obtain ⟨f', a, b⟩ := hN.out
          exact ⟨pos + wd, f', false, rfl, rfl, rfl, rfl, hw', a, by rw [hq.out]; exact b⟩
        case measure =>
          simp only [World.iterPos_iter]
          omega
      | false =>
        by_cases h92 : (r : Int) = 92
        · have e : bt s pos = 92 ∧ wd = 1 := by
            have h := HL.out (show r < 128 by omega)
            have := h.2
            simp at this
            omega
          have hN := hid (qe_esc s pos f hp hf e.1)
          have hwd := e.2
          clear HN HL hd e
          go_wp2
          go_roundw
          case rel =>
            obtain ⟨f', a, b⟩ := hN.out
            exact ⟨pos + 1, f', true, rfl, rfl, rfl, rfl, by omega, a, by rw [hq.out]; exact b⟩
          case measure =>
            simp only [World.iterPos_iter]
            omega
        · by_cases h34 : (r : Int) = 34
          · have e : bt s pos = 34 ∧ wd = 1 := by
              have h := HL.out (show r < 128 by omega)
              have := h.2
              simp at this
              omega
            have hN := hid (qe_close s pos f hp hf e.1)
            clear HN HL hd e
            go_wp2
            go_ret2
            refine ⟨?_, iter_below w s _⟩
            rw [hq.out, hN.out]
            go_num
          · have hN := hid (HN.out (.inr ⟨by show r ≠ 92; omega, by show r ≠ 34; omega⟩))
            clear HN HL hd
            go_wp2
            go_roundw
            case rel =>
              obtain ⟨f', a, b⟩ := hN.out
              exact ⟨pos + wd, f', false, rfl, rfl, rfl, rfl, hw', a, by rw [hq.out]; exact b⟩
            case measure =>
              simp only [World.iterPos_iter]
              omega
    · have hnx : ∀ ty, (Instr.next (.pointer (some ⟨w.heap.size, 0, none⟩)) true ty).run Tryd.prog (w.iter s pos) = _ := fun ty => run_next_end w s pos ty hp
      have hN := hid (qe_done s pos f al (by omega))
      go_wp2
      go_ret2
      exact ⟨by rw [hq.out, hN.out]; rfl, iter_below w s pos⟩

end Go.Proofs.YtcjlgjlediihoabDoor.Sq

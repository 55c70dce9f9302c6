/- Name of log 12; works; Width. -/
import Derived.Test.YtcjlgjlediihoabDoorSk
import Derived.Test.YtcjlgjlediihoabDoorUq
import Derived.Test.YtcjlgjlediihoabDoorWi
import Derived.Lib.QuietBelow
namespace Go.Proofs.YtcjlgjlediihoabDoor.Rw
open Go.ChangeShapes Go.WideShapes Go.ChangeAt Go.RowKit
open Go.Proofs.YtcjlgjlediihoabDoor.Ut
open Go.Proofs.YtcjlgjlediihoabDoor.By
set_option linter.unusedVariables false
set_option linter.unusedSimpArgs false

def fmv : List Value := [.int .i64 1, .string ⟨#[]⟩, .string ⟨#[46, 108, 111, 103]⟩, .int .i64 2, .string ⟨#[]⟩, .string ⟨#[46, 116, 97, 98]⟩, .int .i64 3, .string ⟨#[77, 65, 78, 73, 70, 69, 83, 84, 45]⟩, .string ⟨#[]⟩, .int .i64 5, .string ⟨#[]⟩, .string ⟨#[46, 116, 109, 112]⟩]
/-- The forms of the names lie where they lie. -/
def Fm (w : World) : Prop := ∀ i v, fmv[i]? = some v → w.cell? ⟨0, i, none⟩ = some v
theorem Fm.later {w w' : World} (h : Fm w) (b : Below w.heap.size w w') : Fm w' := fun i v hv => cell_later b (h i v hv)
theorem cell_three (w : World) (a b c : Value) (t : TypeId) (i : Nat) (v : Value) (h : #[a, b, c][i]? = some v) : (w.alloc (.cells #[a, b, c] t)).cell? ⟨w.heap.size, i, none⟩ = some v := by
  have hb : (w.alloc (.cells #[a, b, c] t)).heap[w.heap.size]? = some (.cells #[a, b, c] t) := by
    show (w.heap.push _)[w.heap.size]? = _
    simp
  unfold World.cell?
  simp only [hb]
  first | exact h | simpa using h
theorem fma_0 (w : World) : Sem.run Tryd.prog (Instr.index 45 (.agg #[.int .i64 1, .string ⟨#[]⟩, .string ⟨#[46, 108, 111, 103]⟩, .int .i64 2, .string ⟨#[]⟩, .string ⟨#[46, 116, 97, 98]⟩, .int .i64 3, .string ⟨#[77, 65, 78, 73, 70, 69, 83, 84, 45]⟩, .string ⟨#[]⟩, .int .i64 5, .string ⟨#[]⟩, .string ⟨#[46, 116, 109, 112]⟩]) (.int .i64 0)) w = .ok (.agg #[.int .i64 1, .string ⟨#[]⟩, .string ⟨#[46, 108, 111, 103]⟩]) w := by kernel_rfl
set_option maxRecDepth 1000000 in
theorem digits12 (w : World) : Calls Tryd.prog 22 #[.int .i64 12] w fun e w' => e = .returned (.string ⟨#[48, 48, 48, 48, 49, 50]⟩) ∧ Below w.heap.size w w' := by
  have HI := hid (Sk.itoa_small 12 (by omega) w)
  have e1 : (⟨(Lib.decDigits 12).toArray⟩ : ByteArray) = ⟨#[49, 50]⟩ := by decide +kernel
  rw [e1] at HI
  have HR : Hid (Calls Tryd.prog 33 #[.string ⟨#[48]⟩, .int .i64 4] w fun e w' => e = .returned (.string ⟨#[48, 48, 48, 48]⟩) ∧ Below w.heap.size w w') := by
    have h := Sk.repeat_any ⟨#[48]⟩ 4 w (by omega) (by decide)
    have e2 : (⟨(Lib.repeatL (⟨#[48]⟩ : ByteArray).data.toList 4).toArray⟩ : ByteArray) = ⟨#[48, 48, 48, 48]⟩ := by decide +kernel
    rw [e2] at h
    exact h
  have hj : (⟨#[48, 48, 48, 48]⟩ : ByteArray) ++ ⟨#[49, 50]⟩ = ⟨#[48, 48, 48, 48, 49, 50]⟩ := by decide +kernel
  have hjh := hid hj
  clear hj e1
  go_enter Tryd.func22, Tryd.ntmps22
  go_wp2_with fail
  refine HI.out.mono ?_
  rintro e w ⟨rfl, rfl⟩
  clear HI
  go_wp2_with fail
  refine HR.out.mono ?_
  rintro e w1 ⟨rfl, b1⟩
  have b1h := hid b1
  clear HR b1
  go_wp2_with fail
  go_ret
  exact ⟨by rw [← hjh.out]; rfl, b1h.out⟩
set_option maxRecDepth 1000000 in
set_option maxHeartbeats 1000000 in
theorem name12 (w : World) (T : Hid (Fm w)) : Calls Tryd.prog 15 #[.int .i64 1, .int .i64 12] w fun e w' => e = .returned (.tuple #[.string ⟨#[48, 48, 48, 48, 49, 50, 46, 108, 111, 103]⟩, .int .i64 0]) ∧ Below w.heap.size w w' := by
  have c0 : w.cell? ⟨0, 0, none⟩ = some (.int .i64 1) := T.out 0 _ rfl
  have c1 : w.cell? ⟨0, 1, none⟩ = some (.string ⟨#[]⟩) := T.out 1 _ rfl
  have c2 : w.cell? ⟨0, 2, none⟩ = some (.string ⟨#[46, 108, 111, 103]⟩) := T.out 2 _ rfl
  have c3 : w.cell? ⟨0, 3, none⟩ = some (.int .i64 2) := T.out 3 _ rfl
  have c4 : w.cell? ⟨0, 4, none⟩ = some (.string ⟨#[]⟩) := T.out 4 _ rfl
  have c5 : w.cell? ⟨0, 5, none⟩ = some (.string ⟨#[46, 116, 97, 98]⟩) := T.out 5 _ rfl
  have c6 : w.cell? ⟨0, 6, none⟩ = some (.int .i64 3) := T.out 6 _ rfl
  have c7 : w.cell? ⟨0, 7, none⟩ = some (.string ⟨#[77, 65, 78, 73, 70, 69, 83, 84, 45]⟩) := T.out 7 _ rfl
  have c8 : w.cell? ⟨0, 8, none⟩ = some (.string ⟨#[]⟩) := T.out 8 _ rfl
  have c9 : w.cell? ⟨0, 9, none⟩ = some (.int .i64 5) := T.out 9 _ rfl
  have c10 : w.cell? ⟨0, 10, none⟩ = some (.string ⟨#[]⟩) := T.out 10 _ rfl
  have c11 : w.cell? ⟨0, 11, none⟩ = some (.string ⟨#[46, 116, 109, 112]⟩) := T.out 11 _ rfl
  clear T
  have hix := fma_0
  have hj : (⟨#[]⟩ : ByteArray) ++ ⟨#[48, 48, 48, 48, 49, 50]⟩ ++ ⟨#[46, 108, 111, 103]⟩ = ⟨#[48, 48, 48, 48, 49, 50, 46, 108, 111, 103]⟩ := by decide +kernel
  have hjh := hid hj
  clear hj
  go_enter Tryd.func15, Tryd.ntmps15
  go_wp2_with fail
  clear c0 c1 c2 c3 c4 c5 c6 c7 c8 c9 c10 c11
  go_loopw [21] (fun i wr => i = .int .i64 0 ∧ w = wr) (fun _ _ => 1)
  case atStart => exact ⟨rfl, rfl⟩
  case round =>
    obtain ⟨rfl, rfl⟩ := hrel
    have HD : Hid (∀ W, Calls Tryd.prog 22 #[.int .i64 12] W fun e w' => e = .returned (.string ⟨#[48, 48, 48, 48, 49, 50]⟩) ∧ Below W.heap.size W w') := fun W => digits12 W
    have b1 := box_below w (.cells #[.int .i64 1, .string ⟨#[]⟩, .string ⟨#[46, 108, 111, 103]⟩] 44)
    have p1 : (w.alloc (.cells #[.int .i64 1, .string ⟨#[]⟩, .string ⟨#[46, 108, 111, 103]⟩] 44)).cell? ⟨w.heap.size, 1, none⟩ = some (.string ⟨#[]⟩) := cell_three _ _ _ _ _ _ _ rfl
    have p2 : (w.alloc (.cells #[.int .i64 1, .string ⟨#[]⟩, .string ⟨#[46, 108, 111, 103]⟩] 44)).cell? ⟨w.heap.size, 2, none⟩ = some (.string ⟨#[46, 108, 111, 103]⟩) := cell_three _ _ _ _ _ _ _ rfl
    have d1 := fun d os => cell_regrown p1 d os
    have d2 := fun d os => cell_regrown p2 d os
    have s1 : ((⟨#[]⟩ : ByteArray) ++ ⟨#[48, 48, 48, 48, 49, 50]⟩).size = 6 := by decide +kernel
    go_wp2_with fail
    refine wp_region_quiet_below (by kernel_rfl) (by kernel_rfl) ?_
    repeat (first | go_big_quiet_step (first | (go_at_call 22; exact Calls.regrown_of (HD.out _))) | quiet_step (first | (go_at_call 22; exact Calls.regrown_of (HD.out _))))
    refine wpQuiet_nil ?_
    intro _ hw'
    obtain ⟨⟨dq, osq⟩, hw''⟩ := hw'
    subst hw''
    have bq := hid (b1.trans ((below_regrown _ dq osq).mono b1.size))
    clear b1 p1 p2 d1 d2 HD
    go_wp2_with fail
    go_ret2
    exact ⟨by rw [← hjh.out]; rfl, bq.out⟩
set_option maxRecDepth 1000000 in
theorem width_any (s : ByteArray) (hs : s.size ≤ 281474976710656) (w : World) :
    Calls Tryd.prog 14 #[.string s] w fun e w' => e = .returned (.int .i64 (Lib.runeCount s : Nat)) ∧ Below w.heap.size w w' := by
  go_enter Tryd.func14, Tryd.ntmps14
  go_wp2
  go_loopw [3] (fun n w' => ∃ (pos f k : Nat), w' = w.iter s pos ∧ n = .int .i64 (k : Int) ∧ pos ≤ s.size ∧ k ≤ pos ∧ s.size ≤ pos + f ∧ Hid (Lib.runeCount s = k + Lib.runeCountFrom s f pos)) (fun _ w' => s.size - w'.iterPos w.heap.size)
  case atStart => exact ⟨0, s.size, 0, rfl, rfl, by omega, by omega, by omega, by show _ = _; rw [Nat.zero_add]; rfl⟩
  case round =>
    obtain ⟨pos, f, k, rfl, rfl, hps, hk, hf, hq⟩ := hrel
    by_cases hp : pos < s.size
    · have hnx : ∀ ty, (Instr.next (.pointer (some ⟨w.heap.size, 0, none⟩)) true ty).run Tryd.prog (w.iter s pos) = _ := fun ty => run_next_any w s pos ty hp
      have HW := hid (dec_wd s pos hp)
      have HN : Hid (Lib.runeCountFrom s f pos = 1 + Lib.runeCountFrom s (f - 1) (pos + (Utf8.decode s pos).2)) := by
        show _ = _
        obtain ⟨g, rfl⟩ : ∃ g, f = g + 1 := ⟨f - 1, by omega⟩
        rw [Lib.runeCountFrom, if_pos hp]
        rfl
      generalize hd : Utf8.decode s pos = d at hnx HW HN
      obtain ⟨r, wd⟩ := d
      have hd := hid hd
      have hw := HW.out.1
      have hw' := HW.out.2.1
      clear HW hd
      go_wp2
      go_roundw
      case rel => exact ⟨pos + wd, f - 1, k + 1, rfl, by go_num, hw', by omega, by omega, by (have h2 : Lib.runeCountFrom s f pos = 1 + Lib.runeCountFrom s (f - 1) (pos + wd) := HN.out); show _ = _; rw [hq.out, h2]; omega⟩
      case measure =>
        simp only [World.iterPos_iter]
        omega
    · have hnx : ∀ ty, (Instr.next (.pointer (some ⟨w.heap.size, 0, none⟩)) true ty).run Tryd.prog (w.iter s pos) = _ := fun ty => run_next_end w s pos ty hp
      have hN := hid (Lib.runeCountFrom_end s f pos hp)
      go_wp2
      go_ret
      exact ⟨by rw [hq.out, hN.out]; rfl, iter_below w s pos⟩
def qab : ByteArray := ⟨#[34, 97, 92, 115, 98, 34]⟩
def tab : ByteArray := ⟨#[97, 32, 98]⟩
theorem unq_ab : unq qab = (tab, 0, 0) := by
  have hu : uw qab = (true, 6, [97, 32, 98]) := by decide +kernel
  have hq : str (qt (str [97, 32, 98])) = qab := by decide +kernel
  have ht : str [97, 32, 98] = tab := by decide +kernel
  unfold unq
  rw [hu, if_pos rfl, if_pos hq, ht]
theorem qt_ab : str (qt tab) = qab := by decide +kernel
set_option maxRecDepth 1000000 in
set_option maxHeartbeats 1000000 in
theorem works_any (w : World) (T : Hid (Lt w)) (F : Hid (Fm w)) : Calls Tryd.prog 6 #[] w fun e w' => e = .returned (.bool true) ∧ Below w.heap.size w w' := by
  have HN := hid (name12 w F)
  have HU : Hid (∀ W, Hid (Lt W) → Calls Tryd.prog 9 #[.string ⟨#[34, 97, 92, 115, 98, 34]⟩] W fun e w' => e = .returned (.tuple #[.string ⟨#[97, 32, 98]⟩, .int .i64 0, .int .i64 0]) ∧ Below W.heap.size W w') := fun W TW => by
    have h := unquote_any qab (by decide) W TW
    rw [unq_ab] at h
    exact h
  have HQ : Hid (∀ W, Hid (Lt W) → Calls Tryd.prog 7 #[.string ⟨#[97, 32, 98]⟩] W fun e w' => e = .returned (.string ⟨#[34, 97, 92, 115, 98, 34]⟩) ∧ Below W.heap.size W w') := fun W TW => by
    have h := quote_any tab (by decide) W TW
    rw [qt_ab] at h
    exact h
  go_enter Tryd.func6, Tryd.ntmps6
  go_wp2_with fail
  refine HN.out.mono ?_
  rintro e w1 ⟨rfl, b1⟩
  have b1h := hid b1
  clear HN b1
  go_wp2_with fail
  refine (HU.out _ (T.out.later b1h.out)).mono ?_
  rintro e w2 ⟨rfl, b2⟩
  have b2h := hid (b1h.out.trans (b2.mono b1h.out.size))
  clear HU b2 b1h
  go_wp2_with fail
  refine (HQ.out _ (T.out.later b2h.out)).mono ?_
  rintro e w3 ⟨rfl, b3⟩
  have b3h := hid (b2h.out.trans (b3.mono b2h.out.size))
  clear HQ b3 b2h
  go_wp2_with fail
  go_ret
  exact ⟨rfl, b3h.out⟩
end Go.Proofs.YtcjlgjlediihoabDoor.Rw
